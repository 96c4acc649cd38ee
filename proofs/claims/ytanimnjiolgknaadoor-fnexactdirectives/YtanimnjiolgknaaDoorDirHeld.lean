/-
  heldDirectiveS of the laws: a marked list of directives held against its marks.
-/
import Derived.Test.YtanimnjiolgknaaDoorDirLaw
namespace Go.Proofs.YtanimnjiolgknaaDoor
open Go.RowKit
set_option linter.unusedVariables false
namespace Dirs
open Flds (Fld cells cells_len Is is_form marks length_marks marks_succ marks_at set_marks)

set_option maxRecDepth 100000 in
set_option maxHeartbeats 2000000 in
theorem held_any (v : Value) (n : Nat) (k : Int) (w : World) (h : Is w v (marks k n)) (hl : n ≤ 1099511627776) (h0 : 0 ≤ k) (h1 : k ≤ 1099511627776) :
    Calls Tryd.prog 22 #[v, .int .i64 k] w fun e w' => e = .returned (.int .i64 (k + 2 * n)) ∧ Below w.heap.size w w' := by
  obtain ⟨a, c, rfl, h2⟩ := is_form h
  have h3 : 0 < n → ∃ b o, a = some ⟨b, o, none⟩ ∧ n ≤ c ∧ c ≤ maxLen ∧ b < w.heap.size ∧ ∀ i, i < n → w.cell? ⟨b, o + i * 2, none⟩ = some (.string (Mark.text (k + 2 * (i : Int)))) ∧ w.cell? ⟨b, o + i * 2 + 1, none⟩ = some (.string (Mark.text (k + 2 * (i : Int) + 1))) := by
    intro hn
    obtain ⟨b, o, h4, h5, h6, h7, h8⟩ := h2 (by rw [length_marks]; exact hn)
    refine ⟨b, o, h4, by rw [length_marks] at h5; exact h5, h6, h7, fun i hi => ?_⟩
    have := h8 i (by rw [length_marks]; exact hi)
    rw [marks_at k n i hi] at this
    exact this
  rw [length_marks]
  have HA := Num.hide h3
  clear h h2 h3
  go_enter Tryd.func22, Tryd.ntmps22
  go_wp2
  go_loopw [1, 5] (fun kv iv wr => ∃ i : Nat, i ≤ n ∧ kv = .int .i64 (k + 2 * i) ∧ iv = .int .i64 (i : Int) ∧ Hid (Below w.heap.size w wr)) (fun _ iv _ => n - (intOf iv).toNat)
  case atStart => exact ⟨0, by omega, by simp, rfl, Below.refl _ _⟩
  case round =>
    obtain ⟨i, hi, rfl, rfl, HB⟩ := hrel
    by_cases hlt : i < n
    · obtain ⟨b, o, rfl, hc, hm, hblt, hcell⟩ := Num.unhide HA (by omega)
      obtain ⟨g1, g2⟩ := hcell i hlt
      have c1 : wr.cell? ⟨b, o + i * 2, none⟩ = some (.string (Mark.text (k + 2 * (i : Int)))) := by rw [HB.out.cell (p := ⟨b, o + i * 2, none⟩) hblt]; exact g1
      have c2 : wr.cell? ⟨b, o + i * 2 + 1, none⟩ = some (.string (Mark.text (k + 2 * (i : Int) + 1))) := by rw [HB.out.cell (p := ⟨b, o + i * 2 + 1, none⟩) hblt]; exact g2
      have HM1 := Num.hide (fun W => Mark.markText_any (k + 2 * (i : Int)) W (by omega))
      have HM2 := Num.hide (fun W => Mark.markText_any (k + 2 * (i : Int) + 1) W (by omega))
      have hsz := HB.out.size
      generalize Mark.text (k + 2 * (i : Int)) = t1 at c1 HM1
      generalize Mark.text (k + 2 * (i : Int) + 1) = t2 at c2 HM2
      clear hcell g1 g2
      go_wp2
      go_region_with (go_at_call 42; refine (Num.unhide HM1 _).mono ?_; rintro e w2 ⟨rfl, hb2⟩; have d1 := (hb2.cell (p := ⟨b, o + i * 2, none⟩) (by simp; omega)).trans c1; have d2 := (hb2.cell (p := ⟨b, o + i * 2 + 1, none⟩) (by simp; omega)).trans c2)
      all_goals
        have HB2 := Num.hide (HB.out.drew.trans (hb2.mono hsz))
        have hsz2 := HB2.out.size
        clear hb2 d1 c1 c2
        go_wp2
        go_region_with (go_at_call 42; refine (Num.unhide HM2 _).mono ?_; rintro e w3 ⟨rfl, hb3⟩; have d3 := (hb3.cell (p := ⟨b, o + i * 2 + 1, none⟩) (by simp; omega)).trans d2)
        all_goals
          have HB3 := Num.hide (HB2.out.drew.trans (hb3.mono hsz2))
          clear hb3 d2 d3
          go_wp2
          go_roundw
          case rel => exact ⟨i + 1, by omega, by go_num, by go_num, HB3⟩
          case measure => simp [intOf]; omega
    · obtain rfl : i = n := by omega
      go_wp2
      go_ret
      exact ⟨rfl, HB.out⟩
end Dirs
end Go.Proofs.YtanimnjiolgknaaDoor
