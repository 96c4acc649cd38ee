/-
  AtZero: at of the laws: a byte of the code, or none.
  Code: The bytes that a law is handed, as the draws read them.
-/
import Derived.Test.YtjeokackmkfooaaGreatDoorPaz
import Derived.OpenShut
namespace Go.Proofs.YtjeokackmkfooaaGreatDoor
open Go.RowKit
set_option linter.unusedVariables false
namespace Draw

set_option maxRecDepth 100000 in
set_option maxHeartbeats 1000000 in
theorem at_zero (B cap : Nat) (a : Option Addr) (l : List Int) (w : World) (hcode : CodeAt B w a l) (hl : l.length ≤ 1048576) :
    Calls Tryz.prog 11 #[.slice a l.length cap, .int .i64 0] w fun e w' => ∃ z : Int, e = .returned (.int .i64 z) ∧ 0 ≤ z ∧ z ≤ 255 ∧ w = w' := by
  by_cases h0 : (0 : Int) < (l.length : Int)
  · rcases hcode.2 with hn | ⟨b, off, rfl, hbB, hc⟩
    · rw [hn] at h0; simp at h0
    · have hz := hcode.1 0 (by omega)
      have hck := hc 0 (by omega)
      rw [Nat.add_zero] at hck
      generalize l[0]'(by omega) = z at hz hck
      have HC := Num.hide hcode
      clear hcode hc HC
      go_enter Tryz.func11, Tryz.ntmps11
      go_wp2
      go_ret
      exact ⟨z, rfl, hz.1, hz.2, rfl⟩
  · have d0 : decide ((0 : Int) < (l.length : Int)) = false := by rw [decide_eq_false_iff_not]; exact h0
    clear hcode
    go_enter Tryz.func11, Tryz.ntmps11
    go_wp2
    go_ret
    exact ⟨_, rfl, by omega, by omega, rfl⟩
end Draw
end Go.Proofs.YtjeokackmkfooaaGreatDoor
namespace Go.Proofs.YtjeokackmkfooaaGreatDoor
open Go.RowKit
set_option linter.unusedVariables false
namespace Draw

theorem CodeAt.mono {B B' : Nat} {w : World} {a : Option Addr} {l : List Int} (h : CodeAt B w a l) (hB : B ≤ B') : CodeAt B' w a l := by
  refine ⟨h.1, ?_⟩
  rcases h.2 with h | ⟨b, off, ha, hb, hc⟩
  · exact .inl h
  · exact .inr ⟨b, off, ha, by omega, hc⟩
theorem lt_of_cell {w : World} {a : Addr} {v : Value} (h : w.cell? a = some v) : a.block < w.heap.size := by
  apply Decidable.byContradiction
  intro hc
  have hn : w.heap[a.block]? = none := Array.getElem?_eq_none (by omega)
  simp [World.cell?, hn] at h
theorem code_of (w : World) (x : Addr) (len : Nat) (zs : List Int) (hl : len ≤ zs.length) (hcell : ∀ i, i < zs.length → w.cell? (x.add i) = some (.int .u8 (zs.getD i 0))) (hwz : ∀ n ∈ zs, (Lit.int .u8 n).wf = true) :
    (zs.take len).length = len ∧ CodeAt w.heap.size w (some x) (zs.take len) := by
  have hlen : (zs.take len).length = len := by rw [List.length_take]; omega
  refine ⟨hlen, ?_, ?_⟩
  · intro i hi
    have hm : (zs.take len)[i] ∈ zs := List.mem_of_mem_take (List.getElem_mem hi)
    have := bounds_u8 (hwz _ hm)
    omega
  · by_cases h0 : len = 0
    · left; subst h0; rfl
    · right
      obtain ⟨b, off, spot⟩ := x
      have hc := hcell 0 (by omega)
      have hspot : spot = none := by simpa [Addr.add] using World.cell?_spot hc
      subst hspot
      have hadd : ∀ i, (⟨b, off, none⟩ : Addr).add i = ⟨b, off + i, none⟩ := fun i => by unfold Addr.add; split <;> simp_all
      refine ⟨b, off, rfl, ?_, ?_⟩
      · have := lt_of_cell hc
        rw [hadd] at this
        exact this
      · intro i hi
        have h2 := hcell i (by omega)
        rw [hadd] at h2
        rw [h2, List.getElem_take, List.getD_eq_getElem?_getD, List.getElem?_eq_getElem (by omega)]
        rfl
set_option maxHeartbeats 400000 in
theorem big_any (a : Option Addr) (n cap : Nat) (w : World) (h : n ≤ 9223372036854775807) : Calls Tryz.prog 6 #[.slice a n cap] w fun e w' => e = .returned (.bool (decide (1048576 < (n : Int)))) ∧ w = w' := by
  go_enter Tryz.func6, Tryz.ntmps6
  go_wp2
  go_ret
  exact ⟨by simp, rfl⟩
end Draw
end Go.Proofs.YtjeokackmkfooaaGreatDoor
