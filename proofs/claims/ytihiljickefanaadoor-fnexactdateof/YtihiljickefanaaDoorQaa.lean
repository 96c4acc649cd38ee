/-
  FldSz: szField and szFieldS of the laws: how large a list of fields is.
-/
import Derived.Test.YtihiljickefanaaDoorFlds
namespace Go.Proofs.YtihiljickefanaaDoor
open Go.RowKit
set_option linter.unusedVariables false
namespace Flds

theorem ret_int {k : IntKind} {a b : Int} (h : a = b) : Ending.returned (.int k a) = .returned (.int k b) := by rw [h]
set_option maxRecDepth 100000 in
set_option maxHeartbeats 1000000 in
theorem szField_any (f : Fld) (n : Int) (w : World) (h0 : 0 ≤ n) (h1 : n ≤ 1048576) (hf : f.1.size ≤ 9223372036854775807 ∧ f.2.size ≤ 9223372036854775807) :
    Calls Tryd.prog 18 #[.agg #[.string f.1, .string f.2], .int .i64 n] w fun e w' => e = .returned (.int .i64 (left n (f.1.size + f.2.size))) ∧ Below w.heap.size w w' := by
  obtain ⟨x, y⟩ := f
  simp only at hf ⊢
  obtain ⟨r, hr⟩ : ∃ r, left n (x.size + y.size) = r := ⟨_, rfl⟩
  rw [hr]
  unfold left at hr
  by_cases hx : n - x.size < 0
  · rw [if_pos (by omega)] at hr
    subst hr
    go_enter Tryd.func18, Tryd.ntmps18
    go_wp2
    go_ret
    exact ⟨rfl, (Below.refl _ _).alloc (Nat.le_refl _) _⟩
  · by_cases hy : n - x.size - y.size < 0
    · rw [if_pos (by omega)] at hr
      subst hr
      go_enter Tryd.func18, Tryd.ntmps18
      go_wp2
      go_ret
      exact ⟨rfl, (Below.refl _ _).alloc (Nat.le_refl _) _⟩
    · rw [if_neg (by omega)] at hr
      have HR := Num.hide hr
      clear hr
      go_enter Tryd.func18, Tryd.ntmps18
      go_wp2
      go_ret
      exact ⟨ret_int (by rw [← HR.out]; omega), (Below.refl _ _).alloc (Nat.le_refl _) _⟩

set_option maxRecDepth 100000 in
set_option maxHeartbeats 1000000 in
theorem szFieldS_any (v : Value) (l : List Fld) (n : Int) (w : World) (h : Is w v l) (hz : ∀ f ∈ l, f.1.size ≤ maxLen ∧ f.2.size ≤ maxLen) (h0 : 0 ≤ n) (h1 : n ≤ 1048576) :
    Calls Tryd.prog 6 #[v, .int .i64 n] w fun e w' => e = .returned (.int .i64 (left n (bulk l))) ∧ Below w.heap.size w w' := by
  obtain ⟨a, c, rfl, h2⟩ := is_form h
  have HA := Num.hide h2
  have HZ := Num.hide hz
  have hlen : l.length ≤ 9223372036854775807 := by
    by_cases h0 : 0 < l.length
    · obtain ⟨b, o, _, h3, h4, _⟩ := h2 h0
      unfold maxLen at h4; omega
    · omega
  clear h h2 hz
  obtain ⟨r, hr⟩ : ∃ r, left n (bulk l) = r := ⟨_, rfl⟩
  rw [hr]
  have HR := Num.hide hr
  clear hr
  by_cases hneg : n - l.length < 0
  · have hr : r = -1 := by
      rw [← HR.out]; unfold left bulk; rw [if_pos (by omega)]
    subst hr
    go_enter Tryd.func6, Tryd.ntmps6
    go_wp2
    go_ret
    exact ⟨rfl, Below.refl _ _⟩
  · go_enter Tryd.func6, Tryd.ntmps6
    go_wp2
    go_loopw [1, 5] (fun nv iv wr => ∃ i : Nat, i ≤ l.length ∧ iv = .int .i64 (i : Int) ∧ (∃ m : Int, nv = .int .i64 m ∧ 0 ≤ m ∧ m ≤ 1048576 ∧ Hid (m = n - l.length - (((l.take i).map fun f => f.1.size + f.2.size).sum : Nat))) ∧ Hid (Below w.heap.size w wr)) (fun _ iv _ => l.length - (intOf iv).toNat)
    case atStart => exact ⟨0, by omega, rfl, ⟨_, rfl, by omega, by omega, by simp [Hid]⟩, Below.refl _ _⟩
    case round =>
      obtain ⟨i, hi, rfl, ⟨m, rfl, hm0, hm1, HM⟩, HB⟩ := hrel
      by_cases hlt : i < l.length
      · obtain ⟨b, o, rfl, hc, hmx, hblt, hcell⟩ := Num.unhide HA (by omega)
        obtain ⟨hc1, hc2⟩ := hcell i hlt
        have hz := Num.unhide HZ l[i] (List.getElem_mem hlt)
        have c1 : wr.cell? ⟨b, o + i * 2, none⟩ = some (.string l[i].1) := by rw [HB.out.cell (p := ⟨b, o + i * 2, none⟩) hblt]; exact hc1
        have c2 : wr.cell? ⟨b, o + i * 2 + 1, none⟩ = some (.string l[i].2) := by rw [HB.out.cell (p := ⟨b, o + i * 2 + 1, none⟩) hblt]; exact hc2
        have HT := Num.hide (bulk_take l i hlt)
        have HL := Num.hide (bulk_le l (i + 1))
        clear hcell hc1 hc2
        generalize l[i] = f at c1 c2 hz HT
        obtain ⟨x, y⟩ := f
        simp only at c1 c2 hz
        unfold maxLen at hz
        have hsum : Hid (((l.take (i + 1)).map fun f => f.1.size + f.2.size).sum = ((l.take i).map fun f => f.1.size + f.2.size).sum + (x.size + y.size)) := HT.out
        by_cases hn : m - (x.size + y.size : Nat) < 0
        · have hl : left m (x.size + y.size) = -1 := by unfold left; rw [if_pos hn]
          have hr : r = -1 := by
            have e1 := HM.out; have e2 := HL.out; have e3 := hsum.out
            rw [← HR.out]; unfold left bulk; rw [if_pos (by omega)]
          subst hr
          have HL2 := Num.hide hl
          clear hl
          go_wp2_with fail
          refine (szField_any (x, y) m _ hm0 hm1 hz).mono ?_
          rintro e w1 ⟨rfl, hb1⟩
          rw [show left m (((x, y) : Fld).1.size + ((x, y) : Fld).2.size) = -1 from HL2.out]
          go_wp2
          go_ret
          exact ⟨rfl, HB.out.trans (hb1.mono HB.out.size)⟩
        · have hl : left m (x.size + y.size) = m - (x.size + y.size : Nat) := by unfold left; rw [if_neg hn]
          have HL2 := Num.hide hl
          have hmm : Hid (m - (x.size + y.size : Nat) = n - l.length - (((l.take (i + 1)).map fun f => f.1.size + f.2.size).sum : Nat)) := by
            have e1 := HM.out; have e3 := hsum.out
            show _ = _
            omega
          clear hl
          go_wp2_with fail
          refine (szField_any (x, y) m _ hm0 hm1 hz).mono ?_
          rintro e w1 ⟨rfl, hb1⟩
          rw [show left m (((x, y) : Fld).1.size + ((x, y) : Fld).2.size) = m - (x.size + y.size : Nat) from HL2.out]
          have HB1 := Num.hide (HB.out.trans (hb1.mono HB.out.size))
          clear hb1
          go_wp2
          go_roundw
          case rel => exact ⟨i + 1, by omega, by go_num, ⟨_, rfl, by omega, by omega, hmm⟩, HB1⟩
          case measure => simp [intOf]; omega
      · obtain rfl : i = l.length := by omega
        have hr : r = m := by
          have e1 := HM.out
          rw [List.take_of_length_le (Nat.le_refl _)] at e1
          rw [← HR.out]; unfold left bulk; rw [if_neg (by omega)]; omega
        subst hr
        go_wp2
        go_ret
        exact ⟨rfl, HB.out⟩
end Flds
end Go.Proofs.YtihiljickefanaaDoor
