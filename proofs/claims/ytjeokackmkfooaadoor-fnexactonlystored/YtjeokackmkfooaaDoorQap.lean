/-
  ReqEq: eqRequest of the laws: requests held against each other.
-/
import Derived.Test.YtjeokackmkfooaaDoorQan
import Derived.Test.YtjeokackmkfooaaDoorFldEq
import Derived.Test.YtjeokackmkfooaaDoorQao
namespace Go.Proofs.YtjeokackmkfooaaDoor
open Go.RowKit
set_option linter.unusedVariables false
namespace Req

set_option maxRecDepth 100000 in
set_option maxHeartbeats 2000000 in
theorem eq_any (m1 m2 u1 u2 : ByteArray) (v1 v2 : Value) (l1 l2 : List Flds.Fld) (b1 b2 : ByteArray) (w : World) (h1 : Flds.Is w v1 l1) (h2 : Flds.Is w v2 l2) (hl : l1.length ≤ 1099511627776) :
    Calls Tryd.prog 8 #[val m1 u1 v1 b1, val m2 u2 v2 b2] w fun e w' => e = .returned (.bool (decide (m1 = m2 ∧ u1 = u2 ∧ l1 = l2 ∧ b1 = b2))) ∧ Below w.heap.size w w' := by
  unfold val
  obtain ⟨r, hr⟩ : ∃ r, decide (m1 = m2 ∧ u1 = u2 ∧ l1 = l2 ∧ b1 = b2) = r := ⟨_, rfl⟩
  rw [hr]
  obtain ⟨a1, c1, rfl, _⟩ := Flds.is_form h1
  obtain ⟨a2, c2, rfl, _⟩ := Flds.is_form h2
  have hb0 := ((Below.refl w.heap.size w).alloc (Nat.le_refl _) (.cells #[.string m1, .string u1, .slice a1 l1.length c1, .string b1] 29)).alloc (by simp) (.cells #[.string m2, .string u2, .slice a2 l2.length c2, .string b2] 29)
  have HB0 := Num.hide hb0
  have HE := Num.hide (Flds.eq_any _ _ l1 l2 _ (Recs.is_stay h1 (Nat.le_refl _) hb0) (Recs.is_stay h2 (Nat.le_refl _) hb0) hl)
  clear h1 h2 hb0
  by_cases hm : m1 = m2
  · subst hm
    by_cases hu : u1 = u2
    · subst hu
      by_cases hll : l1 = l2
      · rw [decide_eq_true hll] at HE
        by_cases hbb : b1 = b2
        · obtain rfl : r = true := by rw [← hr]; exact decide_eq_true ⟨rfl, rfl, hll, hbb⟩
          subst hbb
          clear hr hll
          go_enter Tryd.func8, Tryd.ntmps8
          go_wp2_with fail
          refine HE.out.mono ?_
          rintro e w1 ⟨rfl, hb1⟩
          have k1 := (hb1.cell (p := ⟨w.heap.size, 3, none⟩) (by show w.heap.size < _; rw [World.size_alloc, World.size_alloc]; omega)).trans (Resp.box_one w _ _ _ _ 3)
          have k2 := (hb1.cell (p := ⟨w.heap.size + 1, 3, none⟩) (by show w.heap.size + 1 < _; rw [World.size_alloc, World.size_alloc]; omega)).trans (Resp.box_two w _ _ _ _ 3)
          have HB1 := Num.hide (HB0.out.trans (hb1.mono HB0.out.size))
          clear hb1 HB0 HE
          simp only [List.getElem?_toArray, List.getElem?_cons_succ, List.getElem?_cons_zero] at k1 k2
          go_wp2
          go_ret
          exact ⟨rfl, HB1.out⟩
        · obtain rfl : r = false := by rw [← hr]; exact decide_eq_false (fun h => hbb h.2.2.2)
          have db : (b1.toList == b2.toList) = false := Flds.text_ne hbb
          have db2 : (b1.toList != b2.toList) = true := by rw [bne, db]; rfl
          clear hr hll hbb
          go_enter Tryd.func8, Tryd.ntmps8
          go_wp2_with fail
          refine HE.out.mono ?_
          rintro e w1 ⟨rfl, hb1⟩
          have k1 := (hb1.cell (p := ⟨w.heap.size, 3, none⟩) (by show w.heap.size < _; rw [World.size_alloc, World.size_alloc]; omega)).trans (Resp.box_one w _ _ _ _ 3)
          have k2 := (hb1.cell (p := ⟨w.heap.size + 1, 3, none⟩) (by show w.heap.size + 1 < _; rw [World.size_alloc, World.size_alloc]; omega)).trans (Resp.box_two w _ _ _ _ 3)
          have HB1 := Num.hide (HB0.out.trans (hb1.mono HB0.out.size))
          clear hb1 HB0 HE
          simp only [List.getElem?_toArray, List.getElem?_cons_succ, List.getElem?_cons_zero] at k1 k2
          go_wp2
          go_ret
          exact ⟨rfl, HB1.out⟩
      · rw [decide_eq_false hll] at HE
        obtain rfl : r = false := by rw [← hr]; exact decide_eq_false (fun h => hll h.2.2.1)
        clear hr hll
        go_enter Tryd.func8, Tryd.ntmps8
        go_wp2_with fail
        refine HE.out.mono ?_
        rintro e w1 ⟨rfl, hb1⟩
        have HB1 := Num.hide (HB0.out.trans (hb1.mono HB0.out.size))
        clear hb1 HB0 HE
        go_wp2
        go_ret
        exact ⟨rfl, HB1.out⟩
    · obtain rfl : r = false := by rw [← hr]; exact decide_eq_false (fun h => hu h.2.1)
      have db : (u1.toList == u2.toList) = false := Flds.text_ne hu
      have db2 : (u1.toList != u2.toList) = true := by rw [bne, db]; rfl
      clear hr hu HE
      go_enter Tryd.func8, Tryd.ntmps8
      go_wp2
      go_ret
      exact ⟨rfl, HB0.out⟩
  · obtain rfl : r = false := by rw [← hr]; exact decide_eq_false (fun h => hm h.1)
    have db : (m1.toList == m2.toList) = false := Flds.text_ne hm
    have db2 : (m1.toList != m2.toList) = true := by rw [bne, db]; rfl
    clear hr hm HE
    go_enter Tryd.func8, Tryd.ntmps8
    go_wp2
    go_ret
    exact ⟨rfl, HB0.out⟩
end Req
end Go.Proofs.YtjeokackmkfooaaDoor
