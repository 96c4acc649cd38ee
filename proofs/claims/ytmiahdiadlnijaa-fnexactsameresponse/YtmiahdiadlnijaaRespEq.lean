/-
  eqResponse of the laws: responses held against each other.
-/
import Derived.Test.YtmiahdiadlnijaaRespVal
import Derived.Test.YtmiahdiadlnijaaFldEq
import Derived.Test.YtmiahdiadlnijaaPairs
namespace Go.Proofs.Ytmiahdiadlnijaa
open Go.RowKit
set_option linter.unusedVariables false
namespace Resp

set_option maxRecDepth 100000 in
set_option maxHeartbeats 2000000 in
theorem eq_any (s1 s2 : Int) (v1 v2 : Value) (l1 l2 : List Flds.Fld) (b1 b2 : ByteArray) (w : World) (h1 : Flds.Is w v1 l1) (h2 : Flds.Is w v2 l2) (hl : l1.length ≤ 1099511627776) :
    Calls Try.prog 12 #[val s1 v1 b1, val s2 v2 b2] w fun e w' => e = .returned (.bool (decide (s1 = s2 ∧ l1 = l2 ∧ b1 = b2))) ∧ Below w.heap.size w w' := by
  unfold val
  obtain ⟨r, hr⟩ : ∃ r, decide (s1 = s2 ∧ l1 = l2 ∧ b1 = b2) = r := ⟨_, rfl⟩
  rw [hr]
  obtain ⟨a1, c1, rfl, _⟩ := Flds.is_form h1
  obtain ⟨a2, c2, rfl, _⟩ := Flds.is_form h2
  have hb0 := ((Below.refl w.heap.size w).alloc (Nat.le_refl _) (.cells #[.int .i64 s1, .slice a1 l1.length c1, .string b1] 30)).alloc (by simp) (.cells #[.int .i64 s2, .slice a2 l2.length c2, .string b2] 30)
  have HB0 := Num.hide hb0
  have HE := Num.hide (Flds.eq_any _ _ l1 l2 _ (Recs.is_stay h1 (Nat.le_refl _) hb0) (Recs.is_stay h2 (Nat.le_refl _) hb0) hl)
  clear h1 h2 hb0
  by_cases hs : s1 = s2
  · have ds : (s1 != s2) = false := by rw [bne_eq_false_iff_eq]; exact hs
    by_cases hll : l1 = l2
    · rw [decide_eq_true hll] at HE
      by_cases hbb : b1 = b2
      · obtain rfl : r = true := by rw [← hr]; exact decide_eq_true ⟨hs, hll, hbb⟩
        subst hbb
        clear hr hs hll
        go_enter Try.func12, Try.ntmps12
        go_wp2_with fail
        refine HE.out.mono ?_
        rintro e w1 ⟨rfl, hb1⟩
        have k1 := (hb1.cell (p := ⟨w.heap.size, 2, none⟩) (by show w.heap.size < _; rw [World.size_alloc, World.size_alloc]; omega)).trans (box_one w _ _ _ _ 2)
        have k2 := (hb1.cell (p := ⟨w.heap.size + 1, 2, none⟩) (by show w.heap.size + 1 < _; rw [World.size_alloc, World.size_alloc]; omega)).trans (box_two w _ _ _ _ 2)
        have HB1 := Num.hide (HB0.out.trans (hb1.mono HB0.out.size))
        clear hb1 HB0 HE
        simp only [List.getElem?_toArray, List.getElem?_cons_succ, List.getElem?_cons_zero] at k1 k2
        go_wp2
        go_ret
        exact ⟨rfl, HB1.out⟩
      · obtain rfl : r = false := by rw [← hr]; exact decide_eq_false (fun h => hbb h.2.2)
        have db : (b1.toList == b2.toList) = false := Flds.text_ne hbb
        have db2 : (b1.toList != b2.toList) = true := by rw [bne, db]; rfl
        clear hr hs hll hbb
        go_enter Try.func12, Try.ntmps12
        go_wp2_with fail
        refine HE.out.mono ?_
        rintro e w1 ⟨rfl, hb1⟩
        have k1 := (hb1.cell (p := ⟨w.heap.size, 2, none⟩) (by show w.heap.size < _; rw [World.size_alloc, World.size_alloc]; omega)).trans (box_one w _ _ _ _ 2)
        have k2 := (hb1.cell (p := ⟨w.heap.size + 1, 2, none⟩) (by show w.heap.size + 1 < _; rw [World.size_alloc, World.size_alloc]; omega)).trans (box_two w _ _ _ _ 2)
        have HB1 := Num.hide (HB0.out.trans (hb1.mono HB0.out.size))
        clear hb1 HB0 HE
        simp only [List.getElem?_toArray, List.getElem?_cons_succ, List.getElem?_cons_zero] at k1 k2
        go_wp2
        go_ret
        exact ⟨rfl, HB1.out⟩
    · rw [decide_eq_false hll] at HE
      obtain rfl : r = false := by rw [← hr]; exact decide_eq_false (fun h => hll h.2.1)
      clear hr hs hll
      go_enter Try.func12, Try.ntmps12
      go_wp2_with fail
      refine HE.out.mono ?_
      rintro e w1 ⟨rfl, hb1⟩
      have HB1 := Num.hide (HB0.out.trans (hb1.mono HB0.out.size))
      clear hb1 HB0 HE
      go_wp2
      go_ret
      exact ⟨rfl, HB1.out⟩
  · have ds : (s1 != s2) = true := by rw [bne_iff_ne]; exact hs
    obtain rfl : r = false := by rw [← hr]; exact decide_eq_false (fun h => hs h.1)
    clear hr hs HE
    go_enter Try.func12, Try.ntmps12
    go_wp2
    go_ret
    exact ⟨rfl, HB0.out⟩
end Resp
end Go.Proofs.Ytmiahdiadlnijaa
