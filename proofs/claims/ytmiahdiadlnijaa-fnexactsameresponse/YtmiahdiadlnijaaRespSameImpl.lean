/-
  SameResponse of the program: are two answers the same?
-/
import Derived.Test.YtmiahdiadlnijaaRespSameSpec
import Derived.Test.YtmiahdiadlnijaaFldSameImpl
namespace Go.Proofs.Ytmiahdiadlnijaa
open Go.RowKit
set_option linter.unusedVariables false
namespace Msg

theorem two_boxes (w : World) (p q : Array Value) (T U : TypeId) {W : World} (hb : Below ((w.alloc (.cells p T)).alloc (.cells q U)).heap.size ((w.alloc (.cells p T)).alloc (.cells q U)) W) (i : Nat) :
    W.cell? ⟨w.heap.size, i, none⟩ = p[i]? ∧ W.cell? ⟨w.heap.size + 1, i, none⟩ = q[i]? := by
  have e1 : (w.alloc (.cells p T)).heap.size = w.heap.size + 1 := by rw [World.size_alloc]
  have e2 : ((w.alloc (.cells p T)).alloc (.cells q U)).heap.size = w.heap.size + 1 + 1 := by rw [World.size_alloc, World.size_alloc]
  have r1 : W.heap[w.heap.size]? = some (.cells p T (0, 0)) := by rw [hb.block _ (by omega), heap_alloc_old _ _ (by omega), heap_alloc_new]
  have r2 : W.heap[w.heap.size + 1]? = some (.cells q U (0, 0)) := by rw [hb.block _ (by omega), ← e1, heap_alloc_new]
  exact ⟨Recs.box_cell r1 i, Recs.box_cell r2 i⟩
set_option maxRecDepth 100000 in
set_option maxHeartbeats 2000000 in
theorem sameResp_impl (s1 s2 : Int) (v1 v2 : Value) (l1 l2 : List Flds.Fld) (b1 b2 : ByteArray) (w : World) (h1 : Flds.Is w v1 l1) (h2 : Flds.Is w v2 l2) (hl : l1.length ≤ 1099511627776) :
    Calls Try.prog 11 #[Resp.val s1 v1 b1, Resp.val s2 v2 b2] w fun e w' => e = .returned (.bool (sameResp s1 l1 b1 s2 l2 b2)) ∧ Below w.heap.size w w' := by
  have HF := Num.hide (fun W (hb : Below w.heap.size w W) => Flds.same_impl v1 v2 l1 l2 W (Recs.is_below h1 hb) (Recs.is_below h2 hb) hl)
  obtain ⟨a1, c1, rfl, _⟩ := Flds.is_form h1
  obtain ⟨a2, c2, rfl, _⟩ := Flds.is_form h2
  have HB := Num.hide (((Below.refl w.heap.size w).alloc (Nat.le_refl _) (.cells #[.int .i64 s1, .slice a1 l1.length c1, .string b1] 30)).alloc (by simp) (.cells #[.int .i64 s2, .slice a2 l2.length c2, .string b2] 30))
  have HC := Num.hide (fun W hb => two_boxes w #[.int .i64 s1, .slice a1 l1.length c1, .string b1] #[.int .i64 s2, .slice a2 l2.length c2, .string b2] 30 30 (W := W) hb 2)
  clear h1 h2
  unfold Resp.val sameResp
  by_cases hs : s1 = s2
  · have d1 : (s1 == s2) = true := by rw [beq_iff_eq]; exact hs
    rw [decide_eq_true hs, Bool.true_and]
    generalize decide (l1 = l2) = t at HF
    cases t with
    | false =>
      rw [Bool.and_false]
      clear hs
      go_enter Try.func11, Try.ntmps11
      go_wp2_with fail
      refine (HF.out _ HB.out).mono ?_
      rintro e w1 ⟨rfl, hb1⟩
      have HB1 := Num.hide (HB.out.trans (hb1.mono HB.out.size))
      clear hb1
      go_wp2
      go_ret
      exact ⟨rfl, HB1.out⟩
    | true =>
      rw [Bool.and_true]
      have d2 : (b1.toList == b2.toList) = decide (b1 = b2) := by
        by_cases hb : b1 = b2
        · rw [hb]; simp
        · rw [decide_eq_false hb, beq_eq_false_iff_ne, ByteArray.toList_eq, ByteArray.toList_eq]
          intro e
          exact hb (ByteArray.ext (Array.toList_inj.1 e))
      generalize decide (b1 = b2) = t at d2
      clear hs
      go_enter Try.func11, Try.ntmps11
      go_wp2_with fail
      refine (HF.out _ HB.out).mono ?_
      rintro e w1 ⟨rfl, hb1⟩
      have HB1 := Num.hide (HB.out.trans (hb1.mono HB.out.size))
      obtain ⟨k1, k2⟩ := HC.out _ hb1
      simp only [List.getElem?_toArray, List.getElem?_cons_succ, List.getElem?_cons_zero] at k1 k2
      clear hb1
      go_wp2
      go_ret
      exact ⟨rfl, HB1.out⟩
  · have d1 : (s1 == s2) = false := by rw [beq_eq_false_iff_ne]; exact hs
    rw [decide_eq_false hs, Bool.false_and, Bool.false_and]
    clear hs
    go_enter Try.func11, Try.ntmps11
    go_wp2
    go_ret
    exact ⟨rfl, HB.out⟩
end Msg
end Go.Proofs.Ytmiahdiadlnijaa
