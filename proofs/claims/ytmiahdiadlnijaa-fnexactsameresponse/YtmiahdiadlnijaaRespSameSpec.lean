/-
  SameResponse of the specification: are two answers the same?
-/
import Derived.Test.YtmiahdiadlnijaaRespVal
import Derived.Test.YtmiahdiadlnijaaFldSameSpec
import Derived.Test.YtmiahdiadlnijaaBoxes
namespace Go.Proofs.Ytmiahdiadlnijaa
open Go.RowKit
set_option linter.unusedVariables false
namespace Msg

/-- are two answers the same? -/
def sameResp (s1 : Int) (l1 : List Flds.Fld) (b1 : ByteArray) (s2 : Int) (l2 : List Flds.Fld) (b2 : ByteArray) : Bool := decide (s1 = s2) && decide (b1 = b2) && decide (l1 = l2)
set_option maxRecDepth 100000 in
set_option maxHeartbeats 2000000 in
theorem sameResp_spec (s1 s2 : Int) (v1 v2 : Value) (l1 l2 : List Flds.Fld) (b1 b2 : ByteArray) (w : World) (h1 : Flds.Is w v1 l1) (h2 : Flds.Is w v2 l2) (hl : l1.length ≤ 1099511627776) :
    Calls Try.prog 9 #[Resp.val s1 v1 b1, Resp.val s2 v2 b2] w fun e w' => e = .returned (.bool (sameResp s1 l1 b1 s2 l2 b2)) ∧ Below w.heap.size w w' := by
  have HF := Num.hide (fun W (hb : Below w.heap.size w W) => Flds.same_spec_b v1 v2 l1 l2 W (Recs.is_below h1 hb) (Recs.is_below h2 hb) hl)
  obtain ⟨a1, c1, rfl, _⟩ := Flds.is_form h1
  obtain ⟨a2, c2, rfl, _⟩ := Flds.is_form h2
  have HB := Num.hide (((Below.refl w.heap.size w).alloc (Nat.le_refl _) (.cells #[.int .i64 s1, .slice a1 l1.length c1, .string b1] 30)).alloc (by simp) (.cells #[.int .i64 s2, .slice a2 l2.length c2, .string b2] 30))
  clear h1 h2
  unfold Resp.val sameResp
  by_cases hs : s1 = s2
  · have d1 : (s1 == s2) = true := by rw [beq_iff_eq]; exact hs
    rw [decide_eq_true hs]
    by_cases hb : b1 = b2
    · have d2 : (b1.toList == b2.toList) = true := by rw [hb]; simp
      rw [decide_eq_true hb, Bool.true_and, Bool.true_and]
      clear hs hb
      go_enter Try.func9, Try.ntmps9
      go_wp2_with fail
      refine (HF.out _ HB.out).mono ?_
      rintro e w1 ⟨rfl, hb1⟩
      have HB1 := Num.hide (HB.out.trans (hb1.mono HB.out.size))
      clear hb1
      go_wp2
      go_ret
      exact ⟨rfl, HB1.out⟩
    · have d2 : (b1.toList == b2.toList) = false := by
        rw [beq_eq_false_iff_ne, ByteArray.toList_eq, ByteArray.toList_eq]
        intro e
        exact hb (ByteArray.ext (Array.toList_inj.1 e))
      rw [decide_eq_false hb, Bool.true_and, Bool.false_and]
      clear hs hb
      go_enter Try.func9, Try.ntmps9
      go_wp2
      go_ret
      exact ⟨rfl, HB.out⟩
  · have d1 : (s1 == s2) = false := by rw [beq_eq_false_iff_ne]; exact hs
    rw [decide_eq_false hs, Bool.false_and, Bool.false_and]
    clear hs
    go_enter Try.func9, Try.ntmps9
    go_wp2
    go_ret
    exact ⟨rfl, HB.out⟩
end Msg
end Go.Proofs.Ytmiahdiadlnijaa
