/-
  Normal of the program: the parts of a list, joined with a comma and a blank.
-/
import Derived.Test.YtkogcbnbmdeolaaDoorFldGetImpl
import Derived.Test.YtkogcbnbmdeolaaDoorSplitImpl
import Derived.Test.YtkogcbnbmdeolaaDoorCharsNum
namespace Go.Proofs.YtkogcbnbmdeolaaDoor
open Go.RowKit
set_option linter.unusedVariables false
set_option linter.unusedSimpArgs false
namespace Norm
open Sign (split)

theorem joined_join (L : List ByteArray) : joined L = ⟨(Lib.join (L.map (·.data.toList)) [44, 32]).toArray⟩ := by
  refine Num.snoc_ind (P := fun L => joined L = ⟨(Lib.join (L.map (·.data.toList)) [44, 32]).toArray⟩) rfl ?_ L
  intro l t ih
  rw [joined_snoc, ih, List.map_append, List.map_cons, List.map_nil, Flds.join_snoc]
  by_cases h : l = []
  · subst h
    rw [if_pos rfl, if_pos List.map_nil]
  · rw [if_neg h, if_neg (by simpa using h)]
    apply ByteArray.ext
    simp [ByteArray.data_append]
set_option maxRecDepth 100000 in
set_option maxHeartbeats 1000000 in
theorem normal_impl (s : ByteArray) (w : World) (hs : s.size ≤ 1048576) : Calls Tryd.prog 16 #[.string s] w fun e w' => e = .returned (.string (normal s)) ∧ Below w.heap.size w w' := by
  have HS := Num.hide (Sign.split_impl s w hs)
  have hz := normal_size s
  have hlen := Cc.split_len s
  unfold normal at hz ⊢
  generalize split s = L at HS hz hlen ⊢
  have hj := joined_join L
  have hjl : (Lib.join (L.map (·.data.toList)) [44, 32]).length ≤ 140737488355328 := by
    rw [hj] at hz
    have e : (⟨(Lib.join (L.map (·.data.toList)) [44, 32]).toArray⟩ : ByteArray).size = (Lib.join (L.map (·.data.toList)) [44, 32]).length := by simp [ByteArray.size]
    rw [e] at hz
    omega
  have HJ := Num.hide (fun v B W ho => Flds.join_any v L ⟨#[44, 32]⟩ B W ho (by omega) hjl)
  rw [show (⟨#[44, 32]⟩ : ByteArray).data.toList = [44, 32] from rfl, ← hj] at HJ
  generalize joined L = r at HJ ⊢
  clear hj hjl hz
  go_enter Tryd.func16, Tryd.ntmps16
  go_wp2_with fail
  refine HS.out.mono ?_
  rintro e w1 ⟨v, rfl, ho, hb⟩
  have HO := Num.hide ho
  have HB := Num.hide hb
  clear ho hb HS
  go_wp2_with fail
  refine (HJ.out _ _ _ HO.out).mono ?_
  rintro e w2 ⟨rfl, hb⟩
  have HB2 := Num.hide (HB.out.trans (hb.mono HB.out.size))
  clear hb
  go_wp2
  go_ret
  exact ⟨rfl, HB2.out⟩
end Norm
end Go.Proofs.YtkogcbnbmdeolaaDoor
