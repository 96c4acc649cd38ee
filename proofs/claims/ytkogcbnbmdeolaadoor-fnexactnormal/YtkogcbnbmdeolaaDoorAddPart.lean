/-
  addPart of the program: a part, trimmed, put behind the parts, where it is not empty.
-/
import Derived.Test.YtkogcbnbmdeolaaDoorStrs
import Derived.Test.YtkogcbnbmdeolaaDoorTrimImpl
import Derived.Test.YtkogcbnbmdeolaaDoorSplitNum
namespace Go.Proofs.YtkogcbnbmdeolaaDoor
open Go.RowKit
set_option linter.unusedVariables false
namespace Sign

def partOf (t : ByteArray) : List ByteArray := if (trim t).size = 0 then [] else [trim t]

set_option maxRecDepth 100000 in
set_option maxHeartbeats 1000000 in
theorem addPart_any (B : Nat) (v : Value) (l : List ByteArray) (t : ByteArray) (w : World) (hown : Strs.OwnS B w v l) (hB : B ≤ w.heap.size) (ht : t.size ≤ 281474976710656) (hl : l.length ≤ 1073741824) :
    Calls Tryd.prog 51 #[v, .string t] w fun e w' => ∃ v', e = .returned v' ∧ Strs.OwnS B w' v' (l ++ partOf t) ∧ w.grownBy w' v.ownBlock := by
  obtain ⟨i0, hi, hz0, hz1, hz2⟩ := info_parts Strs.infoS
  have HT := Num.hide (fun W => trim_impl t W ht)
  have HO := Num.hide hown
  obtain ⟨va, vc, hv⟩ := Strs.own_len hown
  clear hown
  obtain ⟨L, hL⟩ : ∃ L, l ++ partOf t = L := ⟨_, rfl⟩
  rw [hL]
  unfold partOf at hL
  generalize trim t = r at HT hL
  have HL := Num.hide hL
  clear hL
  subst hv
  go_enter Tryd.func51, Tryd.ntmps51
  go_wp2_with fail
  refine (HT.out _).mono ?_
  rintro e w1 ⟨rfl, hb1⟩
  have hB1 : B ≤ w1.heap.size := Nat.le_trans hB hb1.size
  have HO1 := Num.hide (Strs.own_below HO.out hb1)
  by_cases h0 : r.size = 0
  · obtain rfl : r = ⟨#[]⟩ := empty_true r h0
    go_wp2
    go_ret
    refine ⟨_, rfl, ?_, Strs.grown_of_below hb1 _⟩
    rw [← HL.out, if_pos h0, List.append_nil]
    exact HO1.out
  · have hne := empty_false r (by omega)
    have HB := Num.hide hb1
    clear hb1
    go_wp2_with (at_builtin; refine wpList_append_own _ rfl _ _ 26 rfl B 9 i0 (.string ⟨#[]⟩) 1 16 Tryd.underlying26 hi hz0 hz1 hz2 rfl (by decide) _ _ _ rfl (World.ownsRow.alloc HO1.out _) ⟨w1.heap.size, 0, none⟩ 1 1 [.string r] rfl rfl (Strs.cells_one w1 r) (Strs.one_ok r) (by unfold maxLen; omega) (by omega) ?c5 ?_)
    case c5 => simp; omega
    intro v' w2 ho2 hg2 _
    have hg3 := Num.hide (Strs.grown_trans (Strs.grown_of_below HB.out _) (Strs.grown_trans (World.grownBy_alloc w1 (.cells #[.string r] 9) _) hg2))
    have ho3 := Num.hide (Strs.own_snoc ho2)
    clear ho2 hg2
    go_wp2
    go_ret
    refine ⟨_, rfl, ?_, hg3.out⟩
    rw [← HL.out, if_neg h0]
    exact ho3.out
end Sign
end Go.Proofs.YtkogcbnbmdeolaaDoor
