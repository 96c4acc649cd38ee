/-
  varyParts of the program: the parts of all that stands under vary, in a row of the call's own.
-/
import Derived.Test.YtkogcbnbmdeolaaDoorFldGetImpl
import Derived.Test.YtkogcbnbmdeolaaDoorSplitImpl
import Derived.Test.YtkogcbnbmdeolaaDoorCcNum
namespace Go.Proofs.YtkogcbnbmdeolaaDoor
open Go.RowKit
set_option linter.unusedVariables false
set_option linter.unusedSimpArgs false
namespace Flds

theorem strs_mono {B B' : Nat} {w : World} {v : Value} {l : List ByteArray} (h : Strs.OwnS B w v l) (hB : B' ≤ B) : Strs.OwnS B' w v l := by
  refine ⟨h.1, ?_⟩
  rcases h.2 with h1 | ⟨g, cap, cur, h1, h2, rest⟩
  · exact .inl h1
  · exact .inr ⟨g, cap, cur, h1, by omega, rest⟩
set_option maxRecDepth 100000 in
set_option maxHeartbeats 1000000 in
theorem parts_impl (v : Value) (l : List Fld) (w : World) (h : Is w v l) (hl : bulk l ≤ 1048576) :
    Calls Tryd.prog 63 #[v] w fun e w' => ∃ v', e = .returned v' ∧ Strs.OwnS w.heap.size w' v' (Sign.split (get l ⟨#[118, 97, 114, 121]⟩).1) ∧ Below w.heap.size w w' := by
  have HG := Num.hide (get_impl v l ⟨#[118, 97, 114, 121]⟩ w h (by omega))
  have hsz := Nat.le_trans (Cc.get_bulk l ⟨#[118, 97, 114, 121]⟩ (by decide)) hl
  generalize get l ⟨#[118, 97, 114, 121]⟩ = gv at HG hsz ⊢
  obtain ⟨s, sb⟩ := gv
  simp only at HG hsz ⊢
  have HSp := Num.hide (fun W => Sign.split_impl s W (by omega))
  generalize Sign.split s = L at HSp ⊢
  clear h
  go_enter Tryd.func63, Tryd.ntmps63
  go_wp2_with fail
  refine HG.out.mono ?_
  rintro e w1 ⟨rfl, hb⟩
  have HB := Num.hide hb
  clear hb
  go_wp2_with fail
  refine (HSp.out _).mono ?_
  rintro e w2 ⟨v2, rfl, ho, hb⟩
  have HO := Num.hide (strs_mono ho (Nat.le_trans HB.out.size (Nat.le_succ _)))
  have HB2 := Num.hide (HB.out.trans (hb.mono HB.out.size))
  clear ho hb HB
  go_wp2
  go_ret
  exact ⟨_, rfl, HO.out, HB2.out⟩
end Flds
end Go.Proofs.YtkogcbnbmdeolaaDoor
