/-
  FnExactSplitList: at every text the program's SplitList answers as the specification's, its answer is its own memory, and it answers the same again, where the library's tables start as the program's text lays them (the card ties them; the law itself lets by a text of more than 2^20 bytes).
-/
import Derived.Test.YtfdgamaegeflkaaDoorCards
import Derived.Test.YtfdgamaegeflkaaDoorTie
import Derived.Test.YtfdgamaegeflkaaDoorSplitImpl
import Derived.Test.YtfdgamaegeflkaaDoorSplitSpec
import Derived.Test.YtfdgamaegeflkaaDoorStrLaw
import Derived.WalkKit
import Derived.WalkLawsBesides
import Derived.ProofKit
import Derived.OpenShut
import Derived.ShutString
import Derived.Below
import Derived.WalkSmall
import Derived.ChangeVars
import Derived.Carry
import Derived.Deep.DeepHandedRow
import Derived.Deep.DeepLaidRun
import Derived.Lib.LaidTab
import Derived.Stop.LaidErr
namespace Go.Proofs.YtfdgamaegeflkaaDoor.fnExactSplitList
open Go.ChangeShapes Go.WideShapes Go.ChangeAt Go.RowKit
open Go.ChangeMaps (open_string shut_string)
set_option linter.unusedVariables false

theorem own : ownKnob Tryd.prog.godebug = none := by kernel_rfl
theorem laidOut : laidOutB Tryd.prog = true := by kernel_rfl



set_option maxRecDepth 100000 in
set_option maxHeartbeats 1000000 in
theorem walk (w : World) (hL : laidMetH Tryd.prog Rows.fnExactSplitListRow.laid w) (a0 : ByteArray) (w0 : a0.size ≤ maxLen) :
    Calls Tryd.prog 5 #[.string a0] w fun e w' => e = .returned (.bool true) ∧ Below w.heap.size w w' := by
  have hm := w0
  unfold maxLen at hm
  by_cases hbig : 1048576 < a0.size
  · go_enter Tryd.func5, Tryd.ntmps5
    go_wp2
    go_ret
    exact ⟨rfl, Below.refl _ _⟩
  · have HS := Num.hide (fun W => Sign.split_spec a0 W (by omega))
    have HI := Num.hide (fun W => Sign.split_impl a0 W (by omega))
    have hlen : (Sign.split a0).length ≤ 1048577 := by
      have := Sign.length_rest a0 a0.size 0 false
      unfold Sign.split; omega
    generalize Sign.split a0 = L at HS HI hlen
    clear hL w0
    go_enter Tryd.func5, Tryd.ntmps5
    go_wp2_with fail
    refine ((Num.unhide HS) _).mono ?_
    rintro e w1 ⟨v0, rfl, ho0, hb0⟩
    have HO0 := Num.hide ho0; have HB0 := Num.hide hb0
    have HD : Hid (∀ k, v0.ownBlock = some k → k < w1.heap.size) := fun k hk => (Strs.own_lt HO0.out k hk).2
    clear ho0 hb0
    go_wp2_with fail
    refine ((Num.unhide HI) _).mono ?_
    rintro e w2 ⟨v1, rfl, ho1, hb1⟩
    have HO1 := Num.hide ho1; have HB1 := Num.hide hb1
    have s2 := hb1.size
    clear ho1 hb1
    go_wp2_with fail
    refine (Strs.eq_any _ _ L L _ (Strs.own_is HO1.out) (Strs.own_is (Strs.own_stay HO0.out HD.out HB1.out)) (by omega)).mono ?_
    rintro e w3 ⟨rfl, n3, rfl⟩
    rw [decide_eq_true (rfl : L = L)]
    have HB3 := Num.hide (Strs.below_drewN HB1.out n3)
    go_wp2_with fail
    refine (Strs.mark_any (w1.heap.size + 1) v1 L 1 _ (Strs.own_drewN HO1.out n3) (by omega) (by omega) (by omega)).mono ?_
    rintro e w4 ⟨rfl, ho4, hg4⟩
    have HO4 := Num.hide ho4
    have HB4 := Num.hide (HB3.out.trans (Strs.below_mark (Strs.own_drewN HO1.out n3) (Nat.le_succ _) s2 hg4))
    have s4 := HB4.out.size
    clear ho4 hg4
    go_wp2_with fail
    refine (Strs.held_any v1 L.length 1 _ (Strs.own_is HO4.out) (by omega) (by omega) (by omega)).mono ?_
    rintro e w5 ⟨rfl, hb5⟩
    have s5 := hb5.size
    have HO5 := Num.hide (Strs.own_below HO4.out hb5)
    have HB5 := Num.hide (HB4.out.trans (hb5.mono s4))
    clear hb5
    go_wp2_with fail
    refine ((Num.unhide HI) _).mono ?_
    rintro e w6 ⟨v2, rfl, ho6, hb6⟩
    have HO6 := Num.hide ho6
    have s6 := hb6.size
    have HB6 := Num.hide (HB5.out.trans (hb6.mono (by omega)))
    have HO5b := Num.hide (Strs.own_below HO5.out hb6)
    clear ho6 hb6
    go_wp2_with fail
    refine (Strs.eq_any _ _ L L _ (Strs.own_is HO6.out) (Strs.own_is (Strs.own_stay HO0.out HD.out HB6.out)) (by omega)).mono ?_
    rintro e w7 ⟨rfl, n7, rfl⟩
    rw [decide_eq_true (rfl : L = L)]
    go_wp2_with fail
    refine (Strs.held_any v1 L.length 1 _ (Strs.own_is (Strs.own_drewN HO5b.out n7)) (by omega) (by omega) (by omega)).mono ?_
    rintro e w8 ⟨rfl, hb8⟩
    have HB8 := Num.hide (HB0.out.trans (((Strs.below_drewN HB6.out n7).trans (hb8.mono (by show _ ≤ w6.heap.size; omega))).mono HB0.out.size))
    clear hb8
    go_wp2
    go_ret
    exact ⟨rfl, HB8.out⟩

theorem contract (H : Type) (enc : TypeId × Value → H) (W : World) (base : Nat) (args : Array Value) (ds gs : List (DataW H)) (before : List MemPlace)
    (hval : ∀ (j : Nat) t v, Tryd.f5.params[j]? = some t → args[j]? = some v → Value.okWide Tryd.prog W .any base t v)
    (hW : DataW.Whole enc Tryd.prog Tryd.f5.params.toList Rows.fnExactSplitListSpec.vars false W args.toList ds gs before) (hL : laidMetH Tryd.prog Rows.fnExactSplitListRow.laid W) :
    Calls Tryd.prog 5 args W fun e W' => ∃ v, e = .returned v ∧ Rows.fnExactSplitListSpec.post enc Tryd.prog Tryd.f5 false true false false W args v W' := by
  have hW' := hW
  obtain ⟨p, q, hA0, hV, rfl, hfz, hnd⟩ := hW
  have hA : DataW.TrodAll enc Tryd.prog W 0 (fun _ => true) true Tryd.f5.params.toList args.toList ds p := hA0
  rw [Tryd.params5] at hA hval
  obtain ⟨v0, vs0, d0, ds0, p0, q0, hargs, rfl, rfl, h0, r0⟩ := trodAll_cons hA
  obtain ⟨rfl, rfl, rfl⟩ := trodAll_nil r0
  obtain rfl : args = #[v0] := by cases args; simp_all
  obtain ⟨rfl, rfl⟩ := trodVars_none hV
  obtain ⟨a0, rfl, rfl, rfl, w0⟩ := open_string Tryd.underlying9 (hval 0 9 v0 rfl rfl) h0
  clear hA0
  refine (walk W hL a0 w0).mono fun e W' ⟨he, bel⟩ => ?_
  subst he
  exact ⟨_, rfl, _, _, _, [], _, [], hW', trodAll_mk1 (shut_bool Tryd.underlying4 _), (trodAll_cons_mk (shut_string Tryd.underlying9 w0) trodAll_mk0), rfl, bel.frame _, fun h => by cases h⟩

/-- a world for the witness: the settled one, the listed variables holding what their initialisers lay -/
def dataCell : DataW Unit → List Value
  | .lit (.int k n) => [Value.int k n]
  | _ => [undef]
def dataPart : DataW Unit → List Value
  | .agg l => l.flatMap dataCell
  | x => dataCell x
def dataCells : DataW Unit → Array Value
  | .agg l => (l.flatMap dataPart).toArray
  | _ => #[]
def laidWorld (w0 : World) : World := { w0 with heap := ((w0.heap.modify 2 fun | .cells _ t fr => .cells (dataCells Rows.laid_unicode_utf8_acceptRanges) t fr | o => o).modify 1 fun | .cells _ t fr => .cells (dataCells Rows.laid_unicode_utf8_first) t fr | o => o) }
theorem laid_met (os : Os) : laidMet Tryd.prog Rows.fnExactSplitListRow.laid ((laidWorld (World.holding Tryd.prog os ⟨#[], #[], []⟩)).forCall (fun _ _ => 0) ⟨#[], #[.string ByteArray.empty], []⟩).memory :=
  laidMet_of_run3 8 (by kernel_rfl) (by kernel_rfl) (by kernel_rfl)
theorem reads (os : Os) {H : Type} (enc : TypeId × Value → H) : ∃ places, DataW.whole enc Tryd.prog ((laidWorld (World.holding Tryd.prog os ⟨#[], #[], []⟩)).forCall (fun _ _ => 0) ⟨#[], #[.string ByteArray.empty], []⟩).memory Tryd.f5.params.toList Rows.fnExactSplitListSpec.vars false #[.string ByteArray.empty].toList 8 = some ([.lit (.string [])], [], places) :=
  ⟨[], by kernel_rfl⟩

set_option maxRecDepth 100000 in
theorem lifted (os : Os) (started : os.Started) (H : Type) (enc : TypeId × Value → H) (F : Stop.Interp) :
    ReturnsInHanded {} Tryd.checked os 5 .any ((OpenSpec.ofChange Rows.fnExactSplitListSpec).preRow enc Tryd.prog Tryd.f5 Rows.fnExactSplitListRow.domain false Rows.fnExactSplitListRow.laid) (((OpenSpec.ofChange Rows.fnExactSplitListSpec).at F).post enc Tryd.prog Tryd.f5 false true false false) := by
  obtain ⟨places, hx⟩ := reads os enc
  refine returnsInHanded_of_row (C := Tryd.checked) (s := OpenSpec.ofChange Rows.fnExactSplitListSpec) own started (by kernel_rfl) Tryd.func5
    (witness_row_at (enc := enc) (C := Tryd.checked) false (laidWorld (World.holding Tryd.prog os ⟨#[], #[], []⟩)) #[.string ByteArray.empty] rfl (by kernel_rfl) (by kernel_rfl) (by kernel_rfl)
      (OpenSpec.preRow_of_cond 8 hx (by kernel_rfl) (fun k hk => by cases hk) (by kernel_rfl) (laid_met os))) ?_
  intro W base args ds gs before hval hW _ _ _ hL _ _
  exact contract H enc W base args ds gs before hval hW hL

theorem said : Rows.FnExactSplitListSaid :=
  OpenClaim.holds_of_cond 5 Tryd.f5 rfl rfl rfl rfl rfl rfl rfl ⟨rfl, rfl, rfl, rfl, rfl⟩ rfl rfl rfl rfl rfl (by kernel_rfl) Tryd.func5 (by kernel_rfl)
    (of_decide_eq_true (by kernel_rfl)) (by unfold Func.isWrapper; first | (rw [if_pos (by decide +kernel)]; kernel_rfl) | (rw [if_neg (by decide +kernel)]; exact ⟨rfl, rfl⟩))
    (fun os started H enc _ F => by rw [OpenClaim.pre_eq_preRow]; exact lifted os started H enc F)
theorem plain (f : FuncId) (fn : Func) (hf : Tryd.pinned.checked.prog.funcNamed Rows.fnExactSplitListRow.func = some f) (hfn : Tryd.pinned.checked.prog.funcs[f]? = some fn) :
    false = Tryd.pinned.checked.prog.looks [] ∧ ∀ (j : Nat) t, fn.params[j]? = some t → Tryd.pinned.checked.prog.wantsStandIn t = false := by
  obtain rfl : f = 5 := Option.some.inj ((show Tryd.prog.funcNamed Rows.fnExactSplitListRow.func = some 5 by kernel_rfl).symm.trans hf) |>.symm
  obtain rfl : fn = Tryd.f5 := (Option.some.inj (Tryd.func5.symm.trans hfn)).symm
  refine ⟨by kernel_rfl, fun j t ht => ?_⟩
  rw [Tryd.params5] at ht
  obtain rfl : t = 9 := by simpa using Array.mem_of_getElem? ht
  exact (show Tryd.prog.wantsStandIn 9 = false by kernel_rfl)
end Go.Proofs.YtfdgamaegeflkaaDoor.fnExactSplitList
namespace Go.Proofs.YtfdgamaegeflkaaDoor
theorem fnExactSplitList_card : Rows.FnExactSplitListCardSaid :=
  Claim7.holds_tied_plain_at .later [] _ _ _ _ fnExactSplitList.said (fun _ h => by cases h) (by kernel_rfl) (fun _ h => by cases h) fnExactSplitList_row_tie rfl ⟨rfl, rfl⟩ (by kernel_rfl) rfl fnExactSplitList.plain (by kernel_rfl)
#print axioms fnExactSplitList_card
end Go.Proofs.YtfdgamaegeflkaaDoor
