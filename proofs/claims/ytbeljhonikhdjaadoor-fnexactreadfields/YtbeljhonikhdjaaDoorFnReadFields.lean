/-
  FnExactReadFields: at every text the program's ReadFields answers as the specification's, in memory of its own, and answers the same again, where the program's table of signs and the library's tables start as their text lays them (the card ties them; the law itself lets by a text of more than 2^20 bytes).
-/
import Derived.Test.YtbeljhonikhdjaaDoorCards
import Derived.Test.YtbeljhonikhdjaaDoorTie
import Derived.Test.YtbeljhonikhdjaaDoorFldHeld
import Derived.Test.YtbeljhonikhdjaaDoorFldReadImpl
import Derived.WalkKit
import Derived.WalkLawsBesides
import Derived.ProofKit
import Derived.OpenShut
import Derived.ShutString
import Derived.Below
import Derived.WalkSmall
import Derived.ChangeVars
import Derived.Carry
import Derived.Deep.DeepHandedRow
import Derived.Deep.DeepLaidRun
import Derived.Lib.LaidTab
import Derived.Stop.LaidErr
namespace Go.Proofs.YtbeljhonikhdjaaDoor.fnExactReadFields
open Go.ChangeShapes Go.WideShapes Go.ChangeAt Go.RowKit
open Go.ChangeMaps (open_string shut_string)
set_option linter.unusedVariables false

theorem own : ownKnob Tryd.prog.godebug = none := by kernel_rfl
theorem laidOut : laidOutB Tryd.prog = true := by kernel_rfl
theorem tokenSigns_of {W : World} (h : laidMetH Tryd.prog Rows.fnExactReadFieldsRow.laid W) : ∀ i, i < 15 → W.cell? ⟨1, i, none⟩ = some (.int .u8 (([33, 35, 36, 37, 38, 39, 42, 43, 45, 46, 94, 95, 124, 126, 96] : List Int).getD i 0)) := by
  have h0 : laidMet Tryd.prog Rows.fnExactReadFieldsRow.laid W := h
  intro i hi
  exact (Lib.tabIs_of_head (g := 1) (t := 110) (zs := [33, 35, 36, 37, 38, 39, 42, 43, 45, 46, 94, 95, 124, 126, 96]) (by kernel_rfl) (by kernel_rfl) Tryd.underlying110 Tryd.underlying5 (by kernel_rfl) (by kernel_rfl) h0.tail).cell (by kernel_rfl) i hi


set_option maxRecDepth 100000 in
set_option maxHeartbeats 1000000 in
theorem walk (w : World) (hSh : Hid (w.ShapedOpen Tryd.prog)) (hL : laidMetH Tryd.prog Rows.fnExactReadFieldsRow.laid w) (a0 : ByteArray) (w0 : a0.size ≤ maxLen) :
    Calls Tryd.prog 6 #[.string a0] w fun e w' => e = .returned (.bool true) ∧ Below w.heap.size w w' := by
  have hm0 := w0
  unfold maxLen at hm0
  by_cases hbig0 : 1048576 < a0.size
  · go_enter Tryd.func6, Tryd.ntmps6
    go_wp2
    go_ret
    exact ⟨rfl, Below.refl _ _⟩
  have HSg := Num.hide (tokenSigns_of hL)
  have hsg := Flds.signs_lt HSg.out
  have HLm := Num.hide (Flds.lim_of hSh.out)
  have hlm := Flds.lim_lt HLm.out
  clear hL hSh
  have HS := Num.hide (fun W => Flds.read_spec a0 W (by omega))
  have HI := Num.hide (fun W hS hm => Flds.read_impl a0 W (by omega) hS hm)
  have hL : (Flds.readL a0).length ≤ 4194304 := by have := Flds.readL_length a0; omega
  generalize Flds.readL a0 = L at HS HI hL
  generalize Flds.readN a0 = N at HS HI
  generalize Flds.readB a0 = bb at HS HI
  go_enter Tryd.func6, Tryd.ntmps6
  go_wp2_with fail
  refine (Num.unhide HS  _ ).mono ?_
  rintro e W1 ⟨vw, rfl, ho, hb⟩
  have BW1 := Num.hide hb
  have sW1 := hb.size
  have OvwW1 := Num.hide ho
  have Dvw : Hid (∀ k, vw.ownBlock = some k → k < W1.heap.size) := fun k hk => (Recs.own_lt OvwW1.out k hk).2
  clear ho hb 
  go_wp2_with fail
  refine (Num.unhide HI  _  (Flds.signs_below HSg.out BW1.out hsg) (Flds.lim_below HLm.out BW1.out hlm)).mono ?_
  rintro e W2 ⟨vg, rfl, ho, hb⟩
  have BW2 := Num.hide (Recs.below_step BW1.out hb)
  have sW2 := hb.size
  have OvwW2 := Num.hide (Recs.own_below OvwW1.out hb)
  have OvgW2 := Num.hide ho
  have Dvg : Hid (∀ k, vg.ownBlock = some k → k < W2.heap.size) := fun k hk => (Recs.own_lt OvgW2.out k hk).2
  clear ho hb OvwW1 BW1
  go_wp2_with fail
  refine (Flds.eq_any vg vw L L _ (Recs.own_is Flds.cells_len OvgW2.out) (Recs.own_is Flds.cells_len OvwW2.out) (by omega)).mono ?_
  rintro e W3 ⟨rfl, hb⟩
  rw [decide_eq_true (rfl : L = L)]
  have BW3 := Num.hide (Recs.below_step BW2.out hb)
  have sW3 := hb.size
  have OvwW3 := Num.hide (Recs.own_below OvwW2.out hb)
  have OvgW3 := Num.hide (Recs.own_below OvgW2.out hb)
  clear hb OvwW2 OvgW2 BW2
  go_wp2_with fail
  refine (Flds.mark_any _ vg L 1 _ OvgW3.out (by omega) (by omega) (by omega)).mono ?_
  rintro e W4 ⟨rfl, ho, hg⟩
  have sW4 := hg.size
  have BW4 := Num.hide (BW3.out.trans (Recs.below_mark OvgW3.out (by omega) (by omega) hg))
  have OvwW4 := Num.hide (Recs.own_kept OvwW3.out hg (Recs.apart (fun k hk => ⟨(Recs.own_lt OvwW3.out k hk).1, Num.unhide Dvw k hk⟩) (fun k hk => ⟨(Recs.own_lt OvgW3.out k hk).1, Num.unhide Dvg k hk⟩) (by omega)))
  have OvgW4 := Num.hide ho
  clear ho hg BW3 OvgW3 OvwW3
  go_wp2_with fail
  refine (Flds.held_any vg L.length 1 _ (Recs.own_is Flds.cells_len OvgW4.out) (by omega) (by omega) (by omega)).mono ?_
  rintro e W5 ⟨rfl, hb⟩
  have BW5 := Num.hide (Recs.below_step BW4.out hb)
  have sW5 := hb.size
  have OvwW5 := Num.hide (Recs.own_below OvwW4.out hb)
  have OvgW5 := Num.hide (Recs.own_below OvgW4.out hb)
  clear hb OvwW4 OvgW4 BW4
  go_wp2_with fail
  refine (Num.unhide HI  _  (Flds.signs_below HSg.out BW5.out hsg) (Flds.lim_below HLm.out BW5.out hlm)).mono ?_
  rintro e W6 ⟨vh, rfl, ho, hb⟩
  have BW6 := Num.hide (Recs.below_step BW5.out hb)
  have sW6 := hb.size
  have OvwW6 := Num.hide (Recs.own_below OvwW5.out hb)
  have OvgW6 := Num.hide (Recs.own_below OvgW5.out hb)
  have OvhW6 := Num.hide ho
  have Dvh : Hid (∀ k, vh.ownBlock = some k → k < W6.heap.size) := fun k hk => (Recs.own_lt OvhW6.out k hk).2
  clear ho hb OvwW5 OvgW5 BW5
  go_wp2_with fail
  refine (Flds.eq_any vh vw L L _ (Recs.own_is Flds.cells_len OvhW6.out) (Recs.own_is Flds.cells_len OvwW6.out) (by omega)).mono ?_
  rintro e W7 ⟨rfl, hb⟩
  rw [decide_eq_true (rfl : L = L)]
  have BW7 := Num.hide (Recs.below_step BW6.out hb)
  have sW7 := hb.size
  have OvwW7 := Num.hide (Recs.own_below OvwW6.out hb)
  have OvgW7 := Num.hide (Recs.own_below OvgW6.out hb)
  have OvhW7 := Num.hide (Recs.own_below OvhW6.out hb)
  clear hb OvwW6 OvgW6 OvhW6 BW6
  clear OvhW7 Dvh
  go_wp2_with fail
  refine (Flds.held_any vg L.length 1 _ (Recs.own_is Flds.cells_len OvgW7.out) (by omega) (by omega) (by omega)).mono ?_
  rintro e W8 ⟨rfl, hb⟩
  have BW8 := Num.hide (Recs.below_step BW7.out hb)
  have sW8 := hb.size
  have OvwW8 := Num.hide (Recs.own_below OvwW7.out hb)
  have OvgW8 := Num.hide (Recs.own_below OvgW7.out hb)
  clear hb OvwW7 OvgW7 BW7
  go_wp2
  go_ret
  exact ⟨rfl, BW8.out⟩

set_option maxRecDepth 100000 in
theorem contract (H : Type) (enc : TypeId × Value → H) (W : World) (base : Nat) (args : Array Value) (ds gs : List (DataW H)) (before : List MemPlace)
    (hval : ∀ (j : Nat) t v, Tryd.f6.params[j]? = some t → args[j]? = some v → Value.okWide Tryd.prog W .any base t v)
    (hW : DataW.Whole enc Tryd.prog Tryd.f6.params.toList Rows.fnExactReadFieldsSpec.vars false W args.toList ds gs before) (hL : laidMetH Tryd.prog Rows.fnExactReadFieldsRow.laid W) (hSh : W.ShapedOpen Tryd.prog) :
    Calls Tryd.prog 6 args W fun e W' => ∃ v, e = .returned v ∧ Rows.fnExactReadFieldsSpec.post enc Tryd.prog Tryd.f6 false true false false W args v W' := by
  have hW' := hW
  obtain ⟨p, q, hA0, hV, rfl, hfz, hnd⟩ := hW
  have hA : DataW.TrodAll enc Tryd.prog W 0 (fun _ => true) true Tryd.f6.params.toList args.toList ds p := hA0
  rw [Tryd.params6] at hA hval
  obtain ⟨v0, vs0, d0, ds0, p0, q0, hargs, rfl, rfl, h0, r0⟩ := trodAll_cons hA
  obtain ⟨rfl, rfl, rfl⟩ := trodAll_nil r0
  obtain rfl : args = #[v0] := by cases args; simp_all
  obtain ⟨vg, vt, vcs, vf, vd, vp, rfl, vhg, vht, vhv, vhd, rfl⟩ := trodVars_one hV
  obtain rfl : 1 = vg := Option.some.inj (Eq.trans (by kernel_rfl) vhg)
  obtain rfl : 110 = vt := Option.some.inj ((show (Tryd.prog.globals[1]?).map (·.type) = some 110 by kernel_rfl).symm.trans vht)
  obtain ⟨a0, rfl, rfl, rfl, w0⟩ := open_string Tryd.underlying9 (hval 0 9 v0 rfl rfl) h0
  clear hA0
  refine (walk W hSh hL a0 w0).mono fun e W' ⟨he, bel⟩ => ?_
  subst he
  have vlt : 1 < W.heap.size := by
    unfold World.var? at vhv
    rw [vhg, Option.bind_some] at vhv
    split at vhv
    · next hgg => exact (Array.getElem?_eq_some_iff.1 hgg).1
    · cases vhv
  obtain ⟨vf2, vhd2⟩ : DataW.Trod enc Tryd.prog W' 0 (fun b => decide (b < W.heap.size)) true 110 (.agg vcs) vd vp := Below.trod laidOut (by kernel_rfl) (of_decide_eq_true (by kernel_rfl)) ⟨vf, vhd⟩ bel (DataW.trod_lt vf _ _ _ vhd)
  exact ⟨_, rfl, _, _, _, [], _, _, hW', trodAll_mk1 (shut_bool Tryd.underlying4 _), (trodAll_cons_mk (shut_string Tryd.underlying9 w0) trodAll_mk0), (trodVars_mk1 vhg vht (var?_below bel vhg vlt vhv) vhd2), bel.frame _, fun h => by cases h⟩

/-- a world for the witness: the settled one, the listed variables holding what their initialisers lay -/
def dataCell : DataW Unit → List Value
  | .lit (.int k n) => [Value.int k n]
  | _ => [undef]
def dataPart : DataW Unit → List Value
  | .agg l => l.flatMap dataCell
  | x => dataCell x
def dataCells : DataW Unit → Array Value
  | .agg l => (l.flatMap dataPart).toArray
  | _ => #[]
def laidWorld (w0 : World) : World := { w0 with heap := (((w0.heap.modify 3 fun | .cells _ t fr => .cells (dataCells Rows.laid_unicode_utf8_acceptRanges) t fr | o => o).modify 1 fun | .cells _ t fr => .cells (dataCells Rows.laid_loop_example_g01402_impl_tokenSigns) t fr | o => o).modify 2 fun | .cells _ t fr => .cells (dataCells Rows.laid_unicode_utf8_first) t fr | o => o) }
theorem laid_met (os : Os) : laidMet Tryd.prog Rows.fnExactReadFieldsRow.laid ((laidWorld (World.holding Tryd.prog os ⟨#[], #[], []⟩)).forCall (fun _ _ => 0) ⟨#[], #[.string ByteArray.empty], []⟩).memory :=
  laidMet_of_run3 8 (by kernel_rfl) (by kernel_rfl) (by kernel_rfl)
theorem reads (os : Os) {H : Type} (enc : TypeId × Value → H) : ∃ places, DataW.whole enc Tryd.prog ((laidWorld (World.holding Tryd.prog os ⟨#[], #[], []⟩)).forCall (fun _ _ => 0) ⟨#[], #[.string ByteArray.empty], []⟩).memory Tryd.f6.params.toList Rows.fnExactReadFieldsSpec.vars false #[.string ByteArray.empty].toList 8 = some ([.lit (.string [])], [Rows.laid_loop_example_g01402_impl_tokenSigns], places) :=
  ⟨MemPlace.row ⟨1, 0, none⟩ 15 ++ [], by kernel_rfl⟩

set_option maxRecDepth 100000 in
theorem lifted (os : Os) (started : os.Started) (H : Type) (enc : TypeId × Value → H) (F : Stop.Interp) :
    ReturnsInHanded {} Tryd.checked os 6 .any ((OpenSpec.ofChange Rows.fnExactReadFieldsSpec).preRow enc Tryd.prog Tryd.f6 Rows.fnExactReadFieldsRow.domain false Rows.fnExactReadFieldsRow.laid) (((OpenSpec.ofChange Rows.fnExactReadFieldsSpec).at F).post enc Tryd.prog Tryd.f6 false true false false) := by
  obtain ⟨places, hx⟩ := reads os enc
  refine returnsInHanded_of_row (C := Tryd.checked) (s := OpenSpec.ofChange Rows.fnExactReadFieldsSpec) own started (by kernel_rfl) Tryd.func6
    (witness_row_at (enc := enc) (C := Tryd.checked) false (laidWorld (World.holding Tryd.prog os ⟨#[], #[], []⟩)) #[.string ByteArray.empty] rfl (by kernel_rfl) (by kernel_rfl) (by kernel_rfl)
      (OpenSpec.preRow_of_cond 8 hx (by kernel_rfl) (fun k hk => by cases hk) (by kernel_rfl) (laid_met os))) ?_
  intro W base args ds gs before hval hW _ _ _ hL hSh _
  exact contract H enc W base args ds gs before hval hW hL hSh

theorem said : Rows.FnExactReadFieldsSaid :=
  OpenClaim.holds_of_cond 6 Tryd.f6 rfl rfl rfl rfl rfl rfl rfl ⟨rfl, rfl, rfl, rfl, rfl⟩ rfl rfl rfl rfl rfl (by kernel_rfl) Tryd.func6 (by kernel_rfl)
    (of_decide_eq_true (by kernel_rfl)) (by unfold Func.isWrapper; first | (rw [if_pos (by decide +kernel)]; kernel_rfl) | (rw [if_neg (by decide +kernel)]; exact ⟨rfl, rfl⟩))
    (fun os started H enc _ F => by rw [OpenClaim.pre_eq_preRow]; exact lifted os started H enc F)
theorem plain (f : FuncId) (fn : Func) (hf : Tryd.pinned.checked.prog.funcNamed Rows.fnExactReadFieldsRow.func = some f) (hfn : Tryd.pinned.checked.prog.funcs[f]? = some fn) :
    false = Tryd.pinned.checked.prog.looks [] ∧ ∀ (j : Nat) t, fn.params[j]? = some t → Tryd.pinned.checked.prog.wantsStandIn t = false := by
  obtain rfl : f = 6 := Option.some.inj ((show Tryd.prog.funcNamed Rows.fnExactReadFieldsRow.func = some 6 by kernel_rfl).symm.trans hf) |>.symm
  obtain rfl : fn = Tryd.f6 := (Option.some.inj (Tryd.func6.symm.trans hfn)).symm
  refine ⟨by kernel_rfl, fun j t ht => ?_⟩
  rw [Tryd.params6] at ht
  obtain rfl : t = 9 := by simpa using Array.mem_of_getElem? ht
  exact (show Tryd.prog.wantsStandIn 9 = false by kernel_rfl)
end Go.Proofs.YtbeljhonikhdjaaDoor.fnExactReadFields
namespace Go.Proofs.YtbeljhonikhdjaaDoor
theorem fnExactReadFields_card : Rows.FnExactReadFieldsCardSaid :=
  Claim7.holds_tied_plain_at .later [] _ _ _ _ fnExactReadFields.said (fun _ h => by cases h) (by kernel_rfl) (fun _ h => by cases h) fnExactReadFields_row_tie rfl ⟨rfl, rfl⟩ (by kernel_rfl) rfl fnExactReadFields.plain (by kernel_rfl)
#print axioms fnExactReadFields_card
end Go.Proofs.YtbeljhonikhdjaaDoor
