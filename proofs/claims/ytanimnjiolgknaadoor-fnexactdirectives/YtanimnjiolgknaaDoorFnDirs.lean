/-
  FnExactDirectives: at every list of fields the program's Directives answers as the specification's, in memory of its own, leaves its argument as it was, and answers the same again, where the program's table of signs and the library's tables start as their text lays them (the card ties them; the law itself lets by what holds more than 2^20 bytes and fields).
-/
import Derived.Test.YtanimnjiolgknaaDoorCards
import Derived.Test.YtanimnjiolgknaaDoorTie
import Derived.Test.YtanimnjiolgknaaDoorFldOpen
import Derived.Test.YtanimnjiolgknaaDoorDirHeld
import Derived.Test.YtanimnjiolgknaaDoorPad
import Derived.Test.YtanimnjiolgknaaDoorPai
import Derived.Test.YtanimnjiolgknaaDoorFldTo
import Derived.WalkKit
import Derived.WalkLawsBesides
import Derived.ProofKit
import Derived.OpenShut
import Derived.ShutString
import Derived.Below
import Derived.WalkSmall
import Derived.ChangeVars
import Derived.Carry
import Derived.Deep.DeepHandedRow
import Derived.Deep.DeepLaidRun
import Derived.Lib.LaidTab
import Derived.Stop.LaidErr
namespace Go.Proofs.YtanimnjiolgknaaDoor.fnExactDirectives
open Go.ChangeShapes Go.WideShapes Go.ChangeAt Go.RowKit
open Go.ChangeMaps (open_string shut_string)
set_option linter.unusedVariables false

theorem own : ownKnob Tryd.prog.godebug = none := by kernel_rfl
theorem laidOut : laidOutB Tryd.prog = true := by kernel_rfl
theorem tokenSigns_of {W : World} (h : laidMetH Tryd.prog Rows.fnExactDirectivesRow.laid W) : ∀ i, i < 15 → W.cell? ⟨0, i, none⟩ = some (.int .u8 (([33, 35, 36, 37, 38, 39, 42, 43, 45, 46, 94, 95, 124, 126, 96] : List Int).getD i 0)) := by
  have h0 : laidMet Tryd.prog Rows.fnExactDirectivesRow.laid W := h
  intro i hi
  exact (Lib.tabIs_of_head (g := 0) (t := 92) (zs := [33, 35, 36, 37, 38, 39, 42, 43, 45, 46, 94, 95, 124, 126, 96]) (by kernel_rfl) (by kernel_rfl) Tryd.underlying92 Tryd.underlying5 (by kernel_rfl) (by kernel_rfl) h0.tail).cell (by kernel_rfl) i hi


set_option maxRecDepth 100000 in
set_option maxHeartbeats 1000000 in
theorem walk (w : World) (hSh : Hid (w.ShapedOpen Tryd.prog)) (hL : laidMetH Tryd.prog Rows.fnExactDirectivesRow.laid w) (a0 : Value) (l0 : List Flds.Fld) (w0 : Flds.Arg w a0 l0) :
    Calls Tryd.prog 4 #[a0] w fun e w' => e = .returned (.bool true) ∧ Below w.heap.size w w' := by
  have HA0 := Num.hide w0
  clear w0
  have HZ0 := Num.hide (fun W h => Flds.szFieldS_any a0 l0 1048576 W h HA0.out.2 (by omega) (by omega))
  by_cases hbk0 : ¬ (Flds.bulk l0 : Int) ≤ 1048576
  · rw [Flds.left_no hbk0] at HZ0
    go_enter Tryd.func4, Tryd.ntmps4
    go_wp2_with fail
    refine (Num.unhide HZ0 _ HA0.out.1).mono ?_
    rintro e W1 ⟨rfl, hb⟩
    have BW1 := Num.hide hb
    clear hb HZ0
    go_wp2
    go_ret
    exact ⟨rfl, BW1.out⟩
  rw [Flds.left_yes (Decidable.not_not.1 hbk0)] at HZ0
  have hlen0 : l0.length ≤ 1048576 := by have := Flds.len_le l0; omega
  have hbn : Flds.bulk l0 ≤ 1048576 := by have := Decidable.not_not.1 hbk0; omega
  have HSg := Num.hide (tokenSigns_of hL)
  have hsg := Cc.signs_lt HSg.out
  have HLm := Num.hide (Cc.lim_of hSh.out)
  have hlm := Cc.lim_lt HLm.out
  clear hL hSh
  have HS := Num.hide (fun v W h => Cc.dirs_spec v l0 W h hbn)
  have HI := Num.hide (fun v W h hm hS => Cc.dirs_impl v l0 W h hbn hm hS)
  have hL : (Cc.dirs l0).length ≤ 4194304 := by have := Cc.dirs_len l0; omega
  generalize Cc.dirs l0 = L at HS HI hL
  go_enter Tryd.func4, Tryd.ntmps4
  go_wp2_with fail
  refine (Num.unhide HZ0 _ HA0.out.1).mono ?_
  rintro e W1 ⟨rfl, hb⟩
  have BW1 := Num.hide hb
  have sW1 := hb.size
  clear hb HZ0 
  go_wp2_with fail
  refine (Flds.toFieldS_any a0 l0 _ (Flds.arg_stay HA0.out (Nat.le_refl _) BW1.out).1 hlen0).mono ?_
  rintro e W2 ⟨e0, rfl, ho, hb⟩
  have BW2 := Num.hide (Recs.below_step BW1.out hb)
  have sW2 := hb.size
  have Oe0W2 := Num.hide ho
  have De0 : Hid (∀ k, e0.ownBlock = some k → k < W2.heap.size) := fun k hk => (Recs.own_lt Oe0W2.out k hk).2
  clear ho hb BW1
  go_wp2_with fail
  refine (Num.unhide HS e0 _ (Recs.own_is Flds.cells_len Oe0W2.out)).mono ?_
  rintro e W3 ⟨vw, rfl, ho, hb⟩
  have BW3 := Num.hide (Recs.below_step BW2.out hb)
  have sW3 := hb.size
  have Oe0W3 := Num.hide (Recs.own_below Oe0W2.out hb)
  have OvwW3 := Num.hide ho
  have Dvw : Hid (∀ k, vw.ownBlock = some k → k < W3.heap.size) := fun k hk => (Recs.own_lt OvwW3.out k hk).2
  clear ho hb Oe0W2 BW2
  clear Oe0W3 De0
  go_wp2_with fail
  refine (Flds.toFieldS_any a0 l0 _ (Flds.arg_stay HA0.out (Nat.le_refl _) BW3.out).1 hlen0).mono ?_
  rintro e W4 ⟨x0, rfl, ho, hb⟩
  have BW4 := Num.hide (Recs.below_step BW3.out hb)
  have sW4 := hb.size
  have OvwW4 := Num.hide (Recs.own_below OvwW3.out hb)
  have Ox0W4 := Num.hide ho
  have Dx0 : Hid (∀ k, x0.ownBlock = some k → k < W4.heap.size) := fun k hk => (Recs.own_lt Ox0W4.out k hk).2
  clear ho hb OvwW3 BW3
  go_wp2_with fail
  refine (Num.unhide HI x0 _ (Recs.own_is Flds.cells_len Ox0W4.out) (Cc.lim_below HLm.out BW4.out hlm) (Cc.signs_below HSg.out BW4.out hsg)).mono ?_
  rintro e W5 ⟨vg, rfl, ho, hb⟩
  have BW5 := Num.hide (Recs.below_step BW4.out hb)
  have sW5 := hb.size
  have OvwW5 := Num.hide (Recs.own_below OvwW4.out hb)
  have Ox0W5 := Num.hide (Recs.own_below Ox0W4.out hb)
  have OvgW5 := Num.hide ho
  have Dvg : Hid (∀ k, vg.ownBlock = some k → k < W5.heap.size) := fun k hk => (Recs.own_lt OvgW5.out k hk).2
  clear ho hb OvwW4 Ox0W4 BW4
  go_wp2_with fail
  refine (Dirs.eq_any vg vw L L _ (Recs.own_is Flds.cells_len OvgW5.out) (Recs.own_is Flds.cells_len OvwW5.out) (by omega)).mono ?_
  rintro e W6 ⟨rfl, hb⟩
  rw [decide_eq_true (rfl : L = L)]
  have BW6 := Num.hide (Recs.below_step BW5.out hb)
  have sW6 := hb.size
  have OvwW6 := Num.hide (Recs.own_below OvwW5.out hb)
  have Ox0W6 := Num.hide (Recs.own_below Ox0W5.out hb)
  have OvgW6 := Num.hide (Recs.own_below OvgW5.out hb)
  clear hb OvwW5 Ox0W5 OvgW5 BW5
  go_wp2_with fail
  refine (Flds.toFieldS_any a0 l0 _ (Flds.arg_stay HA0.out (Nat.le_refl _) BW6.out).1 hlen0).mono ?_
  rintro e W7 ⟨y0, rfl, ho, hb⟩
  have BW7 := Num.hide (Recs.below_step BW6.out hb)
  have sW7 := hb.size
  have OvwW7 := Num.hide (Recs.own_below OvwW6.out hb)
  have Ox0W7 := Num.hide (Recs.own_below Ox0W6.out hb)
  have OvgW7 := Num.hide (Recs.own_below OvgW6.out hb)
  have Oy0W7 := Num.hide ho
  have Dy0 : Hid (∀ k, y0.ownBlock = some k → k < W7.heap.size) := fun k hk => (Recs.own_lt Oy0W7.out k hk).2
  clear ho hb OvwW6 Ox0W6 OvgW6 BW6
  go_wp2_with fail
  refine (Flds.eq_any x0 y0 l0 l0 _ (Recs.own_is Flds.cells_len Ox0W7.out) (Recs.own_is Flds.cells_len Oy0W7.out) (by omega)).mono ?_
  rintro e W8 ⟨rfl, hb⟩
  rw [decide_eq_true (rfl : l0 = l0)]
  have BW8 := Num.hide (Recs.below_step BW7.out hb)
  have sW8 := hb.size
  have OvwW8 := Num.hide (Recs.own_below OvwW7.out hb)
  have Ox0W8 := Num.hide (Recs.own_below Ox0W7.out hb)
  have OvgW8 := Num.hide (Recs.own_below OvgW7.out hb)
  have Oy0W8 := Num.hide (Recs.own_below Oy0W7.out hb)
  clear hb OvwW7 Ox0W7 OvgW7 Oy0W7 BW7
  clear Oy0W8 Dy0
  go_wp2_with fail
  refine (Flds.mark_any _ x0 l0 1 _ Ox0W8.out (by omega) (by omega) (by omega)).mono ?_
  rintro e W9 ⟨rfl, ho, hg⟩
  have sW9 := hg.size
  have BW9 := Num.hide (BW8.out.trans (Recs.below_mark Ox0W8.out (by omega) (by omega) hg))
  have OvwW9 := Num.hide (Recs.own_kept OvwW8.out hg (Recs.apart (fun k hk => ⟨(Recs.own_lt OvwW8.out k hk).1, Num.unhide Dvw k hk⟩) (fun k hk => ⟨(Recs.own_lt Ox0W8.out k hk).1, Num.unhide Dx0 k hk⟩) (by omega)))
  have OvgW9 := Num.hide (Recs.own_kept OvgW8.out hg (Recs.apart (fun k hk => ⟨(Recs.own_lt OvgW8.out k hk).1, Num.unhide Dvg k hk⟩) (fun k hk => ⟨(Recs.own_lt Ox0W8.out k hk).1, Num.unhide Dx0 k hk⟩) (by omega)))
  have Ox0W9 := Num.hide ho
  clear ho hg BW8 Ox0W8 OvwW8 OvgW8
  have dk : decide (1 + 2 * l0.length < (0 : Int)) = false := by simp; omega
  go_wp2_with fail
  refine (Dirs.eq_any vg vw L L _ (Recs.own_is Flds.cells_len OvgW9.out) (Recs.own_is Flds.cells_len OvwW9.out) (by omega)).mono ?_
  rintro e W10 ⟨rfl, hb⟩
  rw [decide_eq_true (rfl : L = L)]
  have BW10 := Num.hide (Recs.below_step BW9.out hb)
  have sW10 := hb.size
  have OvwW10 := Num.hide (Recs.own_below OvwW9.out hb)
  have Ox0W10 := Num.hide (Recs.own_below Ox0W9.out hb)
  have OvgW10 := Num.hide (Recs.own_below OvgW9.out hb)
  clear hb OvwW9 Ox0W9 OvgW9 BW9
  clear Ox0W10 Dx0
  go_wp2_with fail
  refine (Dirs.mark_any _ vg L 1 _ OvgW10.out (by omega) (by omega) (by omega)).mono ?_
  rintro e W11 ⟨rfl, ho, hg⟩
  have sW11 := hg.size
  have BW11 := Num.hide (BW10.out.trans (Recs.below_mark OvgW10.out (by omega) (by omega) hg))
  have OvwW11 := Num.hide (Recs.own_kept OvwW10.out hg (Recs.apart (fun k hk => ⟨(Recs.own_lt OvwW10.out k hk).1, Num.unhide Dvw k hk⟩) (fun k hk => ⟨(Recs.own_lt OvgW10.out k hk).1, Num.unhide Dvg k hk⟩) (by omega)))
  have OvgW11 := Num.hide ho
  clear ho hg BW10 OvgW10 OvwW10
  go_wp2_with fail
  refine (Dirs.held_any vg L.length 1 _ (Recs.own_is Flds.cells_len OvgW11.out) (by omega) (by omega) (by omega)).mono ?_
  rintro e W12 ⟨rfl, hb⟩
  have BW12 := Num.hide (Recs.below_step BW11.out hb)
  have sW12 := hb.size
  have OvwW12 := Num.hide (Recs.own_below OvwW11.out hb)
  have OvgW12 := Num.hide (Recs.own_below OvgW11.out hb)
  clear hb OvwW11 OvgW11 BW11
  go_wp2_with fail
  refine (Flds.toFieldS_any a0 l0 _ (Flds.arg_stay HA0.out (Nat.le_refl _) BW12.out).1 hlen0).mono ?_
  rintro e W13 ⟨z0, rfl, ho, hb⟩
  have BW13 := Num.hide (Recs.below_step BW12.out hb)
  have sW13 := hb.size
  have OvwW13 := Num.hide (Recs.own_below OvwW12.out hb)
  have OvgW13 := Num.hide (Recs.own_below OvgW12.out hb)
  have Oz0W13 := Num.hide ho
  have Dz0 : Hid (∀ k, z0.ownBlock = some k → k < W13.heap.size) := fun k hk => (Recs.own_lt Oz0W13.out k hk).2
  clear ho hb OvwW12 OvgW12 BW12
  go_wp2_with fail
  refine (Num.unhide HI z0 _ (Recs.own_is Flds.cells_len Oz0W13.out) (Cc.lim_below HLm.out BW13.out hlm) (Cc.signs_below HSg.out BW13.out hsg)).mono ?_
  rintro e W14 ⟨vh, rfl, ho, hb⟩
  have BW14 := Num.hide (Recs.below_step BW13.out hb)
  have sW14 := hb.size
  have OvwW14 := Num.hide (Recs.own_below OvwW13.out hb)
  have OvgW14 := Num.hide (Recs.own_below OvgW13.out hb)
  have Oz0W14 := Num.hide (Recs.own_below Oz0W13.out hb)
  have OvhW14 := Num.hide ho
  have Dvh : Hid (∀ k, vh.ownBlock = some k → k < W14.heap.size) := fun k hk => (Recs.own_lt OvhW14.out k hk).2
  clear ho hb OvwW13 OvgW13 Oz0W13 BW13
  clear Oz0W14 Dz0
  go_wp2_with fail
  refine (Dirs.eq_any vh vw L L _ (Recs.own_is Flds.cells_len OvhW14.out) (Recs.own_is Flds.cells_len OvwW14.out) (by omega)).mono ?_
  rintro e W15 ⟨rfl, hb⟩
  rw [decide_eq_true (rfl : L = L)]
  have BW15 := Num.hide (Recs.below_step BW14.out hb)
  have sW15 := hb.size
  have OvwW15 := Num.hide (Recs.own_below OvwW14.out hb)
  have OvgW15 := Num.hide (Recs.own_below OvgW14.out hb)
  have OvhW15 := Num.hide (Recs.own_below OvhW14.out hb)
  clear hb OvwW14 OvgW14 OvhW14 BW14
  clear OvhW15 Dvh
  go_wp2_with fail
  refine (Dirs.held_any vg L.length 1 _ (Recs.own_is Flds.cells_len OvgW15.out) (by omega) (by omega) (by omega)).mono ?_
  rintro e W16 ⟨rfl, hb⟩
  have BW16 := Num.hide (Recs.below_step BW15.out hb)
  have sW16 := hb.size
  have OvwW16 := Num.hide (Recs.own_below OvwW15.out hb)
  have OvgW16 := Num.hide (Recs.own_below OvgW15.out hb)
  clear hb OvwW15 OvgW15 BW15
  go_wp2
  go_ret
  exact ⟨rfl, BW16.out⟩

set_option maxRecDepth 100000 in
theorem contract (H : Type) (enc : TypeId × Value → H) (W : World) (base : Nat) (args : Array Value) (ds gs : List (DataW H)) (before : List MemPlace)
    (hval : ∀ (j : Nat) t v, Tryd.f4.params[j]? = some t → args[j]? = some v → Value.okWide Tryd.prog W .any base t v)
    (hW : DataW.Whole enc Tryd.prog Tryd.f4.params.toList Rows.fnExactDirectivesSpec.vars false W args.toList ds gs before) (hL : laidMetH Tryd.prog Rows.fnExactDirectivesRow.laid W) (hSh : W.ShapedOpen Tryd.prog) :
    Calls Tryd.prog 4 args W fun e W' => ∃ v, e = .returned v ∧ Rows.fnExactDirectivesSpec.post enc Tryd.prog Tryd.f4 false true false false W args v W' := by
  have hW' := hW
  obtain ⟨p, q, hA0, hV, rfl, hfz, hnd⟩ := hW
  have hA : DataW.TrodAll enc Tryd.prog W 0 (fun _ => true) true Tryd.f4.params.toList args.toList ds p := hA0
  rw [Tryd.params4] at hA hval
  obtain ⟨v0, vs0, d0, ds0, p0, q0, hargs, rfl, rfl, h0, r0⟩ := trodAll_cons hA
  obtain ⟨rfl, rfl, rfl⟩ := trodAll_nil r0
  obtain rfl : args = #[v0] := by cases args; simp_all
  obtain ⟨vg, vt, vcs, vf, vd, vp, rfl, vhg, vht, vhv, vhd, rfl⟩ := trodVars_one hV
  obtain rfl : 0 = vg := Option.some.inj (Eq.trans (by kernel_rfl) vhg)
  obtain rfl : 92 = vt := Option.some.inj ((show (Tryd.prog.globals[0]?).map (·.type) = some 92 by kernel_rfl).symm.trans vht)
  have k0 := h0
  have lt0 : ∀ x ∈ p0, x.block < W.heap.size := by obtain ⟨m, hm⟩ := k0; exact DataW.trod_lt m _ _ _ hm
  obtain ⟨l0, w0⟩ := Flds.opened (hval 0 36 v0 rfl rfl) h0
  clear hA0
  refine (walk W hSh hL v0 l0 w0).mono fun e W' ⟨he, bel⟩ => ?_
  subst he
  have vlt : 0 < W.heap.size := by
    unfold World.var? at vhv
    rw [vhg, Option.bind_some] at vhv
    split at vhv
    · next hgg => exact (Array.getElem?_eq_some_iff.1 hgg).1
    · cases vhv
  obtain ⟨vf2, vhd2⟩ : DataW.Trod enc Tryd.prog W' 0 (fun b => decide (b < W.heap.size)) true 92 (.agg vcs) vd vp := Below.trod laidOut (by kernel_rfl) (of_decide_eq_true (by kernel_rfl)) ⟨vf, vhd⟩ bel (DataW.trod_lt vf _ _ _ vhd)
  exact ⟨_, rfl, _, _, _, [], _, _, hW', trodAll_mk1 (shut_bool Tryd.underlying4 _), (trodAll_cons_mk (Below.trod laidOut (by kernel_rfl) (of_decide_eq_true (by kernel_rfl)) k0 bel lt0) trodAll_mk0), (trodVars_mk1 vhg vht (var?_below bel vhg vlt vhv) vhd2), bel.frame _, fun h => by cases h⟩

/-- a world for the witness: the settled one, the listed variables holding what their initialisers lay -/
def dataCell : DataW Unit → List Value
  | .lit (.int k n) => [Value.int k n]
  | _ => [undef]
def dataPart : DataW Unit → List Value
  | .agg l => l.flatMap dataCell
  | x => dataCell x
def dataCells : DataW Unit → Array Value
  | .agg l => (l.flatMap dataPart).toArray
  | _ => #[]
def laidWorld (w0 : World) : World := { w0 with heap := (((w0.heap.modify 3 fun | .cells _ t fr => .cells (dataCells Rows.laid_unicode_utf8_acceptRanges) t fr | o => o).modify 0 fun | .cells _ t fr => .cells (dataCells Rows.laid_loop_example_g01402_impl_tokenSigns) t fr | o => o).modify 2 fun | .cells _ t fr => .cells (dataCells Rows.laid_unicode_utf8_first) t fr | o => o) }
theorem laid_met (os : Os) : laidMet Tryd.prog Rows.fnExactDirectivesRow.laid ((laidWorld (World.holding Tryd.prog os ⟨#[], #[], []⟩)).forCall (fun _ _ => 0) ⟨#[], #[.slice none 0 0], []⟩).memory :=
  laidMet_of_run3 8 (by kernel_rfl) (by kernel_rfl) (by kernel_rfl)
theorem reads (os : Os) {H : Type} (enc : TypeId × Value → H) : ∃ places, DataW.whole enc Tryd.prog ((laidWorld (World.holding Tryd.prog os ⟨#[], #[], []⟩)).forCall (fun _ _ => 0) ⟨#[], #[.slice none 0 0], []⟩).memory Tryd.f4.params.toList Rows.fnExactDirectivesSpec.vars false #[.slice none 0 0].toList 8 = some ([.nil], [Rows.laid_loop_example_g01402_impl_tokenSigns], places) :=
  ⟨MemPlace.row ⟨0, 0, none⟩ 15 ++ [], by kernel_rfl⟩

set_option maxRecDepth 100000 in
theorem lifted (os : Os) (started : os.Started) (H : Type) (enc : TypeId × Value → H) (F : Stop.Interp) :
    ReturnsInHanded {} Tryd.checked os 4 .any ((OpenSpec.ofChange Rows.fnExactDirectivesSpec).preRow enc Tryd.prog Tryd.f4 Rows.fnExactDirectivesRow.domain false Rows.fnExactDirectivesRow.laid) (((OpenSpec.ofChange Rows.fnExactDirectivesSpec).at F).post enc Tryd.prog Tryd.f4 false true false false) := by
  obtain ⟨places, hx⟩ := reads os enc
  refine returnsInHanded_of_row (C := Tryd.checked) (s := OpenSpec.ofChange Rows.fnExactDirectivesSpec) own started (by kernel_rfl) Tryd.func4
    (witness_row_at (enc := enc) (C := Tryd.checked) false (laidWorld (World.holding Tryd.prog os ⟨#[], #[], []⟩)) #[.slice none 0 0] rfl (by kernel_rfl) (by kernel_rfl) (by kernel_rfl)
      (OpenSpec.preRow_of_cond 8 hx (by kernel_rfl) (fun k hk => by cases hk) (by kernel_rfl) (laid_met os))) ?_
  intro W base args ds gs before hval hW _ _ _ hL hSh _
  exact contract H enc W base args ds gs before hval hW hL hSh

theorem said : Rows.FnExactDirectivesSaid :=
  OpenClaim.holds_of_cond 4 Tryd.f4 rfl rfl rfl rfl rfl rfl rfl ⟨rfl, rfl, rfl, rfl, rfl⟩ rfl rfl rfl rfl rfl (by kernel_rfl) Tryd.func4 (by kernel_rfl)
    (of_decide_eq_true (by kernel_rfl)) (by unfold Func.isWrapper; first | (rw [if_pos (by decide +kernel)]; kernel_rfl) | (rw [if_neg (by decide +kernel)]; exact ⟨rfl, rfl⟩))
    (fun os started H enc _ F => by rw [OpenClaim.pre_eq_preRow]; exact lifted os started H enc F)
theorem plain (f : FuncId) (fn : Func) (hf : Tryd.pinned.checked.prog.funcNamed Rows.fnExactDirectivesRow.func = some f) (hfn : Tryd.pinned.checked.prog.funcs[f]? = some fn) :
    false = Tryd.pinned.checked.prog.looks [] ∧ ∀ (j : Nat) t, fn.params[j]? = some t → Tryd.pinned.checked.prog.wantsStandIn t = false := by
  obtain rfl : f = 4 := Option.some.inj ((show Tryd.prog.funcNamed Rows.fnExactDirectivesRow.func = some 4 by kernel_rfl).symm.trans hf) |>.symm
  obtain rfl : fn = Tryd.f4 := (Option.some.inj (Tryd.func4.symm.trans hfn)).symm
  refine ⟨by kernel_rfl, fun j t ht => ?_⟩
  rw [Tryd.params4] at ht
  obtain rfl : t = 36 := by simpa using Array.mem_of_getElem? ht
  exact (show Tryd.prog.wantsStandIn 36 = false by kernel_rfl)
end Go.Proofs.YtanimnjiolgknaaDoor.fnExactDirectives
namespace Go.Proofs.YtanimnjiolgknaaDoor
theorem fnExactDirectives_card : Rows.FnExactDirectivesCardSaid :=
  Claim7.holds_tied_plain_at .later [] _ _ _ _ fnExactDirectives.said (fun _ h => by cases h) (by kernel_rfl) (fun _ h => by cases h) fnExactDirectives_row_tie rfl ⟨rfl, rfl⟩ (by kernel_rfl) rfl fnExactDirectives.plain (by kernel_rfl)
#print axioms fnExactDirectives_card
end Go.Proofs.YtanimnjiolgknaaDoor
