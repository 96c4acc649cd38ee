/-
  FnExactStorable: at every request and every answer the program's Storable answers as the specification's, and leaves its arguments as they were, where the program's table of signs and the library's tables start as their text lays them (the card ties them; the law itself lets by what holds more than 2^20 bytes and fields).
-/
import Derived.Test.YtbcjpjhpobmpbaaGreatDoorCards
import Derived.Test.YtbcjpjhpobmpbaaGreatDoorTie
import Derived.Test.YtbcjpjhpobmpbaaGreatDoorPal
import Derived.Test.YtbcjpjhpobmpbaaGreatDoorPat
import Derived.WalkKit
import Derived.WalkLawsBesides
import Derived.ProofKit
import Derived.OpenShut
import Derived.ShutString
import Derived.Below
import Derived.WalkSmall
import Derived.ChangeVars
import Derived.Carry
import Derived.Deep.DeepHandedRow
import Derived.Deep.DeepLaidRun
import Derived.Lib.LaidTab
import Derived.Stop.LaidErr
namespace Go.Proofs.YtbcjpjhpobmpbaaGreatDoor.fnExactStorable
open Go.ChangeShapes Go.WideShapes Go.ChangeAt Go.RowKit
open Go.ChangeMaps (open_string shut_string)
set_option linter.unusedVariables false

theorem own : ownKnob Tryz.prog.godebug = none := by kernel_rfl
theorem laidOut : laidOutB Tryz.prog = true := by kernel_rfl
theorem tokenSigns_of {W : World} (h : laidMetH Tryz.prog Rows.fnExactStorableRow.laid W) : ∀ i, i < 15 → W.cell? ⟨0, i, none⟩ = some (.int .u8 (([33, 35, 36, 37, 38, 39, 42, 43, 45, 46, 94, 95, 124, 126, 96] : List Int).getD i 0)) := by
  have h0 : laidMet Tryz.prog Rows.fnExactStorableRow.laid W := h
  intro i hi
  exact (Lib.tabIs_of_head (g := 0) (t := 161) (zs := [33, 35, 36, 37, 38, 39, 42, 43, 45, 46, 94, 95, 124, 126, 96]) (by kernel_rfl) (by kernel_rfl) Tryz.underlying161 Tryz.underlying5 (by kernel_rfl) (by kernel_rfl) h0.tail).cell (by kernel_rfl) i hi


set_option maxRecDepth 100000 in
set_option maxHeartbeats 1000000 in
theorem walk (w : World) (hSh : Hid (w.ShapedOpen Tryz.prog)) (hL : laidMetH Tryz.prog Rows.fnExactStorableRow.laid w) (a0 : Value) (m0 q0 : ByteArray) (l0 : List Flds.Fld) (b0 : ByteArray) (w0 : Req.Arg w a0 m0 q0 l0 b0) (a1 : Value) (s1 : Int) (l1 : List Flds.Fld) (b1 : ByteArray) (w1 : Resp.Arg w a1 s1 l1 b1) :
    Calls Tryz.prog 3 #[a0, a1] w fun e w' => e = .returned (.bool true) ∧ Below w.heap.size w w' := by
  have hE : Pol.LimS w := ⟨Cc.lim_of hSh.out, tokenSigns_of hL⟩
  clear hL hSh
  obtain ⟨a0, rfl, HA0, hm0, hq0, hb0⟩ := w0
  obtain ⟨a1, rfl, HA1, hb1, hs1⟩ := w1
  exact Pol.storable_law (fun W => Pol.LimS W) (fun W W' h hb => h.below hb) (fun m u st v1 v2 l1 l2 b1 b2 W h1 h2 hk1 hk2 g => Pol.storable_impl m u st v1 v2 l1 l2 b1 b2 W h1 h2 (by omega) hk2 g) _ _ _ _ _ _ _ _ _ w HA0 HA1 hm0 hq0 hb0 hb1 hE

set_option maxRecDepth 100000 in
theorem contract (H : Type) (enc : TypeId × Value → H) (W : World) (base : Nat) (args : Array Value) (ds gs : List (DataW H)) (before : List MemPlace)
    (hval : ∀ (j : Nat) t v, Tryz.f3.params[j]? = some t → args[j]? = some v → Value.okWide Tryz.prog W .any base t v)
    (hW : DataW.Whole enc Tryz.prog Tryz.f3.params.toList Rows.fnExactStorableSpec.vars false W args.toList ds gs before) (hL : laidMetH Tryz.prog Rows.fnExactStorableRow.laid W) (hSh : W.ShapedOpen Tryz.prog) :
    Calls Tryz.prog 3 args W fun e W' => ∃ v, e = .returned v ∧ Rows.fnExactStorableSpec.post enc Tryz.prog Tryz.f3 false true false false W args v W' := by
  have hW' := hW
  obtain ⟨p, q, hA0, hV, rfl, hfz, hnd⟩ := hW
  have hA : DataW.TrodAll enc Tryz.prog W 0 (fun _ => true) true Tryz.f3.params.toList args.toList ds p := hA0
  rw [Tryz.params3] at hA hval
  obtain ⟨v0, vs0, d0, ds0, p0, q0, hargs, rfl, rfl, h0, r0⟩ := trodAll_cons hA
  obtain ⟨v1, vs1, d1, ds1, p1, q1, rfl, rfl, rfl, h1, r1⟩ := trodAll_cons r0
  obtain ⟨rfl, rfl, rfl⟩ := trodAll_nil r1
  obtain rfl : args = #[v0, v1] := by cases args; simp_all
  obtain ⟨vg, vt, vcs, vf, vd, vp, rfl, vhg, vht, vhv, vhd, rfl⟩ := trodVars_one hV
  obtain rfl : 0 = vg := Option.some.inj (Eq.trans (by kernel_rfl) vhg)
  obtain rfl : 161 = vt := Option.some.inj ((show (Tryz.prog.globals[0]?).map (·.type) = some 161 by kernel_rfl).symm.trans vht)
  have k0 := h0
  have lt0 : ∀ x ∈ p0, x.block < W.heap.size := by obtain ⟨m, hm⟩ := k0; exact DataW.trod_lt m _ _ _ hm
  obtain ⟨m0, q0, l0, b0, w0⟩ := Req.opened (hval 0 24 v0 rfl rfl) h0
  have k1 := h1
  have lt1 : ∀ x ∈ p1, x.block < W.heap.size := by obtain ⟨m, hm⟩ := k1; exact DataW.trod_lt m _ _ _ hm
  obtain ⟨s1, l1, b1, w1⟩ := Resp.opened (hval 1 26 v1 rfl rfl) h1
  clear hA0
  refine (walk W hSh hL v0 m0 q0 l0 b0 w0 v1 s1 l1 b1 w1).mono fun e W' ⟨he, bel⟩ => ?_
  subst he
  have vlt : 0 < W.heap.size := by
    unfold World.var? at vhv
    rw [vhg, Option.bind_some] at vhv
    split at vhv
    · next hgg => exact (Array.getElem?_eq_some_iff.1 hgg).1
    · cases vhv
  obtain ⟨vf2, vhd2⟩ : DataW.Trod enc Tryz.prog W' 0 (fun b => decide (b < W.heap.size)) true 161 (.agg vcs) vd vp := Below.trod laidOut (by kernel_rfl) (of_decide_eq_true (by kernel_rfl)) ⟨vf, vhd⟩ bel (DataW.trod_lt vf _ _ _ vhd)
  exact ⟨_, rfl, _, _, _, [], _, _, hW', trodAll_mk1 (shut_bool Tryz.underlying4 _), (trodAll_cons_mk (Below.trod laidOut (by kernel_rfl) (of_decide_eq_true (by kernel_rfl)) k0 bel lt0) (trodAll_cons_mk (Below.trod laidOut (by kernel_rfl) (of_decide_eq_true (by kernel_rfl)) k1 bel lt1) trodAll_mk0)), (trodVars_mk1 vhg vht (var?_below bel vhg vlt vhv) vhd2), bel.frame _, fun h => by cases h⟩

/-- a world for the witness: the settled one, the listed variables holding what their initialisers lay -/
def dataCell : DataW Unit → List Value
  | .lit (.int k n) => [Value.int k n]
  | _ => [undef]
def dataPart : DataW Unit → List Value
  | .agg l => l.flatMap dataCell
  | x => dataCell x
def dataCells : DataW Unit → Array Value
  | .agg l => (l.flatMap dataPart).toArray
  | _ => #[]
def laidWorld (w0 : World) : World := { w0 with heap := (((w0.heap.modify 3 fun | .cells _ t fr => .cells (dataCells Rows.laid_unicode_utf8_acceptRanges) t fr | o => o).modify 0 fun | .cells _ t fr => .cells (dataCells Rows.laid_loop_example_g01402_impl_tokenSigns) t fr | o => o).modify 2 fun | .cells _ t fr => .cells (dataCells Rows.laid_unicode_utf8_first) t fr | o => o) }
theorem laid_met (os : Os) : laidMet Tryz.prog Rows.fnExactStorableRow.laid ((laidWorld (World.holding Tryz.prog os ⟨#[], #[], []⟩)).forCall (fun _ _ => 0) ⟨#[], #[.agg #[.string ByteArray.empty, .string ByteArray.empty, .slice none 0 0, .string ByteArray.empty], .agg #[.int .i64 0, .slice none 0 0, .string ByteArray.empty]], []⟩).memory :=
  laidMet_of_run3 8 (by kernel_rfl) (by kernel_rfl) (by kernel_rfl)
theorem reads (os : Os) {H : Type} (enc : TypeId × Value → H) : ∃ places, DataW.whole enc Tryz.prog ((laidWorld (World.holding Tryz.prog os ⟨#[], #[], []⟩)).forCall (fun _ _ => 0) ⟨#[], #[.agg #[.string ByteArray.empty, .string ByteArray.empty, .slice none 0 0, .string ByteArray.empty], .agg #[.int .i64 0, .slice none 0 0, .string ByteArray.empty]], []⟩).memory Tryz.f3.params.toList Rows.fnExactStorableSpec.vars false #[.agg #[.string ByteArray.empty, .string ByteArray.empty, .slice none 0 0, .string ByteArray.empty], .agg #[.int .i64 0, .slice none 0 0, .string ByteArray.empty]].toList 8 = some ([.agg [.lit (.string []), .lit (.string []), .nil, .lit (.string [])], .agg [.lit (.int .i64 0), .nil, .lit (.string [])]], [Rows.laid_loop_example_g01402_impl_tokenSigns], places) :=
  ⟨MemPlace.row ⟨0, 0, none⟩ 15 ++ [], by kernel_rfl⟩

set_option maxRecDepth 100000 in
theorem lifted (os : Os) (started : os.Started) (H : Type) (enc : TypeId × Value → H) (F : Stop.Interp) :
    ReturnsInHanded {} Tryz.checked os 3 .any ((OpenSpec.ofChange Rows.fnExactStorableSpec).preRow enc Tryz.prog Tryz.f3 Rows.fnExactStorableRow.domain false Rows.fnExactStorableRow.laid) (((OpenSpec.ofChange Rows.fnExactStorableSpec).at F).post enc Tryz.prog Tryz.f3 false true false false) := by
  obtain ⟨places, hx⟩ := reads os enc
  refine returnsInHanded_of_row (C := Tryz.checked) (s := OpenSpec.ofChange Rows.fnExactStorableSpec) own started (by kernel_rfl) Tryz.func3
    (witness_row_at (enc := enc) (C := Tryz.checked) false (laidWorld (World.holding Tryz.prog os ⟨#[], #[], []⟩)) #[.agg #[.string ByteArray.empty, .string ByteArray.empty, .slice none 0 0, .string ByteArray.empty], .agg #[.int .i64 0, .slice none 0 0, .string ByteArray.empty]] rfl (by kernel_rfl) (by kernel_rfl) (by kernel_rfl)
      (OpenSpec.preRow_of_cond 8 hx (by kernel_rfl) (fun k hk => by cases hk) (by kernel_rfl) (laid_met os))) ?_
  intro W base args ds gs before hval hW _ _ _ hL hSh _
  exact contract H enc W base args ds gs before hval hW hL hSh

theorem said : Rows.FnExactStorableSaid :=
  OpenClaim.holds_of_cond 3 Tryz.f3 rfl rfl rfl rfl rfl rfl rfl ⟨rfl, rfl, rfl, rfl, rfl⟩ rfl rfl rfl rfl rfl (by kernel_rfl) Tryz.func3 (by kernel_rfl)
    (of_decide_eq_true (by kernel_rfl)) (by unfold Func.isWrapper; first | (rw [if_pos (by decide +kernel)]; kernel_rfl) | (rw [if_neg (by decide +kernel)]; exact ⟨rfl, rfl⟩))
    (fun os started H enc _ F => by rw [OpenClaim.pre_eq_preRow]; exact lifted os started H enc F)
theorem plain (f : FuncId) (fn : Func) (hf : Tryz.pinned.checked.prog.funcNamed Rows.fnExactStorableRow.func = some f) (hfn : Tryz.pinned.checked.prog.funcs[f]? = some fn) :
    false = Tryz.pinned.checked.prog.looks [] ∧ ∀ (j : Nat) t, fn.params[j]? = some t → Tryz.pinned.checked.prog.wantsStandIn t = false := by
  obtain rfl : f = 3 := Option.some.inj ((show Tryz.prog.funcNamed Rows.fnExactStorableRow.func = some 3 by kernel_rfl).symm.trans hf) |>.symm
  obtain rfl : fn = Tryz.f3 := (Option.some.inj (Tryz.func3.symm.trans hfn)).symm
  refine ⟨by kernel_rfl, fun j t ht => ?_⟩
  rw [Tryz.params3] at ht
  have hm := Array.mem_of_getElem? ht
  simp only [List.mem_toArray, List.mem_cons, List.not_mem_nil, or_false] at hm
  rcases hm with rfl | rfl
  · exact (show Tryz.prog.wantsStandIn 24 = false by kernel_rfl)
  · exact (show Tryz.prog.wantsStandIn 26 = false by kernel_rfl)
end Go.Proofs.YtbcjpjhpobmpbaaGreatDoor.fnExactStorable
namespace Go.Proofs.YtbcjpjhpobmpbaaGreatDoor
theorem fnExactStorable_card : Rows.FnExactStorableCardSaid :=
  Claim7.holds_tied_plain_at .later [] _ _ _ _ fnExactStorable.said (fun _ h => by cases h) (by kernel_rfl) (fun _ h => by cases h) fnExactStorable_row_tie rfl ⟨rfl, rfl⟩ (by kernel_rfl) rfl fnExactStorable.plain (by kernel_rfl)
#print axioms fnExactStorable_card
end Go.Proofs.YtbcjpjhpobmpbaaGreatDoor
