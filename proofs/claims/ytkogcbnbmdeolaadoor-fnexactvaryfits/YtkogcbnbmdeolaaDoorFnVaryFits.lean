/-
  FnExactVaryFits: at every request, every answer and every list of fields the program's VaryFits answers as the specification's, and leaves its arguments as they were, where the library's tables start as their text lays them (the card ties them; the law itself lets by what holds more than 2^20 bytes and fields).
-/
import Derived.Test.YtkogcbnbmdeolaaDoorCards
import Derived.Test.YtkogcbnbmdeolaaDoorTie
import Derived.Test.YtkogcbnbmdeolaaDoorPar
import Derived.Test.YtkogcbnbmdeolaaDoorPas
import Derived.Test.YtkogcbnbmdeolaaDoorPan
import Derived.Test.YtkogcbnbmdeolaaDoorPak
import Derived.Test.YtkogcbnbmdeolaaDoorPae
import Derived.WalkKit
import Derived.WalkLawsBesides
import Derived.ProofKit
import Derived.OpenShut
import Derived.ShutString
import Derived.Below
import Derived.WalkSmall
import Derived.ChangeVars
import Derived.Carry
import Derived.Deep.DeepHandedRow
import Derived.Deep.DeepLaidRun
import Derived.Lib.LaidTab
import Derived.Stop.LaidErr
namespace Go.Proofs.YtkogcbnbmdeolaaDoor.fnExactVaryFits
open Go.ChangeShapes Go.WideShapes Go.ChangeAt Go.RowKit
open Go.ChangeMaps (open_string shut_string)
set_option linter.unusedVariables false

theorem own : ownKnob Tryd.prog.godebug = none := by kernel_rfl
theorem laidOut : laidOutB Tryd.prog = true := by kernel_rfl



set_option maxRecDepth 100000 in
set_option maxHeartbeats 1000000 in
theorem walk (w : World) (hSh : Hid (w.ShapedOpen Tryd.prog)) (hL : laidMetH Tryd.prog Rows.fnExactVaryFitsRow.laid w) (a0 : Value) (m0 q0 : ByteArray) (l0 : List Flds.Fld) (b0 : ByteArray) (w0 : Req.Arg w a0 m0 q0 l0 b0) (a1 : Value) (s1 : Int) (l1 : List Flds.Fld) (b1 : ByteArray) (w1 : Resp.Arg w a1 s1 l1 b1) (a2 : Value) (l2 : List Flds.Fld) (w2 : Flds.Arg w a2 l2) :
    Calls Tryd.prog 8 #[a0, a1, a2] w fun e w' => e = .returned (.bool true) ∧ Below w.heap.size w w' := by
  clear hL hSh
  obtain ⟨a0, rfl, HA0, hm0, hq0, hb0⟩ := w0
  obtain ⟨a1, rfl, HA1, hb1, hs1⟩ := w1
  exact Vary.varyFits_law (fun _ => True) (fun _ _ _ _ => trivial) (fun m q v0 l0 b0 s v1 l1 b1 v2 l2 W h1 h2 h3 hk1 hk2 hk3 _ => Vary.varyFits_impl m q s v0 v1 v2 l0 l1 l2 b0 b1 W h1 h2 h3 (by omega) (by omega) (by have := Flds.len_le l2; omega)) _ _ _ _ _ _ _ _ _ _ _ w HA0 HA1 w2 hm0 hq0 hb0 hb1 trivial

set_option maxRecDepth 100000 in
theorem contract (H : Type) (enc : TypeId × Value → H) (W : World) (base : Nat) (args : Array Value) (ds gs : List (DataW H)) (before : List MemPlace)
    (hval : ∀ (j : Nat) t v, Tryd.f8.params[j]? = some t → args[j]? = some v → Value.okWide Tryd.prog W .any base t v)
    (hW : DataW.Whole enc Tryd.prog Tryd.f8.params.toList Rows.fnExactVaryFitsSpec.vars false W args.toList ds gs before) (hL : laidMetH Tryd.prog Rows.fnExactVaryFitsRow.laid W) (hSh : W.ShapedOpen Tryd.prog) :
    Calls Tryd.prog 8 args W fun e W' => ∃ v, e = .returned v ∧ Rows.fnExactVaryFitsSpec.post enc Tryd.prog Tryd.f8 false true false false W args v W' := by
  have hW' := hW
  obtain ⟨p, q, hA0, hV, rfl, hfz, hnd⟩ := hW
  have hA : DataW.TrodAll enc Tryd.prog W 0 (fun _ => true) true Tryd.f8.params.toList args.toList ds p := hA0
  rw [Tryd.params8] at hA hval
  obtain ⟨v0, vs0, d0, ds0, p0, q0, hargs, rfl, rfl, h0, r0⟩ := trodAll_cons hA
  obtain ⟨v1, vs1, d1, ds1, p1, q1, rfl, rfl, rfl, h1, r1⟩ := trodAll_cons r0
  obtain ⟨v2, vs2, d2, ds2, p2, q2, rfl, rfl, rfl, h2, r2⟩ := trodAll_cons r1
  obtain ⟨rfl, rfl, rfl⟩ := trodAll_nil r2
  obtain rfl : args = #[v0, v1, v2] := by cases args; simp_all
  obtain ⟨rfl, rfl⟩ := trodVars_none hV
  have k0 := h0
  have lt0 : ∀ x ∈ p0, x.block < W.heap.size := by obtain ⟨m, hm⟩ := k0; exact DataW.trod_lt m _ _ _ hm
  obtain ⟨m0, q0, l0, b0, w0⟩ := Req.opened (hval 0 56 v0 rfl rfl) h0
  have k1 := h1
  have lt1 : ∀ x ∈ p1, x.block < W.heap.size := by obtain ⟨m, hm⟩ := k1; exact DataW.trod_lt m _ _ _ hm
  obtain ⟨s1, l1, b1, w1⟩ := Resp.opened (hval 1 46 v1 rfl rfl) h1
  have k2 := h2
  have lt2 : ∀ x ∈ p2, x.block < W.heap.size := by obtain ⟨m, hm⟩ := k2; exact DataW.trod_lt m _ _ _ hm
  obtain ⟨l2, w2⟩ := Flds.opened (hval 2 44 v2 rfl rfl) h2
  clear hA0
  refine (walk W hSh hL v0 m0 q0 l0 b0 w0 v1 s1 l1 b1 w1 v2 l2 w2).mono fun e W' ⟨he, bel⟩ => ?_
  subst he
  exact ⟨_, rfl, _, _, _, [], _, [], hW', trodAll_mk1 (shut_bool Tryd.underlying4 _), (trodAll_cons_mk (Below.trod laidOut (by kernel_rfl) (of_decide_eq_true (by kernel_rfl)) k0 bel lt0) (trodAll_cons_mk (Below.trod laidOut (by kernel_rfl) (of_decide_eq_true (by kernel_rfl)) k1 bel lt1) (trodAll_cons_mk (Below.trod laidOut (by kernel_rfl) (of_decide_eq_true (by kernel_rfl)) k2 bel lt2) trodAll_mk0))), rfl, bel.frame _, fun h => by cases h⟩

/-- a world for the witness: the settled one, the listed variables holding what their initialisers lay -/
def dataCell : DataW Unit → List Value
  | .lit (.int k n) => [Value.int k n]
  | _ => [undef]
def dataPart : DataW Unit → List Value
  | .agg l => l.flatMap dataCell
  | x => dataCell x
def dataCells : DataW Unit → Array Value
  | .agg l => (l.flatMap dataPart).toArray
  | _ => #[]
def laidWorld (w0 : World) : World := { w0 with heap := ((w0.heap.modify 1 fun | .cells _ t fr => .cells (dataCells Rows.laid_unicode_utf8_acceptRanges) t fr | o => o).modify 0 fun | .cells _ t fr => .cells (dataCells Rows.laid_unicode_utf8_first) t fr | o => o) }
theorem laid_met (os : Os) : laidMet Tryd.prog Rows.fnExactVaryFitsRow.laid ((laidWorld (World.holding Tryd.prog os ⟨#[], #[], []⟩)).forCall (fun _ _ => 0) ⟨#[], #[.agg #[.string ByteArray.empty, .string ByteArray.empty, .slice none 0 0, .string ByteArray.empty], .agg #[.int .i64 0, .slice none 0 0, .string ByteArray.empty], .slice none 0 0], []⟩).memory :=
  laidMet_of_run3 8 (by kernel_rfl) (by kernel_rfl) (by kernel_rfl)
theorem reads (os : Os) {H : Type} (enc : TypeId × Value → H) : ∃ places, DataW.whole enc Tryd.prog ((laidWorld (World.holding Tryd.prog os ⟨#[], #[], []⟩)).forCall (fun _ _ => 0) ⟨#[], #[.agg #[.string ByteArray.empty, .string ByteArray.empty, .slice none 0 0, .string ByteArray.empty], .agg #[.int .i64 0, .slice none 0 0, .string ByteArray.empty], .slice none 0 0], []⟩).memory Tryd.f8.params.toList Rows.fnExactVaryFitsSpec.vars false #[.agg #[.string ByteArray.empty, .string ByteArray.empty, .slice none 0 0, .string ByteArray.empty], .agg #[.int .i64 0, .slice none 0 0, .string ByteArray.empty], .slice none 0 0].toList 8 = some ([.agg [.lit (.string []), .lit (.string []), .nil, .lit (.string [])], .agg [.lit (.int .i64 0), .nil, .lit (.string [])], .nil], [], places) :=
  ⟨[], by kernel_rfl⟩

set_option maxRecDepth 100000 in
theorem lifted (os : Os) (started : os.Started) (H : Type) (enc : TypeId × Value → H) (F : Stop.Interp) :
    ReturnsInHanded {} Tryd.checked os 8 .any ((OpenSpec.ofChange Rows.fnExactVaryFitsSpec).preRow enc Tryd.prog Tryd.f8 Rows.fnExactVaryFitsRow.domain false Rows.fnExactVaryFitsRow.laid) (((OpenSpec.ofChange Rows.fnExactVaryFitsSpec).at F).post enc Tryd.prog Tryd.f8 false true false false) := by
  obtain ⟨places, hx⟩ := reads os enc
  refine returnsInHanded_of_row (C := Tryd.checked) (s := OpenSpec.ofChange Rows.fnExactVaryFitsSpec) own started (by kernel_rfl) Tryd.func8
    (witness_row_at (enc := enc) (C := Tryd.checked) false (laidWorld (World.holding Tryd.prog os ⟨#[], #[], []⟩)) #[.agg #[.string ByteArray.empty, .string ByteArray.empty, .slice none 0 0, .string ByteArray.empty], .agg #[.int .i64 0, .slice none 0 0, .string ByteArray.empty], .slice none 0 0] rfl (by kernel_rfl) (by kernel_rfl) (by kernel_rfl)
      (OpenSpec.preRow_of_cond 8 hx (by kernel_rfl) (fun k hk => by cases hk) (by kernel_rfl) (laid_met os))) ?_
  intro W base args ds gs before hval hW _ _ _ hL hSh _
  exact contract H enc W base args ds gs before hval hW hL hSh

theorem said : Rows.FnExactVaryFitsSaid :=
  OpenClaim.holds_of_cond 8 Tryd.f8 rfl rfl rfl rfl rfl rfl rfl ⟨rfl, rfl, rfl, rfl, rfl⟩ rfl rfl rfl rfl rfl (by kernel_rfl) Tryd.func8 (by kernel_rfl)
    (of_decide_eq_true (by kernel_rfl)) (by unfold Func.isWrapper; first | (rw [if_pos (by decide +kernel)]; kernel_rfl) | (rw [if_neg (by decide +kernel)]; exact ⟨rfl, rfl⟩))
    (fun os started H enc _ F => by rw [OpenClaim.pre_eq_preRow]; exact lifted os started H enc F)
theorem plain (f : FuncId) (fn : Func) (hf : Tryd.pinned.checked.prog.funcNamed Rows.fnExactVaryFitsRow.func = some f) (hfn : Tryd.pinned.checked.prog.funcs[f]? = some fn) :
    false = Tryd.pinned.checked.prog.looks [] ∧ ∀ (j : Nat) t, fn.params[j]? = some t → Tryd.pinned.checked.prog.wantsStandIn t = false := by
  obtain rfl : f = 8 := Option.some.inj ((show Tryd.prog.funcNamed Rows.fnExactVaryFitsRow.func = some 8 by kernel_rfl).symm.trans hf) |>.symm
  obtain rfl : fn = Tryd.f8 := (Option.some.inj (Tryd.func8.symm.trans hfn)).symm
  refine ⟨by kernel_rfl, fun j t ht => ?_⟩
  rw [Tryd.params8] at ht
  have hm := Array.mem_of_getElem? ht
  simp only [List.mem_toArray, List.mem_cons, List.not_mem_nil, or_false] at hm
  rcases hm with rfl | rfl | rfl
  · exact (show Tryd.prog.wantsStandIn 56 = false by kernel_rfl)
  · exact (show Tryd.prog.wantsStandIn 46 = false by kernel_rfl)
  · exact (show Tryd.prog.wantsStandIn 44 = false by kernel_rfl)
end Go.Proofs.YtkogcbnbmdeolaaDoor.fnExactVaryFits
namespace Go.Proofs.YtkogcbnbmdeolaaDoor
theorem fnExactVaryFits_card : Rows.FnExactVaryFitsCardSaid :=
  Claim7.holds_tied_plain_at .later [] _ _ _ _ fnExactVaryFits.said (fun _ h => by cases h) (by kernel_rfl) (fun _ h => by cases h) fnExactVaryFits_row_tie rfl ⟨rfl, rfl⟩ (by kernel_rfl) rfl fnExactVaryFits.plain (by kernel_rfl)
#print axioms fnExactVaryFits_card
end Go.Proofs.YtkogcbnbmdeolaaDoor
