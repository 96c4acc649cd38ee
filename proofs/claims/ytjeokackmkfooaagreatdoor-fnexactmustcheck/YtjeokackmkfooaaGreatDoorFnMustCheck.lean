/-
  FnExactMustCheck: at every request, every answer and all times the program's MustCheck answers as the specification's, and leaves its arguments as they were, where the program's table of signs and the library's tables start as their text lays them (the card ties them; the law itself lets by what holds more than 2^20 bytes and fields).
-/
import Derived.Test.YtjeokackmkfooaaGreatDoorCards
import Derived.Test.YtjeokackmkfooaaGreatDoorTie
import Derived.Test.YtjeokackmkfooaaGreatDoorPau
import Derived.Test.YtjeokackmkfooaaGreatDoorPaz
import Derived.Test.YtjeokackmkfooaaGreatDoorPak
import Derived.Test.YtjeokackmkfooaaGreatDoorPas
import Derived.WalkKit
import Derived.WalkLawsBesides
import Derived.ProofKit
import Derived.OpenShut
import Derived.ShutString
import Derived.Below
import Derived.WalkSmall
import Derived.ChangeVars
import Derived.Carry
import Derived.Deep.DeepHandedRow
import Derived.Deep.DeepLaidRun
import Derived.Lib.LaidTab
import Derived.Stop.LaidErr
namespace Go.Proofs.YtjeokackmkfooaaGreatDoor.fnExactMustCheck
open Go.ChangeShapes Go.WideShapes Go.ChangeAt Go.RowKit
open Go.ChangeMaps (open_string shut_string)
set_option linter.unusedVariables false

theorem own : ownKnob Tryz.prog.godebug = none := by kernel_rfl
theorem laidOut : laidOutB Tryz.prog = true := by kernel_rfl
theorem deBruijn32tab_of {W : World} (h : laidMetH Tryz.prog Rows.fnExactMustCheckRow.laid W) : ∀ i, i < 32 → W.cell? ⟨5, i, none⟩ = some (.int .u8 (([0, 1, 28, 2, 29, 14, 24, 3, 30, 22, 20, 15, 25, 17, 4, 8, 31, 27, 13, 23, 21, 19, 16, 7, 26, 12, 18, 6, 11, 5, 10, 9] : List Int).getD i 0)) := by
  have h0 : laidMet Tryz.prog Rows.fnExactMustCheckRow.laid W := h
  intro i hi
  exact (Lib.tabIs_of_head (g := 5) (t := 193) (zs := [0, 1, 28, 2, 29, 14, 24, 3, 30, 22, 20, 15, 25, 17, 4, 8, 31, 27, 13, 23, 21, 19, 16, 7, 26, 12, 18, 6, 11, 5, 10, 9]) (by kernel_rfl) (by kernel_rfl) Tryz.underlying193 Tryz.underlying5 (by kernel_rfl) (by kernel_rfl) h0).cell (by kernel_rfl) i hi
theorem deBruijn64tab_of {W : World} (h : laidMetH Tryz.prog Rows.fnExactMustCheckRow.laid W) : ∀ i, i < 64 → W.cell? ⟨6, i, none⟩ = some (.int .u8 (([0, 1, 56, 2, 57, 49, 28, 3, 61, 58, 42, 50, 38, 29, 17, 4, 62, 47, 59, 36, 45, 43, 51, 22, 53, 39, 33, 30, 24, 18, 12, 5, 63, 55, 48, 27, 60, 41, 37, 16, 46, 35, 44, 21, 52, 32, 23, 11, 54, 26, 40, 15, 34, 20, 31, 10, 25, 14, 19, 9, 13, 8, 7, 6] : List Int).getD i 0)) := by
  have h0 : laidMet Tryz.prog Rows.fnExactMustCheckRow.laid W := h
  intro i hi
  exact (Lib.tabIs_of_head (g := 6) (t := 194) (zs := [0, 1, 56, 2, 57, 49, 28, 3, 61, 58, 42, 50, 38, 29, 17, 4, 62, 47, 59, 36, 45, 43, 51, 22, 53, 39, 33, 30, 24, 18, 12, 5, 63, 55, 48, 27, 60, 41, 37, 16, 46, 35, 44, 21, 52, 32, 23, 11, 54, 26, 40, 15, 34, 20, 31, 10, 25, 14, 19, 9, 13, 8, 7, 6]) (by kernel_rfl) (by kernel_rfl) Tryz.underlying194 Tryz.underlying5 (by kernel_rfl) (by kernel_rfl) h0.tail).cell (by kernel_rfl) i hi
theorem g_pow10 : Tryz.prog.globalNamed "internal/strconv.uint64pow10" = some 4 := by kernel_rfl
theorem g_pow10_type : (Tryz.prog.globals[4]?).map (·.type) = some 189 := by kernel_rfl
theorem cells_pow10 : Tryz.prog.cellsOf 189 = 20 := by kernel_rfl
theorem cells_pow10_elem : Tryz.prog.cellsOf 183 = 1 := by kernel_rfl
theorem pow10_of {W : World} (h : laidMetH Tryz.prog Rows.fnExactMustCheckRow.laid W) : Lib.TabIs Tryz.prog W "internal/strconv.uint64pow10" .u64 Lib.pow10Tab := by
  have h0 : laidMet Tryz.prog Rows.fnExactMustCheckRow.laid W := h
  exact Lib.tabIs_of_head g_pow10 g_pow10_type Tryz.underlying189 Tryz.underlying183 cells_pow10_elem cells_pow10 h0.tail.tail
theorem tokenSigns_of {W : World} (h : laidMetH Tryz.prog Rows.fnExactMustCheckRow.laid W) : ∀ i, i < 15 → W.cell? ⟨0, i, none⟩ = some (.int .u8 (([33, 35, 36, 37, 38, 39, 42, 43, 45, 46, 94, 95, 124, 126, 96] : List Int).getD i 0)) := by
  have h0 : laidMet Tryz.prog Rows.fnExactMustCheckRow.laid W := h
  intro i hi
  exact (Lib.tabIs_of_head (g := 0) (t := 167) (zs := [33, 35, 36, 37, 38, 39, 42, 43, 45, 46, 94, 95, 124, 126, 96]) (by kernel_rfl) (by kernel_rfl) Tryz.underlying167 Tryz.underlying5 (by kernel_rfl) (by kernel_rfl) h0.tail.tail.tail.tail).cell (by kernel_rfl) i hi


set_option maxRecDepth 100000 in
set_option maxHeartbeats 1000000 in
theorem walk (w : World) (hSh : Hid (w.ShapedOpen Tryz.prog)) (hL : laidMetH Tryz.prog Rows.fnExactMustCheckRow.laid w) (a0 : Value) (m0 q0 : ByteArray) (l0 : List Flds.Fld) (b0 : ByteArray) (w0 : Req.Arg w a0 m0 q0 l0 b0) (a1 : Value) (s1 : Int) (l1 : List Flds.Fld) (b1 : ByteArray) (w1 : Resp.Arg w a1 s1 l1 b1) (a2 : Int) (w2 : (Lit.int .i64 a2).wf = true) (a3 : Int) (w3 : (Lit.int .i64 a3).wf = true) (a4 : Int) (w4 : (Lit.int .i64 a4).wf = true) :
    Calls Tryz.prog 5 #[a0, a1, .int .i64 a2, .int .i64 a3, .int .i64 a4] w fun e w' => e = .returned (.bool true) ∧ Below w.heap.size w w' := by
  have hE : Age.EnvS w := ⟨⟨pow10_of hL, Date.lim_of hSh.out⟩, tokenSigns_of hL⟩
  clear hL hSh
  obtain ⟨a0, rfl, HA0, hm0, hq0, hb0⟩ := w0
  obtain ⟨a1, rfl, HA1, hb1, hs1⟩ := w1
  exact Pol.mustCheck_law a2 a3 a4 (bounds_i64 w2).2 (bounds_i64 w3).2 (bounds_i64 w4).2 (fun W => Age.EnvS W) (fun W W' h hb => h.below hb) (fun m u st v1 v2 l1 l2 b1 b2 W h1 h2 hk1 hk2 g => Pol.mustCheck_impl m u st v1 v2 l1 l2 b1 b2 a2 a3 a4 W h1 h2 (by omega) (by omega) (bounds_i64 w3).2 (bounds_i64 w4).2 g) _ _ _ _ _ _ _ _ _ w HA0 HA1 hm0 hq0 hb0 hb1 hE

set_option maxRecDepth 100000 in
theorem contract (H : Type) (enc : TypeId × Value → H) (W : World) (base : Nat) (args : Array Value) (ds gs : List (DataW H)) (before : List MemPlace)
    (hval : ∀ (j : Nat) t v, Tryz.f5.params[j]? = some t → args[j]? = some v → Value.okWide Tryz.prog W .any base t v)
    (hW : DataW.Whole enc Tryz.prog Tryz.f5.params.toList Rows.fnExactMustCheckSpec.vars false W args.toList ds gs before) (hL : laidMetH Tryz.prog Rows.fnExactMustCheckRow.laid W) (hSh : W.ShapedOpen Tryz.prog) :
    Calls Tryz.prog 5 args W fun e W' => ∃ v, e = .returned v ∧ Rows.fnExactMustCheckSpec.post enc Tryz.prog Tryz.f5 false true false false W args v W' := by
  have hW' := hW
  obtain ⟨p, q, hA0, hV, rfl, hfz, hnd⟩ := hW
  have hA : DataW.TrodAll enc Tryz.prog W 0 (fun _ => true) true Tryz.f5.params.toList args.toList ds p := hA0
  rw [Tryz.params5] at hA hval
  obtain ⟨v0, vs0, d0, ds0, p0, q0, hargs, rfl, rfl, h0, r0⟩ := trodAll_cons hA
  obtain ⟨v1, vs1, d1, ds1, p1, q1, rfl, rfl, rfl, h1, r1⟩ := trodAll_cons r0
  obtain ⟨v2, vs2, d2, ds2, p2, q2, rfl, rfl, rfl, h2, r2⟩ := trodAll_cons r1
  obtain ⟨v3, vs3, d3, ds3, p3, q3, rfl, rfl, rfl, h3, r3⟩ := trodAll_cons r2
  obtain ⟨v4, vs4, d4, ds4, p4, q4, rfl, rfl, rfl, h4, r4⟩ := trodAll_cons r3
  obtain ⟨rfl, rfl, rfl⟩ := trodAll_nil r4
  obtain rfl : args = #[v0, v1, v2, v3, v4] := by cases args; simp_all
  obtain ⟨vg, vt, vcs, vf, vd, vp, rfl, vhg, vht, vhv, vhd, rfl⟩ := trodVars_one hV
  obtain rfl : 0 = vg := Option.some.inj (Eq.trans (by kernel_rfl) vhg)
  obtain rfl : 167 = vt := Option.some.inj ((show (Tryz.prog.globals[0]?).map (·.type) = some 167 by kernel_rfl).symm.trans vht)
  have k0 := h0
  have lt0 : ∀ x ∈ p0, x.block < W.heap.size := by obtain ⟨m, hm⟩ := k0; exact DataW.trod_lt m _ _ _ hm
  obtain ⟨m0, q0, l0, b0, w0⟩ := Req.opened (hval 0 40 v0 rfl rfl) h0
  have k1 := h1
  have lt1 : ∀ x ∈ p1, x.block < W.heap.size := by obtain ⟨m, hm⟩ := k1; exact DataW.trod_lt m _ _ _ hm
  obtain ⟨s1, l1, b1, w1⟩ := Resp.opened (hval 1 42 v1 rfl rfl) h1
  obtain ⟨a2, rfl, rfl, rfl, w2⟩ := open_int Tryz.underlying3 (hval 2 3 v2 rfl rfl) h2
  obtain ⟨a3, rfl, rfl, rfl, w3⟩ := open_int Tryz.underlying3 (hval 3 3 v3 rfl rfl) h3
  obtain ⟨a4, rfl, rfl, rfl, w4⟩ := open_int Tryz.underlying3 (hval 4 3 v4 rfl rfl) h4
  clear hA0
  refine (walk W hSh hL v0 m0 q0 l0 b0 w0 v1 s1 l1 b1 w1 a2 w2 a3 w3 a4 w4).mono fun e W' ⟨he, bel⟩ => ?_
  subst he
  have vlt : 0 < W.heap.size := by
    unfold World.var? at vhv
    rw [vhg, Option.bind_some] at vhv
    split at vhv
    · next hgg => exact (Array.getElem?_eq_some_iff.1 hgg).1
    · cases vhv
  obtain ⟨vf2, vhd2⟩ : DataW.Trod enc Tryz.prog W' 0 (fun b => decide (b < W.heap.size)) true 167 (.agg vcs) vd vp := Below.trod laidOut (by kernel_rfl) (of_decide_eq_true (by kernel_rfl)) ⟨vf, vhd⟩ bel (DataW.trod_lt vf _ _ _ vhd)
  exact ⟨_, rfl, _, _, _, [], _, _, hW', trodAll_mk1 (shut_bool Tryz.underlying4 _), (trodAll_cons_mk (Below.trod laidOut (by kernel_rfl) (of_decide_eq_true (by kernel_rfl)) k0 bel lt0) (trodAll_cons_mk (Below.trod laidOut (by kernel_rfl) (of_decide_eq_true (by kernel_rfl)) k1 bel lt1) (trodAll_cons_mk (shut_int Tryz.underlying3 w2) (trodAll_cons_mk (shut_int Tryz.underlying3 w3) (trodAll_cons_mk (shut_int Tryz.underlying3 w4) trodAll_mk0))))), (trodVars_mk1 vhg vht (var?_below bel vhg vlt vhv) vhd2), bel.frame _, fun h => by cases h⟩

/-- a world for the witness: the settled one, the listed variables holding what their initialisers lay -/
def dataCell : DataW Unit → List Value
  | .lit (.int k n) => [Value.int k n]
  | _ => [undef]
def dataPart : DataW Unit → List Value
  | .agg l => l.flatMap dataCell
  | x => dataCell x
def dataCells : DataW Unit → Array Value
  | .agg l => (l.flatMap dataPart).toArray
  | _ => #[]
def laidWorld (w0 : World) : World := { w0 with heap := ((((((w0.heap.modify 5 fun | .cells _ t fr => .cells (dataCells Rows.laid_math_bits_deBruijn32tab) t fr | o => o).modify 6 fun | .cells _ t fr => .cells (dataCells Rows.laid_math_bits_deBruijn64tab) t fr | o => o).modify 4 fun | .cells _ t fr => .cells (dataCells Rows.laid_internal_strconv_uint64pow10) t fr | o => o).modify 3 fun | .cells _ t fr => .cells (dataCells Rows.laid_unicode_utf8_acceptRanges) t fr | o => o).modify 0 fun | .cells _ t fr => .cells (dataCells Rows.laid_loop_example_g01402_impl_tokenSigns) t fr | o => o).modify 2 fun | .cells _ t fr => .cells (dataCells Rows.laid_unicode_utf8_first) t fr | o => o) }
theorem laid_met (os : Os) : laidMet Tryz.prog Rows.fnExactMustCheckRow.laid ((laidWorld (World.holding Tryz.prog os ⟨#[], #[], []⟩)).forCall (fun _ _ => 0) ⟨#[], #[.agg #[.string ByteArray.empty, .string ByteArray.empty, .slice none 0 0, .string ByteArray.empty], .agg #[.int .i64 0, .slice none 0 0, .string ByteArray.empty], .int .i64 0, .int .i64 0, .int .i64 0], []⟩).memory :=
  laidMet_of_run3 8 (by kernel_rfl) (by kernel_rfl) (by kernel_rfl)
theorem reads (os : Os) {H : Type} (enc : TypeId × Value → H) : ∃ places, DataW.whole enc Tryz.prog ((laidWorld (World.holding Tryz.prog os ⟨#[], #[], []⟩)).forCall (fun _ _ => 0) ⟨#[], #[.agg #[.string ByteArray.empty, .string ByteArray.empty, .slice none 0 0, .string ByteArray.empty], .agg #[.int .i64 0, .slice none 0 0, .string ByteArray.empty], .int .i64 0, .int .i64 0, .int .i64 0], []⟩).memory Tryz.f5.params.toList Rows.fnExactMustCheckSpec.vars false #[.agg #[.string ByteArray.empty, .string ByteArray.empty, .slice none 0 0, .string ByteArray.empty], .agg #[.int .i64 0, .slice none 0 0, .string ByteArray.empty], .int .i64 0, .int .i64 0, .int .i64 0].toList 8 = some ([.agg [.lit (.string []), .lit (.string []), .nil, .lit (.string [])], .agg [.lit (.int .i64 0), .nil, .lit (.string [])], .lit (.int .i64 0), .lit (.int .i64 0), .lit (.int .i64 0)], [Rows.laid_loop_example_g01402_impl_tokenSigns], places) :=
  ⟨MemPlace.row ⟨0, 0, none⟩ 15 ++ [], by kernel_rfl⟩

set_option maxRecDepth 100000 in
theorem lifted (os : Os) (started : os.Started) (H : Type) (enc : TypeId × Value → H) (F : Stop.Interp) :
    ReturnsInHanded {} Tryz.checked os 5 .any ((OpenSpec.ofChange Rows.fnExactMustCheckSpec).preRow enc Tryz.prog Tryz.f5 Rows.fnExactMustCheckRow.domain false Rows.fnExactMustCheckRow.laid) (((OpenSpec.ofChange Rows.fnExactMustCheckSpec).at F).post enc Tryz.prog Tryz.f5 false true false false) := by
  obtain ⟨places, hx⟩ := reads os enc
  refine returnsInHanded_of_row (C := Tryz.checked) (s := OpenSpec.ofChange Rows.fnExactMustCheckSpec) own started (by kernel_rfl) Tryz.func5
    (witness_row_at (enc := enc) (C := Tryz.checked) false (laidWorld (World.holding Tryz.prog os ⟨#[], #[], []⟩)) #[.agg #[.string ByteArray.empty, .string ByteArray.empty, .slice none 0 0, .string ByteArray.empty], .agg #[.int .i64 0, .slice none 0 0, .string ByteArray.empty], .int .i64 0, .int .i64 0, .int .i64 0] rfl (by kernel_rfl) (by kernel_rfl) (by kernel_rfl)
      (OpenSpec.preRow_of_cond 8 hx (by kernel_rfl) (fun k hk => by cases hk) (by kernel_rfl) (laid_met os))) ?_
  intro W base args ds gs before hval hW _ _ _ hL hSh _
  exact contract H enc W base args ds gs before hval hW hL hSh

theorem said : Rows.FnExactMustCheckSaid :=
  OpenClaim.holds_of_cond 5 Tryz.f5 rfl rfl rfl rfl rfl rfl rfl ⟨rfl, rfl, rfl, rfl, rfl⟩ rfl rfl rfl rfl rfl (by kernel_rfl) Tryz.func5 (by kernel_rfl)
    (of_decide_eq_true (by kernel_rfl)) (by unfold Func.isWrapper; first | (rw [if_pos (by decide +kernel)]; kernel_rfl) | (rw [if_neg (by decide +kernel)]; exact ⟨rfl, rfl⟩))
    (fun os started H enc _ F => by rw [OpenClaim.pre_eq_preRow]; exact lifted os started H enc F)
theorem plain (f : FuncId) (fn : Func) (hf : Tryz.pinned.checked.prog.funcNamed Rows.fnExactMustCheckRow.func = some f) (hfn : Tryz.pinned.checked.prog.funcs[f]? = some fn) :
    false = Tryz.pinned.checked.prog.looks [] ∧ ∀ (j : Nat) t, fn.params[j]? = some t → Tryz.pinned.checked.prog.wantsStandIn t = false := by
  obtain rfl : f = 5 := Option.some.inj ((show Tryz.prog.funcNamed Rows.fnExactMustCheckRow.func = some 5 by kernel_rfl).symm.trans hf) |>.symm
  obtain rfl : fn = Tryz.f5 := (Option.some.inj (Tryz.func5.symm.trans hfn)).symm
  refine ⟨by kernel_rfl, fun j t ht => ?_⟩
  rw [Tryz.params5] at ht
  have hm := Array.mem_of_getElem? ht
  simp only [List.mem_toArray, List.mem_cons, List.not_mem_nil, or_false] at hm
  rcases hm with rfl | rfl | rfl | rfl | rfl
  · exact (show Tryz.prog.wantsStandIn 40 = false by kernel_rfl)
  · exact (show Tryz.prog.wantsStandIn 42 = false by kernel_rfl)
  · exact (show Tryz.prog.wantsStandIn 3 = false by kernel_rfl)
  · exact (show Tryz.prog.wantsStandIn 3 = false by kernel_rfl)
  · exact (show Tryz.prog.wantsStandIn 3 = false by kernel_rfl)
end Go.Proofs.YtjeokackmkfooaaGreatDoor.fnExactMustCheck
namespace Go.Proofs.YtjeokackmkfooaaGreatDoor
theorem fnExactMustCheck_card : Rows.FnExactMustCheckCardSaid :=
  Claim7.holds_tied_plain_at .later [] _ _ _ _ fnExactMustCheck.said (fun _ h => by cases h) (by kernel_rfl) (fun _ h => by cases h) fnExactMustCheck_row_tie rfl ⟨rfl, rfl⟩ (by kernel_rfl) rfl fnExactMustCheck.plain (by kernel_rfl)
#print axioms fnExactMustCheck_card
end Go.Proofs.YtjeokackmkfooaaGreatDoor
