/-
  FnExactReadDec: at every text the program's ReadDec answers as the specification's, where the library's tables and errors start as the program's text lays them (the card ties them).
-/
import Derived.Test.YtfmfidlhbephmaaDoorCards
import Derived.Test.YtfmfidlhbephmaaDoorTie
import Derived.Test.YtfmfidlhbephmaaDoorReadDecSpec
import Derived.Test.YtfmfidlhbephmaaDoorReadDecImpl
import Derived.WalkKit
import Derived.WalkLawsBesides
import Derived.ProofKit
import Derived.OpenShut
import Derived.ShutString
import Derived.Below
import Derived.Deep.DeepHandedRow
import Derived.Deep.DeepLaidRun
import Derived.Lib.LaidTab
import Derived.Stop.LaidErr
namespace Go.Proofs.YtfmfidlhbephmaaDoor.fnExactReadDec
open Go.ChangeShapes Go.WideShapes Go.ChangeAt Go.RowKit
open Go.ChangeMaps (open_string shut_string)
set_option linter.unusedVariables false

theorem own : ownKnob Tryd.prog.godebug = none := by kernel_rfl
theorem laidOut : laidOutB Tryd.prog = true := by kernel_rfl
theorem g_pow10 : Tryd.prog.globalNamed "internal/strconv.uint64pow10" = some 3 := by kernel_rfl
theorem g_pow10_type : (Tryd.prog.globals[3]?).map (·.type) = some 83 := by kernel_rfl
theorem cells_pow10 : Tryd.prog.cellsOf 83 = 20 := by kernel_rfl
theorem cells_u64 : Tryd.prog.cellsOf 65 = 1 := by kernel_rfl
theorem pow10_of {W : World} (h : laidMetH Tryd.prog Rows.fnExactReadDecRow.laid W) : Lib.TabIs Tryd.prog W "internal/strconv.uint64pow10" .u64 Lib.pow10Tab := by
  have h0 : laidMet Tryd.prog Rows.fnExactReadDecRow.laid W := h
  exact Lib.tabIs_of_head g_pow10 g_pow10_type Tryd.underlying83 Tryd.underlying65 cells_u64 cells_pow10 h0.tail.tail
theorem star : "*" ++ "errors.errorString" = "*errors.errorString" := by decide
theorem sentRow (u : TypeId) (h : Tryd.prog.typeName? 3 u = some "*errors.errorString") : u = 78 :=
  typeName_ptr_named (nm := "errors.errorString") (by rw [star]; kernel_rfl) (by kernel_rfl) (by decide) u (by rw [star]; exact h)
theorem g_ErrRange : Tryd.prog.globalNamed "strconv.ErrRange" = some 1 := by kernel_rfl
theorem g_ErrRange_type : (Tryd.prog.globals[1]?).map (·.type) = some 45 := by kernel_rfl
theorem ErrRange_of {W : World} (h : laidMetH Tryd.prog Rows.fnExactReadDecRow.laid W) : ∃ (a : Addr) (s : ByteArray), W.var? Tryd.prog "strconv.ErrRange" = some #[.iface 78 (.pointer (some a))] ∧ W.cell? a = some (.string s) ∧ s.size ≤ maxLen := by
  have h0 : laidMet Tryd.prog Rows.fnExactReadDecRow.laid W := h
  obtain ⟨a, s, e1, e2, _, e4⟩ := laid_sentinel h0.tail.tail.tail g_ErrRange g_ErrRange_type Tryd.underlying45 sentRow Tryd.underlying78 Tryd.underlying80 rfl rfl Tryd.underlying9 (by kernel_rfl) (by kernel_rfl)
  exact ⟨a, s, e1, e2, e4⟩
theorem g_ErrSyntax : Tryd.prog.globalNamed "strconv.ErrSyntax" = some 0 := by kernel_rfl
theorem g_ErrSyntax_type : (Tryd.prog.globals[0]?).map (·.type) = some 45 := by kernel_rfl
theorem ErrSyntax_of {W : World} (h : laidMetH Tryd.prog Rows.fnExactReadDecRow.laid W) : ∃ (a : Addr) (s : ByteArray), W.var? Tryd.prog "strconv.ErrSyntax" = some #[.iface 78 (.pointer (some a))] ∧ W.cell? a = some (.string s) ∧ s.size ≤ maxLen := by
  have h0 : laidMet Tryd.prog Rows.fnExactReadDecRow.laid W := h
  obtain ⟨a, s, e1, e2, _, e4⟩ := laid_sentinel h0.tail.tail.tail.tail g_ErrSyntax g_ErrSyntax_type Tryd.underlying45 sentRow Tryd.underlying78 Tryd.underlying80 rfl rfl Tryd.underlying9 (by kernel_rfl) (by kernel_rfl)
  exact ⟨a, s, e1, e2, e4⟩

set_option maxRecDepth 100000 in
set_option maxHeartbeats 1000000 in
theorem walk (w : World) (hL : laidMetH Tryd.prog Rows.fnExactReadDecRow.laid w) (a0 : ByteArray) (w0 : a0.size ≤ maxLen) :
    Calls Tryd.prog 5 #[.string a0] w fun e w' => e = .returned (.bool true) ∧ Below w.heap.size w w' := by
  have hm := w0
  unfold maxLen at hm
  have hT := pow10_of hL
  have hcell := hT.cell g_pow10 0 (by simp [Lib.pow10Tab])
  have hgs : 3 < w.heap.size := Dec.lt_of_cell hcell
  obtain ⟨ad, sx, hvar, _, _⟩ := ErrSyntax_of hL
  have hgv : 0 < w.heap.size := by omega
  have HT := Num.hide hT
  have HV := Num.hide hvar
  clear hL hT hcell hvar
  by_cases hbig : 1048576 < a0.size
  · go_enter Tryd.func5, Tryd.ntmps5
    go_wp2
    go_ret
    exact ⟨rfl, Below.refl _ _⟩
  · have HS := Num.hide (ReadDec.spec_told a0 w w0)
    go_enter Tryd.func5, Tryd.ntmps5
    go_wp2_with fail
    refine (Num.unhide HS).mono ?_
    rintro e w1 ⟨a, t, rfl, hg1, hb1⟩
    have HI := Num.hide (ReadDec.impl_any a0 w1 3 w0 _ _ (var?_below hb1 g_ErrSyntax hgv (Num.unhide HV)) g_pow10 (by have := hb1.size; omega) (var?_below hb1 g_pow10 hgs (Num.unhide HT)))
    go_wp2_with fail
    refine (Num.unhide HI).mono ?_
    rintro e w2 ⟨a', t', rfl, hg2, hb2⟩
    obtain ⟨rfl, rfl⟩ := ReadDec.good_one a0 a a' t t' hg1 hg2
    clear hg1 hg2
    go_wp2
    go_ret
    exact ⟨rfl, hb1.trans (hb2.mono hb1.size)⟩

theorem contract (H : Type) (enc : TypeId × Value → H) (W : World) (base : Nat) (args : Array Value) (ds gs : List (DataW H)) (before : List MemPlace)
    (hval : ∀ (j : Nat) t v, Tryd.f5.params[j]? = some t → args[j]? = some v → Value.okWide Tryd.prog W .any base t v)
    (hW : DataW.Whole enc Tryd.prog Tryd.f5.params.toList Rows.fnExactReadDecSpec.vars false W args.toList ds gs before) (hL : laidMetH Tryd.prog Rows.fnExactReadDecRow.laid W) :
    Calls Tryd.prog 5 args W fun e W' => ∃ v, e = .returned v ∧ Rows.fnExactReadDecSpec.post enc Tryd.prog Tryd.f5 false true false false W args v W' := by
  have hW' := hW
  obtain ⟨p, q, hA0, hV, rfl, hfz, hnd⟩ := hW
  have hA : DataW.TrodAll enc Tryd.prog W 0 (fun _ => true) true Tryd.f5.params.toList args.toList ds p := hA0
  rw [Tryd.params5] at hA hval
  obtain ⟨v0, vs0, d0, ds0, p0, q0, hargs, rfl, rfl, h0, r0⟩ := trodAll_cons hA
  obtain ⟨rfl, rfl, rfl⟩ := trodAll_nil r0
  obtain rfl : args = #[v0] := by cases args; simp_all
  obtain ⟨rfl, rfl⟩ := trodVars_none hV
  obtain ⟨a0, rfl, rfl, rfl, w0⟩ := open_string Tryd.underlying9 (hval 0 9 v0 rfl rfl) h0
  clear hA0
  refine (walk W hL a0 w0).mono fun e W' ⟨he, bel⟩ => ?_
  subst he
  exact ⟨_, rfl, _, _, _, [], _, [], hW', trodAll_mk1 (shut_bool Tryd.underlying4 _), (trodAll_cons_mk (shut_string Tryd.underlying9 w0) trodAll_mk0), rfl, bel.frame _, fun h => by cases h⟩

/-- a world for the witness: the settled one, the listed variables holding what their initialisers lay -/
def dataCells : DataW Unit → Array Value
  | .agg l => (l.map fun x => match x with | .lit (.int k n) => Value.int k n | _ => undef).toArray
  | _ => #[]
def laidWorld (w0 : World) : World := { w0 with heap := (((((w0.heap.modify 4 fun | .cells _ t fr => .cells (dataCells Rows.laid_math_bits_deBruijn32tab) t fr | o => o).modify 5 fun | .cells _ t fr => .cells (dataCells Rows.laid_math_bits_deBruijn64tab) t fr | o => o).modify 3 fun | .cells _ t fr => .cells (dataCells Rows.laid_internal_strconv_uint64pow10) t fr | o => o).modify 1 fun | .cells _ t fr => .cells #[.iface 78 (.pointer (some ⟨w0.heap.size - 2, 0, none⟩))] t fr | o => o).modify 0 fun | .cells _ t fr => .cells #[.iface 78 (.pointer (some ⟨w0.heap.size - 1, 0, none⟩))] t fr | o => o) }
theorem laid_met (os : Os) : laidMet Tryd.prog Rows.fnExactReadDecRow.laid ((laidWorld (World.holding Tryd.prog os ⟨#[.cells #[.string ⟨#[118, 97, 108, 117, 101, 32, 111, 117, 116, 32, 111, 102, 32, 114, 97, 110, 103, 101]⟩] 80, .cells #[.string ⟨#[105, 110, 118, 97, 108, 105, 100, 32, 115, 121, 110, 116, 97, 120]⟩] 80], #[], []⟩)).forCall (fun _ _ => 0) ⟨#[], #[.string ByteArray.empty], []⟩).memory :=
  laidMet_of_run3 8 (by kernel_rfl) (by kernel_rfl) (by kernel_rfl)
theorem reads (os : Os) {H : Type} (enc : TypeId × Value → H) : ∃ places, DataW.whole enc Tryd.prog ((laidWorld (World.holding Tryd.prog os ⟨#[.cells #[.string ⟨#[118, 97, 108, 117, 101, 32, 111, 117, 116, 32, 111, 102, 32, 114, 97, 110, 103, 101]⟩] 80, .cells #[.string ⟨#[105, 110, 118, 97, 108, 105, 100, 32, 115, 121, 110, 116, 97, 120]⟩] 80], #[], []⟩)).forCall (fun _ _ => 0) ⟨#[], #[.string ByteArray.empty], []⟩).memory Tryd.f5.params.toList Rows.fnExactReadDecSpec.vars false #[.string ByteArray.empty].toList 8 = some ([.lit (.string [])], [], places) :=
  ⟨[], by kernel_rfl⟩

set_option maxRecDepth 100000 in
theorem lifted (os : Os) (started : os.Started) (H : Type) (enc : TypeId × Value → H) (F : Stop.Interp) :
    ReturnsInHanded {} Tryd.checked os 5 .any ((OpenSpec.ofChange Rows.fnExactReadDecSpec).preRow enc Tryd.prog Tryd.f5 Rows.fnExactReadDecRow.domain false Rows.fnExactReadDecRow.laid) (((OpenSpec.ofChange Rows.fnExactReadDecSpec).at F).post enc Tryd.prog Tryd.f5 false true false false) := by
  obtain ⟨places, hx⟩ := reads os enc
  refine returnsInHanded_of_row (C := Tryd.checked) (s := OpenSpec.ofChange Rows.fnExactReadDecSpec) own started (by kernel_rfl) Tryd.func5
    (witness_row_at (enc := enc) (C := Tryd.checked) false (laidWorld (World.holding Tryd.prog os ⟨#[.cells #[.string ⟨#[118, 97, 108, 117, 101, 32, 111, 117, 116, 32, 111, 102, 32, 114, 97, 110, 103, 101]⟩] 80, .cells #[.string ⟨#[105, 110, 118, 97, 108, 105, 100, 32, 115, 121, 110, 116, 97, 120]⟩] 80], #[], []⟩)) #[.string ByteArray.empty] rfl (by kernel_rfl) (by kernel_rfl) (by kernel_rfl)
      (OpenSpec.preRow_of_cond 8 hx (by kernel_rfl) (fun k hk => by cases hk) (by kernel_rfl) (laid_met os))) ?_
  intro W base args ds gs before hval hW _ _ _ hL _ _
  exact contract H enc W base args ds gs before hval hW hL

theorem said : Rows.FnExactReadDecSaid :=
  OpenClaim.holds_of_cond 5 Tryd.f5 rfl rfl rfl rfl rfl rfl rfl ⟨rfl, rfl, rfl, rfl, rfl⟩ rfl rfl rfl rfl rfl (by kernel_rfl) Tryd.func5 (by kernel_rfl)
    (of_decide_eq_true (by kernel_rfl)) (by unfold Func.isWrapper; first | (rw [if_pos (by decide +kernel)]; kernel_rfl) | (rw [if_neg (by decide +kernel)]; exact ⟨rfl, rfl⟩))
    (fun os started H enc _ F => by rw [OpenClaim.pre_eq_preRow]; exact lifted os started H enc F)
theorem plain (f : FuncId) (fn : Func) (hf : Tryd.pinned.checked.prog.funcNamed Rows.fnExactReadDecRow.func = some f) (hfn : Tryd.pinned.checked.prog.funcs[f]? = some fn) :
    true = Tryd.pinned.checked.prog.looks [] ∧ ∀ (j : Nat) t, fn.params[j]? = some t → Tryd.pinned.checked.prog.wantsStandIn t = false := by
  obtain rfl : f = 5 := Option.some.inj ((show Tryd.prog.funcNamed Rows.fnExactReadDecRow.func = some 5 by kernel_rfl).symm.trans hf) |>.symm
  obtain rfl : fn = Tryd.f5 := (Option.some.inj (Tryd.func5.symm.trans hfn)).symm
  refine ⟨by kernel_rfl, fun j t ht => ?_⟩
  rw [Tryd.params5] at ht
  obtain rfl : t = 9 := by simpa using Array.mem_of_getElem? ht
  exact (show Tryd.prog.wantsStandIn 9 = false by kernel_rfl)
end Go.Proofs.YtfmfidlhbephmaaDoor.fnExactReadDec
namespace Go.Proofs.YtfmfidlhbephmaaDoor
theorem fnExactReadDec_card : Rows.FnExactReadDecCardSaid :=
  Claim7.holds_tied_plain_at .later [] _ _ _ _ fnExactReadDec.said (fun _ h => by cases h) (by kernel_rfl) (fun _ h => by cases h) fnExactReadDec_row_tie rfl ⟨rfl, rfl⟩ (by kernel_rfl) rfl fnExactReadDec.plain (by kernel_rfl)
#print axioms fnExactReadDec_card
end Go.Proofs.YtfmfidlhbephmaaDoor
