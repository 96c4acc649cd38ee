/-
  FnExactUnchunk: at every text the program's Unchunk answers as the specification's, where the library's tables and errors and the program's two errors start as the program's text lays them (the card ties them; the law itself lets by a text of more than 2^20 bytes).
-/
import Derived.Test.YtkenmilglfnmbaaDoorCards
import Derived.Test.YtkenmilglfnmbaaDoorTie
import Derived.Test.YtkenmilglfnmbaaDoorPai
import Derived.Test.YtkenmilglfnmbaaDoorPaz
import Derived.Test.YtkenmilglfnmbaaDoorRecs
import Derived.WalkKit
import Derived.WalkLawsBesides
import Derived.ProofKit
import Derived.OpenShut
import Derived.ShutString
import Derived.Below
import Derived.WalkSmall
import Derived.ChangeVars
import Derived.Carry
import Derived.Deep.DeepHandedRow
import Derived.Deep.DeepLaidRun
import Derived.Lib.LaidTab
import Derived.Stop.LaidErr
import Derived.Stop.LaidTwo
import Derived.OpenVars
namespace Go.Proofs.YtkenmilglfnmbaaDoor.fnExactUnchunk
open Go.ChangeShapes Go.WideShapes Go.ChangeAt Go.RowKit
open Go.ChangeMaps (open_string shut_string)
set_option linter.unusedVariables false

theorem own : ownKnob Tryd.prog.godebug = none := by kernel_rfl
theorem laidOut : laidOutB Tryd.prog = true := by kernel_rfl
theorem deBruijn32tab_of {W : World} (h : laidMetH Tryd.prog Rows.fnExactUnchunkRow.laid W) : ∀ i, i < 32 → W.cell? ⟨6, i, none⟩ = some (.int .u8 (([0, 1, 28, 2, 29, 14, 24, 3, 30, 22, 20, 15, 25, 17, 4, 8, 31, 27, 13, 23, 21, 19, 16, 7, 26, 12, 18, 6, 11, 5, 10, 9] : List Int).getD i 0)) := by
  have h0 : laidMet Tryd.prog Rows.fnExactUnchunkRow.laid W := h
  intro i hi
  exact (Lib.tabIs_of_head (g := 6) (t := 133) (zs := [0, 1, 28, 2, 29, 14, 24, 3, 30, 22, 20, 15, 25, 17, 4, 8, 31, 27, 13, 23, 21, 19, 16, 7, 26, 12, 18, 6, 11, 5, 10, 9]) (by kernel_rfl) (by kernel_rfl) Tryd.underlying133 Tryd.underlying5 (by kernel_rfl) (by kernel_rfl) h0).cell (by kernel_rfl) i hi
theorem deBruijn64tab_of {W : World} (h : laidMetH Tryd.prog Rows.fnExactUnchunkRow.laid W) : ∀ i, i < 64 → W.cell? ⟨7, i, none⟩ = some (.int .u8 (([0, 1, 56, 2, 57, 49, 28, 3, 61, 58, 42, 50, 38, 29, 17, 4, 62, 47, 59, 36, 45, 43, 51, 22, 53, 39, 33, 30, 24, 18, 12, 5, 63, 55, 48, 27, 60, 41, 37, 16, 46, 35, 44, 21, 52, 32, 23, 11, 54, 26, 40, 15, 34, 20, 31, 10, 25, 14, 19, 9, 13, 8, 7, 6] : List Int).getD i 0)) := by
  have h0 : laidMet Tryd.prog Rows.fnExactUnchunkRow.laid W := h
  intro i hi
  exact (Lib.tabIs_of_head (g := 7) (t := 134) (zs := [0, 1, 56, 2, 57, 49, 28, 3, 61, 58, 42, 50, 38, 29, 17, 4, 62, 47, 59, 36, 45, 43, 51, 22, 53, 39, 33, 30, 24, 18, 12, 5, 63, 55, 48, 27, 60, 41, 37, 16, 46, 35, 44, 21, 52, 32, 23, 11, 54, 26, 40, 15, 34, 20, 31, 10, 25, 14, 19, 9, 13, 8, 7, 6]) (by kernel_rfl) (by kernel_rfl) Tryd.underlying134 Tryd.underlying5 (by kernel_rfl) (by kernel_rfl) h0.tail).cell (by kernel_rfl) i hi
theorem g_pow10 : Tryd.prog.globalNamed "internal/strconv.uint64pow10" = some 5 := by kernel_rfl
theorem g_pow10_type : (Tryd.prog.globals[5]?).map (·.type) = some 128 := by kernel_rfl
theorem cells_pow10 : Tryd.prog.cellsOf 128 = 20 := by kernel_rfl
theorem cells_pow10_elem : Tryd.prog.cellsOf 97 = 1 := by kernel_rfl
theorem pow10_of {W : World} (h : laidMetH Tryd.prog Rows.fnExactUnchunkRow.laid W) : Lib.TabIs Tryd.prog W "internal/strconv.uint64pow10" .u64 Lib.pow10Tab := by
  have h0 : laidMet Tryd.prog Rows.fnExactUnchunkRow.laid W := h
  exact Lib.tabIs_of_head g_pow10 g_pow10_type Tryd.underlying128 Tryd.underlying97 cells_pow10_elem cells_pow10 h0.tail.tail
theorem star : "*" ++ "errors.errorString" = "*errors.errorString" := by decide
theorem sentRow (u : TypeId) (h : Tryd.prog.typeName? 3 u = some "*errors.errorString") : u = 118 :=
  typeName_ptr_named (nm := "errors.errorString") (by rw [star]; kernel_rfl) (by kernel_rfl) (by decide) u (by rw [star]; exact h)
theorem g_ErrRange : Tryd.prog.globalNamed "strconv.ErrRange" = some 4 := by kernel_rfl
theorem g_ErrRange_type : (Tryd.prog.globals[4]?).map (·.type) = some 38 := by kernel_rfl
theorem ErrRange_of {W : World} (h : laidMetH Tryd.prog Rows.fnExactUnchunkRow.laid W) : ∃ (a : Addr) (s : ByteArray), W.var? Tryd.prog "strconv.ErrRange" = some #[.iface 118 (.pointer (some a))] ∧ W.cell? a = some (.string s) ∧ s.size ≤ maxLen := by
  have h0 : laidMet Tryd.prog Rows.fnExactUnchunkRow.laid W := h
  obtain ⟨a, s, e1, e2, _, e4⟩ := laid_sentinel h0.tail.tail.tail g_ErrRange g_ErrRange_type Tryd.underlying38 sentRow Tryd.underlying118 Tryd.underlying120 rfl rfl Tryd.underlying9 (by kernel_rfl) (by kernel_rfl)
  exact ⟨a, s, e1, e2, e4⟩
theorem g_ErrSyntax : Tryd.prog.globalNamed "strconv.ErrSyntax" = some 3 := by kernel_rfl
theorem g_ErrSyntax_type : (Tryd.prog.globals[3]?).map (·.type) = some 38 := by kernel_rfl
theorem ErrSyntax_of {W : World} (h : laidMetH Tryd.prog Rows.fnExactUnchunkRow.laid W) : ∃ (a : Addr) (s : ByteArray), W.var? Tryd.prog "strconv.ErrSyntax" = some #[.iface 118 (.pointer (some a))] ∧ W.cell? a = some (.string s) ∧ s.size ≤ maxLen := by
  have h0 : laidMet Tryd.prog Rows.fnExactUnchunkRow.laid W := h
  obtain ⟨a, s, e1, e2, _, e4⟩ := laid_sentinel h0.tail.tail.tail.tail g_ErrSyntax g_ErrSyntax_type Tryd.underlying38 sentRow Tryd.underlying118 Tryd.underlying120 rfl rfl Tryd.underlying9 (by kernel_rfl) (by kernel_rfl)
  exact ⟨a, s, e1, e2, e4⟩
theorem g_errMore : Tryd.prog.globalNamed "loop.example/g01402/impl.errMore" = some 0 := by kernel_rfl
theorem g_errMore_type : (Tryd.prog.globals[0]?).map (·.type) = some 38 := by kernel_rfl
theorem errMore_of {W : World} (h : laidMetH Tryd.prog Rows.fnExactUnchunkRow.laid W) : ∃ (a : Addr) (s : ByteArray), W.var? Tryd.prog "loop.example/g01402/impl.errMore" = some #[.iface 118 (.pointer (some a))] ∧ W.cell? a = some (.string s) ∧ s.size ≤ maxLen := by
  have h0 : laidMet Tryd.prog Rows.fnExactUnchunkRow.laid W := h
  obtain ⟨a, s, e1, e2, _, e4⟩ := laid_sentinel h0.tail.tail.tail.tail.tail g_errMore g_errMore_type Tryd.underlying38 sentRow Tryd.underlying118 Tryd.underlying120 rfl rfl Tryd.underlying9 (by kernel_rfl) (by kernel_rfl)
  exact ⟨a, s, e1, e2, e4⟩
theorem g_errBad : Tryd.prog.globalNamed "loop.example/g01402/impl.errBad" = some 1 := by kernel_rfl
theorem g_errBad_type : (Tryd.prog.globals[1]?).map (·.type) = some 38 := by kernel_rfl
theorem errBad_of {W : World} (h : laidMetH Tryd.prog Rows.fnExactUnchunkRow.laid W) : ∃ (a : Addr) (s : ByteArray), W.var? Tryd.prog "loop.example/g01402/impl.errBad" = some #[.iface 118 (.pointer (some a))] ∧ W.cell? a = some (.string s) ∧ s.size ≤ maxLen := by
  have h0 : laidMet Tryd.prog Rows.fnExactUnchunkRow.laid W := h
  obtain ⟨a, s, e1, e2, _, e4⟩ := laid_sentinel h0.tail.tail.tail.tail.tail.tail g_errBad g_errBad_type Tryd.underlying38 sentRow Tryd.underlying118 Tryd.underlying120 rfl rfl Tryd.underlying9 (by kernel_rfl) (by kernel_rfl)
  exact ⟨a, s, e1, e2, e4⟩

set_option maxRecDepth 100000 in
set_option maxHeartbeats 1000000 in
theorem walk (w : World) (hSh : Hid (w.ShapedOpen Tryd.prog)) (hL : laidMetH Tryd.prog Rows.fnExactUnchunkRow.laid w) (a0 : ByteArray) (w0 : a0.size ≤ maxLen) :
    Calls Tryd.prog 3 #[.string a0] w fun e w' => e = .returned (.bool true) ∧ Below w.heap.size w w' := by
  have hm0 := w0
  unfold maxLen at hm0
  by_cases hbig0 : 1048576 < a0.size
  · go_enter Tryd.func3, Tryd.ntmps3
    go_wp2
    go_ret
    exact ⟨rfl, Below.refl _ _⟩
  obtain ⟨em, eb, HEr⟩ : ∃ m b, Hid (Body.Errs m b w) := by
      have h0 : laidMet Tryd.prog Rows.fnExactUnchunkRow.laid w := hL
      obtain ⟨a0, a1, s0, s1, c0, c1, t0, t1, hv0, hv1, _, _, _, _, _, _, hne, hb0, hb1⟩ := laid_sentinels2 h0.tail.tail.tail.tail.tail g_errMore g_errMore_type g_errBad g_errBad_type Tryd.underlying38 sentRow Tryd.underlying118 Tryd.underlying120 rfl rfl Tryd.underlying9 (by kernel_rfl) (by kernel_rfl)
      exact ⟨a0, a1, World.var?_cell g_errMore hv0 0, World.var?_cell g_errBad hv1 0, hne, ⟨_, _, hb0⟩, ⟨_, _, hb1⟩⟩
  have HSy : Hid (Body.Syn w) := by obtain ⟨a, s, e, _, _⟩ := ErrSyntax_of hL; exact ⟨_, _, World.var?_cell g_ErrSyntax e 0⟩
  have HLm := Num.hide (Body.lim_of hSh.out)
  clear hL hSh
  have HS := Num.hide (fun W => Body.unchunk_spec_b a0 W (by omega))
  have HI := Num.hide (fun W hm hS hE => Body.unchunk_impl a0 em eb W (by omega) hm hS hE)
  generalize Body.unchunk a0 = r at HS HI
  go_enter Tryd.func3, Tryd.ntmps3
  go_wp2_with fail
  refine (Num.unhide HS  _ ).mono ?_
  rintro e W1 ⟨rfl, hb⟩
  have BW1 := Num.hide hb
  have sW1 := hb.size
  clear hb 
  go_wp2_with fail
  refine (Num.unhide HI  _  (Body.Lim.below HLm.out BW1.out) (Body.Syn.below HSy.out BW1.out) (Body.Errs.below HEr.out BW1.out)).mono ?_
  rintro e W2 ⟨rfl, hb⟩
  have BW2 := Num.hide (Recs.below_step BW1.out hb)
  have sW2 := hb.size
  clear hb BW1
  go_wp2
  go_ret
  exact ⟨rfl, BW2.out⟩

set_option maxRecDepth 100000 in
theorem contract (H : Type) (enc : TypeId × Value → H) (W : World) (base : Nat) (args : Array Value) (ds gs : List (DataW H)) (before : List MemPlace)
    (hval : ∀ (j : Nat) t v, Tryd.f3.params[j]? = some t → args[j]? = some v → Value.okWide Tryd.prog W .any base t v)
    (hW : DataW.Whole enc Tryd.prog Tryd.f3.params.toList Rows.fnExactUnchunkSpec.vars false W args.toList ds gs before) (hL : laidMetH Tryd.prog Rows.fnExactUnchunkRow.laid W) (hSh : W.ShapedOpen Tryd.prog) :
    Calls Tryd.prog 3 args W fun e W' => ∃ v, e = .returned v ∧ Rows.fnExactUnchunkSpec.post enc Tryd.prog Tryd.f3 false true false false W args v W' := by
  have hW' := hW
  obtain ⟨p, q, hA0, hV, rfl, hfz, hnd⟩ := hW
  have hA : DataW.TrodAll enc Tryd.prog W 0 (fun _ => true) true Tryd.f3.params.toList args.toList ds p := hA0
  rw [Tryd.params3] at hA hval
  obtain ⟨v0, vs0, d0, ds0, p0, q0, hargs, rfl, rfl, h0, r0⟩ := trodAll_cons hA
  obtain ⟨rfl, rfl, rfl⟩ := trodAll_nil r0
  obtain rfl : args = #[v0] := by cases args; simp_all
  have hV0 := hV
  obtain ⟨_, _, _, _, vd0, _, _, _, _, _, vd1, _, rfl, _, _, _, _, _, _, _, _, _⟩ := trodVars_two hV
  obtain ⟨a0, rfl, rfl, rfl, w0⟩ := open_string Tryd.underlying9 (hval 0 9 v0 rfl rfl) h0
  clear hA0
  refine (walk W hSh hL a0 w0).mono fun e W' ⟨he, bel⟩ => ?_
  subst he
  exact ⟨_, rfl, _, _, _, [], _, _, hW', trodAll_mk1 (shut_bool Tryd.underlying4 _), (trodAll_cons_mk (shut_string Tryd.underlying9 w0) trodAll_mk0), (Below.trodVars laidOut bel (by kernel_rfl) hV0), bel.frame _, fun h => by cases h⟩

/-- a world for the witness: the settled one, the listed variables holding what their initialisers lay -/
def dataCell : DataW Unit → List Value
  | .lit (.int k n) => [Value.int k n]
  | _ => [undef]
def dataPart : DataW Unit → List Value
  | .agg l => l.flatMap dataCell
  | x => dataCell x
def dataCells : DataW Unit → Array Value
  | .agg l => (l.flatMap dataPart).toArray
  | _ => #[]
def laidWorld (w0 : World) : World := { w0 with heap := (((((((w0.heap.modify 6 fun | .cells _ t fr => .cells (dataCells Rows.laid_math_bits_deBruijn32tab) t fr | o => o).modify 7 fun | .cells _ t fr => .cells (dataCells Rows.laid_math_bits_deBruijn64tab) t fr | o => o).modify 5 fun | .cells _ t fr => .cells (dataCells Rows.laid_internal_strconv_uint64pow10) t fr | o => o).modify 4 fun | .cells _ t fr => .cells #[.iface 118 (.pointer (some ⟨w0.heap.size - 4, 0, none⟩))] t fr | o => o).modify 3 fun | .cells _ t fr => .cells #[.iface 118 (.pointer (some ⟨w0.heap.size - 3, 0, none⟩))] t fr | o => o).modify 0 fun | .cells _ t fr => .cells #[.iface 118 (.pointer (some ⟨w0.heap.size - 2, 0, none⟩))] t fr | o => o).modify 1 fun | .cells _ t fr => .cells #[.iface 118 (.pointer (some ⟨w0.heap.size - 1, 0, none⟩))] t fr | o => o) }
theorem laid_met (os : Os) : laidMet Tryd.prog Rows.fnExactUnchunkRow.laid ((laidWorld (World.holding Tryd.prog os ⟨#[.cells #[.string ⟨#[118, 97, 108, 117, 101, 32, 111, 117, 116, 32, 111, 102, 32, 114, 97, 110, 103, 101]⟩] 120, .cells #[.string ⟨#[105, 110, 118, 97, 108, 105, 100, 32, 115, 121, 110, 116, 97, 120]⟩] 120, .cells #[.string ⟨#[116, 104, 101, 32, 116, 101, 120, 116, 32, 105, 115, 32, 110, 111, 116, 32, 119, 104, 111, 108, 101]⟩] 120, .cells #[.string ⟨#[116, 104, 101, 32, 116, 101, 120, 116, 32, 105, 115, 32, 110, 111, 116, 32, 114, 105, 103, 104, 116]⟩] 120], #[], []⟩)).forCall (fun _ _ => 0) ⟨#[], #[.string ByteArray.empty], []⟩).memory :=
  laidMet_of_run3 8 (by kernel_rfl) (by kernel_rfl) (by kernel_rfl)
theorem reads (os : Os) {H : Type} (enc : TypeId × Value → H) : ∃ places, DataW.whole enc Tryd.prog ((laidWorld (World.holding Tryd.prog os ⟨#[.cells #[.string ⟨#[118, 97, 108, 117, 101, 32, 111, 117, 116, 32, 111, 102, 32, 114, 97, 110, 103, 101]⟩] 120, .cells #[.string ⟨#[105, 110, 118, 97, 108, 105, 100, 32, 115, 121, 110, 116, 97, 120]⟩] 120, .cells #[.string ⟨#[116, 104, 101, 32, 116, 101, 120, 116, 32, 105, 115, 32, 110, 111, 116, 32, 119, 104, 111, 108, 101]⟩] 120, .cells #[.string ⟨#[116, 104, 101, 32, 116, 101, 120, 116, 32, 105, 115, 32, 110, 111, 116, 32, 114, 105, 103, 104, 116]⟩] 120], #[], []⟩)).forCall (fun _ _ => 0) ⟨#[], #[.string ByteArray.empty], []⟩).memory Tryd.f3.params.toList Rows.fnExactUnchunkSpec.vars false #[.string ByteArray.empty].toList 8 = some ([.lit (.string [])], [.held (enc (118, .pointer (some ⟨(World.holding Tryd.prog os ⟨#[.cells #[.string ⟨#[118, 97, 108, 117, 101, 32, 111, 117, 116, 32, 111, 102, 32, 114, 97, 110, 103, 101]⟩] 120, .cells #[.string ⟨#[105, 110, 118, 97, 108, 105, 100, 32, 115, 121, 110, 116, 97, 120]⟩] 120, .cells #[.string ⟨#[116, 104, 101, 32, 116, 101, 120, 116, 32, 105, 115, 32, 110, 111, 116, 32, 119, 104, 111, 108, 101]⟩] 120, .cells #[.string ⟨#[116, 104, 101, 32, 116, 101, 120, 116, 32, 105, 115, 32, 110, 111, 116, 32, 114, 105, 103, 104, 116]⟩] 120], #[], []⟩).heap.size - 2, 0, none⟩))), .held (enc (118, .pointer (some ⟨(World.holding Tryd.prog os ⟨#[.cells #[.string ⟨#[118, 97, 108, 117, 101, 32, 111, 117, 116, 32, 111, 102, 32, 114, 97, 110, 103, 101]⟩] 120, .cells #[.string ⟨#[105, 110, 118, 97, 108, 105, 100, 32, 115, 121, 110, 116, 97, 120]⟩] 120, .cells #[.string ⟨#[116, 104, 101, 32, 116, 101, 120, 116, 32, 105, 115, 32, 110, 111, 116, 32, 119, 104, 111, 108, 101]⟩] 120, .cells #[.string ⟨#[116, 104, 101, 32, 116, 101, 120, 116, 32, 105, 115, 32, 110, 111, 116, 32, 114, 105, 103, 104, 116]⟩] 120], #[], []⟩).heap.size - 1, 0, none⟩)))], places) :=
  ⟨(MemPlace.row ⟨0, 0, none⟩ 1 ++ []) ++ (MemPlace.row ⟨1, 0, none⟩ 1 ++ []), by kernel_rfl⟩

set_option maxRecDepth 100000 in
theorem lifted (os : Os) (started : os.Started) (H : Type) (enc : TypeId × Value → H) (F : Stop.Interp) :
    ReturnsInHanded {} Tryd.checked os 3 .any ((OpenSpec.ofChange Rows.fnExactUnchunkSpec).preRow enc Tryd.prog Tryd.f3 Rows.fnExactUnchunkRow.domain false Rows.fnExactUnchunkRow.laid) (((OpenSpec.ofChange Rows.fnExactUnchunkSpec).at F).post enc Tryd.prog Tryd.f3 false true false false) := by
  obtain ⟨places, hx⟩ := reads os enc
  refine returnsInHanded_of_row (C := Tryd.checked) (s := OpenSpec.ofChange Rows.fnExactUnchunkSpec) own started (by kernel_rfl) Tryd.func3
    (witness_row_at (enc := enc) (C := Tryd.checked) false (laidWorld (World.holding Tryd.prog os ⟨#[.cells #[.string ⟨#[118, 97, 108, 117, 101, 32, 111, 117, 116, 32, 111, 102, 32, 114, 97, 110, 103, 101]⟩] 120, .cells #[.string ⟨#[105, 110, 118, 97, 108, 105, 100, 32, 115, 121, 110, 116, 97, 120]⟩] 120, .cells #[.string ⟨#[116, 104, 101, 32, 116, 101, 120, 116, 32, 105, 115, 32, 110, 111, 116, 32, 119, 104, 111, 108, 101]⟩] 120, .cells #[.string ⟨#[116, 104, 101, 32, 116, 101, 120, 116, 32, 105, 115, 32, 110, 111, 116, 32, 114, 105, 103, 104, 116]⟩] 120], #[], []⟩)) #[.string ByteArray.empty] rfl (by kernel_rfl) (by kernel_rfl) (by kernel_rfl)
      (OpenSpec.preRow_of_cond 8 hx (by kernel_rfl) (fun k hk => by cases hk) (by kernel_rfl) (laid_met os))) ?_
  intro W base args ds gs before hval hW _ _ _ hL hSh _
  exact contract H enc W base args ds gs before hval hW hL hSh

theorem said : Rows.FnExactUnchunkSaid :=
  OpenClaim.holds_of_cond 3 Tryd.f3 rfl rfl rfl rfl rfl rfl rfl ⟨rfl, rfl, rfl, rfl, rfl⟩ rfl rfl rfl rfl rfl (by kernel_rfl) Tryd.func3 (by kernel_rfl)
    (of_decide_eq_true (by kernel_rfl)) (by unfold Func.isWrapper; first | (rw [if_pos (by decide +kernel)]; kernel_rfl) | (rw [if_neg (by decide +kernel)]; exact ⟨rfl, rfl⟩))
    (fun os started H enc _ F => by rw [OpenClaim.pre_eq_preRow]; exact lifted os started H enc F)
theorem plain (f : FuncId) (fn : Func) (hf : Tryd.pinned.checked.prog.funcNamed Rows.fnExactUnchunkRow.func = some f) (hfn : Tryd.pinned.checked.prog.funcs[f]? = some fn) :
    true = Tryd.pinned.checked.prog.looks [] ∧ ∀ (j : Nat) t, fn.params[j]? = some t → Tryd.pinned.checked.prog.wantsStandIn t = false := by
  obtain rfl : f = 3 := Option.some.inj ((show Tryd.prog.funcNamed Rows.fnExactUnchunkRow.func = some 3 by kernel_rfl).symm.trans hf) |>.symm
  obtain rfl : fn = Tryd.f3 := (Option.some.inj (Tryd.func3.symm.trans hfn)).symm
  refine ⟨by kernel_rfl, fun j t ht => ?_⟩
  rw [Tryd.params3] at ht
  obtain rfl : t = 9 := by simpa using Array.mem_of_getElem? ht
  exact (show Tryd.prog.wantsStandIn 9 = false by kernel_rfl)
end Go.Proofs.YtkenmilglfnmbaaDoor.fnExactUnchunk
namespace Go.Proofs.YtkenmilglfnmbaaDoor
theorem fnExactUnchunk_card : Rows.FnExactUnchunkCardSaid :=
  Claim7.holds_tied_plain_at .later [] _ _ _ _ fnExactUnchunk.said (fun _ h => by cases h) (by kernel_rfl) (fun _ h => by cases h) fnExactUnchunk_row_tie rfl ⟨rfl, rfl⟩ (by kernel_rfl) rfl fnExactUnchunk.plain (by kernel_rfl)
#print axioms fnExactUnchunk_card
end Go.Proofs.YtkenmilglfnmbaaDoor
