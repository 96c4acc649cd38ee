/-
  FnExactBodyOf: at every list of fields, every text and either flag the program's BodyOf answers as the specification's, and leaves its argument as it was, where the library's tables and errors and the program's two errors start as the program's text lays them (the card ties them; the law itself lets by what holds more than 2^20 bytes and fields).
-/
import Derived.Test.YtkenmilglfnmbaaDoorCards
import Derived.Test.YtkenmilglfnmbaaDoorTie
import Derived.Test.YtkenmilglfnmbaaDoorPbc
import Derived.Test.YtkenmilglfnmbaaDoorFldEq
import Derived.Test.YtkenmilglfnmbaaDoorPbi
import Derived.Test.YtkenmilglfnmbaaDoorPbt
import Derived.WalkKit
import Derived.WalkLawsBesides
import Derived.ProofKit
import Derived.OpenShut
import Derived.ShutString
import Derived.Below
import Derived.WalkSmall
import Derived.ChangeVars
import Derived.Carry
import Derived.Deep.DeepHandedRow
import Derived.Deep.DeepLaidRun
import Derived.Lib.LaidTab
import Derived.Stop.LaidErr
import Derived.Stop.LaidTwo
import Derived.OpenVars
namespace Go.Proofs.YtkenmilglfnmbaaDoor.fnExactBodyOf
open Go.ChangeShapes Go.WideShapes Go.ChangeAt Go.RowKit
open Go.ChangeMaps (open_string shut_string)
set_option linter.unusedVariables false

theorem own : ownKnob Tryd.prog.godebug = none := by kernel_rfl
theorem laidOut : laidOutB Tryd.prog = true := by kernel_rfl
theorem deBruijn32tab_of {W : World} (h : laidMetH Tryd.prog Rows.fnExactBodyOfRow.laid W) : ∀ i, i < 32 → W.cell? ⟨6, i, none⟩ = some (.int .u8 (([0, 1, 28, 2, 29, 14, 24, 3, 30, 22, 20, 15, 25, 17, 4, 8, 31, 27, 13, 23, 21, 19, 16, 7, 26, 12, 18, 6, 11, 5, 10, 9] : List Int).getD i 0)) := by
  have h0 : laidMet Tryd.prog Rows.fnExactBodyOfRow.laid W := h
  intro i hi
  exact (Lib.tabIs_of_head (g := 6) (t := 133) (zs := [0, 1, 28, 2, 29, 14, 24, 3, 30, 22, 20, 15, 25, 17, 4, 8, 31, 27, 13, 23, 21, 19, 16, 7, 26, 12, 18, 6, 11, 5, 10, 9]) (by kernel_rfl) (by kernel_rfl) Tryd.underlying133 Tryd.underlying5 (by kernel_rfl) (by kernel_rfl) h0).cell (by kernel_rfl) i hi
theorem deBruijn64tab_of {W : World} (h : laidMetH Tryd.prog Rows.fnExactBodyOfRow.laid W) : ∀ i, i < 64 → W.cell? ⟨7, i, none⟩ = some (.int .u8 (([0, 1, 56, 2, 57, 49, 28, 3, 61, 58, 42, 50, 38, 29, 17, 4, 62, 47, 59, 36, 45, 43, 51, 22, 53, 39, 33, 30, 24, 18, 12, 5, 63, 55, 48, 27, 60, 41, 37, 16, 46, 35, 44, 21, 52, 32, 23, 11, 54, 26, 40, 15, 34, 20, 31, 10, 25, 14, 19, 9, 13, 8, 7, 6] : List Int).getD i 0)) := by
  have h0 : laidMet Tryd.prog Rows.fnExactBodyOfRow.laid W := h
  intro i hi
  exact (Lib.tabIs_of_head (g := 7) (t := 134) (zs := [0, 1, 56, 2, 57, 49, 28, 3, 61, 58, 42, 50, 38, 29, 17, 4, 62, 47, 59, 36, 45, 43, 51, 22, 53, 39, 33, 30, 24, 18, 12, 5, 63, 55, 48, 27, 60, 41, 37, 16, 46, 35, 44, 21, 52, 32, 23, 11, 54, 26, 40, 15, 34, 20, 31, 10, 25, 14, 19, 9, 13, 8, 7, 6]) (by kernel_rfl) (by kernel_rfl) Tryd.underlying134 Tryd.underlying5 (by kernel_rfl) (by kernel_rfl) h0.tail).cell (by kernel_rfl) i hi
theorem g_pow10 : Tryd.prog.globalNamed "internal/strconv.uint64pow10" = some 5 := by kernel_rfl
theorem g_pow10_type : (Tryd.prog.globals[5]?).map (·.type) = some 128 := by kernel_rfl
theorem cells_pow10 : Tryd.prog.cellsOf 128 = 20 := by kernel_rfl
theorem cells_pow10_elem : Tryd.prog.cellsOf 97 = 1 := by kernel_rfl
theorem pow10_of {W : World} (h : laidMetH Tryd.prog Rows.fnExactBodyOfRow.laid W) : Lib.TabIs Tryd.prog W "internal/strconv.uint64pow10" .u64 Lib.pow10Tab := by
  have h0 : laidMet Tryd.prog Rows.fnExactBodyOfRow.laid W := h
  exact Lib.tabIs_of_head g_pow10 g_pow10_type Tryd.underlying128 Tryd.underlying97 cells_pow10_elem cells_pow10 h0.tail.tail
theorem star : "*" ++ "errors.errorString" = "*errors.errorString" := by decide
theorem sentRow (u : TypeId) (h : Tryd.prog.typeName? 3 u = some "*errors.errorString") : u = 118 :=
  typeName_ptr_named (nm := "errors.errorString") (by rw [star]; kernel_rfl) (by kernel_rfl) (by decide) u (by rw [star]; exact h)
theorem g_ErrRange : Tryd.prog.globalNamed "strconv.ErrRange" = some 4 := by kernel_rfl
theorem g_ErrRange_type : (Tryd.prog.globals[4]?).map (·.type) = some 38 := by kernel_rfl
theorem ErrRange_of {W : World} (h : laidMetH Tryd.prog Rows.fnExactBodyOfRow.laid W) : ∃ (a : Addr) (s : ByteArray), W.var? Tryd.prog "strconv.ErrRange" = some #[.iface 118 (.pointer (some a))] ∧ W.cell? a = some (.string s) ∧ s.size ≤ maxLen := by
  have h0 : laidMet Tryd.prog Rows.fnExactBodyOfRow.laid W := h
  obtain ⟨a, s, e1, e2, _, e4⟩ := laid_sentinel h0.tail.tail.tail g_ErrRange g_ErrRange_type Tryd.underlying38 sentRow Tryd.underlying118 Tryd.underlying120 rfl rfl Tryd.underlying9 (by kernel_rfl) (by kernel_rfl)
  exact ⟨a, s, e1, e2, e4⟩
theorem g_ErrSyntax : Tryd.prog.globalNamed "strconv.ErrSyntax" = some 3 := by kernel_rfl
theorem g_ErrSyntax_type : (Tryd.prog.globals[3]?).map (·.type) = some 38 := by kernel_rfl
theorem ErrSyntax_of {W : World} (h : laidMetH Tryd.prog Rows.fnExactBodyOfRow.laid W) : ∃ (a : Addr) (s : ByteArray), W.var? Tryd.prog "strconv.ErrSyntax" = some #[.iface 118 (.pointer (some a))] ∧ W.cell? a = some (.string s) ∧ s.size ≤ maxLen := by
  have h0 : laidMet Tryd.prog Rows.fnExactBodyOfRow.laid W := h
  obtain ⟨a, s, e1, e2, _, e4⟩ := laid_sentinel h0.tail.tail.tail.tail g_ErrSyntax g_ErrSyntax_type Tryd.underlying38 sentRow Tryd.underlying118 Tryd.underlying120 rfl rfl Tryd.underlying9 (by kernel_rfl) (by kernel_rfl)
  exact ⟨a, s, e1, e2, e4⟩
theorem g_errMore : Tryd.prog.globalNamed "loop.example/g01402/impl.errMore" = some 0 := by kernel_rfl
theorem g_errMore_type : (Tryd.prog.globals[0]?).map (·.type) = some 38 := by kernel_rfl
theorem errMore_of {W : World} (h : laidMetH Tryd.prog Rows.fnExactBodyOfRow.laid W) : ∃ (a : Addr) (s : ByteArray), W.var? Tryd.prog "loop.example/g01402/impl.errMore" = some #[.iface 118 (.pointer (some a))] ∧ W.cell? a = some (.string s) ∧ s.size ≤ maxLen := by
  have h0 : laidMet Tryd.prog Rows.fnExactBodyOfRow.laid W := h
  obtain ⟨a, s, e1, e2, _, e4⟩ := laid_sentinel h0.tail.tail.tail.tail.tail g_errMore g_errMore_type Tryd.underlying38 sentRow Tryd.underlying118 Tryd.underlying120 rfl rfl Tryd.underlying9 (by kernel_rfl) (by kernel_rfl)
  exact ⟨a, s, e1, e2, e4⟩
theorem g_errBad : Tryd.prog.globalNamed "loop.example/g01402/impl.errBad" = some 1 := by kernel_rfl
theorem g_errBad_type : (Tryd.prog.globals[1]?).map (·.type) = some 38 := by kernel_rfl
theorem errBad_of {W : World} (h : laidMetH Tryd.prog Rows.fnExactBodyOfRow.laid W) : ∃ (a : Addr) (s : ByteArray), W.var? Tryd.prog "loop.example/g01402/impl.errBad" = some #[.iface 118 (.pointer (some a))] ∧ W.cell? a = some (.string s) ∧ s.size ≤ maxLen := by
  have h0 : laidMet Tryd.prog Rows.fnExactBodyOfRow.laid W := h
  obtain ⟨a, s, e1, e2, _, e4⟩ := laid_sentinel h0.tail.tail.tail.tail.tail.tail g_errBad g_errBad_type Tryd.underlying38 sentRow Tryd.underlying118 Tryd.underlying120 rfl rfl Tryd.underlying9 (by kernel_rfl) (by kernel_rfl)
  exact ⟨a, s, e1, e2, e4⟩

set_option maxRecDepth 100000 in
set_option maxHeartbeats 1000000 in
theorem walk (w : World) (hSh : Hid (w.ShapedOpen Tryd.prog)) (hL : laidMetH Tryd.prog Rows.fnExactBodyOfRow.laid w) (a0 : Value) (l0 : List Flds.Fld) (w0 : Flds.Arg w a0 l0) (a1 : ByteArray) (w1 : a1.size ≤ maxLen) (a2 : Bool) :
    Calls Tryd.prog 4 #[a0, .string a1, .bool a2] w fun e w' => e = .returned (.bool true) ∧ Below w.heap.size w w' := by
  have hm1 := w1
  unfold maxLen at hm1
  by_cases hbig1 : 1048576 < a1.size
  · go_enter Tryd.func4, Tryd.ntmps4
    go_wp2
    go_ret
    exact ⟨rfl, Below.refl _ _⟩
  have HA0 := Num.hide w0
  clear w0
  have HZ0 := Num.hide (fun W h => Flds.szFieldS_any a0 l0 1048576 W h HA0.out.2 (by omega) (by omega))
  by_cases hbk0 : ¬ (Flds.bulk l0 : Int) ≤ 1048576
  · rw [Flds.left_no hbk0] at HZ0
    go_enter Tryd.func4, Tryd.ntmps4
    go_wp2_with fail
    refine (Num.unhide HZ0 _ HA0.out.1).mono ?_
    rintro e W1 ⟨rfl, hb⟩
    have BW1 := Num.hide hb
    clear hb HZ0
    go_wp2
    go_ret
    exact ⟨rfl, BW1.out⟩
  rw [Flds.left_yes (Decidable.not_not.1 hbk0)] at HZ0
  have hlen0 : l0.length ≤ 1048576 := by have := Flds.len_le l0; omega
  have hbn : Flds.bulk l0 ≤ 1048576 := by have := Decidable.not_not.1 hbk0; omega
  obtain ⟨em, eb, HEr⟩ : ∃ m b, Hid (Body.Errs m b w) := by
      have h0 : laidMet Tryd.prog Rows.fnExactBodyOfRow.laid w := hL
      obtain ⟨a0, a1, s0, s1, c0, c1, t0, t1, hv0, hv1, _, _, _, _, _, _, hne, hb0, hb1⟩ := laid_sentinels2 h0.tail.tail.tail.tail.tail g_errMore g_errMore_type g_errBad g_errBad_type Tryd.underlying38 sentRow Tryd.underlying118 Tryd.underlying120 rfl rfl Tryd.underlying9 (by kernel_rfl) (by kernel_rfl)
      exact ⟨a0, a1, World.var?_cell g_errMore hv0 0, World.var?_cell g_errBad hv1 0, hne, ⟨_, _, hb0⟩, ⟨_, _, hb1⟩⟩
  have HSy : Hid (Body.Syn w) := by obtain ⟨a, s, e, _, _⟩ := ErrSyntax_of hL; exact ⟨_, _, World.var?_cell g_ErrSyntax e 0⟩
  have HLm := Num.hide (Body.lim_of hSh.out)
  clear hL hSh
  have HS := Num.hide (fun v W h => Body.body_spec v l0 a1 a2 W h hbn (by omega))
  have HI := Num.hide (fun v W h hm hS hE => Body.body_impl v l0 a1 a2 em eb W h hbn (by omega) hm hS hE)
  generalize Body.bodyOf l0 a1 a2 = r at HS HI
  go_enter Tryd.func4, Tryd.ntmps4
  go_wp2_with fail
  refine (Num.unhide HZ0 _ HA0.out.1).mono ?_
  rintro e W1 ⟨rfl, hb⟩
  have BW1 := Num.hide hb
  have sW1 := hb.size
  clear hb HZ0 
  go_wp2_with fail
  refine (Flds.toFieldS_any a0 l0 _ (Flds.arg_stay HA0.out (Nat.le_refl _) BW1.out).1 hlen0).mono ?_
  rintro e W2 ⟨e0, rfl, ho, hb⟩
  have BW2 := Num.hide (Recs.below_step BW1.out hb)
  have sW2 := hb.size
  have Oe0W2 := Num.hide ho
  have De0 : Hid (∀ k, e0.ownBlock = some k → k < W2.heap.size) := fun k hk => (Recs.own_lt Oe0W2.out k hk).2
  clear ho hb BW1
  go_wp2_with fail
  refine (Num.unhide HS e0 _ (Recs.own_is Flds.cells_len Oe0W2.out)).mono ?_
  rintro e W3 ⟨rfl, hb⟩
  have BW3 := Num.hide (Recs.below_step BW2.out hb)
  have sW3 := hb.size
  have Oe0W3 := Num.hide (Recs.own_below Oe0W2.out hb)
  clear hb Oe0W2 BW2
  clear Oe0W3 De0
  go_wp2_with fail
  refine (Flds.toFieldS_any a0 l0 _ (Flds.arg_stay HA0.out (Nat.le_refl _) BW3.out).1 hlen0).mono ?_
  rintro e W4 ⟨x0, rfl, ho, hb⟩
  have BW4 := Num.hide (Recs.below_step BW3.out hb)
  have sW4 := hb.size
  have Ox0W4 := Num.hide ho
  have Dx0 : Hid (∀ k, x0.ownBlock = some k → k < W4.heap.size) := fun k hk => (Recs.own_lt Ox0W4.out k hk).2
  clear ho hb BW3
  go_wp2_with fail
  refine (Num.unhide HI x0 _ (Recs.own_is Flds.cells_len Ox0W4.out) (Body.Lim.below HLm.out BW4.out) (Body.Syn.below HSy.out BW4.out) (Body.Errs.below HEr.out BW4.out)).mono ?_
  rintro e W5 ⟨rfl, hb⟩
  have BW5 := Num.hide (Recs.below_step BW4.out hb)
  have sW5 := hb.size
  have Ox0W5 := Num.hide (Recs.own_below Ox0W4.out hb)
  clear hb Ox0W4 BW4
  go_wp2_with fail
  refine (Flds.toFieldS_any a0 l0 _ (Flds.arg_stay HA0.out (Nat.le_refl _) BW5.out).1 hlen0).mono ?_
  rintro e W6 ⟨y0, rfl, ho, hb⟩
  have BW6 := Num.hide (Recs.below_step BW5.out hb)
  have sW6 := hb.size
  have Ox0W6 := Num.hide (Recs.own_below Ox0W5.out hb)
  have Oy0W6 := Num.hide ho
  have Dy0 : Hid (∀ k, y0.ownBlock = some k → k < W6.heap.size) := fun k hk => (Recs.own_lt Oy0W6.out k hk).2
  clear ho hb Ox0W5 BW5
  go_wp2_with fail
  refine (Flds.eq_any x0 y0 l0 l0 _ (Recs.own_is Flds.cells_len Ox0W6.out) (Recs.own_is Flds.cells_len Oy0W6.out) (by omega)).mono ?_
  rintro e W7 ⟨rfl, hb⟩
  rw [decide_eq_true (rfl : l0 = l0)]
  have BW7 := Num.hide (Recs.below_step BW6.out hb)
  have sW7 := hb.size
  have Ox0W7 := Num.hide (Recs.own_below Ox0W6.out hb)
  have Oy0W7 := Num.hide (Recs.own_below Oy0W6.out hb)
  clear hb Ox0W6 Oy0W6 BW6
  clear Oy0W7 Dy0
  clear Ox0W7 Dx0
  go_wp2
  go_ret
  exact ⟨rfl, BW7.out⟩

set_option maxRecDepth 100000 in
theorem contract (H : Type) (enc : TypeId × Value → H) (W : World) (base : Nat) (args : Array Value) (ds gs : List (DataW H)) (before : List MemPlace)
    (hval : ∀ (j : Nat) t v, Tryd.f4.params[j]? = some t → args[j]? = some v → Value.okWide Tryd.prog W .any base t v)
    (hW : DataW.Whole enc Tryd.prog Tryd.f4.params.toList Rows.fnExactBodyOfSpec.vars false W args.toList ds gs before) (hL : laidMetH Tryd.prog Rows.fnExactBodyOfRow.laid W) (hSh : W.ShapedOpen Tryd.prog) :
    Calls Tryd.prog 4 args W fun e W' => ∃ v, e = .returned v ∧ Rows.fnExactBodyOfSpec.post enc Tryd.prog Tryd.f4 false true false false W args v W' := by
  have hW' := hW
  obtain ⟨p, q, hA0, hV, rfl, hfz, hnd⟩ := hW
  have hA : DataW.TrodAll enc Tryd.prog W 0 (fun _ => true) true Tryd.f4.params.toList args.toList ds p := hA0
  rw [Tryd.params4] at hA hval
  obtain ⟨v0, vs0, d0, ds0, p0, q0, hargs, rfl, rfl, h0, r0⟩ := trodAll_cons hA
  obtain ⟨v1, vs1, d1, ds1, p1, q1, rfl, rfl, rfl, h1, r1⟩ := trodAll_cons r0
  obtain ⟨v2, vs2, d2, ds2, p2, q2, rfl, rfl, rfl, h2, r2⟩ := trodAll_cons r1
  obtain ⟨rfl, rfl, rfl⟩ := trodAll_nil r2
  obtain rfl : args = #[v0, v1, v2] := by cases args; simp_all
  have hV0 := hV
  obtain ⟨_, _, _, _, vd0, _, _, _, _, _, vd1, _, rfl, _, _, _, _, _, _, _, _, _⟩ := trodVars_two hV
  have k0 := h0
  have lt0 : ∀ x ∈ p0, x.block < W.heap.size := by obtain ⟨m, hm⟩ := k0; exact DataW.trod_lt m _ _ _ hm
  obtain ⟨l0, w0⟩ := Flds.opened (hval 0 25 v0 rfl rfl) h0
  obtain ⟨a1, rfl, rfl, rfl, w1⟩ := open_string Tryd.underlying9 (hval 1 9 v1 rfl rfl) h1
  obtain ⟨a2, rfl, rfl, rfl⟩ := open_bool Tryd.underlying4 (hval 2 4 v2 rfl rfl) h2
  clear hA0
  refine (walk W hSh hL v0 l0 w0 a1 w1 a2).mono fun e W' ⟨he, bel⟩ => ?_
  subst he
  exact ⟨_, rfl, _, _, _, [], _, _, hW', trodAll_mk1 (shut_bool Tryd.underlying4 _), (trodAll_cons_mk (Below.trod laidOut (by kernel_rfl) (of_decide_eq_true (by kernel_rfl)) k0 bel lt0) (trodAll_cons_mk (shut_string Tryd.underlying9 w1) (trodAll_cons_mk (shut_bool Tryd.underlying4 _) trodAll_mk0))), (Below.trodVars laidOut bel (by kernel_rfl) hV0), bel.frame _, fun h => by cases h⟩

/-- a world for the witness: the settled one, the listed variables holding what their initialisers lay -/
def dataCell : DataW Unit → List Value
  | .lit (.int k n) => [Value.int k n]
  | _ => [undef]
def dataPart : DataW Unit → List Value
  | .agg l => l.flatMap dataCell
  | x => dataCell x
def dataCells : DataW Unit → Array Value
  | .agg l => (l.flatMap dataPart).toArray
  | _ => #[]
def laidWorld (w0 : World) : World := { w0 with heap := (((((((w0.heap.modify 6 fun | .cells _ t fr => .cells (dataCells Rows.laid_math_bits_deBruijn32tab) t fr | o => o).modify 7 fun | .cells _ t fr => .cells (dataCells Rows.laid_math_bits_deBruijn64tab) t fr | o => o).modify 5 fun | .cells _ t fr => .cells (dataCells Rows.laid_internal_strconv_uint64pow10) t fr | o => o).modify 4 fun | .cells _ t fr => .cells #[.iface 118 (.pointer (some ⟨w0.heap.size - 4, 0, none⟩))] t fr | o => o).modify 3 fun | .cells _ t fr => .cells #[.iface 118 (.pointer (some ⟨w0.heap.size - 3, 0, none⟩))] t fr | o => o).modify 0 fun | .cells _ t fr => .cells #[.iface 118 (.pointer (some ⟨w0.heap.size - 2, 0, none⟩))] t fr | o => o).modify 1 fun | .cells _ t fr => .cells #[.iface 118 (.pointer (some ⟨w0.heap.size - 1, 0, none⟩))] t fr | o => o) }
theorem laid_met (os : Os) : laidMet Tryd.prog Rows.fnExactBodyOfRow.laid ((laidWorld (World.holding Tryd.prog os ⟨#[.cells #[.string ⟨#[118, 97, 108, 117, 101, 32, 111, 117, 116, 32, 111, 102, 32, 114, 97, 110, 103, 101]⟩] 120, .cells #[.string ⟨#[105, 110, 118, 97, 108, 105, 100, 32, 115, 121, 110, 116, 97, 120]⟩] 120, .cells #[.string ⟨#[116, 104, 101, 32, 116, 101, 120, 116, 32, 105, 115, 32, 110, 111, 116, 32, 119, 104, 111, 108, 101]⟩] 120, .cells #[.string ⟨#[116, 104, 101, 32, 116, 101, 120, 116, 32, 105, 115, 32, 110, 111, 116, 32, 114, 105, 103, 104, 116]⟩] 120], #[], []⟩)).forCall (fun _ _ => 0) ⟨#[], #[.slice none 0 0, .string ByteArray.empty, .bool false], []⟩).memory :=
  laidMet_of_run3 8 (by kernel_rfl) (by kernel_rfl) (by kernel_rfl)
theorem reads (os : Os) {H : Type} (enc : TypeId × Value → H) : ∃ places, DataW.whole enc Tryd.prog ((laidWorld (World.holding Tryd.prog os ⟨#[.cells #[.string ⟨#[118, 97, 108, 117, 101, 32, 111, 117, 116, 32, 111, 102, 32, 114, 97, 110, 103, 101]⟩] 120, .cells #[.string ⟨#[105, 110, 118, 97, 108, 105, 100, 32, 115, 121, 110, 116, 97, 120]⟩] 120, .cells #[.string ⟨#[116, 104, 101, 32, 116, 101, 120, 116, 32, 105, 115, 32, 110, 111, 116, 32, 119, 104, 111, 108, 101]⟩] 120, .cells #[.string ⟨#[116, 104, 101, 32, 116, 101, 120, 116, 32, 105, 115, 32, 110, 111, 116, 32, 114, 105, 103, 104, 116]⟩] 120], #[], []⟩)).forCall (fun _ _ => 0) ⟨#[], #[.slice none 0 0, .string ByteArray.empty, .bool false], []⟩).memory Tryd.f4.params.toList Rows.fnExactBodyOfSpec.vars false #[.slice none 0 0, .string ByteArray.empty, .bool false].toList 8 = some ([.nil, .lit (.string []), .lit (.bool false)], [.held (enc (118, .pointer (some ⟨(World.holding Tryd.prog os ⟨#[.cells #[.string ⟨#[118, 97, 108, 117, 101, 32, 111, 117, 116, 32, 111, 102, 32, 114, 97, 110, 103, 101]⟩] 120, .cells #[.string ⟨#[105, 110, 118, 97, 108, 105, 100, 32, 115, 121, 110, 116, 97, 120]⟩] 120, .cells #[.string ⟨#[116, 104, 101, 32, 116, 101, 120, 116, 32, 105, 115, 32, 110, 111, 116, 32, 119, 104, 111, 108, 101]⟩] 120, .cells #[.string ⟨#[116, 104, 101, 32, 116, 101, 120, 116, 32, 105, 115, 32, 110, 111, 116, 32, 114, 105, 103, 104, 116]⟩] 120], #[], []⟩).heap.size - 1, 0, none⟩))), .held (enc (118, .pointer (some ⟨(World.holding Tryd.prog os ⟨#[.cells #[.string ⟨#[118, 97, 108, 117, 101, 32, 111, 117, 116, 32, 111, 102, 32, 114, 97, 110, 103, 101]⟩] 120, .cells #[.string ⟨#[105, 110, 118, 97, 108, 105, 100, 32, 115, 121, 110, 116, 97, 120]⟩] 120, .cells #[.string ⟨#[116, 104, 101, 32, 116, 101, 120, 116, 32, 105, 115, 32, 110, 111, 116, 32, 119, 104, 111, 108, 101]⟩] 120, .cells #[.string ⟨#[116, 104, 101, 32, 116, 101, 120, 116, 32, 105, 115, 32, 110, 111, 116, 32, 114, 105, 103, 104, 116]⟩] 120], #[], []⟩).heap.size - 2, 0, none⟩)))], places) :=
  ⟨(MemPlace.row ⟨1, 0, none⟩ 1 ++ []) ++ (MemPlace.row ⟨0, 0, none⟩ 1 ++ []), by kernel_rfl⟩

set_option maxRecDepth 100000 in
theorem lifted (os : Os) (started : os.Started) (H : Type) (enc : TypeId × Value → H) (F : Stop.Interp) :
    ReturnsInHanded {} Tryd.checked os 4 .any ((OpenSpec.ofChange Rows.fnExactBodyOfSpec).preRow enc Tryd.prog Tryd.f4 Rows.fnExactBodyOfRow.domain false Rows.fnExactBodyOfRow.laid) (((OpenSpec.ofChange Rows.fnExactBodyOfSpec).at F).post enc Tryd.prog Tryd.f4 false true false false) := by
  obtain ⟨places, hx⟩ := reads os enc
  refine returnsInHanded_of_row (C := Tryd.checked) (s := OpenSpec.ofChange Rows.fnExactBodyOfSpec) own started (by kernel_rfl) Tryd.func4
    (witness_row_at (enc := enc) (C := Tryd.checked) false (laidWorld (World.holding Tryd.prog os ⟨#[.cells #[.string ⟨#[118, 97, 108, 117, 101, 32, 111, 117, 116, 32, 111, 102, 32, 114, 97, 110, 103, 101]⟩] 120, .cells #[.string ⟨#[105, 110, 118, 97, 108, 105, 100, 32, 115, 121, 110, 116, 97, 120]⟩] 120, .cells #[.string ⟨#[116, 104, 101, 32, 116, 101, 120, 116, 32, 105, 115, 32, 110, 111, 116, 32, 119, 104, 111, 108, 101]⟩] 120, .cells #[.string ⟨#[116, 104, 101, 32, 116, 101, 120, 116, 32, 105, 115, 32, 110, 111, 116, 32, 114, 105, 103, 104, 116]⟩] 120], #[], []⟩)) #[.slice none 0 0, .string ByteArray.empty, .bool false] rfl (by kernel_rfl) (by kernel_rfl) (by kernel_rfl)
      (OpenSpec.preRow_of_cond 8 hx (by kernel_rfl) (fun k hk => by cases hk) (by kernel_rfl) (laid_met os))) ?_
  intro W base args ds gs before hval hW _ _ _ hL hSh _
  exact contract H enc W base args ds gs before hval hW hL hSh

theorem said : Rows.FnExactBodyOfSaid :=
  OpenClaim.holds_of_cond 4 Tryd.f4 rfl rfl rfl rfl rfl rfl rfl ⟨rfl, rfl, rfl, rfl, rfl⟩ rfl rfl rfl rfl rfl (by kernel_rfl) Tryd.func4 (by kernel_rfl)
    (of_decide_eq_true (by kernel_rfl)) (by unfold Func.isWrapper; first | (rw [if_pos (by decide +kernel)]; kernel_rfl) | (rw [if_neg (by decide +kernel)]; exact ⟨rfl, rfl⟩))
    (fun os started H enc _ F => by rw [OpenClaim.pre_eq_preRow]; exact lifted os started H enc F)
theorem plain (f : FuncId) (fn : Func) (hf : Tryd.pinned.checked.prog.funcNamed Rows.fnExactBodyOfRow.func = some f) (hfn : Tryd.pinned.checked.prog.funcs[f]? = some fn) :
    true = Tryd.pinned.checked.prog.looks [] ∧ ∀ (j : Nat) t, fn.params[j]? = some t → Tryd.pinned.checked.prog.wantsStandIn t = false := by
  obtain rfl : f = 4 := Option.some.inj ((show Tryd.prog.funcNamed Rows.fnExactBodyOfRow.func = some 4 by kernel_rfl).symm.trans hf) |>.symm
  obtain rfl : fn = Tryd.f4 := (Option.some.inj (Tryd.func4.symm.trans hfn)).symm
  refine ⟨by kernel_rfl, fun j t ht => ?_⟩
  rw [Tryd.params4] at ht
  have hm := Array.mem_of_getElem? ht
  simp only [List.mem_toArray, List.mem_cons, List.not_mem_nil, or_false] at hm
  rcases hm with rfl | rfl | rfl
  · exact (show Tryd.prog.wantsStandIn 25 = false by kernel_rfl)
  · exact (show Tryd.prog.wantsStandIn 9 = false by kernel_rfl)
  · exact (show Tryd.prog.wantsStandIn 4 = false by kernel_rfl)
end Go.Proofs.YtkenmilglfnmbaaDoor.fnExactBodyOf
namespace Go.Proofs.YtkenmilglfnmbaaDoor
theorem fnExactBodyOf_card : Rows.FnExactBodyOfCardSaid :=
  Claim7.holds_tied_plain_at .later [] _ _ _ _ fnExactBodyOf.said (fun _ h => by cases h) (by kernel_rfl) (fun _ h => by cases h) fnExactBodyOf_row_tie rfl ⟨rfl, rfl⟩ (by kernel_rfl) rfl fnExactBodyOf.plain (by kernel_rfl)
#print axioms fnExactBodyOf_card
end Go.Proofs.YtkenmilglfnmbaaDoor
