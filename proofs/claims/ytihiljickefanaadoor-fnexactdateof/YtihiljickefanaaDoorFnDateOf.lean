/-
  FnExactDateOf: at every list of fields and every name the program's DateOf answers as the specification's, and leaves its argument as it was, where the library's tables start as their text lays them (the card ties them; the law itself lets by what holds more than 2^20 bytes and fields).
-/
import Derived.Test.YtihiljickefanaaDoorCards
import Derived.Test.YtihiljickefanaaDoorTie
import Derived.Test.YtihiljickefanaaDoorQac
import Derived.Test.YtihiljickefanaaDoorQax
import Derived.Test.YtihiljickefanaaDoorQbt
import Derived.Test.YtihiljickefanaaDoorQab
import Derived.Test.YtihiljickefanaaDoorFldEq
import Derived.WalkKit
import Derived.WalkLawsBesides
import Derived.ProofKit
import Derived.OpenShut
import Derived.ShutString
import Derived.Below
import Derived.WalkSmall
import Derived.ChangeVars
import Derived.Carry
import Derived.Deep.DeepHandedRow
import Derived.Deep.DeepLaidRun
import Derived.Lib.LaidTab
import Derived.Stop.LaidErr
namespace Go.Proofs.YtihiljickefanaaDoor.fnExactDateOf
open Go.ChangeShapes Go.WideShapes Go.ChangeAt Go.RowKit
open Go.ChangeMaps (open_string shut_string)
set_option linter.unusedVariables false

theorem own : ownKnob Tryd.prog.godebug = none := by kernel_rfl
theorem laidOut : laidOutB Tryd.prog = true := by kernel_rfl
theorem deBruijn32tab_of {W : World} (h : laidMetH Tryd.prog Rows.fnExactDateOfRow.laid W) : ∀ i, i < 32 → W.cell? ⟨2, i, none⟩ = some (.int .u8 (([0, 1, 28, 2, 29, 14, 24, 3, 30, 22, 20, 15, 25, 17, 4, 8, 31, 27, 13, 23, 21, 19, 16, 7, 26, 12, 18, 6, 11, 5, 10, 9] : List Int).getD i 0)) := by
  have h0 : laidMet Tryd.prog Rows.fnExactDateOfRow.laid W := h
  intro i hi
  exact (Lib.tabIs_of_head (g := 2) (t := 104) (zs := [0, 1, 28, 2, 29, 14, 24, 3, 30, 22, 20, 15, 25, 17, 4, 8, 31, 27, 13, 23, 21, 19, 16, 7, 26, 12, 18, 6, 11, 5, 10, 9]) (by kernel_rfl) (by kernel_rfl) Tryd.underlying104 Tryd.underlying5 (by kernel_rfl) (by kernel_rfl) h0).cell (by kernel_rfl) i hi
theorem deBruijn64tab_of {W : World} (h : laidMetH Tryd.prog Rows.fnExactDateOfRow.laid W) : ∀ i, i < 64 → W.cell? ⟨3, i, none⟩ = some (.int .u8 (([0, 1, 56, 2, 57, 49, 28, 3, 61, 58, 42, 50, 38, 29, 17, 4, 62, 47, 59, 36, 45, 43, 51, 22, 53, 39, 33, 30, 24, 18, 12, 5, 63, 55, 48, 27, 60, 41, 37, 16, 46, 35, 44, 21, 52, 32, 23, 11, 54, 26, 40, 15, 34, 20, 31, 10, 25, 14, 19, 9, 13, 8, 7, 6] : List Int).getD i 0)) := by
  have h0 : laidMet Tryd.prog Rows.fnExactDateOfRow.laid W := h
  intro i hi
  exact (Lib.tabIs_of_head (g := 3) (t := 105) (zs := [0, 1, 56, 2, 57, 49, 28, 3, 61, 58, 42, 50, 38, 29, 17, 4, 62, 47, 59, 36, 45, 43, 51, 22, 53, 39, 33, 30, 24, 18, 12, 5, 63, 55, 48, 27, 60, 41, 37, 16, 46, 35, 44, 21, 52, 32, 23, 11, 54, 26, 40, 15, 34, 20, 31, 10, 25, 14, 19, 9, 13, 8, 7, 6]) (by kernel_rfl) (by kernel_rfl) Tryd.underlying105 Tryd.underlying5 (by kernel_rfl) (by kernel_rfl) h0.tail).cell (by kernel_rfl) i hi
theorem g_pow10 : Tryd.prog.globalNamed "internal/strconv.uint64pow10" = some 1 := by kernel_rfl
theorem g_pow10_type : (Tryd.prog.globals[1]?).map (·.type) = some 100 := by kernel_rfl
theorem cells_pow10 : Tryd.prog.cellsOf 100 = 20 := by kernel_rfl
theorem cells_pow10_elem : Tryd.prog.cellsOf 94 = 1 := by kernel_rfl
theorem pow10_of {W : World} (h : laidMetH Tryd.prog Rows.fnExactDateOfRow.laid W) : Lib.TabIs Tryd.prog W "internal/strconv.uint64pow10" .u64 Lib.pow10Tab := by
  have h0 : laidMet Tryd.prog Rows.fnExactDateOfRow.laid W := h
  exact Lib.tabIs_of_head g_pow10 g_pow10_type Tryd.underlying100 Tryd.underlying94 cells_pow10_elem cells_pow10 h0.tail.tail


set_option maxRecDepth 100000 in
set_option maxHeartbeats 1000000 in
theorem walk (w : World) (hSh : Hid (w.ShapedOpen Tryd.prog)) (hL : laidMetH Tryd.prog Rows.fnExactDateOfRow.laid w) (a0 : Value) (l0 : List Flds.Fld) (w0 : Flds.Arg w a0 l0) (a1 : ByteArray) (w1 : a1.size ≤ maxLen) :
    Calls Tryd.prog 3 #[a0, .string a1] w fun e w' => e = .returned (.bool true) ∧ Below w.heap.size w w' := by
  have hm1 := w1
  unfold maxLen at hm1
  by_cases hbig1 : 1048576 < a1.size
  · go_enter Tryd.func3, Tryd.ntmps3
    go_wp2
    go_ret
    exact ⟨rfl, Below.refl _ _⟩
  have HA0 := Num.hide w0
  clear w0
  have HZ0 := Num.hide (fun W h => Flds.szFieldS_any a0 l0 1048576 W h HA0.out.2 (by omega) (by omega))
  by_cases hbk0 : ¬ (Flds.bulk l0 : Int) ≤ 1048576
  · rw [Flds.left_no hbk0] at HZ0
    go_enter Tryd.func3, Tryd.ntmps3
    go_wp2_with fail
    refine (Num.unhide HZ0 _ HA0.out.1).mono ?_
    rintro e W1 ⟨rfl, hb⟩
    have BW1 := Num.hide hb
    clear hb HZ0
    go_wp2
    go_ret
    exact ⟨rfl, BW1.out⟩
  rw [Flds.left_yes (Decidable.not_not.1 hbk0)] at HZ0
  have hlen0 : l0.length ≤ 1048576 := by have := Flds.len_le l0; omega
  have hbn : Flds.bulk l0 ≤ 1048576 := by have := Decidable.not_not.1 hbk0; omega
  have HE := Num.hide (⟨pow10_of hL, Date.lim_of hSh.out⟩ : Age.Env w)
  clear hL hSh
  have HS := Num.hide (fun v W h => Age.dateOf_spec v l0 a1 W h hbn)
  have HI := Num.hide (fun v W h hE => Age.dateOf_impl v l0 a1 W h hbn hE)
  generalize Age.dateOf l0 a1 = r at HS HI
  go_enter Tryd.func3, Tryd.ntmps3
  go_wp2_with fail
  refine (Num.unhide HZ0 _ HA0.out.1).mono ?_
  rintro e W1 ⟨rfl, hb⟩
  have BW1 := Num.hide hb
  have sW1 := hb.size
  clear hb HZ0 
  go_wp2_with fail
  refine (Flds.toFieldS_any a0 l0 _ (Flds.arg_stay HA0.out (Nat.le_refl _) BW1.out).1 hlen0).mono ?_
  rintro e W2 ⟨e0, rfl, ho, hb⟩
  have BW2 := Num.hide (Recs.below_step BW1.out hb)
  have sW2 := hb.size
  have Oe0W2 := Num.hide ho
  have De0 : Hid (∀ k, e0.ownBlock = some k → k < W2.heap.size) := fun k hk => (Recs.own_lt Oe0W2.out k hk).2
  clear ho hb BW1
  go_wp2_with fail
  refine (Num.unhide HS e0 _ (Recs.own_is Flds.cells_len Oe0W2.out)).mono ?_
  rintro e W3 ⟨rfl, hb⟩
  have BW3 := Num.hide (Recs.below_step BW2.out hb)
  have sW3 := hb.size
  have Oe0W3 := Num.hide (Recs.own_below Oe0W2.out hb)
  clear hb Oe0W2 BW2
  clear Oe0W3 De0
  go_wp2_with fail
  refine (Flds.toFieldS_any a0 l0 _ (Flds.arg_stay HA0.out (Nat.le_refl _) BW3.out).1 hlen0).mono ?_
  rintro e W4 ⟨x0, rfl, ho, hb⟩
  have BW4 := Num.hide (Recs.below_step BW3.out hb)
  have sW4 := hb.size
  have Ox0W4 := Num.hide ho
  have Dx0 : Hid (∀ k, x0.ownBlock = some k → k < W4.heap.size) := fun k hk => (Recs.own_lt Ox0W4.out k hk).2
  clear ho hb BW3
  go_wp2_with fail
  refine (Num.unhide HI x0 _ (Recs.own_is Flds.cells_len Ox0W4.out) (Age.Env.below HE.out BW4.out)).mono ?_
  rintro e W5 ⟨rfl, hb⟩
  have BW5 := Num.hide (Recs.below_step BW4.out hb)
  have sW5 := hb.size
  have Ox0W5 := Num.hide (Recs.own_below Ox0W4.out hb)
  clear hb Ox0W4 BW4
  go_wp2_with fail
  refine (Flds.toFieldS_any a0 l0 _ (Flds.arg_stay HA0.out (Nat.le_refl _) BW5.out).1 hlen0).mono ?_
  rintro e W6 ⟨y0, rfl, ho, hb⟩
  have BW6 := Num.hide (Recs.below_step BW5.out hb)
  have sW6 := hb.size
  have Ox0W6 := Num.hide (Recs.own_below Ox0W5.out hb)
  have Oy0W6 := Num.hide ho
  have Dy0 : Hid (∀ k, y0.ownBlock = some k → k < W6.heap.size) := fun k hk => (Recs.own_lt Oy0W6.out k hk).2
  clear ho hb Ox0W5 BW5
  go_wp2_with fail
  refine (Flds.eq_any x0 y0 l0 l0 _ (Recs.own_is Flds.cells_len Ox0W6.out) (Recs.own_is Flds.cells_len Oy0W6.out) (by omega)).mono ?_
  rintro e W7 ⟨rfl, hb⟩
  rw [decide_eq_true (rfl : l0 = l0)]
  have BW7 := Num.hide (Recs.below_step BW6.out hb)
  have sW7 := hb.size
  have Ox0W7 := Num.hide (Recs.own_below Ox0W6.out hb)
  have Oy0W7 := Num.hide (Recs.own_below Oy0W6.out hb)
  clear hb Ox0W6 Oy0W6 BW6
  clear Oy0W7 Dy0
  clear Ox0W7 Dx0
  go_wp2
  go_ret
  exact ⟨rfl, BW7.out⟩

set_option maxRecDepth 100000 in
theorem contract (H : Type) (enc : TypeId × Value → H) (W : World) (base : Nat) (args : Array Value) (ds gs : List (DataW H)) (before : List MemPlace)
    (hval : ∀ (j : Nat) t v, Tryd.f3.params[j]? = some t → args[j]? = some v → Value.okWide Tryd.prog W .any base t v)
    (hW : DataW.Whole enc Tryd.prog Tryd.f3.params.toList Rows.fnExactDateOfSpec.vars false W args.toList ds gs before) (hL : laidMetH Tryd.prog Rows.fnExactDateOfRow.laid W) (hSh : W.ShapedOpen Tryd.prog) :
    Calls Tryd.prog 3 args W fun e W' => ∃ v, e = .returned v ∧ Rows.fnExactDateOfSpec.post enc Tryd.prog Tryd.f3 false true false false W args v W' := by
  have hW' := hW
  obtain ⟨p, q, hA0, hV, rfl, hfz, hnd⟩ := hW
  have hA : DataW.TrodAll enc Tryd.prog W 0 (fun _ => true) true Tryd.f3.params.toList args.toList ds p := hA0
  rw [Tryd.params3] at hA hval
  obtain ⟨v0, vs0, d0, ds0, p0, q0, hargs, rfl, rfl, h0, r0⟩ := trodAll_cons hA
  obtain ⟨v1, vs1, d1, ds1, p1, q1, rfl, rfl, rfl, h1, r1⟩ := trodAll_cons r0
  obtain ⟨rfl, rfl, rfl⟩ := trodAll_nil r1
  obtain rfl : args = #[v0, v1] := by cases args; simp_all
  obtain ⟨rfl, rfl⟩ := trodVars_none hV
  have k0 := h0
  have lt0 : ∀ x ∈ p0, x.block < W.heap.size := by obtain ⟨m, hm⟩ := k0; exact DataW.trod_lt m _ _ _ hm
  obtain ⟨l0, w0⟩ := Flds.opened (hval 0 22 v0 rfl rfl) h0
  obtain ⟨a1, rfl, rfl, rfl, w1⟩ := open_string Tryd.underlying9 (hval 1 9 v1 rfl rfl) h1
  clear hA0
  refine (walk W hSh hL v0 l0 w0 a1 w1).mono fun e W' ⟨he, bel⟩ => ?_
  subst he
  exact ⟨_, rfl, _, _, _, [], _, [], hW', trodAll_mk1 (shut_bool Tryd.underlying4 _), (trodAll_cons_mk (Below.trod laidOut (by kernel_rfl) (of_decide_eq_true (by kernel_rfl)) k0 bel lt0) (trodAll_cons_mk (shut_string Tryd.underlying9 w1) trodAll_mk0)), rfl, bel.frame _, fun h => by cases h⟩

/-- a world for the witness: the settled one, the listed variables holding what their initialisers lay -/
def dataCell : DataW Unit → List Value
  | .lit (.int k n) => [Value.int k n]
  | _ => [undef]
def dataPart : DataW Unit → List Value
  | .agg l => l.flatMap dataCell
  | x => dataCell x
def dataCells : DataW Unit → Array Value
  | .agg l => (l.flatMap dataPart).toArray
  | _ => #[]
def laidWorld (w0 : World) : World := { w0 with heap := (((w0.heap.modify 2 fun | .cells _ t fr => .cells (dataCells Rows.laid_math_bits_deBruijn32tab) t fr | o => o).modify 3 fun | .cells _ t fr => .cells (dataCells Rows.laid_math_bits_deBruijn64tab) t fr | o => o).modify 1 fun | .cells _ t fr => .cells (dataCells Rows.laid_internal_strconv_uint64pow10) t fr | o => o) }
theorem laid_met (os : Os) : laidMet Tryd.prog Rows.fnExactDateOfRow.laid ((laidWorld (World.holding Tryd.prog os ⟨#[], #[], []⟩)).forCall (fun _ _ => 0) ⟨#[], #[.slice none 0 0, .string ByteArray.empty], []⟩).memory :=
  laidMet_of_run3 8 (by kernel_rfl) (by kernel_rfl) (by kernel_rfl)
theorem reads (os : Os) {H : Type} (enc : TypeId × Value → H) : ∃ places, DataW.whole enc Tryd.prog ((laidWorld (World.holding Tryd.prog os ⟨#[], #[], []⟩)).forCall (fun _ _ => 0) ⟨#[], #[.slice none 0 0, .string ByteArray.empty], []⟩).memory Tryd.f3.params.toList Rows.fnExactDateOfSpec.vars false #[.slice none 0 0, .string ByteArray.empty].toList 8 = some ([.nil, .lit (.string [])], [], places) :=
  ⟨[], by kernel_rfl⟩

set_option maxRecDepth 100000 in
theorem lifted (os : Os) (started : os.Started) (H : Type) (enc : TypeId × Value → H) (F : Stop.Interp) :
    ReturnsInHanded {} Tryd.checked os 3 .any ((OpenSpec.ofChange Rows.fnExactDateOfSpec).preRow enc Tryd.prog Tryd.f3 Rows.fnExactDateOfRow.domain false Rows.fnExactDateOfRow.laid) (((OpenSpec.ofChange Rows.fnExactDateOfSpec).at F).post enc Tryd.prog Tryd.f3 false true false false) := by
  obtain ⟨places, hx⟩ := reads os enc
  refine returnsInHanded_of_row (C := Tryd.checked) (s := OpenSpec.ofChange Rows.fnExactDateOfSpec) own started (by kernel_rfl) Tryd.func3
    (witness_row_at (enc := enc) (C := Tryd.checked) false (laidWorld (World.holding Tryd.prog os ⟨#[], #[], []⟩)) #[.slice none 0 0, .string ByteArray.empty] rfl (by kernel_rfl) (by kernel_rfl) (by kernel_rfl)
      (OpenSpec.preRow_of_cond 8 hx (by kernel_rfl) (fun k hk => by cases hk) (by kernel_rfl) (laid_met os))) ?_
  intro W base args ds gs before hval hW _ _ _ hL hSh _
  exact contract H enc W base args ds gs before hval hW hL hSh

theorem said : Rows.FnExactDateOfSaid :=
  OpenClaim.holds_of_cond 3 Tryd.f3 rfl rfl rfl rfl rfl rfl rfl ⟨rfl, rfl, rfl, rfl, rfl⟩ rfl rfl rfl rfl rfl (by kernel_rfl) Tryd.func3 (by kernel_rfl)
    (of_decide_eq_true (by kernel_rfl)) (by unfold Func.isWrapper; first | (rw [if_pos (by decide +kernel)]; kernel_rfl) | (rw [if_neg (by decide +kernel)]; exact ⟨rfl, rfl⟩))
    (fun os started H enc _ F => by rw [OpenClaim.pre_eq_preRow]; exact lifted os started H enc F)
theorem plain (f : FuncId) (fn : Func) (hf : Tryd.pinned.checked.prog.funcNamed Rows.fnExactDateOfRow.func = some f) (hfn : Tryd.pinned.checked.prog.funcs[f]? = some fn) :
    false = Tryd.pinned.checked.prog.looks [] ∧ ∀ (j : Nat) t, fn.params[j]? = some t → Tryd.pinned.checked.prog.wantsStandIn t = false := by
  obtain rfl : f = 3 := Option.some.inj ((show Tryd.prog.funcNamed Rows.fnExactDateOfRow.func = some 3 by kernel_rfl).symm.trans hf) |>.symm
  obtain rfl : fn = Tryd.f3 := (Option.some.inj (Tryd.func3.symm.trans hfn)).symm
  refine ⟨by kernel_rfl, fun j t ht => ?_⟩
  rw [Tryd.params3] at ht
  have hm := Array.mem_of_getElem? ht
  simp only [List.mem_toArray, List.mem_cons, List.not_mem_nil, or_false] at hm
  rcases hm with rfl | rfl
  · exact (show Tryd.prog.wantsStandIn 22 = false by kernel_rfl)
  · exact (show Tryd.prog.wantsStandIn 9 = false by kernel_rfl)
end Go.Proofs.YtihiljickefanaaDoor.fnExactDateOf
namespace Go.Proofs.YtihiljickefanaaDoor
theorem fnExactDateOf_card : Rows.FnExactDateOfCardSaid :=
  Claim7.holds_tied_plain_at .later [] _ _ _ _ fnExactDateOf.said (fun _ h => by cases h) (by kernel_rfl) (fun _ h => by cases h) fnExactDateOf_row_tie rfl ⟨rfl, rfl⟩ (by kernel_rfl) rfl fnExactDateOf.plain (by kernel_rfl)
#print axioms fnExactDateOf_card
end Go.Proofs.YtihiljickefanaaDoor
