/-
  FnStrict: with no-store nothing is stored; with no-cache all is looked at; what must be looked at once must be so later: for every draw, where the program's table of signs and the library's tables start as the program's text lays them (the card ties them).
-/
import Derived.Test.YtbcjpjhpobmpbaaGreatDoorCards
import Derived.Test.YtbcjpjhpobmpbaaGreatDoorTie
import Derived.Test.YtbcjpjhpobmpbaaGreatDoorPba
import Derived.Test.YtbcjpjhpobmpbaaGreatDoorPat
import Derived.Test.YtbcjpjhpobmpbaaGreatDoorPbf
import Derived.WalkKit
import Derived.WalkLawsBesides
import Derived.ProofKit
import Derived.OpenShut
import Derived.ShutString
import Derived.Below
import Derived.WalkSmall
import Derived.ChangeVars
import Derived.Carry
import Derived.Deep.DeepHandedRow
import Derived.Deep.DeepLaidRun
import Derived.Lib.LaidTab
import Derived.Stop.LaidErr
namespace Go.Proofs.YtbcjpjhpobmpbaaGreatDoor.fnStrict
open Go.ChangeShapes Go.WideShapes Go.ChangeAt Go.RowKit
open Go.ChangeMaps (open_string shut_string)
set_option linter.unusedVariables false

theorem own : ownKnob Tryz.prog.godebug = none := by kernel_rfl
theorem laidOut : laidOutB Tryz.prog = true := by kernel_rfl
theorem deBruijn32tab_of {W : World} (h : laidMetH Tryz.prog Rows.fnStrictRow.laid W) : ∀ i, i < 32 → W.cell? ⟨5, i, none⟩ = some (.int .u8 (([0, 1, 28, 2, 29, 14, 24, 3, 30, 22, 20, 15, 25, 17, 4, 8, 31, 27, 13, 23, 21, 19, 16, 7, 26, 12, 18, 6, 11, 5, 10, 9] : List Int).getD i 0)) := by
  have h0 : laidMet Tryz.prog Rows.fnStrictRow.laid W := h
  intro i hi
  exact (Lib.tabIs_of_head (g := 5) (t := 194) (zs := [0, 1, 28, 2, 29, 14, 24, 3, 30, 22, 20, 15, 25, 17, 4, 8, 31, 27, 13, 23, 21, 19, 16, 7, 26, 12, 18, 6, 11, 5, 10, 9]) (by kernel_rfl) (by kernel_rfl) Tryz.underlying194 Tryz.underlying5 (by kernel_rfl) (by kernel_rfl) h0).cell (by kernel_rfl) i hi
theorem deBruijn64tab_of {W : World} (h : laidMetH Tryz.prog Rows.fnStrictRow.laid W) : ∀ i, i < 64 → W.cell? ⟨6, i, none⟩ = some (.int .u8 (([0, 1, 56, 2, 57, 49, 28, 3, 61, 58, 42, 50, 38, 29, 17, 4, 62, 47, 59, 36, 45, 43, 51, 22, 53, 39, 33, 30, 24, 18, 12, 5, 63, 55, 48, 27, 60, 41, 37, 16, 46, 35, 44, 21, 52, 32, 23, 11, 54, 26, 40, 15, 34, 20, 31, 10, 25, 14, 19, 9, 13, 8, 7, 6] : List Int).getD i 0)) := by
  have h0 : laidMet Tryz.prog Rows.fnStrictRow.laid W := h
  intro i hi
  exact (Lib.tabIs_of_head (g := 6) (t := 195) (zs := [0, 1, 56, 2, 57, 49, 28, 3, 61, 58, 42, 50, 38, 29, 17, 4, 62, 47, 59, 36, 45, 43, 51, 22, 53, 39, 33, 30, 24, 18, 12, 5, 63, 55, 48, 27, 60, 41, 37, 16, 46, 35, 44, 21, 52, 32, 23, 11, 54, 26, 40, 15, 34, 20, 31, 10, 25, 14, 19, 9, 13, 8, 7, 6]) (by kernel_rfl) (by kernel_rfl) Tryz.underlying195 Tryz.underlying5 (by kernel_rfl) (by kernel_rfl) h0.tail).cell (by kernel_rfl) i hi
theorem g_pow10 : Tryz.prog.globalNamed "internal/strconv.uint64pow10" = some 4 := by kernel_rfl
theorem g_pow10_type : (Tryz.prog.globals[4]?).map (·.type) = some 190 := by kernel_rfl
theorem cells_pow10 : Tryz.prog.cellsOf 190 = 20 := by kernel_rfl
theorem cells_pow10_elem : Tryz.prog.cellsOf 184 = 1 := by kernel_rfl
theorem pow10_of {W : World} (h : laidMetH Tryz.prog Rows.fnStrictRow.laid W) : Lib.TabIs Tryz.prog W "internal/strconv.uint64pow10" .u64 Lib.pow10Tab := by
  have h0 : laidMet Tryz.prog Rows.fnStrictRow.laid W := h
  exact Lib.tabIs_of_head g_pow10 g_pow10_type Tryz.underlying190 Tryz.underlying184 cells_pow10_elem cells_pow10 h0.tail.tail
theorem tokenSigns_of {W : World} (h : laidMetH Tryz.prog Rows.fnStrictRow.laid W) : ∀ i, i < 15 → W.cell? ⟨0, i, none⟩ = some (.int .u8 (([33, 35, 36, 37, 38, 39, 42, 43, 45, 46, 94, 95, 124, 126, 96] : List Int).getD i 0)) := by
  have h0 : laidMet Tryz.prog Rows.fnStrictRow.laid W := h
  intro i hi
  exact (Lib.tabIs_of_head (g := 0) (t := 161) (zs := [33, 35, 36, 37, 38, 39, 42, 43, 45, 46, 94, 95, 124, 126, 96]) (by kernel_rfl) (by kernel_rfl) Tryz.underlying161 Tryz.underlying5 (by kernel_rfl) (by kernel_rfl) h0.tail.tail.tail.tail).cell (by kernel_rfl) i hi

/-- what the walk is told of a slice of integers that came in: it is nil; or it leads to a row of cells -/
def IsRow (k : IntKind) (w : World) (a : Option Addr) (len cap : Nat) (zs : List Int) : Prop :=
  (a = none ∧ len = 0 ∧ cap = 0 ∧ zs = []) ∨
  ∃ x, a = some x ∧ len ≤ cap ∧ cap ≤ maxLen ∧ zs.length = cap ∧ (∀ i, i < zs.length → w.cell? (x.add i) = some (.int k (zs.getD i 0))) ∧ ∀ n ∈ zs, (Lit.int k n).wf = true


set_option maxRecDepth 100000 in
set_option maxHeartbeats 1000000 in
theorem walk (w : World) (hSh : Hid (w.ShapedOpen Tryz.prog)) (hL : laidMetH Tryz.prog Rows.fnStrictRow.laid w) (a0 : Option Addr) (len0 cap0 : Nat) (z0 : List Int) (w0 : IsRow .u8 w a0 len0 cap0 z0) :
    Calls Tryz.prog 5 #[.slice a0 len0 cap0] w fun e w' => e = .returned (.bool true) ∧ Below w.heap.size w w' := by
  have hE : Age.EnvS w := ⟨⟨pow10_of hL, Date.lim_of hSh.out⟩, tokenSigns_of hL⟩
  obtain ⟨l, hll, hcode, hmax⟩ : ∃ l : List Int, l.length = len0 ∧ Draw.CodeAt w.heap.size w a0 l ∧ len0 ≤ maxLen := by
    rcases w0 with ⟨rfl, rfl, rfl, rfl⟩ | ⟨x, rfl, hl, hm, hz, hcell, hwz⟩
    · exact ⟨[], rfl, ⟨fun i h => by simp at h, .inl rfl⟩, by unfold maxLen; omega⟩
    · have h := Draw.code_of w x len0 z0 (by omega) hcell hwz
      exact ⟨z0.take len0, h.1, h.2, by omega⟩
  subst hll
  unfold maxLen at hmax
  by_cases hbig : 1048576 < l.length
  · have hb2 : decide (1048576 < (l.length : Int)) = true := by simp; omega
    have HB := Num.hide (fun W => Draw.big_any a0 l.length cap0 W (by omega))
    clear hcode hE hL hSh
    go_enter Tryz.func5, Tryz.ntmps5
    go_wp2_with fail
    refine (Num.unhide HB _).mono ?_
    rintro e wx ⟨rfl, rfl⟩
    go_wp2
    go_ret
    exact ⟨rfl, Below.refl _ _⟩
  · clear hL hSh
    exact Strict.law (fun W => Age.EnvS W) (fun W W' h hb => h.below hb)
      (fun m u st v1 v2 l1 l2 b1 b2 W h1 h2 hk1 hk2 g => Pol.storable_impl m u st v1 v2 l1 l2 b1 b2 W h1 h2 hk1 hk2 ⟨g.1.2, g.2⟩)
      (fun m u st v1 v2 l1 l2 b1 b2 asked came now W h1 h2 hk1 hk2 ha0 ha1 hc0 hc1 hn0 hn1 g => Pol.mustCheck_impl m u st v1 v2 l1 l2 b1 b2 asked came now W h1 h2 hk1 (by omega) (by omega) (by omega) g)
      (fun st v l b asked came now W h hk ha0 ha1 hc0 hc1 hn0 hn1 g => Age.isFresh_impl st v l b asked came now W h (by omega) (by omega) (by omega) g)
      a0 cap0 l w hcode (by omega) hE

set_option maxRecDepth 100000 in
theorem contract (H : Type) (enc : TypeId × Value → H) (W : World) (base : Nat) (args : Array Value) (ds gs : List (DataW H)) (before : List MemPlace)
    (hval : ∀ (j : Nat) t v, Tryz.f5.params[j]? = some t → args[j]? = some v → Value.okWide Tryz.prog W .any base t v)
    (hW : DataW.Whole enc Tryz.prog Tryz.f5.params.toList Rows.fnStrictSpec.vars false W args.toList ds gs before) (hL : laidMetH Tryz.prog Rows.fnStrictRow.laid W) (hSh : W.ShapedOpen Tryz.prog) :
    Calls Tryz.prog 5 args W fun e W' => ∃ v, e = .returned v ∧ Rows.fnStrictSpec.post enc Tryz.prog Tryz.f5 false true false false W args v W' := by
  have hW' := hW
  obtain ⟨p, q, hA0, hV, rfl, hfz, hnd⟩ := hW
  have hA : DataW.TrodAll enc Tryz.prog W 0 (fun _ => true) true Tryz.f5.params.toList args.toList ds p := hA0
  rw [Tryz.params5] at hA hval
  obtain ⟨v0, vs0, d0, ds0, p0, q0, hargs, rfl, rfl, h0, r0⟩ := trodAll_cons hA
  obtain ⟨rfl, rfl, rfl⟩ := trodAll_nil r0
  obtain rfl : args = #[v0] := by cases args; simp_all
  obtain ⟨vg, vt, vcs, vf, vd, vp, rfl, vhg, vht, vhv, vhd, rfl⟩ := trodVars_one hV
  obtain rfl : 0 = vg := Option.some.inj (Eq.trans (by kernel_rfl) vhg)
  obtain rfl : 161 = vt := Option.some.inj ((show (Tryz.prog.globals[0]?).map (·.type) = some 161 by kernel_rfl).symm.trans vht)
  obtain ⟨a0, len0, cap0, rfl⟩ := okWide_slice Tryz.underlying42 (hval 0 42 v0 rfl rfl)
  have k0 := h0
  have lt0 : ∀ x ∈ p0, x.block < W.heap.size := by obtain ⟨m, hm⟩ := k0; exact DataW.trod_lt m _ _ _ hm
  obtain ⟨z0, w0⟩ : ∃ zs, IsRow .u8 W a0 len0 cap0 zs := by
    obtain ⟨fuel, hf⟩ := h0
    rcases open_ints Tryz.underlying42 Tryz.underlying5 (by kernel_rfl) hf with ⟨hcs, _⟩ | ⟨x, l, c, zs, hcs, _, hl, hm, hz, _, hcell, hwz⟩
    · simp [Value.cells] at hcs
      obtain ⟨rfl, rfl, rfl⟩ := hcs
      exact ⟨[], .inl ⟨rfl, rfl, rfl, rfl⟩⟩
    · simp [Value.cells] at hcs
      obtain ⟨rfl, rfl, rfl⟩ := hcs
      exact ⟨zs, .inr ⟨_, rfl, hl, hm, by simpa using hz, hcell, hwz⟩⟩
  clear hA0
  refine (walk W hSh hL a0 len0 cap0 z0 w0).mono fun e W' ⟨he, bel⟩ => ?_
  subst he
  have vlt : 0 < W.heap.size := by
    unfold World.var? at vhv
    rw [vhg, Option.bind_some] at vhv
    split at vhv
    · next hgg => exact (Array.getElem?_eq_some_iff.1 hgg).1
    · cases vhv
  obtain ⟨vf2, vhd2⟩ : DataW.Trod enc Tryz.prog W' 0 (fun b => decide (b < W.heap.size)) true 161 (.agg vcs) vd vp := Below.trod laidOut (by kernel_rfl) (of_decide_eq_true (by kernel_rfl)) ⟨vf, vhd⟩ bel (DataW.trod_lt vf _ _ _ vhd)
  exact ⟨_, rfl, _, _, _, [], _, _, hW', trodAll_mk1 (shut_bool Tryz.underlying4 _), (trodAll_cons_mk (Below.trod laidOut (by kernel_rfl) (of_decide_eq_true (by kernel_rfl)) k0 bel lt0) trodAll_mk0), (trodVars_mk1 vhg vht (var?_below bel vhg vlt vhv) vhd2), bel.frame _, fun h => by cases h⟩

/-- a world for the witness: the settled one, the listed variables holding what their initialisers lay -/
def dataCell : DataW Unit → List Value
  | .lit (.int k n) => [Value.int k n]
  | _ => [undef]
def dataPart : DataW Unit → List Value
  | .agg l => l.flatMap dataCell
  | x => dataCell x
def dataCells : DataW Unit → Array Value
  | .agg l => (l.flatMap dataPart).toArray
  | _ => #[]
def laidWorld (w0 : World) : World := { w0 with heap := ((((((w0.heap.modify 5 fun | .cells _ t fr => .cells (dataCells Rows.laid_math_bits_deBruijn32tab) t fr | o => o).modify 6 fun | .cells _ t fr => .cells (dataCells Rows.laid_math_bits_deBruijn64tab) t fr | o => o).modify 4 fun | .cells _ t fr => .cells (dataCells Rows.laid_internal_strconv_uint64pow10) t fr | o => o).modify 3 fun | .cells _ t fr => .cells (dataCells Rows.laid_unicode_utf8_acceptRanges) t fr | o => o).modify 0 fun | .cells _ t fr => .cells (dataCells Rows.laid_loop_example_g01402_impl_tokenSigns) t fr | o => o).modify 2 fun | .cells _ t fr => .cells (dataCells Rows.laid_unicode_utf8_first) t fr | o => o) }
theorem laid_met (os : Os) : laidMet Tryz.prog Rows.fnStrictRow.laid ((laidWorld (World.holding Tryz.prog os ⟨#[], #[], []⟩)).forCall (fun _ _ => 0) ⟨#[], #[.slice none 0 0], []⟩).memory :=
  laidMet_of_run3 8 (by kernel_rfl) (by kernel_rfl) (by kernel_rfl)
theorem reads (os : Os) {H : Type} (enc : TypeId × Value → H) : ∃ places, DataW.whole enc Tryz.prog ((laidWorld (World.holding Tryz.prog os ⟨#[], #[], []⟩)).forCall (fun _ _ => 0) ⟨#[], #[.slice none 0 0], []⟩).memory Tryz.f5.params.toList Rows.fnStrictSpec.vars false #[.slice none 0 0].toList 8 = some ([.nil], [Rows.laid_loop_example_g01402_impl_tokenSigns], places) :=
  ⟨MemPlace.row ⟨0, 0, none⟩ 15 ++ [], by kernel_rfl⟩

set_option maxRecDepth 100000 in
theorem lifted (os : Os) (started : os.Started) (H : Type) (enc : TypeId × Value → H) (F : Stop.Interp) :
    ReturnsInHanded {} Tryz.checked os 5 .any ((OpenSpec.ofChange Rows.fnStrictSpec).preRow enc Tryz.prog Tryz.f5 Rows.fnStrictRow.domain false Rows.fnStrictRow.laid) (((OpenSpec.ofChange Rows.fnStrictSpec).at F).post enc Tryz.prog Tryz.f5 false true false false) := by
  obtain ⟨places, hx⟩ := reads os enc
  refine returnsInHanded_of_row (C := Tryz.checked) (s := OpenSpec.ofChange Rows.fnStrictSpec) own started (by kernel_rfl) Tryz.func5
    (witness_row_at (enc := enc) (C := Tryz.checked) false (laidWorld (World.holding Tryz.prog os ⟨#[], #[], []⟩)) #[.slice none 0 0] rfl (by kernel_rfl) (by kernel_rfl) (by kernel_rfl)
      (OpenSpec.preRow_of_cond 8 hx (by kernel_rfl) (fun k hk => by cases hk) (by kernel_rfl) (laid_met os))) ?_
  intro W base args ds gs before hval hW _ _ _ hL hSh _
  exact contract H enc W base args ds gs before hval hW hL hSh

theorem said : Rows.FnStrictSaid :=
  OpenClaim.holds_of_cond 5 Tryz.f5 rfl rfl rfl rfl rfl rfl rfl ⟨rfl, rfl, rfl, rfl, rfl⟩ rfl rfl rfl rfl rfl (by kernel_rfl) Tryz.func5 (by kernel_rfl)
    (of_decide_eq_true (by kernel_rfl)) (by unfold Func.isWrapper; first | (rw [if_pos (by decide +kernel)]; kernel_rfl) | (rw [if_neg (by decide +kernel)]; exact ⟨rfl, rfl⟩))
    (fun os started H enc _ F => by rw [OpenClaim.pre_eq_preRow]; exact lifted os started H enc F)
theorem plain (f : FuncId) (fn : Func) (hf : Tryz.pinned.checked.prog.funcNamed Rows.fnStrictRow.func = some f) (hfn : Tryz.pinned.checked.prog.funcs[f]? = some fn) :
    false = Tryz.pinned.checked.prog.looks [] ∧ ∀ (j : Nat) t, fn.params[j]? = some t → Tryz.pinned.checked.prog.wantsStandIn t = false := by
  obtain rfl : f = 5 := Option.some.inj ((show Tryz.prog.funcNamed Rows.fnStrictRow.func = some 5 by kernel_rfl).symm.trans hf) |>.symm
  obtain rfl : fn = Tryz.f5 := (Option.some.inj (Tryz.func5.symm.trans hfn)).symm
  refine ⟨by kernel_rfl, fun j t ht => ?_⟩
  rw [Tryz.params5] at ht
  obtain rfl : t = 42 := by simpa using Array.mem_of_getElem? ht
  exact (show Tryz.prog.wantsStandIn 42 = false by kernel_rfl)
end Go.Proofs.YtbcjpjhpobmpbaaGreatDoor.fnStrict
namespace Go.Proofs.YtbcjpjhpobmpbaaGreatDoor
theorem fnStrict_card : Rows.FnStrictCardSaid :=
  Claim7.holds_tied_plain_at .later [] _ _ _ _ fnStrict.said (fun _ h => by cases h) (by kernel_rfl) (fun _ h => by cases h) fnStrict_row_tie rfl ⟨rfl, rfl⟩ (by kernel_rfl) rfl fnStrict.plain (by kernel_rfl)
#print axioms fnStrict_card
end Go.Proofs.YtbcjpjhpobmpbaaGreatDoor
