/-
  FnMessages: requests and answers are read from their texts, whatever stands behind, and of a beginning of a request more is wanted: for every draw, where the library's tables and errors, the program's two errors and its table of signs start as the program's text lays them (the card ties them).
-/
import Derived.Test.YtbajfklnekfeoaaGreatDoorCards
import Derived.Test.YtbajfklnekfeoaaGreatDoorTie
import Derived.Test.YtbajfklnekfeoaaGreatDoorPaj
import Derived.Test.YtbajfklnekfeoaaGreatDoorPak
import Derived.Test.YtbajfklnekfeoaaGreatDoorPan
import Derived.Test.YtbajfklnekfeoaaGreatDoorPaw
import Derived.Test.YtbajfklnekfeoaaGreatDoorPay
import Derived.WalkKit
import Derived.WalkLawsBesides
import Derived.ProofKit
import Derived.OpenShut
import Derived.ShutString
import Derived.Below
import Derived.WalkSmall
import Derived.ChangeVars
import Derived.Carry
import Derived.Deep.DeepHandedRow
import Derived.Deep.DeepLaidRun
import Derived.Lib.LaidTab
import Derived.Stop.LaidErr
import Derived.Stop.LaidTwo
import Derived.OpenVars
namespace Go.Proofs.YtbajfklnekfeoaaGreatDoor.fnMessages
open Go.ChangeShapes Go.WideShapes Go.ChangeAt Go.RowKit
open Go.ChangeMaps (open_string shut_string)
set_option linter.unusedVariables false

theorem own : ownKnob Tryz.prog.godebug = none := by kernel_rfl
theorem laidOut : laidOutB Tryz.prog = true := by kernel_rfl
theorem deBruijn32tab_of {W : World} (h : laidMetH Tryz.prog Rows.fnMessagesRow.laid W) : ∀ i, i < 32 → W.cell? ⟨6, i, none⟩ = some (.int .u8 (([0, 1, 28, 2, 29, 14, 24, 3, 30, 22, 20, 15, 25, 17, 4, 8, 31, 27, 13, 23, 21, 19, 16, 7, 26, 12, 18, 6, 11, 5, 10, 9] : List Int).getD i 0)) := by
  have h0 : laidMet Tryz.prog Rows.fnMessagesRow.laid W := h
  intro i hi
  exact (Lib.tabIs_of_head (g := 6) (t := 207) (zs := [0, 1, 28, 2, 29, 14, 24, 3, 30, 22, 20, 15, 25, 17, 4, 8, 31, 27, 13, 23, 21, 19, 16, 7, 26, 12, 18, 6, 11, 5, 10, 9]) (by kernel_rfl) (by kernel_rfl) Tryz.underlying207 Tryz.underlying5 (by kernel_rfl) (by kernel_rfl) h0).cell (by kernel_rfl) i hi
theorem deBruijn64tab_of {W : World} (h : laidMetH Tryz.prog Rows.fnMessagesRow.laid W) : ∀ i, i < 64 → W.cell? ⟨7, i, none⟩ = some (.int .u8 (([0, 1, 56, 2, 57, 49, 28, 3, 61, 58, 42, 50, 38, 29, 17, 4, 62, 47, 59, 36, 45, 43, 51, 22, 53, 39, 33, 30, 24, 18, 12, 5, 63, 55, 48, 27, 60, 41, 37, 16, 46, 35, 44, 21, 52, 32, 23, 11, 54, 26, 40, 15, 34, 20, 31, 10, 25, 14, 19, 9, 13, 8, 7, 6] : List Int).getD i 0)) := by
  have h0 : laidMet Tryz.prog Rows.fnMessagesRow.laid W := h
  intro i hi
  exact (Lib.tabIs_of_head (g := 7) (t := 208) (zs := [0, 1, 56, 2, 57, 49, 28, 3, 61, 58, 42, 50, 38, 29, 17, 4, 62, 47, 59, 36, 45, 43, 51, 22, 53, 39, 33, 30, 24, 18, 12, 5, 63, 55, 48, 27, 60, 41, 37, 16, 46, 35, 44, 21, 52, 32, 23, 11, 54, 26, 40, 15, 34, 20, 31, 10, 25, 14, 19, 9, 13, 8, 7, 6]) (by kernel_rfl) (by kernel_rfl) Tryz.underlying208 Tryz.underlying5 (by kernel_rfl) (by kernel_rfl) h0.tail).cell (by kernel_rfl) i hi
theorem g_pow10 : Tryz.prog.globalNamed "internal/strconv.uint64pow10" = some 4 := by kernel_rfl
theorem g_pow10_type : (Tryz.prog.globals[4]?).map (·.type) = some 187 := by kernel_rfl
theorem cells_pow10 : Tryz.prog.cellsOf 187 = 20 := by kernel_rfl
theorem cells_pow10_elem : Tryz.prog.cellsOf 80 = 1 := by kernel_rfl
theorem pow10_of {W : World} (h : laidMetH Tryz.prog Rows.fnMessagesRow.laid W) : Lib.TabIs Tryz.prog W "internal/strconv.uint64pow10" .u64 Lib.pow10Tab := by
  have h0 : laidMet Tryz.prog Rows.fnMessagesRow.laid W := h
  exact Lib.tabIs_of_head g_pow10 g_pow10_type Tryz.underlying187 Tryz.underlying80 cells_pow10_elem cells_pow10 h0.tail.tail
theorem tokenSigns_of {W : World} (h : laidMetH Tryz.prog Rows.fnMessagesRow.laid W) : ∀ i, i < 15 → W.cell? ⟨5, i, none⟩ = some (.int .u8 (([33, 35, 36, 37, 38, 39, 42, 43, 45, 46, 94, 95, 124, 126, 96] : List Int).getD i 0)) := by
  have h0 : laidMet Tryz.prog Rows.fnMessagesRow.laid W := h
  intro i hi
  exact (Lib.tabIs_of_head (g := 5) (t := 203) (zs := [33, 35, 36, 37, 38, 39, 42, 43, 45, 46, 94, 95, 124, 126, 96]) (by kernel_rfl) (by kernel_rfl) Tryz.underlying203 Tryz.underlying5 (by kernel_rfl) (by kernel_rfl) h0.tail.tail.tail.tail.tail.tail).cell (by kernel_rfl) i hi
theorem star : "*" ++ "errors.errorString" = "*errors.errorString" := by decide
theorem sentRow (u : TypeId) (h : Tryz.prog.typeName? 3 u = some "*errors.errorString") : u = 199 :=
  typeName_ptr_named (nm := "errors.errorString") (by rw [star]; kernel_rfl) (by kernel_rfl) (by decide) u (by rw [star]; exact h)
theorem g_ErrRange : Tryz.prog.globalNamed "strconv.ErrRange" = some 3 := by kernel_rfl
theorem g_ErrRange_type : (Tryz.prog.globals[3]?).map (·.type) = some 71 := by kernel_rfl
theorem ErrRange_of {W : World} (h : laidMetH Tryz.prog Rows.fnMessagesRow.laid W) : ∃ (a : Addr) (s : ByteArray), W.var? Tryz.prog "strconv.ErrRange" = some #[.iface 199 (.pointer (some a))] ∧ W.cell? a = some (.string s) ∧ s.size ≤ maxLen := by
  have h0 : laidMet Tryz.prog Rows.fnMessagesRow.laid W := h
  obtain ⟨a, s, e1, e2, _, e4⟩ := laid_sentinel h0.tail.tail.tail.tail g_ErrRange g_ErrRange_type Tryz.underlying71 sentRow Tryz.underlying199 Tryz.underlying201 rfl rfl Tryz.underlying9 (by kernel_rfl) (by kernel_rfl)
  exact ⟨a, s, e1, e2, e4⟩
theorem g_ErrSyntax : Tryz.prog.globalNamed "strconv.ErrSyntax" = some 2 := by kernel_rfl
theorem g_ErrSyntax_type : (Tryz.prog.globals[2]?).map (·.type) = some 71 := by kernel_rfl
theorem ErrSyntax_of {W : World} (h : laidMetH Tryz.prog Rows.fnMessagesRow.laid W) : ∃ (a : Addr) (s : ByteArray), W.var? Tryz.prog "strconv.ErrSyntax" = some #[.iface 199 (.pointer (some a))] ∧ W.cell? a = some (.string s) ∧ s.size ≤ maxLen := by
  have h0 : laidMet Tryz.prog Rows.fnMessagesRow.laid W := h
  obtain ⟨a, s, e1, e2, _, e4⟩ := laid_sentinel h0.tail.tail.tail.tail.tail g_ErrSyntax g_ErrSyntax_type Tryz.underlying71 sentRow Tryz.underlying199 Tryz.underlying201 rfl rfl Tryz.underlying9 (by kernel_rfl) (by kernel_rfl)
  exact ⟨a, s, e1, e2, e4⟩
theorem g_errMore : Tryz.prog.globalNamed "loop.example/g01402/impl.errMore" = some 0 := by kernel_rfl
theorem g_errMore_type : (Tryz.prog.globals[0]?).map (·.type) = some 71 := by kernel_rfl
theorem errMore_of {W : World} (h : laidMetH Tryz.prog Rows.fnMessagesRow.laid W) : ∃ (a : Addr) (s : ByteArray), W.var? Tryz.prog "loop.example/g01402/impl.errMore" = some #[.iface 199 (.pointer (some a))] ∧ W.cell? a = some (.string s) ∧ s.size ≤ maxLen := by
  have h0 : laidMet Tryz.prog Rows.fnMessagesRow.laid W := h
  obtain ⟨a, s, e1, e2, _, e4⟩ := laid_sentinel h0.tail.tail.tail.tail.tail.tail.tail g_errMore g_errMore_type Tryz.underlying71 sentRow Tryz.underlying199 Tryz.underlying201 rfl rfl Tryz.underlying9 (by kernel_rfl) (by kernel_rfl)
  exact ⟨a, s, e1, e2, e4⟩
theorem g_errBad : Tryz.prog.globalNamed "loop.example/g01402/impl.errBad" = some 1 := by kernel_rfl
theorem g_errBad_type : (Tryz.prog.globals[1]?).map (·.type) = some 71 := by kernel_rfl
theorem errBad_of {W : World} (h : laidMetH Tryz.prog Rows.fnMessagesRow.laid W) : ∃ (a : Addr) (s : ByteArray), W.var? Tryz.prog "loop.example/g01402/impl.errBad" = some #[.iface 199 (.pointer (some a))] ∧ W.cell? a = some (.string s) ∧ s.size ≤ maxLen := by
  have h0 : laidMet Tryz.prog Rows.fnMessagesRow.laid W := h
  obtain ⟨a, s, e1, e2, _, e4⟩ := laid_sentinel h0.tail.tail.tail.tail.tail.tail.tail.tail g_errBad g_errBad_type Tryz.underlying71 sentRow Tryz.underlying199 Tryz.underlying201 rfl rfl Tryz.underlying9 (by kernel_rfl) (by kernel_rfl)
  exact ⟨a, s, e1, e2, e4⟩
/-- what the walk is told of a slice of integers that came in: it is nil; or it leads to a row of cells -/
def IsRow (k : IntKind) (w : World) (a : Option Addr) (len cap : Nat) (zs : List Int) : Prop :=
  (a = none ∧ len = 0 ∧ cap = 0 ∧ zs = []) ∨
  ∃ x, a = some x ∧ len ≤ cap ∧ cap ≤ maxLen ∧ zs.length = cap ∧ (∀ i, i < zs.length → w.cell? (x.add i) = some (.int k (zs.getD i 0))) ∧ ∀ n ∈ zs, (Lit.int k n).wf = true


set_option maxRecDepth 100000 in
set_option maxHeartbeats 1000000 in
theorem walk (w : World) (hSh : Hid (w.ShapedOpen Tryz.prog)) (hL : laidMetH Tryz.prog Rows.fnMessagesRow.laid w) (a0 : Option Addr) (len0 cap0 : Nat) (z0 : List Int) (w0 : IsRow .u8 w a0 len0 cap0 z0) :
    Calls Tryz.prog 4 #[.slice a0 len0 cap0] w fun e w' => e = .returned (.bool true) ∧ Below w.heap.size w w' := by
  obtain ⟨em, eb, hEr⟩ : ∃ m b, Body.Errs m b w := by
    have h0 : laidMet Tryz.prog Rows.fnMessagesRow.laid w := hL
    obtain ⟨a0, a1, s0, s1, c0, c1, t0, t1, hv0, hv1, _, _, _, _, _, _, hne, hb0, hb1⟩ := laid_sentinels2 h0.tail.tail.tail.tail.tail.tail.tail g_errMore g_errMore_type g_errBad g_errBad_type Tryz.underlying71 sentRow Tryz.underlying199 Tryz.underlying201 rfl rfl Tryz.underlying9 (by kernel_rfl) (by kernel_rfl)
    exact ⟨a0, a1, World.var?_cell g_errMore hv0 0, World.var?_cell g_errBad hv1 0, hne, ⟨_, _, hb0⟩, ⟨_, _, hb1⟩⟩
  have hSy : Body.Syn w := by obtain ⟨a, s, e, _, _⟩ := ErrSyntax_of hL; exact ⟨_, _, World.var?_cell g_ErrSyntax e 0⟩
  have hLm := Body.lim_of hSh.out
  have hSg : Sign.Signs w := tokenSigns_of hL
  have hTb : Dec.Tab w := pow10_of hL
  obtain ⟨ad, sx, hvar, _, _⟩ := ErrSyntax_of hL
  have hSv : Msg.SynV w := ⟨_, _, hvar⟩
  have hG : Msg.Ground3 em eb w := ⟨⟨hLm, hSy, hEr, hSg⟩, hTb, hSv⟩
  clear hL hSh hvar hEr hSy hLm hSg hTb hSv
  obtain ⟨l, hll, hcode, hmax⟩ : ∃ l : List Int, l.length = len0 ∧ Draw.CodeAt w.heap.size w a0 l ∧ len0 ≤ maxLen := by
    rcases w0 with ⟨rfl, rfl, rfl, rfl⟩ | ⟨x, rfl, hl, hm, hz, hcell, hwz⟩
    · exact ⟨[], rfl, ⟨fun i h => by simp at h, .inl rfl⟩, by unfold maxLen; omega⟩
    · have h := Draw.code_of w x len0 z0 (by omega) hcell hwz
      exact ⟨z0.take len0, h.1, h.2, by omega⟩
  subst hll
  unfold maxLen at hmax
  by_cases hbig : 1048576 < l.length
  · have hb2 : decide (1048576 < (l.length : Int)) = true := by simp; omega
    have HB := Num.hide (fun W => Draw.big_any a0 l.length cap0 W (by omega))
    clear hcode hG
    go_enter Tryz.func4, Tryz.ntmps4
    go_wp2_with fail
    refine (Num.unhide HB _).mono ?_
    rintro e wx ⟨rfl, rfl⟩
    go_wp2
    go_ret
    exact ⟨rfl, Below.refl _ _⟩
  · exact Msgs.law (fun W => Msg.Ground3 em eb W) (fun _ _ h hb => h.below hb) (fun m u v l b W h hl hm hu hb g => Msg.showReq_impl m u v l b W h hl hm hu hb g.ground.signs g.tab) (fun s W hs g => Msg.readReq_impl s em eb W hs g.ground) (fun st v l b W h hl hb g => Msg.showResp_impl st v l b W h hl hb g.ground.signs g.tab) (fun s W hs g => Msg.readResp_impl s em eb W hs g) a0 cap0 l (fun W h => Draw.drawReadReq cap0 a0 l W h (by omega)) w hcode (by omega) hG

theorem three_vars {H : Type} {enc : TypeId × Value → H} {P : Program} {w : World} {spare : Nat → Bool} {n0 n1 n2 : String} {gs : List (DataW H)} {ps : List MemPlace} (h : DataW.TrodVars enc P w spare [n0, n1, n2] gs ps) : ∃ a b c, gs = [a, b, c] := by
  cases gs with
  | nil => simp [DataW.TrodVars] at h
  | cons d ds =>
    obtain ⟨g0, t0, cs0, f0, p0, q0, h1, h2, h3, h4, hs, e⟩ := h
    obtain ⟨_, _, _, _, d0, _, _, _, _, _, d1, _, rfl, _⟩ := trodVars_two hs
    exact ⟨d, d0, d1, rfl⟩
set_option maxRecDepth 100000 in
theorem contract (H : Type) (enc : TypeId × Value → H) (W : World) (base : Nat) (args : Array Value) (ds gs : List (DataW H)) (before : List MemPlace)
    (hval : ∀ (j : Nat) t v, Tryz.f4.params[j]? = some t → args[j]? = some v → Value.okWide Tryz.prog W .any base t v)
    (hW : DataW.Whole enc Tryz.prog Tryz.f4.params.toList Rows.fnMessagesSpec.vars false W args.toList ds gs before) (hL : laidMetH Tryz.prog Rows.fnMessagesRow.laid W) (hSh : W.ShapedOpen Tryz.prog) :
    Calls Tryz.prog 4 args W fun e W' => ∃ v, e = .returned v ∧ Rows.fnMessagesSpec.post enc Tryz.prog Tryz.f4 false true false false W args v W' := by
  have hW' := hW
  obtain ⟨p, q, hA0, hV, rfl, hfz, hnd⟩ := hW
  have hA : DataW.TrodAll enc Tryz.prog W 0 (fun _ => true) true Tryz.f4.params.toList args.toList ds p := hA0
  rw [Tryz.params4] at hA hval
  obtain ⟨v0, vs0, d0, ds0, p0, q0, hargs, rfl, rfl, h0, r0⟩ := trodAll_cons hA
  obtain ⟨rfl, rfl, rfl⟩ := trodAll_nil r0
  obtain rfl : args = #[v0] := by cases args; simp_all
  have hV0 := hV
  obtain ⟨vd0, vd1, vd2, rfl⟩ := three_vars hV
  obtain ⟨a0, len0, cap0, rfl⟩ := okWide_slice Tryz.underlying22 (hval 0 22 v0 rfl rfl)
  have k0 := h0
  have lt0 : ∀ x ∈ p0, x.block < W.heap.size := by obtain ⟨m, hm⟩ := k0; exact DataW.trod_lt m _ _ _ hm
  obtain ⟨z0, w0⟩ : ∃ zs, IsRow .u8 W a0 len0 cap0 zs := by
    obtain ⟨fuel, hf⟩ := h0
    rcases open_ints Tryz.underlying22 Tryz.underlying5 (by kernel_rfl) hf with ⟨hcs, _⟩ | ⟨x, l, c, zs, hcs, _, hl, hm, hz, _, hcell, hwz⟩
    · simp [Value.cells] at hcs
      obtain ⟨rfl, rfl, rfl⟩ := hcs
      exact ⟨[], .inl ⟨rfl, rfl, rfl, rfl⟩⟩
    · simp [Value.cells] at hcs
      obtain ⟨rfl, rfl, rfl⟩ := hcs
      exact ⟨zs, .inr ⟨_, rfl, hl, hm, by simpa using hz, hcell, hwz⟩⟩
  clear hA0
  refine (walk W hSh hL a0 len0 cap0 z0 w0).mono fun e W' ⟨he, bel⟩ => ?_
  subst he
  exact ⟨_, rfl, _, _, _, [], _, _, hW', trodAll_mk1 (shut_bool Tryz.underlying4 _), (trodAll_cons_mk (Below.trod laidOut (by kernel_rfl) (of_decide_eq_true (by kernel_rfl)) k0 bel lt0) trodAll_mk0), (Below.trodVars laidOut bel (by kernel_rfl) hV0), bel.frame _, fun h => by cases h⟩

/-- a world for the witness: the settled one, the listed variables holding what their initialisers lay -/
def dataCell : DataW Unit → List Value
  | .lit (.int k n) => [Value.int k n]
  | _ => [undef]
def dataPart : DataW Unit → List Value
  | .agg l => l.flatMap dataCell
  | x => dataCell x
def dataCells : DataW Unit → Array Value
  | .agg l => (l.flatMap dataPart).toArray
  | _ => #[]
def laidWorld (w0 : World) : World := { w0 with heap := ((((((((((w0.heap.modify 6 fun | .cells _ t fr => .cells (dataCells Rows.laid_math_bits_deBruijn32tab) t fr | o => o).modify 7 fun | .cells _ t fr => .cells (dataCells Rows.laid_math_bits_deBruijn64tab) t fr | o => o).modify 4 fun | .cells _ t fr => .cells (dataCells Rows.laid_internal_strconv_uint64pow10) t fr | o => o).modify 10 fun | .cells _ t fr => .cells (dataCells Rows.laid_unicode_utf8_acceptRanges) t fr | o => o).modify 5 fun | .cells _ t fr => .cells (dataCells Rows.laid_loop_example_g01402_impl_tokenSigns) t fr | o => o).modify 9 fun | .cells _ t fr => .cells (dataCells Rows.laid_unicode_utf8_first) t fr | o => o).modify 3 fun | .cells _ t fr => .cells #[.iface 199 (.pointer (some ⟨w0.heap.size - 4, 0, none⟩))] t fr | o => o).modify 2 fun | .cells _ t fr => .cells #[.iface 199 (.pointer (some ⟨w0.heap.size - 3, 0, none⟩))] t fr | o => o).modify 0 fun | .cells _ t fr => .cells #[.iface 199 (.pointer (some ⟨w0.heap.size - 2, 0, none⟩))] t fr | o => o).modify 1 fun | .cells _ t fr => .cells #[.iface 199 (.pointer (some ⟨w0.heap.size - 1, 0, none⟩))] t fr | o => o) }
theorem laid_met (os : Os) : laidMet Tryz.prog Rows.fnMessagesRow.laid ((laidWorld (World.holding Tryz.prog os ⟨#[.cells #[.string ⟨#[118, 97, 108, 117, 101, 32, 111, 117, 116, 32, 111, 102, 32, 114, 97, 110, 103, 101]⟩] 201, .cells #[.string ⟨#[105, 110, 118, 97, 108, 105, 100, 32, 115, 121, 110, 116, 97, 120]⟩] 201, .cells #[.string ⟨#[116, 104, 101, 32, 116, 101, 120, 116, 32, 105, 115, 32, 110, 111, 116, 32, 119, 104, 111, 108, 101]⟩] 201, .cells #[.string ⟨#[116, 104, 101, 32, 116, 101, 120, 116, 32, 105, 115, 32, 110, 111, 116, 32, 114, 105, 103, 104, 116]⟩] 201], #[], []⟩)).forCall (fun _ _ => 0) ⟨#[], #[.slice none 0 0], []⟩).memory :=
  laidMet_of_run3 8 (by kernel_rfl) (by kernel_rfl) (by kernel_rfl)
theorem reads (os : Os) {H : Type} (enc : TypeId × Value → H) : ∃ places, DataW.whole enc Tryz.prog ((laidWorld (World.holding Tryz.prog os ⟨#[.cells #[.string ⟨#[118, 97, 108, 117, 101, 32, 111, 117, 116, 32, 111, 102, 32, 114, 97, 110, 103, 101]⟩] 201, .cells #[.string ⟨#[105, 110, 118, 97, 108, 105, 100, 32, 115, 121, 110, 116, 97, 120]⟩] 201, .cells #[.string ⟨#[116, 104, 101, 32, 116, 101, 120, 116, 32, 105, 115, 32, 110, 111, 116, 32, 119, 104, 111, 108, 101]⟩] 201, .cells #[.string ⟨#[116, 104, 101, 32, 116, 101, 120, 116, 32, 105, 115, 32, 110, 111, 116, 32, 114, 105, 103, 104, 116]⟩] 201], #[], []⟩)).forCall (fun _ _ => 0) ⟨#[], #[.slice none 0 0], []⟩).memory Tryz.f4.params.toList Rows.fnMessagesSpec.vars false #[.slice none 0 0].toList 8 = some ([.nil], [Rows.laid_loop_example_g01402_impl_tokenSigns, .held (enc (199, .pointer (some ⟨(World.holding Tryz.prog os ⟨#[.cells #[.string ⟨#[118, 97, 108, 117, 101, 32, 111, 117, 116, 32, 111, 102, 32, 114, 97, 110, 103, 101]⟩] 201, .cells #[.string ⟨#[105, 110, 118, 97, 108, 105, 100, 32, 115, 121, 110, 116, 97, 120]⟩] 201, .cells #[.string ⟨#[116, 104, 101, 32, 116, 101, 120, 116, 32, 105, 115, 32, 110, 111, 116, 32, 119, 104, 111, 108, 101]⟩] 201, .cells #[.string ⟨#[116, 104, 101, 32, 116, 101, 120, 116, 32, 105, 115, 32, 110, 111, 116, 32, 114, 105, 103, 104, 116]⟩] 201], #[], []⟩).heap.size - 2, 0, none⟩))), .held (enc (199, .pointer (some ⟨(World.holding Tryz.prog os ⟨#[.cells #[.string ⟨#[118, 97, 108, 117, 101, 32, 111, 117, 116, 32, 111, 102, 32, 114, 97, 110, 103, 101]⟩] 201, .cells #[.string ⟨#[105, 110, 118, 97, 108, 105, 100, 32, 115, 121, 110, 116, 97, 120]⟩] 201, .cells #[.string ⟨#[116, 104, 101, 32, 116, 101, 120, 116, 32, 105, 115, 32, 110, 111, 116, 32, 119, 104, 111, 108, 101]⟩] 201, .cells #[.string ⟨#[116, 104, 101, 32, 116, 101, 120, 116, 32, 105, 115, 32, 110, 111, 116, 32, 114, 105, 103, 104, 116]⟩] 201], #[], []⟩).heap.size - 1, 0, none⟩)))], places) :=
  ⟨(MemPlace.row ⟨5, 0, none⟩ 15 ++ []) ++ (MemPlace.row ⟨0, 0, none⟩ 1 ++ []) ++ (MemPlace.row ⟨1, 0, none⟩ 1 ++ []), by kernel_rfl⟩

set_option maxRecDepth 100000 in
theorem lifted (os : Os) (started : os.Started) (H : Type) (enc : TypeId × Value → H) (F : Stop.Interp) :
    ReturnsInHanded {} Tryz.checked os 4 .any ((OpenSpec.ofChange Rows.fnMessagesSpec).preRow enc Tryz.prog Tryz.f4 Rows.fnMessagesRow.domain false Rows.fnMessagesRow.laid) (((OpenSpec.ofChange Rows.fnMessagesSpec).at F).post enc Tryz.prog Tryz.f4 false true false false) := by
  obtain ⟨places, hx⟩ := reads os enc
  refine returnsInHanded_of_row (C := Tryz.checked) (s := OpenSpec.ofChange Rows.fnMessagesSpec) own started (by kernel_rfl) Tryz.func4
    (witness_row_at (enc := enc) (C := Tryz.checked) false (laidWorld (World.holding Tryz.prog os ⟨#[.cells #[.string ⟨#[118, 97, 108, 117, 101, 32, 111, 117, 116, 32, 111, 102, 32, 114, 97, 110, 103, 101]⟩] 201, .cells #[.string ⟨#[105, 110, 118, 97, 108, 105, 100, 32, 115, 121, 110, 116, 97, 120]⟩] 201, .cells #[.string ⟨#[116, 104, 101, 32, 116, 101, 120, 116, 32, 105, 115, 32, 110, 111, 116, 32, 119, 104, 111, 108, 101]⟩] 201, .cells #[.string ⟨#[116, 104, 101, 32, 116, 101, 120, 116, 32, 105, 115, 32, 110, 111, 116, 32, 114, 105, 103, 104, 116]⟩] 201], #[], []⟩)) #[.slice none 0 0] rfl (by kernel_rfl) (by kernel_rfl) (by kernel_rfl)
      (OpenSpec.preRow_of_cond 8 hx (by kernel_rfl) (fun k hk => by cases hk) (by kernel_rfl) (laid_met os))) ?_
  intro W base args ds gs before hval hW _ _ _ hL hSh _
  exact contract H enc W base args ds gs before hval hW hL hSh

theorem said : Rows.FnMessagesSaid :=
  OpenClaim.holds_of_cond 4 Tryz.f4 rfl rfl rfl rfl rfl rfl rfl ⟨rfl, rfl, rfl, rfl, rfl⟩ rfl rfl rfl rfl rfl (by kernel_rfl) Tryz.func4 (by kernel_rfl)
    (of_decide_eq_true (by kernel_rfl)) (by unfold Func.isWrapper; first | (rw [if_pos (by decide +kernel)]; kernel_rfl) | (rw [if_neg (by decide +kernel)]; exact ⟨rfl, rfl⟩))
    (fun os started H enc _ F => by rw [OpenClaim.pre_eq_preRow]; exact lifted os started H enc F)
theorem plain (f : FuncId) (fn : Func) (hf : Tryz.pinned.checked.prog.funcNamed Rows.fnMessagesRow.func = some f) (hfn : Tryz.pinned.checked.prog.funcs[f]? = some fn) :
    true = Tryz.pinned.checked.prog.looks [] ∧ ∀ (j : Nat) t, fn.params[j]? = some t → Tryz.pinned.checked.prog.wantsStandIn t = false := by
  obtain rfl : f = 4 := Option.some.inj ((show Tryz.prog.funcNamed Rows.fnMessagesRow.func = some 4 by kernel_rfl).symm.trans hf) |>.symm
  obtain rfl : fn = Tryz.f4 := (Option.some.inj (Tryz.func4.symm.trans hfn)).symm
  refine ⟨by kernel_rfl, fun j t ht => ?_⟩
  rw [Tryz.params4] at ht
  obtain rfl : t = 22 := by simpa using Array.mem_of_getElem? ht
  exact (show Tryz.prog.wantsStandIn 22 = false by kernel_rfl)
end Go.Proofs.YtbajfklnekfeoaaGreatDoor.fnMessages
namespace Go.Proofs.YtbajfklnekfeoaaGreatDoor
theorem fnMessages_card : Rows.FnMessagesCardSaid :=
  Claim7.holds_tied_plain_at .later [] _ _ _ _ fnMessages.said (fun _ h => by cases h) (by kernel_rfl) (fun _ h => by cases h) fnMessages_row_tie rfl ⟨rfl, rfl⟩ (by kernel_rfl) rfl fnMessages.plain (by kernel_rfl)
#print axioms fnMessages_card
end Go.Proofs.YtbajfklnekfeoaaGreatDoor
