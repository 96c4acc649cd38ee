/-
  PickedImpl: Picked of the program: for each of the names that the request has, that name and its value, its parts put together anew.
  PolAt: A request and an answer in boxes of a call of its own.
  FldSameNum: Two fields compared, whole.
  FldSameSpec: SameFields of the specification: are two lists of fields alike?
-/
import Derived.Test.YtkogcbnbmdeolaaDoorPak
import Derived.Test.YtkogcbnbmdeolaaDoorPap
import Derived.Test.YtkogcbnbmdeolaaDoorPam
import Derived.Test.YtkogcbnbmdeolaaDoorPae
import Derived.Test.YtkogcbnbmdeolaaDoorPac
import Derived.Test.YtkogcbnbmdeolaaDoorPad
import Derived.Test.YtkogcbnbmdeolaaDoorRows
import Derived.WalkKit
import Derived.Test.YtkogcbnbmdeolaaDoorFlds
import Derived.Deep.QuietTactic
import Derived.BigQuiet
import Derived.Laws.StructEq
namespace Go.Proofs.YtkogcbnbmdeolaaDoor
open Go.RowKit
set_option linter.unusedVariables false
set_option linter.unusedSimpArgs false
namespace Vary
open Flds (Fld)

set_option maxRecDepth 100000 in
set_option maxHeartbeats 2000000 in
theorem pick_one (name : ByteArray) (g : Nat) (m u b : ByteArray) (v : Value) (l : List Fld) (w : World) (hbox : w.heap[g]? = some (.cells #[.string m, .string u, v, .string b] 32)) (h : Flds.Is w v l) (hl : Flds.bulk l ≤ 1048576) (hn : 0 < name.size) :
    Calls Tryd.prog 60 #[.string name, .pointer (some ⟨g, 0, none⟩)] w fun e w' => e = .returned (.tuple #[.agg #[.string name, .string (Norm.normal (Flds.get l name).1)], .bool (Flds.get l name).2]) ∧ Below w.heap.size w w' := by
  have c0 : (w.alloc (.cells #[.string ⟨#[]⟩, .string ⟨#[]⟩] 40)).heap[w.heap.size]? = some (.cells #[.string ⟨#[]⟩, .string ⟨#[]⟩] 40) := heap_alloc_new w _
  have HC := Num.hide c0
  have hb0 := (Below.refl w.heap.size w).alloc (Nat.le_refl _) (.cells #[.string ⟨#[]⟩, .string ⟨#[]⟩] 40)
  have HB0 := Num.hide hb0
  have hz0 : w.heap.size + 1 = (w.alloc (.cells #[.string ⟨#[]⟩, .string ⟨#[]⟩] 40)).heap.size := by simp
  have hgl : g < w.heap.size := (Array.getElem?_eq_some_iff.1 hbox).1
  have X0 := Num.hide ((hb0.block g hgl).trans hbox)
  have HG := Num.hide (Flds.get_impl v l name _ (Recs.is_below h hb0) (by omega))
  have hsz := Nat.le_trans (Cc.get_bulk l name hn) hl
  clear c0 hb0 hbox h
  generalize Flds.get l name = gv at HG hsz ⊢
  obtain ⟨s, sb⟩ := gv
  simp only at HG hsz ⊢
  have HN := Num.hide (fun W => Norm.normal_impl s W hsz)
  generalize Norm.normal s = y at HN ⊢
  go_enter Tryd.func60, Tryd.ntmps60
  go_upto_region 1 with fail
  have c1 : (w.alloc (.cells #[.string ⟨#[]⟩, .string ⟨#[]⟩] 40)).cell? ⟨g, 2, none⟩ = some v := Recs.box_cell X0.out 2
  go_wp2_with fail
  refine HG.out.mono ?_
  rintro e w1 ⟨rfl, hb1⟩
  clear c1
  go_wp2_with fail
  refine (HN.out _).mono ?_
  rintro e w2 ⟨rfl, hb2⟩
  obtain ⟨k0, k1, g0, g1⟩ := Flds.two_cells (show w2.heap[w.heap.size]? = _ from by rw [hb2.block _ (by have := hb1.size; change (w.alloc _).heap.size ≤ _ at this; omega), hb1.block _ (by show _ < (w.alloc _).heap.size; omega)]; exact HC.out)
  have HB := Num.hide (HB0.out.trans (((hb1.mono (by show _ ≤ (w.alloc _).heap.size; omega : w.heap.size ≤ _)).trans (hb2.mono (by have := hb1.size; change (w.alloc _).heap.size ≤ _ at this; omega)))))
  clear hb1 hb2 HB0 HC hz0 HG HN X0
  have r0 := Num.hide (Flds.box_first (x := name) (y := y) k0)
  have r1 := Num.hide (Flds.box_second (x := name) (y := y) k1)
  have HB1 := Num.hide ((HB.out.setCell (p := ⟨w.heap.size, 0, none⟩) (Nat.le_refl _) (.string name)).setCell (p := ⟨w.heap.size, 1, none⟩) (Nat.le_refl _) (.string y))
  go_wp2
  generalize ((w2.setCell ⟨w.heap.size, 0, none⟩ (.string name)).setCell ⟨w.heap.size, 1, none⟩ (.string y)) = w3 at r0 r1 HB1 ⊢
  have r0 := r0.out
  have r1 := r1.out
  exact bodyPost_ret (v := .tuple #[.agg #[.string name, .string y], .bool sb]) (by simp [results, Tryd.results60, go_sem, r0, r1]) rfl ⟨rfl, HB1.out⟩
theorem pick_choice (g : Nat) (m u b : ByteArray) (v : Value) (l : List Fld) (N : List ByteArray) (w : World) (B : Nat) (hB : B ≤ w.heap.size) (hbox : w.heap[g]? = some (.cells #[.string m, .string u, v, .string b] 32)) (h : Flds.Is w v l) (hl : Flds.bulk l ≤ 1048576) (hN : ∀ n ∈ N, 0 < n.size) :
    Flds.ChoiceF 60 #[.pointer (some ⟨g, 0, none⟩)] B w.heap.size w N (fun k => pickL l (N.take k)) (fun _ W => Below w.heap.size w W) := by
  intro k hk W _ hn hQ
  have hgl : g < w.heap.size := (Array.getElem?_eq_some_iff.1 hbox).1
  simp only
  rw [pick_take l N k hk]
  refine (pick_one N[k] g m u b v l W ((hQ.block g hgl).trans hbox) (Recs.is_below h hQ) hl (hN _ (List.getElem_mem hk))).mono ?_
  rintro e W' ⟨rfl, hb⟩
  exact ⟨_, _, _, rfl, rfl, hQ.trans (hb.mono hn), Flds.Far.of_below hb (Nat.le_trans hB hn)⟩
set_option maxRecDepth 100000 in
set_option maxHeartbeats 2000000 in
theorem picked_impl (m u : ByteArray) (st : Int) (v1 v2 : Value) (l1 l2 : List Fld) (b1 b2 : ByteArray) (w : World) (h1 : Flds.Is w v1 l1) (h2 : Flds.Is w v2 l2) (hl1 : Flds.bulk l1 ≤ 1048576) (hl2 : Flds.bulk l2 ≤ 1048576) :
    Calls Tryd.prog 20 #[Req.val m u v1 b1, Resp.val st v2 b2] w fun e w' => ∃ v', e = .returned v' ∧ Flds.Own w.heap.size w' v' (picked l1 l2) ∧ Below w.heap.size w w' := by
  have HV := Num.hide (fun W h => names_impl st v2 l2 b2 W h hl2)
  have hlen : (varyNames l2).length ≤ 1048577 := by
    have h := names_len (Sign.split (Flds.get l2 varyName).1)
    have h2 := Cc.split_len (Flds.get l2 varyName).1
    have h3 := Cc.get_bulk l2 varyName (by decide)
    unfold varyNames
    omega
  have hpos := vary_pos l2
  unfold picked
  generalize varyNames l2 = N at HV hlen hpos ⊢
  obtain ⟨av, cv, rfl, _⟩ := Flds.is_form h2
  unfold Req.val
  unfold Resp.val at HV ⊢
  go_enter Tryd.func20, Tryd.ntmps20
  go_upto_region 1 with fail
  have B0 := Num.hide ((((Below.refl w.heap.size w).alloc (Nat.le_refl _) (.cells #[.string m, .string u, v1, .string b1] 32)).alloc (by simp) (.cells #[.int .i64 st, .slice av l2.length cv, .string b2] 34)))
  have R2 : Hid (((w.alloc (.cells #[.string m, .string u, v1, .string b1] 32)).alloc (.cells #[.int .i64 st, .slice av l2.length cv, .string b2] 34)).heap[w.heap.size + 1]? = some (.cells #[.int .i64 st, .slice av l2.length cv, .string b2] 34)) := by
    have := heap_alloc_new (w.alloc (.cells #[.string m, .string u, v1, .string b1] 32)) (.cells #[.int .i64 st, .slice av l2.length cv, .string b2] 34)
    rw [World.size_alloc] at this
    exact this
  have R1 : Hid (((w.alloc (.cells #[.string m, .string u, v1, .string b1] 32)).alloc (.cells #[.int .i64 st, .slice av l2.length cv, .string b2] 34)).heap[w.heap.size]? = some (.cells #[.string m, .string u, v1, .string b1] 32)) := by
    show _ = _
    rw [heap_alloc_old _ _ (by rw [World.size_alloc]; omega)]
    exact heap_alloc_new w _
  generalize ((w.alloc (.cells #[.string m, .string u, v1, .string b1] 32)).alloc (.cells #[.int .i64 st, .slice av l2.length cv, .string b2] 34)) = w0 at B0 R1 R2 ⊢
  have c0 : w0.cell? ⟨w.heap.size + 1, 0, none⟩ = some (.int .i64 st) := Recs.box_cell R2.out 0
  have c1 : w0.cell? ⟨w.heap.size + 1, 1, none⟩ = some (.slice av l2.length cv) := Recs.box_cell R2.out 1
  have c2 : w0.cell? ⟨w.heap.size + 1, 2, none⟩ = some (.string b2) := Recs.box_cell R2.out 2
  have I1 := Num.hide (Recs.is_below h1 B0.out)
  have I2 := Num.hide (Recs.is_below h2 B0.out)
  clear h1 h2
  go_wp2_with fail
  refine (HV.out _ I2.out).mono ?_
  rintro e w1 ⟨nv, rfl, ho, hb⟩
  have hr1 : w.heap.size < w0.heap.size := (Array.getElem?_eq_some_iff.1 R1.out).1
  have hs2 : w.heap.size ≤ w1.heap.size := Nat.le_trans (Nat.le_of_lt hr1) hb.size
  have HO := Num.hide ho
  have HN := Num.hide (Flds.chosenTF_any 60 #[.pointer (some ⟨w.heap.size, 0, none⟩)] w.heap.size w1 nv N (fun k => pickL l1 (N.take k)) (fun _ W => Below w1.heap.size w1 W)
    (fun k W hq => Strs.is_below (B := 0) (Strs.own_is HO.out) hq) hs2 rfl (fun k hk => by have := pick_len l1 (N.take k); rw [List.length_take] at this; omega) (by omega) (Below.refl _ _)
    (fun k W W' hq hb2 => hq.trans hb2)
    (pick_choice w.heap.size m u b1 v1 l1 N w1 w.heap.size hs2 ((hb.block _ hr1).trans R1.out) (Recs.is_below I1.out hb) hl1 hpos) (enters_of Tryd.func60 (by kernel_rfl) rfl))
  simp only [List.take_length] at HN
  have HB1 := Num.hide (B0.out.trans (hb.mono (Nat.le_of_lt hr1)))
  clear hb c0 c1 c2 R1 R2 B0 I1 I2 HV hr1 ho
  go_wp2_with fail
  refine HN.out.mono ?_
  rintro e w2 ⟨v', rfl, ho, hb, -⟩
  have HO2 := Num.hide (Recs.own_mono ho hs2)
  have HB2 := Num.hide (HB1.out.trans hb)
  clear ho hb
  go_wp2
  go_ret
  exact ⟨_, rfl, HO2.out, HB2.out⟩
end Vary
end Go.Proofs.YtkogcbnbmdeolaaDoor
namespace Go.Proofs.YtkogcbnbmdeolaaDoor
open Go.RowKit
set_option linter.unusedVariables false
set_option linter.unusedSimpArgs false
namespace Pol
open Flds (Fld ret_int)

/-- the two boxes, cell by cell, and what they lead to -/
abbrev PAt (w : World) (g : Nat) (m u : ByteArray) (v1 : Value) (l1 : List Fld) (b1 : ByteArray) (st : Int) (v2 : Value) (l2 : List Fld) (b2 : ByteArray) (W : World) : Prop :=
  W.cell? ⟨g, 0, none⟩ = some (.string m) ∧ W.cell? ⟨g, 1, none⟩ = some (.string u) ∧ W.cell? ⟨g, 2, none⟩ = some v1 ∧ W.cell? ⟨g, 3, none⟩ = some (.string b1) ∧
  W.cell? ⟨g + 1, 0, none⟩ = some (.int .i64 st) ∧ W.cell? ⟨g + 1, 1, none⟩ = some v2 ∧ W.cell? ⟨g + 1, 2, none⟩ = some (.string b2) ∧ Flds.Is W v1 l1 ∧ Flds.Is W v2 l2 ∧ Below w.heap.size w W
theorem PAt.step {w : World} {g : Nat} {m u : ByteArray} {v1 : Value} {l1 : List Fld} {b1 : ByteArray} {st : Int} {v2 : Value} {l2 : List Fld} {b2 : ByteArray} {W W' : World} (h : PAt w g m u v1 l1 b1 st v2 l2 b2 W) (hb : Below W.heap.size W W') : PAt w g m u v1 l1 b1 st v2 l2 b2 W' := by
  obtain ⟨h0, h1, h2, h3, h4, h5, h6, h7, h8, h9⟩ := h
  have l0 : g < W.heap.size := Recs.lt_of_cell h0
  have l1 : g + 1 < W.heap.size := Recs.lt_of_cell h4
  exact ⟨(hb.cell (p := ⟨g, 0, none⟩) l0).trans h0, (hb.cell (p := ⟨g, 1, none⟩) l0).trans h1, (hb.cell (p := ⟨g, 2, none⟩) l0).trans h2, (hb.cell (p := ⟨g, 3, none⟩) l0).trans h3, (hb.cell (p := ⟨g + 1, 0, none⟩) l1).trans h4, (hb.cell (p := ⟨g + 1, 1, none⟩) l1).trans h5, (hb.cell (p := ⟨g + 1, 2, none⟩) l1).trans h6, Recs.is_below h7 hb, Recs.is_below h8 hb, h9.trans (hb.mono h9.size)⟩
theorem pat_first (w : World) (m u : ByteArray) (v1 : Value) (l1 : List Fld) (b1 : ByteArray) (st : Int) (v2 : Value) (l2 : List Fld) (b2 : ByteArray) (h1 : Flds.Is w v1 l1) (h2 : Flds.Is w v2 l2) :
    PAt w w.heap.size m u v1 l1 b1 st v2 l2 b2 ((w.alloc (.cells #[.string m, .string u, v1, .string b1] 32)).alloc (.cells #[.int .i64 st, v2, .string b2] 34)) := by
  have e0 : (w.alloc (.cells #[.string m, .string u, v1, .string b1] 32)).heap.size = w.heap.size + 1 := by rw [World.size_alloc]
  have hb : Below w.heap.size w ((w.alloc (.cells #[.string m, .string u, v1, .string b1] 32)).alloc (.cells #[.int .i64 st, v2, .string b2] 34)) := ((Below.refl _ w).alloc (Nat.le_refl _) _).alloc (by simp) _
  have x0 : ((w.alloc (.cells #[.string m, .string u, v1, .string b1] 32)).alloc (.cells #[.int .i64 st, v2, .string b2] 34)).heap[w.heap.size]? = some (.cells #[.string m, .string u, v1, .string b1] 32) := (heap_alloc_old _ _ (by omega)).trans (heap_alloc_new w _)
  have y0 : ((w.alloc (.cells #[.string m, .string u, v1, .string b1] 32)).alloc (.cells #[.int .i64 st, v2, .string b2] 34)).heap[w.heap.size + 1]? = some (.cells #[.int .i64 st, v2, .string b2] 34) := by
    have := heap_alloc_new (w.alloc (.cells #[.string m, .string u, v1, .string b1] 32)) (.cells #[.int .i64 st, v2, .string b2] 34)
    rw [e0] at this
    exact this
  exact ⟨Recs.box_cell x0 0, Recs.box_cell x0 1, Recs.box_cell x0 2, Recs.box_cell x0 3, Recs.box_cell y0 0, Recs.box_cell y0 1, Recs.box_cell y0 2, Recs.is_below h1 hb, Recs.is_below h2 hb, hb⟩
end Pol
end Go.Proofs.YtkogcbnbmdeolaaDoor
namespace Go.Proofs.YtkogcbnbmdeolaaDoor
open Go.RowKit
set_option linter.unusedVariables false
namespace Flds

theorem take_succ_same {α : Type} (a b : List α) (k : Nat) (ha : k < a.length) (hb : k < b.length) : a.take (k + 1) = b.take (k + 1) ↔ a.take k = b.take k ∧ a[k] = b[k] := by
  rw [List.take_succ_eq_append_getElem ha, List.take_succ_eq_append_getElem hb]
  constructor
  · intro h
    have h1 := List.append_inj h (by rw [List.length_take, List.length_take]; omega)
    exact ⟨h1.1, by simpa using h1.2⟩
  · rintro ⟨h1, h2⟩; rw [h1, h2]
theorem guard_run (op : BinOp) (a b : Operand) (xs ys : Array Value) (W : World) : (eqGuard op 40 a b (.agg xs) (.agg ys)).run Tryd.prog W = .ok () W := run_eqGuard_agg W op 40 a b xs ys (by kernel_rfl)
theorem eq_run (x y x' y' : ByteArray) (W : World) : (Op.equalIn 10000 40 (.agg #[.string x, .string y]) (.agg #[.string x', .string y'])).run Tryd.prog W = .ok (x.toList == x'.toList && y.toList == y'.toList) W := by
  have u9 := Tryd.underlying9
  have a9 := Tryd.isAgg9
  have z9 := Tryd.sizeOf9
  rw [show (10000 : Nat) = 9999 + 1 from rfl, run_equalIn_agg W 9999 40 _ _ (by kernel_rfl) (by kernel_rfl)]
  simp only [Program.fieldsOf, Tryd.underlying40]
  go_simp
  by_cases h1 : x.toList = x'.toList <;> by_cases h2 : y.toList = y'.toList <;> simp [h1, h2]
theorem neq_run (x y x' y' : ByteArray) (W : World) : (binOp .neq 40 (.agg #[.string x, .string y]) (.agg #[.string x', .string y'])).run Tryd.prog W = .ok (.bool (!decide (((x, y) : Fld) = (x', y')))) W := by
  have e : (x.toList == x'.toList && y.toList == y'.toList) = decide (((x, y) : Fld) = (x', y')) := by
    rw [Bool.eq_iff_iff, Bool.and_eq_true, beq_iff_eq, beq_iff_eq, decide_eq_true_iff, ByteArray.toList_eq, ByteArray.toList_eq, ByteArray.toList_eq, ByteArray.toList_eq, Prod.mk.injEq]
    exact ⟨fun h => ⟨ByteArray.ext (Array.toList_inj.1 h.1), ByteArray.ext (Array.toList_inj.1 h.2)⟩, fun h => ⟨by rw [h.1], by rw [h.2]⟩⟩
  rw [run_neq_struct, eq_run, e]; rfl
end Flds
end Go.Proofs.YtkogcbnbmdeolaaDoor
namespace Go.Proofs.YtkogcbnbmdeolaaDoor
open Go.RowKit
set_option linter.unusedVariables false
namespace Flds

set_option maxRecDepth 100000 in
set_option maxHeartbeats 1000000 in
theorem same_spec (va vb : Value) (la lb : List Fld) (w : World) (ha : Is w va la) (hb : Is w vb lb) (hla : la.length ≤ 1099511627776) : Calls Tryd.prog 70 #[va, vb] w fun e w' => e = .returned (.bool (decide (la = lb))) ∧ ∃ n, w' = w.drewN n := by
  obtain ⟨aa, ca, rfl, ha2⟩ := is_form ha
  obtain ⟨ab, cb, rfl, hb2⟩ := is_form hb
  have HA := Num.hide ha2
  have HB := Num.hide hb2
  clear ha hb ha2 hb2
  obtain ⟨r, hr⟩ : ∃ r, decide (la = lb) = r := ⟨_, rfl⟩
  rw [hr]
  have HR := Num.hide hr
  clear hr
  by_cases hl : la.length = lb.length
  · have hne : ((la.length : Int) != (lb.length : Int)) = false := by rw [hl]; simp
    have HL := Num.hide hl
    clear hl
    go_enter Tryd.func70, Tryd.ntmps70
    go_wp2
    clear hne
    go_loopw [5] (fun i wr => ∃ k n : Nat, k ≤ la.length ∧ i = .int .i64 (k : Int) ∧ Hid (wr = w.drewN n) ∧ Hid (la.take k = lb.take k)) (fun i _ => la.length - (intOf i).toNat)
    case atStart => exact ⟨0, 0, by omega, rfl, rfl, by simp [Hid]⟩
    case round =>
      obtain ⟨k, n, hk, rfl, HW, HT⟩ := hrel
      by_cases hlt : k < la.length
      · have hlt2 : k < lb.length := by have := HL.out; omega
        obtain ⟨ba, oa, rfl, hca, hma, hba, hcella⟩ := Num.unhide HA (by omega)
        obtain ⟨bb, ob, rfl, hcb, hmb, hbb, hcellb⟩ := Num.unhide HB (by omega)
        obtain ⟨ga1, ga2⟩ := hcella k hlt
        obtain ⟨gb1, gb2⟩ := hcellb k hlt2
        have c1 : wr.cell? ⟨ba, oa + k * 2, none⟩ = some (.string la[k].1) := by rw [HW.out]; exact ga1
        have c2 : wr.cell? ⟨ba, oa + k * 2 + 1, none⟩ = some (.string la[k].2) := by rw [HW.out]; exact ga2
        have c3 : wr.cell? ⟨bb, ob + k * 2, none⟩ = some (.string lb[k].1) := by rw [HW.out]; exact gb1
        have c4 : wr.cell? ⟨bb, ob + k * 2 + 1, none⟩ = some (.string lb[k].2) := by rw [HW.out]; exact gb2
        have HS := Num.hide (take_succ_same la lb k hlt hlt2)
        clear hcella hcellb ga1 ga2 gb1 gb2
        generalize la[k] = f at c1 c2 HS
        generalize lb[k] = g at c3 c4 HS
        obtain ⟨x, y⟩ := f
        obtain ⟨x', y'⟩ := g
        simp only at c1 c2 c3 c4
        have hg := fun op a b W => guard_run op a b #[.string x, .string y] #[.string x', .string y'] W
        have hq := fun W => neq_run x y x' y' W
        by_cases he : ((x, y) : Fld) = (x', y')
        · rw [decide_eq_true he] at hq
          have HT2 : Hid (la.take (k + 1) = lb.take (k + 1)) := HS.out.2 ⟨HT.out, he⟩
          clear he
          go_wp2
          go_quiet (fail)
          go_wp2
          go_roundw
          case rel => exact ⟨k + 1, n + nq, by omega, by go_num, by show _ = _; rw [HW.out, World.drewN_drewN], HT2⟩
          case measure => simp [intOf]; omega
        · rw [decide_eq_false he] at hq
          have hf : r = false := by
            rw [← HR.out]
            refine decide_eq_false (fun h => he ?_)
            exact (HS.out.1 (by rw [h])).2
          subst hf
          clear he
          go_wp2
          go_quiet (fail)
          go_wp2
          go_ret
          exact ⟨rfl, n + nq, by rw [HW.out, World.drewN_drewN]⟩
      · have ht : r = true := by
          rw [← HR.out]
          refine decide_eq_true ?_
          have h := HT.out
          rwa [List.take_of_length_le (by omega), List.take_of_length_le (by have := HL.out; omega)] at h
        subst ht
        go_wp2
        go_ret
        exact ⟨rfl, n, HW.out⟩
  · have hne : ((la.length : Int) != (lb.length : Int)) = true := by rw [bne_iff_ne]; omega
    have hf : r = false := by rw [← HR.out]; exact decide_eq_false (fun h => hl (by rw [h]))
    subst hf
    go_enter Tryd.func70, Tryd.ntmps70
    go_wp2
    go_ret
    exact ⟨rfl, 0, rfl⟩
theorem same_spec_b (va vb : Value) (la lb : List Fld) (w : World) (ha : Is w va la) (hb : Is w vb lb) (hla : la.length ≤ 1099511627776) : Calls Tryd.prog 70 #[va, vb] w fun e w' => e = .returned (.bool (decide (la = lb))) ∧ Below w.heap.size w w' :=
  (same_spec va vb la lb w ha hb hla).mono fun e w' ⟨h1, n, h2⟩ => ⟨h1, by subst h2; exact Recs.below_drewN (Below.refl _ _) n⟩
end Flds
end Go.Proofs.YtkogcbnbmdeolaaDoor
