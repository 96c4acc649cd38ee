/-
  FldNew: newField of the program: a field of two texts, in memory of its own.
  FldDropImpl: FieldDrop of the program: those of another name, in a row of the call's own; what was there stays.
  FldSameNum: Two fields compared, whole.
-/
import Derived.Test.YtmiahdiadlnijaaDoorPan
import Derived.Test.YtmiahdiadlnijaaDoorPac
import Derived.Test.YtmiahdiadlnijaaDoorPad
import Derived.Test.YtmiahdiadlnijaaDoorRegLaw
import Derived.Test.YtmiahdiadlnijaaDoorFlds
import Derived.Deep.QuietTactic
import Derived.BigQuiet
import Derived.Laws.StructEq
namespace Go.Proofs.YtmiahdiadlnijaaDoor
open Go.RowKit
set_option linter.unusedVariables false
namespace Flds

set_option maxRecDepth 100000 in
set_option maxHeartbeats 1000000 in
theorem new_any (x y : ByteArray) (w : World) (hx : x.size ≤ 281474976710656) (hy : y.size ≤ 281474976710656) :
    Calls Tryd.prog 63 #[.string x, .string y] w fun e w' => e = .returned (.agg #[.string x, .string y]) ∧ Below w.heap.size w w' := by
  have c0 : (w.alloc (.cells #[.string ⟨#[]⟩, .string ⟨#[]⟩] 60)).heap[w.heap.size]? = some (.cells #[.string ⟨#[]⟩, .string ⟨#[]⟩] 60) := heap_alloc_new w _
  have HC := Num.hide c0
  have HB0 := Num.hide ((Below.refl w.heap.size w).alloc (Nat.le_refl _) (.cells #[.string ⟨#[]⟩, .string ⟨#[]⟩] 60))
  have hz0 : w.heap.size + 1 = (w.alloc (.cells #[.string ⟨#[]⟩, .string ⟨#[]⟩] 60)).heap.size := by simp
  clear c0
  go_enter Tryd.func63, Tryd.ntmps63
  go_wp2_with fail
  refine (Shelf.clone x _ hx).mono ?_
  rintro e w1 ⟨rfl, hb1⟩
  go_wp2_with fail
  refine (Shelf.clone y _ hy).mono ?_
  rintro e w2 ⟨rfl, hb2⟩
  obtain ⟨k0, k1, f0, f1⟩ := two_cells (show w2.heap[w.heap.size]? = _ from by rw [hb2.block _ (by have := hb1.size; omega), hb1.block _ (by omega)]; exact HC.out)
  have HB := Num.hide (HB0.out.trans (((hb1.mono (by omega : w.heap.size ≤ _)).trans (hb2.mono (by have := hb1.size; omega)))))
  clear hb1 hb2 HB0 HC hz0
  have r0 := Num.hide (box_first (x := x) (y := y) k0)
  have r1 := Num.hide (box_second (x := x) (y := y) k1)
  have HB1 := Num.hide ((HB.out.setCell (p := ⟨w.heap.size, 0, none⟩) (Nat.le_refl _) (.string x)).setCell (p := ⟨w.heap.size, 1, none⟩) (Nat.le_refl _) (.string y))
  go_wp2
  generalize ((w2.setCell ⟨w.heap.size, 0, none⟩ (.string x)).setCell ⟨w.heap.size, 1, none⟩ (.string y)) = w3 at r0 r1 HB1 ⊢
  have r0 := r0.out
  have r1 := r1.out
  exact bodyPost_ret (v := .agg #[.string x, .string y]) (by simp [results, Tryd.results63, go_sem, r0, r1]) rfl ⟨rfl, HB1.out⟩
end Flds
end Go.Proofs.YtmiahdiadlnijaaDoor
namespace Go.Proofs.YtmiahdiadlnijaaDoor
open Go.RowKit
set_option linter.unusedVariables false
namespace Flds

/-- what holds while the choice is made -/
def DropAt (w : World) (x y name : ByteArray) (nb : Nat) (W : World) : Prop := W.cell? ⟨w.heap.size, 0, none⟩ = some (.string x) ∧ W.cell? ⟨w.heap.size, 1, none⟩ = some (.string y) ∧ W.cell? ⟨nb, 0, none⟩ = some (.string name) ∧ Below w.heap.size w W ∧ nb < w.heap.size
def dropW (w : World) (x y : ByteArray) : World := ((w.alloc (.cells #[.string x, .string y] 60)).alloc (.cells #[.string ⟨#[]⟩, .string ⟨#[]⟩] 60)).drew
theorem dropAt0 (w : World) (x y name : ByteArray) (nb : Nat) (hn : w.cell? ⟨nb, 0, none⟩ = some (.string name)) : DropAt w x y name nb (dropW w x y) := by
  have hlt := Recs.lt_of_cell hn
  have hb : Below w.heap.size w (dropW w x y) := (((Below.refl _ _).alloc (Nat.le_refl _) _).alloc (by simp) _).drew
  refine ⟨?_, ?_, by rw [hb.cell (p := ⟨nb, 0, none⟩) hlt]; exact hn, hb, hlt⟩
  · show ((w.alloc _).alloc _).cell? _ = _
    rw [World.cell?_alloc_lt _ _ _ (by simp)]; simp
  · show ((w.alloc _).alloc _).cell? _ = _
    rw [World.cell?_alloc_lt _ _ _ (by simp)]; simp
theorem dropAt_below {w : World} {x y name : ByteArray} {nb : Nat} {W W' : World} (h : DropAt w x y name nb W) (hb : Below W.heap.size W W') : DropAt w x y name nb W' :=
  ⟨by rw [hb.cell (p := ⟨w.heap.size, 0, none⟩) (Recs.lt_of_cell h.1)]; exact h.1, by rw [hb.cell (p := ⟨w.heap.size, 1, none⟩) (Recs.lt_of_cell h.2.1)]; exact h.2.1, by rw [hb.cell (p := ⟨nb, 0, none⟩) (Recs.lt_of_cell h.2.2.1)]; exact h.2.2.1, h.2.2.2.1.trans (hb.mono h.2.2.2.1.size), h.2.2.2.2⟩
theorem dropAt_set {w : World} {x y name : ByteArray} {nb : Nat} {W : World} {x' y' : Value} (h : DropAt w x y name nb W) : DropAt w x y name nb ((W.setCell ⟨w.heap.size + 1, 0, none⟩ x').setCell ⟨w.heap.size + 1, 1, none⟩ y') := by
  have hb : Below (w.heap.size + 1) W ((W.setCell ⟨w.heap.size + 1, 0, none⟩ x').setCell ⟨w.heap.size + 1, 1, none⟩ y') := ((Below.refl _ _).setCell (p := ⟨w.heap.size + 1, 0, none⟩) (Nat.le_refl _) _).setCell (p := ⟨w.heap.size + 1, 1, none⟩) (Nat.le_refl _) _
  have hlt := h.2.2.2.2
  exact ⟨by rw [hb.cell (p := ⟨w.heap.size, 0, none⟩) (by show w.heap.size < _; omega)]; exact h.1, by rw [hb.cell (p := ⟨w.heap.size, 1, none⟩) (by show w.heap.size < _; omega)]; exact h.2.1, by rw [hb.cell (p := ⟨nb, 0, none⟩) (by show nb < _; omega)]; exact h.2.2.1, h.2.2.2.1.trans (hb.mono (by omega)), hlt⟩
theorem dropRes (w : World) (x y : ByteArray) : (dropW w x y).heap[w.heap.size + 1]? = some (.cells #[.string ⟨#[]⟩, .string ⟨#[]⟩] 60 (0, 0)) := by
  have := heap_alloc_new (w.alloc (.cells #[.string x, .string y] 60)) (.cells #[.string ⟨#[]⟩, .string ⟨#[]⟩] 60)
  show ((w.alloc _).alloc _).heap[w.heap.size + 1]? = _
  rw [← this, show (w.alloc (.cells #[.string x, .string y] 60)).heap.size = w.heap.size + 1 by simp]
set_option maxRecDepth 100000 in
set_option maxHeartbeats 4000000 in
theorem dropF_any (x y name : ByteArray) (nb : Nat) (w : World) (hn : w.cell? ⟨nb, 0, none⟩ = some (.string name)) (hx : x.size ≤ 281474976710656) (hy : y.size ≤ 281474976710656) :
    Calls Tryd.prog 72 #[.agg #[.string x, .string y], .pointer (some ⟨nb, 0, none⟩)] w fun e w' => e = .returned (.tuple #[.agg #[.string x, .string y], .bool (!decide (x = name))]) ∧ Below w.heap.size w w' := by
  have HN := Num.hide (fun W => new_any x y W hx hy)
  have HD0 := Num.hide (dropAt0 w x y name nb hn)
  have HR := Num.hide (dropRes w x y)
  have hne : (x.toList != name.toList) = !decide (x = name) := by
    by_cases h : x = name
    · subst h; simp
    · rw [bne, ne_text h, decide_eq_false h]
  generalize (!decide (x = name)) = r at hne ⊢
  clear hn
  go_enter Tryd.func72, Tryd.ntmps72
  go_wp2
  have hz : w.heap.size + 2 = (dropW w x y).heap.size := by simp [dropW]
  refine wp_region_held_drew (S := DropAt w x y name nb) (by kernel_rfl) HD0.out (fun hHeld => ?_)
  refine Reg.take (i := 0) (d := 5) (v := ?_) rfl rfl (by kernel_rfl) (by kernel_rfl) (by kernel_rfl) (fun _ _ _ h => h) (by rfl) ?_ hHeld ?_
  rotate_left
  · rintro W ⟨h1, h2, h3, h4⟩
    first | (go_simp; done) | (go_simp; with_reducible rfl)
  simp only [Act.put, List.setIfInBounds_toArray, List.set_cons_zero, List.set_cons_succ]
  refine Reg.take (i := 1) (d := 6) (v := ?_) rfl rfl (by kernel_rfl) (by kernel_rfl) (by kernel_rfl) (fun _ _ _ h => h) (by rfl) ?_ hHeld ?_
  rotate_left
  · rintro W ⟨h1, h2, h3, h4⟩
    first | (go_simp; done) | (go_simp; with_reducible rfl)
  simp only [Act.put, List.setIfInBounds_toArray, List.set_cons_zero, List.set_cons_succ]
  refine Reg.take (i := 2) (d := 7) (v := ?_) rfl rfl (by kernel_rfl) (by kernel_rfl) (by kernel_rfl) (fun _ _ _ h => h) (by rfl) ?_ hHeld ?_
  rotate_left
  · rintro W ⟨h1, h2, h3, h4⟩
    first | (go_simp; done) | (go_simp; with_reducible rfl)
  simp only [Act.put, List.setIfInBounds_toArray, List.set_cons_zero, List.set_cons_succ]
  refine Reg.take (i := 3) (d := 8) (v := ?_) rfl rfl (by kernel_rfl) (by kernel_rfl) (by kernel_rfl) (fun _ _ _ h => h) (by rfl) ?_ hHeld ?_
  rotate_left
  · rintro W ⟨h1, h2, h3, h4⟩
    first | (go_simp; done) | (go_simp; with_reducible rfl)
  simp only [Act.put, List.setIfInBounds_toArray, List.set_cons_zero, List.set_cons_succ]
  refine Reg.take (i := 5) (d := 10) (v := ?_) rfl rfl (by kernel_rfl) (by kernel_rfl) (by kernel_rfl) (fun _ _ _ h => h) (by rfl) ?_ hHeld ?_
  rotate_left
  · rintro W ⟨h1, h2, h3, h4⟩
    first | (go_simp; done) | (go_simp; with_reducible rfl)
  simp only [Act.put, List.setIfInBounds_toArray, List.set_cons_zero, List.set_cons_succ]
  refine Reg.take (i := 6) (d := 11) (v := ?_) rfl rfl (by kernel_rfl) (by kernel_rfl) (by kernel_rfl) (fun _ _ _ h => h) (by rfl) ?_ hHeld ?_
  rotate_left
  · rintro W ⟨h1, h2, h3, h4⟩
    first | (go_simp; done) | (go_simp; with_reducible rfl)
  simp only [Act.put, List.setIfInBounds_toArray, List.set_cons_zero, List.set_cons_succ]
  refine Reg.take (i := 7) (d := 12) (v := ?_) rfl rfl (by kernel_rfl) (by kernel_rfl) (by kernel_rfl) (fun _ _ _ h => h) (by rfl) ?_ hHeld ?_
  rotate_left
  · rintro W ⟨h1, h2, h3, h4⟩
    first | (go_simp; done) | (go_simp; with_reducible rfl)
  simp only [Act.put, List.setIfInBounds_toArray, List.set_cons_zero, List.set_cons_succ]
  refine Reg.take (i := 8) (d := 13) (v := ?_) rfl rfl (by kernel_rfl) (by kernel_rfl) (by kernel_rfl) (fun _ _ _ h => h) (by rfl) ?_ hHeld ?_
  rotate_left
  · rintro W ⟨h1, h2, h3, h4⟩
    first | (go_simp; done) | (go_simp; with_reducible rfl)
  simp only [Act.put, List.setIfInBounds_toArray, List.set_cons_zero, List.set_cons_succ]
  refine Reg.call (i := 4) rfl (by kernel_rfl) (by rfl) (fun K hK => ?_)
  go_wp2_with (first | (go_at_call 63; refine (Num.unhide HN _).mono ?_; rintro e w3 ⟨rfl, hb3⟩))
  refine hK.out _ _ (dropAt_below hHeld hb3) (fun hHeld2 => ?_)
  obtain ⟨k0, k1, f0, f1⟩ := two_cells (show w3.heap[w.heap.size + 1]? = _ from by rw [hb3.block _ (by change w.heap.size + 1 < (dropW w x y).heap.size; omega)]; exact HR.out)
  clear hK K hb3 HR hHeld
  replace hHeld := hHeld2
  clear hHeld2
  have r0 := Num.hide (box_first (x := x) (y := y) k0)
  have r1 := Num.hide (box_second (x := x) (y := y) k1)
  have HS := Num.hide (dropAt_set (x' := .string x) (y' := .string y) hHeld)
  refine Reg.call (i := 9) rfl (by kernel_rfl) (by rfl) (fun K hK => ?_)
  go_wp2
  refine hK.out _ _ HS.out (fun hHeld2 => ?_)
  clear hK K hHeld
  replace hHeld := hHeld2
  clear hHeld2 k0 k1 f0 f1
  generalize ((w3.setCell ⟨w.heap.size + 1, 0, none⟩ (.string x)).setCell ⟨w.heap.size + 1, 1, none⟩ (.string y)) = w4 at r0 r1 HS hHeld ⊢
  refine Reg.take (i := 10) (d := 4) (v := ?_) rfl rfl (by kernel_rfl) (by kernel_rfl) (by kernel_rfl) (fun _ _ _ h => h) (by rfl) ?_ hHeld ?_
  rotate_left
  · rintro W ⟨h1, h2, h3, h4⟩
    first | (go_simp; done) | (go_simp; with_reducible rfl)
  simp only [Act.put, List.setIfInBounds_toArray, List.set_cons_zero, List.set_cons_succ]
  refine wpAnyH_done (by kernel_rfl) ?_ _
  have r0 := r0.out
  have r1 := r1.out
  go_wp2
  exact bodyPost_ret (v := .tuple #[.agg #[.string x, .string y], .bool r]) (by simp [results, Tryd.results72, go_sem, r0, r1, show (x.toList == name.toList) = !r by rw [← hne, bne, Bool.not_not]]) rfl ⟨rfl, HS.out.2.2.2.1⟩
theorem drop_take_b (l : List Fld) (name : ByteArray) (k : Nat) (h : k < l.length) : drop (l.take (k + 1)) name = drop (l.take k) name ++ (if (!decide (l[k].1 = name)) = true then [l[k]] else []) := by
  rw [drop_take l name k h]
  by_cases e : l[k].1 = name
  · rw [if_pos e, if_neg (by simp [e])]
  · rw [if_neg e, if_pos (by simp [e])]
theorem drop_choice (w0 w : World) (l : List Fld) (name : ByteArray) (nb : Nat) (hb : Below w0.heap.size w0 w) (hz : ∀ f ∈ l, f.1.size ≤ 281474976710656 ∧ f.2.size ≤ 281474976710656) :
    Choice 72 #[.pointer (some ⟨nb, 0, none⟩)] w0.heap.size w.heap.size w0 l (fun k => drop (l.take k) name) (fun _ W => W.cell? ⟨nb, 0, none⟩ = some (.string name)) := by
  intro k hk W hB hn hQ
  have hzk := hz l[k] (List.getElem_mem hk)
  refine (dropF_any l[k].1 l[k].2 name nb W hQ hzk.1 hzk.2).mono ?_
  rintro e W' ⟨rfl, hb2⟩
  exact ⟨l[k], _, rfl, drop_take_b l name k hk, (hb2.cell (p := ⟨nb, 0, none⟩) (Recs.lt_of_cell hQ)).trans hQ, Far.of_below hb2 hB.size⟩
theorem sizes_of {l : List Fld} (h : bulk l ≤ 1099511627776) : ∀ f ∈ l, f.1.size ≤ 281474976710656 ∧ f.2.size ≤ 281474976710656 := by
  intro f hf
  obtain ⟨i, hi, rfl⟩ := List.getElem_of_mem hf
  have h1 := bulk_take l i hi
  have h2 := bulk_le l (i + 1)
  unfold bulk at h
  omega
set_option maxRecDepth 100000 in
set_option maxHeartbeats 1000000 in
theorem drop_impl (v : Value) (l : List Fld) (name : ByteArray) (w : World) (h : Is w v l) (hl : bulk l ≤ 1073741824) :
    Calls Tryd.prog 59 #[v, .string name] w fun e w' => ∃ v', e = .returned v' ∧ Own w.heap.size w' v' (drop l name) ∧ Below w.heap.size w w' := by
  have hlen : l.length ≤ 1073741824 := by unfold bulk at hl; omega
  have hb := (Below.refl w.heap.size w).alloc (Nat.le_refl _) (.cells #[.string name] 9)
  have HC := Num.hide (chosen_any 72 #[.pointer (some ⟨w.heap.size, 0, none⟩)] w.heap.size w (w.alloc (.cells #[.string name] 9)) v l (fun k => drop (l.take k) name) (fun _ W => W.cell? ⟨w.heap.size, 0, none⟩ = some (.string name)) h rfl hb (by simp) rfl
    (fun k hk => by have := drop_length (l.take k) name; rw [List.length_take] at this; omega) hlen (by simp)
    (fun k W W' hQ hb2 => (hb2.cell (p := ⟨w.heap.size, 0, none⟩) (by simp)).trans hQ) (drop_choice w _ l name w.heap.size hb (sizes_of (by omega))) (enters_of Tryd.func72 (by kernel_rfl) rfl))
  simp only [List.take_length] at HC
  clear h hb
  go_enter Tryd.func59, Tryd.ntmps59
  go_wp2_with fail
  refine HC.out.mono ?_
  rintro e w1 ⟨v', rfl, ho, hb1, _⟩
  have HO := Num.hide (Recs.own_mono ho (by simp : w.heap.size ≤ _))
  have HB := Num.hide hb1
  clear ho hb1
  go_wp2
  go_ret
  exact ⟨_, rfl, HO.out, HB.out⟩
end Flds
end Go.Proofs.YtmiahdiadlnijaaDoor
namespace Go.Proofs.YtmiahdiadlnijaaDoor
open Go.RowKit
set_option linter.unusedVariables false
namespace Flds

theorem take_succ_same {α : Type} (a b : List α) (k : Nat) (ha : k < a.length) (hb : k < b.length) : a.take (k + 1) = b.take (k + 1) ↔ a.take k = b.take k ∧ a[k] = b[k] := by
  rw [List.take_succ_eq_append_getElem ha, List.take_succ_eq_append_getElem hb]
  constructor
  · intro h
    have h1 := List.append_inj h (by rw [List.length_take, List.length_take]; omega)
    exact ⟨h1.1, by simpa using h1.2⟩
  · rintro ⟨h1, h2⟩; rw [h1, h2]
theorem guard_run (op : BinOp) (a b : Operand) (xs ys : Array Value) (W : World) : (eqGuard op 60 a b (.agg xs) (.agg ys)).run Tryd.prog W = .ok () W := run_eqGuard_agg W op 60 a b xs ys (by kernel_rfl)
theorem eq_run (x y x' y' : ByteArray) (W : World) : (Op.equalIn 10000 60 (.agg #[.string x, .string y]) (.agg #[.string x', .string y'])).run Tryd.prog W = .ok (x.toList == x'.toList && y.toList == y'.toList) W := by
  have u9 := Tryd.underlying9
  have a9 := Tryd.isAgg9
  have z9 := Tryd.sizeOf9
  rw [show (10000 : Nat) = 9999 + 1 from rfl, run_equalIn_agg W 9999 60 _ _ (by kernel_rfl) (by kernel_rfl)]
  simp only [Program.fieldsOf, Tryd.underlying60]
  go_simp
  by_cases h1 : x.toList = x'.toList <;> by_cases h2 : y.toList = y'.toList <;> simp [h1, h2]
theorem neq_run (x y x' y' : ByteArray) (W : World) : (binOp .neq 60 (.agg #[.string x, .string y]) (.agg #[.string x', .string y'])).run Tryd.prog W = .ok (.bool (!decide (((x, y) : Fld) = (x', y')))) W := by
  have e : (x.toList == x'.toList && y.toList == y'.toList) = decide (((x, y) : Fld) = (x', y')) := by
    rw [Bool.eq_iff_iff, Bool.and_eq_true, beq_iff_eq, beq_iff_eq, decide_eq_true_iff, ByteArray.toList_eq, ByteArray.toList_eq, ByteArray.toList_eq, ByteArray.toList_eq, Prod.mk.injEq]
    exact ⟨fun h => ⟨ByteArray.ext (Array.toList_inj.1 h.1), ByteArray.ext (Array.toList_inj.1 h.2)⟩, fun h => ⟨by rw [h.1], by rw [h.2]⟩⟩
  rw [run_neq_struct, eq_run, e]; rfl
end Flds
end Go.Proofs.YtmiahdiadlnijaaDoor
