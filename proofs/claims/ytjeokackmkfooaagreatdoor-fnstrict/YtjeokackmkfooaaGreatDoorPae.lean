/-
  FldLineNum: Lines of a text, and the fields of lines: plain facts (where Cut finds a line's end, a colon; reading by lines is reading field by field).
  FldShowNum: The text of fields, plain.
  FldPut: A field put behind a list of fields in a row of the call's own.
  FldSets: What it is to drop a name of a list of fields, and to set one.
  FldBack: Plain facts on fields: what is set is there once, what is dropped is not, the rest stays; what is shown is read again.
-/
import Derived.Test.YtjeokackmkfooaaGreatDoorPad
import Derived.Test.YtjeokackmkfooaaGreatDoorFldsOkSpec
import Derived.Test.YtjeokackmkfooaaGreatDoorFldOwn
import Derived.Test.YtjeokackmkfooaaGreatDoorPaa
namespace Go.Proofs.YtjeokackmkfooaaGreatDoor
open Go.RowKit
set_option linter.unusedVariables false
namespace Flds

/-- the lines from 'a' on up to an empty one, at most n with it, and the place behind it -/
def linesGo (s : ByteArray) : Nat → Nat → Option (List ByteArray × Nat)
  | 0, _ => none
  | n + 1, a =>
    match Line.eol s a with
    | none => none
    | some i => if i = a then some ([], i + 2) else (linesGo s n (i + 2)).map fun p => (s.extract a i :: p.1, p.2)
def lines (s : ByteArray) : Option (List ByteArray × Nat) := linesGo s 13 0
structure LnAt (s : ByteArray) (a : Nat) (L : List ByteArray) : Prop where
  le : a ≤ s.size
  len : L.length ≤ 13
  small : ∀ t ∈ L, t.size ≤ s.size
  same : lines s = (linesGo s (13 - L.length) a).map fun p => (L ++ p.1, p.2)
theorem ln_start (s : ByteArray) : LnAt s 0 [] where
  le := Nat.zero_le _
  len := Nat.zero_le _
  small := fun t h => by cases h
  same := by
    show linesGo s 13 0 = (linesGo s 13 0).map fun p => ([] ++ p.1, p.2)
    cases linesGo s 13 0 <;> rfl
section
variable {s : ByteArray} {a : Nat} {L : List ByteArray}
theorem ln_full (h : LnAt s a L) (hl : ¬ L.length ≤ 12) : lines s = none := by
  rw [h.same, show 13 - L.length = 0 by omega]; rfl
theorem ln_step (hl : L.length ≤ 12) : ∃ n, 13 - L.length = n + 1 := ⟨12 - L.length, by omega⟩
theorem ln_none (h : LnAt s a L) (hl : L.length ≤ 12) (he : Line.eol s a = none) : lines s = none := by
  obtain ⟨n, hn⟩ := ln_step hl
  rw [h.same, hn, linesGo, he]; rfl
theorem ln_done (h : LnAt s a L) (hl : L.length ≤ 12) (he : Line.eol s a = some a) : lines s = some (L, a + 2) := by
  obtain ⟨n, hn⟩ := ln_step hl
  rw [h.same, hn, linesGo, he]; simp
theorem ln_more (h : LnAt s a L) (hl : L.length ≤ 12) {i : Nat} (he : Line.eol s a = some i) (hi : i ≠ a) : LnAt s (i + 2) (L ++ [s.extract a i]) where
  le := by have := Line.eol_in he; omega
  len := by rw [List.length_append]; simp; omega
  small := by
    intro t ht
    rcases List.mem_append.1 ht with h1 | h1
    · exact h.small t h1
    · obtain rfl := List.mem_singleton.1 h1
      rw [ByteArray.size_extract]; omega
  same := by
    obtain ⟨n, hn⟩ := ln_step hl
    rw [h.same, hn, linesGo, he]
    simp only
    rw [if_neg hi, List.length_append, List.length_singleton, show 13 - (L.length + 1) = n by omega]
    cases linesGo s n (i + 2) <;> simp
end
/-- what is told of the lines -/
def lnL (s : ByteArray) : List ByteArray := match lines s with | some (l, _) => l | none => []
def lnN (s : ByteArray) : Int := match lines s with | some (_, n) => (n : Int) | none => 0
def lnB (s : ByteArray) : Bool := (lines s).isSome
theorem ln_told_none {s : ByteArray} (h : lines s = none) : lnL s = [] ∧ lnN s = 0 ∧ lnB s = false := by unfold lnL lnN lnB; rw [h]; exact ⟨rfl, rfl, rfl⟩
theorem ln_told_some {s : ByteArray} {l : List ByteArray} {n : Nat} (h : lines s = some (l, n)) : lnL s = l ∧ lnN s = (n : Int) ∧ lnB s = true := by unfold lnL lnN lnB; rw [h]; exact ⟨rfl, rfl, rfl⟩
theorem linesGo_len (s : ByteArray) : ∀ (n a : Nat) (p : List ByteArray × Nat), linesGo s n a = some p → p.1.length < n ∧ ∀ t ∈ p.1, t.size ≤ s.size := by
  intro n
  induction n with
  | zero => intro a p h; cases h
  | succ n ih =>
    intro a p h
    rw [linesGo] at h
    cases he : Line.eol s a with
    | none => rw [he] at h; cases h
    | some i =>
      rw [he] at h
      simp only at h
      by_cases hi : i = a
      · rw [if_pos hi] at h; cases h; exact ⟨Nat.zero_lt_succ _, fun t ht => by cases ht⟩
      · rw [if_neg hi] at h
        obtain ⟨q, hq, rfl⟩ := Option.map_eq_some_iff.1 h
        obtain ⟨h1, h2⟩ := ih _ _ hq
        refine ⟨by simp; omega, fun t ht => ?_⟩
        rcases List.mem_cons.1 ht with rfl | h3
        · rw [ByteArray.size_extract]; omega
        · exact h2 t h3
/-- the field of a line -/
def fieldAt (t : ByteArray) : Option Fld := (Line.colon t).map (fieldOf t)
def good (t : ByteArray) : Bool := match fieldAt t with | some f => okF f | none => false
theorem read_lines (s : ByteArray) : ∀ (n a : Nat) (l : List Fld), readGo s n a l = (linesGo s n a).bind fun p => if p.1.all good = true then some (l ++ p.1.filterMap fieldAt, p.2) else none := by
  intro n
  induction n with
  | zero => intro a l; rfl
  | succ n ih =>
    intro a l
    rw [readGo, linesGo]
    cases he : Line.eol s a with
    | none => rfl
    | some i =>
      simp only
      by_cases hi : i = a
      · rw [if_pos hi, if_pos hi]; simp
      · rw [if_neg hi, if_neg hi]
        cases hc : Line.colon (s.extract a i) with
        | none =>
          have hg : good (s.extract a i) = false := by unfold good fieldAt; rw [hc]; rfl
          cases linesGo s n (i + 2) with
          | none => rfl
          | some p => simp [hg]
        | some k =>
          simp only
          have hf : fieldAt (s.extract a i) = some (fieldOf (s.extract a i) k) := by unfold fieldAt; rw [hc]; rfl
          have hg : good (s.extract a i) = okF (fieldOf (s.extract a i) k) := by unfold good; rw [hf]
          cases hok : okF (fieldOf (s.extract a i) k) with
          | false =>
            rw [if_neg (by simp)]
            cases linesGo s n (i + 2) with
            | none => rfl
            | some p => simp [hg, hok]
          | true =>
            rw [if_pos rfl, ih]
            cases linesGo s n (i + 2) with
            | none => rfl
            | some p => simp [hg, hok, hf]
theorem read_of_lines (s : ByteArray) : read s = (lines s).bind fun p => if p.1.all good = true then some (p.1.filterMap fieldAt, p.2) else none := by
  unfold read lines
  rw [read_lines]
  simp
theorem flt_len (L : List ByteArray) : (L.filterMap fieldAt).length ≤ L.length := List.length_filterMap_le _ _
/-- where a line has no field, or one is not right, nothing is read -/
theorem good_short (L : List ByteArray) (h : (L.filterMap fieldAt).length < L.length) : L.all good = false := by
  rw [Bool.eq_false_iff]
  intro ha
  rw [List.all_eq_true] at ha
  have : ∀ (M : List ByteArray), (∀ t ∈ M, good t = true) → (M.filterMap fieldAt).length = M.length := by
    intro M
    induction M with
    | nil => intro _; rfl
    | cons t M ih =>
      intro hM
      have h1 := hM t (List.mem_cons_self ..)
      have h2 := ih (fun u hu => hM u (List.mem_cons_of_mem _ hu))
      unfold good at h1
      cases hf : fieldAt t with
      | none => rw [hf] at h1; cases h1
      | some f => rw [List.filterMap_cons_some hf, List.length_cons, List.length_cons, h2]
  have := this L ha
  omega
theorem good_full (L : List ByteArray) (h : ¬ (L.filterMap fieldAt).length < L.length) : L.all good = (L.filterMap fieldAt).all okF := by
  induction L with
  | nil => rfl
  | cons t M ih =>
    cases hf : fieldAt t with
    | none =>
      rw [List.filterMap_cons_none hf, List.length_cons] at h
      have := flt_len M
      omega
    | some f =>
      rw [List.filterMap_cons_some hf, List.length_cons, List.length_cons] at h
      have hg : good t = okF f := by unfold good; rw [hf]
      rw [List.filterMap_cons_some hf, List.all_cons, List.all_cons, hg, ih (by omega)]
theorem flt_take (L : List ByteArray) (k : Nat) (h : k < L.length) : (L.take (k + 1)).filterMap fieldAt = (L.take k).filterMap fieldAt ++ (match fieldAt L[k] with | some f => [f] | none => []) := by
  rw [List.take_succ_eq_append_getElem h, List.filterMap_append]
  cases hf : fieldAt L[k] with
  | none => rw [List.filterMap_cons_none hf]; rfl
  | some f => rw [List.filterMap_cons_some hf]; rfl
end Flds
end Go.Proofs.YtjeokackmkfooaaGreatDoor
namespace Go.Proofs.YtjeokackmkfooaaGreatDoor
open Go.RowKit
set_option linter.unusedVariables false
namespace Flds

/-- one field more behind a text -/
def showStep (s : ByteArray) (f : Fld) : ByteArray := s ++ f.1 ++ ⟨#[58, 32]⟩ ++ f.2 ++ ⟨#[13, 10]⟩
def showGo (l : List Fld) : ByteArray := l.foldl showStep ⟨#[]⟩
/-- the text of fields; empty where they are not right -/
def shown (l : List Fld) : ByteArray := if ok l = true then showGo l ++ ⟨#[13, 10]⟩ else ⟨#[]⟩
theorem showGo_take (l : List Fld) (k : Nat) (h : k < l.length) : showGo (l.take (k + 1)) = showStep (showGo (l.take k)) l[k] := by
  unfold showGo
  rw [List.take_succ_eq_append_getElem h, List.foldl_append]; rfl
theorem showGo_size (l : List Fld) : (showGo l).size = 4 * l.length + (l.map fun f => f.1.size + f.2.size).sum := by
  refine Num.snoc_ind (P := fun l => (showGo l).size = 4 * l.length + (l.map fun f => f.1.size + f.2.size).sum) rfl ?_ l
  intro l f ih
  have e : showGo (l ++ [f]) = showStep (showGo l) f := by unfold showGo; rw [List.foldl_append]; rfl
  have hz1 : (⟨#[58, 32]⟩ : ByteArray).size = 2 := rfl
  have hz2 : (⟨#[13, 10]⟩ : ByteArray).size = 2 := rfl
  rw [e, List.length_append, List.map_append, List.sum_append]
  unfold showStep
  simp only [ByteArray.size_append, List.length_singleton, List.map_cons, List.map_nil, List.sum_cons, List.sum_nil, hz1, hz2]
  omega

end Flds
end Go.Proofs.YtjeokackmkfooaaGreatDoor
namespace Go.Proofs.YtjeokackmkfooaaGreatDoor
open Go.RowKit
set_option linter.unusedVariables false
namespace Flds

theorem ne_text {x y : ByteArray} (h : ¬ x = y) : (x.toList == y.toList) = false := by
  rw [beq_eq_false_iff_ne, ByteArray.toList_eq, ByteArray.toList_eq]
  intro e; exact h (ByteArray.ext (Array.toList_inj.1 e))
theorem cells_two (w : World) (x y : ByteArray) : ∀ j u, [Value.string x, Value.string y][j]? = some u → (w.alloc (.cells #[.string x, .string y] 32)).cell? ((⟨w.heap.size, 0, none⟩ : Addr).add j) = some u := by
  intro j u hj
  match j, hj with
  | 0, hj => simp at hj; subst hj; simp [Addr.add]
  | 1, hj => simp at hj; subst hj; simp [Addr.add]
theorem two_ok (x y : ByteArray) : ∀ u ∈ [Value.string x, Value.string y], u.oneCell' = true := by
  intro u hu; simp at hu; rcases hu with rfl | rfl <;> rfl
theorem put_more {w wr w2 : World} {B : Nat} {v v' : Value} {l : List Fld} {x y : ByteArray} (hB : B ≤ wr.heap.size) (ho : Own B wr v l) (hb : Below B w wr)
    (ho2 : w2.ownsRow B 32 2 v' (l.length + 1) (l.flatMap cells ++ [.string x, .string y])) (hg : (wr.alloc (.cells #[.string x, .string y] 32)).grownBy w2 v.ownBlock) : Own B w2 v' (l ++ [(x, y)]) ∧ Below B w w2 :=
  ⟨Recs.own_snoc ho2, (hb.alloc hB _).grown hg (by simp; omega) (fun j hj => (Recs.own_lt ho j hj).1)⟩
theorem made_nil (w : World) : Own w.heap.size (w.alloc (.cells #[] 32)) (.slice (some ⟨w.heap.size, 0, none⟩) 0 0) [] := World.ownsRow_made w #[] 0 (Nat.le_refl _) (Nat.zero_le _) rfl
theorem two_cells {w : World} {g : Nat} {x y : Value} {T : TypeId} (h : w.heap[g]? = some (.cells #[x, y] T (0, 0))) : w.cell? ⟨g, 0, none⟩ = some x ∧ w.cell? ⟨g, 1, none⟩ = some y ∧ w.frozen? ⟨g, 0, none⟩ = false ∧ w.frozen? ⟨g, 1, none⟩ = false :=
  ⟨by rw [cell_of_row w g _ _ _ _ h]; rfl, by rw [cell_of_row w g _ _ _ _ h]; rfl, frozen_of_row w g 0 _ _ h, frozen_of_row w g 1 _ _ h⟩
theorem box_first {W : World} {g : Nat} {x y : ByteArray} {u : Value} (h : W.cell? ⟨g, 0, none⟩ = some u) : ((W.setCell ⟨g, 0, none⟩ (.string x)).setCell ⟨g, 1, none⟩ (.string y)).cell? ⟨g, 0, none⟩ = some (.string x) := by
  rw [World.cell?_setCell_other (h := by intro e; have e2 : 1 = 0 := congrArg Addr.off e; omega), World.cell?_setCell_same (h := h)]
theorem box_second {W : World} {g : Nat} {x y : ByteArray} {u : Value} (h : W.cell? ⟨g, 1, none⟩ = some u) : ((W.setCell ⟨g, 0, none⟩ (.string x)).setCell ⟨g, 1, none⟩ (.string y)).cell? ⟨g, 1, none⟩ = some (.string y) := by
  exact World.cell?_setCell_same _ _ _ (by rw [World.cell?_setCell_other (h := by intro e; have e2 : 0 = 1 := congrArg Addr.off e; omega)]; exact h)

end Flds
end Go.Proofs.YtjeokackmkfooaaGreatDoor
namespace Go.Proofs.YtjeokackmkfooaaGreatDoor
open Go.RowKit
set_option linter.unusedVariables false
namespace Flds

/-- those of another name -/
def drop (l : List Fld) (name : ByteArray) : List Fld := l.filter fun f => decide (¬ f.1 = name)
theorem drop_take (l : List Fld) (name : ByteArray) (k : Nat) (h : k < l.length) : drop (l.take (k + 1)) name = drop (l.take k) name ++ (if l[k].1 = name then [] else [l[k]]) := by
  unfold drop
  rw [List.take_succ_eq_append_getElem h, List.filter_append]
  by_cases e : l[k].1 = name
  · rw [if_pos e]; simp [e]
  · rw [if_neg e]; simp [e]
theorem drop_length (l : List Fld) (name : ByteArray) : (drop l name).length ≤ l.length := List.length_filter_le _ _
/-- one field more, as it is set -/
def setStep (name value : ByteArray) (r : List Fld × Bool) (f : Fld) : List Fld × Bool :=
  if f.1 = name then (if r.2 = true then r else (r.1 ++ [(name, value)], true)) else (r.1 ++ [f], r.2)
def setGo (l : List Fld) (name value : ByteArray) : List Fld × Bool := l.foldl (setStep name value) ([], false)
/-- the first of that name has the value, others of it are gone; else it is put behind all -/
def set (l : List Fld) (name value : ByteArray) : List Fld := if (setGo l name value).2 = true then (setGo l name value).1 else (setGo l name value).1 ++ [(name, value)]
theorem setGo_take (l : List Fld) (name value : ByteArray) (k : Nat) (h : k < l.length) : setGo (l.take (k + 1)) name value = setStep name value (setGo (l.take k) name value) l[k] := by
  unfold setGo
  rw [List.take_succ_eq_append_getElem h, List.foldl_append]; rfl
theorem setGo_length (l : List Fld) (name value : ByteArray) : (setGo l name value).1.length ≤ l.length := by
  refine Num.snoc_ind (P := fun l => (setGo l name value).1.length ≤ l.length) (by simp [setGo]) ?_ l
  intro l f ih
  have e : setGo (l ++ [f]) name value = setStep name value (setGo l name value) f := by unfold setGo; rw [List.foldl_append]; rfl
  rw [e, List.length_append]
  unfold setStep
  split
  · split
    · simp; omega
    · simp; omega
  · simp; omega
theorem set_length (l : List Fld) (name value : ByteArray) : (set l name value).length ≤ l.length + 1 := by
  have := setGo_length l name value
  unfold set
  split
  · omega
  · rw [List.length_append]; simp; omega
end Flds
end Go.Proofs.YtjeokackmkfooaaGreatDoor
namespace Go.Proofs.YtjeokackmkfooaaGreatDoor
open Go.RowKit
set_option linter.unusedVariables false
namespace Flds

theorem get_snoc (l : List Fld) (f : Fld) (name : ByteArray) : get (l ++ [f]) name = getStep name (get l name) f := by unfold get; rw [List.foldl_append]; rfl
theorem drop_snoc (l : List Fld) (f : Fld) (name : ByteArray) : drop (l ++ [f]) name = drop l name ++ (if f.1 = name then [] else [f]) := by
  unfold drop
  rw [List.filter_append]
  by_cases e : f.1 = name
  · rw [if_pos e]; simp [e]
  · rw [if_neg e]; simp [e]
theorem setGo_snoc (l : List Fld) (f : Fld) (name value : ByteArray) : setGo (l ++ [f]) name value = setStep name value (setGo l name value) f := by unfold setGo; rw [List.foldl_append]; rfl
theorem get_none (l : List Fld) (name : ByteArray) (h : ∀ f ∈ l, ¬ f.1 = name) : get l name = (⟨#[]⟩, false) := by
  revert h
  refine Num.snoc_ind (P := fun l => (∀ f ∈ l, ¬ f.1 = name) → get l name = (⟨#[]⟩, false)) (fun _ => rfl) ?_ l
  intro l f ih h
  rw [get_snoc, ih (fun g hg => h g (List.mem_append_left _ hg))]
  unfold getStep
  rw [if_neg (h f (by simp))]
theorem get_drop (l : List Fld) (name : ByteArray) : get (drop l name) name = (⟨#[]⟩, false) := by
  apply get_none
  intro f hf
  unfold drop at hf
  have := (List.mem_filter.1 hf).2
  simpa using this
theorem get_drop_other (l : List Fld) (name other : ByteArray) (h : ¬ other = name) : get (drop l name) other = get l other := by
  refine Num.snoc_ind (P := fun l => get (drop l name) other = get l other) rfl ?_ l
  intro l f ih
  rw [drop_snoc, get_snoc]
  by_cases e : f.1 = name
  · rw [if_pos e, List.append_nil, ih]
    unfold getStep
    rw [if_neg (by rw [e]; exact fun h2 => h h2.symm)]
  · rw [if_neg e, get_snoc, ih]
theorem get_is (l : List Fld) (i : Nat) (h : i < l.length) : (get l l[i].1).2 = true := by
  have key : ∀ (l : List Fld) (name : ByteArray), (∃ f ∈ l, f.1 = name) → (get l name).2 = true := by
    intro l name
    refine Num.snoc_ind (P := fun l => (∃ f ∈ l, f.1 = name) → (get l name).2 = true) (fun ⟨f, hf, _⟩ => by cases hf) ?_ l
    intro l f ih hx
    rw [get_snoc]
    unfold getStep
    by_cases e : f.1 = name
    · rw [if_pos e]
    · rw [if_neg e]
      obtain ⟨g, hg, he⟩ := hx
      rcases List.mem_append.1 hg with h1 | h1
      · exact ih ⟨g, h1, he⟩
      · exact absurd he (by rw [List.mem_singleton.1 h1]; exact e)
  exact key l l[i].1 ⟨l[i], List.getElem_mem h, rfl⟩
/-- what has been gone through of a list, and what is set of it -/
theorem empty_app (v : ByteArray) : (⟨#[]⟩ : ByteArray) ++ v = v := by apply ByteArray.ext; simp
theorem setGo_spec (l : List Fld) (name value : ByteArray) :
    ((setGo l name value).2 = false → (setGo l name value).1 = drop l name) ∧
    ((setGo l name value).2 = true → drop (setGo l name value).1 name = drop l name ∧ get (setGo l name value).1 name = (value, true) ∧ (setGo l name value).1.length = (drop l name).length + 1) := by
  refine Num.snoc_ind (P := fun l => ((setGo l name value).2 = false → (setGo l name value).1 = drop l name) ∧
    ((setGo l name value).2 = true → drop (setGo l name value).1 name = drop l name ∧ get (setGo l name value).1 name = (value, true) ∧ (setGo l name value).1.length = (drop l name).length + 1)) ⟨fun _ => rfl, fun h => by cases h⟩ ?_ l
  intro l f ih
  rw [setGo_snoc, drop_snoc]
  generalize setGo l name value = r at ih
  obtain ⟨m, b⟩ := r
  simp only at ih
  unfold setStep
  by_cases e : f.1 = name
  · rw [if_pos e, if_pos e, List.append_nil]
    cases b with
    | true =>
      rw [if_pos rfl]
      exact ih
    | false =>
      rw [if_neg (by simp)]
      obtain ⟨h1, _⟩ := ih
      have h1 := h1 rfl
      subst h1
      refine ⟨(fun h => by cases h), fun _ => ⟨?_, ?_, ?_⟩⟩
      · rw [drop_snoc, if_pos rfl, List.append_nil]
        unfold drop
        rw [List.filter_filter]; simp
      · rw [get_snoc, get_drop]
        unfold getStep
        rw [if_pos rfl, if_neg (by simp), empty_app]
      · simp
  · rw [if_neg e, if_neg e]
    refine ⟨fun h => ?_, fun h => ?_⟩
    · simp only at h ⊢
      rw [ih.1 h]
    · simp only at h ⊢
      obtain ⟨h1, h2, h3⟩ := ih.2 h
      refine ⟨?_, ?_, ?_⟩
      · rw [drop_snoc, if_neg e, h1]
      · rw [get_snoc, h2]
        unfold getStep
        rw [if_neg e]
      · rw [List.length_append, List.length_append, h3]; simp
theorem set_spec_all (l : List Fld) (name value : ByteArray) : drop (set l name value) name = drop l name ∧ get (set l name value) name = (value, true) ∧ (set l name value).length = (drop l name).length + 1 := by
  have h := setGo_spec l name value
  unfold set
  cases hb : (setGo l name value).2 with
  | true => rw [if_pos rfl]; exact h.2 hb
  | false =>
    rw [if_neg (by simp), h.1 hb]
    refine ⟨?_, ?_, ?_⟩
    · rw [drop_snoc, if_pos rfl, List.append_nil]
      unfold drop
      rw [List.filter_filter]; simp
    · rw [get_snoc, get_drop]
      unfold getStep
      rw [if_pos rfl, if_neg (by simp), empty_app]
    · simp

/-- a line, as bytes -/
def enc (f : Fld) : List UInt8 := f.1.data.toList ++ [58, 32] ++ f.2.data.toList ++ [13, 10]
theorem tok_no {x : ByteArray} (h : Sign.isTok x = true) : ∀ b ∈ x.data.toList, ¬ b = 58 ∧ ¬ b = 13 := by
  intro b hb
  unfold Sign.isTok at h
  rw [Bool.and_eq_true, List.all_eq_true] at h
  have h1 := of_decide_eq_true (h.2 b hb)
  unfold Sign.tok at h1
  constructor
  · rintro rfl; revert h1; decide
  · rintro rfl; revert h1; decide
theorem val_no {y : ByteArray} (h : Sign.isVal y = true) : (∀ b ∈ y.data.toList, ¬ b = 13) ∧ Sign.trim y = y := by
  unfold Sign.isVal at h
  rw [Bool.and_eq_true, List.all_eq_true] at h
  refine ⟨?_, ?_⟩
  · intro b hb
    have h1 := of_decide_eq_true (h.1 b hb)
    unfold Sign.val at h1
    rintro rfl; revert h1; decide
  · have h2 := h.2
    rw [beq_iff_eq, ByteArray.toList_eq, ByteArray.toList_eq] at h2
    exact ByteArray.ext (Array.toList_inj.1 h2)
theorem field_line (f : Fld) (h : okF f = true) : fieldOf ⟨(f.1.data.toList ++ 58 :: 32 :: f.2.data.toList).toArray⟩ f.1.size = f := by
  obtain ⟨x, y⟩ := f
  unfold okF at h
  simp only [Bool.and_eq_true, decide_eq_true_iff] at h
  obtain ⟨⟨⟨⟨h1, h2⟩, h3⟩, h4⟩, h5⟩ := h
  have ex : x.data.toList.length = x.size := by rw [Array.length_toList]; rfl
  unfold fieldOf
  have e1 : (⟨(x.data.toList ++ 58 :: 32 :: y.data.toList).toArray⟩ : ByteArray).extract 0 x.size = x := by
    apply ByteArray.ext
    apply Array.toList_inj.1
    rw [ByteArray.data_extract, Array.toList_extract, List.extract_eq_drop_take', List.drop_zero, List.toList_toArray]
    rw [← ex, List.take_left]
  have e2 : Sign.trim ((⟨(x.data.toList ++ 58 :: 32 :: y.data.toList).toArray⟩ : ByteArray).extract (x.size + 1) (ByteArray.size ⟨(x.data.toList ++ 58 :: 32 :: y.data.toList).toArray⟩)) = Sign.trim y := by
    unfold Sign.trim
    have e3 : ((⟨(x.data.toList ++ 58 :: 32 :: y.data.toList).toArray⟩ : ByteArray).extract (x.size + 1) (ByteArray.size ⟨(x.data.toList ++ 58 :: 32 :: y.data.toList).toArray⟩)).data.toList = 32 :: y.data.toList := by
      rw [Line.extract_list, List.toList_toArray, ← ex]
      rw [List.drop_append]
      simp
    rw [e3, List.dropWhile_cons_of_pos (by decide)]
  show (Sign.lower _, Sign.trim _) = (x, y)
  rw [e1, e2, (val_no h4).2, ← h2]
theorem read_line (T : ByteArray) (p q : List UInt8) (f : Fld) (hT : T.data.toList = p ++ (enc f ++ q)) (h : okF f = true) (n : Nat) (l : List Fld) :
    readGo T (n + 1) p.length l = readGo T n (p ++ enc f).length (l ++ [f]) := by
  have h0 := h
  unfold okF at h0
  simp only [Bool.and_eq_true, decide_eq_true_iff] at h0
  obtain ⟨⟨⟨⟨h1, h2⟩, h3⟩, h4⟩, h5⟩ := h0
  have hT2 : T.data.toList = p ++ ((f.1.data.toList ++ 58 :: 32 :: f.2.data.toList) ++ 13 :: 10 :: q) := by rw [hT]; unfold enc; simp
  obtain ⟨he, hx⟩ := Line.eol_line T p _ q hT2 (by
    intro b hb
    rcases List.mem_append.1 hb with h6 | h6
    · exact (tok_no h1 b h6).2
    · rcases List.mem_cons.1 h6 with rfl | h7
      · decide
      · rcases List.mem_cons.1 h7 with rfl | h8
        · decide
        · exact (val_no h4).1 b h8)
  rw [readGo, he]
  simp only
  rw [if_neg (by simp), hx, Line.colon_line f.1 _ (fun b hb => (tok_no h1 b hb).1)]
  simp only
  rw [field_line f h, if_pos h]
  congr 1
  unfold enc
  simp only [List.length_append, List.length_cons, List.length_nil]
  omega
theorem read_many (T : ByteArray) (q : List UInt8) : ∀ (fs : List Fld) (p : List UInt8) (n : Nat) (l : List Fld), T.data.toList = p ++ (fs.flatMap enc ++ 13 :: 10 :: q) → fs.all okF = true → fs.length ≤ n →
    readGo T (n + 1) p.length l = some (l ++ fs, (p ++ fs.flatMap enc).length + 2) := by
  intro fs
  induction fs with
  | nil =>
    intro p n l hT _ _
    obtain ⟨he, _⟩ := Line.eol_line T p [] q (by simpa using hT) (fun b hb => by cases hb)
    rw [readGo, he]
    simp
  | cons f fs ih =>
    intro p n l hT ha hn
    rw [List.all_cons, Bool.and_eq_true] at ha
    rw [List.length_cons] at hn
    obtain ⟨m, rfl⟩ : ∃ m, n = m + 1 := ⟨n - 1, by omega⟩
    rw [List.flatMap_cons, List.append_assoc] at hT
    rw [read_line T p _ f hT ha.1]
    rw [ih (p ++ enc f) m (l ++ [f]) (by rw [hT]; simp) ha.2 (by omega)]
    simp
theorem showGo_list (l : List Fld) : (showGo l).data.toList = l.flatMap enc := by
  refine Num.snoc_ind (P := fun l => (showGo l).data.toList = l.flatMap enc) rfl ?_ l
  intro l f ih
  have e : showGo (l ++ [f]) = showStep (showGo l) f := by unfold showGo; rw [List.foldl_append]; rfl
  rw [e, List.flatMap_append, ← ih]
  unfold showStep enc
  simp
theorem read_shown (l : List Fld) (more : ByteArray) (h : ok l = true) : read (shown l ++ more) = some (l, (shown l).size) := by
  have hs : shown l = showGo l ++ ⟨#[13, 10]⟩ := by unfold shown; rw [if_pos h]
  unfold ok at h
  rw [Bool.and_eq_true, decide_eq_true_iff] at h
  have hT : (shown l ++ more).data.toList = [] ++ (l.flatMap enc ++ 13 :: 10 :: more.data.toList) := by
    rw [hs, ← showGo_list]; simp
  have := read_many (shown l ++ more) more.data.toList l [] 12 [] hT h.1 h.2
  unfold read
  rw [List.length_nil] at this
  rw [this]
  congr 2
  rw [hs, ByteArray.size_append, ← showGo_list]
  simp only [List.nil_append, Array.length_toList]
  rfl
theorem shown_empty (l : List Fld) : (shown l).toList.isEmpty = !(ok l) := by
  unfold shown
  cases h : ok l with
  | false => rw [if_neg (by simp), ByteArray.toList_eq]; rfl
  | true =>
    rw [if_pos rfl]
    refine (Sign.empty_false _ ?_).trans rfl
    rw [ByteArray.size_append]
    have : (⟨#[13, 10]⟩ : ByteArray).size = 2 := rfl
    omega
end Flds
end Go.Proofs.YtjeokackmkfooaaGreatDoor
