/-
  FldLineNum: Lines of a text, and the fields of lines: plain facts (where Cut finds a line's end, a colon; reading by lines is reading field by field).
  FldShowNum: The text of fields, plain.
  FldPut: A field put behind a list of fields in a row of the call's own.
-/
import Derived.Test.YtmiahdiadlnijaaDoorPab
import Derived.Test.YtmiahdiadlnijaaDoorFldsOkSpec
import Derived.Test.YtmiahdiadlnijaaDoorFldOwn
namespace Go.Proofs.YtmiahdiadlnijaaDoor
open Go.RowKit
set_option linter.unusedVariables false
namespace Flds

/-- the lines from 'a' on up to an empty one, at most n with it, and the place behind it -/
def linesGo (s : ByteArray) : Nat → Nat → Option (List ByteArray × Nat)
  | 0, _ => none
  | n + 1, a =>
    match Line.eol s a with
    | none => none
    | some i => if i = a then some ([], i + 2) else (linesGo s n (i + 2)).map fun p => (s.extract a i :: p.1, p.2)
def lines (s : ByteArray) : Option (List ByteArray × Nat) := linesGo s 13 0
structure LnAt (s : ByteArray) (a : Nat) (L : List ByteArray) : Prop where
  le : a ≤ s.size
  len : L.length ≤ 13
  small : ∀ t ∈ L, t.size ≤ s.size
  same : lines s = (linesGo s (13 - L.length) a).map fun p => (L ++ p.1, p.2)
theorem ln_start (s : ByteArray) : LnAt s 0 [] where
  le := Nat.zero_le _
  len := Nat.zero_le _
  small := fun t h => by cases h
  same := by
    show linesGo s 13 0 = (linesGo s 13 0).map fun p => ([] ++ p.1, p.2)
    cases linesGo s 13 0 <;> rfl
section
variable {s : ByteArray} {a : Nat} {L : List ByteArray}
theorem ln_full (h : LnAt s a L) (hl : ¬ L.length ≤ 12) : lines s = none := by
  rw [h.same, show 13 - L.length = 0 by omega]; rfl
theorem ln_step (hl : L.length ≤ 12) : ∃ n, 13 - L.length = n + 1 := ⟨12 - L.length, by omega⟩
theorem ln_none (h : LnAt s a L) (hl : L.length ≤ 12) (he : Line.eol s a = none) : lines s = none := by
  obtain ⟨n, hn⟩ := ln_step hl
  rw [h.same, hn, linesGo, he]; rfl
theorem ln_done (h : LnAt s a L) (hl : L.length ≤ 12) (he : Line.eol s a = some a) : lines s = some (L, a + 2) := by
  obtain ⟨n, hn⟩ := ln_step hl
  rw [h.same, hn, linesGo, he]; simp
theorem ln_more (h : LnAt s a L) (hl : L.length ≤ 12) {i : Nat} (he : Line.eol s a = some i) (hi : i ≠ a) : LnAt s (i + 2) (L ++ [s.extract a i]) where
  le := by have := Line.eol_in he; omega
  len := by rw [List.length_append]; simp; omega
  small := by
    intro t ht
    rcases List.mem_append.1 ht with h1 | h1
    · exact h.small t h1
    · obtain rfl := List.mem_singleton.1 h1
      rw [ByteArray.size_extract]; omega
  same := by
    obtain ⟨n, hn⟩ := ln_step hl
    rw [h.same, hn, linesGo, he]
    simp only
    rw [if_neg hi, List.length_append, List.length_singleton, show 13 - (L.length + 1) = n by omega]
    cases linesGo s n (i + 2) <;> simp
end
/-- what is told of the lines -/
def lnL (s : ByteArray) : List ByteArray := match lines s with | some (l, _) => l | none => []
def lnN (s : ByteArray) : Int := match lines s with | some (_, n) => (n : Int) | none => 0
def lnB (s : ByteArray) : Bool := (lines s).isSome
theorem ln_told_none {s : ByteArray} (h : lines s = none) : lnL s = [] ∧ lnN s = 0 ∧ lnB s = false := by unfold lnL lnN lnB; rw [h]; exact ⟨rfl, rfl, rfl⟩
theorem ln_told_some {s : ByteArray} {l : List ByteArray} {n : Nat} (h : lines s = some (l, n)) : lnL s = l ∧ lnN s = (n : Int) ∧ lnB s = true := by unfold lnL lnN lnB; rw [h]; exact ⟨rfl, rfl, rfl⟩
theorem linesGo_len (s : ByteArray) : ∀ (n a : Nat) (p : List ByteArray × Nat), linesGo s n a = some p → p.1.length < n ∧ ∀ t ∈ p.1, t.size ≤ s.size := by
  intro n
  induction n with
  | zero => intro a p h; cases h
  | succ n ih =>
    intro a p h
    rw [linesGo] at h
    cases he : Line.eol s a with
    | none => rw [he] at h; cases h
    | some i =>
      rw [he] at h
      simp only at h
      by_cases hi : i = a
      · rw [if_pos hi] at h; cases h; exact ⟨Nat.zero_lt_succ _, fun t ht => by cases ht⟩
      · rw [if_neg hi] at h
        obtain ⟨q, hq, rfl⟩ := Option.map_eq_some_iff.1 h
        obtain ⟨h1, h2⟩ := ih _ _ hq
        refine ⟨by simp; omega, fun t ht => ?_⟩
        rcases List.mem_cons.1 ht with rfl | h3
        · rw [ByteArray.size_extract]; omega
        · exact h2 t h3
/-- the field of a line -/
def fieldAt (t : ByteArray) : Option Fld := (Line.colon t).map (fieldOf t)
def good (t : ByteArray) : Bool := match fieldAt t with | some f => okF f | none => false
theorem read_lines (s : ByteArray) : ∀ (n a : Nat) (l : List Fld), readGo s n a l = (linesGo s n a).bind fun p => if p.1.all good = true then some (l ++ p.1.filterMap fieldAt, p.2) else none := by
  intro n
  induction n with
  | zero => intro a l; rfl
  | succ n ih =>
    intro a l
    rw [readGo, linesGo]
    cases he : Line.eol s a with
    | none => rfl
    | some i =>
      simp only
      by_cases hi : i = a
      · rw [if_pos hi, if_pos hi]; simp
      · rw [if_neg hi, if_neg hi]
        cases hc : Line.colon (s.extract a i) with
        | none =>
          have hg : good (s.extract a i) = false := by unfold good fieldAt; rw [hc]; rfl
          cases linesGo s n (i + 2) with
          | none => rfl
          | some p => simp [hg]
        | some k =>
          simp only
          have hf : fieldAt (s.extract a i) = some (fieldOf (s.extract a i) k) := by unfold fieldAt; rw [hc]; rfl
          have hg : good (s.extract a i) = okF (fieldOf (s.extract a i) k) := by unfold good; rw [hf]
          cases hok : okF (fieldOf (s.extract a i) k) with
          | false =>
            rw [if_neg (by simp)]
            cases linesGo s n (i + 2) with
            | none => rfl
            | some p => simp [hg, hok]
          | true =>
            rw [if_pos rfl, ih]
            cases linesGo s n (i + 2) with
            | none => rfl
            | some p => simp [hg, hok, hf]
theorem read_of_lines (s : ByteArray) : read s = (lines s).bind fun p => if p.1.all good = true then some (p.1.filterMap fieldAt, p.2) else none := by
  unfold read lines
  rw [read_lines]
  simp
theorem flt_len (L : List ByteArray) : (L.filterMap fieldAt).length ≤ L.length := List.length_filterMap_le _ _
/-- where a line has no field, or one is not right, nothing is read -/
theorem good_short (L : List ByteArray) (h : (L.filterMap fieldAt).length < L.length) : L.all good = false := by
  rw [Bool.eq_false_iff]
  intro ha
  rw [List.all_eq_true] at ha
  have : ∀ (M : List ByteArray), (∀ t ∈ M, good t = true) → (M.filterMap fieldAt).length = M.length := by
    intro M
    induction M with
    | nil => intro _; rfl
    | cons t M ih =>
      intro hM
      have h1 := hM t (List.mem_cons_self ..)
      have h2 := ih (fun u hu => hM u (List.mem_cons_of_mem _ hu))
      unfold good at h1
      cases hf : fieldAt t with
      | none => rw [hf] at h1; cases h1
      | some f => rw [List.filterMap_cons_some hf, List.length_cons, List.length_cons, h2]
  have := this L ha
  omega
theorem good_full (L : List ByteArray) (h : ¬ (L.filterMap fieldAt).length < L.length) : L.all good = (L.filterMap fieldAt).all okF := by
  induction L with
  | nil => rfl
  | cons t M ih =>
    cases hf : fieldAt t with
    | none =>
      rw [List.filterMap_cons_none hf, List.length_cons] at h
      have := flt_len M
      omega
    | some f =>
      rw [List.filterMap_cons_some hf, List.length_cons, List.length_cons] at h
      have hg : good t = okF f := by unfold good; rw [hf]
      rw [List.filterMap_cons_some hf, List.all_cons, List.all_cons, hg, ih (by omega)]
theorem flt_take (L : List ByteArray) (k : Nat) (h : k < L.length) : (L.take (k + 1)).filterMap fieldAt = (L.take k).filterMap fieldAt ++ (match fieldAt L[k] with | some f => [f] | none => []) := by
  rw [List.take_succ_eq_append_getElem h, List.filterMap_append]
  cases hf : fieldAt L[k] with
  | none => rw [List.filterMap_cons_none hf]; rfl
  | some f => rw [List.filterMap_cons_some hf]; rfl
end Flds
end Go.Proofs.YtmiahdiadlnijaaDoor
namespace Go.Proofs.YtmiahdiadlnijaaDoor
open Go.RowKit
set_option linter.unusedVariables false
namespace Flds

/-- one field more behind a text -/
def showStep (s : ByteArray) (f : Fld) : ByteArray := s ++ f.1 ++ ⟨#[58, 32]⟩ ++ f.2 ++ ⟨#[13, 10]⟩
def showGo (l : List Fld) : ByteArray := l.foldl showStep ⟨#[]⟩
/-- the text of fields; empty where they are not right -/
def shown (l : List Fld) : ByteArray := if ok l = true then showGo l ++ ⟨#[13, 10]⟩ else ⟨#[]⟩
theorem showGo_take (l : List Fld) (k : Nat) (h : k < l.length) : showGo (l.take (k + 1)) = showStep (showGo (l.take k)) l[k] := by
  unfold showGo
  rw [List.take_succ_eq_append_getElem h, List.foldl_append]; rfl
theorem showGo_size (l : List Fld) : (showGo l).size = 4 * l.length + (l.map fun f => f.1.size + f.2.size).sum := by
  refine Num.snoc_ind (P := fun l => (showGo l).size = 4 * l.length + (l.map fun f => f.1.size + f.2.size).sum) rfl ?_ l
  intro l f ih
  have e : showGo (l ++ [f]) = showStep (showGo l) f := by unfold showGo; rw [List.foldl_append]; rfl
  have hz1 : (⟨#[58, 32]⟩ : ByteArray).size = 2 := rfl
  have hz2 : (⟨#[13, 10]⟩ : ByteArray).size = 2 := rfl
  rw [e, List.length_append, List.map_append, List.sum_append]
  unfold showStep
  simp only [ByteArray.size_append, List.length_singleton, List.map_cons, List.map_nil, List.sum_cons, List.sum_nil, hz1, hz2]
  omega

end Flds
end Go.Proofs.YtmiahdiadlnijaaDoor
namespace Go.Proofs.YtmiahdiadlnijaaDoor
open Go.RowKit
set_option linter.unusedVariables false
namespace Flds

theorem ne_text {x y : ByteArray} (h : ¬ x = y) : (x.toList == y.toList) = false := by
  rw [beq_eq_false_iff_ne, ByteArray.toList_eq, ByteArray.toList_eq]
  intro e; exact h (ByteArray.ext (Array.toList_inj.1 e))
theorem cells_two (w : World) (x y : ByteArray) : ∀ j u, [Value.string x, Value.string y][j]? = some u → (w.alloc (.cells #[.string x, .string y] 60)).cell? ((⟨w.heap.size, 0, none⟩ : Addr).add j) = some u := by
  intro j u hj
  match j, hj with
  | 0, hj => simp at hj; subst hj; simp [Addr.add]
  | 1, hj => simp at hj; subst hj; simp [Addr.add]
theorem two_ok (x y : ByteArray) : ∀ u ∈ [Value.string x, Value.string y], u.oneCell' = true := by
  intro u hu; simp at hu; rcases hu with rfl | rfl <;> rfl
theorem put_more {w wr w2 : World} {B : Nat} {v v' : Value} {l : List Fld} {x y : ByteArray} (hB : B ≤ wr.heap.size) (ho : Own B wr v l) (hb : Below B w wr)
    (ho2 : w2.ownsRow B 60 2 v' (l.length + 1) (l.flatMap cells ++ [.string x, .string y])) (hg : (wr.alloc (.cells #[.string x, .string y] 60)).grownBy w2 v.ownBlock) : Own B w2 v' (l ++ [(x, y)]) ∧ Below B w w2 :=
  ⟨Recs.own_snoc ho2, (hb.alloc hB _).grown hg (by simp; omega) (fun j hj => (Recs.own_lt ho j hj).1)⟩
theorem made_nil (w : World) : Own w.heap.size (w.alloc (.cells #[] 60)) (.slice (some ⟨w.heap.size, 0, none⟩) 0 0) [] := World.ownsRow_made w #[] 0 (Nat.le_refl _) (Nat.zero_le _) rfl
theorem two_cells {w : World} {g : Nat} {x y : Value} {T : TypeId} (h : w.heap[g]? = some (.cells #[x, y] T (0, 0))) : w.cell? ⟨g, 0, none⟩ = some x ∧ w.cell? ⟨g, 1, none⟩ = some y ∧ w.frozen? ⟨g, 0, none⟩ = false ∧ w.frozen? ⟨g, 1, none⟩ = false :=
  ⟨by rw [cell_of_row w g _ _ _ _ h]; rfl, by rw [cell_of_row w g _ _ _ _ h]; rfl, frozen_of_row w g 0 _ _ h, frozen_of_row w g 1 _ _ h⟩
theorem box_first {W : World} {g : Nat} {x y : ByteArray} {u : Value} (h : W.cell? ⟨g, 0, none⟩ = some u) : ((W.setCell ⟨g, 0, none⟩ (.string x)).setCell ⟨g, 1, none⟩ (.string y)).cell? ⟨g, 0, none⟩ = some (.string x) := by
  rw [World.cell?_setCell_other (h := by intro e; have e2 : 1 = 0 := congrArg Addr.off e; omega), World.cell?_setCell_same (h := h)]
theorem box_second {W : World} {g : Nat} {x y : ByteArray} {u : Value} (h : W.cell? ⟨g, 1, none⟩ = some u) : ((W.setCell ⟨g, 0, none⟩ (.string x)).setCell ⟨g, 1, none⟩ (.string y)).cell? ⟨g, 1, none⟩ = some (.string y) := by
  exact World.cell?_setCell_same _ _ _ (by rw [World.cell?_setCell_other (h := by intro e; have e2 : 0 = 1 := congrArg Addr.off e; omega)]; exact h)

end Flds
end Go.Proofs.YtmiahdiadlnijaaDoor
