/-
  LineNum: Lines and colons, plain: where Cut finds a line's end, a colon; the line of a text that is put together.
  FldLineNum: Lines of a text, and the fields of lines: plain facts (where Cut finds a line's end, a colon; reading by lines is reading field by field).
  FldShowNum: The text of fields, plain.
  FldPut: A field put behind a list of fields in a row of the call's own.
  FldSets: What it is to drop a name of a list of fields, and to set one.
-/
import Derived.Test.YtbcjpjhpobmpbaaGreatDoorPad
import Derived.Lib.CutLaws
import Derived.Lib.Strings
import Derived.Test.YtbcjpjhpobmpbaaGreatDoorFldsOkSpec
import Derived.Test.YtbcjpjhpobmpbaaGreatDoorFldOwn
namespace Go.Proofs.YtbcjpjhpobmpbaaGreatDoor
open Go.RowKit
set_option linter.unusedVariables false
namespace Line

theorem byteAt_list (s : ByteArray) (i : Nat) (h : i < s.size) : ∃ b, s.data.toList.drop i = b :: s.data.toList.drop (i + 1) ∧ byteAt s i = b.toNat := by
  have h2 : i < s.data.toList.length := by simpa using h
  refine ⟨s.data.toList[i], List.drop_eq_getElem_cons h2, ?_⟩
  rw [byteAt_eq s i h]; rfl
theorem drop_end (s : ByteArray) (i : Nat) (h : s.size ≤ i) : s.data.toList.drop i = [] := List.drop_eq_nil_of_le (by simpa using h)
/-- what Index tells of an end of a line -/
def eolI (r : Option Nat) (i : Nat) : Int := match r with | some k => (k : Int) - (i : Int) | none => -1
theorem index_eolGo (s : ByteArray) : ∀ (n i : Nat), n = s.size - i → Lib.index (s.data.toList.drop i) [13, 10] = eolI (eolGo s n i) i := by
  intro n
  induction n with
  | zero => intro i h; rw [drop_end s i (by omega)]; rfl
  | succ n ih =>
    intro i h
    obtain ⟨b, e, hb⟩ := byteAt_list s i (by omega)
    have ih2 := ih (i + 1) (by omega)
    rw [e]
    unfold Lib.index eolGo
    rw [ih2]
    by_cases hc : byteAt s i = 13 ∧ byteAt s (i + 1) = 10
    · rw [if_pos hc, if_pos]
      · show (0 : Int) = (i : Int) - (i : Int); omega
      · have h13 : b = 13 := by rw [← UInt8.toNat_inj, ← hb]; exact hc.1
        have hlt : i + 1 < s.size := by
          by_cases hz : i + 1 < s.size
          · exact hz
          · exfalso; have := hc.2; unfold byteAt at this; rw [dif_neg hz] at this; omega
        obtain ⟨b2, e2, hb2⟩ := byteAt_list s (i + 1) hlt
        have h10 : b2 = 10 := by rw [← UInt8.toNat_inj, ← hb2]; exact hc.2
        rw [e2, h13, h10]; rfl
    · rw [if_neg hc, if_neg]
      · cases hg : eolGo s n (i + 1) with
        | none => rfl
        | some k =>
          have := eolGo_in s _ _ _ hg
          show (if ((k : Int) - ((i + 1 : Nat) : Int) == -1) = true then (-1 : Int) else (k : Int) - ((i + 1 : Nat) : Int) + 1) = (k : Int) - (i : Int)
          rw [if_neg (by rw [beq_iff_eq]; omega)]; omega
      · intro hp
        apply hc
        by_cases hlt : i + 1 < s.size
        · obtain ⟨b2, e2, hb2⟩ := byteAt_list s (i + 1) hlt
          rw [e2] at hp
          simp only [List.isPrefixOf, Bool.and_eq_true, beq_iff_eq, and_true] at hp
          exact ⟨by rw [hb, ← hp.1]; rfl, by rw [hb2, ← hp.2]; rfl⟩
        · rw [drop_end s (i + 1) (by omega)] at hp
          simp [List.isPrefixOf] at hp
theorem extract_list (s : ByteArray) (a : Nat) : (s.extract a s.size).data.toList = s.data.toList.drop a := by
  rw [Lib.extract_data]
  exact List.take_of_length_le (by rw [List.length_drop, ← Lib.size_eq]; exact Nat.le_refl _)
theorem index_eol (s : ByteArray) (a : Nat) : Lib.indexB (s.extract a s.size) ⟨#[13, 10]⟩ = eolI (eol s a) a := by
  show Lib.index (s.extract a s.size).data.toList [13, 10] = _
  rw [extract_list]
  exact index_eolGo s _ a rfl
def colonI (r : Option Nat) (i : Nat) : Int := match r with | some k => (k : Int) - (i : Int) | none => -1
theorem index_colonGo (s : ByteArray) : ∀ (n i : Nat), n = s.size - i → Lib.index (s.data.toList.drop i) [58] = colonI (colonGo s n i) i := by
  intro n
  induction n with
  | zero => intro i h; rw [drop_end s i (by omega)]; rfl
  | succ n ih =>
    intro i h
    obtain ⟨b, e, hb⟩ := byteAt_list s i (by omega)
    have ih2 := ih (i + 1) (by omega)
    rw [e]
    unfold Lib.index colonGo
    rw [ih2]
    by_cases hc : byteAt s i = 58
    · rw [if_pos hc, if_pos]
      · show (0 : Int) = (i : Int) - (i : Int); omega
      · have h58 : b = 58 := by rw [← UInt8.toNat_inj, ← hb]; exact hc
        rw [h58]; rfl
    · rw [if_neg hc, if_neg]
      · cases hg : colonGo s n (i + 1) with
        | none => rfl
        | some k =>
          have := colonGo_in s _ _ _ hg
          show (if ((k : Int) - ((i + 1 : Nat) : Int) == -1) = true then (-1 : Int) else (k : Int) - ((i + 1 : Nat) : Int) + 1) = (k : Int) - (i : Int)
          rw [if_neg (by rw [beq_iff_eq]; omega)]; omega
      · intro hp
        apply hc
        simp only [List.isPrefixOf, Bool.and_eq_true, beq_iff_eq, and_true] at hp
        rw [hb, ← hp]; rfl
theorem index_colon (s : ByteArray) : Lib.indexB s ⟨#[58]⟩ = colonI (colon s) 0 := by
  show Lib.index s.data.toList [58] = _
  have := index_colonGo s s.size 0 rfl
  rw [List.drop_zero] at this
  exact this
/-- what Cut tells at a line's end -/
theorem cut_none {s : ByteArray} {a : Nat} (h : eol s a = none) : (⟨(Lib.cut (s.extract a s.size).data.toList (⟨#[13, 10]⟩ : ByteArray).data.toList).1.toArray⟩ : ByteArray) = s.extract a s.size ∧ (⟨(Lib.cut (s.extract a s.size).data.toList (⟨#[13, 10]⟩ : ByteArray).data.toList).2.1.toArray⟩ : ByteArray) = ByteArray.empty ∧ (Lib.cut (s.extract a s.size).data.toList (⟨#[13, 10]⟩ : ByteArray).data.toList).2.2 = false :=
  Lib.cutB_miss _ _ (by rw [index_eol, h]; rfl)
theorem ext_ext (s : ByteArray) (a i : Nat) (h1 : a ≤ i) (h2 : i ≤ s.size) : (s.extract a s.size).extract 0 (i - a) = s.extract a i := by
  rw [ByteArray.extract_extract, Nat.add_zero]
  congr 1
  omega
theorem cut_some {s : ByteArray} {a i : Nat} (h : eol s a = some i) : (⟨(Lib.cut (s.extract a s.size).data.toList (⟨#[13, 10]⟩ : ByteArray).data.toList).1.toArray⟩ : ByteArray) = s.extract a i ∧ (Lib.cut (s.extract a s.size).data.toList (⟨#[13, 10]⟩ : ByteArray).data.toList).2.2 = true := by
  have hin := eol_in h
  obtain ⟨h1, _, h3⟩ := Lib.cutB_hit (s.extract a s.size) ⟨#[13, 10]⟩ (i - a) (by rw [index_eol, h]; show (i : Int) - (a : Int) = ((i - a : Nat) : Int); omega)
  exact ⟨h1.trans (ext_ext s a i hin.1 (by omega)), h3⟩
theorem cutc_none {s : ByteArray} (h : colon s = none) : (⟨(Lib.cut s.data.toList (⟨#[58]⟩ : ByteArray).data.toList).1.toArray⟩ : ByteArray) = s ∧ (⟨(Lib.cut s.data.toList (⟨#[58]⟩ : ByteArray).data.toList).2.1.toArray⟩ : ByteArray) = ByteArray.empty ∧ (Lib.cut s.data.toList (⟨#[58]⟩ : ByteArray).data.toList).2.2 = false :=
  Lib.cutB_miss _ _ (by rw [index_colon, h]; rfl)
theorem cutc_some {s : ByteArray} {k : Nat} (h : colon s = some k) : (⟨(Lib.cut s.data.toList (⟨#[58]⟩ : ByteArray).data.toList).1.toArray⟩ : ByteArray) = s.extract 0 k ∧ (⟨(Lib.cut s.data.toList (⟨#[58]⟩ : ByteArray).data.toList).2.1.toArray⟩ : ByteArray) = s.extract (k + 1) s.size ∧ (Lib.cut s.data.toList (⟨#[58]⟩ : ByteArray).data.toList).2.2 = true :=
  Lib.cutB_hit s ⟨#[58]⟩ k (by rw [index_colon, h]; show (k : Int) - ((0 : Nat) : Int) = (k : Int); omega)
theorem index_line (t q : List UInt8) (h : ∀ b ∈ t, ¬ b = 13) : Lib.index (t ++ 13 :: 10 :: q) [13, 10] = (t.length : Int) := by
  induction t with
  | nil => simp [Lib.index, List.isPrefixOf]
  | cons b t ih =>
    have hb : ¬ b = 13 := h b (List.mem_cons_self ..)
    have ih2 := ih (fun c hc => h c (List.mem_cons_of_mem _ hc))
    rw [List.cons_append, Lib.index, ih2]
    rw [if_neg, if_neg]
    · rw [List.length_cons]; omega
    · rw [beq_iff_eq]; omega
    · simp only [List.isPrefixOf, Bool.and_eq_true, beq_iff_eq]
      exact fun h => hb h.1.symm
theorem index_col (t q : List UInt8) (h : ∀ b ∈ t, ¬ b = 58) : Lib.index (t ++ 58 :: q) [58] = (t.length : Int) := by
  induction t with
  | nil => simp [Lib.index, List.isPrefixOf]
  | cons b t ih =>
    have hb : ¬ b = 58 := h b (List.mem_cons_self ..)
    have ih2 := ih (fun c hc => h c (List.mem_cons_of_mem _ hc))
    rw [List.cons_append, Lib.index, ih2]
    rw [if_neg, if_neg]
    · rw [List.length_cons]; omega
    · rw [beq_iff_eq]; omega
    · simp only [List.isPrefixOf, Bool.and_eq_true, beq_iff_eq]
      exact fun h => hb h.1.symm
theorem eol_line (T : ByteArray) (p t q : List UInt8) (hT : T.data.toList = p ++ (t ++ 13 :: 10 :: q)) (h : ∀ b ∈ t, ¬ b = 13) : eol T p.length = some (p.length + t.length) ∧ T.extract p.length (p.length + t.length) = ⟨t.toArray⟩ := by
  have hi := index_eolGo T _ p.length rfl
  rw [hT, List.drop_left, index_line t q h] at hi
  constructor
  · show eolGo T _ _ = _
    cases he : eolGo T (T.size - p.length) p.length with
    | none => rw [he] at hi; unfold eolI at hi; simp only at hi; omega
    | some k => rw [he] at hi; unfold eolI at hi; simp only at hi; congr 1; omega
  · apply ByteArray.ext
    apply Array.toList_inj.1
    rw [ByteArray.data_extract, Array.toList_extract, List.extract_eq_drop_take', hT]
    rw [List.take_append, List.drop_append]
    simp
theorem colon_line (x : ByteArray) (q : List UInt8) (h : ∀ b ∈ x.data.toList, ¬ b = 58) : colon ⟨(x.data.toList ++ 58 :: q).toArray⟩ = some x.size := by
  have hi := index_colonGo ⟨(x.data.toList ++ 58 :: q).toArray⟩ _ 0 rfl
  rw [List.drop_zero, List.toList_toArray, index_col _ q h] at hi
  show colonGo _ _ _ = _
  rw [Nat.sub_zero] at hi
  cases he : colonGo ⟨(x.data.toList ++ 58 :: q).toArray⟩ (ByteArray.size ⟨(x.data.toList ++ 58 :: q).toArray⟩) 0 with
  | none => rw [he] at hi; unfold colonI at hi; simp only at hi; omega
  | some k =>
    rw [he] at hi; unfold colonI at hi; simp only at hi
    have e : x.data.toList.length = x.size := by rw [Array.length_toList]; rfl
    congr 1; omega
end Line
end Go.Proofs.YtbcjpjhpobmpbaaGreatDoor
namespace Go.Proofs.YtbcjpjhpobmpbaaGreatDoor
open Go.RowKit
set_option linter.unusedVariables false
namespace Flds

/-- the lines from 'a' on up to an empty one, at most n with it, and the place behind it -/
def linesGo (s : ByteArray) : Nat → Nat → Option (List ByteArray × Nat)
  | 0, _ => none
  | n + 1, a =>
    match Line.eol s a with
    | none => none
    | some i => if i = a then some ([], i + 2) else (linesGo s n (i + 2)).map fun p => (s.extract a i :: p.1, p.2)
def lines (s : ByteArray) : Option (List ByteArray × Nat) := linesGo s 13 0
structure LnAt (s : ByteArray) (a : Nat) (L : List ByteArray) : Prop where
  le : a ≤ s.size
  len : L.length ≤ 13
  small : ∀ t ∈ L, t.size ≤ s.size
  same : lines s = (linesGo s (13 - L.length) a).map fun p => (L ++ p.1, p.2)
theorem ln_start (s : ByteArray) : LnAt s 0 [] where
  le := Nat.zero_le _
  len := Nat.zero_le _
  small := fun t h => by cases h
  same := by
    show linesGo s 13 0 = (linesGo s 13 0).map fun p => ([] ++ p.1, p.2)
    cases linesGo s 13 0 <;> rfl
section
variable {s : ByteArray} {a : Nat} {L : List ByteArray}
theorem ln_full (h : LnAt s a L) (hl : ¬ L.length ≤ 12) : lines s = none := by
  rw [h.same, show 13 - L.length = 0 by omega]; rfl
theorem ln_step (hl : L.length ≤ 12) : ∃ n, 13 - L.length = n + 1 := ⟨12 - L.length, by omega⟩
theorem ln_none (h : LnAt s a L) (hl : L.length ≤ 12) (he : Line.eol s a = none) : lines s = none := by
  obtain ⟨n, hn⟩ := ln_step hl
  rw [h.same, hn, linesGo, he]; rfl
theorem ln_done (h : LnAt s a L) (hl : L.length ≤ 12) (he : Line.eol s a = some a) : lines s = some (L, a + 2) := by
  obtain ⟨n, hn⟩ := ln_step hl
  rw [h.same, hn, linesGo, he]; simp
theorem ln_more (h : LnAt s a L) (hl : L.length ≤ 12) {i : Nat} (he : Line.eol s a = some i) (hi : i ≠ a) : LnAt s (i + 2) (L ++ [s.extract a i]) where
  le := by have := Line.eol_in he; omega
  len := by rw [List.length_append]; simp; omega
  small := by
    intro t ht
    rcases List.mem_append.1 ht with h1 | h1
    · exact h.small t h1
    · obtain rfl := List.mem_singleton.1 h1
      rw [ByteArray.size_extract]; omega
  same := by
    obtain ⟨n, hn⟩ := ln_step hl
    rw [h.same, hn, linesGo, he]
    simp only
    rw [if_neg hi, List.length_append, List.length_singleton, show 13 - (L.length + 1) = n by omega]
    cases linesGo s n (i + 2) <;> simp
end
/-- what is told of the lines -/
def lnL (s : ByteArray) : List ByteArray := match lines s with | some (l, _) => l | none => []
def lnN (s : ByteArray) : Int := match lines s with | some (_, n) => (n : Int) | none => 0
def lnB (s : ByteArray) : Bool := (lines s).isSome
theorem ln_told_none {s : ByteArray} (h : lines s = none) : lnL s = [] ∧ lnN s = 0 ∧ lnB s = false := by unfold lnL lnN lnB; rw [h]; exact ⟨rfl, rfl, rfl⟩
theorem ln_told_some {s : ByteArray} {l : List ByteArray} {n : Nat} (h : lines s = some (l, n)) : lnL s = l ∧ lnN s = (n : Int) ∧ lnB s = true := by unfold lnL lnN lnB; rw [h]; exact ⟨rfl, rfl, rfl⟩
theorem linesGo_len (s : ByteArray) : ∀ (n a : Nat) (p : List ByteArray × Nat), linesGo s n a = some p → p.1.length < n ∧ ∀ t ∈ p.1, t.size ≤ s.size := by
  intro n
  induction n with
  | zero => intro a p h; cases h
  | succ n ih =>
    intro a p h
    rw [linesGo] at h
    cases he : Line.eol s a with
    | none => rw [he] at h; cases h
    | some i =>
      rw [he] at h
      simp only at h
      by_cases hi : i = a
      · rw [if_pos hi] at h; cases h; exact ⟨Nat.zero_lt_succ _, fun t ht => by cases ht⟩
      · rw [if_neg hi] at h
        obtain ⟨q, hq, rfl⟩ := Option.map_eq_some_iff.1 h
        obtain ⟨h1, h2⟩ := ih _ _ hq
        refine ⟨by simp; omega, fun t ht => ?_⟩
        rcases List.mem_cons.1 ht with rfl | h3
        · rw [ByteArray.size_extract]; omega
        · exact h2 t h3
/-- the field of a line -/
def fieldAt (t : ByteArray) : Option Fld := (Line.colon t).map (fieldOf t)
def good (t : ByteArray) : Bool := match fieldAt t with | some f => okF f | none => false
theorem read_lines (s : ByteArray) : ∀ (n a : Nat) (l : List Fld), readGo s n a l = (linesGo s n a).bind fun p => if p.1.all good = true then some (l ++ p.1.filterMap fieldAt, p.2) else none := by
  intro n
  induction n with
  | zero => intro a l; rfl
  | succ n ih =>
    intro a l
    rw [readGo, linesGo]
    cases he : Line.eol s a with
    | none => rfl
    | some i =>
      simp only
      by_cases hi : i = a
      · rw [if_pos hi, if_pos hi]; simp
      · rw [if_neg hi, if_neg hi]
        cases hc : Line.colon (s.extract a i) with
        | none =>
          have hg : good (s.extract a i) = false := by unfold good fieldAt; rw [hc]; rfl
          cases linesGo s n (i + 2) with
          | none => rfl
          | some p => simp [hg]
        | some k =>
          simp only
          have hf : fieldAt (s.extract a i) = some (fieldOf (s.extract a i) k) := by unfold fieldAt; rw [hc]; rfl
          have hg : good (s.extract a i) = okF (fieldOf (s.extract a i) k) := by unfold good; rw [hf]
          cases hok : okF (fieldOf (s.extract a i) k) with
          | false =>
            rw [if_neg (by simp)]
            cases linesGo s n (i + 2) with
            | none => rfl
            | some p => simp [hg, hok]
          | true =>
            rw [if_pos rfl, ih]
            cases linesGo s n (i + 2) with
            | none => rfl
            | some p => simp [hg, hok, hf]
theorem read_of_lines (s : ByteArray) : read s = (lines s).bind fun p => if p.1.all good = true then some (p.1.filterMap fieldAt, p.2) else none := by
  unfold read lines
  rw [read_lines]
  simp
theorem flt_len (L : List ByteArray) : (L.filterMap fieldAt).length ≤ L.length := List.length_filterMap_le _ _
/-- where a line has no field, or one is not right, nothing is read -/
theorem good_short (L : List ByteArray) (h : (L.filterMap fieldAt).length < L.length) : L.all good = false := by
  rw [Bool.eq_false_iff]
  intro ha
  rw [List.all_eq_true] at ha
  have : ∀ (M : List ByteArray), (∀ t ∈ M, good t = true) → (M.filterMap fieldAt).length = M.length := by
    intro M
    induction M with
    | nil => intro _; rfl
    | cons t M ih =>
      intro hM
      have h1 := hM t (List.mem_cons_self ..)
      have h2 := ih (fun u hu => hM u (List.mem_cons_of_mem _ hu))
      unfold good at h1
      cases hf : fieldAt t with
      | none => rw [hf] at h1; cases h1
      | some f => rw [List.filterMap_cons_some hf, List.length_cons, List.length_cons, h2]
  have := this L ha
  omega
theorem good_full (L : List ByteArray) (h : ¬ (L.filterMap fieldAt).length < L.length) : L.all good = (L.filterMap fieldAt).all okF := by
  induction L with
  | nil => rfl
  | cons t M ih =>
    cases hf : fieldAt t with
    | none =>
      rw [List.filterMap_cons_none hf, List.length_cons] at h
      have := flt_len M
      omega
    | some f =>
      rw [List.filterMap_cons_some hf, List.length_cons, List.length_cons] at h
      have hg : good t = okF f := by unfold good; rw [hf]
      rw [List.filterMap_cons_some hf, List.all_cons, List.all_cons, hg, ih (by omega)]
theorem flt_take (L : List ByteArray) (k : Nat) (h : k < L.length) : (L.take (k + 1)).filterMap fieldAt = (L.take k).filterMap fieldAt ++ (match fieldAt L[k] with | some f => [f] | none => []) := by
  rw [List.take_succ_eq_append_getElem h, List.filterMap_append]
  cases hf : fieldAt L[k] with
  | none => rw [List.filterMap_cons_none hf]; rfl
  | some f => rw [List.filterMap_cons_some hf]; rfl
end Flds
end Go.Proofs.YtbcjpjhpobmpbaaGreatDoor
namespace Go.Proofs.YtbcjpjhpobmpbaaGreatDoor
open Go.RowKit
set_option linter.unusedVariables false
namespace Flds

/-- one field more behind a text -/
def showStep (s : ByteArray) (f : Fld) : ByteArray := s ++ f.1 ++ ⟨#[58, 32]⟩ ++ f.2 ++ ⟨#[13, 10]⟩
def showGo (l : List Fld) : ByteArray := l.foldl showStep ⟨#[]⟩
/-- the text of fields; empty where they are not right -/
def shown (l : List Fld) : ByteArray := if ok l = true then showGo l ++ ⟨#[13, 10]⟩ else ⟨#[]⟩
theorem showGo_take (l : List Fld) (k : Nat) (h : k < l.length) : showGo (l.take (k + 1)) = showStep (showGo (l.take k)) l[k] := by
  unfold showGo
  rw [List.take_succ_eq_append_getElem h, List.foldl_append]; rfl
theorem showGo_size (l : List Fld) : (showGo l).size = 4 * l.length + (l.map fun f => f.1.size + f.2.size).sum := by
  refine Num.snoc_ind (P := fun l => (showGo l).size = 4 * l.length + (l.map fun f => f.1.size + f.2.size).sum) rfl ?_ l
  intro l f ih
  have e : showGo (l ++ [f]) = showStep (showGo l) f := by unfold showGo; rw [List.foldl_append]; rfl
  have hz1 : (⟨#[58, 32]⟩ : ByteArray).size = 2 := rfl
  have hz2 : (⟨#[13, 10]⟩ : ByteArray).size = 2 := rfl
  rw [e, List.length_append, List.map_append, List.sum_append]
  unfold showStep
  simp only [ByteArray.size_append, List.length_singleton, List.map_cons, List.map_nil, List.sum_cons, List.sum_nil, hz1, hz2]
  omega

end Flds
end Go.Proofs.YtbcjpjhpobmpbaaGreatDoor
namespace Go.Proofs.YtbcjpjhpobmpbaaGreatDoor
open Go.RowKit
set_option linter.unusedVariables false
namespace Flds

theorem ne_text {x y : ByteArray} (h : ¬ x = y) : (x.toList == y.toList) = false := by
  rw [beq_eq_false_iff_ne, ByteArray.toList_eq, ByteArray.toList_eq]
  intro e; exact h (ByteArray.ext (Array.toList_inj.1 e))
theorem cells_two (w : World) (x y : ByteArray) : ∀ j u, [Value.string x, Value.string y][j]? = some u → (w.alloc (.cells #[.string x, .string y] 47)).cell? ((⟨w.heap.size, 0, none⟩ : Addr).add j) = some u := by
  intro j u hj
  match j, hj with
  | 0, hj => simp at hj; subst hj; simp [Addr.add]
  | 1, hj => simp at hj; subst hj; simp [Addr.add]
theorem two_ok (x y : ByteArray) : ∀ u ∈ [Value.string x, Value.string y], u.oneCell' = true := by
  intro u hu; simp at hu; rcases hu with rfl | rfl <;> rfl
theorem put_more {w wr w2 : World} {B : Nat} {v v' : Value} {l : List Fld} {x y : ByteArray} (hB : B ≤ wr.heap.size) (ho : Own B wr v l) (hb : Below B w wr)
    (ho2 : w2.ownsRow B 47 2 v' (l.length + 1) (l.flatMap cells ++ [.string x, .string y])) (hg : (wr.alloc (.cells #[.string x, .string y] 47)).grownBy w2 v.ownBlock) : Own B w2 v' (l ++ [(x, y)]) ∧ Below B w w2 :=
  ⟨Recs.own_snoc ho2, (hb.alloc hB _).grown hg (by simp; omega) (fun j hj => (Recs.own_lt ho j hj).1)⟩
theorem made_nil (w : World) : Own w.heap.size (w.alloc (.cells #[] 47)) (.slice (some ⟨w.heap.size, 0, none⟩) 0 0) [] := World.ownsRow_made w #[] 0 (Nat.le_refl _) (Nat.zero_le _) rfl
theorem two_cells {w : World} {g : Nat} {x y : Value} {T : TypeId} (h : w.heap[g]? = some (.cells #[x, y] T (0, 0))) : w.cell? ⟨g, 0, none⟩ = some x ∧ w.cell? ⟨g, 1, none⟩ = some y ∧ w.frozen? ⟨g, 0, none⟩ = false ∧ w.frozen? ⟨g, 1, none⟩ = false :=
  ⟨by rw [cell_of_row w g _ _ _ _ h]; rfl, by rw [cell_of_row w g _ _ _ _ h]; rfl, frozen_of_row w g 0 _ _ h, frozen_of_row w g 1 _ _ h⟩
theorem box_first {W : World} {g : Nat} {x y : ByteArray} {u : Value} (h : W.cell? ⟨g, 0, none⟩ = some u) : ((W.setCell ⟨g, 0, none⟩ (.string x)).setCell ⟨g, 1, none⟩ (.string y)).cell? ⟨g, 0, none⟩ = some (.string x) := by
  rw [World.cell?_setCell_other (h := by intro e; have e2 : 1 = 0 := congrArg Addr.off e; omega), World.cell?_setCell_same (h := h)]
theorem box_second {W : World} {g : Nat} {x y : ByteArray} {u : Value} (h : W.cell? ⟨g, 1, none⟩ = some u) : ((W.setCell ⟨g, 0, none⟩ (.string x)).setCell ⟨g, 1, none⟩ (.string y)).cell? ⟨g, 1, none⟩ = some (.string y) := by
  exact World.cell?_setCell_same _ _ _ (by rw [World.cell?_setCell_other (h := by intro e; have e2 : 0 = 1 := congrArg Addr.off e; omega)]; exact h)

end Flds
end Go.Proofs.YtbcjpjhpobmpbaaGreatDoor
namespace Go.Proofs.YtbcjpjhpobmpbaaGreatDoor
open Go.RowKit
set_option linter.unusedVariables false
namespace Flds

/-- those of another name -/
def drop (l : List Fld) (name : ByteArray) : List Fld := l.filter fun f => decide (¬ f.1 = name)
theorem drop_take (l : List Fld) (name : ByteArray) (k : Nat) (h : k < l.length) : drop (l.take (k + 1)) name = drop (l.take k) name ++ (if l[k].1 = name then [] else [l[k]]) := by
  unfold drop
  rw [List.take_succ_eq_append_getElem h, List.filter_append]
  by_cases e : l[k].1 = name
  · rw [if_pos e]; simp [e]
  · rw [if_neg e]; simp [e]
theorem drop_length (l : List Fld) (name : ByteArray) : (drop l name).length ≤ l.length := List.length_filter_le _ _
/-- one field more, as it is set -/
def setStep (name value : ByteArray) (r : List Fld × Bool) (f : Fld) : List Fld × Bool :=
  if f.1 = name then (if r.2 = true then r else (r.1 ++ [(name, value)], true)) else (r.1 ++ [f], r.2)
def setGo (l : List Fld) (name value : ByteArray) : List Fld × Bool := l.foldl (setStep name value) ([], false)
/-- the first of that name has the value, others of it are gone; else it is put behind all -/
def set (l : List Fld) (name value : ByteArray) : List Fld := if (setGo l name value).2 = true then (setGo l name value).1 else (setGo l name value).1 ++ [(name, value)]
theorem setGo_take (l : List Fld) (name value : ByteArray) (k : Nat) (h : k < l.length) : setGo (l.take (k + 1)) name value = setStep name value (setGo (l.take k) name value) l[k] := by
  unfold setGo
  rw [List.take_succ_eq_append_getElem h, List.foldl_append]; rfl
theorem setGo_length (l : List Fld) (name value : ByteArray) : (setGo l name value).1.length ≤ l.length := by
  refine Num.snoc_ind (P := fun l => (setGo l name value).1.length ≤ l.length) (by simp [setGo]) ?_ l
  intro l f ih
  have e : setGo (l ++ [f]) name value = setStep name value (setGo l name value) f := by unfold setGo; rw [List.foldl_append]; rfl
  rw [e, List.length_append]
  unfold setStep
  split
  · split
    · simp; omega
    · simp; omega
  · simp; omega
theorem set_length (l : List Fld) (name value : ByteArray) : (set l name value).length ≤ l.length + 1 := by
  have := setGo_length l name value
  unfold set
  split
  · omega
  · rw [List.length_append]; simp; omega
end Flds
end Go.Proofs.YtbcjpjhpobmpbaaGreatDoor
