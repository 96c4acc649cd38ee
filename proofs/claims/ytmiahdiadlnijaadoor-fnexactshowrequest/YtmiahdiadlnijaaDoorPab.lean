/-
  LineDef: The line at a place, and the first colon, plain.
  FldReadNum: Fields read off a text, plain.
  LineNum: Lines and colons, plain: where Cut finds a line's end, a colon; the line of a text that is put together.
-/
import Derived.Test.YtmiahdiadlnijaaDoorPaa
import Derived.Test.YtmiahdiadlnijaaDoorFldsOkSpec
import Derived.Test.YtmiahdiadlnijaaDoorTrimSpec
import Derived.Lib.CutLaws
import Derived.Lib.Strings
namespace Go.Proofs.YtmiahdiadlnijaaDoor
set_option linter.unusedVariables false
namespace Line

/-- the first end of a line from i on, within n places -/
def eolGo (s : ByteArray) : Nat → Nat → Option Nat
  | 0, _ => none
  | n + 1, i => if byteAt s i = 13 ∧ byteAt s (i + 1) = 10 then some i else eolGo s n (i + 1)
/-- where the line at 'a' ends -/
def eol (s : ByteArray) (a : Nat) : Option Nat := eolGo s (s.size - a) a
theorem eolGo_in (s : ByteArray) : ∀ (n i k : Nat), eolGo s n i = some k → i ≤ k ∧ k + 1 < s.size := by
  intro n
  induction n with
  | zero => intro i k h; cases h
  | succ n ih =>
    intro i k h
    unfold eolGo at h
    split at h
    · next hc =>
      cases h
      refine ⟨Nat.le_refl _, ?_⟩
      by_cases hz : i + 1 < s.size
      · exact hz
      · exfalso; have := hc.2; unfold byteAt at this; rw [dif_neg hz] at this; omega
    · have := ih (i + 1) k h; omega
theorem eol_in {s : ByteArray} {a k : Nat} (h : eol s a = some k) : a ≤ k ∧ k + 1 < s.size := eolGo_in s _ a k h
theorem eol_hit (s : ByteArray) (i : Nat) (h : i + 1 < s.size) (h1 : (s[i]'(by omega)).toNat = 13) (h2 : (s[i + 1]).toNat = 10) : eol s i = some i := by
  unfold eol
  obtain ⟨n, hn⟩ : ∃ n, s.size - i = n + 1 := ⟨s.size - i - 1, by omega⟩
  rw [hn, eolGo, if_pos ⟨by rw [byteAt_eq s i (by omega)]; exact h1, by rw [byteAt_eq s (i + 1) h]; exact h2⟩]
theorem eol_next (s : ByteArray) (i : Nat) (h : i + 1 < s.size) (hn : ¬ ((s[i]'(by omega)).toNat = 13 ∧ (s[i + 1]).toNat = 10)) : eol s i = eol s (i + 1) := by
  unfold eol
  obtain ⟨n, e⟩ : ∃ n, s.size - i = n + 1 := ⟨s.size - i - 1, by omega⟩
  rw [e, eolGo, if_neg (by rw [byteAt_eq s i (by omega), byteAt_eq s (i + 1) h]; exact hn), show s.size - (i + 1) = n by omega]
theorem eol_end (s : ByteArray) (i : Nat) (h : s.size ≤ i + 1) : eol s i = none := by
  cases e : eol s i with
  | none => rfl
  | some k => have := eol_in e; omega
/-- what the call tells -/
def lineOf (s : ByteArray) (a : Nat) : ByteArray × Int := match eol s a with | some k => (s.extract a k, (k : Int) + 2) | none => (⟨#[]⟩, -1)
/-- the first colon from i on, within n places -/
def colonGo (s : ByteArray) : Nat → Nat → Option Nat
  | 0, _ => none
  | n + 1, i => if byteAt s i = 58 then some i else colonGo s n (i + 1)
def colon (s : ByteArray) : Option Nat := colonGo s s.size 0
theorem colonGo_in (s : ByteArray) : ∀ (n i k : Nat), colonGo s n i = some k → i ≤ k ∧ k < s.size := by
  intro n
  induction n with
  | zero => intro i k h; cases h
  | succ n ih =>
    intro i k h
    unfold colonGo at h
    split at h
    · next hc =>
      cases h
      refine ⟨Nat.le_refl _, ?_⟩
      by_cases hz : i < s.size
      · exact hz
      · exfalso; unfold byteAt at hc; rw [dif_neg hz] at hc; omega
    · have := ih (i + 1) k h; omega
theorem colon_in {s : ByteArray} {k : Nat} (h : colon s = some k) : k < s.size := (colonGo_in s _ 0 k h).2
def colonOf (s : ByteArray) : Int := match colon s with | some k => (k : Int) | none => -1
end Line
end Go.Proofs.YtmiahdiadlnijaaDoor
namespace Go.Proofs.YtmiahdiadlnijaaDoor
open Go.RowKit
set_option linter.unusedVariables false
set_option linter.unusedSimpArgs false
namespace Flds

/-- the field of a line, where a colon stands at k -/
def fieldOf (line : ByteArray) (k : Nat) : Fld := (Sign.lower (line.extract 0 k), Sign.trim (line.extract (k + 1) line.size))
/-- what is read from 'a' on behind the fields l, in at most so many lines: the fields and the next place -/
def readGo (s : ByteArray) : Nat → Nat → List Fld → Option (List Fld × Nat)
  | 0, _, _ => none
  | n + 1, a, l =>
    match Line.eol s a with
    | none => none
    | some i => if i = a then some (l, i + 2) else
      match Line.colon (s.extract a i) with
      | none => none
      | some k => if okF (fieldOf (s.extract a i) k) = true then readGo s n (i + 2) (l ++ [fieldOf (s.extract a i) k]) else none
/-- the fields and the place behind them -/
def read (s : ByteArray) : Option (List Fld × Nat) := readGo s 13 0 []
/-- where the reading stands -/
structure RdAt (s : ByteArray) (a : Nat) (l : List Fld) : Prop where
  le : a ≤ s.size
  len : l.length ≤ 13
  all : l.all okF = true
  same : read s = readGo s (13 - l.length) a l
  small : ∀ f ∈ l, f.1.size ≤ 60 ∧ f.2.size ≤ 60
theorem rd_start (s : ByteArray) : RdAt s 0 [] := ⟨Nat.zero_le _, Nat.zero_le _, rfl, rfl, fun f hf => by cases hf⟩
theorem okF_small {f : Fld} (h : okF f = true) : f.1.size ≤ 60 ∧ f.2.size ≤ 60 := by
  unfold okF at h
  simp only [Bool.and_eq_true, decide_eq_true_iff] at h
  omega
section
variable {s : ByteArray} {a : Nat} {l : List Fld}
theorem rd_full (h : RdAt s a l) (hl : ¬ l.length ≤ 12) : read s = none := by
  rw [h.same, show 13 - l.length = 0 by omega]; rfl
theorem rd_step (h : RdAt s a l) (hl : l.length ≤ 12) : ∃ n, 13 - l.length = n + 1 := ⟨12 - l.length, by omega⟩
theorem rd_none (h : RdAt s a l) (hl : l.length ≤ 12) (he : Line.eol s a = none) : read s = none := by
  obtain ⟨n, hn⟩ := rd_step h hl
  rw [h.same, hn, readGo, he]
theorem rd_done (h : RdAt s a l) (hl : l.length ≤ 12) (he : Line.eol s a = some a) : read s = some (l, a + 2) := by
  obtain ⟨n, hn⟩ := rd_step h hl
  rw [h.same, hn, readGo, he]; simp
theorem rd_nocolon (h : RdAt s a l) (hl : l.length ≤ 12) {i : Nat} (he : Line.eol s a = some i) (hi : i ≠ a) (hc : Line.colon (s.extract a i) = none) : read s = none := by
  obtain ⟨n, hn⟩ := rd_step h hl
  rw [h.same, hn, readGo, he]; simp only; rw [if_neg hi, hc]
theorem rd_bad (h : RdAt s a l) (hl : l.length ≤ 12) {i k : Nat} (he : Line.eol s a = some i) (hi : i ≠ a) (hc : Line.colon (s.extract a i) = some k) (hf : okF (fieldOf (s.extract a i) k) = false) : read s = none := by
  obtain ⟨n, hn⟩ := rd_step h hl
  rw [h.same, hn, readGo, he]; simp only; rw [if_neg hi, hc]; simp only; rw [if_neg (by rw [hf]; decide)]
theorem rd_more (h : RdAt s a l) (hl : l.length ≤ 12) {i k : Nat} (he : Line.eol s a = some i) (hi : i ≠ a) (hc : Line.colon (s.extract a i) = some k) (hf : okF (fieldOf (s.extract a i) k) = true) : RdAt s (i + 2) (l ++ [fieldOf (s.extract a i) k]) where
  le := by have := Line.eol_in he; omega
  len := by rw [List.length_append]; simp; omega
  all := by rw [List.all_append, h.all]; simp [hf]
  same := by
    obtain ⟨n, hn⟩ := rd_step h hl
    rw [h.same, hn, readGo, he]; simp only; rw [if_neg hi, hc]; simp only; rw [if_pos hf, List.length_append, List.length_singleton, show 13 - (l.length + 1) = n by omega]
  small := by
    intro f hf2
    rcases List.mem_append.1 hf2 with h1 | h1
    · exact h.small f h1
    · obtain rfl := List.mem_singleton.1 h1
      exact okF_small hf
theorem rd_ok (h : RdAt s a l) (hl : l.length ≤ 12) : ok l = true := by unfold ok; rw [h.all, Bool.true_and]; exact decide_eq_true hl
end
/-- what the call tells: the fields, how many bytes, and whether there were any to be read -/
def readL (s : ByteArray) : List Fld := match read s with | some (l, _) => l | none => []
def readN (s : ByteArray) : Int := match read s with | some (_, n) => (n : Int) | none => 0
def readB (s : ByteArray) : Bool := (read s).isSome
theorem told_none {s : ByteArray} (h : read s = none) : readL s = [] ∧ readN s = 0 ∧ readB s = false := by unfold readL readN readB; rw [h]; exact ⟨rfl, rfl, rfl⟩
theorem told_some {s : ByteArray} {l : List Fld} {n : Nat} (h : read s = some (l, n)) : readL s = l ∧ readN s = (n : Int) ∧ readB s = true := by unfold readL readN readB; rw [h]; exact ⟨rfl, rfl, rfl⟩
theorem readGo_length (s : ByteArray) : ∀ (n a : Nat) (l : List Fld) (p : List Fld × Nat), readGo s n a l = some p → p.1.length ≤ l.length + n := by
  intro n
  induction n with
  | zero => intro a l p h; cases h
  | succ n ih =>
    intro a l p h
    rw [readGo] at h
    cases he : Line.eol s a with
    | none => rw [he] at h; cases h
    | some i =>
      rw [he] at h
      simp only at h
      by_cases hi : i = a
      · rw [if_pos hi] at h; cases h; simp only; omega
      · rw [if_neg hi] at h
        cases hc : Line.colon (s.extract a i) with
        | none => rw [hc] at h; cases h
        | some k =>
          rw [hc] at h
          simp only at h
          by_cases hk : okF (fieldOf (s.extract a i) k) = true
          · rw [if_pos hk] at h
            have := ih _ _ _ h
            rw [List.length_append, List.length_singleton] at this
            omega
          · rw [if_neg hk] at h; cases h
theorem readL_length (s : ByteArray) : (readL s).length ≤ 13 := by
  unfold readL
  cases h : read s with
  | none => exact Nat.zero_le _
  | some p =>
    have := readGo_length s _ _ _ _ h
    rw [List.length_nil] at this
    obtain ⟨l, n⟩ := p
    simp only at this ⊢
    omega
end Flds
end Go.Proofs.YtmiahdiadlnijaaDoor
namespace Go.Proofs.YtmiahdiadlnijaaDoor
open Go.RowKit
set_option linter.unusedVariables false
namespace Line

theorem byteAt_list (s : ByteArray) (i : Nat) (h : i < s.size) : ∃ b, s.data.toList.drop i = b :: s.data.toList.drop (i + 1) ∧ byteAt s i = b.toNat := by
  have h2 : i < s.data.toList.length := by simpa using h
  refine ⟨s.data.toList[i], List.drop_eq_getElem_cons h2, ?_⟩
  rw [byteAt_eq s i h]; rfl
theorem drop_end (s : ByteArray) (i : Nat) (h : s.size ≤ i) : s.data.toList.drop i = [] := List.drop_eq_nil_of_le (by simpa using h)
/-- what Index tells of an end of a line -/
def eolI (r : Option Nat) (i : Nat) : Int := match r with | some k => (k : Int) - (i : Int) | none => -1
theorem index_eolGo (s : ByteArray) : ∀ (n i : Nat), n = s.size - i → Lib.index (s.data.toList.drop i) [13, 10] = eolI (eolGo s n i) i := by
  intro n
  induction n with
  | zero => intro i h; rw [drop_end s i (by omega)]; rfl
  | succ n ih =>
    intro i h
    obtain ⟨b, e, hb⟩ := byteAt_list s i (by omega)
    have ih2 := ih (i + 1) (by omega)
    rw [e]
    unfold Lib.index eolGo
    rw [ih2]
    by_cases hc : byteAt s i = 13 ∧ byteAt s (i + 1) = 10
    · rw [if_pos hc, if_pos]
      · show (0 : Int) = (i : Int) - (i : Int); omega
      · have h13 : b = 13 := by rw [← UInt8.toNat_inj, ← hb]; exact hc.1
        have hlt : i + 1 < s.size := by
          by_cases hz : i + 1 < s.size
          · exact hz
          · exfalso; have := hc.2; unfold byteAt at this; rw [dif_neg hz] at this; omega
        obtain ⟨b2, e2, hb2⟩ := byteAt_list s (i + 1) hlt
        have h10 : b2 = 10 := by rw [← UInt8.toNat_inj, ← hb2]; exact hc.2
        rw [e2, h13, h10]; rfl
    · rw [if_neg hc, if_neg]
      · cases hg : eolGo s n (i + 1) with
        | none => rfl
        | some k =>
          have := eolGo_in s _ _ _ hg
          show (if ((k : Int) - ((i + 1 : Nat) : Int) == -1) = true then (-1 : Int) else (k : Int) - ((i + 1 : Nat) : Int) + 1) = (k : Int) - (i : Int)
          rw [if_neg (by rw [beq_iff_eq]; omega)]; omega
      · intro hp
        apply hc
        by_cases hlt : i + 1 < s.size
        · obtain ⟨b2, e2, hb2⟩ := byteAt_list s (i + 1) hlt
          rw [e2] at hp
          simp only [List.isPrefixOf, Bool.and_eq_true, beq_iff_eq, and_true] at hp
          exact ⟨by rw [hb, ← hp.1]; rfl, by rw [hb2, ← hp.2]; rfl⟩
        · rw [drop_end s (i + 1) (by omega)] at hp
          simp [List.isPrefixOf] at hp
theorem extract_list (s : ByteArray) (a : Nat) : (s.extract a s.size).data.toList = s.data.toList.drop a := by
  rw [Lib.extract_data]
  exact List.take_of_length_le (by rw [List.length_drop, ← Lib.size_eq]; exact Nat.le_refl _)
theorem index_eol (s : ByteArray) (a : Nat) : Lib.indexB (s.extract a s.size) ⟨#[13, 10]⟩ = eolI (eol s a) a := by
  show Lib.index (s.extract a s.size).data.toList [13, 10] = _
  rw [extract_list]
  exact index_eolGo s _ a rfl
def colonI (r : Option Nat) (i : Nat) : Int := match r with | some k => (k : Int) - (i : Int) | none => -1
theorem index_colonGo (s : ByteArray) : ∀ (n i : Nat), n = s.size - i → Lib.index (s.data.toList.drop i) [58] = colonI (colonGo s n i) i := by
  intro n
  induction n with
  | zero => intro i h; rw [drop_end s i (by omega)]; rfl
  | succ n ih =>
    intro i h
    obtain ⟨b, e, hb⟩ := byteAt_list s i (by omega)
    have ih2 := ih (i + 1) (by omega)
    rw [e]
    unfold Lib.index colonGo
    rw [ih2]
    by_cases hc : byteAt s i = 58
    · rw [if_pos hc, if_pos]
      · show (0 : Int) = (i : Int) - (i : Int); omega
      · have h58 : b = 58 := by rw [← UInt8.toNat_inj, ← hb]; exact hc
        rw [h58]; rfl
    · rw [if_neg hc, if_neg]
      · cases hg : colonGo s n (i + 1) with
        | none => rfl
        | some k =>
          have := colonGo_in s _ _ _ hg
          show (if ((k : Int) - ((i + 1 : Nat) : Int) == -1) = true then (-1 : Int) else (k : Int) - ((i + 1 : Nat) : Int) + 1) = (k : Int) - (i : Int)
          rw [if_neg (by rw [beq_iff_eq]; omega)]; omega
      · intro hp
        apply hc
        simp only [List.isPrefixOf, Bool.and_eq_true, beq_iff_eq, and_true] at hp
        rw [hb, ← hp]; rfl
theorem index_colon (s : ByteArray) : Lib.indexB s ⟨#[58]⟩ = colonI (colon s) 0 := by
  show Lib.index s.data.toList [58] = _
  have := index_colonGo s s.size 0 rfl
  rw [List.drop_zero] at this
  exact this
/-- what Cut tells at a line's end -/
theorem cut_none {s : ByteArray} {a : Nat} (h : eol s a = none) : (⟨(Lib.cut (s.extract a s.size).data.toList (⟨#[13, 10]⟩ : ByteArray).data.toList).1.toArray⟩ : ByteArray) = s.extract a s.size ∧ (⟨(Lib.cut (s.extract a s.size).data.toList (⟨#[13, 10]⟩ : ByteArray).data.toList).2.1.toArray⟩ : ByteArray) = ByteArray.empty ∧ (Lib.cut (s.extract a s.size).data.toList (⟨#[13, 10]⟩ : ByteArray).data.toList).2.2 = false :=
  Lib.cutB_miss _ _ (by rw [index_eol, h]; rfl)
theorem ext_ext (s : ByteArray) (a i : Nat) (h1 : a ≤ i) (h2 : i ≤ s.size) : (s.extract a s.size).extract 0 (i - a) = s.extract a i := by
  rw [ByteArray.extract_extract, Nat.add_zero]
  congr 1
  omega
theorem cut_some {s : ByteArray} {a i : Nat} (h : eol s a = some i) : (⟨(Lib.cut (s.extract a s.size).data.toList (⟨#[13, 10]⟩ : ByteArray).data.toList).1.toArray⟩ : ByteArray) = s.extract a i ∧ (Lib.cut (s.extract a s.size).data.toList (⟨#[13, 10]⟩ : ByteArray).data.toList).2.2 = true := by
  have hin := eol_in h
  obtain ⟨h1, _, h3⟩ := Lib.cutB_hit (s.extract a s.size) ⟨#[13, 10]⟩ (i - a) (by rw [index_eol, h]; show (i : Int) - (a : Int) = ((i - a : Nat) : Int); omega)
  exact ⟨h1.trans (ext_ext s a i hin.1 (by omega)), h3⟩
theorem cutc_none {s : ByteArray} (h : colon s = none) : (⟨(Lib.cut s.data.toList (⟨#[58]⟩ : ByteArray).data.toList).1.toArray⟩ : ByteArray) = s ∧ (⟨(Lib.cut s.data.toList (⟨#[58]⟩ : ByteArray).data.toList).2.1.toArray⟩ : ByteArray) = ByteArray.empty ∧ (Lib.cut s.data.toList (⟨#[58]⟩ : ByteArray).data.toList).2.2 = false :=
  Lib.cutB_miss _ _ (by rw [index_colon, h]; rfl)
theorem cutc_some {s : ByteArray} {k : Nat} (h : colon s = some k) : (⟨(Lib.cut s.data.toList (⟨#[58]⟩ : ByteArray).data.toList).1.toArray⟩ : ByteArray) = s.extract 0 k ∧ (⟨(Lib.cut s.data.toList (⟨#[58]⟩ : ByteArray).data.toList).2.1.toArray⟩ : ByteArray) = s.extract (k + 1) s.size ∧ (Lib.cut s.data.toList (⟨#[58]⟩ : ByteArray).data.toList).2.2 = true :=
  Lib.cutB_hit s ⟨#[58]⟩ k (by rw [index_colon, h]; show (k : Int) - ((0 : Nat) : Int) = (k : Int); omega)
theorem index_line (t q : List UInt8) (h : ∀ b ∈ t, ¬ b = 13) : Lib.index (t ++ 13 :: 10 :: q) [13, 10] = (t.length : Int) := by
  induction t with
  | nil => simp [Lib.index, List.isPrefixOf]
  | cons b t ih =>
    have hb : ¬ b = 13 := h b (List.mem_cons_self ..)
    have ih2 := ih (fun c hc => h c (List.mem_cons_of_mem _ hc))
    rw [List.cons_append, Lib.index, ih2]
    rw [if_neg, if_neg]
    · rw [List.length_cons]; omega
    · rw [beq_iff_eq]; omega
    · simp only [List.isPrefixOf, Bool.and_eq_true, beq_iff_eq]
      exact fun h => hb h.1.symm
theorem index_col (t q : List UInt8) (h : ∀ b ∈ t, ¬ b = 58) : Lib.index (t ++ 58 :: q) [58] = (t.length : Int) := by
  induction t with
  | nil => simp [Lib.index, List.isPrefixOf]
  | cons b t ih =>
    have hb : ¬ b = 58 := h b (List.mem_cons_self ..)
    have ih2 := ih (fun c hc => h c (List.mem_cons_of_mem _ hc))
    rw [List.cons_append, Lib.index, ih2]
    rw [if_neg, if_neg]
    · rw [List.length_cons]; omega
    · rw [beq_iff_eq]; omega
    · simp only [List.isPrefixOf, Bool.and_eq_true, beq_iff_eq]
      exact fun h => hb h.1.symm
theorem eol_line (T : ByteArray) (p t q : List UInt8) (hT : T.data.toList = p ++ (t ++ 13 :: 10 :: q)) (h : ∀ b ∈ t, ¬ b = 13) : eol T p.length = some (p.length + t.length) ∧ T.extract p.length (p.length + t.length) = ⟨t.toArray⟩ := by
  have hi := index_eolGo T _ p.length rfl
  rw [hT, List.drop_left, index_line t q h] at hi
  constructor
  · show eolGo T _ _ = _
    cases he : eolGo T (T.size - p.length) p.length with
    | none => rw [he] at hi; unfold eolI at hi; simp only at hi; omega
    | some k => rw [he] at hi; unfold eolI at hi; simp only at hi; congr 1; omega
  · apply ByteArray.ext
    apply Array.toList_inj.1
    rw [ByteArray.data_extract, Array.toList_extract, List.extract_eq_drop_take', hT]
    rw [List.take_append, List.drop_append]
    simp
theorem colon_line (x : ByteArray) (q : List UInt8) (h : ∀ b ∈ x.data.toList, ¬ b = 58) : colon ⟨(x.data.toList ++ 58 :: q).toArray⟩ = some x.size := by
  have hi := index_colonGo ⟨(x.data.toList ++ 58 :: q).toArray⟩ _ 0 rfl
  rw [List.drop_zero, List.toList_toArray, index_col _ q h] at hi
  show colonGo _ _ _ = _
  rw [Nat.sub_zero] at hi
  cases he : colonGo ⟨(x.data.toList ++ 58 :: q).toArray⟩ (ByteArray.size ⟨(x.data.toList ++ 58 :: q).toArray⟩) 0 with
  | none => rw [he] at hi; unfold colonI at hi; simp only at hi; omega
  | some k =>
    rw [he] at hi; unfold colonI at hi; simp only at hi
    have e : x.data.toList.length = x.size := by rw [Array.length_toList]; rfl
    congr 1; omega
end Line
end Go.Proofs.YtmiahdiadlnijaaDoor
