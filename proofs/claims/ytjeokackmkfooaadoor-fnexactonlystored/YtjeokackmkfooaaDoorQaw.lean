/-
  LineNum: Lines and colons, plain: where Cut finds a line's end, a colon; the line of a text that is put together.
-/
import Derived.Test.YtjeokackmkfooaaDoorQav
import Derived.Lib.CutLaws
import Derived.Lib.Strings
namespace Go.Proofs.YtjeokackmkfooaaDoor
open Go.RowKit
set_option linter.unusedVariables false
namespace Line

theorem byteAt_list (s : ByteArray) (i : Nat) (h : i < s.size) : ∃ b, s.data.toList.drop i = b :: s.data.toList.drop (i + 1) ∧ byteAt s i = b.toNat := by
  have h2 : i < s.data.toList.length := by simpa using h
  refine ⟨s.data.toList[i], List.drop_eq_getElem_cons h2, ?_⟩
  rw [byteAt_eq s i h]; rfl
theorem drop_end (s : ByteArray) (i : Nat) (h : s.size ≤ i) : s.data.toList.drop i = [] := List.drop_eq_nil_of_le (by simpa using h)
/-- what Index tells of an end of a line -/
def eolI (r : Option Nat) (i : Nat) : Int := match r with | some k => (k : Int) - (i : Int) | none => -1
theorem index_eolGo (s : ByteArray) : ∀ (n i : Nat), n = s.size - i → Lib.index (s.data.toList.drop i) [13, 10] = eolI (eolGo s n i) i := by
  intro n
  induction n with
  | zero => intro i h; rw [drop_end s i (by omega)]; rfl
  | succ n ih =>
    intro i h
    obtain ⟨b, e, hb⟩ := byteAt_list s i (by omega)
    have ih2 := ih (i + 1) (by omega)
    rw [e]
    unfold Lib.index eolGo
    rw [ih2]
    by_cases hc : byteAt s i = 13 ∧ byteAt s (i + 1) = 10
    · rw [if_pos hc, if_pos]
      · show (0 : Int) = (i : Int) - (i : Int); omega
      · have h13 : b = 13 := by rw [← UInt8.toNat_inj, ← hb]; exact hc.1
        have hlt : i + 1 < s.size := by
          by_cases hz : i + 1 < s.size
          · exact hz
          · exfalso; have := hc.2; unfold byteAt at this; rw [dif_neg hz] at this; omega
        obtain ⟨b2, e2, hb2⟩ := byteAt_list s (i + 1) hlt
        have h10 : b2 = 10 := by rw [← UInt8.toNat_inj, ← hb2]; exact hc.2
        rw [e2, h13, h10]; rfl
    · rw [if_neg hc, if_neg]
      · cases hg : eolGo s n (i + 1) with
        | none => rfl
        | some k =>
          have := eolGo_in s _ _ _ hg
          show (if ((k : Int) - ((i + 1 : Nat) : Int) == -1) = true then (-1 : Int) else (k : Int) - ((i + 1 : Nat) : Int) + 1) = (k : Int) - (i : Int)
          rw [if_neg (by rw [beq_iff_eq]; omega)]; omega
      · intro hp
        apply hc
        by_cases hlt : i + 1 < s.size
        · obtain ⟨b2, e2, hb2⟩ := byteAt_list s (i + 1) hlt
          rw [e2] at hp
          simp only [List.isPrefixOf, Bool.and_eq_true, beq_iff_eq, and_true] at hp
          exact ⟨by rw [hb, ← hp.1]; rfl, by rw [hb2, ← hp.2]; rfl⟩
        · rw [drop_end s (i + 1) (by omega)] at hp
          simp [List.isPrefixOf] at hp
theorem extract_list (s : ByteArray) (a : Nat) : (s.extract a s.size).data.toList = s.data.toList.drop a := by
  rw [Lib.extract_data]
  exact List.take_of_length_le (by rw [List.length_drop, ← Lib.size_eq]; exact Nat.le_refl _)
theorem index_eol (s : ByteArray) (a : Nat) : Lib.indexB (s.extract a s.size) ⟨#[13, 10]⟩ = eolI (eol s a) a := by
  show Lib.index (s.extract a s.size).data.toList [13, 10] = _
  rw [extract_list]
  exact index_eolGo s _ a rfl
def colonI (r : Option Nat) (i : Nat) : Int := match r with | some k => (k : Int) - (i : Int) | none => -1
theorem index_colonGo (s : ByteArray) : ∀ (n i : Nat), n = s.size - i → Lib.index (s.data.toList.drop i) [58] = colonI (colonGo s n i) i := by
  intro n
  induction n with
  | zero => intro i h; rw [drop_end s i (by omega)]; rfl
  | succ n ih =>
    intro i h
    obtain ⟨b, e, hb⟩ := byteAt_list s i (by omega)
    have ih2 := ih (i + 1) (by omega)
    rw [e]
    unfold Lib.index colonGo
    rw [ih2]
    by_cases hc : byteAt s i = 58
    · rw [if_pos hc, if_pos]
      · show (0 : Int) = (i : Int) - (i : Int); omega
      · have h58 : b = 58 := by rw [← UInt8.toNat_inj, ← hb]; exact hc
        rw [h58]; rfl
    · rw [if_neg hc, if_neg]
      · cases hg : colonGo s n (i + 1) with
        | none => rfl
        | some k =>
          have := colonGo_in s _ _ _ hg
          show (if ((k : Int) - ((i + 1 : Nat) : Int) == -1) = true then (-1 : Int) else (k : Int) - ((i + 1 : Nat) : Int) + 1) = (k : Int) - (i : Int)
          rw [if_neg (by rw [beq_iff_eq]; omega)]; omega
      · intro hp
        apply hc
        simp only [List.isPrefixOf, Bool.and_eq_true, beq_iff_eq, and_true] at hp
        rw [hb, ← hp]; rfl
theorem index_colon (s : ByteArray) : Lib.indexB s ⟨#[58]⟩ = colonI (colon s) 0 := by
  show Lib.index s.data.toList [58] = _
  have := index_colonGo s s.size 0 rfl
  rw [List.drop_zero] at this
  exact this
/-- what Cut tells at a line's end -/
theorem cut_none {s : ByteArray} {a : Nat} (h : eol s a = none) : (⟨(Lib.cut (s.extract a s.size).data.toList (⟨#[13, 10]⟩ : ByteArray).data.toList).1.toArray⟩ : ByteArray) = s.extract a s.size ∧ (⟨(Lib.cut (s.extract a s.size).data.toList (⟨#[13, 10]⟩ : ByteArray).data.toList).2.1.toArray⟩ : ByteArray) = ByteArray.empty ∧ (Lib.cut (s.extract a s.size).data.toList (⟨#[13, 10]⟩ : ByteArray).data.toList).2.2 = false :=
  Lib.cutB_miss _ _ (by rw [index_eol, h]; rfl)
theorem ext_ext (s : ByteArray) (a i : Nat) (h1 : a ≤ i) (h2 : i ≤ s.size) : (s.extract a s.size).extract 0 (i - a) = s.extract a i := by
  rw [ByteArray.extract_extract, Nat.add_zero]
  congr 1
  omega
theorem cut_some {s : ByteArray} {a i : Nat} (h : eol s a = some i) : (⟨(Lib.cut (s.extract a s.size).data.toList (⟨#[13, 10]⟩ : ByteArray).data.toList).1.toArray⟩ : ByteArray) = s.extract a i ∧ (Lib.cut (s.extract a s.size).data.toList (⟨#[13, 10]⟩ : ByteArray).data.toList).2.2 = true := by
  have hin := eol_in h
  obtain ⟨h1, _, h3⟩ := Lib.cutB_hit (s.extract a s.size) ⟨#[13, 10]⟩ (i - a) (by rw [index_eol, h]; show (i : Int) - (a : Int) = ((i - a : Nat) : Int); omega)
  exact ⟨h1.trans (ext_ext s a i hin.1 (by omega)), h3⟩
theorem cutc_none {s : ByteArray} (h : colon s = none) : (⟨(Lib.cut s.data.toList (⟨#[58]⟩ : ByteArray).data.toList).1.toArray⟩ : ByteArray) = s ∧ (⟨(Lib.cut s.data.toList (⟨#[58]⟩ : ByteArray).data.toList).2.1.toArray⟩ : ByteArray) = ByteArray.empty ∧ (Lib.cut s.data.toList (⟨#[58]⟩ : ByteArray).data.toList).2.2 = false :=
  Lib.cutB_miss _ _ (by rw [index_colon, h]; rfl)
theorem cutc_some {s : ByteArray} {k : Nat} (h : colon s = some k) : (⟨(Lib.cut s.data.toList (⟨#[58]⟩ : ByteArray).data.toList).1.toArray⟩ : ByteArray) = s.extract 0 k ∧ (⟨(Lib.cut s.data.toList (⟨#[58]⟩ : ByteArray).data.toList).2.1.toArray⟩ : ByteArray) = s.extract (k + 1) s.size ∧ (Lib.cut s.data.toList (⟨#[58]⟩ : ByteArray).data.toList).2.2 = true :=
  Lib.cutB_hit s ⟨#[58]⟩ k (by rw [index_colon, h]; show (k : Int) - ((0 : Nat) : Int) = (k : Int); omega)
theorem index_line (t q : List UInt8) (h : ∀ b ∈ t, ¬ b = 13) : Lib.index (t ++ 13 :: 10 :: q) [13, 10] = (t.length : Int) := by
  induction t with
  | nil => simp [Lib.index, List.isPrefixOf]
  | cons b t ih =>
    have hb : ¬ b = 13 := h b (List.mem_cons_self ..)
    have ih2 := ih (fun c hc => h c (List.mem_cons_of_mem _ hc))
    rw [List.cons_append, Lib.index, ih2]
    rw [if_neg, if_neg]
    · rw [List.length_cons]; omega
    · rw [beq_iff_eq]; omega
    · simp only [List.isPrefixOf, Bool.and_eq_true, beq_iff_eq]
      exact fun h => hb h.1.symm
theorem index_col (t q : List UInt8) (h : ∀ b ∈ t, ¬ b = 58) : Lib.index (t ++ 58 :: q) [58] = (t.length : Int) := by
  induction t with
  | nil => simp [Lib.index, List.isPrefixOf]
  | cons b t ih =>
    have hb : ¬ b = 58 := h b (List.mem_cons_self ..)
    have ih2 := ih (fun c hc => h c (List.mem_cons_of_mem _ hc))
    rw [List.cons_append, Lib.index, ih2]
    rw [if_neg, if_neg]
    · rw [List.length_cons]; omega
    · rw [beq_iff_eq]; omega
    · simp only [List.isPrefixOf, Bool.and_eq_true, beq_iff_eq]
      exact fun h => hb h.1.symm
theorem eol_line (T : ByteArray) (p t q : List UInt8) (hT : T.data.toList = p ++ (t ++ 13 :: 10 :: q)) (h : ∀ b ∈ t, ¬ b = 13) : eol T p.length = some (p.length + t.length) ∧ T.extract p.length (p.length + t.length) = ⟨t.toArray⟩ := by
  have hi := index_eolGo T _ p.length rfl
  rw [hT, List.drop_left, index_line t q h] at hi
  constructor
  · show eolGo T _ _ = _
    cases he : eolGo T (T.size - p.length) p.length with
    | none => rw [he] at hi; unfold eolI at hi; simp only at hi; omega
    | some k => rw [he] at hi; unfold eolI at hi; simp only at hi; congr 1; omega
  · apply ByteArray.ext
    apply Array.toList_inj.1
    rw [ByteArray.data_extract, Array.toList_extract, List.extract_eq_drop_take', hT]
    rw [List.take_append, List.drop_append]
    simp
theorem colon_line (x : ByteArray) (q : List UInt8) (h : ∀ b ∈ x.data.toList, ¬ b = 58) : colon ⟨(x.data.toList ++ 58 :: q).toArray⟩ = some x.size := by
  have hi := index_colonGo ⟨(x.data.toList ++ 58 :: q).toArray⟩ _ 0 rfl
  rw [List.drop_zero, List.toList_toArray, index_col _ q h] at hi
  show colonGo _ _ _ = _
  rw [Nat.sub_zero] at hi
  cases he : colonGo ⟨(x.data.toList ++ 58 :: q).toArray⟩ (ByteArray.size ⟨(x.data.toList ++ 58 :: q).toArray⟩) 0 with
  | none => rw [he] at hi; unfold colonI at hi; simp only at hi; omega
  | some k =>
    rw [he] at hi; unfold colonI at hi; simp only at hi
    have e : x.data.toList.length = x.size := by rw [Array.length_toList]; rfl
    congr 1; omega
end Line
end Go.Proofs.YtjeokackmkfooaaDoor
