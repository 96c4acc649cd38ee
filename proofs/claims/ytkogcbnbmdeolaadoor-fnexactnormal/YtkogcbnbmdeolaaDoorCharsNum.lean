/-
  What FnChars asks of texts, plain: a trimmed text is trimmed; blanks around a text are gone; each part of a list is one, and trimmed.
-/
import Derived.Test.YtkogcbnbmdeolaaDoorNormNum
import Derived.Test.YtkogcbnbmdeolaaDoorSecondsNum
import Derived.Test.YtkogcbnbmdeolaaDoorLowerNum
namespace Go.Proofs.YtkogcbnbmdeolaaDoor
open Go.RowKit
set_option linter.unusedVariables false
namespace Norm
open Sign (rest split trim bl)

theorem drop_head : ∀ (l : List UInt8) (c : UInt8) (t : List UInt8), l.dropWhile bl = c :: t → bl c = false := by
  intro l
  induction l with
  | nil => intro c t h; cases h
  | cons d u ih =>
    intro c t h
    by_cases hd : bl d = true
    · rw [List.dropWhile_cons_of_pos hd] at h; exact ih c t h
    · rw [List.dropWhile_cons_of_neg hd] at h
      cases h
      simpa using hd
def trimL (x : List UInt8) : List UInt8 := ((x.dropWhile bl).reverse.dropWhile bl).reverse
theorem trim_list (s : ByteArray) : trim s = ⟨(trimL s.data.toList).toArray⟩ := rfl
/-- a text is blanks, what is trimmed of it, and blanks -/
theorem trim_form (x : List UInt8) : ∃ l r, x = l ++ trimL x ++ r ∧ (∀ b ∈ l, bl b = true) ∧ (∀ b ∈ r, bl b = true) ∧ (trimL x = [] ∨ (∃ c t, trimL x = c :: t ∧ bl c = false) ∧ ∃ t c, trimL x = t ++ [c] ∧ bl c = false) := by
  have e1 : x = x.takeWhile bl ++ x.dropWhile bl := List.takeWhile_append_dropWhile.symm
  have hy := drop_head x
  have hl := all_take x
  unfold trimL
  generalize x.takeWhile bl = l at e1 hl
  generalize x.dropWhile bl = y at e1 hy ⊢
  have e3 : y = (y.reverse.dropWhile bl).reverse ++ (y.reverse.takeWhile bl).reverse := by
    rw [← List.reverse_append, List.takeWhile_append_dropWhile, List.reverse_reverse]
  have hr : ∀ b ∈ (y.reverse.takeWhile bl).reverse, bl b = true := fun b hb => all_take _ b (List.mem_reverse.1 hb)
  have hz := drop_head y.reverse
  generalize hzz : y.reverse.dropWhile bl = z at e3 hz ⊢
  generalize (y.reverse.takeWhile bl).reverse = r at e3 hr
  refine ⟨l, r, by rw [e1, List.append_assoc, ← e3], hl, hr, ?_⟩
  cases z with
  | nil => exact .inl rfl
  | cons c t =>
    refine .inr ⟨?_, t.reverse, c, by rw [List.reverse_cons], hz c t rfl⟩
    cases hzr : (c :: t).reverse with
    | nil => simp at hzr
    | cons d u =>
      rw [hzr, List.cons_append] at e3
      exact ⟨d, u, rfl, hy d _ e3⟩
theorem trimL_of (l m r : List UInt8) (hl : ∀ b ∈ l, bl b = true) (hr : ∀ b ∈ r, bl b = true) (h0 : m = [] ∨ (∃ c t, m = c :: t ∧ bl c = false) ∧ ∃ t c, m = t ++ [c] ∧ bl c = false) : trimL (l ++ m ++ r) = m := Sign.trim_parts l m r hl hr h0
theorem trimL_twice (x : List UInt8) : trimL (trimL x) = trimL x := by
  obtain ⟨_, _, _, _, _, h⟩ := trim_form x
  have := trimL_of [] (trimL x) [] (by simp) (by simp) h
  simpa using this
theorem trim_twice (s : ByteArray) : trim (trim s) = trim s := by
  rw [trim_list (trim s), trim_list s]
  show (⟨(trimL (trimL s.data.toList).toArray.toList).toArray⟩ : ByteArray) = _
  rw [List.toList_toArray, trimL_twice]
theorem trim_around (s : ByteArray) : trim (⟨#[32]⟩ ++ s ++ ⟨#[9]⟩) = trim s := by
  have e : (⟨#[32]⟩ ++ s ++ ⟨#[9]⟩ : ByteArray).data.toList = 32 :: (s.data.toList ++ [9]) := by
    rw [ByteArray.data_append, ByteArray.data_append, Array.toList_append, Array.toList_append]; rfl
  rw [trim_list, trim_list, e]
  obtain ⟨l, r, h1, h2, h3, h4⟩ := trim_form s.data.toList
  have h := trimL_of (32 :: l) (trimL s.data.toList) (r ++ [9]) (fun b hb => by
    rcases List.mem_cons.1 hb with rfl | h
    · decide
    · exact h2 b h) (fun b hb => by
    rcases List.mem_append.1 hb with h | h
    · exact h3 b h
    · rw [List.mem_singleton.1 h]; decide) h4
  have e2 : 32 :: (s.data.toList ++ [9]) = 32 :: l ++ trimL s.data.toList ++ (r ++ [9]) := by
    conv => lhs; rw [h1]
    simp
  rw [e2, h]
theorem parts_rest (s : ByteArray) : ∀ (n a : Nat) (q : Bool), ∀ p ∈ rest s n a q, ¬ p.size = 0 ∧ trim p = p := by
  have hp : ∀ a b, ∀ p ∈ Sign.part s a b, ¬ p.size = 0 ∧ trim p = p := by
    intro a b p h
    unfold Sign.part at h
    split at h
    · exact absurd h List.not_mem_nil
    · next hz => rw [List.mem_singleton.1 h]; exact ⟨hz, trim_twice _⟩
  intro n
  induction n using Nat.strongRecOn with
  | _ n ih =>
    intro a q
    cases n with
    | zero => exact hp a s.size
    | succ m =>
      rw [Sign.rest_succ]
      split
      · exact ih m (by omega) a (!q)
      · split
        · exact ih (m - 1) (by omega) a q
        · split
          · intro p h
            rcases List.mem_append.1 h with h | h
            · exact hp _ _ p h
            · exact ih m (by omega) _ q p h
          · exact ih m (by omega) a q
theorem parts_ok (s : ByteArray) : ∀ p ∈ split s, ¬ p.size = 0 ∧ trim p = p := parts_rest s s.size 0 false
theorem secs_flag (s : ByteArray) : (Sign.secs s).2 = true ∨ (Sign.secs s).1 = 0 := by
  unfold Sign.secs
  split
  · exact .inl rfl
  · exact .inr rfl
theorem parts_sum (s : ByteArray) : ∀ (n a : Nat) (q : Bool), a ≤ s.size → n ≤ s.size - a → ((rest s n a q).map fun p => p.size + 2).sum ≤ 3 * (s.size - a) + 2 := by
  have hp : ∀ a b, a ≤ b → b ≤ s.size → ((Sign.part s a b).map fun p => p.size + 2).sum ≤ (b - a) + 2 := by
    intro a b h hb
    unfold Sign.part
    split
    · exact Nat.zero_le _
    · have h1 := Sign.trim_size (s.extract a b)
      rw [ByteArray.size_extract] at h1
      simp only [List.map_cons, List.map_nil, List.sum_cons, List.sum_nil]
      omega
  intro n
  induction n using Nat.strongRecOn with
  | _ n ih =>
    intro a q ha hn
    cases n with
    | zero => rw [rest]; have := hp a s.size ha (Nat.le_refl _); omega
    | succ m =>
      rw [Sign.rest_succ]
      split
      · exact ih m (by omega) a (!q) ha (by omega)
      · split
        · exact ih (m - 1) (by omega) a q ha (by omega)
        · split
          · rw [List.map_append, List.sum_append]
            have h1 := hp a (s.size - (m + 1)) (by omega) (by omega)
            have h2 := ih m (by omega) (s.size - (m + 1) + 1) q (by omega) (by omega)
            omega
          · exact ih m (by omega) a q ha (by omega)
theorem joined_size (L : List ByteArray) : (joined L).size ≤ (L.map fun p => p.size + 2).sum := by
  refine Num.snoc_ind (P := fun L => (joined L).size ≤ (L.map fun p => p.size + 2).sum) (Nat.zero_le _) ?_ L
  intro l t ih
  rw [joined_snoc, List.map_append, List.sum_append]
  simp only [List.map_cons, List.map_nil, List.sum_cons, List.sum_nil]
  split
  · omega
  · rw [ByteArray.size_append, ByteArray.size_append]
    have : (⟨#[44, 32]⟩ : ByteArray).size = 2 := rfl
    omega
theorem normal_size (s : ByteArray) : (normal s).size ≤ 3 * s.size + 2 := by
  have h1 := joined_size (split s)
  have h2 := parts_sum s s.size 0 false (Nat.zero_le _) (by omega)
  unfold normal
  have h3 : ((split s).map fun p => p.size + 2).sum ≤ 3 * s.size + 2 := by
    unfold Sign.split; simpa using h2
  omega
theorem secs_bd (s : ByteArray) : 0 ≤ (Sign.secs s).1 ∧ (Sign.secs s).1 ≤ 2147483648 := by
  unfold Sign.secs
  split
  · next h => exact Sign.sec_bd _ h.2
  · exact ⟨Int.le_refl _, by decide⟩
end Norm
end Go.Proofs.YtkogcbnbmdeolaaDoor
