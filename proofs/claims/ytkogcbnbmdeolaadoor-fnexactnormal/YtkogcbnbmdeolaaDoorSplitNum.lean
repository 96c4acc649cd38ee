/-
  Parts of a list: what SplitList makes of a text (no program in sight), and how a range over the text meets its bytes.
-/
import Derived.Test.YtkogcbnbmdeolaaDoorTrimSpec
import Derived.Laws.RangeAny
import Derived.Laws.RangeString
namespace Go.Proofs.YtkogcbnbmdeolaaDoor
open Go.RowKit
set_option linter.unusedVariables false
namespace Sign

/-- a part, trimmed; none where it is empty -/
def part (s : ByteArray) (a b : Nat) : List ByteArray := if (trim (s.extract a b)).size = 0 then [] else [trim (s.extract a b)]
/-- the byte n ahead of the end -/
def fromEnd (s : ByteArray) (n : Nat) : Nat := (s.data.toList.getD (s.size - n) 0).toNat
/-- the parts that come of the last n bytes, where a part began at 'a' -/
def rest (s : ByteArray) : Nat → Nat → Bool → List ByteArray
  | 0, a, q => part s a s.size
  | n + 1, a, q =>
    if fromEnd s (n + 1) = 34 then rest s n a (!q)
    else if q = true ∧ fromEnd s (n + 1) = 92 then (match n with | 0 => part s a s.size | m + 1 => rest s m a q)
    else if fromEnd s (n + 1) = 44 ∧ q = false then part s a (s.size - (n + 1)) ++ rest s n (s.size - (n + 1) + 1) q
    else rest s n a q
/-- the parts of a text -/
def split (s : ByteArray) : List ByteArray := rest s s.size 0 false

theorem rest_succ (s : ByteArray) (n a : Nat) (q : Bool) : rest s (n + 1) a q =
    if fromEnd s (n + 1) = 34 then rest s n a (!q)
    else if q = true ∧ fromEnd s (n + 1) = 92 then rest s (n - 1) a q
    else if fromEnd s (n + 1) = 44 ∧ q = false then part s a (s.size - (n + 1)) ++ rest s n (s.size - (n + 1) + 1) q
    else rest s n a q := by
  cases n with
  | zero => rfl
  | succ m => rfl
theorem fromEnd_at (s : ByteArray) (i : Nat) (h : i < s.size) : fromEnd s (s.size - i) = (s[i]).toNat := by
  unfold fromEnd
  rw [show s.size - (s.size - i) = i by omega, List.getD, List.getElem?_eq_getElem (show i < s.data.toList.length by rw [Array.length_toList]; exact h)]
  rfl
theorem rest_quote (s : ByteArray) (i a : Nat) (q : Bool) (h : i < s.size) (hc : (s[i]).toNat = 34) : rest s (s.size - i) a q = rest s (s.size - (i + 1)) a (!q) := by
  have e := fromEnd_at s i h
  obtain ⟨n, hn⟩ : ∃ n, s.size - i = n + 1 := ⟨s.size - i - 1, by omega⟩
  rw [hn] at e
  rw [show s.size - (i + 1) = n by omega, hn]
  rw [rest_succ, if_pos (by rw [e]; exact hc)]
theorem rest_esc (s : ByteArray) (i a : Nat) (h : i < s.size) (hc : (s[i]).toNat = 92) : rest s (s.size - i) a true = rest s (s.size - (i + 2)) a true := by
  have e := fromEnd_at s i h
  obtain ⟨n, hn⟩ : ∃ n, s.size - i = n + 1 := ⟨s.size - i - 1, by omega⟩
  rw [hn] at e
  rw [show s.size - (i + 2) = n - 1 by omega, hn]
  rw [rest_succ, if_neg (by rw [e]; omega), if_pos ⟨rfl, by rw [e]; exact hc⟩]
theorem rest_comma (s : ByteArray) (i a : Nat) (h : i < s.size) (hc : (s[i]).toNat = 44) : rest s (s.size - i) a false = part s a i ++ rest s (s.size - (i + 1)) (i + 1) false := by
  have e := fromEnd_at s i h
  obtain ⟨n, hn⟩ : ∃ n, s.size - i = n + 1 := ⟨s.size - i - 1, by omega⟩
  have e2 : s.size - (n + 1) = i := by omega
  rw [hn] at e
  rw [show s.size - (i + 1) = n by omega, hn]
  rw [rest_succ, if_neg (by rw [e]; omega), if_neg (by rintro ⟨h, _⟩; cases h), if_pos ⟨by rw [e]; exact hc, rfl⟩, e2]
theorem rest_else (s : ByteArray) (i a : Nat) (q : Bool) (h : i < s.size) (h1 : (s[i]).toNat ≠ 34) (h2 : ¬ (q = true ∧ (s[i]).toNat = 92)) (h3 : ¬ ((s[i]).toNat = 44 ∧ q = false)) : rest s (s.size - i) a q = rest s (s.size - (i + 1)) a q := by
  have e := fromEnd_at s i h
  obtain ⟨n, hn⟩ : ∃ n, s.size - i = n + 1 := ⟨s.size - i - 1, by omega⟩
  rw [hn] at e
  rw [show s.size - (i + 1) = n by omega, hn]
  rw [rest_succ, if_neg (by rw [e]; exact h1), if_neg (by rw [e]; exact h2), if_neg (by rw [e]; exact h3)]
theorem rest_end (s : ByteArray) (i a : Nat) (q : Bool) (h : s.size ≤ i) : rest s (s.size - i) a q = part s a s.size := by
  rw [show s.size - i = 0 by omega]; rfl
/-- bytes from 128 on change nothing -/
theorem rest_high (s : ByteArray) (a : Nat) (q : Bool) : ∀ (d i : Nat), i + d ≤ s.size → (∀ j (h : j < s.size), i ≤ j → j < i + d → 128 ≤ (s[j]).toNat) → rest s (s.size - i) a q = rest s (s.size - (i + d)) a q := by
  intro d
  induction d with
  | zero => intro i _ _; rfl
  | succ d ih =>
    intro i hi hh
    have h := hh i (by omega) (Nat.le_refl _) (by omega)
    rw [rest_else s i a q (by omega) (by omega) (by omega) (by omega), ih (i + 1) (by omega) (fun j hj h1 h2 => hh j hj (by omega) (by omega)), show i + 1 + d = i + (d + 1) by omega]
theorem cont_high (s : ByteArray) (i k : Nat) (h : (decide (i + k < s.size) && (s.get! (i + k)).toNat / 64 == 2) = true) : ∃ h : i + k < s.size, 128 ≤ (s[i + k]).toNat := by
  rw [Bool.and_eq_true, decide_eq_true_iff, beq_iff_eq] at h
  refine ⟨h.1, ?_⟩
  have e : s.get! (i + k) = s[i + k]'h.1 := Go.get_at s (i + k) h.1
  rw [e] at h
  omega
theorem decode_wide (s : ByteArray) (i : Nat) (h : i < s.size) (ha : 128 ≤ (s[i]).toNat) : i + (Utf8.decode s i).2 ≤ s.size ∧ ∀ j (hj : j < s.size), i ≤ j → j < i + (Utf8.decode s i).2 → 128 ≤ (s[j]).toNat := by
  have one : i + 1 ≤ s.size ∧ ∀ j (hj : j < s.size), i ≤ j → j < i + 1 → 128 ≤ (s[j]).toNat := ⟨by omega, fun j hj h1 h2 => by obtain rfl : j = i := by omega
                                                                                                                               exact ha⟩
  unfold Utf8.decode
  simp only
  split
  · exact one
  · split
    · next hc =>
      rw [Bool.and_eq_true] at hc
      obtain ⟨h1, g1⟩ := cont_high s i 1 hc.2
      split
      · refine ⟨by simp only; omega, fun j hj a b => ?_⟩
        simp only at b
        rcases (show j = i ∨ j = i + 1 by omega) with rfl | rfl
        · exact ha
        · exact g1
      · exact one
    · split
      · next hc =>
        rw [Bool.and_eq_true, Bool.and_eq_true] at hc
        obtain ⟨h1, g1⟩ := cont_high s i 1 hc.1.2
        obtain ⟨h2, g2⟩ := cont_high s i 2 hc.2
        split
        · refine ⟨by simp only; omega, fun j hj a b => ?_⟩
          simp only at b
          rcases (show j = i ∨ j = i + 1 ∨ j = i + 2 by omega) with rfl | rfl | rfl
          · exact ha
          · exact g1
          · exact g2
        · exact one
      · split
        · next hc =>
          rw [Bool.and_eq_true, Bool.and_eq_true, Bool.and_eq_true] at hc
          obtain ⟨h1, g1⟩ := cont_high s i 1 hc.1.1.2
          obtain ⟨h2, g2⟩ := cont_high s i 2 hc.1.2
          obtain ⟨h3, g3⟩ := cont_high s i 3 hc.2
          split
          · refine ⟨by simp only; omega, fun j hj a b => ?_⟩
            simp only at b
            rcases (show j = i ∨ j = i + 1 ∨ j = i + 2 ∨ j = i + 3 by omega) with rfl | rfl | rfl | rfl
            · exact ha
            · exact g1
            · exact g2
            · exact g3
          · exact one
        · exact one
theorem length_rest (s : ByteArray) : ∀ (n a : Nat) (q : Bool), (rest s n a q).length ≤ n + 1 := by
  intro n
  induction n using Nat.strongRecOn with
  | _ n ih =>
    intro a q
    have hp : ∀ x y, (part s x y).length ≤ 1 := fun x y => by unfold part; split <;> simp
    cases n with
    | zero => rw [rest]; have := hp a s.size; omega
    | succ m =>
      rw [rest_succ]
      split
      · have := ih m (by omega) a (!q); omega
      · split
        · have := ih (m - 1) (by omega) a q; omega
        · split
          · rw [List.length_append]; have := ih m (by omega) (s.size - (m + 1) + 1) q; have := hp a (s.size - (m + 1)); omega
          · have := ih m (by omega) a q; omega
end Sign
end Go.Proofs.YtkogcbnbmdeolaaDoor
