/-
  DateOne: A day lies in one year, one month and one day of it, plain.
-/
import Derived.Test.YtihiljickefanaaDoorQaf
namespace Go.Proofs.YtihiljickefanaaDoor
open Go.RowKit
set_option linter.unusedVariables false
namespace Date

theorem mlen_nonneg (y : Int) (k : Nat) : 0 ≤ mlen y k := by
  by_cases h : k < 12
  · have := mlen_bd y k h; omega
  · have e : mlen y k = 0 := by
      unfold mlen
      rw [List.getD_eq_getElem?_getD, List.getElem?_eq_none (by unfold mlens; simp; omega)]
      rfl
    omega
theorem msum_mono (y : Int) (i : Nat) : ∀ n, msum y i ≤ msum y (i + n) := by
  intro n
  induction n with
  | zero => exact Int.le_refl _
  | succ n ih =>
    have h : msum y (i + (n + 1)) = msum y (i + n) + mlen y (i + n) := rfl
    have := mlen_nonneg y (i + n)
    omega
theorem msum_le (y : Int) {i k : Nat} (h : i ≤ k) : msum y i ≤ msum y k := by
  have := msum_mono y i (k - i)
  rw [show i + (k - i) = k by omega] at this
  exact this
theorem ysum_step (j : Nat) : ysum j + 365 ≤ ysum (j + 1) ∧ ysum (j + 1) ≤ ysum j + 366 := by
  show _ ∧ ysum j + 365 + _ ≤ _
  have h : ysum (j + 1) = ysum j + 365 + (if leap (1970 + (j : Int)) = true then 1 else 0) := rfl
  rw [h]
  split <;> omega
theorem ysum_mono (i : Nat) : ∀ n, ysum i ≤ ysum (i + n) := by
  intro n
  induction n with
  | zero => exact Int.le_refl _
  | succ n ih =>
    have := ysum_step (i + n)
    have h : ysum (i + (n + 1)) = ysum (i + n + 1) := rfl
    omega
theorem ysum_le {i k : Nat} (h : i ≤ k) : ysum i ≤ ysum k := by
  have := ysum_mono i (k - i)
  rw [show i + (k - i) = k by omega] at this
  exact this
theorem ysum_next (j : Nat) : ysum (j + 1) = ysum j + msum (1970 + (j : Int)) 12 := by
  have h : msum (1970 + (j : Int)) 12 = 337 + feb (1970 + (j : Int)) := by
    show 0 + 31 + feb (1970 + (j : Int)) + 31 + 30 + 31 + 30 + 31 + 31 + 30 + 31 + 30 + 31 = _
    omega
  rw [h]
  unfold feb
  show ysum j + 365 + _ = _
  split <;> omega
/-- the day D is the d-th (from 0 on) of the k-th month (from 0 on) of the j-th year (from 1970 on) -/
structure Parts (D : Int) (j k : Nat) (d : Int) : Prop where
  hj : j ≤ 67
  hk : k ≤ 11
  h0 : 0 ≤ d
  h1 : d < mlen (1970 + (j : Int)) k
  sum : D = ysum j + msum (1970 + (j : Int)) k + d
theorem Parts.month {D : Int} {j k : Nat} {d : Int} (h : Parts D j k d) : msum (1970 + (j : Int)) k ≤ D - ysum j ∧ D - ysum j < msum (1970 + (j : Int)) (k + 1) := by
  have e : msum (1970 + (j : Int)) (k + 1) = msum (1970 + (j : Int)) k + mlen (1970 + (j : Int)) k := rfl
  have := h.sum; have := h.h0; have := h.h1
  omega
theorem Parts.year {D : Int} {j k : Nat} {d : Int} (h : Parts D j k d) : ysum j ≤ D ∧ D < ysum (j + 1) := by
  have hm := h.month
  have e := ysum_next j
  have h1 := msum_le (1970 + (j : Int)) (show k + 1 ≤ 12 by have := h.hk; omega)
  have h2 := msum_bd (1970 + (j : Int)) k (by have := h.hk; omega)
  omega
theorem Parts.one {D : Int} {j k j' k' : Nat} {d d' : Int} (h : Parts D j k d) (h' : Parts D j' k' d') : j = j' ∧ k = k' ∧ d = d' := by
  have y1 := h.year
  have y2 := h'.year
  have ej : j = j' := by
    rcases Nat.lt_trichotomy j j' with hl | he | hl
    · have := ysum_le (show j + 1 ≤ j' by omega); omega
    · exact he
    · have := ysum_le (show j' + 1 ≤ j by omega); omega
  subst ej
  have m1 := h.month
  have m2 := h'.month
  have ek : k = k' := by
    rcases Nat.lt_trichotomy k k' with hl | he | hl
    · have := msum_le (1970 + (j : Int)) (show k + 1 ≤ k' by omega); omega
    · exact he
    · have := msum_le (1970 + (j : Int)) (show k' + 1 ≤ k by omega); omega
  subst ek
  have := h.sum; have := h'.sum
  exact ⟨rfl, rfl, by omega⟩
/-- whatever day of a month is wanted, it lies ahead of the end of 2037 -/
theorem ahead (j k : Nat) (d : Int) (hj : j ≤ 67) (hk : k ≤ 11) (h1 : d ≤ 30) : ysum j + msum (1970 + (j : Int)) k + d < ysum 68 := by
  have e := ysum_next j
  have hy := ysum_le (show j + 1 ≤ 68 by omega)
  by_cases h : k = 11
  · subst h
    have e2 : msum (1970 + (j : Int)) 12 = msum (1970 + (j : Int)) 11 + 31 := rfl
    omega
  · have e1 : msum (1970 + (j : Int)) (k + 2) = msum (1970 + (j : Int)) k + mlen (1970 + (j : Int)) k + mlen (1970 + (j : Int)) (k + 1) := rfl
    have b1 := mlen_bd (1970 + (j : Int)) k (by omega)
    have b2 := mlen_bd (1970 + (j : Int)) (k + 1) (by omega)
    have := msum_le (1970 + (j : Int)) (show k + 2 ≤ 12 by omega)
    omega
end Date
end Go.Proofs.YtihiljickefanaaDoor
