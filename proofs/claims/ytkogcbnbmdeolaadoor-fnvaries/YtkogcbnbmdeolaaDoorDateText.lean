/-
  The text of a date, plain: the year, the month and the day that a day lies in; the text.
-/
import Derived.Test.YtkogcbnbmdeolaaDoorDaysSpec
import Derived.Test.YtkogcbnbmdeolaaDoorTwoSpec
import Derived.Test.YtkogcbnbmdeolaaDoorDecNum
namespace Go.Proofs.YtkogcbnbmdeolaaDoor
open Go.RowKit
set_option linter.unusedVariables false
namespace Date

/-- the year, from 1970 on, that a day lies in -/
def yearGo (D : Int) : Nat → Nat → Nat
  | 0, j => j
  | n + 1, j => if ysum (j + 1) ≤ D then yearGo D n (j + 1) else j
def yearOf (D : Int) : Nat := yearGo D 67 0
def monthGo (y : Int) (r : Int) : Nat → Nat → Nat
  | 0, k => k
  | n + 1, k => if msum y (k + 1) ≤ r then monthGo y r n (k + 1) else k
/-- the month, from 0 on, that a day of the year lies in -/
def monthOf (y : Int) (r : Int) : Nat := monthGo y r 11 0
theorem yearGo_spec (D : Int) : ∀ (n j : Nat), ysum j ≤ D → ysum (yearGo D n j) ≤ D ∧ yearGo D n j ≤ j + n ∧ (D < ysum (yearGo D n j + 1) ∨ yearGo D n j = j + n) := by
  intro n
  induction n with
  | zero => intro j h; exact ⟨h, Nat.le_refl _, .inr rfl⟩
  | succ n ih =>
    intro j h
    unfold yearGo
    by_cases hc : ysum (j + 1) ≤ D
    · rw [if_pos hc]
      have := ih (j + 1) hc
      omega
    · rw [if_neg hc]; omega
theorem monthGo_spec (y r : Int) : ∀ (n k : Nat), msum y k ≤ r → msum y (monthGo y r n k) ≤ r ∧ monthGo y r n k ≤ k + n ∧ (r < msum y (monthGo y r n k + 1) ∨ monthGo y r n k = k + n) := by
  intro n
  induction n with
  | zero => intro j h; exact ⟨h, Nat.le_refl _, .inr rfl⟩
  | succ n ih =>
    intro k h
    unfold monthGo
    by_cases hc : msum y (k + 1) ≤ r
    · rw [if_pos hc]
      have := ih (k + 1) hc
      omega
    · rw [if_neg hc]; omega
theorem ysum_succ (j : Nat) : ysum (j + 1) = ysum j + msum (1970 + (j : Int)) 12 := by
  have h : msum (1970 + (j : Int)) 12 = 337 + feb (1970 + (j : Int)) := by
    show 0 + 31 + feb (1970 + (j : Int)) + 31 + 30 + 31 + 30 + 31 + 31 + 30 + 31 + 30 + 31 = _
    omega
  rw [h]
  unfold feb
  show ysum j + 365 + _ = _
  split <;> omega
theorem ysum_67 : (24472 : Int) ≤ ysum 67 := by decide +kernel
theorem year_in (D : Int) (h0 : 0 ≤ D) (h1 : D ≤ 24471) : ysum (yearOf D) ≤ D ∧ yearOf D ≤ 66 ∧ D < ysum (yearOf D + 1) := by
  have h := yearGo_spec D 67 0 h0
  have h67 := ysum_67
  unfold yearOf
  rcases h with ⟨h2, h3, h4 | h4⟩
  · refine ⟨h2, ?_, h4⟩
    by_cases e : yearGo D 67 0 = 67
    · rw [e] at h2; omega
    · omega
  · rw [h4] at h2
    simp only [Nat.zero_add] at h2
    omega
theorem month_in (j : Nat) (r : Int) (h0 : 0 ≤ r) (h1 : r < msum (1970 + (j : Int)) 12) : msum (1970 + (j : Int)) (monthOf (1970 + (j : Int)) r) ≤ r ∧ monthOf (1970 + (j : Int)) r ≤ 11 ∧ r < msum (1970 + (j : Int)) (monthOf (1970 + (j : Int)) r + 1) := by
  have h := monthGo_spec (1970 + (j : Int)) r 11 0 h0
  unfold monthOf
  rcases h with ⟨h2, h3, h4 | h4⟩
  · exact ⟨h2, by omega, h4⟩
  · refine ⟨h2, by omega, ?_⟩
    rw [h4]; exact h1
/-- the day's year (from 1970 on), month (from 0 on) and day (from 0 on) -/
def yr (D : Int) : Nat := yearOf D
def mo (D : Int) : Nat := monthOf (1970 + (yr D : Int)) (D - ysum (yr D))
def dy (D : Int) : Int := D - ysum (yr D) - msum (1970 + (yr D : Int)) (mo D)
theorem parts_in (D : Int) (h0 : 0 ≤ D) (h1 : D ≤ 24471) : yr D ≤ 66 ∧ mo D ≤ 11 ∧ 0 ≤ dy D ∧ dy D < mlen (1970 + (yr D : Int)) (mo D) ∧ ysum (yr D) ≤ D ∧ D - ysum (yr D) < msum (1970 + (yr D : Int)) 12 := by
  have hy := year_in D h0 h1
  have hs := ysum_succ (yearOf D)
  have hm := month_in (yr D) (D - ysum (yr D)) (by unfold yr; omega) (by unfold yr; omega)
  have hm2 : msum (1970 + (yr D : Int)) (mo D + 1) = msum (1970 + (yr D : Int)) (mo D) + mlen (1970 + (yr D : Int)) (mo D) := rfl
  unfold dy
  refine ⟨hy.2.1, hm.2.1, ?_, ?_, hy.1, ?_⟩
  · have := hm.1; unfold mo; omega
  · have := hm.2.2; unfold mo at hm2 ⊢; omega
  · unfold yr; omega
theorem days_parts (j k : Nat) (d : Int) (hj : j ≤ 67) (hk : k ≤ 11) (h0 : 0 ≤ d) (h1 : d < mlen (1970 + (j : Int)) k) : days (1970 + (j : Int)) ((k : Int) + 1) (d + 1) = d + ysum j + msum (1970 + (j : Int)) k := by
  rw [days_in ⟨by omega, by omega, by omega, by rw [show ((k : Int) + 1 - 1).toNat = k by omega]; omega⟩]
  rw [show ((k : Int) + 1 - 1).toNat = k by omega, show (1970 + (j : Int) - 1970).toNat = j by omega]
  omega
/-- the days of the week, from the first of January 1970 on, and the months -/
def weeks : List ByteArray := [⟨#[84, 104, 117]⟩, ⟨#[70, 114, 105]⟩, ⟨#[83, 97, 116]⟩, ⟨#[83, 117, 110]⟩, ⟨#[77, 111, 110]⟩, ⟨#[84, 117, 101]⟩, ⟨#[87, 101, 100]⟩]
def names : List ByteArray := [⟨#[74, 97, 110]⟩, ⟨#[70, 101, 98]⟩, ⟨#[77, 97, 114]⟩, ⟨#[65, 112, 114]⟩, ⟨#[77, 97, 121]⟩, ⟨#[74, 117, 110]⟩, ⟨#[74, 117, 108]⟩, ⟨#[65, 117, 103]⟩, ⟨#[83, 101, 112]⟩, ⟨#[79, 99, 116]⟩, ⟨#[78, 111, 118]⟩, ⟨#[68, 101, 99]⟩]
def week (k : Nat) : ByteArray := weeks.getD k ⟨#[]⟩
def name (k : Nat) : ByteArray := names.getD k ⟨#[]⟩
def dec (n : Int) : ByteArray := ⟨(Lib.itoa n).toArray⟩
/-- the text of a date -/
def text (n : Int) : ByteArray :=
  week (n / 86400 % 7).toNat ++ ⟨#[44, 32]⟩ ++ two (dy (n / 86400) + 1) ++ ⟨#[32]⟩ ++ name (mo (n / 86400)) ++ ⟨#[32]⟩ ++ dec (1970 + (yr (n / 86400) : Int)) ++ ⟨#[32]⟩ ++ two (n / 3600 % 24) ++ ⟨#[58]⟩ ++ two (n / 60 % 60) ++ ⟨#[58]⟩ ++ two (n % 60) ++ ⟨#[32, 71, 77, 84]⟩
def shown (n : Int) : ByteArray := if 0 ≤ n ∧ n ≤ 2000000000 then text n else ⟨#[]⟩
theorem week_size (k : Nat) (h : k < 7) : (week k).size = 3 := by
  have : ∀ k, k < 7 → (week k).size = 3 := by decide
  exact this k h
theorem name_size (k : Nat) (h : k < 12) : (name k).size = 3 := by
  have : ∀ k, k < 12 → (name k).size = 3 := by decide
  exact this k h
end Date
end Go.Proofs.YtkogcbnbmdeolaaDoor
