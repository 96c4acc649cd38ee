/-
  Years, months and days, plain.
-/
import Derived.Test.YtkogcbnbmdeolaaDoorNum
namespace Go.Proofs.YtkogcbnbmdeolaaDoor
set_option linter.unusedVariables false
namespace Date

def leap (y : Int) : Bool := decide (y % 4 = 0) && (!decide (y % 100 = 0) || decide (y % 400 = 0))
def feb (y : Int) : Int := if leap y = true then 29 else 28
def mlens (y : Int) : List Int := [31, feb y, 31, 30, 31, 30, 31, 31, 30, 31, 30, 31]
/-- how many days the month has -/
def mlen (y : Int) (k : Nat) : Int := (mlens y).getD k 0
/-- the days of k years from 1970 on -/
def ysum : Nat → Int
  | 0 => 0
  | k + 1 => ysum k + 365 + (if leap (1970 + (k : Int)) = true then 1 else 0)
/-- the days of the first k months -/
def msum (y : Int) : Nat → Int
  | 0 => 0
  | k + 1 => msum y k + mlen y k
abbrev inside (y m d : Int) : Prop := (1970 ≤ y ∧ y ≤ 2037) ∧ (1 ≤ m ∧ m ≤ 12) ∧ (1 ≤ d ∧ d ≤ mlen y (m - 1).toNat)
def days (y m d : Int) : Int := if inside y m d then d - 1 + ysum (y - 1970).toNat + msum y (m - 1).toNat else -1
theorem feb_bd (y : Int) : 28 ≤ feb y ∧ feb y ≤ 29 := by unfold feb; split <;> omega
theorem mlen_all : ∀ f : Int, f = 28 ∨ f = 29 → ∀ k : Nat, k < 12 → 28 ≤ [31, f, 31, 30, 31, 30, 31, 31, 30, 31, 30, 31].getD k 0 ∧ [31, f, 31, 30, 31, 30, 31, 31, 30, 31, 30, 31].getD k 0 ≤ 31 := by
  rintro f (rfl | rfl)
  · decide
  · decide
theorem mlen_bd (y : Int) (k : Nat) (h : k < 12) : 28 ≤ mlen y k ∧ mlen y k ≤ 31 := by
  have hf := feb_bd y
  exact mlen_all (feb y) (by omega) k h
theorem ysum_bd (k : Nat) : 365 * (k : Int) ≤ ysum k ∧ ysum k ≤ 366 * (k : Int) := by
  induction k with
  | zero => decide
  | succ k ih =>
    unfold ysum
    split <;> omega
theorem msum_bd (y : Int) (k : Nat) (h : k ≤ 12) : 28 * (k : Int) ≤ msum y k ∧ msum y k ≤ 31 * (k : Int) := by
  induction k with
  | zero => simp [msum]
  | succ k ih =>
    have h1 := ih (by omega)
    have h2 := mlen_bd y k (by omega)
    unfold msum
    omega
theorem days_in {y m d : Int} (h : inside y m d) : days y m d = d - 1 + ysum (y - 1970).toNat + msum y (m - 1).toNat := if_pos h
theorem days_out {y m d : Int} (h : ¬ inside y m d) : days y m d = -1 := if_neg h
theorem days_bd (y m d : Int) : -1 ≤ days y m d ∧ days y m d ≤ 100000 := by
  by_cases h : inside y m d
  · rw [days_in h]
    have h1 := ysum_bd (y - 1970).toNat
    have h2 := msum_bd y (m - 1).toNat (by omega)
    have h3 := mlen_bd y (m - 1).toNat (by omega)
    omega
  · rw [days_out h]; omega
theorem tmod_zero (y k : Int) (hk : k ≠ 0) : (y.tmod k == 0) = decide (y % k = 0) := by
  rw [Bool.eq_iff_iff, beq_iff_eq, decide_eq_true_iff]
  constructor
  · intro h; exact Int.emod_eq_zero_of_dvd (Int.dvd_of_tmod_eq_zero h)
  · intro h; exact Int.tmod_eq_zero_of_dvd (Int.dvd_of_emod_eq_zero h)
end Date
end Go.Proofs.YtkogcbnbmdeolaaDoor
