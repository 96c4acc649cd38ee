/-
  Sums that go no further than the bound, plain.
-/
import Derived.WalkKit
namespace Go.Proofs.Ytihiljickefanaa
open Go.RowKit
set_option linter.unusedVariables false
namespace Age

theorem retI {k : IntKind} {a b : Int} (h : a = b) : Ending.returned (.int k a) = .returned (.int k b) := by rw [h]
/-- a number from 0 to the bound -/
def clamp (a : Int) : Int := max 0 (min a 2147483648)
theorem clamp_bd (a : Int) : 0 ≤ clamp a ∧ clamp a ≤ 2147483648 := by unfold clamp; omega
def satAdd (a b : Int) : Int := min (clamp a + clamp b) 2147483648
theorem satAdd_bd (a b : Int) : 0 ≤ satAdd a b ∧ satAdd a b ≤ 2147483648 := by unfold satAdd clamp; omega
theorem satAdd_comm (a b : Int) : satAdd a b = satAdd b a := by unfold satAdd clamp; omega
end Age
end Go.Proofs.Ytihiljickefanaa
