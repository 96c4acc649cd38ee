/-
  l1In of the specification.
-/
import Derived.Test.YtkogcbnbmdeolaaDoorNum
import Derived.Test.YtkogcbnbmdeolaaDoorRows
import Derived.WalkKit
import Derived.WalkLawsBesides
namespace Go.Proofs.YtkogcbnbmdeolaaDoor
open Go.RowKit
set_option linter.unusedVariables false
namespace Date

set_option maxRecDepth 100000 in
set_option maxHeartbeats 1000000 in
theorem in_spec (x lo hi : Int) (w : World) : Calls Tryd.prog 105 #[.int .i64 x, .int .i64 lo, .int .i64 hi] w fun e w' => e = .returned (.bool (decide (lo ≤ x ∧ x ≤ hi))) ∧ w = w' := by
  obtain ⟨r, hr⟩ : ∃ r, decide (lo ≤ x ∧ x ≤ hi) = r := ⟨_, rfl⟩
  rw [hr]
  by_cases h1 : lo ≤ x
  · obtain rfl : decide (x ≤ hi) = r := by rw [← hr]; simp [h1]
    clear hr
    go_enter Tryd.func105, Tryd.ntmps105
    go_wp2
    go_ret
    exact ⟨rfl, rfl⟩
  · obtain rfl : false = r := by rw [← hr]; simp [h1]
    clear hr
    go_enter Tryd.func105, Tryd.ntmps105
    go_wp2
    go_ret
    exact ⟨rfl, rfl⟩
end Date
end Go.Proofs.YtkogcbnbmdeolaaDoor
