/-
  isDigit of the program: a byte is a digit, or not; the world stays.
-/
import Derived.Test.YtbcjpjhpobmpbaaGreatDoorSignNum
import Derived.Test.YtbcjpjhpobmpbaaGreatDoorRows
import Derived.WalkKit
namespace Go.Proofs.YtbcjpjhpobmpbaaGreatDoor
open Go.RowKit
set_option linter.unusedVariables false
namespace Sign

set_option maxRecDepth 100000 in
set_option maxHeartbeats 1000000 in
theorem isDigit_any (c : Int) (w : World) : Calls Tryz.prog 137 #[.int .u8 c] w fun e w' => e = .returned (.bool (decide (dig c))) ∧ w = w' := by
  by_cases h1 : 48 ≤ c
  · have d1 : decide (48 ≤ c) = true := decide_eq_true h1
    by_cases h2 : c ≤ 57
    · have d2 : decide (c ≤ 57) = true := decide_eq_true h2
      rw [show decide (dig c) = true from decide_eq_true ⟨h1, h2⟩]
      go_enter Tryz.func137, Tryz.ntmps137
      go_wp2
      all_goals go_ret
      all_goals exact ⟨rfl, rfl⟩
    · have d2 : decide (c ≤ 57) = false := decide_eq_false h2
      rw [show decide (dig c) = false from decide_eq_false (fun h => h2 h.2)]
      go_enter Tryz.func137, Tryz.ntmps137
      go_wp2
      all_goals go_ret
      all_goals exact ⟨rfl, rfl⟩
  · have d1 : decide (48 ≤ c) = false := decide_eq_false h1
    rw [show decide (dig c) = false from decide_eq_false (fun h => h1 h.1)]
    go_enter Tryz.func137, Tryz.ntmps137
    go_wp2
    all_goals go_ret
    all_goals exact ⟨rfl, rfl⟩
end Sign
end Go.Proofs.YtbcjpjhpobmpbaaGreatDoor
