/-
  isLower of the program: a byte is a small letter, or not; the world stays.
-/
import Derived.Test.YtbcjpjhpobmpbaaGreatDoorSignNum
import Derived.Test.YtbcjpjhpobmpbaaGreatDoorRows
import Derived.WalkKit
namespace Go.Proofs.YtbcjpjhpobmpbaaGreatDoor
open Go.RowKit
set_option linter.unusedVariables false
namespace Sign

set_option maxRecDepth 100000 in
set_option maxHeartbeats 1000000 in
theorem isLower_any (c : Int) (w : World) : Calls Tryz.prog 175 #[.int .u8 c] w fun e w' => e = .returned (.bool (decide (low c))) ∧ w = w' := by
  by_cases h1 : 97 ≤ c
  · have d1 : decide (97 ≤ c) = true := decide_eq_true h1
    by_cases h2 : c ≤ 122
    · have d2 : decide (c ≤ 122) = true := decide_eq_true h2
      rw [show decide (low c) = true from decide_eq_true ⟨h1, h2⟩]
      go_enter Tryz.func175, Tryz.ntmps175
      go_wp2
      all_goals go_ret
      all_goals exact ⟨rfl, rfl⟩
    · have d2 : decide (c ≤ 122) = false := decide_eq_false h2
      rw [show decide (low c) = false from decide_eq_false (fun h => h2 h.2)]
      go_enter Tryz.func175, Tryz.ntmps175
      go_wp2
      all_goals go_ret
      all_goals exact ⟨rfl, rfl⟩
  · have d1 : decide (97 ≤ c) = false := decide_eq_false h1
    rw [show decide (low c) = false from decide_eq_false (fun h => h1 h.1)]
    go_enter Tryz.func175, Tryz.ntmps175
    go_wp2
    all_goals go_ret
    all_goals exact ⟨rfl, rfl⟩
end Sign
end Go.Proofs.YtbcjpjhpobmpbaaGreatDoor
