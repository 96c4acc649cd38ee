/-
  SatSpec: SatAdd of the specification.
-/
import Derived.Test.YtihiljickefanaaDoorQad
import Derived.Test.YtihiljickefanaaDoorNum
import Derived.Test.YtihiljickefanaaDoorRows
import Derived.WalkKit
namespace Go.Proofs.YtihiljickefanaaDoor
open Go.RowKit
set_option linter.unusedVariables false
namespace Age

set_option maxRecDepth 100000 in
set_option maxHeartbeats 1000000 in
theorem satAdd_spec (a b : Int) (w : World) : Calls Tryd.prog 26 #[.int .i64 a, .int .i64 b] w fun e w' => e = .returned (.int .i64 (satAdd a b)) ∧ w = w' := by
  obtain ⟨r, hr⟩ : ∃ r, satAdd a b = r := ⟨_, rfl⟩
  rw [hr]
  have HR := Num.hide hr
  clear hr
  rcases (by omega : a ≤ 0 ∨ (0 < a ∧ a ≤ 2147483648) ∨ 2147483648 < a) with ha | ha | ha
  · have p1 : ¬ 2147483648 < a := by omega
    have p2 : ¬ 0 < a := by omega
    rcases (by omega : b ≤ 0 ∨ (0 < b ∧ b ≤ 2147483648) ∨ 2147483648 < b) with hb | hb | hb
    · have q1 : ¬ 2147483648 < b := by omega
      have q2 : ¬ 0 < b := by omega
      obtain rfl : r = 0 := by rw [← HR.out]; unfold satAdd clamp; omega
      clear HR
      go_enter Tryd.func26, Tryd.ntmps26
      go_wp2
      all_goals go_ret
      all_goals exact ⟨retI (by omega), rfl⟩
    · have q1 : ¬ 2147483648 < b := by omega
      have q2 : 0 < b := by omega
      obtain rfl : r = b := by rw [← HR.out]; unfold satAdd clamp; omega
      clear HR
      go_enter Tryd.func26, Tryd.ntmps26
      go_wp2
      all_goals go_ret
      all_goals exact ⟨retI (by omega), rfl⟩
    · have q1 : 2147483648 < b := by omega
      obtain rfl : r = 2147483648 := by rw [← HR.out]; unfold satAdd clamp; omega
      clear HR
      go_enter Tryd.func26, Tryd.ntmps26
      go_wp2
      all_goals go_ret
      all_goals exact ⟨retI (by omega), rfl⟩
  · have p1 : ¬ 2147483648 < a := by omega
    have p2 : 0 < a := by omega
    rcases (by omega : b ≤ 0 ∨ (0 < b ∧ b ≤ 2147483648) ∨ 2147483648 < b) with hb | hb | hb
    · have q1 : ¬ 2147483648 < b := by omega
      have q2 : ¬ 0 < b := by omega
      obtain rfl : r = a := by rw [← HR.out]; unfold satAdd clamp; omega
      clear HR
      go_enter Tryd.func26, Tryd.ntmps26
      go_wp2
      all_goals go_ret
      all_goals exact ⟨retI (by omega), rfl⟩
    · have q1 : ¬ 2147483648 < b := by omega
      have q2 : 0 < b := by omega
      by_cases hs : 2147483648 < a + b
      · obtain rfl : r = 2147483648 := by rw [← HR.out]; unfold satAdd clamp; omega
        clear HR
        go_enter Tryd.func26, Tryd.ntmps26
        go_wp2
        all_goals go_ret
        all_goals exact ⟨retI (by omega), rfl⟩
      · obtain rfl : r = a + b := by rw [← HR.out]; unfold satAdd clamp; omega
        clear HR
        go_enter Tryd.func26, Tryd.ntmps26
        go_wp2
        all_goals go_ret
        all_goals exact ⟨retI (by omega), rfl⟩
    · have q1 : 2147483648 < b := by omega
      obtain rfl : r = 2147483648 := by rw [← HR.out]; unfold satAdd clamp; omega
      clear HR
      go_enter Tryd.func26, Tryd.ntmps26
      go_wp2
      all_goals go_ret
      all_goals exact ⟨retI (by omega), rfl⟩
  · have p1 : 2147483648 < a := by omega
    rcases (by omega : b ≤ 0 ∨ (0 < b ∧ b ≤ 2147483648) ∨ 2147483648 < b) with hb | hb | hb
    · have q1 : ¬ 2147483648 < b := by omega
      have q2 : ¬ 0 < b := by omega
      obtain rfl : r = 2147483648 := by rw [← HR.out]; unfold satAdd clamp; omega
      clear HR
      go_enter Tryd.func26, Tryd.ntmps26
      go_wp2
      all_goals go_ret
      all_goals exact ⟨retI (by omega), rfl⟩
    · have q1 : ¬ 2147483648 < b := by omega
      have q2 : 0 < b := by omega
      obtain rfl : r = 2147483648 := by rw [← HR.out]; unfold satAdd clamp; omega
      clear HR
      go_enter Tryd.func26, Tryd.ntmps26
      go_wp2
      all_goals go_ret
      all_goals exact ⟨retI (by omega), rfl⟩
    · have q1 : 2147483648 < b := by omega
      obtain rfl : r = 2147483648 := by rw [← HR.out]; unfold satAdd clamp; omega
      clear HR
      go_enter Tryd.func26, Tryd.ntmps26
      go_wp2
      all_goals go_ret
      all_goals exact ⟨retI (by omega), rfl⟩
end Age
end Go.Proofs.YtihiljickefanaaDoor
