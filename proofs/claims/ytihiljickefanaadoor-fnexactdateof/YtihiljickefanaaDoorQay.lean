/-
  SatImpl: SatAdd of the program.
-/
import Derived.Test.YtihiljickefanaaDoorQad
import Derived.Test.YtihiljickefanaaDoorNum
import Derived.Test.YtihiljickefanaaDoorRows
import Derived.WalkKit
namespace Go.Proofs.YtihiljickefanaaDoor
open Go.RowKit
set_option linter.unusedVariables false
namespace Age

set_option maxRecDepth 100000 in
set_option maxHeartbeats 1000000 in
theorem satSec_impl (a : Int) (w : World) : Calls Tryd.prog 42 #[.int .i64 a] w fun e w' => e = .returned (.int .i64 (clamp a)) ∧ w = w' := by
  obtain ⟨r, hr⟩ : ∃ r, clamp a = r := ⟨_, rfl⟩
  rw [hr]
  have HR := Num.hide hr
  clear hr
  rcases (by omega : a ≤ 0 ∨ (0 < a ∧ a ≤ 2147483648) ∨ 2147483648 < a) with ha | ha | ha
  · have p1 : ¬ 2147483648 < a := by omega
    have p2 : ¬ 0 < a := by omega
    obtain rfl : r = 0 := by rw [← HR.out]; unfold clamp; omega
    clear HR
    go_enter Tryd.func42, Tryd.ntmps42
    go_wp2
    all_goals go_ret
    all_goals exact ⟨retI (by omega), rfl⟩
  · have p1 : ¬ 2147483648 < a := by omega
    have p2 : 0 < a := by omega
    obtain rfl : r = a := by rw [← HR.out]; unfold clamp; omega
    clear HR
    go_enter Tryd.func42, Tryd.ntmps42
    go_wp2
    all_goals go_ret
    all_goals exact ⟨retI (by omega), rfl⟩
  · have p1 : 2147483648 < a := by omega
    have p2 : 0 < a := by omega
    obtain rfl : r = 2147483648 := by rw [← HR.out]; unfold clamp; omega
    clear HR
    go_enter Tryd.func42, Tryd.ntmps42
    go_wp2
    all_goals go_ret
    all_goals exact ⟨retI (by omega), rfl⟩
set_option maxRecDepth 100000 in
set_option maxHeartbeats 1000000 in
theorem satAdd_impl (a b : Int) (w : World) : Calls Tryd.prog 29 #[.int .i64 a, .int .i64 b] w fun e w' => e = .returned (.int .i64 (satAdd a b)) ∧ w = w' := by
  obtain ⟨r, hr⟩ : ∃ r, satAdd a b = r := ⟨_, rfl⟩
  rw [hr]
  unfold satAdd at hr
  have HA := Num.hide (fun W => satSec_impl a W)
  have HB := Num.hide (fun W => satSec_impl b W)
  have ba := clamp_bd a
  have bb := clamp_bd b
  generalize clamp a = A at HA ba hr
  generalize clamp b = B at HB bb hr
  have HR := Num.hide hr
  clear hr
  by_cases hs : 2147483648 < A + B
  · obtain rfl : r = 2147483648 := by rw [← HR.out]; omega
    clear HR
    go_enter Tryd.func29, Tryd.ntmps29
    go_wp2_with fail
    refine (HA.out _).mono ?_
    rintro e w1 ⟨rfl, rfl⟩
    go_wp2_with fail
    refine (HB.out _).mono ?_
    rintro e w2 ⟨rfl, rfl⟩
    go_wp2
    all_goals go_ret
    all_goals exact ⟨retI (by omega), rfl⟩
  · obtain rfl : r = A + B := by rw [← HR.out]; omega
    clear HR
    go_enter Tryd.func29, Tryd.ntmps29
    go_wp2_with fail
    refine (HA.out _).mono ?_
    rintro e w1 ⟨rfl, rfl⟩
    go_wp2_with fail
    refine (HB.out _).mono ?_
    rintro e w2 ⟨rfl, rfl⟩
    go_wp2
    all_goals go_ret
    all_goals exact ⟨retI (by omega), rfl⟩
end Age
end Go.Proofs.YtihiljickefanaaDoor
