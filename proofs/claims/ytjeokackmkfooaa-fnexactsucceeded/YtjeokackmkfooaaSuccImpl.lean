/-
  Succeeded of the program.
-/
import Derived.Test.YtjeokackmkfooaaSafeNum
import Derived.Test.YtjeokackmkfooaaNum
import Derived.Test.YtjeokackmkfooaaRows
import Derived.Below
namespace Go.Proofs.Ytjeokackmkfooaa
open Go.RowKit
set_option linter.unusedVariables false
set_option linter.unusedSimpArgs false
namespace Pol

set_option maxRecDepth 100000 in
set_option maxHeartbeats 1000000 in
theorem succeeded_impl (st : Int) (w : World) : Calls Try.prog 11 #[.int .i64 st] w fun e w' => e = .returned (.bool (succeeded st)) ∧ Below w.heap.size w w' := by
  by_cases h1 : 200 ≤ st
  · have d1 : decide (200 ≤ st) = true := decide_eq_true h1
    by_cases h2 : st ≤ 399
    · have d2 : decide (st ≤ 399) = true := decide_eq_true h2
      have hr : succeeded st = true := decide_eq_true ⟨h1, h2⟩
      rw [hr]
      clear hr h1 h2
      go_enter Try.func11, Try.ntmps11
      go_wp2
      go_ret
      exact ⟨rfl, Below.refl _ _⟩
    · have d2 : decide (st ≤ 399) = false := decide_eq_false h2
      have hr : succeeded st = false := decide_eq_false fun h => h2 h.2
      rw [hr]
      clear hr h1 h2
      go_enter Try.func11, Try.ntmps11
      go_wp2
      go_ret
      exact ⟨rfl, Below.refl _ _⟩
  · have d1 : decide (200 ≤ st) = false := decide_eq_false h1
    have hr : succeeded st = false := decide_eq_false fun h => h1 h.1
    rw [hr]
    clear hr h1
    go_enter Try.func11, Try.ntmps11
    go_wp2
    go_ret
    exact ⟨rfl, Below.refl _ _⟩
end Pol
end Go.Proofs.Ytjeokackmkfooaa
