/-
  Succeeded of the specification.
-/
import Derived.Test.YtjeokackmkfooaaSafeNum
import Derived.Test.YtjeokackmkfooaaInSpec
namespace Go.Proofs.Ytjeokackmkfooaa
open Go.RowKit
set_option linter.unusedVariables false
namespace Pol

set_option maxRecDepth 100000 in
set_option maxHeartbeats 1000000 in
theorem succeeded_spec (st : Int) (w : World) : Calls Try.prog 10 #[.int .i64 st] w fun e w' => e = .returned (.bool (succeeded st)) ∧ Below w.heap.size w w' := by
  have HI := Num.hide (fun W => Date.in_spec st 200 399 W)
  unfold succeeded
  generalize decide (200 ≤ st ∧ st ≤ 399) = r at HI ⊢
  go_enter Try.func10, Try.ntmps10
  go_wp2_with fail
  refine (HI.out _).mono ?_
  rintro e w1 ⟨rfl, rfl⟩
  go_wp2
  go_ret
  exact ⟨rfl, Below.refl _ _⟩
end Pol
end Go.Proofs.Ytjeokackmkfooaa
