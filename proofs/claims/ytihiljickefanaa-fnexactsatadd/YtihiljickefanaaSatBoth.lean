/-
  SatAdd of both, as a law's walk wants it.
-/
import Derived.Test.YtihiljickefanaaSatSpec
import Derived.Test.YtihiljickefanaaSatImpl
namespace Go.Proofs.Ytihiljickefanaa
open Go.RowKit
set_option linter.unusedVariables false
namespace Age

theorem satAdd_spec_b (a b : Int) (w : World) : Calls Try.prog 4 #[.int .i64 a, .int .i64 b] w fun e w' => e = .returned (.int .i64 (satAdd a b)) ∧ Below w.heap.size w w' :=
  (satAdd_spec a b w).mono fun e w' h => ⟨h.1, h.2 ▸ Below.refl _ _⟩
theorem satAdd_impl_b (a b : Int) (w : World) : Calls Try.prog 5 #[.int .i64 a, .int .i64 b] w fun e w' => e = .returned (.int .i64 (satAdd a b)) ∧ Below w.heap.size w w' :=
  (satAdd_impl a b w).mono fun e w' h => ⟨h.1, h.2 ▸ Below.refl _ _⟩
end Age
end Go.Proofs.Ytihiljickefanaa
