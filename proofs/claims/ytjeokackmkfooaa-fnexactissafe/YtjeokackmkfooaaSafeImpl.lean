/-
  IsSafe of the program.
-/
import Derived.Test.YtjeokackmkfooaaSafeNum
import Derived.Test.YtjeokackmkfooaaNum
import Derived.Test.YtjeokackmkfooaaRows
namespace Go.Proofs.Ytjeokackmkfooaa
open Go.RowKit
set_option linter.unusedVariables false
set_option linter.unusedSimpArgs false
namespace Pol

set_option maxRecDepth 100000 in
set_option maxHeartbeats 1000000 in
theorem isSafe_impl (m : ByteArray) (w : World) : Calls Try.prog 7 #[.string m] w fun e w' => e = .returned (.bool (isSafe m)) ∧ Below w.heap.size w w' := by
  obtain ⟨r, hr⟩ : ∃ r, isSafe m = r := ⟨_, rfl⟩
  rw [hr]
  unfold isSafe at hr
  have HR := Num.hide hr
  clear hr
  by_cases h1 : m = getM
  · have d1 := text_is (y := [71, 69, 84]) h1
    obtain rfl : r = true := by rw [← HR.out, decide_eq_true h1]; simp
    clear HR h1
    go_enter Try.func7, Try.ntmps7
    go_wp2
    go_ret
    exact ⟨rfl, Below.refl _ _⟩
  · have d1 := text_not (y := [71, 69, 84]) h1
    by_cases h2 : m = headM
    · have d2 := text_is (y := [72, 69, 65, 68]) h2
      obtain rfl : r = true := by rw [← HR.out, decide_eq_true h2]; simp
      clear HR h1 h2
      go_enter Try.func7, Try.ntmps7
      go_wp2
      go_ret
      exact ⟨rfl, Below.refl _ _⟩
    · have d2 := text_not (y := [72, 69, 65, 68]) h2
      by_cases h3 : m = optM
      · have d3 := text_is (y := [79, 80, 84, 73, 79, 78, 83]) h3
        obtain rfl : r = true := by rw [← HR.out, decide_eq_true h3]; simp
        clear HR h1 h2 h3
        go_enter Try.func7, Try.ntmps7
        go_wp2
        go_ret
        exact ⟨rfl, Below.refl _ _⟩
      · have d3 := text_not (y := [79, 80, 84, 73, 79, 78, 83]) h3
        by_cases h4 : m = traceM
        · have d4 := text_is (y := [84, 82, 65, 67, 69]) h4
          obtain rfl : r = true := by rw [← HR.out, decide_eq_true h4]; simp
          clear HR h1 h2 h3 h4
          go_enter Try.func7, Try.ntmps7
          go_wp2
          go_ret
          exact ⟨rfl, Below.refl _ _⟩
        · have d4 := text_not (y := [84, 82, 65, 67, 69]) h4
          obtain rfl : r = false := by rw [← HR.out, decide_eq_false h1, decide_eq_false h2, decide_eq_false h3, decide_eq_false h4]; rfl
          clear HR h1 h2 h3 h4
          go_enter Try.func7, Try.ntmps7
          go_wp2
          go_ret
          exact ⟨rfl, Below.refl _ _⟩
end Pol
end Go.Proofs.Ytjeokackmkfooaa
