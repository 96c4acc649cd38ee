/-
  Heuristic and Succeeded of the program.
-/
import Derived.Test.YtjeokackmkfooaaHeurNum
import Derived.Test.YtjeokackmkfooaaNum
import Derived.Test.YtjeokackmkfooaaRows
import Derived.Below
namespace Go.Proofs.Ytjeokackmkfooaa
open Go.RowKit
set_option linter.unusedVariables false
set_option linter.unusedSimpArgs false
namespace Pol

set_option maxRecDepth 100000 in
set_option maxHeartbeats 2000000 in
theorem heuristic_impl (st : Int) (w : World) : Calls Try.prog 9 #[.int .i64 st] w fun e w' => e = .returned (.bool (heuristic st)) ∧ w = w' := by
  by_cases h200 : st = 200
  · subst h200
    have hr : heuristic 200 = true := by decide +kernel
    rw [hr]
    clear hr
    go_enter Try.func9, Try.ntmps9
    go_wp2
    go_ret
    exact ⟨rfl, rfl⟩
  have d200 : (st == 200) = false := beq_eq_false_iff_ne.2 h200
  by_cases h203 : st = 203
  · subst h203
    have hr : heuristic 203 = true := by decide +kernel
    rw [hr]
    clear hr
    go_enter Try.func9, Try.ntmps9
    go_wp2
    go_ret
    exact ⟨rfl, rfl⟩
  have d203 : (st == 203) = false := beq_eq_false_iff_ne.2 h203
  by_cases h204 : st = 204
  · subst h204
    have hr : heuristic 204 = true := by decide +kernel
    rw [hr]
    clear hr
    go_enter Try.func9, Try.ntmps9
    go_wp2
    go_ret
    exact ⟨rfl, rfl⟩
  have d204 : (st == 204) = false := beq_eq_false_iff_ne.2 h204
  by_cases h300 : st = 300
  · subst h300
    have hr : heuristic 300 = true := by decide +kernel
    rw [hr]
    clear hr
    go_enter Try.func9, Try.ntmps9
    go_wp2
    go_ret
    exact ⟨rfl, rfl⟩
  have d300 : (st == 300) = false := beq_eq_false_iff_ne.2 h300
  by_cases h301 : st = 301
  · subst h301
    have hr : heuristic 301 = true := by decide +kernel
    rw [hr]
    clear hr
    go_enter Try.func9, Try.ntmps9
    go_wp2
    go_ret
    exact ⟨rfl, rfl⟩
  have d301 : (st == 301) = false := beq_eq_false_iff_ne.2 h301
  by_cases h404 : st = 404
  · subst h404
    have hr : heuristic 404 = true := by decide +kernel
    rw [hr]
    clear hr
    go_enter Try.func9, Try.ntmps9
    go_wp2
    go_ret
    exact ⟨rfl, rfl⟩
  have d404 : (st == 404) = false := beq_eq_false_iff_ne.2 h404
  by_cases h410 : st = 410
  · subst h410
    have hr : heuristic 410 = true := by decide +kernel
    rw [hr]
    clear hr
    go_enter Try.func9, Try.ntmps9
    go_wp2
    go_ret
    exact ⟨rfl, rfl⟩
  have d410 : (st == 410) = false := beq_eq_false_iff_ne.2 h410
  have hr : heuristic st = false := by
    unfold heuristic heurList
    refine decide_eq_false ?_
    simp only [List.mem_cons, List.not_mem_nil, or_false]
    omega
  rw [hr]
  clear hr
  go_enter Try.func9, Try.ntmps9
  go_wp2
  go_ret
  exact ⟨rfl, rfl⟩
theorem heuristic_impl_b (st : Int) (w : World) : Calls Try.prog 9 #[.int .i64 st] w fun e w' => e = .returned (.bool (heuristic st)) ∧ Below w.heap.size w w' :=
  (heuristic_impl st w).mono fun e w' h => ⟨h.1, h.2 ▸ Below.refl _ _⟩
end Pol
end Go.Proofs.Ytjeokackmkfooaa
