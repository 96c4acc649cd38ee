/-
  IsLeap of the program; the world stays.
-/
import Derived.Test.YtihiljickefanaaDoorDateNum
import Derived.Test.YtihiljickefanaaDoorRows
import Derived.WalkKit
import Derived.WalkLawsBesides
import Derived.Below
namespace Go.Proofs.YtihiljickefanaaDoor
open Go.RowKit
set_option linter.unusedVariables false
namespace Date

theorem leap_alt (y : Int) : leap y = (((y.tmod 4 == 0) && (y.tmod 100 != 0)) || (y.tmod 400 == 0)) := by
  unfold leap
  rw [bne, tmod_zero y 4 (by decide), tmod_zero y 100 (by decide), tmod_zero y 400 (by decide)]
  by_cases h4 : y % 4 = 0
  · rw [decide_eq_true h4]; rfl
  · rw [decide_eq_false h4, decide_eq_false (by omega : ¬ y % 400 = 0)]; rfl
set_option maxRecDepth 100000 in
set_option maxHeartbeats 1000000 in
theorem leap_impl_at (y : Int) (w : World) : Calls Tryd.prog 68 #[.int .i64 y] w fun e w' => e = .returned (.bool (leap y)) ∧ w = w' := by
  have hr := leap_alt y
  obtain ⟨r, hr2⟩ : ∃ r, leap y = r := ⟨_, rfl⟩
  rw [hr2] at hr ⊢
  clear hr2
  have b4 : -4 < y.tmod 4 ∧ y.tmod 4 < 4 := ⟨Int.lt_tmod_of_pos _ (by decide), Int.tmod_lt_of_pos _ (by decide)⟩
  have b100 : -100 < y.tmod 100 ∧ y.tmod 100 < 100 := ⟨Int.lt_tmod_of_pos _ (by decide), Int.tmod_lt_of_pos _ (by decide)⟩
  have b400 : -400 < y.tmod 400 ∧ y.tmod 400 < 400 := ⟨Int.lt_tmod_of_pos _ (by decide), Int.tmod_lt_of_pos _ (by decide)⟩
  cases h4 : (y.tmod 4 == 0) with
  | false =>
    rw [h4] at hr
    cases h400 : (y.tmod 400 == 0) with
    | false =>
      rw [h400] at hr
      subst hr
      go_enter Tryd.func68, Tryd.ntmps68
      go_wp2
      go_ret
      exact ⟨rfl, rfl⟩
    | true =>
      rw [h400] at hr
      subst hr
      go_enter Tryd.func68, Tryd.ntmps68
      go_wp2
      go_ret
      exact ⟨rfl, rfl⟩
  | true =>
    rw [h4] at hr
    cases h100 : (y.tmod 100 == 0) with
    | false =>
      have hn : (y.tmod 100 != 0) = true := by rw [bne, h100]; rfl
      rw [hn] at hr
      subst hr
      go_enter Tryd.func68, Tryd.ntmps68
      go_wp2
      go_ret
      exact ⟨rfl, rfl⟩
    | true =>
      have hn : (y.tmod 100 != 0) = false := by rw [bne, h100]; rfl
      rw [hn] at hr
      cases h400 : (y.tmod 400 == 0) with
      | false =>
        rw [h400] at hr
        subst hr
        go_enter Tryd.func68, Tryd.ntmps68
        go_wp2
        go_ret
        exact ⟨rfl, rfl⟩
      | true =>
        rw [h400] at hr
        subst hr
        go_enter Tryd.func68, Tryd.ntmps68
        go_wp2
        go_ret
        exact ⟨rfl, rfl⟩
theorem leap_impl (y : Int) (w : World) : Calls Tryd.prog 68 #[.int .i64 y] w fun e w' => e = .returned (.bool (leap y)) ∧ Below w.heap.size w w' :=
  (leap_impl_at y w).mono fun e w' ⟨h1, h2⟩ => ⟨h1, by subst h2; exact Below.refl _ _⟩
end Date
end Go.Proofs.YtihiljickefanaaDoor
