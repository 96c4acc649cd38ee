/-
  Reason of the program: the words of a status.
-/
import Derived.Test.YtmiahdiadlnijaaReasonNum
import Derived.Test.YtmiahdiadlnijaaNum
import Derived.Test.YtmiahdiadlnijaaRows
import Derived.WalkKit
import Derived.WalkLawsBesides
import Derived.Below
namespace Go.Proofs.Ytmiahdiadlnijaa
open Go.RowKit
set_option linter.unusedVariables false
namespace Msg

theorem reasonF_other (st : Int) (h : ∀ i, i < 11 → ¬ known.getD i 0 = st) : ∀ (n i : Nat), i + n = 11 → reasonF st n i = ⟨#[83, 116, 97, 116, 117, 115]⟩ := by
  intro n
  induction n with
  | zero => intro i _; rfl
  | succ n ih =>
    intro i hi
    unfold reasonF
    rw [if_neg (h i (by omega)), ih (i + 1) (by omega)]
set_option maxRecDepth 100000 in
set_option maxHeartbeats 2000000 in
theorem reason_impl (st : Int) (w : World) : Calls Try.prog 14 #[.int .i64 st] w fun e w' => e = .returned (.string (reason st)) ∧ w = w' := by
  by_cases h200 : st = 200
  · subst h200
    have hr : reason 200 = texts.getD 0 ⟨#[]⟩ := by decide +kernel
    rw [hr]
    clear hr
    go_enter Try.func14, Try.ntmps14
    go_wp2
    go_ret
    exact ⟨rfl, rfl⟩
  by_cases h203 : st = 203
  · subst h203
    have hr : reason 203 = texts.getD 1 ⟨#[]⟩ := by decide +kernel
    rw [hr]
    clear hr
    go_enter Try.func14, Try.ntmps14
    go_wp2
    go_ret
    exact ⟨rfl, rfl⟩
  by_cases h204 : st = 204
  · subst h204
    have hr : reason 204 = texts.getD 2 ⟨#[]⟩ := by decide +kernel
    rw [hr]
    clear hr
    go_enter Try.func14, Try.ntmps14
    go_wp2
    go_ret
    exact ⟨rfl, rfl⟩
  by_cases h300 : st = 300
  · subst h300
    have hr : reason 300 = texts.getD 3 ⟨#[]⟩ := by decide +kernel
    rw [hr]
    clear hr
    go_enter Try.func14, Try.ntmps14
    go_wp2
    go_ret
    exact ⟨rfl, rfl⟩
  by_cases h301 : st = 301
  · subst h301
    have hr : reason 301 = texts.getD 4 ⟨#[]⟩ := by decide +kernel
    rw [hr]
    clear hr
    go_enter Try.func14, Try.ntmps14
    go_wp2
    go_ret
    exact ⟨rfl, rfl⟩
  by_cases h304 : st = 304
  · subst h304
    have hr : reason 304 = texts.getD 5 ⟨#[]⟩ := by decide +kernel
    rw [hr]
    clear hr
    go_enter Try.func14, Try.ntmps14
    go_wp2
    go_ret
    exact ⟨rfl, rfl⟩
  by_cases h400 : st = 400
  · subst h400
    have hr : reason 400 = texts.getD 6 ⟨#[]⟩ := by decide +kernel
    rw [hr]
    clear hr
    go_enter Try.func14, Try.ntmps14
    go_wp2
    go_ret
    exact ⟨rfl, rfl⟩
  by_cases h404 : st = 404
  · subst h404
    have hr : reason 404 = texts.getD 7 ⟨#[]⟩ := by decide +kernel
    rw [hr]
    clear hr
    go_enter Try.func14, Try.ntmps14
    go_wp2
    go_ret
    exact ⟨rfl, rfl⟩
  by_cases h410 : st = 410
  · subst h410
    have hr : reason 410 = texts.getD 8 ⟨#[]⟩ := by decide +kernel
    rw [hr]
    clear hr
    go_enter Try.func14, Try.ntmps14
    go_wp2
    go_ret
    exact ⟨rfl, rfl⟩
  by_cases h502 : st = 502
  · subst h502
    have hr : reason 502 = texts.getD 9 ⟨#[]⟩ := by decide +kernel
    rw [hr]
    clear hr
    go_enter Try.func14, Try.ntmps14
    go_wp2
    go_ret
    exact ⟨rfl, rfl⟩
  by_cases h504 : st = 504
  · subst h504
    have hr : reason 504 = texts.getD 10 ⟨#[]⟩ := by decide +kernel
    rw [hr]
    clear hr
    go_enter Try.func14, Try.ntmps14
    go_wp2
    go_ret
    exact ⟨rfl, rfl⟩
  · obtain ⟨r, hr⟩ : ∃ r, reason st = r := ⟨_, rfl⟩
    obtain rfl : ⟨#[83, 116, 97, 116, 117, 115]⟩ = r := by
      rw [← hr]
      unfold reason
      rw [reasonF_other st ?_ 11 0 rfl]
      intro i hi
      match i, hi with
      | 0, _ => exact fun h => h200 h.symm
      | 1, _ => exact fun h => h203 h.symm
      | 2, _ => exact fun h => h204 h.symm
      | 3, _ => exact fun h => h300 h.symm
      | 4, _ => exact fun h => h301 h.symm
      | 5, _ => exact fun h => h304 h.symm
      | 6, _ => exact fun h => h400 h.symm
      | 7, _ => exact fun h => h404 h.symm
      | 8, _ => exact fun h => h410 h.symm
      | 9, _ => exact fun h => h502 h.symm
      | 10, _ => exact fun h => h504 h.symm
    rw [hr]
    clear hr
    have d200 : (st == 200) = false := by rw [beq_eq_false_iff_ne]; exact h200
    have d203 : (st == 203) = false := by rw [beq_eq_false_iff_ne]; exact h203
    have d204 : (st == 204) = false := by rw [beq_eq_false_iff_ne]; exact h204
    have d300 : (st == 300) = false := by rw [beq_eq_false_iff_ne]; exact h300
    have d301 : (st == 301) = false := by rw [beq_eq_false_iff_ne]; exact h301
    have d304 : (st == 304) = false := by rw [beq_eq_false_iff_ne]; exact h304
    have d400 : (st == 400) = false := by rw [beq_eq_false_iff_ne]; exact h400
    have d404 : (st == 404) = false := by rw [beq_eq_false_iff_ne]; exact h404
    have d410 : (st == 410) = false := by rw [beq_eq_false_iff_ne]; exact h410
    have d502 : (st == 502) = false := by rw [beq_eq_false_iff_ne]; exact h502
    have d504 : (st == 504) = false := by rw [beq_eq_false_iff_ne]; exact h504
    go_enter Try.func14, Try.ntmps14
    go_wp2
    go_ret
    exact ⟨rfl, rfl⟩
theorem reason_impl_b (st : Int) (w : World) : Calls Try.prog 14 #[.int .i64 st] w fun e w' => e = .returned (.string (reason st)) ∧ Below w.heap.size w w' :=
  (reason_impl st w).mono (fun _ _ h => ⟨h.1, h.2 ▸ Below.refl _ _⟩)
end Msg
end Go.Proofs.Ytmiahdiadlnijaa
