/-
  DayImpl: yearDays, monthDays and dateOf of the program; what was there stays.
-/
import Derived.Test.YtihiljickefanaaDoorQbf
import Derived.Test.YtihiljickefanaaDoorQbj
namespace Go.Proofs.YtihiljickefanaaDoor
open Go.RowKit
set_option linter.unusedVariables false
namespace Date

theorem year_len (j : Nat) : ysum (j + 1) - ysum j = 365 + (if leap (1970 + (j : Int)) = true then 1 else 0) := by
  have h : ysum (j + 1) = ysum j + 365 + (if leap (1970 + (j : Int)) = true then 1 else 0) := rfl
  omega
set_option maxRecDepth 100000 in
set_option maxHeartbeats 1000000 in
theorem year_impl (y : Int) (w : World) : Calls Tryd.prog 54 #[.int .i64 y] w fun e w' => e = .returned (.int .i64 (365 + (if leap y = true then 1 else 0))) ∧ w = w' := by
  have HL := Num.hide (fun W => leap_impl_at y W)
  cases hl : leap y with
  | false =>
    rw [hl] at HL
    rw [if_neg (by decide)]
    go_enter Tryd.func54, Tryd.ntmps54
    go_wp2_with fail
    refine (HL.out _).mono ?_
    rintro e w1 ⟨rfl, rfl⟩
    go_wp2
    go_ret
    exact ⟨rfl, rfl⟩
  | true =>
    rw [hl] at HL
    rw [if_pos rfl]
    go_enter Tryd.func54, Tryd.ntmps54
    go_wp2_with fail
    refine (HL.out _).mono ?_
    rintro e w1 ⟨rfl, rfl⟩
    go_wp2
    go_ret
    exact ⟨rfl, rfl⟩
set_option maxRecDepth 100000 in
set_option maxHeartbeats 4000000 in
theorem month_impl (y : Int) (k : Nat) (w : World) (hk : k < 12) : Calls Tryd.prog 55 #[.int .i64 y, .int .i64 ((k : Int) + 1)] w fun e w' => e = .returned (.int .i64 (mlen y k)) ∧ w = w' := by
  by_cases h2 : k = 1
  · subst h2
    have hm : mlen y 1 = feb y := rfl
    rw [hm]
    unfold feb
    have HL := Num.hide (fun W => leap_impl_at y W)
    cases hl : leap y with
    | false =>
      rw [hl] at HL
      rw [if_neg (by decide)]
      go_enter Tryd.func55, Tryd.ntmps55
      go_wp2_with fail
      refine (HL.out _).mono ?_
      rintro e w1 ⟨rfl, rfl⟩
      go_wp2
      go_ret
      exact ⟨rfl, rfl⟩
    | true =>
      rw [hl] at HL
      rw [if_pos rfl]
      go_enter Tryd.func55, Tryd.ntmps55
      go_wp2_with fail
      refine (HL.out _).mono ?_
      rintro e w1 ⟨rfl, rfl⟩
      go_wp2
      go_ret
      exact ⟨rfl, rfl⟩
  · by_cases h30 : k = 3 ∨ k = 5 ∨ k = 8 ∨ k = 10
    · have hm : mlen y k = 30 := by rcases h30 with rfl | rfl | rfl | rfl <;> rfl
      rw [hm]
      clear hm h2 hk
      rcases h30 with rfl | rfl | rfl | rfl
      all_goals
        go_enter Tryd.func55, Tryd.ntmps55
        go_wp2
        go_ret
        exact ⟨rfl, rfl⟩
    · have hm : mlen y k = 31 := by
        have : k = 0 ∨ k = 2 ∨ k = 4 ∨ k = 6 ∨ k = 7 ∨ k = 9 ∨ k = 11 := by omega
        rcases this with rfl | rfl | rfl | rfl | rfl | rfl | rfl <;> rfl
      rw [hm]
      have e2 : (((k : Int) + 1) == 2) = false := by rw [beq_eq_false_iff_ne]; omega
      have e4 : (((k : Int) + 1) == 4) = false := by rw [beq_eq_false_iff_ne]; omega
      have e6 : (((k : Int) + 1) == 6) = false := by rw [beq_eq_false_iff_ne]; omega
      have e9 : (((k : Int) + 1) == 9) = false := by rw [beq_eq_false_iff_ne]; omega
      have e11 : (((k : Int) + 1) == 11) = false := by rw [beq_eq_false_iff_ne]; omega
      clear hm h2 h30
      go_enter Tryd.func55, Tryd.ntmps55
      go_wp2
      go_ret
      exact ⟨rfl, rfl⟩
/-- a year, a month and a day as the program holds them -/
def arr (j k : Nat) (d : Int) : Value := .agg #[.int .i64 (1970 + (j : Int)), .int .i64 ((k : Int) + 1), .int .i64 (d + 1)]
set_option maxRecDepth 100000 in
set_option maxHeartbeats 4000000 in
theorem dateOf_impl (D : Int) (w : World) (h0 : 0 ≤ D) (h1 : D < ysum 68) : Calls Tryd.prog 56 #[.int .i64 D] w fun e w' => ∃ j k d, e = .returned (arr j k d) ∧ Parts D j k d ∧ Below w.heap.size w w' := by
  have b68 := ysum_bd 68
  have hD : D < 24888 := by omega
  have H1 := Num.hide h1
  clear h1 b68
  go_enter Tryd.func56, Tryd.ntmps56
  go_wp2_with fail
  go_loop [0, 3] (fun dv yv => ∃ j : Nat, j ≤ 67 ∧ yv = .int .i64 (1970 + (j : Int)) ∧ dv = .int .i64 (D - ysum j) ∧ Hid (ysum j ≤ D)) (fun _ yv => (2038 - intOf yv).toNat)
  case atStart => exact ⟨0, by omega, by simp, by simp [ysum], h0⟩
  case round =>
    obtain ⟨j, hj, rfl, rfl, HJ⟩ := hrel
    have hyb := ysum_bd j
    have hle := HJ.out
    have hl := year_len j
    have HY := Num.hide (fun W => year_impl (1970 + (j : Int)) W)
    have hst := ysum_step j
    have HM := Num.hide (ysum_next j)
    generalize (365 + (if leap (1970 + (j : Int)) = true then 1 else 0) : Int) = L at HY hl
    obtain rfl : L = ysum (j + 1) - ysum j := hl.symm
    clear hl
    by_cases hc : ysum (j + 1) ≤ D
    · have h67 : j < 67 := by
        have h1 : D < ysum (67 + 1) := H1.out
        by_cases e : j = 67
        · subst e; omega
        · omega
      go_wp2_with fail
      refine (HY.out _).mono ?_
      rintro e w1 ⟨rfl, rfl⟩
      go_wp2_with fail
      refine (HY.out _).mono ?_
      rintro e w1 ⟨rfl, rfl⟩
      go_wp2
      go_round
      case rel => exact ⟨j + 1, by omega, by go_num, by go_num, hc⟩
      case measure => simp [intOf]; omega
    · go_wp2_with fail
      refine (HY.out _).mono ?_
      rintro e w1 ⟨rfl, rfl⟩
      clear HY
      have hm12 : D - ysum j < msum (1970 + (j : Int)) 12 := by have := HM.out; omega
      have H12 := Num.hide hm12
      clear HM hm12
      go_wp2_with fail
      go_loop [0, 4] (fun dv mv => ∃ k : Nat, k ≤ 11 ∧ mv = .int .i64 ((k : Int) + 1) ∧ dv = .int .i64 (D - ysum j - msum (1970 + (j : Int)) k) ∧ Hid (msum (1970 + (j : Int)) k ≤ D - ysum j)) (fun _ mv => (13 - intOf mv).toNat)
      case atStart => exact ⟨0, by omega, by simp, by simp [msum], by show (0 : Int) ≤ _; omega⟩
      case round =>
        obtain ⟨k, hk, rfl, rfl, HK⟩ := hrel
        have hmb := msum_bd (1970 + (j : Int)) k (by omega)
        have hmk := HK.out
        have hml := mlen_bd (1970 + (j : Int)) k (by omega)
        have HMo := Num.hide (fun W => month_impl (1970 + (j : Int)) k W (by omega))
        have hs : msum (1970 + (j : Int)) (k + 1) = msum (1970 + (j : Int)) k + mlen (1970 + (j : Int)) k := rfl
        by_cases hc2 : mlen (1970 + (j : Int)) k ≤ D - ysum j - msum (1970 + (j : Int)) k
        · have h11 : k < 11 := by
            have h1 : D - ysum j < msum (1970 + (j : Int)) (11 + 1) := H12.out
            by_cases e : k = 11
            · subst e; omega
            · omega
          have HN : Hid (msum (1970 + (j : Int)) (k + 1) ≤ D - ysum j) := by show _ ≤ _; omega
          have HS := Num.hide hs
          clear hs
          go_wp2_with fail
          refine (HMo.out _).mono ?_
          rintro e w1 ⟨rfl, rfl⟩
          go_wp2_with fail
          refine (HMo.out _).mono ?_
          rintro e w1 ⟨rfl, rfl⟩
          go_wp2
          go_round
          case rel => exact ⟨k + 1, by omega, by go_num, by rw [HS.out]; go_num, HN⟩
          case measure => simp [intOf]; omega
        · have HP : Hid (Parts D j k (D - ysum j - msum (1970 + (j : Int)) k)) := ⟨hj, hk, by omega, by omega, by omega⟩
          clear hs
          go_wp2_with fail
          refine (HMo.out _).mono ?_
          rintro e w1 ⟨rfl, rfl⟩
          go_wp2
          exact bodyPost_ret (v := arr j k (D - ysum j - msum (1970 + (j : Int)) k)) (by simp [results, Tryd.results56, go_sem, arr]) rfl ⟨j, k, _, rfl, HP.out, (Below.refl _ _).alloc (Nat.le_refl _) _⟩
end Date
end Go.Proofs.YtihiljickefanaaDoor
