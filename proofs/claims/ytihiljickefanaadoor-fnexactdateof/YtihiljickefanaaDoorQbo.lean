/-
  DaysImpl: DaysOf of the program: how many days after the first of January 1970 a day is; what was there stays.
-/
import Derived.Test.YtihiljickefanaaDoorQbk
import Derived.Test.YtihiljickefanaaDoorQbn
namespace Go.Proofs.YtihiljickefanaaDoor
open Go.RowKit
set_option linter.unusedVariables false
namespace Date

abbrev near (y m d : Int) : Prop := (1970 ≤ y ∧ y ≤ 2037) ∧ (1 ≤ m ∧ m ≤ 12) ∧ (1 ≤ d ∧ d ≤ 31)
theorem inside_near {y m d : Int} (h : inside y m d) : near y m d := by
  have h3 := mlen_bd y (m - 1).toNat (by have := h.2.1; omega)
  have h4 := h.2.2
  exact ⟨h.1, h.2.1, by omega⟩
set_option maxRecDepth 100000 in
set_option maxHeartbeats 4000000 in
theorem days_impl (y m d : Int) (w : World) : Calls Tryd.prog 39 #[.int .i64 y, .int .i64 m, .int .i64 d] w fun e w' => e = .returned (.int .i64 (days y m d)) ∧ Below w.heap.size w w' := by
  by_cases hn : near y m d
  · obtain ⟨j, rfl⟩ : ∃ j : Nat, y = 1970 + (j : Int) := ⟨(y - 1970).toNat, by omega⟩
    obtain ⟨k, rfl⟩ : ∃ k : Nat, m = (k : Int) + 1 := ⟨(m - 1).toNat, by omega⟩
    have hk : ((k : Int) + 1 - 1).toNat = k := by omega
    have hj : (1970 + (j : Int) - 1970).toNat = j := by omega
    obtain ⟨r, hr⟩ : ∃ r, days (1970 + (j : Int)) ((k : Int) + 1) d = r := ⟨_, rfl⟩
    rw [hr]
    have HR := Num.hide hr
    clear hr
    have hj67 : j ≤ 67 := by omega
    have hk11 : k ≤ 11 := by omega
    have hd1 : 1 ≤ d ∧ d ≤ 31 := hn.2.2
    have HA := Num.hide (ahead j k (d - 1) hj67 hk11 (by omega))
    have f1 : decide (1970 + (j : Int) < 1970) = false := by rw [decide_eq_false_iff_not]; omega
    have f2 : decide (2037 < 1970 + (j : Int)) = false := by rw [decide_eq_false_iff_not]; omega
    have f3 : decide ((k : Int) + 1 < 1) = false := by rw [decide_eq_false_iff_not]; omega
    have f4 : decide (12 < (k : Int) + 1) = false := by rw [decide_eq_false_iff_not]; omega
    have f5 : decide (d < 1) = false := by rw [decide_eq_false_iff_not]; omega
    have f6 : decide (31 < d) = false := by rw [decide_eq_false_iff_not]; omega
    clear hn hk hj
    go_enter Tryd.func39, Tryd.ntmps39
    go_wp2_with fail
    clear f1 f2 f3 f4 f5 f6
    go_loop [7, 8] (fun nv yv => ∃ i : Nat, i ≤ j ∧ yv = .int .i64 (1970 + (i : Int)) ∧ nv = .int .i64 (d - 1 + ysum i)) (fun _ yv => (2038 - intOf yv).toNat)
    case atStart => exact ⟨0, by omega, by simp, by simp [ysum]⟩
    case round =>
      obtain ⟨i, hi, rfl, rfl⟩ := hrel
      have hyb := ysum_bd i
      by_cases hlt : 1970 + (i : Int) < 1970 + (j : Int)
      · have HY := Num.hide (fun W => year_impl (1970 + (i : Int)) W)
        have hl := year_len i
        have hst := ysum_step i
        generalize (365 + (if leap (1970 + (i : Int)) = true then 1 else 0) : Int) = L at HY hl
        have HL : Hid (ysum (i + 1) = ysum i + L) := by show _ = _; omega
        have hLb : 365 ≤ L ∧ L ≤ 366 := by omega
        clear hl hst
        go_wp2_with fail
        refine (HY.out _).mono ?_
        rintro e w1 ⟨rfl, rfl⟩
        go_wp2
        go_round
        case rel => exact ⟨i + 1, by omega, by go_num, by rw [HL.out]; go_num⟩
        case measure => simp [intOf]; omega
      · obtain rfl : i = j := by omega
        go_wp2_with fail
        go_loop [7, 9] (fun nv mv => ∃ i2 : Nat, i2 ≤ k ∧ mv = .int .i64 ((i2 : Int) + 1) ∧ nv = .int .i64 (d - 1 + ysum i + msum (1970 + (i : Int)) i2)) (fun _ mv => (13 - intOf mv).toNat)
        case atStart => exact ⟨0, by omega, by simp, by simp [msum]⟩
        case round =>
          obtain ⟨q, hq, rfl, rfl⟩ := hrel
          have hmb := msum_bd (1970 + (i : Int)) q (by omega)
          by_cases hlt2 : (q : Int) + 1 < (k : Int) + 1
          · have HMo := Num.hide (fun W => month_impl (1970 + (i : Int)) q W (by omega))
            have hml := mlen_bd (1970 + (i : Int)) q (by omega)
            have HS : Hid (msum (1970 + (i : Int)) (q + 1) = msum (1970 + (i : Int)) q + mlen (1970 + (i : Int)) q) := rfl
            go_wp2_with fail
            refine (HMo.out _).mono ?_
            rintro e w1 ⟨rfl, rfl⟩
            go_wp2
            go_round
            case rel => exact ⟨q + 1, by omega, by go_num, by rw [HS.out]; go_num⟩
            case measure => simp [intOf]; omega
          · obtain rfl : q = k := by omega
            have HD := Num.hide (fun W => dateOf_impl (d - 1 + ysum i + msum (1970 + (i : Int)) q) W (by omega) (by have := HA.out; omega))
            go_wp2_with fail
            refine (HD.out _).mono ?_
            rintro e w1 ⟨j', k', d', rfl, hp, hb⟩
            have HB := Num.hide hb
            have HP := Num.hide hp
            clear hb hp
            unfold arr
            clear HD HA
            have he := eq_arr (1970 + (j' : Int)) ((k' : Int) + 1) (d' + 1) (1970 + (i : Int)) ((q : Int) + 1) d w1
            by_cases hin : d ≤ mlen (1970 + (i : Int)) q
            · obtain ⟨rfl, rfl, rfl⟩ := HP.out.one (⟨hj67, hk11, by omega, by omega, by omega⟩ : Parts _ i q (d - 1))
              rw [decide_eq_true (by omega), show d - 1 + 1 = d by omega] at he
              rw [show d - 1 + 1 = d by omega]
              obtain rfl : d - 1 + ysum j' + msum (1970 + (j' : Int)) k' = r := by
                rw [← HR.out, days_in ⟨by omega, by omega, by rw [show ((k' : Int) + 1 - 1).toNat = k' by omega]; omega⟩, show ((k' : Int) + 1 - 1).toNat = k' by omega, show (1970 + (j' : Int) - 1970).toNat = j' by omega]
              clear HR HP
              go_wp2
              go_ret
              exact ⟨rfl, HB.out⟩
            · have hno : ¬ (1970 + (j' : Int) = 1970 + (i : Int) ∧ (k' : Int) + 1 = (q : Int) + 1 ∧ d' + 1 = d) := by
                rintro ⟨e1, e2, e3⟩
                obtain rfl : j' = i := by omega
                obtain rfl : k' = q := by omega
                have := HP.out.h1
                omega
              rw [decide_eq_false hno] at he
              obtain rfl : -1 = r := by
                rw [← HR.out, days_out]
                rintro ⟨_, _, _, h⟩
                rw [show ((q : Int) + 1 - 1).toNat = q by omega] at h
                exact hin h
              clear HR HP hno
              go_wp2
              go_ret
              exact ⟨rfl, HB.out⟩
  · have hout : ¬ inside y m d := fun h => hn (inside_near h)
    rw [days_out hout]
    clear hout
    by_cases h1 : y < 1970
    · have f1 : decide (y < 1970) = true := decide_eq_true h1
      clear hn
      go_enter Tryd.func39, Tryd.ntmps39
      go_wp2
      go_ret
      exact ⟨rfl, Below.refl _ _⟩
    · have f1 : decide (y < 1970) = false := decide_eq_false h1
      by_cases h2 : 2037 < y
      · have f2 : decide (2037 < y) = true := decide_eq_true h2
        clear hn
        go_enter Tryd.func39, Tryd.ntmps39
        go_wp2
        go_ret
        exact ⟨rfl, Below.refl _ _⟩
      · have f2 : decide (2037 < y) = false := decide_eq_false h2
        by_cases h3 : m < 1
        · have f3 : decide (m < 1) = true := decide_eq_true h3
          clear hn
          go_enter Tryd.func39, Tryd.ntmps39
          go_wp2
          go_ret
          exact ⟨rfl, Below.refl _ _⟩
        · have f3 : decide (m < 1) = false := decide_eq_false h3
          by_cases h4 : 12 < m
          · have f4 : decide (12 < m) = true := decide_eq_true h4
            clear hn
            go_enter Tryd.func39, Tryd.ntmps39
            go_wp2
            go_ret
            exact ⟨rfl, Below.refl _ _⟩
          · have f4 : decide (12 < m) = false := decide_eq_false h4
            by_cases h5 : d < 1
            · have f5 : decide (d < 1) = true := decide_eq_true h5
              clear hn
              go_enter Tryd.func39, Tryd.ntmps39
              go_wp2
              go_ret
              exact ⟨rfl, Below.refl _ _⟩
            · have f5 : decide (d < 1) = false := decide_eq_false h5
              have h6 : 31 < d := by omega
              have f6 : decide (31 < d) = true := decide_eq_true h6
              clear hn
              go_enter Tryd.func39, Tryd.ntmps39
              go_wp2
              go_ret
              exact ⟨rfl, Below.refl _ _⟩
end Date
end Go.Proofs.YtihiljickefanaaDoor
