/-
  DaysOf of the specification: how many days after the first of January 1970 a day is; what was there stays.
-/
import Derived.Test.YtkogcbnbmdeolaaDoorLeapSpec
import Derived.Below
namespace Go.Proofs.YtkogcbnbmdeolaaDoor
open Go.RowKit
set_option linter.unusedVariables false
namespace Date

theorem mcell (w : World) (y : Int) (k : Nat) (h : k < 12) : (w.alloc (.cells (mrow y) 3)).cell? ⟨w.heap.size, k, none⟩ = some (.int .i64 (mlen y k)) := by
  rw [cell_of_row _ _ _ _ _ _ (heap_alloc_new w _)]
  exact mrow_at y k h
set_option maxRecDepth 100000 in
set_option maxHeartbeats 2000000 in
theorem days_spec (y m d : Int) (w : World) : Calls Tryd.prog 106 #[.int .i64 y, .int .i64 m, .int .i64 d] w fun e w' => e = .returned (.int .i64 (days y m d)) ∧ Below w.heap.size w w' := by
  by_cases h1 : 1970 ≤ y ∧ y ≤ 2037
  · by_cases h2 : 1 ≤ m ∧ m ≤ 12
    · obtain ⟨k, rfl⟩ : ∃ k : Nat, m = (k : Int) + 1 := ⟨(m - 1).toNat, by omega⟩
      have hk : ((k : Int) + 1 - 1).toNat = k := by omega
      have hb := mlen_bd y k (by omega)
      by_cases h3 : 1 ≤ d ∧ d ≤ mlen y k
      · have hin : inside y ((k : Int) + 1) d := ⟨h1, h2, by rw [hk]; exact h3⟩
        obtain ⟨r, hr⟩ : ∃ r, days y ((k : Int) + 1) d = r := ⟨_, rfl⟩
        rw [hr]
        rw [days_in hin, hk] at hr
        have HR := Num.hide hr
        clear hr hin hk
        have HC := Num.hide (mcell w y k (by omega))
        have hc := mcell w y k (by omega)
        have HB0 := Num.hide ((Below.refl w.heap.size w).alloc (Nat.le_refl _) (.cells (mrow y) 3))
        go_enter Tryd.func106, Tryd.ntmps106
        go_wp2_with fail
        refine (in_spec _ _ _ _).mono ?_
        rintro e w1 ⟨rfl, rfl⟩
        rw [decide_eq_true h1]
        go_wp2_with fail
        refine (in_spec _ _ _ _).mono ?_
        rintro e w1 ⟨rfl, rfl⟩
        rw [decide_eq_true h2]
        go_wp2_with fail
        refine (months_spec _ _).mono ?_
        rintro e w1 ⟨rfl, rfl⟩
        go_wp2_with fail
        refine (in_spec _ _ _ _).mono ?_
        rintro e w1 ⟨rfl, rfl⟩
        rw [decide_eq_true h3]
        clear hc HC
        generalize w.alloc (.cells (mrow y) 3) = w2 at HB0 ⊢
        go_wp2
        go_loop [7, 8] (fun nv yv => ∃ j : Nat, 1970 + (j : Int) ≤ y ∧ yv = .int .i64 (1970 + (j : Int)) ∧ nv = .int .i64 (d - 1 + ysum j)) (fun _ yv => (y - intOf yv).toNat)
        case atStart => exact ⟨0, by omega, by simp, by simp [ysum]⟩
        case round =>
          obtain ⟨j, hj, rfl, rfl⟩ := hrel
          have hyb := ysum_bd j
          by_cases hlt : 1970 + (j : Int) < y
          · have hs : ysum (j + 1) = ysum j + 365 + (if leap (1970 + (j : Int)) = true then 1 else 0) := rfl
            cases hl : leap (1970 + (j : Int)) with
            | false =>
              rw [hl, if_neg (by decide)] at hs
              have HL := Num.hide (fun W => leap_spec (1970 + (j : Int)) W)
              rw [hl] at HL
              go_wp2_with fail
              refine (Num.unhide HL _).mono ?_
              rintro e w1 ⟨rfl, rfl⟩
              go_wp2
              go_round
              case rel => exact ⟨j + 1, by omega, by go_num, by rw [hs]; go_num⟩
              case measure => simp [intOf]; omega
            | true =>
              rw [hl, if_pos rfl] at hs
              have HL := Num.hide (fun W => leap_spec (1970 + (j : Int)) W)
              rw [hl] at HL
              go_wp2_with fail
              refine (Num.unhide HL _).mono ?_
              rintro e w1 ⟨rfl, rfl⟩
              go_wp2
              go_round
              case rel => exact ⟨j + 1, by omega, by go_num, by rw [hs]; go_num⟩
              case measure => simp [intOf]; omega
          · have hr := HR.out
            rw [show (y - 1970).toNat = j by omega] at hr
            have HR2 := Num.hide hr
            have hmb := msum_bd y k (by omega)
            clear hr HR
            go_wp2
            go_loopw [7, 9] (fun nv mv wr => ∃ i : Nat, i ≤ k ∧ mv = .int .i64 ((i : Int) + 1) ∧ nv = .int .i64 (d - 1 + ysum j + msum y i) ∧ Hid (Below w.heap.size w wr)) (fun _ mv _ => (k + 1 - intOf mv).toNat)
            case atStart => exact ⟨0, by omega, by simp, by simp [msum], HB0⟩
            case round =>
              obtain ⟨i, hi, rfl, rfl, HB⟩ := hrel
              have hsz := HB.out.size
              have hib := msum_bd y i (by omega)
              by_cases hlt2 : i < k
              · have hs : msum y (i + 1) = msum y i + mlen y i := rfl
                have hc := mcell wr y i (by omega)
                have hmi := mlen_bd y i (by omega)
                have HB1 := Num.hide (HB.out.alloc hsz (.cells (mrow y) 3))
                go_wp2_with fail
                refine (months_spec _ _).mono ?_
                rintro e w1 ⟨rfl, rfl⟩
                go_wp2
                go_roundw
                case rel => exact ⟨i + 1, by omega, by go_num, by rw [hs]; go_num, HB1⟩
                case measure => simp [intOf]; omega
              · obtain rfl : i = k := by omega
                have hr := HR2.out
                subst hr
                clear HR2
                go_wp2
                go_ret
                exact ⟨rfl, HB.out⟩
      · have hout : ¬ inside y ((k : Int) + 1) d := fun h => h3 (by have := h.2.2; rw [hk] at this; exact this)
        rw [days_out hout]
        have hc := mcell w y k (by omega)
        have HB0 := Num.hide ((Below.refl w.heap.size w).alloc (Nat.le_refl _) (.cells (mrow y) 3))
        clear hout hk
        go_enter Tryd.func106, Tryd.ntmps106
        go_wp2_with fail
        refine (in_spec _ _ _ _).mono ?_
        rintro e w1 ⟨rfl, rfl⟩
        rw [decide_eq_true h1]
        go_wp2_with fail
        refine (in_spec _ _ _ _).mono ?_
        rintro e w1 ⟨rfl, rfl⟩
        rw [decide_eq_true h2]
        go_wp2_with fail
        refine (months_spec _ _).mono ?_
        rintro e w1 ⟨rfl, rfl⟩
        go_wp2_with fail
        refine (in_spec _ _ _ _).mono ?_
        rintro e w1 ⟨rfl, rfl⟩
        rw [decide_eq_false h3]
        go_wp2
        go_ret
        exact ⟨rfl, HB0.out⟩
    · have hout : ¬ inside y m d := fun h => h2 h.2.1
      rw [days_out hout]
      clear hout
      go_enter Tryd.func106, Tryd.ntmps106
      go_wp2_with fail
      refine (in_spec _ _ _ _).mono ?_
      rintro e w1 ⟨rfl, rfl⟩
      rw [decide_eq_true h1]
      go_wp2_with fail
      refine (in_spec _ _ _ _).mono ?_
      rintro e w1 ⟨rfl, rfl⟩
      rw [decide_eq_false h2]
      go_wp2
      go_ret
      exact ⟨rfl, Below.refl _ _⟩
  · have hout : ¬ inside y m d := fun h => h1 h.1
    rw [days_out hout]
    clear hout
    go_enter Tryd.func106, Tryd.ntmps106
    go_wp2_with fail
    refine (in_spec _ _ _ _).mono ?_
    rintro e w1 ⟨rfl, rfl⟩
    rw [decide_eq_false h1]
    go_wp2
    go_ret
    exact ⟨rfl, Below.refl _ _⟩
end Date
end Go.Proofs.YtkogcbnbmdeolaaDoor
