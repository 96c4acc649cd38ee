/-
  ReadHexSpec: ReadHexNum of the specification: the number of one to six digits.
-/
import Derived.Test.YtkenmilglfnmbaaDoorPab
import Derived.Test.YtkenmilglfnmbaaDoorPae
import Derived.Test.YtkenmilglfnmbaaDoorPaf
import Derived.Laws.Strings
namespace Go.Proofs.YtkenmilglfnmbaaDoor
open Go.RowKit
set_option linter.unusedVariables false
namespace Body

theorem hv_dig {c : Int} (h : 48 ≤ c ∧ c ≤ 57) : hv c = c - 48 := if_pos h
theorem hv_low {c : Int} (h : 97 ≤ c ∧ c ≤ 102) : hv c = c - 97 + 10 := by unfold hv; rw [if_neg (by omega), if_pos h]
theorem hv_up {c : Int} (h : 65 ≤ c ∧ c ≤ 70) : hv c = c - 65 + 10 := by unfold hv; rw [if_neg (by omega), if_neg (by omega), if_pos h]
theorem hv_none {c : Int} (h1 : ¬ (48 ≤ c ∧ c ≤ 57)) (h2 : ¬ (97 ≤ c ∧ c ≤ 102)) (h3 : ¬ (65 ≤ c ∧ c ≤ 70)) : hv c = -1 := by unfold hv; rw [if_neg h1, if_neg h2, if_neg h3]
theorem all_more (s : ByteArray) (k : Nat) (h : k < s.size) (ha : (s.data.toList.take k).all isHex = true) (hv0 : 0 ≤ hv (s[k].toNat : Int)) : (s.data.toList.take (k + 1)).all isHex = true := by
  rw [Sign.all_take s isHex k h, ha, Bool.true_and]
  exact decide_eq_true hv0
set_option maxRecDepth 100000 in
set_option maxHeartbeats 4000000 in
theorem readHex_spec (s : ByteArray) (w : World) (hs : s.size ≤ maxLen) :
    Calls Tryd.prog 13 #[.string s] w fun e w' => e = .returned (.tuple #[.int .i64 (rhN s), .bool (rhB s)]) ∧ w = w' := by
  unfold maxLen at hs
  obtain ⟨N, hN⟩ : ∃ N, rhN s = N := ⟨_, rfl⟩
  obtain ⟨b, hb⟩ : ∃ b, rhB s = b := ⟨_, rfl⟩
  rw [hN, hb]
  have HE : Hid (readHex s = none → N = 0 ∧ b = false) := fun h => by
    obtain ⟨h1, h2⟩ := rh_none h
    exact ⟨hN.symm.trans h1, hb.symm.trans h2⟩
  have HF : Hid (∀ z, readHex s = some z → N = z ∧ b = true) := fun z h => by
    constructor
    · rw [← hN]; unfold rhN; rw [h]; rfl
    · rw [← hb]; unfold rhB; rw [h]; rfl
  clear hN hb
  go_enter Tryd.func13, Tryd.ntmps13
  go_wp2
  go_loop [4, 5] (fun nv iv => ∃ (k : Nat) (x : Int), k ≤ s.size ∧ iv = .int .i64 (k : Int) ∧ nv = .int .i64 x ∧ Hid ((s.data.toList.take k).all isHex = true) ∧ Hid (k ≤ 6 → x = hexVal (s.data.toList.take k))) (fun _ iv => s.size - (intOf iv).toNat)
  case atStart => exact ⟨0, 0, by omega, rfl, rfl, by show _ = _; simp, fun _ => by simp [hexVal]⟩
  case round =>
    obtain ⟨k, x, hk, rfl, rfl, HA, HX⟩ := hrel
    by_cases hlt : k < s.size
    · have hc := s[k].toNat_lt
      have hc0 : (0 : Int) ≤ (s[k].toNat : Int) := by omega
      have hc1 : (s[k].toNat : Int) < 256 := by omega
      have HBad := Num.hide (fun h => rh_bad s k hlt h)
      have HMore := Num.hide (fun h => all_more s k hlt HA.out h)
      have HC : Hid (hv (s[k].toNat : Int) = hv (s[k].toNat : Int)) := rfl
      by_cases h1 : 48 ≤ (s[k].toNat : Int)
      · by_cases h2 : (s[k].toNat : Int) ≤ 57
        · have HH := Num.hide (hv_dig ⟨h1, h2⟩)
          have HA2 := Num.hide (HMore.out (by rw [HH.out]; omega))
          clear HBad HMore
          by_cases hk6 : k < 6
          · have hxe := Num.unhide HX (by omega)
            have hxb := hexVal_six (s.data.toList.take k) HA.out (by rw [List.length_take]; omega)
            rw [← hxe] at hxb
            have HV := Num.hide (hexVal_take s k hlt)
            have HXe := Num.hide hxe
            have HX2 : Hid (k + 1 ≤ 6 → x * 16 + ((s[k].toNat : Int) - 48) = hexVal (s.data.toList.take (k + 1))) := fun _ => by have q1 := HV.out; have q2 := HH.out; rw [← HXe.out] at q1; omega
            clear hxe HX HV HXe HC HH
            go_wp2
            all_goals go_round
            case rel => exact ⟨k + 1, _, by omega, by go_num, rfl, HA2, HX2⟩
            case measure => simp [intOf]; omega
          · clear HX
            go_wp2
            all_goals go_round
            case rel => exact ⟨k + 1, _, by omega, by go_num, rfl, HA2, fun h => absurd h (by omega)⟩
            case measure => simp [intOf]; omega
        · have d2 : decide ((s[k].toNat : Int) ≤ 57) = false := by rw [decide_eq_false_iff_not]; exact h2
          by_cases h3 : 97 ≤ (s[k].toNat : Int)
          · by_cases h4 : (s[k].toNat : Int) ≤ 102
            · have HH := Num.hide (hv_low ⟨h3, h4⟩)
              have HA2 := Num.hide (HMore.out (by rw [HH.out]; omega))
              clear HBad HMore
              by_cases hk6 : k < 6
              · have hxe := Num.unhide HX (by omega)
                have hxb := hexVal_six (s.data.toList.take k) HA.out (by rw [List.length_take]; omega)
                rw [← hxe] at hxb
                have HV := Num.hide (hexVal_take s k hlt)
                have HXe := Num.hide hxe
                have HX2 : Hid (k + 1 ≤ 6 → x * 16 + ((s[k].toNat : Int) - 97) + 10 = hexVal (s.data.toList.take (k + 1))) := fun _ => by have q1 := HV.out; have q2 := HH.out; rw [← HXe.out] at q1; omega
                clear hxe HX HV HXe HC HH
                go_wp2
                all_goals go_round
                case rel => exact ⟨k + 1, _, by omega, by go_num, rfl, HA2, HX2⟩
                case measure => simp [intOf]; omega
              · clear HX
                go_wp2
                all_goals go_round
                case rel => exact ⟨k + 1, _, by omega, by go_num, rfl, HA2, fun h => absurd h (by omega)⟩
                case measure => simp [intOf]; omega
            · have d4 : decide ((s[k].toNat : Int) ≤ 102) = false := by rw [decide_eq_false_iff_not]; exact h4
              have d6 : decide ((s[k].toNat : Int) ≤ 70) = false := by rw [decide_eq_false_iff_not]; omega
              obtain ⟨rfl, rfl⟩ := HE.out (HBad.out (hv_none (by omega) (by omega) (by omega)))
              clear HBad HMore HC
              go_wp2
              all_goals go_ret2
              all_goals exact ⟨rfl, rfl⟩
          · have d3 : decide (97 ≤ (s[k].toNat : Int)) = false := by rw [decide_eq_false_iff_not]; exact h3
            by_cases h5 : 65 ≤ (s[k].toNat : Int)
            · by_cases h6 : (s[k].toNat : Int) ≤ 70
              · have HH := Num.hide (hv_up ⟨h5, h6⟩)
                have HA2 := Num.hide (HMore.out (by rw [HH.out]; omega))
                clear HBad HMore
                by_cases hk6 : k < 6
                · have hxe := Num.unhide HX (by omega)
                  have hxb := hexVal_six (s.data.toList.take k) HA.out (by rw [List.length_take]; omega)
                  rw [← hxe] at hxb
                  have HV := Num.hide (hexVal_take s k hlt)
                  have HXe := Num.hide hxe
                  have HX2 : Hid (k + 1 ≤ 6 → x * 16 + ((s[k].toNat : Int) - 65) + 10 = hexVal (s.data.toList.take (k + 1))) := fun _ => by have q1 := HV.out; have q2 := HH.out; rw [← HXe.out] at q1; omega
                  clear hxe HX HV HXe HC HH
                  go_wp2
                  all_goals go_round
                  case rel => exact ⟨k + 1, _, by omega, by go_num, rfl, HA2, HX2⟩
                  case measure => simp [intOf]; omega
                · clear HX
                  go_wp2
                  all_goals go_round
                  case rel => exact ⟨k + 1, _, by omega, by go_num, rfl, HA2, fun h => absurd h (by omega)⟩
                  case measure => simp [intOf]; omega
              · have d6 : decide ((s[k].toNat : Int) ≤ 70) = false := by rw [decide_eq_false_iff_not]; exact h6
                obtain ⟨rfl, rfl⟩ := HE.out (HBad.out (hv_none (by omega) (by omega) (by omega)))
                clear HBad HMore HC
                go_wp2
                all_goals go_ret2
                all_goals exact ⟨rfl, rfl⟩
            · have d5 : decide (65 ≤ (s[k].toNat : Int)) = false := by rw [decide_eq_false_iff_not]; exact h5
              obtain ⟨rfl, rfl⟩ := HE.out (HBad.out (hv_none (by omega) (by omega) (by omega)))
              clear HBad HMore HC
              go_wp2
              all_goals go_ret2
              all_goals exact ⟨rfl, rfl⟩
      · have d1 : decide (48 ≤ (s[k].toNat : Int)) = false := by rw [decide_eq_false_iff_not]; exact h1
        have d3 : decide (97 ≤ (s[k].toNat : Int)) = false := by rw [decide_eq_false_iff_not]; omega
        have d5 : decide (65 ≤ (s[k].toNat : Int)) = false := by rw [decide_eq_false_iff_not]; omega
        obtain ⟨rfl, rfl⟩ := HE.out (HBad.out (hv_none (by omega) (by omega) (by omega)))
        clear HBad HMore HC
        go_wp2
        all_goals go_ret2
        all_goals exact ⟨rfl, rfl⟩
    · obtain rfl : k = s.size := by omega
      have hfull : s.data.toList.take s.size = s.data.toList := List.take_of_length_le (by rw [Array.length_toList]; exact Nat.le_refl _)
      have hall := HA.out
      rw [hfull] at hall
      by_cases h16 : 1 ≤ (s.size : Int) ∧ (s.size : Int) ≤ 6
      · have hx := Num.unhide HX (by omega)
        rw [hfull] at hx
        have hr : readHex s = some x := by unfold readHex; rw [if_pos ⟨hall, by omega, by omega⟩, hx]
        obtain ⟨rfl, rfl⟩ := HF.out x hr
        clear hx hr hall hfull HA HX HF HE
        go_wp2_with fail
        refine (Date.in_spec _ _ _ _).mono ?_
        rintro e w1 ⟨rfl, rfl⟩
        rw [decide_eq_true h16]
        go_wp2
        go_ret2
        exact ⟨rfl, rfl⟩
      · have hr : readHex s = none := by unfold readHex; rw [if_neg (by omega)]
        obtain ⟨rfl, rfl⟩ := HE.out hr
        clear hr hall hfull HA HX HF HE
        go_wp2_with fail
        refine (Date.in_spec _ _ _ _).mono ?_
        rintro e w1 ⟨rfl, rfl⟩
        rw [decide_eq_false h16]
        go_wp2
        go_ret2
        exact ⟨rfl, rfl⟩
theorem readHex_spec_b (s : ByteArray) (w : World) (hs : s.size ≤ maxLen) :
    Calls Tryd.prog 13 #[.string s] w fun e w' => e = .returned (.tuple #[.int .i64 (rhN s), .bool (rhB s)]) ∧ Below w.heap.size w w' :=
  (readHex_spec s w hs).mono fun e w' ⟨h1, h2⟩ => ⟨h1, by subst h2; exact Below.refl _ _⟩
end Body
end Go.Proofs.YtkenmilglfnmbaaDoor
