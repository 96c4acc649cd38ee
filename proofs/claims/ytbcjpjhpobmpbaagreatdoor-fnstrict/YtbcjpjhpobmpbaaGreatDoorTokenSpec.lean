/-
  IsTokenText of the specification: what the call returns, for every text; the world stays.
-/
import Derived.Test.YtbcjpjhpobmpbaaGreatDoorSignNum
import Derived.Test.YtbcjpjhpobmpbaaGreatDoorEval
import Derived.Test.YtbcjpjhpobmpbaaGreatDoorRows
import Derived.Laws.Strings
namespace Go.Proofs.YtbcjpjhpobmpbaaGreatDoor
open Go.RowKit
set_option linter.unusedVariables false
namespace Sign

theorem token_run (c : Int) (hc : c = 33 ∨ c = 35 ∨ c = 36 ∨ c = 37 ∨ c = 38 ∨ c = 39 ∨ c = 42 ∨ c = 43 ∨ c = 45 ∨ c = 46 ∨ c = 94 ∨ c = 95 ∨ c = 96 ∨ c = 124 ∨ c = 126) (cs : List Frame) (w : World) : Eval.Told Tryz.prog 400 106 Tryz.f106 #[.int .u8 c] (.bool true) cs w := by
  rcases hc with rfl | rfl | rfl | rfl | rfl | rfl | rfl | rfl | rfl | rfl | rfl | rfl | rfl | rfl | rfl
  all_goals exact ⟨by kernel_rfl, by kernel_rfl⟩
theorem token_single (c : Int) (w : World) (hc : c = 33 ∨ c = 35 ∨ c = 36 ∨ c = 37 ∨ c = 38 ∨ c = 39 ∨ c = 42 ∨ c = 43 ∨ c = 45 ∨ c = 46 ∨ c = 94 ∨ c = 95 ∨ c = 96 ∨ c = 124 ∨ c = 126) : Calls Tryz.prog 106 #[.int .u8 c] w fun e w' => e = .returned (.bool true) ∧ w = w' :=
  Eval.calls 400 Tryz.f106 Tryz.func106 fun cs => token_run c hc cs w
set_option maxRecDepth 100000 in
set_option maxHeartbeats 4000000 in
theorem token_small (c : Int) (w : World) (h0 : decide (97 ≤ c) = true) (h1 : decide (c ≤ 122) = true) : Calls Tryz.prog 106 #[.int .u8 c] w fun e w' => e = .returned (.bool true) ∧ w = w' := by
  go_enter Tryz.func106, Tryz.ntmps106
  go_wp2
  all_goals go_ret
  all_goals exact ⟨rfl, rfl⟩
set_option maxRecDepth 100000 in
set_option maxHeartbeats 4000000 in
theorem token_great (c : Int) (w : World) (h0 : decide (97 ≤ c) = false) (h1 : decide (65 ≤ c) = true) (h2 : decide (c ≤ 90) = true) : Calls Tryz.prog 106 #[.int .u8 c] w fun e w' => e = .returned (.bool true) ∧ w = w' := by
  go_enter Tryz.func106, Tryz.ntmps106
  go_wp2
  all_goals go_ret
  all_goals exact ⟨rfl, rfl⟩
set_option maxRecDepth 100000 in
set_option maxHeartbeats 4000000 in
theorem token_digit (c : Int) (w : World) (h0 : decide (97 ≤ c) = false) (h1 : decide (65 ≤ c) = false) (h2 : decide (48 ≤ c) = true) (h3 : decide (c ≤ 57) = true) : Calls Tryz.prog 106 #[.int .u8 c] w fun e w' => e = .returned (.bool true) ∧ w = w' := by
  go_enter Tryz.func106, Tryz.ntmps106
  go_wp2
  go_ret
  exact ⟨rfl, rfl⟩
set_option maxRecDepth 100000 in
set_option maxHeartbeats 4000000 in
theorem token_none0 (c : Int) (w : World) (h0 : decide (97 ≤ c) = false) (h1 : decide (65 ≤ c) = false) (h2 : decide (48 ≤ c) = false) (n33 : (c == 33) = false) (n35 : (c == 35) = false) (n36 : (c == 36) = false) (n37 : (c == 37) = false) (n38 : (c == 38) = false) (n39 : (c == 39) = false) (n42 : (c == 42) = false) (n43 : (c == 43) = false) (n45 : (c == 45) = false) (n46 : (c == 46) = false) (n94 : (c == 94) = false) (n95 : (c == 95) = false) (n96 : (c == 96) = false) (n124 : (c == 124) = false) (n126 : (c == 126) = false) : Calls Tryz.prog 106 #[.int .u8 c] w fun e w' => e = .returned (.bool false) ∧ w = w' := by
  go_enter Tryz.func106, Tryz.ntmps106
  go_wp2
  go_ret
  exact ⟨rfl, rfl⟩
set_option maxRecDepth 100000 in
set_option maxHeartbeats 4000000 in
theorem token_none1 (c : Int) (w : World) (h0 : decide (97 ≤ c) = false) (h1 : decide (65 ≤ c) = false) (h2 : decide (48 ≤ c) = true) (h3 : decide (c ≤ 57) = false) (n33 : (c == 33) = false) (n35 : (c == 35) = false) (n36 : (c == 36) = false) (n37 : (c == 37) = false) (n38 : (c == 38) = false) (n39 : (c == 39) = false) (n42 : (c == 42) = false) (n43 : (c == 43) = false) (n45 : (c == 45) = false) (n46 : (c == 46) = false) (n94 : (c == 94) = false) (n95 : (c == 95) = false) (n96 : (c == 96) = false) (n124 : (c == 124) = false) (n126 : (c == 126) = false) : Calls Tryz.prog 106 #[.int .u8 c] w fun e w' => e = .returned (.bool false) ∧ w = w' := by
  go_enter Tryz.func106, Tryz.ntmps106
  go_wp2
  go_ret
  exact ⟨rfl, rfl⟩
set_option maxRecDepth 100000 in
set_option maxHeartbeats 4000000 in
theorem token_none2 (c : Int) (w : World) (h0 : decide (97 ≤ c) = false) (h1 : decide (65 ≤ c) = true) (h2 : decide (c ≤ 90) = false) (h3 : decide (48 ≤ c) = true) (h4 : decide (c ≤ 57) = false) (n33 : (c == 33) = false) (n35 : (c == 35) = false) (n36 : (c == 36) = false) (n37 : (c == 37) = false) (n38 : (c == 38) = false) (n39 : (c == 39) = false) (n42 : (c == 42) = false) (n43 : (c == 43) = false) (n45 : (c == 45) = false) (n46 : (c == 46) = false) (n94 : (c == 94) = false) (n95 : (c == 95) = false) (n96 : (c == 96) = false) (n124 : (c == 124) = false) (n126 : (c == 126) = false) : Calls Tryz.prog 106 #[.int .u8 c] w fun e w' => e = .returned (.bool false) ∧ w = w' := by
  go_enter Tryz.func106, Tryz.ntmps106
  go_wp2
  go_ret
  exact ⟨rfl, rfl⟩
set_option maxRecDepth 100000 in
set_option maxHeartbeats 4000000 in
theorem token_none3 (c : Int) (w : World) (h0 : decide (97 ≤ c) = true) (h1 : decide (c ≤ 122) = false) (h2 : decide (65 ≤ c) = true) (h3 : decide (c ≤ 90) = false) (h4 : decide (48 ≤ c) = true) (h5 : decide (c ≤ 57) = false) (n33 : (c == 33) = false) (n35 : (c == 35) = false) (n36 : (c == 36) = false) (n37 : (c == 37) = false) (n38 : (c == 38) = false) (n39 : (c == 39) = false) (n42 : (c == 42) = false) (n43 : (c == 43) = false) (n45 : (c == 45) = false) (n46 : (c == 46) = false) (n94 : (c == 94) = false) (n95 : (c == 95) = false) (n96 : (c == 96) = false) (n124 : (c == 124) = false) (n126 : (c == 126) = false) : Calls Tryz.prog 106 #[.int .u8 c] w fun e w' => e = .returned (.bool false) ∧ w = w' := by
  go_enter Tryz.func106, Tryz.ntmps106
  go_wp2
  go_ret
  exact ⟨rfl, rfl⟩
theorem token_int (c : Int) (w : World) : Calls Tryz.prog 106 #[.int .u8 c] w fun e w' => e = .returned (.bool (decide (tok c))) ∧ w = w' := by
  by_cases ht : tok c
  · rw [decide_eq_true ht]
    unfold tok at ht
    by_cases hs : c = 33 ∨ c = 35 ∨ c = 36 ∨ c = 37 ∨ c = 38 ∨ c = 39 ∨ c = 42 ∨ c = 43 ∨ c = 45 ∨ c = 46 ∨ c = 94 ∨ c = 95 ∨ c = 96 ∨ c = 124 ∨ c = 126
    · exact token_single c w hs
    · by_cases h1 : 97 ≤ c
      · exact token_small c w (by simp; omega) (by simp; omega)
      · by_cases h2 : 65 ≤ c
        · exact token_great c w (by simp; omega) (by simp; omega) (by simp; omega)
        · exact token_digit c w (by simp; omega) (by simp; omega) (by simp; omega) (by simp; omega)
  · rw [decide_eq_false ht]
    unfold tok at ht
    by_cases h1 : 97 ≤ c
    · exact token_none3 c w (by simp; omega) (by simp; omega) (by simp; omega) (by simp; omega) (by simp; omega) (by simp; omega) (by rw [beq_eq_false_iff_ne]; omega) (by rw [beq_eq_false_iff_ne]; omega) (by rw [beq_eq_false_iff_ne]; omega) (by rw [beq_eq_false_iff_ne]; omega) (by rw [beq_eq_false_iff_ne]; omega) (by rw [beq_eq_false_iff_ne]; omega) (by rw [beq_eq_false_iff_ne]; omega) (by rw [beq_eq_false_iff_ne]; omega) (by rw [beq_eq_false_iff_ne]; omega) (by rw [beq_eq_false_iff_ne]; omega) (by rw [beq_eq_false_iff_ne]; omega) (by rw [beq_eq_false_iff_ne]; omega) (by rw [beq_eq_false_iff_ne]; omega) (by rw [beq_eq_false_iff_ne]; omega) (by rw [beq_eq_false_iff_ne]; omega)
    · by_cases h2 : 65 ≤ c
      · exact token_none2 c w (by simp; omega) (by simp; omega) (by simp; omega) (by simp; omega) (by simp; omega) (by rw [beq_eq_false_iff_ne]; omega) (by rw [beq_eq_false_iff_ne]; omega) (by rw [beq_eq_false_iff_ne]; omega) (by rw [beq_eq_false_iff_ne]; omega) (by rw [beq_eq_false_iff_ne]; omega) (by rw [beq_eq_false_iff_ne]; omega) (by rw [beq_eq_false_iff_ne]; omega) (by rw [beq_eq_false_iff_ne]; omega) (by rw [beq_eq_false_iff_ne]; omega) (by rw [beq_eq_false_iff_ne]; omega) (by rw [beq_eq_false_iff_ne]; omega) (by rw [beq_eq_false_iff_ne]; omega) (by rw [beq_eq_false_iff_ne]; omega) (by rw [beq_eq_false_iff_ne]; omega) (by rw [beq_eq_false_iff_ne]; omega)
      · by_cases h3 : 48 ≤ c
        · exact token_none1 c w (by simp; omega) (by simp; omega) (by simp; omega) (by simp; omega) (by rw [beq_eq_false_iff_ne]; omega) (by rw [beq_eq_false_iff_ne]; omega) (by rw [beq_eq_false_iff_ne]; omega) (by rw [beq_eq_false_iff_ne]; omega) (by rw [beq_eq_false_iff_ne]; omega) (by rw [beq_eq_false_iff_ne]; omega) (by rw [beq_eq_false_iff_ne]; omega) (by rw [beq_eq_false_iff_ne]; omega) (by rw [beq_eq_false_iff_ne]; omega) (by rw [beq_eq_false_iff_ne]; omega) (by rw [beq_eq_false_iff_ne]; omega) (by rw [beq_eq_false_iff_ne]; omega) (by rw [beq_eq_false_iff_ne]; omega) (by rw [beq_eq_false_iff_ne]; omega) (by rw [beq_eq_false_iff_ne]; omega)
        · exact token_none0 c w (by simp; omega) (by simp; omega) (by simp; omega) (by rw [beq_eq_false_iff_ne]; omega) (by rw [beq_eq_false_iff_ne]; omega) (by rw [beq_eq_false_iff_ne]; omega) (by rw [beq_eq_false_iff_ne]; omega) (by rw [beq_eq_false_iff_ne]; omega) (by rw [beq_eq_false_iff_ne]; omega) (by rw [beq_eq_false_iff_ne]; omega) (by rw [beq_eq_false_iff_ne]; omega) (by rw [beq_eq_false_iff_ne]; omega) (by rw [beq_eq_false_iff_ne]; omega) (by rw [beq_eq_false_iff_ne]; omega) (by rw [beq_eq_false_iff_ne]; omega) (by rw [beq_eq_false_iff_ne]; omega) (by rw [beq_eq_false_iff_ne]; omega) (by rw [beq_eq_false_iff_ne]; omega)
theorem token_any (c : Nat) (w : World) (h : c < 256) : Calls Tryz.prog 106 #[.int .u8 c] w fun e w' => e = .returned (.bool (decide (tok c))) ∧ w = w' := token_int c w

set_option maxRecDepth 100000 in
set_option maxHeartbeats 1000000 in
theorem isTok_spec (s : ByteArray) (w : World) (hs : s.size ≤ maxLen) : Calls Tryz.prog 83 #[.string s] w fun e w' => e = .returned (.bool (isTok s)) ∧ w = w' := by
  unfold maxLen at hs
  obtain ⟨r, hr⟩ : ∃ r, isTok s = r := ⟨_, rfl⟩
  rw [hr]
  have HR := Num.hide hr
  clear hr
  go_enter Tryz.func83, Tryz.ntmps83
  go_wp2
  go_loop [3] (fun i => ∃ k : Nat, k ≤ s.size ∧ i = .int .i64 k ∧ (s.data.toList.take k).all (fun b => decide (tok (b.toNat : Int))) = true) (fun i => s.size - (intOf i).toNat)
  case atStart => exact ⟨0, by omega, rfl, by simp⟩
  case round =>
    obtain ⟨k, hk, rfl, hall⟩ := hrel
    by_cases hlt : k < s.size
    · have hstep := Num.hide (all_take s (fun b => decide (tok (b.toNat : Int))) k hlt)
      have hall := Num.hide hall
      by_cases hc : tok (s[k].toNat : Int)
      · have hd : decide (tok (s[k].toNat : Int)) = true := decide_eq_true hc
        have HD := Num.hide hd
        clear hc hd
        go_wp2_with (go_at_call 106; refine (token_any _ _ (by exact s[k].toNat_lt)).mono ?_; rintro e w' ⟨rfl, rfl⟩; rw [Num.unhide HD])
        go_round
        case rel => exact ⟨k + 1, by omega, by go_num, by rw [Num.unhide hstep, Num.unhide hall, Num.unhide HD]; rfl⟩
        case measure => simp [intOf]; omega
      · have hd : decide (tok (s[k].toNat : Int)) = false := decide_eq_false hc
        have HD := Num.hide hd
        clear hc hd
        go_wp2_with (go_at_call 106; refine (token_any _ _ (by exact s[k].toNat_lt)).mono ?_; rintro e w' ⟨rfl, rfl⟩; rw [Num.unhide HD])
        go_ret
        refine ⟨?_, rfl⟩
        have hn := not_all s (fun b => decide (tok (b.toNat : Int))) k hlt (Num.unhide HD)
        have hr := Num.unhide HR
        unfold isTok at hr
        rw [hn, Bool.and_false] at hr
        rw [← hr]; rfl
    · obtain rfl : k = s.size := by omega
      have hr := Num.unhide HR
      unfold isTok at hr
      rw [all_full s _ hall, Bool.and_true] at hr
      have HR2 := Num.hide hr
      clear hall hr
      by_cases h0 : (0 : Int) < (s.size : Int)
      · go_wp2
        go_ret
        refine ⟨?_, rfl⟩
        rw [← Num.unhide HR2, decide_eq_true (by omega)]; rfl
      · go_wp2
        go_ret
        refine ⟨?_, rfl⟩
        rw [← Num.unhide HR2, decide_eq_false (by omega)]; rfl
end Sign
end Go.Proofs.YtbcjpjhpobmpbaaGreatDoor
