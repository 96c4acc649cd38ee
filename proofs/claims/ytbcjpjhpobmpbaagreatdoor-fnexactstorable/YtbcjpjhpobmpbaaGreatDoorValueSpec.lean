/-
  IsValueText of the specification: what the call returns, for every text; the world stays.
-/
import Derived.Test.YtbcjpjhpobmpbaaGreatDoorTrimSpec
namespace Go.Proofs.YtbcjpjhpobmpbaaGreatDoor
open Go.RowKit
set_option linter.unusedVariables false
namespace Sign

/-- a sign that a value may have -/
abbrev val (c : Int) : Prop := c = 9 ∨ (32 ≤ c ∧ c ≠ 127)
def isVal (s : ByteArray) : Bool := (s.data.toList.all fun b => decide (val (b.toNat : Int))) && (trim s).toList == s.toList

set_option maxRecDepth 100000 in
set_option maxHeartbeats 1000000 in
theorem value_spec (s : ByteArray) (w : World) (hs : s.size ≤ maxLen) : Calls Tryz.prog 131 #[.string s] w fun e w' => e = .returned (.bool (isVal s)) ∧ w = w' := by
  have HS := Num.hide hs
  unfold maxLen at hs
  obtain ⟨r, hr⟩ : ∃ r, isVal s = r := ⟨_, rfl⟩
  rw [hr]
  have HR := Num.hide hr
  clear hr
  go_enter Tryz.func131, Tryz.ntmps131
  go_wp2
  go_loop [3] (fun i => ∃ k : Nat, k ≤ s.size ∧ i = .int .i64 k ∧ (s.data.toList.take k).all (fun b => decide (val (b.toNat : Int))) = true) (fun i => s.size - (intOf i).toNat)
  case atStart => exact ⟨0, by omega, rfl, by simp⟩
  case round =>
    obtain ⟨k, hk, rfl, hall⟩ := hrel
    have HA := Num.hide hall
    clear hall
    by_cases hlt : k < s.size
    · have hstep := Num.hide (all_take s (fun b => decide (val (b.toNat : Int))) k hlt)
      have hn := Num.hide (fun h => not_all s (fun b => decide (val (b.toNat : Int))) k hlt h)
      by_cases hv : val (s[k].toNat : Int)
      · have hd := Num.hide (show decide (val (s[k].toNat : Int)) = true from decide_eq_true hv)
        unfold val at hv
        by_cases h9 : (s[k].toNat : Int) = 9
        · have d9 : ((s[k].toNat : Int) != 9) = false := by rw [h9]; rfl
          clear hv h9
          go_wp2
          all_goals go_round
          case rel => exact ⟨k + 1, by omega, by go_num, by rw [Num.unhide hstep, Num.unhide HA, Num.unhide hd]; rfl⟩
          case measure => simp [intOf]; omega
        · have d9 : ((s[k].toNat : Int) != 9) = true := bne_iff_ne.2 h9
          have d32 : decide ((s[k].toNat : Int) < 32) = false := by simp; omega
          have d127 : ((s[k].toNat : Int) == 127) = false := by rw [beq_eq_false_iff_ne]; omega
          clear hv h9
          go_wp2
          all_goals go_round
          case rel => exact ⟨k + 1, by omega, by go_num, by rw [Num.unhide hstep, Num.unhide HA, Num.unhide hd]; rfl⟩
          case measure => simp [intOf]; omega
      · have hf : isVal s = false := by
          unfold isVal
          rw [Num.unhide hn (decide_eq_false hv), Bool.false_and]
        rw [Num.unhide HR] at hf
        have HF := Num.hide hf
        clear hf
        unfold val at hv
        have d9 : ((s[k].toNat : Int) != 9) = true := bne_iff_ne.2 (by omega)
        by_cases h32 : (s[k].toNat : Int) < 32
        · have d32 : decide ((s[k].toNat : Int) < 32) = true := decide_eq_true h32
          clear hv h32
          go_wp2
          all_goals go_ret
          all_goals exact ⟨by rw [Num.unhide HF]; rfl, rfl⟩
        · have d32 : decide ((s[k].toNat : Int) < 32) = false := decide_eq_false h32
          have d127 : ((s[k].toNat : Int) == 127) = true := by rw [beq_iff_eq]; omega
          clear hv h32
          go_wp2
          all_goals go_ret
          all_goals exact ⟨by rw [Num.unhide HF]; rfl, rfl⟩
    · obtain rfl : k = s.size := by omega
      have hr := Num.unhide HR
      unfold isVal at hr
      rw [all_full s _ (Num.unhide HA), Bool.true_and] at hr
      have HR2 := Num.hide hr
      clear hr
      go_wp2_with (go_at_call 45; refine (trim_spec _ _ (Num.unhide HS)).mono ?_; rintro e w' ⟨rfl, rfl⟩)
      go_ret
      exact ⟨by rw [← Num.unhide HR2]; rfl, rfl⟩
end Sign
end Go.Proofs.YtbcjpjhpobmpbaaGreatDoor
