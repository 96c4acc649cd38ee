/-
  Lower of the specification: what the call returns, for every text; what was there stays.
-/
import Derived.Test.YtbcjpjhpobmpbaaGreatDoorLowerNum
namespace Go.Proofs.YtbcjpjhpobmpbaaGreatDoor
open Go.RowKit
set_option linter.unusedVariables false
namespace Sign

theorem u8_add32 (c : Int) (h0 : 65 ≤ c) (h1 : c ≤ 90) : IntKind.u8.wrap (c + 32) = c + 32 := by
  rw [IntKind.wrap_u8]; omega

set_option maxRecDepth 100000 in
set_option maxHeartbeats 1000000 in
theorem lower_spec (s : ByteArray) (w : World) (hs : s.size ≤ maxLen) : Calls Tryz.prog 84 #[.string s] w fun e w' => e = .returned (.string (lower s)) ∧ Below w.heap.size w w' := by
  unfold maxLen at hs
  have hconv := Lib.run_convert_string_bytes (P := Tryz.prog) w 9 42 5 s (u := .string) Tryz.underlying9 Tryz.underlying42 Tryz.underlying5
  have hP := Num.hide (bytes_part w 5 s)
  have hB := Num.hide (bytes_below w 5 s)
  generalize Lib.bytesWorld w 5 s = W0 at hconv hP hB
  generalize grownCap w s.size 0 5 = cap at hconv
  go_enter Tryz.func84, Tryz.ntmps84
  go_wp2
  clear hconv
  go_loopw [4] (fun i W => ∃ k : Nat, k ≤ s.size ∧ i = .int .i64 k ∧ Hid (Part w.heap.size s k W) ∧ Hid (Below w.heap.size w W)) (fun i _ => s.size - (intOf i).toNat)
  case atStart => exact ⟨0, by omega, rfl, hP, hB⟩
  case round =>
    clear hP hB
    obtain ⟨k, hk, rfl, hP, hB⟩ := hrel
    by_cases hlt : k < s.size
    · have hcell := hP.out.todo k hlt (Nat.le_refl _)
      have hfree := hP.out.free k hlt
      by_cases h1 : 65 ≤ (s[k].toNat : Int)
      · have d1 : decide (65 ≤ (s[k].toNat : Int)) = true := decide_eq_true h1
        by_cases h2 : (s[k].toNat : Int) ≤ 90
        · have d2 : decide ((s[k].toNat : Int) ≤ 90) = true := decide_eq_true h2
          have hP2 := Num.hide (part_up hP.out hlt ⟨h1, h2⟩)
          have hw := u8_add32 _ h1 h2
          go_wp2
          go_roundw
          case rel => exact ⟨k + 1, by omega, by go_num, hP2, Num.hide (hB.out.setCell (Nat.le_refl _) _)⟩
          case measure => simp [intOf]; omega
        · have d2 : decide ((s[k].toNat : Int) ≤ 90) = false := decide_eq_false h2
          have hP2 := Num.hide (part_no hP.out hlt (fun h => h2 h.2))
          go_wp2
          go_roundw
          case rel => exact ⟨k + 1, by omega, by go_num, hP2, hB⟩
          case measure => simp [intOf]; omega
      · have d1 : decide (65 ≤ (s[k].toNat : Int)) = false := decide_eq_false h1
        have hP2 := Num.hide (part_no hP.out hlt (fun h => h1 h.1))
        go_wp2
        go_roundw
        case rel => exact ⟨k + 1, by omega, by go_num, hP2, hB⟩
        case measure => simp [intOf]; omega
    · obtain rfl : k = s.size := by omega
      have hback := part_back hP.out cap
      go_wp2
      go_ret
      exact ⟨rfl, hB.out⟩
end Sign
end Go.Proofs.YtbcjpjhpobmpbaaGreatDoor
