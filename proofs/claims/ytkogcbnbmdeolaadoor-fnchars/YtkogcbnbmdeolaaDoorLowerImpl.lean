/-
  isUpper and Lower of the program: what the calls return, for every byte and every text; what was there stays.
-/
import Derived.Test.YtkogcbnbmdeolaaDoorLowerNum
import Derived.Test.YtkogcbnbmdeolaaDoorUpperImpl
namespace Go.Proofs.YtkogcbnbmdeolaaDoor
open Go.RowKit
set_option linter.unusedVariables false
namespace Sign

theorem u8_add (c : Int) (h0 : 65 ≤ c) (h1 : c ≤ 90) : IntKind.u8.wrap (c + 32) = c + 32 := by
  rw [IntKind.wrap_u8]; omega

set_option maxRecDepth 100000 in
set_option maxHeartbeats 1000000 in
theorem lower_impl (s : ByteArray) (w : World) (hs : s.size ≤ maxLen) : Calls Tryd.prog 13 #[.string s] w fun e w' => e = .returned (.string (lower s)) ∧ Below w.heap.size w w' := by
  unfold maxLen at hs
  have hconv := Lib.run_convert_string_bytes (P := Tryd.prog) w 9 22 5 s (u := .string) Tryd.underlying9 Tryd.underlying22 Tryd.underlying5
  have hP := Num.hide (bytes_part w 5 s)
  have hB := Num.hide (bytes_below w 5 s)
  generalize Lib.bytesWorld w 5 s = W0 at hconv hP hB
  generalize grownCap w s.size 0 5 = cap at hconv
  go_enter Tryd.func13, Tryd.ntmps13
  go_wp2
  clear hconv
  go_loopw [10] (fun i W => ∃ k : Nat, k ≤ s.size ∧ i = .int .i64 k ∧ Hid (Part w.heap.size s k W) ∧ Hid (Below w.heap.size w W)) (fun i _ => s.size - (intOf i).toNat)
  case atStart => exact ⟨0, by omega, rfl, hP, hB⟩
  case round =>
    clear hP hB
    obtain ⟨k, hk, rfl, hP, hB⟩ := hrel
    by_cases hlt : k < s.size
    · have hcell := hP.out.todo k hlt (Nat.le_refl _)
      have hfree := hP.out.free k hlt
      by_cases hu : up (s[k].toNat : Int)
      · have hut := Num.hide (decide_eq_true hu)
        have hP2 := Num.hide (part_up hP.out hlt hu)
        have hw := u8_add _ hu.1 hu.2
        clear hu
        go_wp2_with (go_at_call 49; refine (isUpper_any _ _).mono ?_; rintro e w' ⟨rfl, rfl⟩; rw [Num.unhide hut])
        go_roundw
        case rel => exact ⟨k + 1, by omega, by go_num, hP2, Num.hide (hB.out.setCell (Nat.le_refl _) _)⟩
        case measure => simp [intOf]; omega
      · have hut := Num.hide (decide_eq_false hu)
        have hP2 := Num.hide (part_no hP.out hlt hu)
        clear hu
        go_wp2_with (go_at_call 49; refine (isUpper_any _ _).mono ?_; rintro e w' ⟨rfl, rfl⟩; rw [Num.unhide hut])
        go_roundw
        case rel => exact ⟨k + 1, by omega, by go_num, hP2, hB⟩
        case measure => simp [intOf]; omega
    · obtain rfl : k = s.size := by omega
      have hback := part_back hP.out cap
      go_wp2
      go_ret
      exact ⟨rfl, hB.out⟩
end Sign
end Go.Proofs.YtkogcbnbmdeolaaDoor
