/-
  ReadFixed of the specification: what the call returns, for every text and every width.
-/
import Derived.Test.YtfmfidlhbephmaaReadFixedImpl
import Derived.Test.YtfmfidlhbephmaaIn
namespace Go.Proofs.Ytfmfidlhbephmaa
open Go.RowKit
set_option linter.unusedVariables false
namespace ReadFixed

set_option maxHeartbeats 400000 in
theorem spec_yes (s : ByteArray) (m : Nat) (w : World) (h1 : 1 ≤ m) (h7 : m ≤ 7) (hs : m ≤ s.size) (hm : s.size ≤ maxLen) :
    Calls Try.prog 11 #[.string s, .int .i64 m] w fun e w' => e = .returned (.tuple #[.int .i64 (Num.be (s.data.toList.take m)), .bool true]) ∧ w' = w := by
  unfold maxLen at hm
  have hin : (decide (1 ≤ (m : Int)) && decide ((m : Int) ≤ 7)) = true := by simp; omega
  have hlt : decide (s.size < m) = false := by simp; omega
  go_enter Try.func11, Try.ntmps11
  go_wp2_with (go_at_call 21; refine (In.in_any _ _ _ _).mono ?_; rintro e w' ⟨rfl, rfl⟩)
  go_loop [6, 7] (fun n i => ∃ k : Nat, k ≤ m ∧ i = .int .i64 k ∧ n = .int .i64 (Num.be (s.data.toList.take k))) (fun _ i => m - (intOf i).toNat)
  case atStart => exact ⟨0, Nat.zero_le _, rfl, rfl⟩
  case round =>
    obtain ⟨k, hk, rfl, rfl⟩ := hrel
    by_cases hlt : k < m
    · have hb := Num.be_take_lt s k (by omega)
      have HS : Hid (Num.be (s.data.toList.take (k + 1)) = Num.be (s.data.toList.take k) * 256 + (s[k].toNat : Int)) := by rw [Num.take_snoc s k (by omega)]; exact Num.be_snoc _ _
      go_wp2
      go_round
      case rel => exact ⟨k + 1, by omega, by go_num, by rw [HS.out, Num.be_round _ _ hb.1 hb.2]⟩
      case measure => simp [intOf]; omega
    · go_wp2
      go_ret2
      obtain rfl : k = m := by omega
      exact ⟨rfl, rfl⟩
set_option maxHeartbeats 400000 in
theorem spec_no (s : ByteArray) (m : Int) (w : World) (h : m < 1 ∨ 7 < m ∨ (s.size : Int) < m) (hm : s.size ≤ maxLen) :
    Calls Try.prog 11 #[.string s, .int .i64 m] w fun e w' => e = .returned (.tuple #[.int .i64 0, .bool false]) ∧ w' = w := by
  unfold maxLen at hm
  by_cases hi : 1 ≤ m ∧ m ≤ 7
  · have hin : (decide (1 ≤ m) && decide (m ≤ 7)) = true := by simp; omega
    have hlt : (s.size : Int) < m := by omega
    go_enter Try.func11, Try.ntmps11
    go_wp2_with (go_at_call 21; refine (In.in_any _ _ _ _).mono ?_; rintro e w' ⟨rfl, rfl⟩)
    go_ret2
    exact ⟨rfl, rfl⟩
  · have hin : (decide (1 ≤ m) && decide (m ≤ 7)) = false := by simp; omega
    go_enter Try.func11, Try.ntmps11
    go_wp2_with (go_at_call 21; refine (In.in_any _ _ _ _).mono ?_; rintro e w' ⟨rfl, rfl⟩)
    go_ret2
    exact ⟨rfl, rfl⟩
theorem spec_any (s : ByteArray) (m : Int) (w : World) (hm : s.size ≤ maxLen) :
    Calls Try.prog 11 #[.string s, .int .i64 m] w fun e w' => e = .returned (.tuple #[.int .i64 (tells s m).1, .bool (tells s m).2]) ∧ w' = w := by
  unfold tells
  by_cases h : m < 1 ∨ 7 < m ∨ (s.size : Int) < m
  · rw [if_pos h]; exact spec_no s m w h hm
  · rw [if_neg h]
    obtain ⟨k, rfl⟩ := Int.eq_ofNat_of_zero_le (show 0 ≤ m by omega)
    exact spec_yes s k w (by omega) (by omega) (by omega) hm
end ReadFixed
end Go.Proofs.Ytfmfidlhbephmaa
