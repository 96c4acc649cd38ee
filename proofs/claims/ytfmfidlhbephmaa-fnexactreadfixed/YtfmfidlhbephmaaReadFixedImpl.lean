/-
  ReadFixed of the program: what the call returns, for every text and every width.
-/
import Derived.Test.YtfmfidlhbephmaaRows
import Derived.Test.YtfmfidlhbephmaaNum
import Derived.WalkKit
import Derived.WalkLawsBesides
namespace Go.Proofs.Ytfmfidlhbephmaa
open Go.RowKit
set_option linter.unusedVariables false
namespace ReadFixed

set_option maxHeartbeats 400000 in
theorem impl_yes (s : ByteArray) (m : Nat) (w : World) (h1 : 1 ≤ m) (h7 : m ≤ 7) (hs : m ≤ s.size) (hm : s.size ≤ maxLen) :
    Calls Try.prog 12 #[.string s, .int .i64 m] w fun e w' => e = .returned (.tuple #[.int .i64 (Num.be (s.data.toList.take m)), .bool true]) ∧ w' = w := by
  unfold maxLen at hm
  have h1' : ((m : Int) < 1) = False := by simp; omega
  have h2' : (7 < (m : Int)) = False := by simp; omega
  have hlt : decide (s.size < m) = false := by simp; omega
  go_enter Try.func12, Try.ntmps12
  go_wp2
  go_loop [6, 21] (fun n i => ∃ k : Nat, k ≤ m ∧ i = .int .i64 k ∧ n = .int .i64 (Num.be (s.data.toList.take k))) (fun _ i => m - (intOf i).toNat)
  case atStart => exact ⟨0, Nat.zero_le _, rfl, rfl⟩
  case round =>
    obtain ⟨k, hk, rfl, rfl⟩ := hrel
    by_cases hlt : k < m
    · have hb := Num.be_take_lt s k (by omega)
      have HS : Hid (Num.be (s.data.toList.take (k + 1)) = Num.be (s.data.toList.take k) * 256 + (s[k].toNat : Int)) := by rw [Num.take_snoc s k (by omega)]; exact Num.be_snoc _ _
      go_wp2
      go_round
      case rel => exact ⟨k + 1, by omega, by go_num, by rw [HS.out, Num.be_round_or _ _ hb.1 hb.2]⟩
      case measure => simp [intOf]; omega
    · go_wp2
      go_ret2
      obtain rfl : k = m := by omega
      exact ⟨rfl, rfl⟩
set_option maxHeartbeats 400000 in
theorem impl_no (s : ByteArray) (m : Int) (w : World) (h : m < 1 ∨ 7 < m ∨ (s.size : Int) < m) (hm : s.size ≤ maxLen) :
    Calls Try.prog 12 #[.string s, .int .i64 m] w fun e w' => e = .returned (.tuple #[.int .i64 0, .bool false]) ∧ w' = w := by
  unfold maxLen at hm
  by_cases h1 : m < 1
  · go_enter Try.func12, Try.ntmps12
    go_wp2
    go_ret2
    exact ⟨rfl, rfl⟩
  · by_cases h7 : 7 < m
    · go_enter Try.func12, Try.ntmps12
      go_wp2
      go_ret2
      exact ⟨rfl, rfl⟩
    · have hlt : (s.size : Int) < m := by omega
      go_enter Try.func12, Try.ntmps12
      go_wp2
      go_ret2
      exact ⟨rfl, rfl⟩
/-- what both tell -/
def tells (s : ByteArray) (m : Int) : Int × Bool := if m < 1 ∨ 7 < m ∨ (s.size : Int) < m then (0, false) else (Num.be (s.data.toList.take m.toNat), true)
theorem impl_any (s : ByteArray) (m : Int) (w : World) (hm : s.size ≤ maxLen) :
    Calls Try.prog 12 #[.string s, .int .i64 m] w fun e w' => e = .returned (.tuple #[.int .i64 (tells s m).1, .bool (tells s m).2]) ∧ w' = w := by
  unfold tells
  by_cases h : m < 1 ∨ 7 < m ∨ (s.size : Int) < m
  · rw [if_pos h]; exact impl_no s m w h hm
  · rw [if_neg h]
    obtain ⟨k, rfl⟩ := Int.eq_ofNat_of_zero_le (show 0 ≤ m by omega)
    exact impl_yes s k w (by omega) (by omega) (by omega) hm
end ReadFixed
end Go.Proofs.Ytfmfidlhbephmaa
