/-
  ReadVar of the program: what the call returns, for every text.
-/
import Derived.Test.YtfmfidlhbephmaaRows
import Derived.Test.YtfmfidlhbephmaaReadVarNum
import Derived.WalkKit
import Derived.WalkLawsBesides
namespace Go.Proofs.Ytfmfidlhbephmaa
open Go.RowKit
set_option linter.unusedVariables false
namespace ReadVar

set_option maxRecDepth 100000 in
set_option maxHeartbeats 1000000 in
theorem impl_any (s : ByteArray) (w : World) (hm : s.size ≤ maxLen) :
    Calls Try.prog 16 #[.string s] w fun e w' => ∃ a b, e = .returned (.tuple #[.int .i64 a, .int .i64 b]) ∧ Good s a b ∧ w = w' := by
  unfold maxLen at hm
  go_enter Try.func16, Try.ntmps16
  go_wp2
  go_loop [4, 5] (fun n i => ∃ k : Nat, k ≤ s.size ∧ k ≤ 7 ∧ i = .int .i64 k ∧ n = .int .i64 (Num.val (s.data.toList.take k)) ∧ Hid (∀ j (h : j < s.size), j < k → 128 ≤ (s[j]'h).toNat)) (fun _ i => 7 - (intOf i).toNat)
  case atStart => exact ⟨0, by omega, by omega, rfl, rfl, fun j h h' => by omega⟩
  case round =>
    obtain ⟨k, hk, hk7, rfl, rfl, hj⟩ := hrel
    by_cases hks : k < s.size
    · by_cases h7 : k < 7
      · have HS := Num.hide (step s k hks (by omega))
        go_wp2
        · go_round
          case rel =>
            have hb : (128 : Int) ≤ (s[k].toNat : Int) := by assumption
            exact ⟨k + 1, by omega, by omega, by go_num, by rw [(Num.unhide HS)], fun j h hjk => by
              by_cases e : j = k
              · subst e; omega
              · exact hj.out j h (by omega)⟩
          case measure => simp [intOf]; omega
        · have hb : (s[k].toNat : Int) < 128 := by assumption
          have hz : s[k].toNat = 0 := by assumption
          have hp : 0 < k := by assumption
          go_ret2
          exact ⟨0, 0, rfl, none_else s k hks hj.out (by omega) ⟨hz, hp⟩, rfl⟩
        · have hb : (s[k].toNat : Int) < 128 := by assumption
          have hz : s[k].toNat = 0 := by assumption
          have hp : ¬ 0 < k := by assumption
          have hh := here s k hks h7 hj.out (by omega) (.inr (by omega))
          have hst := Num.unhide HS
          rw [hz] at hst
          go_ret2
          rw [← hst] at hh
          exact ⟨_, _, rfl, hh, rfl⟩
        · have hb : (s[k].toNat : Int) < 128 := by assumption
          have hz : ¬ s[k].toNat = 0 := by assumption
          have hh := here s k hks h7 hj.out (by omega) (.inl hz)
          have hst := Num.unhide HS
          go_ret2
          rw [← hst] at hh
          exact ⟨_, _, rfl, hh, rfl⟩
      · go_wp2
        go_ret2
        exact ⟨0, 0, rfl, none_all s k hj.out (by omega), rfl⟩
    · go_wp2
      go_ret2
      exact ⟨0, 0, rfl, none_all s k hj.out (by omega), rfl⟩
end ReadVar
end Go.Proofs.Ytfmfidlhbephmaa
