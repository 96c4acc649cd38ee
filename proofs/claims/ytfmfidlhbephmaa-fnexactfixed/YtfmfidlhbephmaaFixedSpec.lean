/-
  Fixed of the specification: what the call returns, for every number and every width; old memory stays as it was.
-/
import Derived.Test.YtfmfidlhbephmaaFixedImpl
import Derived.Test.YtfmfidlhbephmaaIn
namespace Go.Proofs.Ytfmfidlhbephmaa
open Go.RowKit
set_option linter.unusedVariables false
namespace Fixed

/-- the bytes, where the number fits -/
def fits (n : Int) (m : Nat) : List UInt8 := if n / 256 ^ m = 0 then Num.fx n m else []
theorem fits_yes (n : Int) (m : Nat) (h : n / 256 ^ m = 0) : fits n m = Num.fx n m := if_pos h
theorem fits_no (n : Int) (m : Nat) (h : ¬ n / 256 ^ m = 0) : fits n m = [] := if_neg h
set_option maxHeartbeats 1000000 in
theorem spec_loop (n : Int) (m : Nat) (w : World) (h1 : 1 ≤ m) (h7 : m ≤ 7) (h0 : 0 ≤ n) (hmax : n ≤ 9223372036854775807) :
    Calls Try.prog 9 #[.int .i64 n, .int .i64 m] w fun e w' => e = .returned (.string ⟨(fits n m).toArray⟩) ∧ Below w.heap.size w w' := by
  have hin : (decide (1 ≤ (m : Int)) && decide ((m : Int) ≤ 7)) = true := by simp; omega
  have h3' : decide (n < 0) = false := by simp; omega
  go_enter Try.func9, Try.ntmps9
  go_wp2_with (go_at_call 21; refine (In.in_any _ _ _ _).mono ?_; rintro e w' ⟨rfl, rfl⟩)
  go_loopw [0, 5, 6] (fun q o i wr => ∃ t : Nat, ∃ r : Int, t ≤ m ∧ i = .int .i64 t ∧ 0 ≤ r ∧ r ≤ n ∧ Hid (r = n / 256 ^ t) ∧ q = .int .i64 r ∧ o = .string ⟨(Num.fx n t).toArray⟩ ∧ Below w.heap.size w wr) (fun _ _ i _ => m - (intOf i).toNat)
  case atStart => exact ⟨0, n, by omega, rfl, h0, Int.le_refl _, by show n = n / 256 ^ 0; simp, rfl, rfl, Below.refl _ _⟩
  case round =>
    obtain ⟨t, r, ht, rfl, hr0, hrn, hr, rfl, rfl, hbel⟩ := hrel
    have hl : (Num.fx n t).length ≤ 7 := by rw [Num.length_fx]; omega
    by_cases hlt : t < m
    · have hc := Mem.conv_one wr (r % 256) (by omega) (by omega)
      go_wp2
      go_roundw
      case rel => exact ⟨t + 1, r / 256, hlt, by go_num, by omega, by omega, Num.div_succ n r t hr.out, rfl, congrArg Value.string (Num.fx_succ n r t hr.out), hbel.alloc hbel.size _⟩
      case measure => simp [intOf]; omega
    · obtain rfl : t = m := by omega
      by_cases hz : 0 < r
      · have hne : Hid (¬ n / 256 ^ t = 0) := by show ¬ _; rw [← hr.out]; omega
        go_wp2
        go_ret
        exact ⟨by rw [fits_no n t hne.out]; rfl, hbel⟩
      · have hne : Hid (n / 256 ^ t = 0) := by show _ = _; rw [← hr.out]; omega
        go_wp2
        go_ret
        exact ⟨by rw [fits_yes n t hne.out]; rfl, hbel⟩
set_option maxHeartbeats 400000 in
theorem spec_no (n m : Int) (w : World) (h : m < 1 ∨ 7 < m ∨ n < 0) :
    Calls Try.prog 9 #[.int .i64 n, .int .i64 m] w fun e w' => e = .returned (.string ⟨#[]⟩) ∧ Below w.heap.size w w' := by
  by_cases hi : 1 ≤ m ∧ m ≤ 7
  · have hin : (decide (1 ≤ m) && decide (m ≤ 7)) = true := by simp; omega
    have hlt : n < 0 := by omega
    go_enter Try.func9, Try.ntmps9
    go_wp2_with (go_at_call 21; refine (In.in_any _ _ _ _).mono ?_; rintro e w' ⟨rfl, rfl⟩)
    go_ret
    exact ⟨rfl, Below.refl _ _⟩
  · have hin : (decide (1 ≤ m) && decide (m ≤ 7)) = false := by simp; omega
    go_enter Try.func9, Try.ntmps9
    go_wp2_with (go_at_call 21; refine (In.in_any _ _ _ _).mono ?_; rintro e w' ⟨rfl, rfl⟩)
    go_ret
    exact ⟨rfl, Below.refl _ _⟩
theorem spec_any (n m : Int) (w : World) (hmax : n ≤ 9223372036854775807) :
    Calls Try.prog 9 #[.int .i64 n, .int .i64 m] w fun e w' => e = .returned (.string ⟨(tells n m).toArray⟩) ∧ Below w.heap.size w w' := by
  unfold tells
  by_cases h : m < 1 ∨ 7 < m ∨ n < 0
  · rw [if_pos (by rcases h with h | h | h <;> simp [h])]; exact spec_no n m w h
  · obtain ⟨k, rfl⟩ := Int.eq_ofNat_of_zero_le (show 0 ≤ m by omega)
    have hs := spec_loop n k w (by omega) (by omega) (by omega) hmax
    by_cases hz : n / 256 ^ k = 0
    · rw [fits_yes n k hz] at hs
      rw [if_neg (by simp [hz]; omega)]; exact hs
    · rw [fits_no n k hz] at hs
      rw [if_pos (by simp [hz])]; exact hs
end Fixed
end Go.Proofs.Ytfmfidlhbephmaa
