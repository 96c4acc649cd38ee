/-
  Plain facts on the signs of chapter 2 (no program in sight): tokens, blanks, values, small letters, seconds.
-/
import Derived.Test.YtbcjpjhpobmpbaaGreatDoorNum
namespace Go.Proofs.YtbcjpjhpobmpbaaGreatDoor
open Go.RowKit
namespace Sign

/-- a sign of a token -/
abbrev tok (c : Int) : Prop :=
  (97 ≤ c ∧ c ≤ 122) ∨ (65 ≤ c ∧ c ≤ 90) ∨ (48 ≤ c ∧ c ≤ 57) ∨ c = 33 ∨ c = 35 ∨ c = 36 ∨ c = 37 ∨ c = 38 ∨ c = 39 ∨ c = 42 ∨ c = 43 ∨ c = 45 ∨ c = 46 ∨ c = 94 ∨ c = 95 ∨ c = 96 ∨ c = 124 ∨ c = 126
def isTok (s : ByteArray) : Bool := decide (0 < s.size) && s.data.toList.all fun b => decide (tok (b.toNat : Int))
/-- a digit -/
abbrev dig (c : Int) : Prop := 48 ≤ c ∧ c ≤ 57
/-- a great letter -/
abbrev up (c : Int) : Prop := 65 ≤ c ∧ c ≤ 90
/-- a small letter -/
abbrev low (c : Int) : Prop := 97 ≤ c ∧ c ≤ 122
/-- a blank -/
abbrev blank (c : Int) : Prop := c = 32 ∨ c = 9
theorem all_take (s : ByteArray) (f : UInt8 → Bool) (k : Nat) (h : k < s.size) : (s.data.toList.take (k + 1)).all f = ((s.data.toList.take k).all f && f s[k]) := by
  rw [Num.take_snoc s k h, List.all_append]; simp
theorem all_full (s : ByteArray) (f : UInt8 → Bool) (h : (s.data.toList.take s.size).all f = true) : s.data.toList.all f = true := by
  rwa [List.take_of_length_le (by rw [Array.length_toList]; exact Nat.le_refl _)] at h
theorem not_all (s : ByteArray) (f : UInt8 → Bool) (k : Nat) (h : k < s.size) (hf : f s[k] = false) : s.data.toList.all f = false := by
  rw [List.all_eq_false]
  refine ⟨s[k], ?_, by rw [hf]; decide⟩
  rw [show s[k] = s.data.toList[k]'(by simpa using h) from rfl]
  exact List.getElem_mem _
theorem empty_false (s : ByteArray) (h : 0 < s.size) : s.toList.isEmpty = false := by
  rw [ByteArray.toList_eq]
  cases e : s.data.toList with
  | nil => exfalso; have h3 := congrArg List.length e; rw [Array.length_toList] at h3; have h2 : s.size = 0 := h3; omega
  | cons a l => rfl
theorem empty_true (s : ByteArray) (h : s.size = 0) : s = ⟨#[]⟩ := by
  apply ByteArray.ext; exact Array.eq_empty_of_size_eq_zero h
end Sign
end Go.Proofs.YtbcjpjhpobmpbaaGreatDoor
