/-
  The digit of a byte, of the program (a search among the digits) and of the specification (a loop).
-/
import Derived.Test.YtfmfidlhbephmaaHexSpec
import Derived.Test.YtfmfidlhbephmaaShelf
namespace Go.Proofs.Ytfmfidlhbephmaa
open Go.RowKit
set_option linter.unusedVariables false
namespace Unhex

/-- which digit a byte is; -1 where it is none -/
def ix (b : UInt8) : Int := Lib.indexByte Hex.digits.data.toList b
theorem index_at (l : List UInt8) (b : UInt8) (k : Nat) (hk : k < l.length) (hlt : ∀ j (h : j < l.length), j < k → l[j] ≠ b) (he : l[k] = b) : Lib.indexByte l b = k := by
  induction l generalizing k with
  | nil => simp at hk
  | cons c l ih =>
    cases k with
    | zero => simp at he; simp [Lib.indexByte, he]
    | succ k =>
      have h0 : c ≠ b := hlt 0 (by simp) (by omega)
      have hi := ih k (by simpa using hk) (fun j hj hjk => hlt (j + 1) (by simpa using hj) (by omega)) (by simpa using he)
      have hne : ((k : Int) == -1) = false := by rw [beq_eq_false_iff_ne]; omega
      simp [Lib.indexByte, h0, hi, hne]
theorem index_none (l : List UInt8) (b : UInt8) (hlt : ∀ j (h : j < l.length), l[j] ≠ b) : Lib.indexByte l b = -1 := by
  induction l with
  | nil => rfl
  | cons c l ih =>
    have h0 : c ≠ b := hlt 0 (by simp)
    have hi := ih (fun j hj => hlt (j + 1) (by simpa using hj))
    simp [Lib.indexByte, h0, hi]
theorem index_bd (l : List UInt8) (b : UInt8) : -1 ≤ Lib.indexByte l b ∧ Lib.indexByte l b < l.length := by
  induction l with
  | nil => simp [Lib.indexByte]
  | cons c l ih =>
    by_cases h : c = b
    · simp [Lib.indexByte, h]
    · by_cases h2 : Lib.indexByte l b = -1
      · simp [Lib.indexByte, h, h2]; omega
      · have h3 : (Lib.indexByte l b == -1) = false := by simpa using h2
        simp only [Lib.indexByte, h3, beq_eq_false_iff_ne.2 h, List.length_cons]
        simp
        omega
theorem ix_bd (b : UInt8) : -1 ≤ ix b ∧ ix b < 16 := index_bd Hex.digits.data.toList b
theorem impl_any (b : UInt8) (w : World) : Calls Try.prog 25 #[.string ⟨#[48, 49, 50, 51, 52, 53, 54, 55, 56, 57, 97, 98, 99, 100, 101, 102]⟩, .int .u8 (b.toNat : Int)] w fun e w' => e = .returned (.int .i64 (ix b)) ∧ w = w' := by
  refine (Shelf.index_byte Hex.digits (b.toNat : Int) w).mono ?_
  rintro e w' ⟨rfl, rfl⟩
  refine ⟨?_, rfl⟩
  simp [ix]
theorem hx_get (k : Nat) (h : k < 16) : Hex.hx k = Hex.digits.data.toList[k]'h := by
  have hs : k < Hex.digits.data.toList.length := h
  simp only [Hex.hx, List.getD_eq_getElem?_getD, List.getElem?_eq_getElem hs, Option.getD_some]
  rfl
set_option maxRecDepth 100000 in
set_option maxHeartbeats 400000 in
theorem spec_any (b : UInt8) (w : World) : Calls Try.prog 24 #[.int .u8 (b.toNat : Int)] w fun e w' => e = .returned (.int .i64 (ix b)) ∧ w = w' := by
  go_enter Try.func24, Try.ntmps24
  go_wp2
  go_loop [3] (fun i => ∃ k : Nat, k ≤ 16 ∧ i = .int .i64 k ∧ Hid (∀ j, j < k → Hex.hx j ≠ b)) (fun i => 16 - (intOf i).toNat)
  case atStart => exact ⟨0, by omega, rfl, fun j h => by omega⟩
  case round =>
    obtain ⟨k, hk, rfl, hno⟩ := hrel
    by_cases hlt : k < 16
    · go_wp2_with (go_at_call 23; refine (Hex.digit_any k _ hlt).mono ?_; rintro e w' ⟨rfl, rfl⟩)
      · have he : (((Hex.hx k).toNat : Int) == (b.toNat : Int)) = true := by assumption
        have he2 : Hex.hx k = b := UInt8.toNat_inj.1 (by rw [beq_iff_eq] at he; omega)
        go_ret
        refine ⟨?_, rfl⟩
        show Ending.returned (.int .i64 (k : Int)) = _
        rw [ix, index_at Hex.digits.data.toList b k hlt (fun j hj hjk => by rw [← hx_get j hj]; exact hno.out j hjk) (by rw [← hx_get k hlt]; exact he2)]
      · have he : (((Hex.hx k).toNat : Int) == (b.toNat : Int)) = false := by assumption
        have he2 : Hex.hx k ≠ b := by intro h; rw [h] at he; simp at he
        go_round
        case rel => exact ⟨k + 1, by omega, by go_num, fun j hj => by
          by_cases e : j = k
          · subst e; exact he2
          · exact hno.out j (by omega)⟩
        case measure => simp [intOf]; omega
    · obtain rfl : k = 16 := by omega
      go_wp2
      go_ret
      exact ⟨by rw [ix, index_none Hex.digits.data.toList b (fun j hj => by rw [← hx_get j hj]; exact hno.out j hj)]; rfl, rfl⟩

/-- a byte for each two digits -/
def pairs : List UInt8 → List UInt8
  | a :: b :: r => Num.byte (16 * ix a + ix b) :: pairs r
  | _ => []
theorem pairs_append (k : Nat) (a b : List UInt8) (h : a.length = 2 * k) : pairs (a ++ b) = pairs a ++ pairs b := by
  induction k generalizing a with
  | zero =>
    obtain rfl : a = [] := List.eq_nil_of_length_eq_zero (by omega)
    rfl
  | succ k ih =>
    match a, h with
    | x :: y :: r, h => simp [pairs, ih r (by simp at h; omega)]
theorem length_pairs (k : Nat) (a : List UInt8) (h : a.length = 2 * k) : (pairs a).length = k := by
  induction k generalizing a with
  | zero =>
    obtain rfl : a = [] := List.eq_nil_of_length_eq_zero (by omega)
    rfl
  | succ k ih =>
    match a, h with
    | x :: y :: r, h => simp [pairs, ih r (by simp at h; omega)]
theorem length_take_of (s : ByteArray) (m : Nat) (h : m ≤ s.size) : (s.data.toList.take m).length = m := by
  rw [List.length_take, Array.length_toList]; have : s.data.size = s.size := rfl; omega
theorem pairs_take (s : ByteArray) (m : Nat) (he : m % 2 = 0) (h : m + 1 < s.size) :
    pairs (s.data.toList.take (m + 2)) = pairs (s.data.toList.take m) ++ [Num.byte (16 * ix s[m] + ix s[m + 1])] := by
  rw [Num.take_snoc s (m + 1) h, Num.take_snoc s m (by omega), List.append_assoc, pairs_append (m / 2) _ _ (by rw [length_take_of s m (by omega)]; omega)]
  rfl
def bad (s : ByteArray) : Prop := s.size % 2 = 1 ∨ ∃ j, ∃ h : j < s.size, ix (s[j]'h) < 0
/-- what is told -/
def Good (s : ByteArray) (l : List UInt8) (t : Bool) : Prop := (bad s ∧ l = [] ∧ t = false) ∨ (¬ bad s ∧ l = pairs s.data.toList ∧ t = true)
theorem good_one (s : ByteArray) (l l' : List UInt8) (t t' : Bool) (h : Good s l t) (h' : Good s l' t') : l = l' ∧ t = t' := by
  rcases h with ⟨h, rfl, rfl⟩ | ⟨h, rfl, rfl⟩ <;> rcases h' with ⟨h', rfl, rfl⟩ | ⟨h', rfl, rfl⟩
  · exact ⟨rfl, rfl⟩
  · exact absurd h h'
  · exact absurd h' h
  · exact ⟨rfl, rfl⟩
end Unhex
end Go.Proofs.Ytfmfidlhbephmaa
