/-
  Which digit a byte is; a byte for each two digits.
-/
import Derived.Test.YtfmfidlhbephmaaHexNum
import Derived.Lib.Bytealg
namespace Go.Proofs.Ytfmfidlhbephmaa
open Go.RowKit
set_option linter.unusedVariables false
namespace Unhex


/-- which digit a byte is; -1 where it is none -/
def ix (b : UInt8) : Int := Lib.indexByte Hex.digits.data.toList b
theorem index_at (l : List UInt8) (b : UInt8) (k : Nat) (hk : k < l.length) (hlt : ∀ j (h : j < l.length), j < k → l[j] ≠ b) (he : l[k] = b) : Lib.indexByte l b = k := by
  induction l generalizing k with
  | nil => simp at hk
  | cons c l ih =>
    cases k with
    | zero => simp at he; simp [Lib.indexByte, he]
    | succ k =>
      have h0 : c ≠ b := hlt 0 (by simp) (by omega)
      have hi := ih k (by simpa using hk) (fun j hj hjk => hlt (j + 1) (by simpa using hj) (by omega)) (by simpa using he)
      have hne : ((k : Int) == -1) = false := by rw [beq_eq_false_iff_ne]; omega
      simp [Lib.indexByte, h0, hi, hne]
theorem index_none (l : List UInt8) (b : UInt8) (hlt : ∀ j (h : j < l.length), l[j] ≠ b) : Lib.indexByte l b = -1 := by
  induction l with
  | nil => rfl
  | cons c l ih =>
    have h0 : c ≠ b := hlt 0 (by simp)
    have hi := ih (fun j hj => hlt (j + 1) (by simpa using hj))
    simp [Lib.indexByte, h0, hi]
theorem index_bd (l : List UInt8) (b : UInt8) : -1 ≤ Lib.indexByte l b ∧ Lib.indexByte l b < l.length := by
  induction l with
  | nil => simp [Lib.indexByte]
  | cons c l ih =>
    by_cases h : c = b
    · simp [Lib.indexByte, h]
    · by_cases h2 : Lib.indexByte l b = -1
      · simp [Lib.indexByte, h, h2]; omega
      · have h3 : (Lib.indexByte l b == -1) = false := by simpa using h2
        simp only [Lib.indexByte, h3, beq_eq_false_iff_ne.2 h, List.length_cons]
        simp
        omega
theorem ix_bd (b : UInt8) : -1 ≤ ix b ∧ ix b < 16 := index_bd Hex.digits.data.toList b
theorem hx_get (k : Nat) (h : k < 16) : Hex.hx k = Hex.digits.data.toList[k]'h := by
  have hs : k < Hex.digits.data.toList.length := h
  simp only [Hex.hx, List.getD_eq_getElem?_getD, List.getElem?_eq_getElem hs, Option.getD_some]
  rfl
/-- a byte for each two digits -/
def pairs : List UInt8 → List UInt8
  | a :: b :: r => Num.byte (16 * ix a + ix b) :: pairs r
  | _ => []
theorem pairs_append (k : Nat) (a b : List UInt8) (h : a.length = 2 * k) : pairs (a ++ b) = pairs a ++ pairs b := by
  induction k generalizing a with
  | zero =>
    obtain rfl : a = [] := List.eq_nil_of_length_eq_zero (by omega)
    rfl
  | succ k ih =>
    match a, h with
    | x :: y :: r, h => simp [pairs, ih r (by simp at h; omega)]
theorem length_pairs (k : Nat) (a : List UInt8) (h : a.length = 2 * k) : (pairs a).length = k := by
  induction k generalizing a with
  | zero =>
    obtain rfl : a = [] := List.eq_nil_of_length_eq_zero (by omega)
    rfl
  | succ k ih =>
    match a, h with
    | x :: y :: r, h => simp [pairs, ih r (by simp at h; omega)]
theorem length_take_of (s : ByteArray) (m : Nat) (h : m ≤ s.size) : (s.data.toList.take m).length = m := by
  rw [List.length_take, Array.length_toList]; have : s.data.size = s.size := rfl; omega
theorem pairs_take (s : ByteArray) (m : Nat) (he : m % 2 = 0) (h : m + 1 < s.size) :
    pairs (s.data.toList.take (m + 2)) = pairs (s.data.toList.take m) ++ [Num.byte (16 * ix s[m] + ix s[m + 1])] := by
  rw [Num.take_snoc s (m + 1) h, Num.take_snoc s m (by omega), List.append_assoc, pairs_append (m / 2) _ _ (by rw [length_take_of s m (by omega)]; omega)]
  rfl
def bad (s : ByteArray) : Prop := s.size % 2 = 1 ∨ ∃ j, ∃ h : j < s.size, ix (s[j]'h) < 0
/-- what is told -/
def Good (s : ByteArray) (l : List UInt8) (t : Bool) : Prop := (bad s ∧ l = [] ∧ t = false) ∨ (¬ bad s ∧ l = pairs s.data.toList ∧ t = true)
theorem good_one (s : ByteArray) (l l' : List UInt8) (t t' : Bool) (h : Good s l t) (h' : Good s l' t') : l = l' ∧ t = t' := by
  rcases h with ⟨h, rfl, rfl⟩ | ⟨h, rfl, rfl⟩ <;> rcases h' with ⟨h', rfl, rfl⟩ | ⟨h', rfl, rfl⟩
  · exact ⟨rfl, rfl⟩
  · exact absurd h h'
  · exact absurd h' h
  · exact ⟨rfl, rfl⟩

theorem or_16 (x y : Int) (h0 : 0 ≤ x) (h1 : x < 16) (h2 : 0 ≤ y) (h3 : y < 16) : bits .or .i64 (x * 16) y = 16 * x + y := by
  rw [Num.or_i64 4 (x * 16) y (by decide) (by omega) (by omega) (by omega) h2 (by omega)]
  omega
end Unhex
end Go.Proofs.Ytfmfidlhbephmaa
