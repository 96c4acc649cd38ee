/-
  The digits, and the text of two digits for each byte.
-/
import Derived.Test.YtkenmilglfnmbaaGreatDoorNum
import Derived.Lib.Strings
namespace Go.Proofs.YtkenmilglfnmbaaGreatDoor
open Go.RowKit
set_option linter.unusedVariables false
namespace Hex

/-- the sixteen digits -/
def digits : ByteArray := ⟨#[48, 49, 50, 51, 52, 53, 54, 55, 56, 57, 97, 98, 99, 100, 101, 102]⟩
def hx (k : Nat) : UInt8 := digits.data.toList.getD k 0
theorem digit_at (k : Nat) (h : k < 16) : (⟨#[48, 49, 50, 51, 52, 53, 54, 55, 56, 57, 97, 98, 99, 100, 101, 102]⟩ : ByteArray)[k]'h = hx k := by
  have hs : k < digits.data.toList.length := h
  simp only [hx, List.getD_eq_getElem?_getD, List.getElem?_eq_getElem hs, Option.getD_some, Array.getElem_toList]
  rfl
/-- two digits for each byte -/
def hex : List UInt8 → List UInt8
  | [] => []
  | c :: l => hx (c.toNat / 16) :: hx (c.toNat % 16) :: hex l
theorem hex_append (a b : List UInt8) : hex (a ++ b) = hex a ++ hex b := by
  induction a with
  | nil => rfl
  | cons c a ih => simp [hex, ih]
theorem length_hex (l : List UInt8) : (hex l).length = 2 * l.length := by
  induction l with
  | nil => rfl
  | cons c l ih => simp [hex, ih]; omega
theorem hex_take (s : ByteArray) (k : Nat) (h : k < s.size) : hex (s.data.toList.take (k + 1)) = hex (s.data.toList.take k) ++ [hx (s[k].toNat / 16), hx (s[k].toNat % 16)] := by
  rw [Num.take_snoc s k h, hex_append]; rfl
theorem length_hex_take (s : ByteArray) (k : Nat) (h : k ≤ s.size) : (hex (s.data.toList.take k)).length = 2 * k := by
  rw [length_hex, List.length_take, Array.length_toList]; have : s.data.size = s.size := rfl; omega
end Hex
end Go.Proofs.YtkenmilglfnmbaaGreatDoor
