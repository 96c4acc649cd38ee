/-
  The byte at a place of a text.
-/
import Derived.Test.YtkogcbnbmdeolaaDoorNum
namespace Go.Proofs.YtkogcbnbmdeolaaDoor
set_option linter.unusedVariables false
namespace Line

/-- the byte at a place; 256 where there is none -/
def byteAt (s : ByteArray) (i : Nat) : Nat := if h : i < s.size then s[i].toNat else 256
theorem byteAt_eq (s : ByteArray) (i : Nat) (h : i < s.size) : byteAt s i = s[i].toNat := by unfold byteAt; rw [dif_pos h]
end Line
end Go.Proofs.YtkogcbnbmdeolaaDoor
