/-
  Plain facts on decimal digits: the digits of a number, one by one from the lowest on.
-/
import Derived.Test.YtkogcbnbmdeolaaDoorNum
import Derived.Lib.ItoaNum
import Derived.Lib.ItoaLen
namespace Go.Proofs.YtkogcbnbmdeolaaDoor
open Go.RowKit
set_option linter.unusedVariables false
namespace Dec

/-- the digits of a number, none for 0 -/
def dd (u : Nat) : List UInt8 := if u = 0 then [] else Lib.decDigits u
theorem dd_zero : dd 0 = [] := rfl
theorem dd_pos (u : Nat) (h : u ≠ 0) : dd u = Lib.decDigits u := if_neg h
theorem dd_step (u : Nat) (h : u ≠ 0) : dd u = dd (u / 10) ++ [Num.byte (48 + (u % 10 : Nat))] := by
  have e : Num.byte (48 + ((u % 10 : Nat) : Int)) = UInt8.ofNat (48 + u % 10) := by
    apply UInt8.toNat_inj.1
    have hb := Num.byte_val (48 + ((u % 10 : Nat) : Int))
    rw [UInt8.toNat_ofNat']
    omega
  rw [dd_pos u h, Lib.decDigits, e]
  by_cases h10 : u < 10
  · rw [dif_pos h10, show u / 10 = 0 by omega, dd_zero, show u % 10 = u by omega]; rfl
  · rw [dif_neg h10, dd_pos (u / 10) (by omega)]
theorem length_dd (u : Nat) (h : u < 18446744073709551616) : (dd u).length ≤ 20 := by
  by_cases h0 : u = 0
  · subst h0; simp [dd_zero]
  · rw [dd_pos u h0, Lib.decDigits_length]; exact Lib.nDigits_le20 u h
theorem itoa_zero : Lib.itoa 0 = [48] := by
  have h : Lib.decDigits 0 = [48] := by rw [Lib.decDigits_one (by decide)]; rfl
  exact h
theorem itoa_pos (n : Int) (h : 0 < n) : Lib.itoa n = dd n.natAbs := by
  unfold Lib.itoa
  rw [if_neg (by omega), dd_pos _ (by omega), show n.toNat = n.natAbs by omega]
theorem itoa_neg (n : Int) (h : n < 0) : Lib.itoa n = 45 :: dd n.natAbs := by
  unfold Lib.itoa
  rw [if_pos h, dd_pos _ (by omega)]
end Dec
end Go.Proofs.YtkogcbnbmdeolaaDoor
