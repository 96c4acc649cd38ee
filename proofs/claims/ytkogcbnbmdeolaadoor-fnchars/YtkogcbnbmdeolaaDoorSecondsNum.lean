/-
  Seconds, plain: a number of digits, no greater than the bound.
-/
import Derived.Test.YtkogcbnbmdeolaaDoorSignNum
namespace Go.Proofs.YtkogcbnbmdeolaaDoor
open Go.RowKit
set_option linter.unusedVariables false
namespace Sign

/-- a number of digits, no greater than the bound -/
def sec (l : List UInt8) : Int := l.foldl (fun n c => min (n * 10 + ((c.toNat : Int) - 48)) 2147483648) 0
theorem sec_snoc (l : List UInt8) (c : UInt8) : sec (l ++ [c]) = min (sec l * 10 + ((c.toNat : Int) - 48)) 2147483648 := by simp [sec]
theorem sec_bd (l : List UInt8) (h : l.all (fun b => decide (dig (b.toNat : Int))) = true) : 0 ≤ sec l ∧ sec l ≤ 2147483648 := by
  revert h
  refine Num.snoc_ind (P := fun l => l.all (fun b => decide (dig (b.toNat : Int))) = true → 0 ≤ sec l ∧ sec l ≤ 2147483648) (by intro _; simp [sec]) ?_ l
  intro l c ih h
  rw [List.all_append, Bool.and_eq_true] at h
  have h1 := ih h.1
  have h2 : dig (c.toNat : Int) := by simpa using h.2
  unfold dig at h2
  rw [sec_snoc]
  omega
theorem sec_take (s : ByteArray) (k : Nat) (h : k < s.size) : sec (s.data.toList.take (k + 1)) = min (sec (s.data.toList.take k) * 10 + ((s[k].toNat : Int) - 48)) 2147483648 := by
  rw [Num.take_snoc s k h, sec_snoc]
def secs (s : ByteArray) : Int × Bool :=
  if 0 < s.size ∧ s.data.toList.all (fun b => decide (dig (b.toNat : Int))) = true then (sec s.data.toList, true) else (0, false)
end Sign
end Go.Proofs.YtkogcbnbmdeolaaDoor
