/-
  What it is to get all values of a name of a list of fields.
-/
import Derived.Test.YtkogcbnbmdeolaaDoorFlds
namespace Go.Proofs.YtkogcbnbmdeolaaDoor
open Go.RowKit
set_option linter.unusedVariables false
namespace Flds

/-- one field more -/
def getStep (name : ByteArray) (r : ByteArray × Bool) (f : Fld) : ByteArray × Bool :=
  if f.1 = name then ((if r.2 = true then r.1 ++ ⟨#[44, 32]⟩ else r.1) ++ f.2, true) else r
/-- all values of a name -/
def get (l : List Fld) (name : ByteArray) : ByteArray × Bool := l.foldl (getStep name) (⟨#[]⟩, false)
theorem get_take (l : List Fld) (name : ByteArray) (k : Nat) (h : k < l.length) : get (l.take (k + 1)) name = getStep name (get (l.take k) name) l[k] := by
  unfold get
  rw [List.take_succ_eq_append_getElem h, List.foldl_append]; rfl
theorem get_size (l : List Fld) (name : ByteArray) : (get l name).1.size ≤ 2 * l.length + (l.map fun f => f.1.size + f.2.size).sum := by
  refine Num.snoc_ind (P := fun l => (get l name).1.size ≤ 2 * l.length + (l.map fun f => f.1.size + f.2.size).sum) (Nat.zero_le _) ?_ l
  intro l f ih
  have e : get (l ++ [f]) name = getStep name (get l name) f := by unfold get; rw [List.foldl_append]; rfl
  have hz : (⟨#[44, 32]⟩ : ByteArray).size = 2 := rfl
  rw [e, List.length_append, List.map_append, List.sum_append]
  unfold getStep
  split
  · simp only [ByteArray.size_append, List.length_singleton, List.map_cons, List.map_nil, List.sum_cons, List.sum_nil]
    split
    · rw [ByteArray.size_append, hz]; omega
    · omega
  · simp only [List.length_singleton, List.map_cons, List.map_nil, List.sum_cons, List.sum_nil]; omega
theorem text_ne' {x y : ByteArray} (h : ¬ x = y) : (x.toList == y.toList) = false := by
  rw [beq_eq_false_iff_ne, ByteArray.toList_eq, ByteArray.toList_eq]
  intro e; exact h (ByteArray.ext (Array.toList_inj.1 e))

end Flds
end Go.Proofs.YtkogcbnbmdeolaaDoor
