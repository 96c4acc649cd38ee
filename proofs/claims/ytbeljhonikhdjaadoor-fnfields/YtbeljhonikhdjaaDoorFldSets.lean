/-
  What it is to drop a name of a list of fields, and to set one.
-/
import Derived.Test.YtbeljhonikhdjaaDoorFldPut
namespace Go.Proofs.YtbeljhonikhdjaaDoor
open Go.RowKit
set_option linter.unusedVariables false
namespace Flds

/-- those of another name -/
def drop (l : List Fld) (name : ByteArray) : List Fld := l.filter fun f => decide (¬ f.1 = name)
theorem drop_take (l : List Fld) (name : ByteArray) (k : Nat) (h : k < l.length) : drop (l.take (k + 1)) name = drop (l.take k) name ++ (if l[k].1 = name then [] else [l[k]]) := by
  unfold drop
  rw [List.take_succ_eq_append_getElem h, List.filter_append]
  by_cases e : l[k].1 = name
  · rw [if_pos e]; simp [e]
  · rw [if_neg e]; simp [e]
theorem drop_length (l : List Fld) (name : ByteArray) : (drop l name).length ≤ l.length := List.length_filter_le _ _
/-- one field more, as it is set -/
def setStep (name value : ByteArray) (r : List Fld × Bool) (f : Fld) : List Fld × Bool :=
  if f.1 = name then (if r.2 = true then r else (r.1 ++ [(name, value)], true)) else (r.1 ++ [f], r.2)
def setGo (l : List Fld) (name value : ByteArray) : List Fld × Bool := l.foldl (setStep name value) ([], false)
/-- the first of that name has the value, others of it are gone; else it is put behind all -/
def set (l : List Fld) (name value : ByteArray) : List Fld := if (setGo l name value).2 = true then (setGo l name value).1 else (setGo l name value).1 ++ [(name, value)]
theorem setGo_take (l : List Fld) (name value : ByteArray) (k : Nat) (h : k < l.length) : setGo (l.take (k + 1)) name value = setStep name value (setGo (l.take k) name value) l[k] := by
  unfold setGo
  rw [List.take_succ_eq_append_getElem h, List.foldl_append]; rfl
theorem setGo_length (l : List Fld) (name value : ByteArray) : (setGo l name value).1.length ≤ l.length := by
  refine Num.snoc_ind (P := fun l => (setGo l name value).1.length ≤ l.length) (by simp [setGo]) ?_ l
  intro l f ih
  have e : setGo (l ++ [f]) name value = setStep name value (setGo l name value) f := by unfold setGo; rw [List.foldl_append]; rfl
  rw [e, List.length_append]
  unfold setStep
  split
  · split
    · simp; omega
    · simp; omega
  · simp; omega
theorem set_length (l : List Fld) (name value : ByteArray) : (set l name value).length ≤ l.length + 1 := by
  have := setGo_length l name value
  unfold set
  split
  · omega
  · rw [List.length_append]; simp; omega
end Flds
end Go.Proofs.YtbeljhonikhdjaaDoor
