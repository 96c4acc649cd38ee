/-
  Lists of fields in memory.
-/
import Derived.Test.YtbcjpjhpobmpbaaGreatDoorRecs
import Derived.Test.YtbcjpjhpobmpbaaGreatDoorRows
namespace Go.Proofs.YtbcjpjhpobmpbaaGreatDoor
open Go.RowKit
set_option linter.unusedVariables false
namespace Flds

/-- a field: its name and its value -/
abbrev Fld := ByteArray × ByteArray
def cells (f : Fld) : List Value := [.string f.1, .string f.2]
theorem cells_len (f : Fld) : (cells f).length = 2 := rfl
def Is (w : World) (v : Value) (l : List Fld) : Prop := Recs.Is 2 cells w v l
/-- how much a list of fields holds -/
def bulk (l : List Fld) : Nat := l.length + (l.map fun f => f.1.size + f.2.size).sum
theorem bulk_take (l : List Fld) (k : Nat) (h : k < l.length) : ((l.take (k + 1)).map fun f => f.1.size + f.2.size).sum = ((l.take k).map fun f => f.1.size + f.2.size).sum + (l[k].1.size + l[k].2.size) := by
  rw [List.take_succ_eq_append_getElem h, List.map_append, List.sum_append]; simp
theorem bulk_le (l : List Fld) (k : Nat) : ((l.take k).map fun f => f.1.size + f.2.size).sum ≤ (l.map fun f => f.1.size + f.2.size).sum := by
  conv => rhs; rw [← List.take_append_drop k l, List.map_append, List.sum_append]
  omega
/-- the cells of element i, as the walk spells their places -/
theorem is_form {w : World} {v : Value} {l : List Fld} (h : Is w v l) : ∃ a c, v = .slice a l.length c ∧ (0 < l.length → ∃ b o, a = some ⟨b, o, none⟩ ∧ l.length ≤ c ∧ c ≤ maxLen ∧ b < w.heap.size ∧ ∀ i (h : i < l.length), w.cell? ⟨b, o + i * 2, none⟩ = some (.string l[i].1) ∧ w.cell? ⟨b, o + i * 2 + 1, none⟩ = some (.string l[i].2)) := by
  obtain ⟨a, c, rfl, h2⟩ := h
  refine ⟨a, c, rfl, fun hl => ?_⟩
  obtain ⟨b, o, rfl, h3, h4, h5, h6⟩ := h2 hl
  exact ⟨b, o, rfl, h3, h4, h5, fun i hi => ⟨h6 i hi 0 _ rfl, h6 i hi 1 _ rfl⟩⟩

/-- what is left of a measure; -1 where it does not do -/
def left (n : Int) (k : Nat) : Int := if n - k < 0 then -1 else n - k
end Flds
end Go.Proofs.YtbcjpjhpobmpbaaGreatDoor
