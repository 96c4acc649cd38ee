/-
  ReqVal: A request as a value.
  Boxes: Boxes of a call's own: what a store into one leaves of what lies below and of the rows behind.
-/
import Derived.Test.YtjeokackmkfooaaDoorFlds
import Derived.Test.YtjeokackmkfooaaDoorRecs
namespace Go.Proofs.YtjeokackmkfooaaDoor
open Go.RowKit
set_option linter.unusedVariables false
namespace Req

/-- the value of a request whose fields lie at v -/
def val (m u : ByteArray) (v : Value) (b : ByteArray) : Value := .agg #[.string m, .string u, v, .string b]
/-- how much a request holds -/
def bulk (m u : ByteArray) (l : List Flds.Fld) (b : ByteArray) : Nat := m.size + u.size + Flds.bulk l + b.size
end Req
end Go.Proofs.YtjeokackmkfooaaDoor
namespace Go.Proofs.YtjeokackmkfooaaDoor
open Go.RowKit
set_option linter.unusedVariables false
namespace Recs

/-- what lies below B, and the rows from n on that were there, are as they were -/
structure Past (B n : Nat) (W W' : World) : Prop where
  below : Below B W W'
  rows : ∀ j, n ≤ j → j < W.heap.size → W'.heap[j]? = W.heap[j]?
theorem Past.refl (B n : Nat) (W : World) : Past B n W W := ⟨Below.refl _ _, fun _ _ _ => rfl⟩
theorem Past.set {B n : Nat} {W W' : World} (h : Past B n W W') (g i : Nat) (u : Value) (hB : B ≤ g) (hn : g < n) : Past B n W (W'.setCell ⟨g, i, none⟩ u) :=
  ⟨h.below.setCell (p := ⟨g, i, none⟩) hB u, fun j hj hl => (heap_setCell_other W' ⟨g, i, none⟩ j u (fun e => by have e2 : j = g := e; omega)).trans (h.rows j hj hl)⟩
theorem Past.drew {B n : Nat} {W W' : World} (h : Past B n W W') : Past B n W W'.drew := ⟨h.below.drew, h.rows⟩
theorem own_past {α : Type} {e : TypeId} {sz : Nat} {enc : α → List Value} {B n : Nat} {W W' : World} {v : Value} {l : List α} (h : Own e sz enc n W v l) (hf : Past B n W W') : Own e sz enc n W' v l := by
  refine ⟨h.1, ?_⟩
  have hlt := own_lt h
  rcases h.2 with h1 | ⟨g, cap, cur, h1, hB, hg, rest⟩
  · exact .inl h1
  · subst h1
    exact .inr ⟨g, cap, cur, rfl, hB, by rw [hf.rows g hB (hlt g rfl).2]; exact hg, rest⟩
/-- the cells of a box that is known whole -/
theorem box_cell {w : World} {g : Nat} {cs : Array Value} {T : TypeId} (h : w.heap[g]? = some (.cells cs T (0, 0))) (i : Nat) : w.cell? ⟨g, i, none⟩ = cs[i]? := cell_of_row w g _ _ _ _ h
theorem box_thaw {w : World} {g : Nat} {cs : Array Value} {T : TypeId} (h : w.heap[g]? = some (.cells cs T (0, 0))) (i : Nat) : w.frozen? ⟨g, i, none⟩ = false := frozen_of_row w g i _ _ h
theorem box_set {w : World} {g : Nat} {cs : Array Value} {T : TypeId} (h : w.heap[g]? = some (.cells cs T (0, 0))) (i : Nat) (u : Value) : (w.setCell ⟨g, i, none⟩ u).heap[g]? = some (.cells (cs.setIfInBounds i u) T (0, 0)) := heap_setCell_same w g i cs _ u h
theorem box_far {w : World} {g k i : Nat} {o : Option Obj} (h : w.heap[k]? = o) (u : Value) (hne : k ≠ g) : (w.setCell ⟨g, i, none⟩ u).heap[k]? = o := (heap_setCell_other w ⟨g, i, none⟩ k u (fun e => hne e)).trans h
/-- three boxes that were just laid, behind whatever was laid since -/
theorem three_rows (w W : World) (p r o : Obj) (hb : Below (((w.alloc p).alloc r).alloc o).heap.size (((w.alloc p).alloc r).alloc o) W) : W.heap[w.heap.size]? = some p ∧ W.heap[w.heap.size + 1]? = some r ∧ W.heap[w.heap.size + 1 + 1]? = some o := by
  have e1 : (w.alloc p).heap.size = w.heap.size + 1 := by rw [World.size_alloc]
  have e2 : ((w.alloc p).alloc r).heap.size = w.heap.size + 1 + 1 := by rw [World.size_alloc, World.size_alloc]
  have e3 : (((w.alloc p).alloc r).alloc o).heap.size = w.heap.size + 1 + 1 + 1 := by rw [World.size_alloc, World.size_alloc, World.size_alloc]
  refine ⟨?_, ?_, ?_⟩
  · rw [hb.block _ (by omega), heap_alloc_old _ _ (by omega), heap_alloc_old _ _ (by omega), heap_alloc_new]
  · rw [hb.block _ (by omega), heap_alloc_old _ _ (by omega), ← e1, heap_alloc_new]
  · rw [hb.block _ (by omega), ← e2, heap_alloc_new]
/-- a row of one's own is as it was behind a store into another block -/
theorem own_set {α : Type} {e : TypeId} {sz : Nat} {enc : α → List Value} {B : Nat} {W : World} {v : Value} {l : List α} (h : Own e sz enc B W v l) (g i : Nat) (u : Value) (hne : ∀ k, v.ownBlock = some k → k ≠ g) : Own e sz enc B (W.setCell ⟨g, i, none⟩ u) v l := by
  have hg : W.grownBy (W.setCell ⟨g, i, none⟩ u) (some g) := ⟨rfl, rfl, rfl, by simp, fun j hj hr => heap_setCell_other W ⟨g, i, none⟩ j u (fun e => hr (by rw [show j = g from e]))⟩
  refine own_kept h hg ?_
  cases hv : v.ownBlock with
  | none => exact .inl rfl
  | some k => exact .inr (fun e => hne k hv (Option.some.inj e))
end Recs
end Go.Proofs.YtjeokackmkfooaaDoor
