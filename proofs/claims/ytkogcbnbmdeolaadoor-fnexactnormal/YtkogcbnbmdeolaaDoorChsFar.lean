/-
  What a choice leaves as it was.
-/
import Derived.Test.YtkogcbnbmdeolaaDoorFldPut
namespace Go.Proofs.YtkogcbnbmdeolaaDoor
open Go.RowKit
set_option linter.unusedVariables false
namespace Flds

/-- what lies below block B, and from block n on, is as it was -/
structure Far (B n : Nat) (W W' : World) : Prop where
  below : Below B W W'
  rows : ∀ j, n ≤ j → j < W.heap.size → W'.heap[j]? = W.heap[j]?
theorem Far.of_below {B n : Nat} {W W' : World} (h : Below W.heap.size W W') (hB : B ≤ W.heap.size) : Far B n W W' := ⟨h.mono hB, fun j _ hj => h.block j hj⟩
theorem own_far {α : Type} {e : TypeId} {sz : Nat} {enc : α → List Value} {B n : Nat} {W W' : World} {v : Value} {l : List α} (h : Recs.Own e sz enc n W v l) (hf : Far B n W W') : Recs.Own e sz enc n W' v l := by
  refine ⟨h.1, ?_⟩
  have hlt := Recs.own_lt h
  rcases h.2 with h1 | ⟨g, cap, cur, h1, hB, hg, rest⟩
  · exact .inl h1
  · subst h1
    exact .inr ⟨g, cap, cur, rfl, hB, by rw [hf.rows g hB (hlt g rfl).2]; exact hg, rest⟩
end Flds
end Go.Proofs.YtkogcbnbmdeolaaDoor
