/-
  A field put behind a list of fields in a row of the call's own.
-/
import Derived.Test.YtkogcbnbmdeolaaDoorFldOwn
namespace Go.Proofs.YtkogcbnbmdeolaaDoor
open Go.RowKit
set_option linter.unusedVariables false
namespace Flds

theorem ne_text {x y : ByteArray} (h : ¬ x = y) : (x.toList == y.toList) = false := by
  rw [beq_eq_false_iff_ne, ByteArray.toList_eq, ByteArray.toList_eq]
  intro e; exact h (ByteArray.ext (Array.toList_inj.1 e))
theorem cells_two (w : World) (x y : ByteArray) : ∀ j u, [Value.string x, Value.string y][j]? = some u → (w.alloc (.cells #[.string x, .string y] 40)).cell? ((⟨w.heap.size, 0, none⟩ : Addr).add j) = some u := by
  intro j u hj
  match j, hj with
  | 0, hj => simp at hj; subst hj; simp [Addr.add]
  | 1, hj => simp at hj; subst hj; simp [Addr.add]
theorem two_ok (x y : ByteArray) : ∀ u ∈ [Value.string x, Value.string y], u.oneCell' = true := by
  intro u hu; simp at hu; rcases hu with rfl | rfl <;> rfl
theorem put_more {w wr w2 : World} {B : Nat} {v v' : Value} {l : List Fld} {x y : ByteArray} (hB : B ≤ wr.heap.size) (ho : Own B wr v l) (hb : Below B w wr)
    (ho2 : w2.ownsRow B 40 2 v' (l.length + 1) (l.flatMap cells ++ [.string x, .string y])) (hg : (wr.alloc (.cells #[.string x, .string y] 40)).grownBy w2 v.ownBlock) : Own B w2 v' (l ++ [(x, y)]) ∧ Below B w w2 :=
  ⟨Recs.own_snoc ho2, (hb.alloc hB _).grown hg (by simp; omega) (fun j hj => (Recs.own_lt ho j hj).1)⟩
theorem made_nil (w : World) : Own w.heap.size (w.alloc (.cells #[] 40)) (.slice (some ⟨w.heap.size, 0, none⟩) 0 0) [] := World.ownsRow_made w #[] 0 (Nat.le_refl _) (Nat.zero_le _) rfl
theorem two_cells {w : World} {g : Nat} {x y : Value} {T : TypeId} (h : w.heap[g]? = some (.cells #[x, y] T (0, 0))) : w.cell? ⟨g, 0, none⟩ = some x ∧ w.cell? ⟨g, 1, none⟩ = some y ∧ w.frozen? ⟨g, 0, none⟩ = false ∧ w.frozen? ⟨g, 1, none⟩ = false :=
  ⟨by rw [cell_of_row w g _ _ _ _ h]; rfl, by rw [cell_of_row w g _ _ _ _ h]; rfl, frozen_of_row w g 0 _ _ h, frozen_of_row w g 1 _ _ h⟩
theorem box_first {W : World} {g : Nat} {x y : ByteArray} {u : Value} (h : W.cell? ⟨g, 0, none⟩ = some u) : ((W.setCell ⟨g, 0, none⟩ (.string x)).setCell ⟨g, 1, none⟩ (.string y)).cell? ⟨g, 0, none⟩ = some (.string x) := by
  rw [World.cell?_setCell_other (h := by intro e; have e2 : 1 = 0 := congrArg Addr.off e; omega), World.cell?_setCell_same (h := h)]
theorem box_second {W : World} {g : Nat} {x y : ByteArray} {u : Value} (h : W.cell? ⟨g, 1, none⟩ = some u) : ((W.setCell ⟨g, 0, none⟩ (.string x)).setCell ⟨g, 1, none⟩ (.string y)).cell? ⟨g, 1, none⟩ = some (.string y) := by
  exact World.cell?_setCell_same _ _ _ (by rw [World.cell?_setCell_other (h := by intro e; have e2 : 0 = 1 := congrArg Addr.off e; omega)]; exact h)

end Flds
end Go.Proofs.YtkogcbnbmdeolaaDoor
