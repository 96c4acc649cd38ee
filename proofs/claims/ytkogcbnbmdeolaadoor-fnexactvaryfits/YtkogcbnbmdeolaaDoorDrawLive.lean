/-
  A cursor of the draws, in whatever state: what it tells is bounded; nothing but the cursor and new memory changes.
-/
import Derived.Test.YtkogcbnbmdeolaaDoorDrawByte
namespace Go.Proofs.YtkogcbnbmdeolaaDoor
open Go.RowKit
set_option linter.unusedVariables false
namespace Draw

/-- a cursor over some bytes that lie below block B lies in block C -/
def Live (B C : Nat) (w : World) : Prop := ∃ cap a l s, At B C cap a l w s
theorem Live.lt {B C : Nat} {w : World} (h : Live B C w) : C < w.heap.size := by obtain ⟨_, _, _, _, h⟩ := h; exact h.lt
theorem Live.hB {B C : Nat} {w : World} (h : Live B C w) : B ≤ C := by obtain ⟨_, _, _, _, h⟩ := h; exact h.hB
theorem Live.below {B C : Nat} {w w' : World} (h : Live B C w) (hb : Below w.heap.size w w') : Live B C w' := by obtain ⟨_, _, _, _, h⟩ := h; exact ⟨_, _, _, _, h.below hb⟩
theorem Live.under {B C K : Nat} {w w' : World} (h : Live B C w) (hb : Below K w w') (hK : C < K) : Live B C w' := by obtain ⟨_, _, _, _, h⟩ := h; exact ⟨_, _, _, _, h.under hb hK⟩
theorem Live.alloc {B C : Nat} {w : World} (h : Live B C w) (o : Obj) : Live B C (w.alloc o) := h.below ((Below.refl _ _).alloc (Nat.le_refl _) _)
theorem below_live (B C : Nat) (n : Int) (w : World) (h : Live B C w) (h0 : 0 < n) (hn : n ≤ 4294967296) :
    Calls Tryd.prog 55 #[.pointer (some ⟨C, 0, none⟩), .int .i64 n] w fun e w' => ∃ z : Int, e = .returned (.int .i64 z) ∧ 0 ≤ z ∧ z < n ∧ Live B C w' ∧ Only C w w' := by
  obtain ⟨cap, a, l, s, h⟩ := h
  refine (below_at B C cap a l n w s h hn).mono ?_
  rintro e w' ⟨rfl, h2, ho⟩
  have := blv_bd l n s h0
  exact ⟨_, rfl, this.1, this.2, ⟨_, _, _, _, h2⟩, ho⟩
end Draw
end Go.Proofs.YtkogcbnbmdeolaaDoor
