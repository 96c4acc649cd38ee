/-
  l1Once of the draws, of a cursor in whatever state.
-/
import Derived.Test.YtkogcbnbmdeolaaDoorDrawOnce
import Derived.Test.YtkogcbnbmdeolaaDoorDrawLive
namespace Go.Proofs.YtkogcbnbmdeolaaDoor
open Go.RowKit
set_option linter.unusedVariables false
namespace Draw

theorem once_live (B C : Nat) (n : Int) (w : World) (h : Live B C w) (hn : n ≤ 4294967296) :
    Calls Tryd.prog 87 #[.pointer (some ⟨C, 0, none⟩), .int .i64 n] w fun e w' => ∃ b, e = .returned (.bool b) ∧ Live B C w' ∧ Only C w w' := by
  obtain ⟨cap, a, l, s, h⟩ := h
  refine (once_at B C cap a l n w s h hn).mono ?_
  rintro e w' ⟨rfl, h2, ho⟩
  exact ⟨_, rfl, ⟨_, _, _, _, h2⟩, ho⟩
end Draw
end Go.Proofs.YtkogcbnbmdeolaaDoor
