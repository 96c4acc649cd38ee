/-
  l1Text of the draws, of a cursor in whatever state.
-/
import Derived.Test.YtkogcbnbmdeolaaDoorDrawLive
import Derived.Test.YtkogcbnbmdeolaaDoorDrawString
namespace Go.Proofs.YtkogcbnbmdeolaaDoor
open Go.RowKit
set_option linter.unusedVariables false
namespace Draw

theorem text_live (B C : Nat) (most : Nat) (w : World) (h : Live B C w) (hm : most ≤ 1000000) :
    Calls Tryd.prog 46 #[.pointer (some ⟨C, 0, none⟩), .int .i64 (most : Int)] w fun e w' => ∃ t, e = .returned (.string t) ∧ t.size ≤ most ∧ Live B C w' ∧ Only C w w' := by
  obtain ⟨cap, a, l, s, h⟩ := h
  refine (text_at B C cap a l (most : Int) w s h (by omega) (by omega)).mono ?_
  rintro e w' ⟨rfl, h2, ho⟩
  have := length_txt l (most : Int) s (by omega)
  exact ⟨_, rfl, by show (txt l (most : Int) s).toArray.size ≤ most; rw [List.size_toArray]; exact this, ⟨_, _, _, _, h2⟩, ho⟩
end Draw
end Go.Proofs.YtkogcbnbmdeolaaDoor
