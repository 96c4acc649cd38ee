/-
  l1Spoil of the draws, of a cursor in whatever state.
-/
import Derived.Test.YtdgmhjklidklmaaDoorDrawLive
import Derived.Test.YtdgmhjklidklmaaDoorDrawSpoil
namespace Go.Proofs.YtdgmhjklidklmaaDoor
open Go.RowKit
set_option linter.unusedVariables false
namespace Draw

theorem spoil_live (B C : Nat) (x : ByteArray) (w : World) (h : Live B C w) (hx : x.size ≤ 1000) :
    Calls Tryd.prog 28 #[.pointer (some ⟨C, 0, none⟩), .string x] w fun e w' => ∃ t, e = .returned (.string t) ∧ t.size ≤ 2100 ∧ Live B C w' ∧ Only C w w' := by
  obtain ⟨cap, a, l, s, h⟩ := h
  refine (spoil_at B C cap a l x w s h hx).mono ?_
  rintro e w' ⟨rfl, h2, ho⟩
  exact ⟨_, rfl, size_spv l x s hx, ⟨_, _, _, _, h2⟩, ho⟩
end Draw
end Go.Proofs.YtdgmhjklidklmaaDoor
