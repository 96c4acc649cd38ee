/-
  DrawOnce: l1Once of the draws.
  DrawOnceL: l1Once of the draws, of a cursor in whatever state.
  RegTwo: One step through a region that draws its order: two operations that come up together.
-/
import Derived.Test.YtihiljickefanaaGreatDoorPbe
import Derived.Test.YtihiljickefanaaGreatDoorPao
namespace Go.Proofs.YtihiljickefanaaGreatDoor
open Go.RowKit
set_option linter.unusedVariables false
namespace Draw

theorem once_at (B C cap : Nat) (a : Option Addr) (l : List Int) (n : Int) (w : World) (s : Nat × Int) (h : At B C cap a l w s) (hn : n ≤ 4294967296) :
    Calls Tryz.prog 37 #[.pointer (some ⟨C, 0, none⟩), .int .i64 n] w fun e w' => e = .returned (.bool (blv l n s == 0)) ∧ At B C cap a l w' (bls l n s) ∧ Only C w w' := by
  go_enter Tryz.func37, Tryz.ntmps37
  go_wp2_with fail
  refine (below_at B C cap a l n _ s h hn).mono ?_
  rintro e w1 ⟨rfl, h1, ho⟩
  go_wp2
  go_ret
  exact ⟨rfl, h1, ho⟩
end Draw
end Go.Proofs.YtihiljickefanaaGreatDoor
namespace Go.Proofs.YtihiljickefanaaGreatDoor
open Go.RowKit
set_option linter.unusedVariables false
namespace Draw

theorem once_live (B C : Nat) (n : Int) (w : World) (h : Live B C w) (hn : n ≤ 4294967296) :
    Calls Tryz.prog 37 #[.pointer (some ⟨C, 0, none⟩), .int .i64 n] w fun e w' => ∃ b, e = .returned (.bool b) ∧ Live B C w' ∧ Only C w w' := by
  obtain ⟨cap, a, l, s, h⟩ := h
  refine (once_at B C cap a l n w s h hn).mono ?_
  rintro e w' ⟨rfl, h2, ho⟩
  exact ⟨_, rfl, ⟨_, _, _, _, h2⟩, ho⟩
end Draw
end Go.Proofs.YtihiljickefanaaGreatDoor
namespace Go.Proofs.YtihiljickefanaaGreatDoor
open Go.RowKit
set_option linter.unusedVariables false
namespace Reg

variable {P : Program} {ops : Array Oper} {Q : Exit → Act → World → Prop} {md : Region.Mode} {S : World → Prop}
theorem two {i j : Nat} {o p : Oper} {fuel : Nat} {listed : Array Bool} {a : Act} {w : World} (hi : ops.toList[i]? = some o) (hj : ops.toList[j]? = some p) (hr : Region.ready md ops listed = [i, j])
    (hwi : Region.wanted o (yielded ops a.tmps) = true) (hwj : Region.wanted p (yielded ops a.tmps) = true)
    (h1 : ∀ K' : Act → World → Prop, Shut (∀ a w, S w → (S w → wpAnyH P md ops Q S fuel (listed.setIfInBounds i true) a w) → K' a w) → Oper.wp P o a w K' Q)
    (h2 : ∀ K' : Act → World → Prop, Shut (∀ a w, S w → (S w → wpAnyH P md ops Q S fuel (listed.setIfInBounds j true) a w) → K' a w) → Oper.wp P p a w K' Q) : wpAnyH P md ops Q S (fuel + 1) listed a w :=
  wpAnyH_ready hr (by simp) (AllReadyH.cons (at_ hi) (fun K hK => by rw [if_pos hwi]; exact h1 K hK) (AllReadyH.cons (at_ hj) (fun K hK => by rw [if_pos hwj]; exact h2 K hK) AllReadyH.nil))
end Reg
end Go.Proofs.YtihiljickefanaaGreatDoor
