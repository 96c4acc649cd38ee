/-
  l1Once of the draws.
-/
import Derived.Test.YtkogcbnbmdeolaaDoorDrawByte
namespace Go.Proofs.YtkogcbnbmdeolaaDoor
open Go.RowKit
set_option linter.unusedVariables false
namespace Draw

theorem once_at (B C cap : Nat) (a : Option Addr) (l : List Int) (n : Int) (w : World) (s : Nat × Int) (h : At B C cap a l w s) (hn : n ≤ 4294967296) :
    Calls Tryd.prog 87 #[.pointer (some ⟨C, 0, none⟩), .int .i64 n] w fun e w' => e = .returned (.bool (blv l n s == 0)) ∧ At B C cap a l w' (bls l n s) ∧ Only C w w' := by
  go_enter Tryd.func87, Tryd.ntmps87
  go_wp2_with fail
  refine (below_at B C cap a l n _ s h hn).mono ?_
  rintro e w1 ⟨rfl, h1, ho⟩
  go_wp2
  go_ret
  exact ⟨rfl, h1, ho⟩
end Draw
end Go.Proofs.YtkogcbnbmdeolaaDoor
