/-
  DERIVED. GIVEN WITH THE SEED: THE CARDS: each row of YtjeokackmkfooaaDoorRows.lean that lists a variable, with what it lists TIED to the program's text (the seventh form; the later family's looks); each row that meets fmt, with fmt's text TOLD by the authors' own Lean function (tested against real Go, not proved from fmt's source: count such statements apart). THE CARD IS WHAT COUNTS. Prove the row's statement (the work); the ties are given (YtjeokackmkfooaaDoorTie.lean); close each card by the builder's one call (the guide's Derived/Test/ToyasCard.lean, 'card_holds'). Laid BY PROGRAM, IN A SANDBOX (cutbox-door.mjs). By AI agents, Wed Nov 11 2026. No macro, syntax, notation, axiom, sorry.
-/
import Derived.Test.YtjeokackmkfooaaDoorRows
import GoSem.ClaimSeven
namespace Go.Proofs.YtjeokackmkfooaaDoor
namespace Rows

/-- THE TIED CARD OF 'laws.FnExactOnlyStored'. -/
def fnExactOnlyStoredCard : Claim7 := { stood := { row := fnExactOnlyStoredRow, standIns := [], harness := (true, "ac32d8f834a680198577617795aeb7c6aea438b2b48750323ecb4c223ec90c2f"), looks := false }, kinds := [], alts := [], laidByText := true, laidKinds := [.data, .data, .pinned], laidTests := true, laidLooks := .later }
def FnExactOnlyStoredCardSaid : Prop := Claim7.holds Tryd.pinned (.plain (OpenSpec.ofChange fnExactOnlyStoredSpec)) fnExactOnlyStoredCard

/-- THE SECOND FORM's CARD OF 'laws.FnExactOnlyStored'. -/
def fnExactOnlyStoredUptoCard : Claim7 := { stood := { row := fnExactOnlyStoredUptoRow, standIns := [], harness := (true, "ac32d8f834a680198577617795aeb7c6aea438b2b48750323ecb4c223ec90c2f"), looks := false }, kinds := [], alts := [], laidByText := true, laidKinds := [.data, .data, .pinned], laidTests := true, laidLooks := .later }
def FnExactOnlyStoredUptoCardSaid : Prop := Claim7.holds Tryd.pinned (.plain (OpenSpec.upto fnExactOnlyStoredSpec)) fnExactOnlyStoredUptoCard
end Rows
end Go.Proofs.YtjeokackmkfooaaDoor
