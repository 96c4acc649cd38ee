/-
  DERIVED. GIVEN WITH THE SEED: THE CARDS: each row of YtkenmilglfnmbaaDoorRows.lean that lists a variable, with what it lists TIED to the program's text (the seventh form; the later family's looks); each row that meets fmt, with fmt's text TOLD by the authors' own Lean function (tested against real Go, not proved from fmt's source: count such statements apart). THE CARD IS WHAT COUNTS. Prove the row's statement (the work); the ties are given (YtkenmilglfnmbaaDoorTie.lean); close each card by the builder's one call (the guide's Derived/Test/ToyasCard.lean, 'card_holds'). Laid BY PROGRAM, IN A SANDBOX (cutbox-door.mjs). By AI agents, Wed Nov 11 2026. No macro, syntax, notation, axiom, sorry.
-/
import Derived.Test.YtkenmilglfnmbaaDoorRows
import GoSem.ClaimSeven
namespace Go.Proofs.YtkenmilglfnmbaaDoor
namespace Rows

/-- THE TIED CARD OF 'laws.FnExactUnchunk'. -/
def fnExactUnchunkCard : Claim7 := { stood := { row := fnExactUnchunkRow, standIns := [], harness := (true, "b6b1d27ddd2e4eb5d80f177156fbf5e588ef8287f7df34bd067e3c9946b222d6"), looks := true }, kinds := [], alts := [], laidByText := true, laidKinds := [.data, .data, .data, .sentinel, .sentinel, .sentinel, .sentinel], laidTests := true, laidLooks := .later }
def FnExactUnchunkCardSaid : Prop := Claim7.holds Tryd.pinned (.plain (OpenSpec.ofChange fnExactUnchunkSpec)) fnExactUnchunkCard

/-- THE TIED CARD OF 'laws.FnExactBodyOf'. -/
def fnExactBodyOfCard : Claim7 := { stood := { row := fnExactBodyOfRow, standIns := [], harness := (true, "b6b1d27ddd2e4eb5d80f177156fbf5e588ef8287f7df34bd067e3c9946b222d6"), looks := true }, kinds := [], alts := [], laidByText := true, laidKinds := [.data, .data, .data, .sentinel, .sentinel, .sentinel, .sentinel], laidTests := true, laidLooks := .later }
def FnExactBodyOfCardSaid : Prop := Claim7.holds Tryd.pinned (.plain (OpenSpec.ofChange fnExactBodyOfSpec)) fnExactBodyOfCard

/-- THE SECOND FORM's CARD OF 'laws.FnExactUnchunk'. -/
def fnExactUnchunkUptoCard : Claim7 := { stood := { row := fnExactUnchunkUptoRow, standIns := [], harness := (true, "b6b1d27ddd2e4eb5d80f177156fbf5e588ef8287f7df34bd067e3c9946b222d6"), looks := true }, kinds := [], alts := [], laidByText := true, laidKinds := [.data, .data, .data, .sentinel, .sentinel, .sentinel, .sentinel], laidTests := true, laidLooks := .later }
def FnExactUnchunkUptoCardSaid : Prop := Claim7.holds Tryd.pinned (.plain (OpenSpec.upto fnExactUnchunkSpec)) fnExactUnchunkUptoCard

/-- THE SECOND FORM's CARD OF 'laws.FnExactBodyOf'. -/
def fnExactBodyOfUptoCard : Claim7 := { stood := { row := fnExactBodyOfUptoRow, standIns := [], harness := (true, "b6b1d27ddd2e4eb5d80f177156fbf5e588ef8287f7df34bd067e3c9946b222d6"), looks := true }, kinds := [], alts := [], laidByText := true, laidKinds := [.data, .data, .data, .sentinel, .sentinel, .sentinel, .sentinel], laidTests := true, laidLooks := .later }
def FnExactBodyOfUptoCardSaid : Prop := Claim7.holds Tryd.pinned (.plain (OpenSpec.upto fnExactBodyOfSpec)) fnExactBodyOfUptoCard
end Rows
end Go.Proofs.YtkenmilglfnmbaaDoor
