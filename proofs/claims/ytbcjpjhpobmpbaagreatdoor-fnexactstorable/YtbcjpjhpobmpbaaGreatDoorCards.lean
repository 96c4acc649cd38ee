/-
  DERIVED. GIVEN WITH THE SEED: THE CARDS: each row of YtbcjpjhpobmpbaaGreatDoorRows.lean that lists a variable, with what it lists TIED to the program's text (the seventh form; the later family's looks); each row that meets fmt, with fmt's text TOLD by the authors' own Lean function (tested against real Go, not proved from fmt's source: count such statements apart). THE CARD IS WHAT COUNTS. Prove the row's statement (the work); the ties are given (YtbcjpjhpobmpbaaGreatDoorTie.lean); close each card by the builder's one call (the guide's Derived/Test/ToyasCard.lean, 'card_holds'). Laid BY PROGRAM, IN A SANDBOX (cutbox-door.mjs). By AI agents, Wed Nov 11 2026. No macro, syntax, notation, axiom, sorry.
-/
import Derived.Test.YtbcjpjhpobmpbaaGreatDoorRows
import GoSem.ClaimSeven
namespace Go.Proofs.YtbcjpjhpobmpbaaGreatDoor
namespace Rows

/-- THE TIED CARD OF 'laws.FnExactStorable'. -/
def fnExactStorableCard : Claim7 := { stood := { row := fnExactStorableRow, standIns := [], harness := (true, "7c1ea28836b8e4f65a081d23a4270662c3d6134f0377460ea6ed3dc089cfd169"), looks := false }, kinds := [], alts := [], laidByText := true, laidKinds := [.data, .data, .pinned], laidTests := true, laidLooks := .later }
def FnExactStorableCardSaid : Prop := Claim7.holds Tryz.pinned (.plain (OpenSpec.ofChange fnExactStorableSpec)) fnExactStorableCard

/-- THE TIED CARD OF 'laws.FnExactMustCheck'. -/
def fnExactMustCheckCard : Claim7 := { stood := { row := fnExactMustCheckRow, standIns := [], harness := (true, "7c1ea28836b8e4f65a081d23a4270662c3d6134f0377460ea6ed3dc089cfd169"), looks := false }, kinds := [], alts := [], laidByText := true, laidKinds := [.data, .data, .data, .data, .data, .pinned], laidTests := true, laidLooks := .later }
def FnExactMustCheckCardSaid : Prop := Claim7.holds Tryz.pinned (.plain (OpenSpec.ofChange fnExactMustCheckSpec)) fnExactMustCheckCard

/-- THE TIED CARD OF 'laws.FnStrict'. -/
def fnStrictCard : Claim7 := { stood := { row := fnStrictRow, standIns := [], harness := (true, "7c1ea28836b8e4f65a081d23a4270662c3d6134f0377460ea6ed3dc089cfd169"), looks := false }, kinds := [], alts := [], laidByText := true, laidKinds := [.data, .data, .data, .data, .data, .pinned], laidTests := true, laidLooks := .later }
def FnStrictCardSaid : Prop := Claim7.holds Tryz.pinned (.plain (OpenSpec.ofChange fnStrictSpec)) fnStrictCard

/-- THE SECOND FORM's CARD OF 'laws.FnExactStorable'. -/
def fnExactStorableUptoCard : Claim7 := { stood := { row := fnExactStorableUptoRow, standIns := [], harness := (true, "7c1ea28836b8e4f65a081d23a4270662c3d6134f0377460ea6ed3dc089cfd169"), looks := false }, kinds := [], alts := [], laidByText := true, laidKinds := [.data, .data, .pinned], laidTests := true, laidLooks := .later }
def FnExactStorableUptoCardSaid : Prop := Claim7.holds Tryz.pinned (.plain (OpenSpec.upto fnExactStorableSpec)) fnExactStorableUptoCard

/-- THE SECOND FORM's CARD OF 'laws.FnExactMustCheck'. -/
def fnExactMustCheckUptoCard : Claim7 := { stood := { row := fnExactMustCheckUptoRow, standIns := [], harness := (true, "7c1ea28836b8e4f65a081d23a4270662c3d6134f0377460ea6ed3dc089cfd169"), looks := false }, kinds := [], alts := [], laidByText := true, laidKinds := [.data, .data, .data, .data, .data, .pinned], laidTests := true, laidLooks := .later }
def FnExactMustCheckUptoCardSaid : Prop := Claim7.holds Tryz.pinned (.plain (OpenSpec.upto fnExactMustCheckSpec)) fnExactMustCheckUptoCard

/-- THE SECOND FORM's CARD OF 'laws.FnStrict'. -/
def fnStrictUptoCard : Claim7 := { stood := { row := fnStrictUptoRow, standIns := [], harness := (true, "7c1ea28836b8e4f65a081d23a4270662c3d6134f0377460ea6ed3dc089cfd169"), looks := false }, kinds := [], alts := [], laidByText := true, laidKinds := [.data, .data, .data, .data, .data, .pinned], laidTests := true, laidLooks := .later }
def FnStrictUptoCardSaid : Prop := Claim7.holds Tryz.pinned (.plain (OpenSpec.upto fnStrictSpec)) fnStrictUptoCard
end Rows
end Go.Proofs.YtbcjpjhpobmpbaaGreatDoor
