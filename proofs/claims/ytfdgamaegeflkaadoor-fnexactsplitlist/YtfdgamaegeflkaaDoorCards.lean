/-
  DERIVED. GIVEN WITH THE SEED: THE CARDS: each row of YtfdgamaegeflkaaDoorRows.lean that lists a variable, with what it lists TIED to the program's text (the seventh form; the later family's looks); each row that meets fmt, with fmt's text TOLD by the authors' own Lean function (tested against real Go, not proved from fmt's source: count such statements apart). THE CARD IS WHAT COUNTS. Prove the row's statement (the work); the ties are given (YtfdgamaegeflkaaDoorTie.lean); close each card by the builder's one call (the guide's Derived/Test/ToyasCard.lean, 'card_holds'). Laid BY PROGRAM, IN A SANDBOX (cutbox-door.mjs). By AI agents, Wed Nov 11 2026. No macro, syntax, notation, axiom, sorry.
-/
import Derived.Test.YtfdgamaegeflkaaDoorRows
import GoSem.ClaimSeven
namespace Go.Proofs.YtfdgamaegeflkaaDoor
namespace Rows

/-- THE TIED CARD OF 'laws.FnExactIsTokenText'. -/
def fnExactIsTokenTextCard : Claim7 := { stood := { row := fnExactIsTokenTextRow, standIns := [], harness := (true, "7bc4ed90f07d64cb0902d08040ea93383973d5c7e07f502f4d6eafa5642e37bb"), looks := false }, kinds := [], alts := [], laidByText := true, laidKinds := [.data], laidTests := true, laidLooks := .later }
def FnExactIsTokenTextCardSaid : Prop := Claim7.holds Tryd.pinned (.plain (OpenSpec.ofChange fnExactIsTokenTextSpec)) fnExactIsTokenTextCard

/-- THE TIED CARD OF 'laws.FnExactTrim'. -/
def fnExactTrimCard : Claim7 := { stood := { row := fnExactTrimRow, standIns := [], harness := (true, "7bc4ed90f07d64cb0902d08040ea93383973d5c7e07f502f4d6eafa5642e37bb"), looks := false }, kinds := [], alts := [], laidByText := true, laidKinds := [.data, .pinned], laidTests := true, laidLooks := .later }
def FnExactTrimCardSaid : Prop := Claim7.holds Tryd.pinned (.plain (OpenSpec.ofChange fnExactTrimSpec)) fnExactTrimCard

/-- THE TIED CARD OF 'laws.FnExactSplitList'. -/
def fnExactSplitListCard : Claim7 := { stood := { row := fnExactSplitListRow, standIns := [], harness := (true, "7bc4ed90f07d64cb0902d08040ea93383973d5c7e07f502f4d6eafa5642e37bb"), looks := false }, kinds := [], alts := [], laidByText := true, laidKinds := [.data, .pinned], laidTests := true, laidLooks := .later }
def FnExactSplitListCardSaid : Prop := Claim7.holds Tryd.pinned (.plain (OpenSpec.ofChange fnExactSplitListSpec)) fnExactSplitListCard

/-- THE TIED CARD OF 'laws.FnExactIsValueText'. -/
def fnExactIsValueTextCard : Claim7 := { stood := { row := fnExactIsValueTextRow, standIns := [], harness := (true, "7bc4ed90f07d64cb0902d08040ea93383973d5c7e07f502f4d6eafa5642e37bb"), looks := false }, kinds := [], alts := [], laidByText := true, laidKinds := [.data, .pinned], laidTests := true, laidLooks := .later }
def FnExactIsValueTextCardSaid : Prop := Claim7.holds Tryd.pinned (.plain (OpenSpec.ofChange fnExactIsValueTextSpec)) fnExactIsValueTextCard

/-- THE SECOND FORM's CARD OF 'laws.FnExactIsTokenText'. -/
def fnExactIsTokenTextUptoCard : Claim7 := { stood := { row := fnExactIsTokenTextUptoRow, standIns := [], harness := (true, "7bc4ed90f07d64cb0902d08040ea93383973d5c7e07f502f4d6eafa5642e37bb"), looks := false }, kinds := [], alts := [], laidByText := true, laidKinds := [.data], laidTests := true, laidLooks := .later }
def FnExactIsTokenTextUptoCardSaid : Prop := Claim7.holds Tryd.pinned (.plain (OpenSpec.upto fnExactIsTokenTextSpec)) fnExactIsTokenTextUptoCard

/-- THE SECOND FORM's CARD OF 'laws.FnExactTrim'. -/
def fnExactTrimUptoCard : Claim7 := { stood := { row := fnExactTrimUptoRow, standIns := [], harness := (true, "7bc4ed90f07d64cb0902d08040ea93383973d5c7e07f502f4d6eafa5642e37bb"), looks := false }, kinds := [], alts := [], laidByText := true, laidKinds := [.data, .pinned], laidTests := true, laidLooks := .later }
def FnExactTrimUptoCardSaid : Prop := Claim7.holds Tryd.pinned (.plain (OpenSpec.upto fnExactTrimSpec)) fnExactTrimUptoCard

/-- THE SECOND FORM's CARD OF 'laws.FnExactSplitList'. -/
def fnExactSplitListUptoCard : Claim7 := { stood := { row := fnExactSplitListUptoRow, standIns := [], harness := (true, "7bc4ed90f07d64cb0902d08040ea93383973d5c7e07f502f4d6eafa5642e37bb"), looks := false }, kinds := [], alts := [], laidByText := true, laidKinds := [.data, .pinned], laidTests := true, laidLooks := .later }
def FnExactSplitListUptoCardSaid : Prop := Claim7.holds Tryd.pinned (.plain (OpenSpec.upto fnExactSplitListSpec)) fnExactSplitListUptoCard

/-- THE SECOND FORM's CARD OF 'laws.FnExactIsValueText'. -/
def fnExactIsValueTextUptoCard : Claim7 := { stood := { row := fnExactIsValueTextUptoRow, standIns := [], harness := (true, "7bc4ed90f07d64cb0902d08040ea93383973d5c7e07f502f4d6eafa5642e37bb"), looks := false }, kinds := [], alts := [], laidByText := true, laidKinds := [.data, .pinned], laidTests := true, laidLooks := .later }
def FnExactIsValueTextUptoCardSaid : Prop := Claim7.holds Tryd.pinned (.plain (OpenSpec.upto fnExactIsValueTextSpec)) fnExactIsValueTextUptoCard
end Rows
end Go.Proofs.YtfdgamaegeflkaaDoor
