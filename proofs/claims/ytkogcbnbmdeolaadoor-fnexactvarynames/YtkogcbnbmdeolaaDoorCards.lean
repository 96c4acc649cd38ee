/-
  DERIVED. GIVEN WITH THE SEED: THE CARDS: each row of YtkogcbnbmdeolaaDoorRows.lean that lists a variable, with what it lists TIED to the program's text (the seventh form; the later family's looks); each row that meets fmt, with fmt's text TOLD by the authors' own Lean function (tested against real Go, not proved from fmt's source: count such statements apart). THE CARD IS WHAT COUNTS. Prove the row's statement (the work); the ties are given (YtkogcbnbmdeolaaDoorTie.lean); close each card by the builder's one call (the guide's Derived/Test/ToyasCard.lean, 'card_holds'). Laid BY PROGRAM, IN A SANDBOX (cutbox-door.mjs). By AI agents, Wed Nov 11 2026. No macro, syntax, notation, axiom, sorry.
-/
import Derived.Test.YtkogcbnbmdeolaaDoorRows
import GoSem.ClaimSeven
namespace Go.Proofs.YtkogcbnbmdeolaaDoor
namespace Rows

/-- THE TIED CARD OF 'laws.FnChars'. -/
def fnCharsCard : Claim7 := { stood := { row := fnCharsRow, standIns := [], harness := (true, "dd07a8a96753c79dc5f271aa3d91ed31feeb6583d8072e946d00f4551ebdac11"), looks := false }, kinds := [], alts := [], laidByText := true, laidKinds := [.data, .pinned], laidTests := true, laidLooks := .later }
def FnCharsCardSaid : Prop := Claim7.holds Tryd.pinned (.plain (OpenSpec.ofChange fnCharsSpec)) fnCharsCard

/-- THE TIED CARD OF 'laws.FnVaries'. -/
def fnVariesCard : Claim7 := { stood := { row := fnVariesRow, standIns := [], harness := (true, "dd07a8a96753c79dc5f271aa3d91ed31feeb6583d8072e946d00f4551ebdac11"), looks := false }, kinds := [], alts := [], laidByText := true, laidKinds := [.data, .pinned], laidTests := true, laidLooks := .later }
def FnVariesCardSaid : Prop := Claim7.holds Tryd.pinned (.plain (OpenSpec.ofChange fnVariesSpec)) fnVariesCard

/-- THE TIED CARD OF 'laws.FnExactVaryNames'. -/
def fnExactVaryNamesCard : Claim7 := { stood := { row := fnExactVaryNamesRow, standIns := [], harness := (true, "dd07a8a96753c79dc5f271aa3d91ed31feeb6583d8072e946d00f4551ebdac11"), looks := false }, kinds := [], alts := [], laidByText := true, laidKinds := [.data, .pinned], laidTests := true, laidLooks := .later }
def FnExactVaryNamesCardSaid : Prop := Claim7.holds Tryd.pinned (.plain (OpenSpec.ofChange fnExactVaryNamesSpec)) fnExactVaryNamesCard

/-- THE TIED CARD OF 'laws.FnExactNormal'. -/
def fnExactNormalCard : Claim7 := { stood := { row := fnExactNormalRow, standIns := [], harness := (true, "dd07a8a96753c79dc5f271aa3d91ed31feeb6583d8072e946d00f4551ebdac11"), looks := false }, kinds := [], alts := [], laidByText := true, laidKinds := [.data, .pinned], laidTests := true, laidLooks := .later }
def FnExactNormalCardSaid : Prop := Claim7.holds Tryd.pinned (.plain (OpenSpec.ofChange fnExactNormalSpec)) fnExactNormalCard

/-- THE TIED CARD OF 'laws.FnExactPicked'. -/
def fnExactPickedCard : Claim7 := { stood := { row := fnExactPickedRow, standIns := [], harness := (true, "dd07a8a96753c79dc5f271aa3d91ed31feeb6583d8072e946d00f4551ebdac11"), looks := false }, kinds := [], alts := [], laidByText := true, laidKinds := [.data, .pinned], laidTests := true, laidLooks := .later }
def FnExactPickedCardSaid : Prop := Claim7.holds Tryd.pinned (.plain (OpenSpec.ofChange fnExactPickedSpec)) fnExactPickedCard

/-- THE TIED CARD OF 'laws.FnExactVaryFits'. -/
def fnExactVaryFitsCard : Claim7 := { stood := { row := fnExactVaryFitsRow, standIns := [], harness := (true, "dd07a8a96753c79dc5f271aa3d91ed31feeb6583d8072e946d00f4551ebdac11"), looks := false }, kinds := [], alts := [], laidByText := true, laidKinds := [.data, .pinned], laidTests := true, laidLooks := .later }
def FnExactVaryFitsCardSaid : Prop := Claim7.holds Tryd.pinned (.plain (OpenSpec.ofChange fnExactVaryFitsSpec)) fnExactVaryFitsCard

/-- THE SECOND FORM's CARD OF 'laws.FnChars'. -/
def fnCharsUptoCard : Claim7 := { stood := { row := fnCharsUptoRow, standIns := [], harness := (true, "dd07a8a96753c79dc5f271aa3d91ed31feeb6583d8072e946d00f4551ebdac11"), looks := false }, kinds := [], alts := [], laidByText := true, laidKinds := [.data, .pinned], laidTests := true, laidLooks := .later }
def FnCharsUptoCardSaid : Prop := Claim7.holds Tryd.pinned (.plain (OpenSpec.upto fnCharsSpec)) fnCharsUptoCard

/-- THE SECOND FORM's CARD OF 'laws.FnVaries'. -/
def fnVariesUptoCard : Claim7 := { stood := { row := fnVariesUptoRow, standIns := [], harness := (true, "dd07a8a96753c79dc5f271aa3d91ed31feeb6583d8072e946d00f4551ebdac11"), looks := false }, kinds := [], alts := [], laidByText := true, laidKinds := [.data, .pinned], laidTests := true, laidLooks := .later }
def FnVariesUptoCardSaid : Prop := Claim7.holds Tryd.pinned (.plain (OpenSpec.upto fnVariesSpec)) fnVariesUptoCard

/-- THE SECOND FORM's CARD OF 'laws.FnExactVaryNames'. -/
def fnExactVaryNamesUptoCard : Claim7 := { stood := { row := fnExactVaryNamesUptoRow, standIns := [], harness := (true, "dd07a8a96753c79dc5f271aa3d91ed31feeb6583d8072e946d00f4551ebdac11"), looks := false }, kinds := [], alts := [], laidByText := true, laidKinds := [.data, .pinned], laidTests := true, laidLooks := .later }
def FnExactVaryNamesUptoCardSaid : Prop := Claim7.holds Tryd.pinned (.plain (OpenSpec.upto fnExactVaryNamesSpec)) fnExactVaryNamesUptoCard

/-- THE SECOND FORM's CARD OF 'laws.FnExactNormal'. -/
def fnExactNormalUptoCard : Claim7 := { stood := { row := fnExactNormalUptoRow, standIns := [], harness := (true, "dd07a8a96753c79dc5f271aa3d91ed31feeb6583d8072e946d00f4551ebdac11"), looks := false }, kinds := [], alts := [], laidByText := true, laidKinds := [.data, .pinned], laidTests := true, laidLooks := .later }
def FnExactNormalUptoCardSaid : Prop := Claim7.holds Tryd.pinned (.plain (OpenSpec.upto fnExactNormalSpec)) fnExactNormalUptoCard

/-- THE SECOND FORM's CARD OF 'laws.FnExactPicked'. -/
def fnExactPickedUptoCard : Claim7 := { stood := { row := fnExactPickedUptoRow, standIns := [], harness := (true, "dd07a8a96753c79dc5f271aa3d91ed31feeb6583d8072e946d00f4551ebdac11"), looks := false }, kinds := [], alts := [], laidByText := true, laidKinds := [.data, .pinned], laidTests := true, laidLooks := .later }
def FnExactPickedUptoCardSaid : Prop := Claim7.holds Tryd.pinned (.plain (OpenSpec.upto fnExactPickedSpec)) fnExactPickedUptoCard

/-- THE SECOND FORM's CARD OF 'laws.FnExactVaryFits'. -/
def fnExactVaryFitsUptoCard : Claim7 := { stood := { row := fnExactVaryFitsUptoRow, standIns := [], harness := (true, "dd07a8a96753c79dc5f271aa3d91ed31feeb6583d8072e946d00f4551ebdac11"), looks := false }, kinds := [], alts := [], laidByText := true, laidKinds := [.data, .pinned], laidTests := true, laidLooks := .later }
def FnExactVaryFitsUptoCardSaid : Prop := Claim7.holds Tryd.pinned (.plain (OpenSpec.upto fnExactVaryFitsSpec)) fnExactVaryFitsUptoCard
end Rows
end Go.Proofs.YtkogcbnbmdeolaaDoor
