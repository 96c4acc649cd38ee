/-
  DERIVED. GIVEN WITH THE SEED: THE CARDS: each row of YtanimnjiolgknaaDoorRows.lean that lists a variable, with what it lists TIED to the program's text (the seventh form; the later family's looks); each row that meets fmt, with fmt's text TOLD by the authors' own Lean function (tested against real Go, not proved from fmt's source: count such statements apart). THE CARD IS WHAT COUNTS. Prove the row's statement (the work); the ties are given (YtanimnjiolgknaaDoorTie.lean); close each card by the builder's one call (the guide's Derived/Test/ToyasCard.lean, 'card_holds'). Laid BY PROGRAM, IN A SANDBOX (cutbox-door.mjs). By AI agents, Wed Nov 11 2026. No macro, syntax, notation, axiom, sorry.
-/
import Derived.Test.YtanimnjiolgknaaDoorRows
import GoSem.ClaimSeven
namespace Go.Proofs.YtanimnjiolgknaaDoor
namespace Rows

/-- THE TIED CARD OF 'laws.FnDirectives'. -/
def fnDirectivesCard : Claim7 := { stood := { row := fnDirectivesRow, standIns := [], harness := (true, "04a85bfff364d132309b2a5d18332c59d9d178f3323f76620674983a80478905"), looks := false }, kinds := [], alts := [], laidByText := true, laidKinds := [.data, .data, .pinned], laidTests := true, laidLooks := .later }
def FnDirectivesCardSaid : Prop := Claim7.holds Tryd.pinned (.plain (OpenSpec.ofChange fnDirectivesSpec)) fnDirectivesCard

/-- THE TIED CARD OF 'laws.FnExactDirectives'. -/
def fnExactDirectivesCard : Claim7 := { stood := { row := fnExactDirectivesRow, standIns := [], harness := (true, "04a85bfff364d132309b2a5d18332c59d9d178f3323f76620674983a80478905"), looks := false }, kinds := [], alts := [], laidByText := true, laidKinds := [.data, .data, .pinned], laidTests := true, laidLooks := .later }
def FnExactDirectivesCardSaid : Prop := Claim7.holds Tryd.pinned (.plain (OpenSpec.ofChange fnExactDirectivesSpec)) fnExactDirectivesCard

/-- THE TIED CARD OF 'laws.FnExactCcHas'. -/
def fnExactCcHasCard : Claim7 := { stood := { row := fnExactCcHasRow, standIns := [], harness := (true, "04a85bfff364d132309b2a5d18332c59d9d178f3323f76620674983a80478905"), looks := false }, kinds := [], alts := [], laidByText := true, laidKinds := [.data, .data, .pinned], laidTests := true, laidLooks := .later }
def FnExactCcHasCardSaid : Prop := Claim7.holds Tryd.pinned (.plain (OpenSpec.ofChange fnExactCcHasSpec)) fnExactCcHasCard

/-- THE TIED CARD OF 'laws.FnExactCcSeconds'. -/
def fnExactCcSecondsCard : Claim7 := { stood := { row := fnExactCcSecondsRow, standIns := [], harness := (true, "04a85bfff364d132309b2a5d18332c59d9d178f3323f76620674983a80478905"), looks := false }, kinds := [], alts := [], laidByText := true, laidKinds := [.data, .data, .pinned], laidTests := true, laidLooks := .later }
def FnExactCcSecondsCardSaid : Prop := Claim7.holds Tryd.pinned (.plain (OpenSpec.ofChange fnExactCcSecondsSpec)) fnExactCcSecondsCard

/-- THE SECOND FORM's CARD OF 'laws.FnDirectives'. -/
def fnDirectivesUptoCard : Claim7 := { stood := { row := fnDirectivesUptoRow, standIns := [], harness := (true, "04a85bfff364d132309b2a5d18332c59d9d178f3323f76620674983a80478905"), looks := false }, kinds := [], alts := [], laidByText := true, laidKinds := [.data, .data, .pinned], laidTests := true, laidLooks := .later }
def FnDirectivesUptoCardSaid : Prop := Claim7.holds Tryd.pinned (.plain (OpenSpec.upto fnDirectivesSpec)) fnDirectivesUptoCard

/-- THE SECOND FORM's CARD OF 'laws.FnExactDirectives'. -/
def fnExactDirectivesUptoCard : Claim7 := { stood := { row := fnExactDirectivesUptoRow, standIns := [], harness := (true, "04a85bfff364d132309b2a5d18332c59d9d178f3323f76620674983a80478905"), looks := false }, kinds := [], alts := [], laidByText := true, laidKinds := [.data, .data, .pinned], laidTests := true, laidLooks := .later }
def FnExactDirectivesUptoCardSaid : Prop := Claim7.holds Tryd.pinned (.plain (OpenSpec.upto fnExactDirectivesSpec)) fnExactDirectivesUptoCard

/-- THE SECOND FORM's CARD OF 'laws.FnExactCcHas'. -/
def fnExactCcHasUptoCard : Claim7 := { stood := { row := fnExactCcHasUptoRow, standIns := [], harness := (true, "04a85bfff364d132309b2a5d18332c59d9d178f3323f76620674983a80478905"), looks := false }, kinds := [], alts := [], laidByText := true, laidKinds := [.data, .data, .pinned], laidTests := true, laidLooks := .later }
def FnExactCcHasUptoCardSaid : Prop := Claim7.holds Tryd.pinned (.plain (OpenSpec.upto fnExactCcHasSpec)) fnExactCcHasUptoCard

/-- THE SECOND FORM's CARD OF 'laws.FnExactCcSeconds'. -/
def fnExactCcSecondsUptoCard : Claim7 := { stood := { row := fnExactCcSecondsUptoRow, standIns := [], harness := (true, "04a85bfff364d132309b2a5d18332c59d9d178f3323f76620674983a80478905"), looks := false }, kinds := [], alts := [], laidByText := true, laidKinds := [.data, .data, .pinned], laidTests := true, laidLooks := .later }
def FnExactCcSecondsUptoCardSaid : Prop := Claim7.holds Tryd.pinned (.plain (OpenSpec.upto fnExactCcSecondsSpec)) fnExactCcSecondsUptoCard
end Rows
end Go.Proofs.YtanimnjiolgknaaDoor
