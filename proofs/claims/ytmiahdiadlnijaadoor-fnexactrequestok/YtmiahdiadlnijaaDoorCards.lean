/-
  DERIVED. GIVEN WITH THE SEED: THE CARDS: each row of YtmiahdiadlnijaaDoorRows.lean that lists a variable, with what it lists TIED to the program's text (the seventh form; the later family's looks); each row that meets fmt, with fmt's text TOLD by the authors' own Lean function (tested against real Go, not proved from fmt's source: count such statements apart). THE CARD IS WHAT COUNTS. Prove the row's statement (the work); the ties are given (YtmiahdiadlnijaaDoorTie.lean); close each card by the builder's one call (the guide's Derived/Test/ToyasCard.lean, 'card_holds'). Laid BY PROGRAM, IN A SANDBOX (cutbox-door.mjs). By AI agents, Wed Nov 11 2026. No macro, syntax, notation, axiom, sorry.
-/
import Derived.Test.YtmiahdiadlnijaaDoorRows
import GoSem.ClaimSeven
namespace Go.Proofs.YtmiahdiadlnijaaDoor
namespace Rows

/-- THE TIED CARD OF 'laws.FnExactRequestOk'. -/
def fnExactRequestOkCard : Claim7 := { stood := { row := fnExactRequestOkRow, standIns := [], harness := (true, "0704742ce77ebf15a53799f0d67dd0c5b134a27bb877019d6ab1557123ac0f6c"), looks := false }, kinds := [], alts := [], laidByText := true, laidKinds := [.data, .data, .pinned], laidTests := true, laidLooks := .later }
def FnExactRequestOkCardSaid : Prop := Claim7.holds Tryd.pinned (.plain (OpenSpec.ofChange fnExactRequestOkSpec)) fnExactRequestOkCard

/-- THE TIED CARD OF 'laws.FnExactShowRequest'. -/
def fnExactShowRequestCard : Claim7 := { stood := { row := fnExactShowRequestRow, standIns := [], harness := (true, "0704742ce77ebf15a53799f0d67dd0c5b134a27bb877019d6ab1557123ac0f6c"), looks := false }, kinds := [], alts := [], laidByText := true, laidKinds := [.data, .data, .data, .data, .data, .pinned], laidTests := true, laidLooks := .later }
def FnExactShowRequestCardSaid : Prop := Claim7.holds Tryd.pinned (.plain (OpenSpec.ofChange fnExactShowRequestSpec)) fnExactShowRequestCard

/-- THE TIED CARD OF 'laws.FnExactResponseOk'. -/
def fnExactResponseOkCard : Claim7 := { stood := { row := fnExactResponseOkRow, standIns := [], harness := (true, "0704742ce77ebf15a53799f0d67dd0c5b134a27bb877019d6ab1557123ac0f6c"), looks := false }, kinds := [], alts := [], laidByText := true, laidKinds := [.data, .data, .pinned], laidTests := true, laidLooks := .later }
def FnExactResponseOkCardSaid : Prop := Claim7.holds Tryd.pinned (.plain (OpenSpec.ofChange fnExactResponseOkSpec)) fnExactResponseOkCard

/-- THE TIED CARD OF 'laws.FnExactShowResponse'. -/
def fnExactShowResponseCard : Claim7 := { stood := { row := fnExactShowResponseRow, standIns := [], harness := (true, "0704742ce77ebf15a53799f0d67dd0c5b134a27bb877019d6ab1557123ac0f6c"), looks := false }, kinds := [], alts := [], laidByText := true, laidKinds := [.data, .data, .data, .data, .data, .pinned], laidTests := true, laidLooks := .later }
def FnExactShowResponseCardSaid : Prop := Claim7.holds Tryd.pinned (.plain (OpenSpec.ofChange fnExactShowResponseSpec)) fnExactShowResponseCard

/-- THE SECOND FORM's CARD OF 'laws.FnExactRequestOk'. -/
def fnExactRequestOkUptoCard : Claim7 := { stood := { row := fnExactRequestOkUptoRow, standIns := [], harness := (true, "0704742ce77ebf15a53799f0d67dd0c5b134a27bb877019d6ab1557123ac0f6c"), looks := false }, kinds := [], alts := [], laidByText := true, laidKinds := [.data, .data, .pinned], laidTests := true, laidLooks := .later }
def FnExactRequestOkUptoCardSaid : Prop := Claim7.holds Tryd.pinned (.plain (OpenSpec.upto fnExactRequestOkSpec)) fnExactRequestOkUptoCard

/-- THE SECOND FORM's CARD OF 'laws.FnExactShowRequest'. -/
def fnExactShowRequestUptoCard : Claim7 := { stood := { row := fnExactShowRequestUptoRow, standIns := [], harness := (true, "0704742ce77ebf15a53799f0d67dd0c5b134a27bb877019d6ab1557123ac0f6c"), looks := false }, kinds := [], alts := [], laidByText := true, laidKinds := [.data, .data, .data, .data, .data, .pinned], laidTests := true, laidLooks := .later }
def FnExactShowRequestUptoCardSaid : Prop := Claim7.holds Tryd.pinned (.plain (OpenSpec.upto fnExactShowRequestSpec)) fnExactShowRequestUptoCard

/-- THE SECOND FORM's CARD OF 'laws.FnExactResponseOk'. -/
def fnExactResponseOkUptoCard : Claim7 := { stood := { row := fnExactResponseOkUptoRow, standIns := [], harness := (true, "0704742ce77ebf15a53799f0d67dd0c5b134a27bb877019d6ab1557123ac0f6c"), looks := false }, kinds := [], alts := [], laidByText := true, laidKinds := [.data, .data, .pinned], laidTests := true, laidLooks := .later }
def FnExactResponseOkUptoCardSaid : Prop := Claim7.holds Tryd.pinned (.plain (OpenSpec.upto fnExactResponseOkSpec)) fnExactResponseOkUptoCard

/-- THE SECOND FORM's CARD OF 'laws.FnExactShowResponse'. -/
def fnExactShowResponseUptoCard : Claim7 := { stood := { row := fnExactShowResponseUptoRow, standIns := [], harness := (true, "0704742ce77ebf15a53799f0d67dd0c5b134a27bb877019d6ab1557123ac0f6c"), looks := false }, kinds := [], alts := [], laidByText := true, laidKinds := [.data, .data, .data, .data, .data, .pinned], laidTests := true, laidLooks := .later }
def FnExactShowResponseUptoCardSaid : Prop := Claim7.holds Tryd.pinned (.plain (OpenSpec.upto fnExactShowResponseSpec)) fnExactShowResponseUptoCard
end Rows
end Go.Proofs.YtmiahdiadlnijaaDoor
