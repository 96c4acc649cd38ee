/-
  DERIVED. GIVEN WITH THE SEED: THE CARDS: each row of YtpkkkfmdgpghjaaDoorRows.lean that lists a variable, with what it lists TIED to the program's text (the seventh form; the later family's looks); each row that meets fmt, with fmt's text TOLD by the authors' own Lean function (tested against real Go, not proved from fmt's source: count such statements apart). THE CARD IS WHAT COUNTS. Prove the row's statement (the work); the ties are given (YtpkkkfmdgpghjaaDoorTie.lean); close each card by the builder's one call (the guide's Derived/Test/ToyasCard.lean, 'card_holds'). Laid BY PROGRAM, IN A SANDBOX (cutbox-door.mjs). By AI agents, Wed Nov 11 2026. No macro, syntax, notation, axiom, sorry.
-/
import Derived.Test.YtpkkkfmdgpghjaaDoorRows
import GoSem.ClaimSeven
namespace Go.Proofs.YtpkkkfmdgpghjaaDoor
namespace Rows

/-- THE TIED CARD OF 'laws.FnExactChunk'. -/
def fnExactChunkCard : Claim7 := { stood := { row := fnExactChunkRow, standIns := [], harness := (true, "8ceb2c0b14be9dcdccfbad7b3528d369173742a5559cedcc37409ae8ec9f716c"), looks := true }, kinds := [], alts := [], laidByText := true, laidKinds := [.data, .data, .data], laidTests := true, laidLooks := .later }
def FnExactChunkCardSaid : Prop := Claim7.holds Tryd.pinned (.plain (OpenSpec.ofChange fnExactChunkSpec)) fnExactChunkCard

/-- THE TIED CARD OF 'laws.FnExactUnchunk'. -/
def fnExactUnchunkCard : Claim7 := { stood := { row := fnExactUnchunkRow, standIns := [], harness := (true, "8ceb2c0b14be9dcdccfbad7b3528d369173742a5559cedcc37409ae8ec9f716c"), looks := true }, kinds := [], alts := [], laidByText := true, laidKinds := [.data, .data, .data, .sentinel, .sentinel, .sentinel, .sentinel], laidTests := true, laidLooks := .later }
def FnExactUnchunkCardSaid : Prop := Claim7.holds Tryd.pinned (.plain (OpenSpec.ofChange fnExactUnchunkSpec)) fnExactUnchunkCard

/-- THE TIED CARD OF 'laws.FnExactBodyOf'. -/
def fnExactBodyOfCard : Claim7 := { stood := { row := fnExactBodyOfRow, standIns := [], harness := (true, "8ceb2c0b14be9dcdccfbad7b3528d369173742a5559cedcc37409ae8ec9f716c"), looks := true }, kinds := [], alts := [], laidByText := true, laidKinds := [.data, .data, .data, .sentinel, .sentinel, .sentinel, .sentinel], laidTests := true, laidLooks := .later }
def FnExactBodyOfCardSaid : Prop := Claim7.holds Tryd.pinned (.plain (OpenSpec.ofChange fnExactBodyOfSpec)) fnExactBodyOfCard

/-- THE TIED CARD OF 'laws.FnExactHexNum'. -/
def fnExactHexNumCard : Claim7 := { stood := { row := fnExactHexNumRow, standIns := [], harness := (true, "8ceb2c0b14be9dcdccfbad7b3528d369173742a5559cedcc37409ae8ec9f716c"), looks := true }, kinds := [], alts := [], laidByText := true, laidKinds := [.data, .data, .data], laidTests := true, laidLooks := .later }
def FnExactHexNumCardSaid : Prop := Claim7.holds Tryd.pinned (.plain (OpenSpec.ofChange fnExactHexNumSpec)) fnExactHexNumCard

/-- THE TIED CARD OF 'laws.FnExactReadHexNum'. -/
def fnExactReadHexNumCard : Claim7 := { stood := { row := fnExactReadHexNumRow, standIns := [], harness := (true, "8ceb2c0b14be9dcdccfbad7b3528d369173742a5559cedcc37409ae8ec9f716c"), looks := true }, kinds := [], alts := [], laidByText := true, laidKinds := [.data, .data, .data, .sentinel, .sentinel], laidTests := true, laidLooks := .later }
def FnExactReadHexNumCardSaid : Prop := Claim7.holds Tryd.pinned (.plain (OpenSpec.ofChange fnExactReadHexNumSpec)) fnExactReadHexNumCard

/-- THE SECOND FORM's CARD OF 'laws.FnExactChunk'. -/
def fnExactChunkUptoCard : Claim7 := { stood := { row := fnExactChunkUptoRow, standIns := [], harness := (true, "8ceb2c0b14be9dcdccfbad7b3528d369173742a5559cedcc37409ae8ec9f716c"), looks := true }, kinds := [], alts := [], laidByText := true, laidKinds := [.data, .data, .data], laidTests := true, laidLooks := .later }
def FnExactChunkUptoCardSaid : Prop := Claim7.holds Tryd.pinned (.plain (OpenSpec.upto fnExactChunkSpec)) fnExactChunkUptoCard

/-- THE SECOND FORM's CARD OF 'laws.FnExactUnchunk'. -/
def fnExactUnchunkUptoCard : Claim7 := { stood := { row := fnExactUnchunkUptoRow, standIns := [], harness := (true, "8ceb2c0b14be9dcdccfbad7b3528d369173742a5559cedcc37409ae8ec9f716c"), looks := true }, kinds := [], alts := [], laidByText := true, laidKinds := [.data, .data, .data, .sentinel, .sentinel, .sentinel, .sentinel], laidTests := true, laidLooks := .later }
def FnExactUnchunkUptoCardSaid : Prop := Claim7.holds Tryd.pinned (.plain (OpenSpec.upto fnExactUnchunkSpec)) fnExactUnchunkUptoCard

/-- THE SECOND FORM's CARD OF 'laws.FnExactBodyOf'. -/
def fnExactBodyOfUptoCard : Claim7 := { stood := { row := fnExactBodyOfUptoRow, standIns := [], harness := (true, "8ceb2c0b14be9dcdccfbad7b3528d369173742a5559cedcc37409ae8ec9f716c"), looks := true }, kinds := [], alts := [], laidByText := true, laidKinds := [.data, .data, .data, .sentinel, .sentinel, .sentinel, .sentinel], laidTests := true, laidLooks := .later }
def FnExactBodyOfUptoCardSaid : Prop := Claim7.holds Tryd.pinned (.plain (OpenSpec.upto fnExactBodyOfSpec)) fnExactBodyOfUptoCard

/-- THE SECOND FORM's CARD OF 'laws.FnExactHexNum'. -/
def fnExactHexNumUptoCard : Claim7 := { stood := { row := fnExactHexNumUptoRow, standIns := [], harness := (true, "8ceb2c0b14be9dcdccfbad7b3528d369173742a5559cedcc37409ae8ec9f716c"), looks := true }, kinds := [], alts := [], laidByText := true, laidKinds := [.data, .data, .data], laidTests := true, laidLooks := .later }
def FnExactHexNumUptoCardSaid : Prop := Claim7.holds Tryd.pinned (.plain (OpenSpec.upto fnExactHexNumSpec)) fnExactHexNumUptoCard

/-- THE SECOND FORM's CARD OF 'laws.FnExactReadHexNum'. -/
def fnExactReadHexNumUptoCard : Claim7 := { stood := { row := fnExactReadHexNumUptoRow, standIns := [], harness := (true, "8ceb2c0b14be9dcdccfbad7b3528d369173742a5559cedcc37409ae8ec9f716c"), looks := true }, kinds := [], alts := [], laidByText := true, laidKinds := [.data, .data, .data, .sentinel, .sentinel], laidTests := true, laidLooks := .later }
def FnExactReadHexNumUptoCardSaid : Prop := Claim7.holds Tryd.pinned (.plain (OpenSpec.upto fnExactReadHexNumSpec)) fnExactReadHexNumUptoCard
end Rows
end Go.Proofs.YtpkkkfmdgpghjaaDoor
