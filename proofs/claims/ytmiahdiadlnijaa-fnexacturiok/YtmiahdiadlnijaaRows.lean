/-
  No cell of these rows narrows 'for every input' (looked for: loops, veiled, ifaces, maps, wideKeys, modest, calm, conditions, laid).
  DERIVED. THE GIVEN ROWS OF THIS SEAT. 3 by the template 'for every input the law returns true; each argument reads behind the call as it read before'; 0 by the template 'total and deterministic' (their statements: YtmiahdiadlnijaaTotals.lean).
  GIVEN WITH THE SEED: the statements are not yours to turn. If you find one false, say at which input.
  Laid BY PROGRAM, IN A SANDBOX (cutbox-rows.mjs): the forced cells as the released guide's own fill.sh prints them over the translation c22e5a7d7258d6f0… (all of the seat's roots in one cut). By AI agents, Wed Nov 11 2026. No macro, syntax, notation, axiom, sorry.
-/
import Derived.Test.YtmiahdiadlnijaaChecked
import GoSem.Claim
import GoSem.ClaimJoined
import GoSem.ClaimMapViews
import Derived.JoinedTies
import Derived.KernelRfl
namespace Go.Proofs.Ytmiahdiadlnijaa
/- THE CELL 'sum', in the pinned program and in every row, IS THE sha256 OF THE DUMP (.gsa) THAT YtmiahdiadlnijaaProg.lean LOADS. Nothing in Lean hashes anything: it is a label: what it is worth is what the hold of that sum in a sandbox is worth. -/
noncomputable def Try.pinned : Pinned := { name := "ytmiahdiadlnijaa", sum := "c22e5a7d7258d6f0934f5bb61a85f62971d16078afb164dc7279dd49f4491c9a", checked := Try.checked }
namespace Rows
def none {H : Type} : Left H := { results := [], args := [] }

/-- 'laws.FnExactUriOk': WHATEVER THE INPUT: true; the input reads as it did. -/
def fnExactUriOkSpec : ChangeSpec := { name := "fnExactUriOk", fn := fun _ => fun
  | [d] => { results := [.lit (.bool true)], args := [d] }
  | _ => none }
def fnExactUriOkRow : OpenClaim := { program := "ytmiahdiadlnijaa", sum := "c22e5a7d7258d6f0934f5bb61a85f62971d16078afb164dc7279dd49f4491c9a", func := "loop.example/g01402/laws.FnExactUriOk", spec := "fnExactUriOk", apart := false }
def FnExactUriOkSaid : Prop := fnExactUriOkRow.holds Try.pinned (OpenSpec.ofChange fnExactUriOkSpec)

/-- ITS FALSE NEIGHBOUR: 'it returns false'. Refute it at one input. -/
def fnExactUriOkWrong : ChangeSpec := { name := "fnExactUriOk", fn := fun _ => fun
  | [d] => { results := [.lit (.bool false)], args := [d] }
  | _ => none }
def FnExactUriOkWrongFalsely : Prop := fnExactUriOkRow.holds Try.pinned (OpenSpec.ofChange fnExactUriOkWrong)

/-- 'laws.FnExactSameResponse': WHATEVER THE INPUT: true; the input reads as it did. -/
def fnExactSameResponseSpec : ChangeSpec := { name := "fnExactSameResponse", fn := fun _ => fun
  | [d1, d2] => { results := [.lit (.bool true)], args := [d1, d2] }
  | _ => none }
def fnExactSameResponseRow : OpenClaim := { program := "ytmiahdiadlnijaa", sum := "c22e5a7d7258d6f0934f5bb61a85f62971d16078afb164dc7279dd49f4491c9a", func := "loop.example/g01402/laws.FnExactSameResponse", spec := "fnExactSameResponse", apart := false }
def FnExactSameResponseSaid : Prop := fnExactSameResponseRow.holds Try.pinned (OpenSpec.ofChange fnExactSameResponseSpec)

/-- ITS FALSE NEIGHBOUR: 'it returns false'. Refute it at one input. -/
def fnExactSameResponseWrong : ChangeSpec := { name := "fnExactSameResponse", fn := fun _ => fun
  | [d1, d2] => { results := [.lit (.bool false)], args := [d1, d2] }
  | _ => none }
def FnExactSameResponseWrongFalsely : Prop := fnExactSameResponseRow.holds Try.pinned (OpenSpec.ofChange fnExactSameResponseWrong)

/-- 'laws.FnExactReason': WHATEVER THE INPUT: true; the input reads as it did. -/
def fnExactReasonSpec : ChangeSpec := { name := "fnExactReason", fn := fun _ => fun
  | [d] => { results := [.lit (.bool true)], args := [d] }
  | _ => none }
def fnExactReasonRow : OpenClaim := { program := "ytmiahdiadlnijaa", sum := "c22e5a7d7258d6f0934f5bb61a85f62971d16078afb164dc7279dd49f4491c9a", func := "loop.example/g01402/laws.FnExactReason", spec := "fnExactReason", apart := false }
def FnExactReasonSaid : Prop := fnExactReasonRow.holds Try.pinned (OpenSpec.ofChange fnExactReasonSpec)

/-- ITS FALSE NEIGHBOUR: 'it returns false'. Refute it at one input. -/
def fnExactReasonWrong : ChangeSpec := { name := "fnExactReason", fn := fun _ => fun
  | [d] => { results := [.lit (.bool false)], args := [d] }
  | _ => none }
def FnExactReasonWrongFalsely : Prop := fnExactReasonRow.holds Try.pinned (OpenSpec.ofChange fnExactReasonWrong)

/- THE SECOND FORM. 'bulk': how many values and letters a reading holds, each counted each time it is reached (what is shared counts as often as it is met; a slice's spare places count too). A statement '..UptoSaid' is the law's where the arguments, and the package variables that the reading takes, are together of bulk at most 1048576: NARROWER than '..Said'. Prove '..Said' where nothing that the law and all that it calls make is longer than what came in: it says more and counts as full. Else prove '..UptoSaid'. A law counts once. -/
mutual
def uptoBulk {H : Type} : DataW H → Nat
  | .lit (.string bytes) => bytes.length + 1
  | .lit _ => 1
  | .nil => 1
  | .ptr d => uptoBulk d + 1
  | .slice elems spare => uptoBulkAll elems + uptoBulkAll spare + 1
  | .agg parts => uptoBulkAll parts + 1
  | .iface _ d => uptoBulk d + 1
  | .map entries => uptoBulkEntries entries + 1
  | .held _ => 1
def uptoBulkAll {H : Type} : List (DataW H) → Nat
  | [] => 0
  | d :: r => uptoBulk d + uptoBulkAll r
def uptoBulkEntries {H : Type} : List (Lit × DataW H) → Nat
  | [] => 0
  | x :: r => uptoBulkEntry x + uptoBulkEntries r
def uptoBulkEntry {H : Type} : Lit × DataW H → Nat
  | (.string bytes, d) => bytes.length + uptoBulk d + 1
  | (_, d) => uptoBulk d + 1
 end
def uptoSmall : (H : Type) → List (DataW H) → Bool := fun _ ds => decide (uptoBulkAll ds ≤ 1048576)
def OpenSpec.upto (s : _root_.Go.ChangeSpec) : _root_.Go.OpenSpec := { _root_.Go.OpenSpec.ofChange s with cond := some uptoSmall }

/-- 'laws.FnExactUriOk', WHERE WHAT IT READS IS OF BULK AT MOST 1048576: true; the input reads as it did. -/
def fnExactUriOkUptoRow : OpenClaim := { program := "ytmiahdiadlnijaa", sum := "c22e5a7d7258d6f0934f5bb61a85f62971d16078afb164dc7279dd49f4491c9a", func := "loop.example/g01402/laws.FnExactUriOk", spec := "fnExactUriOk", apart := false, narrowed := true }
def FnExactUriOkUptoSaid : Prop := fnExactUriOkUptoRow.holds Try.pinned (OpenSpec.upto fnExactUriOkSpec)

/-- 'laws.FnExactSameResponse', WHERE WHAT IT READS IS OF BULK AT MOST 1048576: true; the input reads as it did. -/
def fnExactSameResponseUptoRow : OpenClaim := { program := "ytmiahdiadlnijaa", sum := "c22e5a7d7258d6f0934f5bb61a85f62971d16078afb164dc7279dd49f4491c9a", func := "loop.example/g01402/laws.FnExactSameResponse", spec := "fnExactSameResponse", apart := false, narrowed := true }
def FnExactSameResponseUptoSaid : Prop := fnExactSameResponseUptoRow.holds Try.pinned (OpenSpec.upto fnExactSameResponseSpec)

/-- 'laws.FnExactReason', WHERE WHAT IT READS IS OF BULK AT MOST 1048576: true; the input reads as it did. -/
def fnExactReasonUptoRow : OpenClaim := { program := "ytmiahdiadlnijaa", sum := "c22e5a7d7258d6f0934f5bb61a85f62971d16078afb164dc7279dd49f4491c9a", func := "loop.example/g01402/laws.FnExactReason", spec := "fnExactReason", apart := false, narrowed := true }
def FnExactReasonUptoSaid : Prop := fnExactReasonUptoRow.holds Try.pinned (OpenSpec.upto fnExactReasonSpec)

end Rows
end Go.Proofs.Ytmiahdiadlnijaa
