/-
  No cell of these rows narrows 'for every input' (looked for: loops, veiled, ifaces, maps, wideKeys, modest, calm, conditions, laid).
  DERIVED. THE GIVEN ROWS OF THIS SEAT. 3 by the template 'for every input the law returns true; each argument reads behind the call as it read before'; 0 by the template 'total and deterministic' (their statements: YtjeokackmkfooaaTotals.lean).
  GIVEN WITH THE SEED: the statements are not yours to turn. If you find one false, say at which input.
  Laid BY PROGRAM, IN A SANDBOX (cutbox-rows.mjs): the forced cells as the released guide's own fill.sh prints them over the translation 7048d32908cf0fbc… (all of the seat's roots in one cut). By AI agents, Wed Nov 11 2026. No macro, syntax, notation, axiom, sorry.
-/
import Derived.Test.YtjeokackmkfooaaChecked
import GoSem.Claim
import GoSem.ClaimJoined
import GoSem.ClaimMapViews
import Derived.JoinedTies
import Derived.KernelRfl
namespace Go.Proofs.Ytjeokackmkfooaa
/- THE CELL 'sum', in the pinned program and in every row, IS THE sha256 OF THE DUMP (.gsa) THAT YtjeokackmkfooaaProg.lean LOADS. Nothing in Lean hashes anything: it is a label: what it is worth is what the hold of that sum in a sandbox is worth. -/
noncomputable def Try.pinned : Pinned := { name := "ytjeokackmkfooaa", sum := "7048d32908cf0fbcbe4d6ef5fe8604d9d4b9c513869e2ea3a34d50629ec39799", checked := Try.checked }
namespace Rows
def none {H : Type} : Left H := { results := [], args := [] }

/-- 'laws.FnExactIsSafe': WHATEVER THE INPUT: true; the input reads as it did. -/
def fnExactIsSafeSpec : ChangeSpec := { name := "fnExactIsSafe", fn := fun _ => fun
  | [d] => { results := [.lit (.bool true)], args := [d] }
  | _ => none }
def fnExactIsSafeRow : OpenClaim := { program := "ytjeokackmkfooaa", sum := "7048d32908cf0fbcbe4d6ef5fe8604d9d4b9c513869e2ea3a34d50629ec39799", func := "loop.example/g01402/laws.FnExactIsSafe", spec := "fnExactIsSafe", apart := false }
def FnExactIsSafeSaid : Prop := fnExactIsSafeRow.holds Try.pinned (OpenSpec.ofChange fnExactIsSafeSpec)

/-- ITS FALSE NEIGHBOUR: 'it returns false'. Refute it at one input. -/
def fnExactIsSafeWrong : ChangeSpec := { name := "fnExactIsSafe", fn := fun _ => fun
  | [d] => { results := [.lit (.bool false)], args := [d] }
  | _ => none }
def FnExactIsSafeWrongFalsely : Prop := fnExactIsSafeRow.holds Try.pinned (OpenSpec.ofChange fnExactIsSafeWrong)

/-- 'laws.FnExactHeuristic': WHATEVER THE INPUT: true; the input reads as it did. -/
def fnExactHeuristicSpec : ChangeSpec := { name := "fnExactHeuristic", fn := fun _ => fun
  | [d] => { results := [.lit (.bool true)], args := [d] }
  | _ => none }
def fnExactHeuristicRow : OpenClaim := { program := "ytjeokackmkfooaa", sum := "7048d32908cf0fbcbe4d6ef5fe8604d9d4b9c513869e2ea3a34d50629ec39799", func := "loop.example/g01402/laws.FnExactHeuristic", spec := "fnExactHeuristic", apart := false }
def FnExactHeuristicSaid : Prop := fnExactHeuristicRow.holds Try.pinned (OpenSpec.ofChange fnExactHeuristicSpec)

/-- ITS FALSE NEIGHBOUR: 'it returns false'. Refute it at one input. -/
def fnExactHeuristicWrong : ChangeSpec := { name := "fnExactHeuristic", fn := fun _ => fun
  | [d] => { results := [.lit (.bool false)], args := [d] }
  | _ => none }
def FnExactHeuristicWrongFalsely : Prop := fnExactHeuristicRow.holds Try.pinned (OpenSpec.ofChange fnExactHeuristicWrong)

/-- 'laws.FnExactSucceeded': WHATEVER THE INPUT: true; the input reads as it did. -/
def fnExactSucceededSpec : ChangeSpec := { name := "fnExactSucceeded", fn := fun _ => fun
  | [d] => { results := [.lit (.bool true)], args := [d] }
  | _ => none }
def fnExactSucceededRow : OpenClaim := { program := "ytjeokackmkfooaa", sum := "7048d32908cf0fbcbe4d6ef5fe8604d9d4b9c513869e2ea3a34d50629ec39799", func := "loop.example/g01402/laws.FnExactSucceeded", spec := "fnExactSucceeded", apart := false }
def FnExactSucceededSaid : Prop := fnExactSucceededRow.holds Try.pinned (OpenSpec.ofChange fnExactSucceededSpec)

/-- ITS FALSE NEIGHBOUR: 'it returns false'. Refute it at one input. -/
def fnExactSucceededWrong : ChangeSpec := { name := "fnExactSucceeded", fn := fun _ => fun
  | [d] => { results := [.lit (.bool false)], args := [d] }
  | _ => none }
def FnExactSucceededWrongFalsely : Prop := fnExactSucceededRow.holds Try.pinned (OpenSpec.ofChange fnExactSucceededWrong)

/- THE SECOND FORM. 'bulk': how many values and letters a reading holds, each counted each time it is reached (what is shared counts as often as it is met; a slice's spare places count too). A statement '..UptoSaid' is the law's where the arguments, and the package variables that the reading takes, are together of bulk at most 1048576: NARROWER than '..Said'. Prove '..Said' where nothing that the law and all that it calls make is longer than what came in: it says more and counts as full. Else prove '..UptoSaid'. A law counts once. -/
mutual
def uptoBulk {H : Type} : DataW H → Nat
  | .lit (.string bytes) => bytes.length + 1
  | .lit _ => 1
  | .nil => 1
  | .ptr d => uptoBulk d + 1
  | .slice elems spare => uptoBulkAll elems + uptoBulkAll spare + 1
  | .agg parts => uptoBulkAll parts + 1
  | .iface _ d => uptoBulk d + 1
  | .map entries => uptoBulkEntries entries + 1
  | .held _ => 1
def uptoBulkAll {H : Type} : List (DataW H) → Nat
  | [] => 0
  | d :: r => uptoBulk d + uptoBulkAll r
def uptoBulkEntries {H : Type} : List (Lit × DataW H) → Nat
  | [] => 0
  | x :: r => uptoBulkEntry x + uptoBulkEntries r
def uptoBulkEntry {H : Type} : Lit × DataW H → Nat
  | (.string bytes, d) => bytes.length + uptoBulk d + 1
  | (_, d) => uptoBulk d + 1
 end
def uptoSmall : (H : Type) → List (DataW H) → Bool := fun _ ds => decide (uptoBulkAll ds ≤ 1048576)
def OpenSpec.upto (s : _root_.Go.ChangeSpec) : _root_.Go.OpenSpec := { _root_.Go.OpenSpec.ofChange s with cond := some uptoSmall }

/-- 'laws.FnExactIsSafe', WHERE WHAT IT READS IS OF BULK AT MOST 1048576: true; the input reads as it did. -/
def fnExactIsSafeUptoRow : OpenClaim := { program := "ytjeokackmkfooaa", sum := "7048d32908cf0fbcbe4d6ef5fe8604d9d4b9c513869e2ea3a34d50629ec39799", func := "loop.example/g01402/laws.FnExactIsSafe", spec := "fnExactIsSafe", apart := false, narrowed := true }
def FnExactIsSafeUptoSaid : Prop := fnExactIsSafeUptoRow.holds Try.pinned (OpenSpec.upto fnExactIsSafeSpec)

/-- 'laws.FnExactHeuristic', WHERE WHAT IT READS IS OF BULK AT MOST 1048576: true; the input reads as it did. -/
def fnExactHeuristicUptoRow : OpenClaim := { program := "ytjeokackmkfooaa", sum := "7048d32908cf0fbcbe4d6ef5fe8604d9d4b9c513869e2ea3a34d50629ec39799", func := "loop.example/g01402/laws.FnExactHeuristic", spec := "fnExactHeuristic", apart := false, narrowed := true }
def FnExactHeuristicUptoSaid : Prop := fnExactHeuristicUptoRow.holds Try.pinned (OpenSpec.upto fnExactHeuristicSpec)

/-- 'laws.FnExactSucceeded', WHERE WHAT IT READS IS OF BULK AT MOST 1048576: true; the input reads as it did. -/
def fnExactSucceededUptoRow : OpenClaim := { program := "ytjeokackmkfooaa", sum := "7048d32908cf0fbcbe4d6ef5fe8604d9d4b9c513869e2ea3a34d50629ec39799", func := "loop.example/g01402/laws.FnExactSucceeded", spec := "fnExactSucceeded", apart := false, narrowed := true }
def FnExactSucceededUptoSaid : Prop := fnExactSucceededUptoRow.holds Try.pinned (OpenSpec.upto fnExactSucceededSpec)

end Rows
end Go.Proofs.Ytjeokackmkfooaa
