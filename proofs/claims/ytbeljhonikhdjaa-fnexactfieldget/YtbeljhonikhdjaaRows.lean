/-
  No cell of these rows narrows 'for every input' (looked for: loops, veiled, ifaces, maps, wideKeys, modest, calm, conditions, laid).
  DERIVED. THE GIVEN ROWS OF THIS SEAT. 4 by the template 'for every input the law returns true; each argument reads behind the call as it read before'; 0 by the template 'total and deterministic' (their statements: YtbeljhonikhdjaaTotals.lean).
  GIVEN WITH THE SEED: the statements are not yours to turn. If you find one false, say at which input.
  Laid BY PROGRAM, IN A SANDBOX (cutbox-rows.mjs): the forced cells as the released guide's own fill.sh prints them over the translation e4d0c846acbd2685… (all of the seat's roots in one cut). By AI agents, Wed Nov 11 2026. No macro, syntax, notation, axiom, sorry.
-/
import Derived.Test.YtbeljhonikhdjaaChecked
import GoSem.Claim
import GoSem.ClaimJoined
import GoSem.ClaimMapViews
import Derived.JoinedTies
import Derived.KernelRfl
namespace Go.Proofs.Ytbeljhonikhdjaa
/- THE CELL 'sum', in the pinned program and in every row, IS THE sha256 OF THE DUMP (.gsa) THAT YtbeljhonikhdjaaProg.lean LOADS. Nothing in Lean hashes anything: it is a label: what it is worth is what the hold of that sum in a sandbox is worth. -/
noncomputable def Try.pinned : Pinned := { name := "ytbeljhonikhdjaa", sum := "e4d0c846acbd268564415ff5f0b8358f2b311c8d82b5df015d064302110a28e4", checked := Try.checked }
namespace Rows
def none {H : Type} : Left H := { results := [], args := [] }

/-- 'laws.FnExactFieldGet': WHATEVER THE INPUT: true; the input reads as it did. -/
def fnExactFieldGetSpec : ChangeSpec := { name := "fnExactFieldGet", fn := fun _ => fun
  | [d1, d2] => { results := [.lit (.bool true)], args := [d1, d2] }
  | _ => none }
def fnExactFieldGetRow : OpenClaim := { program := "ytbeljhonikhdjaa", sum := "e4d0c846acbd268564415ff5f0b8358f2b311c8d82b5df015d064302110a28e4", func := "loop.example/g01402/laws.FnExactFieldGet", spec := "fnExactFieldGet", inPlace := ["internal/abi.NoEscape", "internal/bytealg.MakeNoZero"], unfollowed := true, recurses := true, apart := false }
def FnExactFieldGetSaid : Prop := fnExactFieldGetRow.holds Try.pinned (OpenSpec.ofChange fnExactFieldGetSpec)

/-- ITS FALSE NEIGHBOUR: 'it returns false'. Refute it at one input. -/
def fnExactFieldGetWrong : ChangeSpec := { name := "fnExactFieldGet", fn := fun _ => fun
  | [d1, d2] => { results := [.lit (.bool false)], args := [d1, d2] }
  | _ => none }
def FnExactFieldGetWrongFalsely : Prop := fnExactFieldGetRow.holds Try.pinned (OpenSpec.ofChange fnExactFieldGetWrong)

/-- 'laws.FnExactFieldSet': WHATEVER THE INPUT: true; the input reads as it did. -/
def fnExactFieldSetSpec : ChangeSpec := { name := "fnExactFieldSet", fn := fun _ => fun
  | [d1, d2, d3] => { results := [.lit (.bool true)], args := [d1, d2, d3] }
  | _ => none }
def fnExactFieldSetRow : OpenClaim := { program := "ytbeljhonikhdjaa", sum := "e4d0c846acbd268564415ff5f0b8358f2b311c8d82b5df015d064302110a28e4", func := "loop.example/g01402/laws.FnExactFieldSet", spec := "fnExactFieldSet", unfollowed := true, recurses := true, apart := false }
def FnExactFieldSetSaid : Prop := fnExactFieldSetRow.holds Try.pinned (OpenSpec.ofChange fnExactFieldSetSpec)

/-- ITS FALSE NEIGHBOUR: 'it returns false'. Refute it at one input. -/
def fnExactFieldSetWrong : ChangeSpec := { name := "fnExactFieldSet", fn := fun _ => fun
  | [d1, d2, d3] => { results := [.lit (.bool false)], args := [d1, d2, d3] }
  | _ => none }
def FnExactFieldSetWrongFalsely : Prop := fnExactFieldSetRow.holds Try.pinned (OpenSpec.ofChange fnExactFieldSetWrong)

/-- 'laws.FnExactFieldDrop': WHATEVER THE INPUT: true; the input reads as it did. -/
def fnExactFieldDropSpec : ChangeSpec := { name := "fnExactFieldDrop", fn := fun _ => fun
  | [d1, d2] => { results := [.lit (.bool true)], args := [d1, d2] }
  | _ => none }
def fnExactFieldDropRow : OpenClaim := { program := "ytbeljhonikhdjaa", sum := "e4d0c846acbd268564415ff5f0b8358f2b311c8d82b5df015d064302110a28e4", func := "loop.example/g01402/laws.FnExactFieldDrop", spec := "fnExactFieldDrop", unfollowed := true, recurses := true, apart := false }
def FnExactFieldDropSaid : Prop := fnExactFieldDropRow.holds Try.pinned (OpenSpec.ofChange fnExactFieldDropSpec)

/-- ITS FALSE NEIGHBOUR: 'it returns false'. Refute it at one input. -/
def fnExactFieldDropWrong : ChangeSpec := { name := "fnExactFieldDrop", fn := fun _ => fun
  | [d1, d2] => { results := [.lit (.bool false)], args := [d1, d2] }
  | _ => none }
def FnExactFieldDropWrongFalsely : Prop := fnExactFieldDropRow.holds Try.pinned (OpenSpec.ofChange fnExactFieldDropWrong)

/-- 'laws.FnExactSameFields': WHATEVER THE INPUT: true; the input reads as it did. -/
def fnExactSameFieldsSpec : ChangeSpec := { name := "fnExactSameFields", fn := fun _ => fun
  | [d1, d2] => { results := [.lit (.bool true)], args := [d1, d2] }
  | _ => none }
def fnExactSameFieldsRow : OpenClaim := { program := "ytbeljhonikhdjaa", sum := "e4d0c846acbd268564415ff5f0b8358f2b311c8d82b5df015d064302110a28e4", func := "loop.example/g01402/laws.FnExactSameFields", spec := "fnExactSameFields", apart := false }
def FnExactSameFieldsSaid : Prop := fnExactSameFieldsRow.holds Try.pinned (OpenSpec.ofChange fnExactSameFieldsSpec)

/-- ITS FALSE NEIGHBOUR: 'it returns false'. Refute it at one input. -/
def fnExactSameFieldsWrong : ChangeSpec := { name := "fnExactSameFields", fn := fun _ => fun
  | [d1, d2] => { results := [.lit (.bool false)], args := [d1, d2] }
  | _ => none }
def FnExactSameFieldsWrongFalsely : Prop := fnExactSameFieldsRow.holds Try.pinned (OpenSpec.ofChange fnExactSameFieldsWrong)

/- THE SECOND FORM. 'bulk': how many values and letters a reading holds, each counted each time it is reached (what is shared counts as often as it is met; a slice's spare places count too). A statement '..UptoSaid' is the law's where the arguments, and the package variables that the reading takes, are together of bulk at most 1048576: NARROWER than '..Said'. Prove '..Said' where nothing that the law and all that it calls make is longer than what came in: it says more and counts as full. Else prove '..UptoSaid'. A law counts once. -/
mutual
def uptoBulk {H : Type} : DataW H → Nat
  | .lit (.string bytes) => bytes.length + 1
  | .lit _ => 1
  | .nil => 1
  | .ptr d => uptoBulk d + 1
  | .slice elems spare => uptoBulkAll elems + uptoBulkAll spare + 1
  | .agg parts => uptoBulkAll parts + 1
  | .iface _ d => uptoBulk d + 1
  | .map entries => uptoBulkEntries entries + 1
  | .held _ => 1
def uptoBulkAll {H : Type} : List (DataW H) → Nat
  | [] => 0
  | d :: r => uptoBulk d + uptoBulkAll r
def uptoBulkEntries {H : Type} : List (Lit × DataW H) → Nat
  | [] => 0
  | x :: r => uptoBulkEntry x + uptoBulkEntries r
def uptoBulkEntry {H : Type} : Lit × DataW H → Nat
  | (.string bytes, d) => bytes.length + uptoBulk d + 1
  | (_, d) => uptoBulk d + 1
 end
def uptoSmall : (H : Type) → List (DataW H) → Bool := fun _ ds => decide (uptoBulkAll ds ≤ 1048576)
def OpenSpec.upto (s : _root_.Go.ChangeSpec) : _root_.Go.OpenSpec := { _root_.Go.OpenSpec.ofChange s with cond := some uptoSmall }

/-- 'laws.FnExactFieldGet', WHERE WHAT IT READS IS OF BULK AT MOST 1048576: true; the input reads as it did. -/
def fnExactFieldGetUptoRow : OpenClaim := { program := "ytbeljhonikhdjaa", sum := "e4d0c846acbd268564415ff5f0b8358f2b311c8d82b5df015d064302110a28e4", func := "loop.example/g01402/laws.FnExactFieldGet", spec := "fnExactFieldGet", inPlace := ["internal/abi.NoEscape", "internal/bytealg.MakeNoZero"], unfollowed := true, recurses := true, apart := false, narrowed := true }
def FnExactFieldGetUptoSaid : Prop := fnExactFieldGetUptoRow.holds Try.pinned (OpenSpec.upto fnExactFieldGetSpec)

/-- 'laws.FnExactFieldSet', WHERE WHAT IT READS IS OF BULK AT MOST 1048576: true; the input reads as it did. -/
def fnExactFieldSetUptoRow : OpenClaim := { program := "ytbeljhonikhdjaa", sum := "e4d0c846acbd268564415ff5f0b8358f2b311c8d82b5df015d064302110a28e4", func := "loop.example/g01402/laws.FnExactFieldSet", spec := "fnExactFieldSet", unfollowed := true, recurses := true, apart := false, narrowed := true }
def FnExactFieldSetUptoSaid : Prop := fnExactFieldSetUptoRow.holds Try.pinned (OpenSpec.upto fnExactFieldSetSpec)

/-- 'laws.FnExactFieldDrop', WHERE WHAT IT READS IS OF BULK AT MOST 1048576: true; the input reads as it did. -/
def fnExactFieldDropUptoRow : OpenClaim := { program := "ytbeljhonikhdjaa", sum := "e4d0c846acbd268564415ff5f0b8358f2b311c8d82b5df015d064302110a28e4", func := "loop.example/g01402/laws.FnExactFieldDrop", spec := "fnExactFieldDrop", unfollowed := true, recurses := true, apart := false, narrowed := true }
def FnExactFieldDropUptoSaid : Prop := fnExactFieldDropUptoRow.holds Try.pinned (OpenSpec.upto fnExactFieldDropSpec)

/-- 'laws.FnExactSameFields', WHERE WHAT IT READS IS OF BULK AT MOST 1048576: true; the input reads as it did. -/
def fnExactSameFieldsUptoRow : OpenClaim := { program := "ytbeljhonikhdjaa", sum := "e4d0c846acbd268564415ff5f0b8358f2b311c8d82b5df015d064302110a28e4", func := "loop.example/g01402/laws.FnExactSameFields", spec := "fnExactSameFields", apart := false, narrowed := true }
def FnExactSameFieldsUptoSaid : Prop := fnExactSameFieldsUptoRow.holds Try.pinned (OpenSpec.upto fnExactSameFieldsSpec)

end Rows
end Go.Proofs.Ytbeljhonikhdjaa
