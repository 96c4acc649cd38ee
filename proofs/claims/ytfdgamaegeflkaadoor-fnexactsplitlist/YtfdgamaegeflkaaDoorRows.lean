/-
  NARROWER THAN 'FOR EVERY INPUT', by the rows' own cells (each row's printed sentence says how): FnExactIsTokenText: laid · FnExactTrim: laid · FnExactSplitList: laid · FnExactIsValueText: laid.
  DERIVED. THE GIVEN ROWS OF THIS SEAT. 4 by the template 'for every input the law returns true; each argument reads behind the call as it read before'; 0 by the template 'total and deterministic' (their statements: YtfdgamaegeflkaaDoorTotals.lean).
  GIVEN WITH THE SEED: the statements are not yours to turn. If you find one false, say at which input.
  Laid BY PROGRAM, IN A SANDBOX (cutbox-rows.mjs): the forced cells as the released guide's own fill.sh prints them over the translation 69965b338ba354a6… (all of the seat's roots in one cut). By AI agents, Wed Nov 11 2026. No macro, syntax, notation, axiom, sorry.
-/
import Derived.Test.YtfdgamaegeflkaaDoorChecked
import GoSem.PinnedTables
import GoSem.Claim
import GoSem.ClaimJoined
import GoSem.ClaimMapViews
import Derived.JoinedTies
import Derived.KernelRfl
namespace Go.Proofs.YtfdgamaegeflkaaDoor
/- THE CELL 'sum', in the pinned program and in every row, IS THE sha256 OF THE DUMP (.gsa) THAT YtfdgamaegeflkaaDoorProg.lean LOADS. Nothing in Lean hashes anything: it is a label: what it is worth is what the hold of that sum in a sandbox is worth. -/
noncomputable def Tryd.pinned : Pinned := { name := "ytfdgamaegeflkaadoor", sum := "69965b338ba354a6ca61125f2bb6678b541c7a78a6558a8e74d4c4de5505a963", checked := Tryd.checked }
namespace Rows
def none {H : Type} : Left H := { results := [], args := [] }

/- WHAT THE LISTED PACKAGE-LEVEL VARIABLES READ AS WHEN THE CALL BEGINS. Each datum BY PROGRAM (the guide's laid-datum.mjs) off the statement by which the dump's own 'gosem.cut.vars' lays the variable. In a bare row this is a premise. The card (YtfdgamaegeflkaaDoorCards.lean) ties it to the program's text. -/
def laid_loop_example_g01402_impl_tokenSigns {H : Type} : DataW H := .agg [.lit (.int .u8 33), .lit (.int .u8 35), .lit (.int .u8 36), .lit (.int .u8 37), .lit (.int .u8 38), .lit (.int .u8 39), .lit (.int .u8 42), .lit (.int .u8 43), .lit (.int .u8 45), .lit (.int .u8 46), .lit (.int .u8 94), .lit (.int .u8 95), .lit (.int .u8 124), .lit (.int .u8 126), .lit (.int .u8 96)]
def laid_unicode_utf8_acceptRanges {H : Type} : DataW H := .agg [.agg [.lit (.int .u8 128), .lit (.int .u8 191)], .agg [.lit (.int .u8 160), .lit (.int .u8 191)], .agg [.lit (.int .u8 128), .lit (.int .u8 159)], .agg [.lit (.int .u8 144), .lit (.int .u8 191)], .agg [.lit (.int .u8 128), .lit (.int .u8 143)], .agg [.lit (.int .u8 0), .lit (.int .u8 0)], .agg [.lit (.int .u8 0), .lit (.int .u8 0)], .agg [.lit (.int .u8 0), .lit (.int .u8 0)], .agg [.lit (.int .u8 0), .lit (.int .u8 0)], .agg [.lit (.int .u8 0), .lit (.int .u8 0)], .agg [.lit (.int .u8 0), .lit (.int .u8 0)], .agg [.lit (.int .u8 0), .lit (.int .u8 0)], .agg [.lit (.int .u8 0), .lit (.int .u8 0)], .agg [.lit (.int .u8 0), .lit (.int .u8 0)], .agg [.lit (.int .u8 0), .lit (.int .u8 0)], .agg [.lit (.int .u8 0), .lit (.int .u8 0)]]
/-- One of Go's own tables, pinned by name: the form's constant. -/
def laid_unicode_utf8_first : DataW Unit := Go.Pinned.utf8First

/-- 'laws.FnExactIsTokenText': WHATEVER THE INPUT: true; the input reads as it did. -/
def fnExactIsTokenTextSpec : ChangeSpec := { name := "fnExactIsTokenText", vars := ["loop.example/g01402/impl.tokenSigns"], fn := fun _ => fun
  | [d, g1] => { results := [.lit (.bool true)], args := [d], vars := [g1] }
  | _ => none }
def fnExactIsTokenTextRow : OpenClaim := { program := "ytfdgamaegeflkaadoor", sum := "69965b338ba354a6ca61125f2bb6678b541c7a78a6558a8e74d4c4de5505a963", func := "loop.example/g01402/laws.FnExactIsTokenText", spec := "fnExactIsTokenText", named := ["loop.example/g01402/impl.tokenSigns"], apart := false, laid := [("loop.example/g01402/impl.tokenSigns", laid_loop_example_g01402_impl_tokenSigns)] }
def FnExactIsTokenTextSaid : Prop := fnExactIsTokenTextRow.holds Tryd.pinned (OpenSpec.ofChange fnExactIsTokenTextSpec)

/-- ITS FALSE NEIGHBOUR: 'it returns false'. Refute it at one input. -/
def fnExactIsTokenTextWrong : ChangeSpec := { name := "fnExactIsTokenText", vars := ["loop.example/g01402/impl.tokenSigns"], fn := fun _ => fun
  | [d, g1] => { results := [.lit (.bool false)], args := [d], vars := [g1] }
  | _ => none }
def FnExactIsTokenTextWrongFalsely : Prop := fnExactIsTokenTextRow.holds Tryd.pinned (OpenSpec.ofChange fnExactIsTokenTextWrong)

/-- 'laws.FnExactTrim': WHATEVER THE INPUT: true; the input reads as it did. -/
def fnExactTrimSpec : ChangeSpec := { name := "fnExactTrim", fn := fun _ => fun
  | [d] => { results := [.lit (.bool true)], args := [d] }
  | _ => none }
def fnExactTrimRow : OpenClaim := { program := "ytfdgamaegeflkaadoor", sum := "69965b338ba354a6ca61125f2bb6678b541c7a78a6558a8e74d4c4de5505a963", func := "loop.example/g01402/laws.FnExactTrim", spec := "fnExactTrim", inPlace := ["internal/bytealg.IndexByteString", "internal/bytealg.IndexString"], named := ["unicode/utf8.first", "unicode/utf8.acceptRanges", "internal/bytealg.MaxLen"], apart := false, laid := [("unicode/utf8.acceptRanges", laid_unicode_utf8_acceptRanges), ("unicode/utf8.first", laid_unicode_utf8_first)] }
def FnExactTrimSaid : Prop := fnExactTrimRow.holds Tryd.pinned (OpenSpec.ofChange fnExactTrimSpec)

/-- ITS FALSE NEIGHBOUR: 'it returns false'. Refute it at one input. -/
def fnExactTrimWrong : ChangeSpec := { name := "fnExactTrim", fn := fun _ => fun
  | [d] => { results := [.lit (.bool false)], args := [d] }
  | _ => none }
def FnExactTrimWrongFalsely : Prop := fnExactTrimRow.holds Tryd.pinned (OpenSpec.ofChange fnExactTrimWrong)

/-- 'laws.FnExactSplitList': WHATEVER THE INPUT: true; the input reads as it did. -/
def fnExactSplitListSpec : ChangeSpec := { name := "fnExactSplitList", fn := fun _ => fun
  | [d] => { results := [.lit (.bool true)], args := [d] }
  | _ => none }
def fnExactSplitListRow : OpenClaim := { program := "ytfdgamaegeflkaadoor", sum := "69965b338ba354a6ca61125f2bb6678b541c7a78a6558a8e74d4c4de5505a963", func := "loop.example/g01402/laws.FnExactSplitList", spec := "fnExactSplitList", inPlace := ["internal/bytealg.IndexByteString", "internal/bytealg.IndexString"], named := ["unicode/utf8.first", "unicode/utf8.acceptRanges", "internal/bytealg.MaxLen"], apart := false, laid := [("unicode/utf8.acceptRanges", laid_unicode_utf8_acceptRanges), ("unicode/utf8.first", laid_unicode_utf8_first)] }
def FnExactSplitListSaid : Prop := fnExactSplitListRow.holds Tryd.pinned (OpenSpec.ofChange fnExactSplitListSpec)

/-- ITS FALSE NEIGHBOUR: 'it returns false'. Refute it at one input. -/
def fnExactSplitListWrong : ChangeSpec := { name := "fnExactSplitList", fn := fun _ => fun
  | [d] => { results := [.lit (.bool false)], args := [d] }
  | _ => none }
def FnExactSplitListWrongFalsely : Prop := fnExactSplitListRow.holds Tryd.pinned (OpenSpec.ofChange fnExactSplitListWrong)

/-- 'laws.FnExactIsValueText': WHATEVER THE INPUT: true; the input reads as it did. -/
def fnExactIsValueTextSpec : ChangeSpec := { name := "fnExactIsValueText", fn := fun _ => fun
  | [d] => { results := [.lit (.bool true)], args := [d] }
  | _ => none }
def fnExactIsValueTextRow : OpenClaim := { program := "ytfdgamaegeflkaadoor", sum := "69965b338ba354a6ca61125f2bb6678b541c7a78a6558a8e74d4c4de5505a963", func := "loop.example/g01402/laws.FnExactIsValueText", spec := "fnExactIsValueText", inPlace := ["internal/bytealg.IndexByteString", "internal/bytealg.IndexString"], named := ["unicode/utf8.first", "unicode/utf8.acceptRanges", "internal/bytealg.MaxLen"], apart := false, laid := [("unicode/utf8.acceptRanges", laid_unicode_utf8_acceptRanges), ("unicode/utf8.first", laid_unicode_utf8_first)] }
def FnExactIsValueTextSaid : Prop := fnExactIsValueTextRow.holds Tryd.pinned (OpenSpec.ofChange fnExactIsValueTextSpec)

/-- ITS FALSE NEIGHBOUR: 'it returns false'. Refute it at one input. -/
def fnExactIsValueTextWrong : ChangeSpec := { name := "fnExactIsValueText", fn := fun _ => fun
  | [d] => { results := [.lit (.bool false)], args := [d] }
  | _ => none }
def FnExactIsValueTextWrongFalsely : Prop := fnExactIsValueTextRow.holds Tryd.pinned (OpenSpec.ofChange fnExactIsValueTextWrong)

/- THE SECOND FORM. 'bulk': how many values and letters a reading holds, each counted each time it is reached (what is shared counts as often as it is met; a slice's spare places count too). A statement '..UptoSaid' is the law's where the arguments, and the package variables that the reading takes, are together of bulk at most 1048576: NARROWER than '..Said'. Prove '..Said' where nothing that the law and all that it calls make is longer than what came in: it says more and counts as full. Else prove '..UptoSaid'. A law counts once. -/
mutual
def uptoBulk {H : Type} : DataW H → Nat
  | .lit (.string bytes) => bytes.length + 1
  | .lit _ => 1
  | .nil => 1
  | .ptr d => uptoBulk d + 1
  | .slice elems spare => uptoBulkAll elems + uptoBulkAll spare + 1
  | .agg parts => uptoBulkAll parts + 1
  | .iface _ d => uptoBulk d + 1
  | .map entries => uptoBulkEntries entries + 1
  | .held _ => 1
def uptoBulkAll {H : Type} : List (DataW H) → Nat
  | [] => 0
  | d :: r => uptoBulk d + uptoBulkAll r
def uptoBulkEntries {H : Type} : List (Lit × DataW H) → Nat
  | [] => 0
  | x :: r => uptoBulkEntry x + uptoBulkEntries r
def uptoBulkEntry {H : Type} : Lit × DataW H → Nat
  | (.string bytes, d) => bytes.length + uptoBulk d + 1
  | (_, d) => uptoBulk d + 1
 end
def uptoSmall : (H : Type) → List (DataW H) → Bool := fun _ ds => decide (uptoBulkAll ds ≤ 1048576)
def OpenSpec.upto (s : _root_.Go.ChangeSpec) : _root_.Go.OpenSpec := { _root_.Go.OpenSpec.ofChange s with cond := some uptoSmall }

/-- 'laws.FnExactIsTokenText', WHERE WHAT IT READS IS OF BULK AT MOST 1048576: true; the input reads as it did. -/
def fnExactIsTokenTextUptoRow : OpenClaim := { program := "ytfdgamaegeflkaadoor", sum := "69965b338ba354a6ca61125f2bb6678b541c7a78a6558a8e74d4c4de5505a963", func := "loop.example/g01402/laws.FnExactIsTokenText", spec := "fnExactIsTokenText", named := ["loop.example/g01402/impl.tokenSigns"], apart := false, laid := [("loop.example/g01402/impl.tokenSigns", laid_loop_example_g01402_impl_tokenSigns)], narrowed := true }
def FnExactIsTokenTextUptoSaid : Prop := fnExactIsTokenTextUptoRow.holds Tryd.pinned (OpenSpec.upto fnExactIsTokenTextSpec)

/-- 'laws.FnExactTrim', WHERE WHAT IT READS IS OF BULK AT MOST 1048576: true; the input reads as it did. -/
def fnExactTrimUptoRow : OpenClaim := { program := "ytfdgamaegeflkaadoor", sum := "69965b338ba354a6ca61125f2bb6678b541c7a78a6558a8e74d4c4de5505a963", func := "loop.example/g01402/laws.FnExactTrim", spec := "fnExactTrim", inPlace := ["internal/bytealg.IndexByteString", "internal/bytealg.IndexString"], named := ["unicode/utf8.first", "unicode/utf8.acceptRanges", "internal/bytealg.MaxLen"], apart := false, laid := [("unicode/utf8.acceptRanges", laid_unicode_utf8_acceptRanges), ("unicode/utf8.first", laid_unicode_utf8_first)], narrowed := true }
def FnExactTrimUptoSaid : Prop := fnExactTrimUptoRow.holds Tryd.pinned (OpenSpec.upto fnExactTrimSpec)

/-- 'laws.FnExactSplitList', WHERE WHAT IT READS IS OF BULK AT MOST 1048576: true; the input reads as it did. -/
def fnExactSplitListUptoRow : OpenClaim := { program := "ytfdgamaegeflkaadoor", sum := "69965b338ba354a6ca61125f2bb6678b541c7a78a6558a8e74d4c4de5505a963", func := "loop.example/g01402/laws.FnExactSplitList", spec := "fnExactSplitList", inPlace := ["internal/bytealg.IndexByteString", "internal/bytealg.IndexString"], named := ["unicode/utf8.first", "unicode/utf8.acceptRanges", "internal/bytealg.MaxLen"], apart := false, laid := [("unicode/utf8.acceptRanges", laid_unicode_utf8_acceptRanges), ("unicode/utf8.first", laid_unicode_utf8_first)], narrowed := true }
def FnExactSplitListUptoSaid : Prop := fnExactSplitListUptoRow.holds Tryd.pinned (OpenSpec.upto fnExactSplitListSpec)

/-- 'laws.FnExactIsValueText', WHERE WHAT IT READS IS OF BULK AT MOST 1048576: true; the input reads as it did. -/
def fnExactIsValueTextUptoRow : OpenClaim := { program := "ytfdgamaegeflkaadoor", sum := "69965b338ba354a6ca61125f2bb6678b541c7a78a6558a8e74d4c4de5505a963", func := "loop.example/g01402/laws.FnExactIsValueText", spec := "fnExactIsValueText", inPlace := ["internal/bytealg.IndexByteString", "internal/bytealg.IndexString"], named := ["unicode/utf8.first", "unicode/utf8.acceptRanges", "internal/bytealg.MaxLen"], apart := false, laid := [("unicode/utf8.acceptRanges", laid_unicode_utf8_acceptRanges), ("unicode/utf8.first", laid_unicode_utf8_first)], narrowed := true }
def FnExactIsValueTextUptoSaid : Prop := fnExactIsValueTextUptoRow.holds Tryd.pinned (OpenSpec.upto fnExactIsValueTextSpec)

end Rows
end Go.Proofs.YtfdgamaegeflkaaDoor
