/-
  What Var tells.
-/
import Derived.Test.YtfmfidlhbephmaaVarNum
namespace Go.Proofs.Ytfmfidlhbephmaa
open Go.RowKit
set_option linter.unusedVariables false
namespace Var

/-- what both tell -/
def tells (n : Int) : List UInt8 := if n < 0 ∨ 562949953421311 < n then [] else Num.vr 6 n
end Var
end Go.Proofs.Ytfmfidlhbephmaa
