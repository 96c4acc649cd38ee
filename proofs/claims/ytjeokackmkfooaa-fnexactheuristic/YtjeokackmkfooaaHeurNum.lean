/-
  The numbers by which an answer may be stored, plain.
-/
import Derived.WalkKit
namespace Go.Proofs.Ytjeokackmkfooaa
open Go.RowKit
namespace Pol

def heurList : List Int := [200, 203, 204, 300, 301, 404, 410]
def heuristic (st : Int) : Bool := decide (st ∈ heurList)
end Pol
end Go.Proofs.Ytjeokackmkfooaa
