/-
  What a target looks like, plain.
-/
import Derived.Test.YtmiahdiadlnijaaSignNum
import Derived.Test.YtmiahdiadlnijaaByteAt
namespace Go.Proofs.Ytmiahdiadlnijaa
open Go.RowKit
set_option linter.unusedVariables false
namespace Msg
open Line (byteAt byteAt_eq)

def uriB (b : UInt8) : Bool := decide (32 < (b.toNat : Int) ∧ (b.toNat : Int) < 127)
def uriOk (s : ByteArray) : Bool := s.data.toList.all uriB && decide (1 ≤ s.size ∧ s.size ≤ 20) && decide (byteAt s 0 = 47)
end Msg
end Go.Proofs.Ytmiahdiadlnijaa
