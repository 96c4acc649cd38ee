/-
  SaidNum: What is said of caching, plain: a word; that only what is stored is wanted.
-/
import Derived.Test.YtjeokackmkfooaaDoorQad
namespace Go.Proofs.YtjeokackmkfooaaDoor
open Go.RowKit
set_option linter.unusedVariables false
namespace Pol
open Flds (Fld)

def onlyIf : ByteArray := ⟨#[111, 110, 108, 121, 45, 105, 102, 45, 99, 97, 99, 104, 101, 100]⟩
/-- is it said of caching? -/
def said (l : List Fld) (name : ByteArray) : Bool := Cc.has (Cc.dirs l) name
def onlyStored (lq : List Fld) : Bool := said lq onlyIf
end Pol
end Go.Proofs.YtjeokackmkfooaaDoor
