/-
  The words of a status, plain.
-/
import Derived.Test.YtmiahdiadlnijaaDoorNum
namespace Go.Proofs.YtmiahdiadlnijaaDoor
open Go.RowKit
set_option linter.unusedVariables false
namespace Msg

def known : List Int := [200, 203, 204, 300, 301, 304, 400, 404, 410, 502, 504]
def texts : List ByteArray := [⟨#[79, 75]⟩, ⟨#[78, 111, 110, 45, 65, 117, 116, 104, 111, 114, 105, 116, 97, 116, 105, 118, 101, 32, 73, 110, 102, 111, 114, 109, 97, 116, 105, 111, 110]⟩, ⟨#[78, 111, 32, 67, 111, 110, 116, 101, 110, 116]⟩, ⟨#[77, 117, 108, 116, 105, 112, 108, 101, 32, 67, 104, 111, 105, 99, 101, 115]⟩, ⟨#[77, 111, 118, 101, 100, 32, 80, 101, 114, 109, 97, 110, 101, 110, 116, 108, 121]⟩, ⟨#[78, 111, 116, 32, 77, 111, 100, 105, 102, 105, 101, 100]⟩, ⟨#[66, 97, 100, 32, 82, 101, 113, 117, 101, 115, 116]⟩, ⟨#[78, 111, 116, 32, 70, 111, 117, 110, 100]⟩, ⟨#[71, 111, 110, 101]⟩, ⟨#[66, 97, 100, 32, 71, 97, 116, 101, 119, 97, 121]⟩, ⟨#[71, 97, 116, 101, 119, 97, 121, 32, 84, 105, 109, 101, 111, 117, 116]⟩]
/-- the words of the first known status from i on, within n places -/
def reasonF (st : Int) : Nat → Nat → ByteArray
  | 0, _ => ⟨#[83, 116, 97, 116, 117, 115]⟩
  | n + 1, i => if known.getD i 0 = st then texts.getD i ⟨#[]⟩ else reasonF st n (i + 1)
def reason (st : Int) : ByteArray := reasonF st 11 0
end Msg
end Go.Proofs.YtmiahdiadlnijaaDoor
