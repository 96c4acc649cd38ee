/-
  Which methods are safe, and which answers are successes, plain.
-/
import Derived.WalkKit
namespace Go.Proofs.Ytjeokackmkfooaa
open Go.RowKit
namespace Pol

def getM : ByteArray := ⟨#[71, 69, 84]⟩
def headM : ByteArray := ⟨#[72, 69, 65, 68]⟩
def optM : ByteArray := ⟨#[79, 80, 84, 73, 79, 78, 83]⟩
def traceM : ByteArray := ⟨#[84, 82, 65, 67, 69]⟩
def isSafe (m : ByteArray) : Bool := decide (m = getM) || decide (m = headM) || decide (m = optM) || decide (m = traceM)
def succeeded (st : Int) : Bool := decide (200 ≤ st ∧ st ≤ 399)
theorem text_is {x : ByteArray} {y : List UInt8} (h : x = ⟨y.toArray⟩) : (x.toList == y) = true := by rw [h, ByteArray.toList_eq]; simp
theorem text_not {x : ByteArray} {y : List UInt8} (h : ¬ x = ⟨y.toArray⟩) : (x.toList == y) = false := by
  rw [beq_eq_false_iff_ne]
  intro e
  exact h (ByteArray.ext (Array.toList_inj.1 ((ByteArray.toList_eq (bs := x)).symm.trans e)))
end Pol
end Go.Proofs.Ytjeokackmkfooaa
