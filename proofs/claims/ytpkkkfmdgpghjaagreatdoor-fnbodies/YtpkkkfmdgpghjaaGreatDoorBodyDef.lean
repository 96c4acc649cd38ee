/-
  Where a body ends, plain.
-/
import Derived.Test.YtpkkkfmdgpghjaaGreatDoorUnchunkNum
import Derived.Test.YtpkkkfmdgpghjaaGreatDoorFldGets
import Derived.Test.YtpkkkfmdgpghjaaGreatDoorSecondsNum
import Derived.Test.YtpkkkfmdgpghjaaGreatDoorLowerNum
namespace Go.Proofs.YtpkkkfmdgpghjaaGreatDoor
open Go.RowKit
set_option linter.unusedVariables false
namespace Body

def teName : ByteArray := ⟨#[116, 114, 97, 110, 115, 102, 101, 114, 45, 101, 110, 99, 111, 100, 105, 110, 103]⟩
def clName : ByteArray := ⟨#[99, 111, 110, 116, 101, 110, 116, 45, 108, 101, 110, 103, 116, 104]⟩
def chName : ByteArray := ⟨#[99, 104, 117, 110, 107, 101, 100]⟩
/-- where a body ends, by what is said of it: te, cl: whether a field is there, and its value -/
def bodyBy (te cl : ByteArray × Bool) (s : ByteArray) (closing : Bool) : Told :=
  if te.2 = true then (if Sign.lower te.1 = chName ∧ cl.2 = false then unchunk s else bad)
  else if cl.2 = true then
    (if (Sign.secs cl.1).2 = false ∨ 60 < (Sign.secs cl.1).1 then bad
     else if (s.size : Int) < (Sign.secs cl.1).1 then more
     else (s.extract 0 (Sign.secs cl.1).1.toNat, (Sign.secs cl.1).1, 0))
  else if closing = true then (if 60 < s.size then bad else (s, (s.size : Int), 0))
  else (⟨#[]⟩, 0, 0)
def bodyOf (l : List Flds.Fld) (s : ByteArray) (closing : Bool) : Told := bodyBy (Flds.get l teName) (Flds.get l clName) s closing
theorem secs_bd (t : ByteArray) : 0 ≤ (Sign.secs t).1 ∧ (Sign.secs t).1 ≤ 1152921504606846976 := by
  unfold Sign.secs
  split
  · next h => have := Sign.sec_bd _ h.2; omega
  · decide
theorem get_small (l : List Flds.Fld) (name : ByteArray) (h : Flds.bulk l ≤ 1048576) : (Flds.get l name).1.size ≤ 4194304 := by
  have := Flds.get_size l name
  unfold Flds.bulk at h
  omega
end Body
end Go.Proofs.YtpkkkfmdgpghjaaGreatDoor
