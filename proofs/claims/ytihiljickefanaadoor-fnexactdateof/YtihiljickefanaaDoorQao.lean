/-
  AgeOne: How old an answer is, plain: its age.
-/
import Derived.Test.YtihiljickefanaaDoorQad
import Derived.Test.YtihiljickefanaaDoorQae
import Derived.Test.YtihiljickefanaaDoorQaf
import Derived.Test.YtihiljickefanaaDoorQan
namespace Go.Proofs.YtihiljickefanaaDoor
open Go.RowKit
set_option linter.unusedVariables false
namespace Age
open Flds (Fld)

theorem secs_bd (s : ByteArray) : 0 ≤ (Sign.secs s).1 ∧ (Sign.secs s).1 ≤ 2147483648 := by
  unfold Sign.secs
  split
  · next h => exact Sign.sec_bd _ h.2
  · exact ⟨Int.le_refl _, by decide⟩
/-- the date of a field -/
def dateOf (l : List Fld) (name : ByteArray) : Int × Bool := if (Flds.get l name).2 = true then (Date.readN (Flds.get l name).1, Date.readB (Flds.get l name).1) else (0, false)
theorem readN_bd (s : ByteArray) : 0 ≤ Date.readN s ∧ Date.readN s ≤ 2000000000 := by
  unfold Date.readN
  cases h : Date.read s with
  | none => exact ⟨by decide, by decide⟩
  | some n => exact ((Date.read_iff s n).1 h).1
theorem dateOf_bd (l : List Fld) (name : ByteArray) : 0 ≤ (dateOf l name).1 ∧ (dateOf l name).1 ≤ 2000000000 := by
  unfold dateOf
  split
  · exact readN_bd _
  · exact ⟨by decide, by decide⟩
def sMaxAge : ByteArray := ⟨#[115, 45, 109, 97, 120, 97, 103, 101]⟩
def maxAge : ByteArray := ⟨#[109, 97, 120, 45, 97, 103, 101]⟩
def dateName : ByteArray := ⟨#[100, 97, 116, 101]⟩
def expiresName : ByteArray := ⟨#[101, 120, 112, 105, 114, 101, 115]⟩
def lastName : ByteArray := ⟨#[108, 97, 115, 116, 45, 109, 111, 100, 105, 102, 105, 101, 100]⟩
def ageName : ByteArray := ⟨#[97, 103, 101]⟩
/-- how much later it came than its date -/
def apparent (l : List Fld) (came : Int) : Int := if (dateOf l dateName).2 = true ∧ (dateOf l dateName).1 < came then min (came - (dateOf l dateName).1) 2147483648 else 0
/-- how long it was under way -/
def delay (asked came : Int) : Int := if asked < came ∧ 0 ≤ asked then came - asked else 0
def told (l : List Fld) : Int := (Sign.secs (Flds.get l ageName).1).1
def firstAge (l : List Fld) (asked came : Int) : Int := max (apparent l came) (satAdd (told l) (delay asked came))
theorem firstAge_bd (l : List Fld) (asked came : Int) : 0 ≤ firstAge l asked came ∧ firstAge l asked came ≤ 2147483648 := by
  have h1 := satAdd_bd (told l) (delay asked came)
  have h2 : 0 ≤ apparent l came ∧ apparent l came ≤ 2147483648 := by unfold apparent; split <;> omega
  unfold firstAge
  omega
/-- how long it has been here -/
def here (came now : Int) : Int := if came < now ∧ 0 ≤ came then now - came else 0
def ageAt (l : List Fld) (asked came now : Int) : Int := satAdd (firstAge l asked came) (here came now)
theorem ageAt_bd (l : List Fld) (asked came now : Int) : 0 ≤ ageAt l asked came now ∧ ageAt l asked came now ≤ 2147483648 := satAdd_bd _ _
/-- an age grows by one each second, up to the bound -/
theorem age_next (l : List Fld) (asked came now : Int) : ageAt l asked came now ≤ ageAt l asked came (now + 1) ∧ ageAt l asked came (now + 1) ≤ ageAt l asked came now + 1 := by
  have h := firstAge_bd l asked came
  unfold ageAt satAdd here clamp
  split <;> split <;> omega
theorem age_later (l : List Fld) (asked came now k : Int) (hk : 0 ≤ k) : ageAt l asked came now ≤ ageAt l asked came (now + k) := by
  have h := firstAge_bd l asked came
  unfold ageAt satAdd here clamp
  split <;> split <;> omega
theorem age_step (l : List Fld) (asked came now : Int) (hc : 0 ≤ came) (hn : came ≤ now) : ageAt l asked came (now + 1) = min (ageAt l asked came now + 1) 2147483648 := by
  have h := firstAge_bd l asked came
  unfold ageAt satAdd here clamp
  split <;> split <;> omega
theorem age_first (l : List Fld) (asked came now : Int) : firstAge l asked came ≤ ageAt l asked came now := by
  have h := firstAge_bd l asked came
  unfold ageAt satAdd here clamp
  split <;> omega
end Age
end Go.Proofs.YtihiljickefanaaDoor
