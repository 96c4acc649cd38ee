/-
  BodyDef: Where a body ends, plain.
  DecNum: Plain facts on decimal digits: the digits of a number, one by one from the lowest on.
-/
import Derived.Test.YtkenmilglfnmbaaGreatDoorUnchunkNum
import Derived.Test.YtkenmilglfnmbaaGreatDoorQac
import Derived.Test.YtkenmilglfnmbaaGreatDoorSecondsNum
import Derived.Test.YtkenmilglfnmbaaGreatDoorLowerNum
import Derived.Test.YtkenmilglfnmbaaGreatDoorNum
import Derived.Lib.ItoaNum
import Derived.Lib.ItoaLen
namespace Go.Proofs.YtkenmilglfnmbaaGreatDoor
open Go.RowKit
set_option linter.unusedVariables false
namespace Body

def teName : ByteArray := ⟨#[116, 114, 97, 110, 115, 102, 101, 114, 45, 101, 110, 99, 111, 100, 105, 110, 103]⟩
def clName : ByteArray := ⟨#[99, 111, 110, 116, 101, 110, 116, 45, 108, 101, 110, 103, 116, 104]⟩
def chName : ByteArray := ⟨#[99, 104, 117, 110, 107, 101, 100]⟩
/-- where a body ends, by what is said of it: te, cl: whether a field is there, and its value -/
def bodyBy (te cl : ByteArray × Bool) (s : ByteArray) (closing : Bool) : Told :=
  if te.2 = true then (if Sign.lower te.1 = chName ∧ cl.2 = false then unchunk s else bad)
  else if cl.2 = true then
    (if (Sign.secs cl.1).2 = false ∨ 60 < (Sign.secs cl.1).1 then bad
     else if (s.size : Int) < (Sign.secs cl.1).1 then more
     else (s.extract 0 (Sign.secs cl.1).1.toNat, (Sign.secs cl.1).1, 0))
  else if closing = true then (if 60 < s.size then bad else (s, (s.size : Int), 0))
  else (⟨#[]⟩, 0, 0)
def bodyOf (l : List Flds.Fld) (s : ByteArray) (closing : Bool) : Told := bodyBy (Flds.get l teName) (Flds.get l clName) s closing
theorem secs_bd (t : ByteArray) : 0 ≤ (Sign.secs t).1 ∧ (Sign.secs t).1 ≤ 1152921504606846976 := by
  unfold Sign.secs
  split
  · next h => have := Sign.sec_bd _ h.2; omega
  · decide
theorem get_small (l : List Flds.Fld) (name : ByteArray) (h : Flds.bulk l ≤ 1048576) : (Flds.get l name).1.size ≤ 4194304 := by
  have := Flds.get_size l name
  unfold Flds.bulk at h
  omega
theorem unF_bd (s : ByteArray) : ∀ (f a : Nat) (out : ByteArray), 0 ≤ (unF s f a out).2.1 ∧ (unF s f a out).2.1 ≤ (s.size : Int) := by
  have hb : (0 : Int) ≤ bad.2.1 ∧ bad.2.1 ≤ (s.size : Int) := ⟨Int.le_refl _, by show (0 : Int) ≤ _; omega⟩
  have hm : (0 : Int) ≤ more.2.1 ∧ more.2.1 ≤ (s.size : Int) := ⟨Int.le_refl _, by show (0 : Int) ≤ _; omega⟩
  intro f
  induction f with
  | zero => intro a out; exact hb
  | succ f ih =>
    intro a out
    rw [unF]
    cases Line.eol s a with
    | none =>
      simp only
      split
      · exact hb
      · exact hm
    | some i =>
      simp only
      cases readHex (s.extract a i) with
      | none => exact hb
      | some n =>
        simp only
        split
        · exact hb
        · split
          · exact hm
          · next hs =>
            split
            · split
              · refine ⟨?_, ?_⟩
                · show (0 : Int) ≤ ((_ : Nat) : Int); omega
                · show ((i + 2 + n.toNat + 2 : Nat) : Int) ≤ (s.size : Int); omega
              · exact ih _ _
            · exact hb
theorem body_bd (l : List Flds.Fld) (s : ByteArray) (c : Bool) : 0 ≤ (bodyOf l s c).2.1 ∧ (bodyOf l s c).2.1 ≤ (s.size : Int) + 60 := by
  have hb : (0 : Int) ≤ bad.2.1 ∧ bad.2.1 ≤ (s.size : Int) + 60 := ⟨Int.le_refl _, by show (0 : Int) ≤ _; omega⟩
  have hm : (0 : Int) ≤ more.2.1 ∧ more.2.1 ≤ (s.size : Int) + 60 := ⟨Int.le_refl _, by show (0 : Int) ≤ _; omega⟩
  unfold bodyOf bodyBy
  split
  · split
    · have := unF_bd s (s.size + 1) 0 ⟨#[]⟩
      unfold unchunk
      omega
    · exact hb
  · split
    · split
      · exact hb
      · next h =>
        split
        · exact hm
        · have := secs_bd (Flds.get l clName).1
          have h2 : ¬ 60 < (Sign.secs (Flds.get l clName).1).1 := fun h3 => h (.inr h3)
          show 0 ≤ (Sign.secs (Flds.get l clName).1).1 ∧ (Sign.secs (Flds.get l clName).1).1 ≤ (s.size : Int) + 60
          omega
    · split
      · split
        · exact hb
        · show (0 : Int) ≤ (s.size : Int) ∧ (s.size : Int) ≤ (s.size : Int) + 60; omega
      · show (0 : Int) ≤ 0 ∧ (0 : Int) ≤ (s.size : Int) + 60; omega
end Body
end Go.Proofs.YtkenmilglfnmbaaGreatDoor
namespace Go.Proofs.YtkenmilglfnmbaaGreatDoor
open Go.RowKit
set_option linter.unusedVariables false
namespace Dec

/-- the digits of a number, none for 0 -/
def dd (u : Nat) : List UInt8 := if u = 0 then [] else Lib.decDigits u
theorem dd_zero : dd 0 = [] := rfl
theorem dd_pos (u : Nat) (h : u ≠ 0) : dd u = Lib.decDigits u := if_neg h
theorem dd_step (u : Nat) (h : u ≠ 0) : dd u = dd (u / 10) ++ [Num.byte (48 + (u % 10 : Nat))] := by
  have e : Num.byte (48 + ((u % 10 : Nat) : Int)) = UInt8.ofNat (48 + u % 10) := by
    apply UInt8.toNat_inj.1
    have hb := Num.byte_val (48 + ((u % 10 : Nat) : Int))
    rw [UInt8.toNat_ofNat']
    omega
  rw [dd_pos u h, Lib.decDigits, e]
  by_cases h10 : u < 10
  · rw [dif_pos h10, show u / 10 = 0 by omega, dd_zero, show u % 10 = u by omega]; rfl
  · rw [dif_neg h10, dd_pos (u / 10) (by omega)]
theorem length_dd (u : Nat) (h : u < 18446744073709551616) : (dd u).length ≤ 20 := by
  by_cases h0 : u = 0
  · subst h0; simp [dd_zero]
  · rw [dd_pos u h0, Lib.decDigits_length]; exact Lib.nDigits_le20 u h
theorem itoa_zero : Lib.itoa 0 = [48] := by
  have h : Lib.decDigits 0 = [48] := by rw [Lib.decDigits_one (by decide)]; rfl
  exact h
theorem itoa_pos (n : Int) (h : 0 < n) : Lib.itoa n = dd n.natAbs := by
  unfold Lib.itoa
  rw [if_neg (by omega), dd_pos _ (by omega), show n.toNat = n.natAbs by omega]
theorem itoa_neg (n : Int) (h : n < 0) : Lib.itoa n = 45 :: dd n.natAbs := by
  unfold Lib.itoa
  rw [if_pos h, dd_pos _ (by omega)]
end Dec
end Go.Proofs.YtkenmilglfnmbaaGreatDoor
