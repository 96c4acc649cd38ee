/-
  DecNum: Plain facts on decimal digits: the digits of a number, one by one from the lowest on.
  MsgNum: Messages, plain: requests and answers, their texts, and what is read of a text.
  FldGetSpec: FieldGet of the specification: all values of a name, joined; the world stays.
-/
import Derived.Test.YtmiahdiadlnijaaDoorNum
import Derived.Lib.ItoaNum
import Derived.Lib.ItoaLen
import Derived.Test.YtmiahdiadlnijaaDoorPad
import Derived.Test.YtmiahdiadlnijaaDoorPaf
import Derived.Test.YtmiahdiadlnijaaDoorPaa
import Derived.Test.YtmiahdiadlnijaaDoorReasonNum
namespace Go.Proofs.YtmiahdiadlnijaaDoor
open Go.RowKit
set_option linter.unusedVariables false
namespace Dec

/-- the digits of a number, none for 0 -/
def dd (u : Nat) : List UInt8 := if u = 0 then [] else Lib.decDigits u
theorem dd_zero : dd 0 = [] := rfl
theorem dd_pos (u : Nat) (h : u ≠ 0) : dd u = Lib.decDigits u := if_neg h
theorem dd_step (u : Nat) (h : u ≠ 0) : dd u = dd (u / 10) ++ [Num.byte (48 + (u % 10 : Nat))] := by
  have e : Num.byte (48 + ((u % 10 : Nat) : Int)) = UInt8.ofNat (48 + u % 10) := by
    apply UInt8.toNat_inj.1
    have hb := Num.byte_val (48 + ((u % 10 : Nat) : Int))
    rw [UInt8.toNat_ofNat']
    omega
  rw [dd_pos u h, Lib.decDigits, e]
  by_cases h10 : u < 10
  · rw [dif_pos h10, show u / 10 = 0 by omega, dd_zero, show u % 10 = u by omega]; rfl
  · rw [dif_neg h10, dd_pos (u / 10) (by omega)]
theorem length_dd (u : Nat) (h : u < 18446744073709551616) : (dd u).length ≤ 20 := by
  by_cases h0 : u = 0
  · subst h0; simp [dd_zero]
  · rw [dd_pos u h0, Lib.decDigits_length]; exact Lib.nDigits_le20 u h
theorem itoa_zero : Lib.itoa 0 = [48] := by
  have h : Lib.decDigits 0 = [48] := by rw [Lib.decDigits_one (by decide)]; rfl
  exact h
theorem itoa_pos (n : Int) (h : 0 < n) : Lib.itoa n = dd n.natAbs := by
  unfold Lib.itoa
  rw [if_neg (by omega), dd_pos _ (by omega), show n.toNat = n.natAbs by omega]
theorem itoa_neg (n : Int) (h : n < 0) : Lib.itoa n = 45 :: dd n.natAbs := by
  unfold Lib.itoa
  rw [if_pos h, dd_pos _ (by omega)]
end Dec
end Go.Proofs.YtmiahdiadlnijaaDoor
namespace Go.Proofs.YtmiahdiadlnijaaDoor
open Go.RowKit
set_option linter.unusedVariables false
namespace Msg
open Line (byteAt byteAt_eq eol)
open Flds (Fld)

def decB (n : Int) : ByteArray := ⟨(Lib.itoa n).toArray⟩
/-- fields without those that say how long a body is -/
def bare (l : List Fld) : List Fld := Flds.drop (Flds.drop l Body.teName) Body.clName
def framed (l : List Fld) (b : ByteArray) : List Fld := bare l ++ [(Body.clName, decB b.size)]
def plain (l : List Fld) : Bool := !(Flds.get l Body.teName).2 && !(Flds.get l Body.clName).2 && decide (l.length < 12) && Flds.ok l
def reqOk (m u : ByteArray) (l : List Fld) (b : ByteArray) : Bool := Sign.isTok m && decide (m.size ≤ 10) && uriOk u && plain l && decide (b.size ≤ 60)
def ver : ByteArray := ⟨#[72, 84, 84, 80, 47, 49, 46, 49]⟩
/-- the text of a request -/
def reqText (m u : ByteArray) (l : List Fld) (b : ByteArray) : ByteArray := m ++ ⟨#[32]⟩ ++ u ++ ⟨#[32, 72, 84, 84, 80, 47, 49, 46, 49, 13, 10]⟩ ++ Flds.shown (framed l b) ++ b
def showReq (m u : ByteArray) (l : List Fld) (b : ByteArray) : ByteArray := if reqOk m u l b = true then reqText m u l b else ⟨#[]⟩
/-- a body's code as a message's -/
def codeOf (c : Int) : Int := if c = 0 then 0 else if c = 1 then 1 else 2
abbrev Rq := (ByteArray × ByteArray × List Fld × ByteArray) × Int × Int
def noRq (c : Int) : Rq := ((⟨#[]⟩, ⟨#[]⟩, [], ⟨#[]⟩), 0, c)
def readReq (s : ByteArray) : Rq :=
  if whole s = false then noRq (if 1500 < s.size then 2 else 1)
  else match eol s 0 with
    | none => noRq 2
    | some k => match Flds.read (s.extract (k + 2) s.size) with
      | none => noRq 2
      | some (l, n) =>
        if (words (s.extract 0 k)).2.2 = ver ∧ reqOk (words (s.extract 0 k)).1 (words (s.extract 0 k)).2.1 (bare l) ⟨#[]⟩ = true then
          (if (Body.bodyOf l (s.extract (k + 2 + n) s.size) false).2.2 = 0 then (((words (s.extract 0 k)).1, (words (s.extract 0 k)).2.1, bare l, (Body.bodyOf l (s.extract (k + 2 + n) s.size) false).1), ((k + 2 + n : Nat) : Int) + (Body.bodyOf l (s.extract (k + 2 + n) s.size) false).2.1, 0)
           else noRq (codeOf (Body.bodyOf l (s.extract (k + 2 + n) s.size) false).2.2))
        else noRq 2
/-- is a response right? -/
def respOk (st : Int) (l : List Fld) (b : ByteArray) : Bool := decide (200 ≤ st ∧ st ≤ 599) && plain l && decide (b.size ≤ 60) && (decide (st ≠ 204 ∧ st ≠ 304) || decide (b = ⟨#[]⟩))
def respFields (st : Int) (l : List Fld) (b : ByteArray) : List Fld := if st ≠ 204 ∧ st ≠ 304 then framed l b else l
def respText (st : Int) (l : List Fld) (b : ByteArray) : ByteArray := ⟨#[72, 84, 84, 80, 47, 49, 46, 49, 32]⟩ ++ decB st ++ ⟨#[32]⟩ ++ reason st ++ ⟨#[13, 10]⟩ ++ Flds.shown (respFields st l b) ++ b
def showResp (st : Int) (l : List Fld) (b : ByteArray) : ByteArray := if respOk st l b = true then respText st l b else ⟨#[]⟩
end Msg
end Go.Proofs.YtmiahdiadlnijaaDoor
namespace Go.Proofs.YtmiahdiadlnijaaDoor
open Go.RowKit
set_option linter.unusedVariables false
namespace Flds

set_option maxRecDepth 100000 in
set_option maxHeartbeats 1000000 in
theorem get_spec (v : Value) (l : List Fld) (name : ByteArray) (w : World) (h : Is w v l) (hl : bulk l ≤ 1099511627776) :
    Calls Tryd.prog 42 #[v, .string name] w fun e w' => e = .returned (.tuple #[.string (get l name).1, .bool (get l name).2]) ∧ w = w' := by
  obtain ⟨a, c, rfl, h2⟩ := is_form h
  have HA := Num.hide h2
  have hlen : l.length ≤ 1099511627776 := by unfold bulk at hl; omega
  clear h h2
  obtain ⟨r, hr⟩ : ∃ r, get l name = r := ⟨_, rfl⟩
  rw [hr]
  have HR := Num.hide hr
  clear hr
  go_enter Tryd.func42, Tryd.ntmps42
  go_wp2
  go_loop [6, 7, 8] (fun sv bv iv => ∃ i : Nat, i ≤ l.length ∧ iv = .int .i64 (i : Int) ∧ (∃ s b, sv = .string s ∧ bv = .bool b ∧ Hid (get (l.take i) name = (s, b)))) (fun _ _ iv => l.length - (intOf iv).toNat)
  case atStart => exact ⟨0, by omega, rfl, _, _, rfl, rfl, rfl⟩
  case round =>
    obtain ⟨i, hi, rfl, s, b, rfl, rfl, HG⟩ := hrel
    by_cases hlt : i < l.length
    · obtain ⟨bk, o, rfl, hc, hmx, hblt, hcell⟩ := Num.unhide HA (by omega)
      obtain ⟨c1, c2⟩ := hcell i hlt
      have HT := Num.hide (get_take l name i hlt)
      have hsz := get_size (l.take i) name
      rw [HG.out] at hsz
      have hb1 := bulk_le l i
      have hss : s.size ≤ 4398046511104 := by
        simp only at hsz
        rw [List.length_take] at hsz
        unfold bulk at hl
        omega
      have hys : (l[i]).2.size ≤ 4398046511104 := by
        have h3 := bulk_take l i hlt
        have h4 := bulk_le l (i + 1)
        unfold bulk at hl
        omega
      clear hcell hsz hb1
      generalize l[i] = f at c1 c2 HT hys
      obtain ⟨x, y⟩ := f
      simp only at c1 c2 hys
      by_cases he : x = name
      · subst he
        cases b with
        | true =>
          have HT2 : Hid (get (l.take (i + 1)) x = (s ++ ⟨#[44, 32]⟩ ++ y, true)) := by
            have := HT.out
            rw [HG.out] at this
            rw [this]; unfold getStep; rw [if_pos rfl, if_pos rfl]; rfl
          go_wp2
          go_round
          case rel => exact ⟨i + 1, by omega, by go_num, _, _, rfl, rfl, HT2⟩
          case measure => simp [intOf]; omega
        | false =>
          have HT2 : Hid (get (l.take (i + 1)) x = (s ++ y, true)) := by
            have := HT.out
            rw [HG.out] at this
            rw [this]; unfold getStep; rw [if_pos rfl, if_neg (by simp)]; rfl
          go_wp2
          go_round
          case rel => exact ⟨i + 1, by omega, by go_num, _, _, rfl, rfl, HT2⟩
          case measure => simp [intOf]; omega
      · have d := text_ne' he
        have d' : (x.toList != name.toList) = true := by rw [bne, d]; rfl
        have HT2 : Hid (get (l.take (i + 1)) name = (s, b)) := by
          have := HT.out
          rw [HG.out] at this
          rw [this]; unfold getStep; rw [if_neg he]; rfl
        clear he
        go_wp2
        go_round
        case rel => exact ⟨i + 1, by omega, by go_num, _, _, rfl, rfl, HT2⟩
        case measure => simp [intOf]; omega
    · obtain rfl : i = l.length := by omega
      have hg := HG.out
      rw [List.take_of_length_le (Nat.le_refl _), HR.out] at hg
      subst hg
      go_wp2
      go_ret2
      exact ⟨rfl, rfl⟩
theorem get_spec_b (v : Value) (l : List Fld) (name : ByteArray) (w : World) (h : Is w v l) (hl : bulk l ≤ 1099511627776) :
    Calls Tryd.prog 42 #[v, .string name] w fun e w' => e = .returned (.tuple #[.string (get l name).1, .bool (get l name).2]) ∧ Below w.heap.size w w' :=
  (get_spec v l name w h hl).mono fun e w' ⟨h1, h2⟩ => ⟨h1, by subst h2; exact Below.refl _ _⟩
end Flds
end Go.Proofs.YtmiahdiadlnijaaDoor
