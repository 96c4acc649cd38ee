/-
  BodyDef: Where a body ends, plain.
  ReasonNum: The words of a status, plain.
  WordsNum: A line parted at its first two blanks; whether a message's line and fields are there: plain.
  MsgNum: Messages, plain: requests and answers, their texts, and what is read of a text.
  FldGetSpec: FieldGet of the specification: all values of a name, joined; the world stays.
  PlainSpec: l6Plain of the specification: has a message no field that says how long its body is?
  ReqVal: A request as a value.
  Boxes: Boxes of a call's own: what a store into one leaves of what lies below and of the rows behind.
  ReqOkSpec: RequestOk of the specification: is a request right?
  BodyBack: Plain facts on bodies in pieces: what is made of a text is read as it, whatever stands behind; of a beginning more is wanted.
-/
import Derived.Test.YtkenmilglfnmbaaGreatDoorUnchunkNum
import Derived.Test.YtkenmilglfnmbaaGreatDoorPaa
import Derived.Test.YtkenmilglfnmbaaGreatDoorSecondsNum
import Derived.Test.YtkenmilglfnmbaaGreatDoorLowerNum
import Derived.Test.YtkenmilglfnmbaaGreatDoorNum
import Derived.Test.YtkenmilglfnmbaaGreatDoorSignNum
import Derived.Test.YtkenmilglfnmbaaGreatDoorByteAt
import Derived.Test.YtkenmilglfnmbaaGreatDoorDecNum
import Derived.Test.YtkenmilglfnmbaaGreatDoorFldsOkSpec
import Derived.Test.YtkenmilglfnmbaaGreatDoorFlds
import Derived.Test.YtkenmilglfnmbaaGreatDoorRecs
import Derived.Test.YtkenmilglfnmbaaGreatDoorLineNum
namespace Go.Proofs.YtkenmilglfnmbaaGreatDoor
open Go.RowKit
set_option linter.unusedVariables false
namespace Body

def teName : ByteArray := ⟨#[116, 114, 97, 110, 115, 102, 101, 114, 45, 101, 110, 99, 111, 100, 105, 110, 103]⟩
def clName : ByteArray := ⟨#[99, 111, 110, 116, 101, 110, 116, 45, 108, 101, 110, 103, 116, 104]⟩
def chName : ByteArray := ⟨#[99, 104, 117, 110, 107, 101, 100]⟩
/-- where a body ends, by what is said of it: te, cl: whether a field is there, and its value -/
def bodyBy (te cl : ByteArray × Bool) (s : ByteArray) (closing : Bool) : Told :=
  if te.2 = true then (if Sign.lower te.1 = chName ∧ cl.2 = false then unchunk s else bad)
  else if cl.2 = true then
    (if (Sign.secs cl.1).2 = false ∨ 60 < (Sign.secs cl.1).1 then bad
     else if (s.size : Int) < (Sign.secs cl.1).1 then more
     else (s.extract 0 (Sign.secs cl.1).1.toNat, (Sign.secs cl.1).1, 0))
  else if closing = true then (if 60 < s.size then bad else (s, (s.size : Int), 0))
  else (⟨#[]⟩, 0, 0)
def bodyOf (l : List Flds.Fld) (s : ByteArray) (closing : Bool) : Told := bodyBy (Flds.get l teName) (Flds.get l clName) s closing
theorem secs_bd (t : ByteArray) : 0 ≤ (Sign.secs t).1 ∧ (Sign.secs t).1 ≤ 1152921504606846976 := by
  unfold Sign.secs
  split
  · next h => have := Sign.sec_bd _ h.2; omega
  · decide
theorem get_small (l : List Flds.Fld) (name : ByteArray) (h : Flds.bulk l ≤ 1048576) : (Flds.get l name).1.size ≤ 4194304 := by
  have := Flds.get_size l name
  unfold Flds.bulk at h
  omega
theorem unF_bd (s : ByteArray) : ∀ (f a : Nat) (out : ByteArray), 0 ≤ (unF s f a out).2.1 ∧ (unF s f a out).2.1 ≤ (s.size : Int) := by
  have hb : (0 : Int) ≤ bad.2.1 ∧ bad.2.1 ≤ (s.size : Int) := ⟨Int.le_refl _, by show (0 : Int) ≤ _; omega⟩
  have hm : (0 : Int) ≤ more.2.1 ∧ more.2.1 ≤ (s.size : Int) := ⟨Int.le_refl _, by show (0 : Int) ≤ _; omega⟩
  intro f
  induction f with
  | zero => intro a out; exact hb
  | succ f ih =>
    intro a out
    rw [unF]
    cases Line.eol s a with
    | none =>
      simp only
      split
      · exact hb
      · exact hm
    | some i =>
      simp only
      cases readHex (s.extract a i) with
      | none => exact hb
      | some n =>
        simp only
        split
        · exact hb
        · split
          · exact hm
          · next hs =>
            split
            · split
              · refine ⟨?_, ?_⟩
                · show (0 : Int) ≤ ((_ : Nat) : Int); omega
                · show ((i + 2 + n.toNat + 2 : Nat) : Int) ≤ (s.size : Int); omega
              · exact ih _ _
            · exact hb
theorem body_bd (l : List Flds.Fld) (s : ByteArray) (c : Bool) : 0 ≤ (bodyOf l s c).2.1 ∧ (bodyOf l s c).2.1 ≤ (s.size : Int) + 60 := by
  have hb : (0 : Int) ≤ bad.2.1 ∧ bad.2.1 ≤ (s.size : Int) + 60 := ⟨Int.le_refl _, by show (0 : Int) ≤ _; omega⟩
  have hm : (0 : Int) ≤ more.2.1 ∧ more.2.1 ≤ (s.size : Int) + 60 := ⟨Int.le_refl _, by show (0 : Int) ≤ _; omega⟩
  unfold bodyOf bodyBy
  split
  · split
    · have := unF_bd s (s.size + 1) 0 ⟨#[]⟩
      unfold unchunk
      omega
    · exact hb
  · split
    · split
      · exact hb
      · next h =>
        split
        · exact hm
        · have := secs_bd (Flds.get l clName).1
          have h2 : ¬ 60 < (Sign.secs (Flds.get l clName).1).1 := fun h3 => h (.inr h3)
          show 0 ≤ (Sign.secs (Flds.get l clName).1).1 ∧ (Sign.secs (Flds.get l clName).1).1 ≤ (s.size : Int) + 60
          omega
    · split
      · split
        · exact hb
        · show (0 : Int) ≤ (s.size : Int) ∧ (s.size : Int) ≤ (s.size : Int) + 60; omega
      · show (0 : Int) ≤ 0 ∧ (0 : Int) ≤ (s.size : Int) + 60; omega
end Body
end Go.Proofs.YtkenmilglfnmbaaGreatDoor
namespace Go.Proofs.YtkenmilglfnmbaaGreatDoor
open Go.RowKit
set_option linter.unusedVariables false
namespace Msg

def known : List Int := [200, 203, 204, 300, 301, 304, 400, 404, 410, 502, 504]
def texts : List ByteArray := [⟨#[79, 75]⟩, ⟨#[78, 111, 110, 45, 65, 117, 116, 104, 111, 114, 105, 116, 97, 116, 105, 118, 101, 32, 73, 110, 102, 111, 114, 109, 97, 116, 105, 111, 110]⟩, ⟨#[78, 111, 32, 67, 111, 110, 116, 101, 110, 116]⟩, ⟨#[77, 117, 108, 116, 105, 112, 108, 101, 32, 67, 104, 111, 105, 99, 101, 115]⟩, ⟨#[77, 111, 118, 101, 100, 32, 80, 101, 114, 109, 97, 110, 101, 110, 116, 108, 121]⟩, ⟨#[78, 111, 116, 32, 77, 111, 100, 105, 102, 105, 101, 100]⟩, ⟨#[66, 97, 100, 32, 82, 101, 113, 117, 101, 115, 116]⟩, ⟨#[78, 111, 116, 32, 70, 111, 117, 110, 100]⟩, ⟨#[71, 111, 110, 101]⟩, ⟨#[66, 97, 100, 32, 71, 97, 116, 101, 119, 97, 121]⟩, ⟨#[71, 97, 116, 101, 119, 97, 121, 32, 84, 105, 109, 101, 111, 117, 116]⟩]
/-- the words of the first known status from i on, within n places -/
def reasonF (st : Int) : Nat → Nat → ByteArray
  | 0, _ => ⟨#[83, 116, 97, 116, 117, 115]⟩
  | n + 1, i => if known.getD i 0 = st then texts.getD i ⟨#[]⟩ else reasonF st n (i + 1)
def reason (st : Int) : ByteArray := reasonF st 11 0
end Msg
end Go.Proofs.YtkenmilglfnmbaaGreatDoor
namespace Go.Proofs.YtkenmilglfnmbaaGreatDoor
open Go.RowKit
set_option linter.unusedVariables false
namespace Msg
open Line (byteAt byteAt_eq)

/-- the first blank from i on, within n places -/
def blF (s : ByteArray) : Nat → Nat → Option Nat
  | 0, _ => none
  | n + 1, i => if byteAt s i = 32 then some i else blF s n (i + 1)
def blk (s : ByteArray) (i : Nat) : Option Nat := blF s (s.size - i) i
theorem blF_in (s : ByteArray) : ∀ (n i k : Nat), blF s n i = some k → i ≤ k ∧ k < s.size := by
  intro n
  induction n with
  | zero => intro i k h; cases h
  | succ n ih =>
    intro i k h
    unfold blF at h
    split at h
    · next hc =>
      cases h
      refine ⟨Nat.le_refl _, ?_⟩
      by_cases hz : i < s.size
      · exact hz
      · exfalso; unfold byteAt at hc; rw [dif_neg hz] at hc; omega
    · have := ih (i + 1) k h; omega
theorem blk_hit (s : ByteArray) (i : Nat) (h : i < s.size) (h1 : (s[i]).toNat = 32) : blk s i = some i := by
  unfold blk
  rw [show s.size - i = (s.size - i - 1) + 1 by omega, blF, if_pos (by rw [byteAt_eq s i h]; exact h1)]
theorem blk_next (s : ByteArray) (i : Nat) (h : i < s.size) (h1 : ¬ (s[i]).toNat = 32) : blk s i = blk s (i + 1) := by
  unfold blk
  rw [show s.size - i = (s.size - (i + 1)) + 1 by omega, blF, if_neg (by rw [byteAt_eq s i h]; exact h1)]
theorem blk_end (s : ByteArray) (i : Nat) (h : s.size ≤ i) : blk s i = none := by unfold blk; rw [show s.size - i = 0 by omega]; rfl
theorem blk_in {s : ByteArray} {i k : Nat} (h : blk s i = some k) : i ≤ k ∧ k < s.size := blF_in s _ i k h
/-- the three parts of a line -/
def words (s : ByteArray) : ByteArray × ByteArray × ByteArray :=
  match blk s 0 with
  | none => (⟨#[]⟩, ⟨#[]⟩, ⟨#[]⟩)
  | some a => match blk s (a + 1) with
    | none => (⟨#[]⟩, ⟨#[]⟩, ⟨#[]⟩)
    | some b => (s.extract 0 a, s.extract (a + 1) b, s.extract (b + 1) s.size)
/-- where the search stands -/
def WdAt (s : ByteArray) (i : Nat) (a b : Int) : Prop :=
  (a = -1 ∧ b = -1 ∧ blk s 0 = blk s i) ∨ (∃ A : Nat, a = (A : Int) ∧ b = -1 ∧ blk s 0 = some A ∧ A < i ∧ blk s (A + 1) = blk s i) ∨ (∃ A B : Nat, a = (A : Int) ∧ b = (B : Int) ∧ blk s 0 = some A ∧ blk s (A + 1) = some B)
theorem wd_start (s : ByteArray) : WdAt s 0 (-1) (-1) := .inl ⟨rfl, rfl, rfl⟩
theorem wd_bd {s : ByteArray} {i : Nat} {a b : Int} (h : WdAt s i a b) (hi : i ≤ s.size) : -1 ≤ a ∧ a ≤ s.size ∧ -1 ≤ b ∧ b ≤ s.size := by
  rcases h with ⟨rfl, rfl, _⟩ | ⟨A, rfl, rfl, _, h1, _⟩ | ⟨A, B, rfl, rfl, h1, h2⟩
  · omega
  · omega
  · have := blk_in h1; have := blk_in h2; omega
theorem wd_no {s : ByteArray} {i : Nat} {a b : Int} (h : WdAt s i a b) (hi : i < s.size) (hc : ¬ (s[i]).toNat = 32) : WdAt s (i + 1) a b := by
  rcases h with ⟨rfl, rfl, h1⟩ | ⟨A, rfl, rfl, h1, h2, h3⟩ | h
  · exact .inl ⟨rfl, rfl, by rw [h1, blk_next s i hi hc]⟩
  · exact .inr (.inl ⟨A, rfl, rfl, h1, by omega, by rw [h3, blk_next s i hi hc]⟩)
  · exact .inr (.inr h)
theorem wd_first {s : ByteArray} {i : Nat} {a b : Int} (h : WdAt s i a b) (hi : i < s.size) (hc : (s[i]).toNat = 32) (ha : a < 0) : WdAt s (i + 1) (i : Int) b := by
  rcases h with ⟨rfl, rfl, h1⟩ | ⟨A, rfl, rfl, h1, h2, h3⟩ | ⟨A, B, rfl, rfl, h1, h2⟩
  · exact .inr (.inl ⟨i, rfl, rfl, by rw [h1, blk_hit s i hi hc], by omega, rfl⟩)
  · omega
  · omega
theorem wd_second {s : ByteArray} {i : Nat} {a b : Int} (h : WdAt s i a b) (hi : i < s.size) (hc : (s[i]).toNat = 32) (ha : ¬ a < 0) (hb : b < 0) : WdAt s (i + 1) a (i : Int) := by
  rcases h with ⟨rfl, rfl, h1⟩ | ⟨A, rfl, rfl, h1, h2, h3⟩ | ⟨A, B, rfl, rfl, h1, h2⟩
  · omega
  · exact .inr (.inr ⟨A, i, rfl, rfl, h1, by rw [h3, blk_hit s i hi hc]⟩)
  · omega
theorem wd_third {s : ByteArray} {i : Nat} {a b : Int} (h : WdAt s i a b) (ha : ¬ a < 0) (hb : ¬ b < 0) : WdAt s (i + 1) a b := by
  rcases h with ⟨rfl, rfl, h1⟩ | ⟨A, rfl, rfl, h1, h2, h3⟩ | h
  · omega
  · omega
  · exact .inr (.inr h)
theorem wd_none {s : ByteArray} {a b : Int} (h : WdAt s s.size a b) (hb : b < 0) : words s = (⟨#[]⟩, ⟨#[]⟩, ⟨#[]⟩) := by
  rcases h with ⟨rfl, rfl, h1⟩ | ⟨A, rfl, rfl, h1, h2, h3⟩ | ⟨A, B, rfl, rfl, h1, h2⟩
  · unfold words; rw [h1, blk_end s _ (Nat.le_refl _)]
  · unfold words; rw [h1]; simp only; rw [h3, blk_end s _ (Nat.le_refl _)]
  · omega
theorem wd_done {s : ByteArray} {a b : Int} (h : WdAt s s.size a b) (hb : ¬ b < 0) : ∃ A B : Nat, a = (A : Int) ∧ b = (B : Int) ∧ A < B ∧ B < s.size ∧ words s = (s.extract 0 A, s.extract (A + 1) B, s.extract (B + 1) s.size) := by
  rcases h with ⟨rfl, rfl, h1⟩ | ⟨A, rfl, rfl, h1, h2, h3⟩ | ⟨A, B, rfl, rfl, h1, h2⟩
  · omega
  · omega
  · have := blk_in h2
    exact ⟨A, B, rfl, rfl, by omega, by omega, by unfold words; rw [h1]; simp only; rw [h2]⟩
/-- bytes 13, 10, 13, 10 -/
def gap : ByteArray := ⟨#[13, 10, 13, 10]⟩
def wholeF (s : ByteArray) : Nat → Nat → Bool
  | 0, _ => false
  | n + 1, i => if s.extract i (i + 4) = gap then true else wholeF s n (i + 1)
/-- are the line and the fields of a message there? -/
def whole (s : ByteArray) : Bool := wholeF s (s.size - 3) 0
end Msg
end Go.Proofs.YtkenmilglfnmbaaGreatDoor
namespace Go.Proofs.YtkenmilglfnmbaaGreatDoor
open Go.RowKit
set_option linter.unusedVariables false
namespace Msg
open Line (byteAt byteAt_eq eol)
open Flds (Fld)

def decB (n : Int) : ByteArray := ⟨(Lib.itoa n).toArray⟩
/-- fields without those that say how long a body is -/
def bare (l : List Fld) : List Fld := Flds.drop (Flds.drop l Body.teName) Body.clName
def framed (l : List Fld) (b : ByteArray) : List Fld := bare l ++ [(Body.clName, decB b.size)]
def plain (l : List Fld) : Bool := !(Flds.get l Body.teName).2 && !(Flds.get l Body.clName).2 && decide (l.length < 12) && Flds.ok l
def reqOk (m u : ByteArray) (l : List Fld) (b : ByteArray) : Bool := Sign.isTok m && decide (m.size ≤ 10) && uriOk u && plain l && decide (b.size ≤ 60)
def ver : ByteArray := ⟨#[72, 84, 84, 80, 47, 49, 46, 49]⟩
/-- the text of a request -/
def reqText (m u : ByteArray) (l : List Fld) (b : ByteArray) : ByteArray := m ++ ⟨#[32]⟩ ++ u ++ ⟨#[32, 72, 84, 84, 80, 47, 49, 46, 49, 13, 10]⟩ ++ Flds.shown (framed l b) ++ b
def showReq (m u : ByteArray) (l : List Fld) (b : ByteArray) : ByteArray := if reqOk m u l b = true then reqText m u l b else ⟨#[]⟩
/-- a body's code as a message's -/
def codeOf (c : Int) : Int := if c = 0 then 0 else if c = 1 then 1 else 2
abbrev Rq := (ByteArray × ByteArray × List Fld × ByteArray) × Int × Int
def noRq (c : Int) : Rq := ((⟨#[]⟩, ⟨#[]⟩, [], ⟨#[]⟩), 0, c)
def readReq (s : ByteArray) : Rq :=
  if whole s = false then noRq (if 1500 < s.size then 2 else 1)
  else match eol s 0 with
    | none => noRq 2
    | some k => match Flds.read (s.extract (k + 2) s.size) with
      | none => noRq 2
      | some (l, n) =>
        if (words (s.extract 0 k)).2.2 = ver ∧ reqOk (words (s.extract 0 k)).1 (words (s.extract 0 k)).2.1 (bare l) ⟨#[]⟩ = true then
          (if (Body.bodyOf l (s.extract (k + 2 + n) s.size) false).2.2 = 0 then (((words (s.extract 0 k)).1, (words (s.extract 0 k)).2.1, bare l, (Body.bodyOf l (s.extract (k + 2 + n) s.size) false).1), ((k + 2 + n : Nat) : Int) + (Body.bodyOf l (s.extract (k + 2 + n) s.size) false).2.1, 0)
           else noRq (codeOf (Body.bodyOf l (s.extract (k + 2 + n) s.size) false).2.2))
        else noRq 2
/-- is a response right? -/
def respOk (st : Int) (l : List Fld) (b : ByteArray) : Bool := decide (200 ≤ st ∧ st ≤ 599) && plain l && decide (b.size ≤ 60) && (decide (st ≠ 204 ∧ st ≠ 304) || decide (b = ⟨#[]⟩))
def respFields (st : Int) (l : List Fld) (b : ByteArray) : List Fld := if st ≠ 204 ∧ st ≠ 304 then framed l b else l
def respText (st : Int) (l : List Fld) (b : ByteArray) : ByteArray := ⟨#[72, 84, 84, 80, 47, 49, 46, 49, 32]⟩ ++ decB st ++ ⟨#[32]⟩ ++ reason st ++ ⟨#[13, 10]⟩ ++ Flds.shown (respFields st l b) ++ b
def showResp (st : Int) (l : List Fld) (b : ByteArray) : ByteArray := if respOk st l b = true then respText st l b else ⟨#[]⟩
end Msg
end Go.Proofs.YtkenmilglfnmbaaGreatDoor
namespace Go.Proofs.YtkenmilglfnmbaaGreatDoor
open Go.RowKit
set_option linter.unusedVariables false
namespace Flds

set_option maxRecDepth 100000 in
set_option maxHeartbeats 1000000 in
theorem get_spec (v : Value) (l : List Fld) (name : ByteArray) (w : World) (h : Is w v l) (hl : bulk l ≤ 1099511627776) :
    Calls Tryz.prog 110 #[v, .string name] w fun e w' => e = .returned (.tuple #[.string (get l name).1, .bool (get l name).2]) ∧ w = w' := by
  obtain ⟨a, c, rfl, h2⟩ := is_form h
  have HA := Num.hide h2
  have hlen : l.length ≤ 1099511627776 := by unfold bulk at hl; omega
  clear h h2
  obtain ⟨r, hr⟩ : ∃ r, get l name = r := ⟨_, rfl⟩
  rw [hr]
  have HR := Num.hide hr
  clear hr
  go_enter Tryz.func110, Tryz.ntmps110
  go_wp2
  go_loop [6, 7, 8] (fun sv bv iv => ∃ i : Nat, i ≤ l.length ∧ iv = .int .i64 (i : Int) ∧ (∃ s b, sv = .string s ∧ bv = .bool b ∧ Hid (get (l.take i) name = (s, b)))) (fun _ _ iv => l.length - (intOf iv).toNat)
  case atStart => exact ⟨0, by omega, rfl, _, _, rfl, rfl, rfl⟩
  case round =>
    obtain ⟨i, hi, rfl, s, b, rfl, rfl, HG⟩ := hrel
    by_cases hlt : i < l.length
    · obtain ⟨bk, o, rfl, hc, hmx, hblt, hcell⟩ := Num.unhide HA (by omega)
      obtain ⟨c1, c2⟩ := hcell i hlt
      have HT := Num.hide (get_take l name i hlt)
      have hsz := get_size (l.take i) name
      rw [HG.out] at hsz
      have hb1 := bulk_le l i
      have hss : s.size ≤ 4398046511104 := by
        simp only at hsz
        rw [List.length_take] at hsz
        unfold bulk at hl
        omega
      have hys : (l[i]).2.size ≤ 4398046511104 := by
        have h3 := bulk_take l i hlt
        have h4 := bulk_le l (i + 1)
        unfold bulk at hl
        omega
      clear hcell hsz hb1
      generalize l[i] = f at c1 c2 HT hys
      obtain ⟨x, y⟩ := f
      simp only at c1 c2 hys
      by_cases he : x = name
      · subst he
        cases b with
        | true =>
          have HT2 : Hid (get (l.take (i + 1)) x = (s ++ ⟨#[44, 32]⟩ ++ y, true)) := by
            have := HT.out
            rw [HG.out] at this
            rw [this]; unfold getStep; rw [if_pos rfl, if_pos rfl]; rfl
          go_wp2
          go_round
          case rel => exact ⟨i + 1, by omega, by go_num, _, _, rfl, rfl, HT2⟩
          case measure => simp [intOf]; omega
        | false =>
          have HT2 : Hid (get (l.take (i + 1)) x = (s ++ y, true)) := by
            have := HT.out
            rw [HG.out] at this
            rw [this]; unfold getStep; rw [if_pos rfl, if_neg (by simp)]; rfl
          go_wp2
          go_round
          case rel => exact ⟨i + 1, by omega, by go_num, _, _, rfl, rfl, HT2⟩
          case measure => simp [intOf]; omega
      · have d := text_ne' he
        have d' : (x.toList != name.toList) = true := by rw [bne, d]; rfl
        have HT2 : Hid (get (l.take (i + 1)) name = (s, b)) := by
          have := HT.out
          rw [HG.out] at this
          rw [this]; unfold getStep; rw [if_neg he]; rfl
        clear he
        go_wp2
        go_round
        case rel => exact ⟨i + 1, by omega, by go_num, _, _, rfl, rfl, HT2⟩
        case measure => simp [intOf]; omega
    · obtain rfl : i = l.length := by omega
      have hg := HG.out
      rw [List.take_of_length_le (Nat.le_refl _), HR.out] at hg
      subst hg
      go_wp2
      go_ret2
      exact ⟨rfl, rfl⟩
theorem get_spec_b (v : Value) (l : List Fld) (name : ByteArray) (w : World) (h : Is w v l) (hl : bulk l ≤ 1099511627776) :
    Calls Tryz.prog 110 #[v, .string name] w fun e w' => e = .returned (.tuple #[.string (get l name).1, .bool (get l name).2]) ∧ Below w.heap.size w w' :=
  (get_spec v l name w h hl).mono fun e w' ⟨h1, h2⟩ => ⟨h1, by subst h2; exact Below.refl _ _⟩
end Flds
end Go.Proofs.YtkenmilglfnmbaaGreatDoor
namespace Go.Proofs.YtkenmilglfnmbaaGreatDoor
open Go.RowKit
set_option linter.unusedVariables false
namespace Msg

theorem bulk_each {l : List Flds.Fld} (h : Flds.bulk l ≤ 1099511627776) : ∀ f ∈ l, f.1.size ≤ maxLen ∧ f.2.size ≤ maxLen := by
  intro f hf
  obtain ⟨i, hi, rfl⟩ := List.getElem_of_mem hf
  have h3 := Flds.bulk_take l i hi
  have h4 := Flds.bulk_le l (i + 1)
  unfold Flds.bulk at h; unfold maxLen
  omega
set_option maxRecDepth 100000 in
set_option maxHeartbeats 2000000 in
theorem plain_spec (v : Value) (l : List Flds.Fld) (w : World) (h : Flds.Is w v l) (hl : Flds.bulk l ≤ 1099511627776) :
    Calls Tryz.prog 57 #[v] w fun e w' => e = .returned (.bool (plain l)) ∧ Below w.heap.size w w' := by
  have hlen : l.length ≤ 1099511627776 := by unfold Flds.bulk at hl; omega
  have HG1 := Num.hide (Flds.get_spec v l Body.teName w h hl)
  have HG2 := Num.hide (Flds.get_spec v l Body.clName w h hl)
  have HO := Num.hide (Flds.ok_spec v l w h (bulk_each hl) hlen)
  obtain ⟨a, c, rfl, _⟩ := Flds.is_form h
  clear h
  obtain ⟨r, hr⟩ : ∃ r, plain l = r := ⟨_, rfl⟩
  rw [hr]
  unfold plain at hr
  unfold Body.teName at HG1
  unfold Body.clName at HG2
  generalize hx : Flds.get l Body.teName = x at hr
  generalize hy : Flds.get l Body.clName = y at hr
  have hx' : Flds.get l ⟨#[116, 114, 97, 110, 115, 102, 101, 114, 45, 101, 110, 99, 111, 100, 105, 110, 103]⟩ = x := hx
  have hy' : Flds.get l ⟨#[99, 111, 110, 116, 101, 110, 116, 45, 108, 101, 110, 103, 116, 104]⟩ = y := hy
  rw [hx'] at HG1
  rw [hy'] at HG2
  generalize Flds.ok l = o at HO hr
  obtain ⟨x1, x2⟩ := x
  obtain ⟨y1, y2⟩ := y
  simp only at hr HG1 HG2
  clear hx hy hx' hy' hl
  cases x2 with
  | true =>
    obtain rfl : false = r := by rw [← hr]; rfl
    clear hr
    go_enter Tryz.func57, Tryz.ntmps57
    go_wp2_with fail
    refine HG1.out.mono ?_
    rintro e w1 ⟨rfl, rfl⟩
    go_wp2_with fail
    refine HG2.out.mono ?_
    rintro e w1 ⟨rfl, rfl⟩
    go_wp2
    go_ret
    exact ⟨rfl, Below.refl _ _⟩
  | false =>
    cases y2 with
    | true =>
      obtain rfl : false = r := by rw [← hr]; rfl
      clear hr
      go_enter Tryz.func57, Tryz.ntmps57
      go_wp2_with fail
      refine HG1.out.mono ?_
      rintro e w1 ⟨rfl, rfl⟩
      go_wp2_with fail
      refine HG2.out.mono ?_
      rintro e w1 ⟨rfl, rfl⟩
      go_wp2
      go_ret
      exact ⟨rfl, Below.refl _ _⟩
    | false =>
      by_cases h12 : (l.length : Int) < 12
      · obtain rfl : o = r := by rw [← hr, decide_eq_true (by omega)]; rfl
        clear hr
        go_enter Tryz.func57, Tryz.ntmps57
        go_wp2_with fail
        refine HG1.out.mono ?_
        rintro e w1 ⟨rfl, rfl⟩
        go_wp2_with fail
        refine HG2.out.mono ?_
        rintro e w1 ⟨rfl, rfl⟩
        go_wp2_with fail
        refine HO.out.mono ?_
        rintro e w2 ⟨rfl, hb⟩
        have HB := Num.hide hb
        clear hb
        go_wp2
        go_ret
        exact ⟨rfl, HB.out⟩
      · obtain rfl : false = r := by rw [← hr, decide_eq_false (by omega)]; rfl
        have d12 : decide ((l.length : Int) < 12) = false := decide_eq_false h12
        clear hr
        go_enter Tryz.func57, Tryz.ntmps57
        go_wp2_with fail
        refine HG1.out.mono ?_
        rintro e w1 ⟨rfl, rfl⟩
        go_wp2_with fail
        refine HG2.out.mono ?_
        rintro e w1 ⟨rfl, rfl⟩
        go_wp2
        go_ret
        exact ⟨rfl, Below.refl _ _⟩
end Msg
end Go.Proofs.YtkenmilglfnmbaaGreatDoor
namespace Go.Proofs.YtkenmilglfnmbaaGreatDoor
open Go.RowKit
set_option linter.unusedVariables false
namespace Req

/-- the value of a request whose fields lie at v -/
def val (m u : ByteArray) (v : Value) (b : ByteArray) : Value := .agg #[.string m, .string u, v, .string b]
/-- how much a request holds -/
def bulk (m u : ByteArray) (l : List Flds.Fld) (b : ByteArray) : Nat := m.size + u.size + Flds.bulk l + b.size
end Req
end Go.Proofs.YtkenmilglfnmbaaGreatDoor
namespace Go.Proofs.YtkenmilglfnmbaaGreatDoor
open Go.RowKit
set_option linter.unusedVariables false
namespace Recs

/-- what lies below B, and the rows from n on that were there, are as they were -/
structure Past (B n : Nat) (W W' : World) : Prop where
  below : Below B W W'
  rows : ∀ j, n ≤ j → j < W.heap.size → W'.heap[j]? = W.heap[j]?
theorem Past.refl (B n : Nat) (W : World) : Past B n W W := ⟨Below.refl _ _, fun _ _ _ => rfl⟩
theorem Past.set {B n : Nat} {W W' : World} (h : Past B n W W') (g i : Nat) (u : Value) (hB : B ≤ g) (hn : g < n) : Past B n W (W'.setCell ⟨g, i, none⟩ u) :=
  ⟨h.below.setCell (p := ⟨g, i, none⟩) hB u, fun j hj hl => (heap_setCell_other W' ⟨g, i, none⟩ j u (fun e => by have e2 : j = g := e; omega)).trans (h.rows j hj hl)⟩
theorem Past.drew {B n : Nat} {W W' : World} (h : Past B n W W') : Past B n W W'.drew := ⟨h.below.drew, h.rows⟩
theorem own_past {α : Type} {e : TypeId} {sz : Nat} {enc : α → List Value} {B n : Nat} {W W' : World} {v : Value} {l : List α} (h : Own e sz enc n W v l) (hf : Past B n W W') : Own e sz enc n W' v l := by
  refine ⟨h.1, ?_⟩
  have hlt := own_lt h
  rcases h.2 with h1 | ⟨g, cap, cur, h1, hB, hg, rest⟩
  · exact .inl h1
  · subst h1
    exact .inr ⟨g, cap, cur, rfl, hB, by rw [hf.rows g hB (hlt g rfl).2]; exact hg, rest⟩
/-- the cells of a box that is known whole -/
theorem box_cell {w : World} {g : Nat} {cs : Array Value} {T : TypeId} (h : w.heap[g]? = some (.cells cs T (0, 0))) (i : Nat) : w.cell? ⟨g, i, none⟩ = cs[i]? := cell_of_row w g _ _ _ _ h
theorem box_thaw {w : World} {g : Nat} {cs : Array Value} {T : TypeId} (h : w.heap[g]? = some (.cells cs T (0, 0))) (i : Nat) : w.frozen? ⟨g, i, none⟩ = false := frozen_of_row w g i _ _ h
theorem box_set {w : World} {g : Nat} {cs : Array Value} {T : TypeId} (h : w.heap[g]? = some (.cells cs T (0, 0))) (i : Nat) (u : Value) : (w.setCell ⟨g, i, none⟩ u).heap[g]? = some (.cells (cs.setIfInBounds i u) T (0, 0)) := heap_setCell_same w g i cs _ u h
theorem box_far {w : World} {g k i : Nat} {o : Option Obj} (h : w.heap[k]? = o) (u : Value) (hne : k ≠ g) : (w.setCell ⟨g, i, none⟩ u).heap[k]? = o := (heap_setCell_other w ⟨g, i, none⟩ k u (fun e => hne e)).trans h
/-- three boxes that were just laid, behind whatever was laid since -/
theorem three_rows (w W : World) (p r o : Obj) (hb : Below (((w.alloc p).alloc r).alloc o).heap.size (((w.alloc p).alloc r).alloc o) W) : W.heap[w.heap.size]? = some p ∧ W.heap[w.heap.size + 1]? = some r ∧ W.heap[w.heap.size + 1 + 1]? = some o := by
  have e1 : (w.alloc p).heap.size = w.heap.size + 1 := by rw [World.size_alloc]
  have e2 : ((w.alloc p).alloc r).heap.size = w.heap.size + 1 + 1 := by rw [World.size_alloc, World.size_alloc]
  have e3 : (((w.alloc p).alloc r).alloc o).heap.size = w.heap.size + 1 + 1 + 1 := by rw [World.size_alloc, World.size_alloc, World.size_alloc]
  refine ⟨?_, ?_, ?_⟩
  · rw [hb.block _ (by omega), heap_alloc_old _ _ (by omega), heap_alloc_old _ _ (by omega), heap_alloc_new]
  · rw [hb.block _ (by omega), heap_alloc_old _ _ (by omega), ← e1, heap_alloc_new]
  · rw [hb.block _ (by omega), ← e2, heap_alloc_new]
/-- a row of one's own is as it was behind a store into another block -/
theorem own_set {α : Type} {e : TypeId} {sz : Nat} {enc : α → List Value} {B : Nat} {W : World} {v : Value} {l : List α} (h : Own e sz enc B W v l) (g i : Nat) (u : Value) (hne : ∀ k, v.ownBlock = some k → k ≠ g) : Own e sz enc B (W.setCell ⟨g, i, none⟩ u) v l := by
  have hg : W.grownBy (W.setCell ⟨g, i, none⟩ u) (some g) := ⟨rfl, rfl, rfl, by simp, fun j hj hr => heap_setCell_other W ⟨g, i, none⟩ j u (fun e => hr (by rw [show j = g from e]))⟩
  refine own_kept h hg ?_
  cases hv : v.ownBlock with
  | none => exact .inl rfl
  | some k => exact .inr (fun e => hne k hv (Option.some.inj e))
end Recs
end Go.Proofs.YtkenmilglfnmbaaGreatDoor
namespace Go.Proofs.YtkenmilglfnmbaaGreatDoor
open Go.RowKit
set_option linter.unusedVariables false
namespace Msg

set_option maxRecDepth 100000 in
set_option maxHeartbeats 2000000 in
theorem reqOk_spec (m u : ByteArray) (v : Value) (l : List Flds.Fld) (b : ByteArray) (w : World) (h : Flds.Is w v l) (hl : Flds.bulk l ≤ 1099511627776) (hm : m.size ≤ 1099511627776) (hu : u.size ≤ 1099511627776) (hb : b.size ≤ 1099511627776) :
    Calls Tryz.prog 20 #[Req.val m u v b] w fun e w' => e = .returned (.bool (reqOk m u l b)) ∧ Below w.heap.size w w' := by
  unfold Req.val
  have HT := Num.hide (fun W => Sign.isTok_spec m W (by unfold maxLen; omega))
  have HU := Num.hide (fun W => uri_spec u W (by unfold maxLen; omega))
  obtain ⟨a, c, rfl, _⟩ := Flds.is_form h
  have hb0 := (Below.refl w.heap.size w).alloc (Nat.le_refl _) (.cells #[.string m, .string u, .slice a l.length c, .string b] 39)
  have HB0 := Num.hide hb0
  have HP := Num.hide (plain_spec (.slice a l.length c) l _ (Recs.is_stay h (Nat.le_refl _) hb0) hl)
  clear h hb0 hl
  obtain ⟨r, hr⟩ : ∃ r, reqOk m u l b = r := ⟨_, rfl⟩
  rw [hr]
  unfold reqOk at hr
  generalize Sign.isTok m = t1 at HT hr
  generalize uriOk u = t2 at HU hr
  generalize plain l = t3 at HP hr
  cases t1 with
  | false =>
    obtain rfl : false = r := by rw [← hr]; rfl
    clear hr HU HP
    go_enter Tryz.func20, Tryz.ntmps20
    go_wp2_with fail
    refine (HT.out _).mono ?_
    rintro e w1 ⟨rfl, rfl⟩
    go_wp2
    go_ret
    exact ⟨rfl, HB0.out⟩
  | true =>
    by_cases h10 : (m.size : Int) ≤ 10
    · have e10 : decide (m.size ≤ 10) = true := decide_eq_true (by omega)
      rw [e10] at hr
      clear e10
      cases t2 with
      | false =>
        obtain rfl : false = r := by rw [← hr]; rfl
        clear hr HP
        go_enter Tryz.func20, Tryz.ntmps20
        go_wp2_with fail
        refine (HT.out _).mono ?_
        rintro e w1 ⟨rfl, rfl⟩
        go_wp2_with fail
        refine (HU.out _).mono ?_
        rintro e w1 ⟨rfl, rfl⟩
        go_wp2
        go_ret
        exact ⟨rfl, HB0.out⟩
      | true =>
        cases t3 with
        | false =>
          obtain rfl : false = r := by rw [← hr]; rfl
          clear hr
          go_enter Tryz.func20, Tryz.ntmps20
          go_wp2_with fail
          refine (HT.out _).mono ?_
          rintro e w1 ⟨rfl, rfl⟩
          go_wp2_with fail
          refine (HU.out _).mono ?_
          rintro e w1 ⟨rfl, rfl⟩
          go_wp2_with fail
          refine HP.out.mono ?_
          rintro e w2 ⟨rfl, hb2⟩
          have HB2 := Num.hide (HB0.out.trans (hb2.mono HB0.out.size))
          have k3 := (hb2.cell (p := ⟨w.heap.size, 3, none⟩) (by show w.heap.size < _; rw [World.size_alloc]; omega)).trans (cell_of_row _ _ _ _ _ _ (heap_alloc_new w _))
          simp only [List.getElem?_toArray, List.getElem?_cons_succ, List.getElem?_cons_zero] at k3
          clear hb2 HP
          go_wp2
          go_ret
          exact ⟨rfl, HB2.out⟩
        | true =>
          by_cases h60 : (b.size : Int) ≤ 60
          · obtain rfl : true = r := by rw [← hr, decide_eq_true (by omega : b.size ≤ 60)]; rfl
            clear hr
            go_enter Tryz.func20, Tryz.ntmps20
            go_wp2_with fail
            refine (HT.out _).mono ?_
            rintro e w1 ⟨rfl, rfl⟩
            go_wp2_with fail
            refine (HU.out _).mono ?_
            rintro e w1 ⟨rfl, rfl⟩
            go_wp2_with fail
            refine HP.out.mono ?_
            rintro e w2 ⟨rfl, hb2⟩
            have HB2 := Num.hide (HB0.out.trans (hb2.mono HB0.out.size))
            have k3 := (hb2.cell (p := ⟨w.heap.size, 3, none⟩) (by show w.heap.size < _; rw [World.size_alloc]; omega)).trans (cell_of_row _ _ _ _ _ _ (heap_alloc_new w _))
            simp only [List.getElem?_toArray, List.getElem?_cons_succ, List.getElem?_cons_zero] at k3
            clear hb2 HP
            go_wp2
            go_ret
            exact ⟨rfl, HB2.out⟩
          · obtain rfl : false = r := by rw [← hr, decide_eq_false (by omega : ¬ b.size ≤ 60)]; rfl
            have d60 : decide ((b.size : Int) ≤ 60) = false := decide_eq_false h60
            clear hr
            go_enter Tryz.func20, Tryz.ntmps20
            go_wp2_with fail
            refine (HT.out _).mono ?_
            rintro e w1 ⟨rfl, rfl⟩
            go_wp2_with fail
            refine (HU.out _).mono ?_
            rintro e w1 ⟨rfl, rfl⟩
            go_wp2_with fail
            refine HP.out.mono ?_
            rintro e w2 ⟨rfl, hb2⟩
            have HB2 := Num.hide (HB0.out.trans (hb2.mono HB0.out.size))
            have k3 := (hb2.cell (p := ⟨w.heap.size, 3, none⟩) (by show w.heap.size < _; rw [World.size_alloc]; omega)).trans (cell_of_row _ _ _ _ _ _ (heap_alloc_new w _))
            simp only [List.getElem?_toArray, List.getElem?_cons_succ, List.getElem?_cons_zero] at k3
            clear hb2 HP
            go_wp2
            go_ret
            exact ⟨rfl, HB2.out⟩
    · obtain rfl : false = r := by rw [← hr, decide_eq_false (by omega : ¬ m.size ≤ 10)]; rfl
      have d10 : decide ((m.size : Int) ≤ 10) = false := decide_eq_false h10
      clear hr HU HP
      go_enter Tryz.func20, Tryz.ntmps20
      go_wp2_with fail
      refine (HT.out _).mono ?_
      rintro e w1 ⟨rfl, rfl⟩
      go_wp2
      go_ret
      exact ⟨rfl, HB0.out⟩
end Msg
end Go.Proofs.YtkenmilglfnmbaaGreatDoor
namespace Go.Proofs.YtkenmilglfnmbaaGreatDoor
open Go.RowKit
set_option linter.unusedVariables false
namespace Body
open Line (byteAt byteAt_eq)

theorem hx_all : ∀ k, k < 16 → hv ((Hex.hx k).toNat : Int) = (k : Int) ∧ ¬ Hex.hx k = 13 := by decide
theorem dh_val : ∀ (f u : Nat), u < 16 ^ f → f ≤ 16 → hexVal (dh u) = (u : Int) ∧ (dh u).all isHex = true ∧ (dh u).length ≤ f ∧ ∀ b ∈ dh u, ¬ b = 13 := by
  intro f
  induction f with
  | zero =>
    intro u h _
    simp only [Nat.pow_zero] at h
    obtain rfl : u = 0 := by omega
    rw [dh_zero]
    exact ⟨rfl, rfl, Nat.le_refl _, fun b hb => by cases hb⟩
  | succ f ih =>
    intro u h hf
    by_cases h0 : u = 0
    · subst h0
      rw [dh_zero]
      exact ⟨rfl, rfl, Nat.zero_le _, fun b hb => by cases hb⟩
    · have hlt : u < 16 ^ 16 := Nat.lt_of_lt_of_le h (Nat.pow_le_pow_right (by decide) hf)
      obtain ⟨h1, h2, h3, h4⟩ := ih (u / 16) (by rw [Nat.pow_succ] at h; omega) (by omega)
      obtain ⟨k1, k2⟩ := hx_all (u % 16) (by omega)
      rw [dh_step u h0 hlt]
      refine ⟨?_, ?_, ?_, ?_⟩
      · rw [hexVal_snoc, h1, k1]; omega
      · rw [List.all_append, h2, Bool.true_and]
        simp only [List.all_cons, List.all_nil, Bool.and_true]
        unfold isHex
        rw [k1]
        exact decide_eq_true (by omega)
      · rw [List.length_append, List.length_singleton]; omega
      · intro b hb
        rcases List.mem_append.1 hb with h5 | h5
        · exact h4 b h5
        · rw [List.mem_singleton.1 h5]; exact k2
theorem dh_pos (u : Nat) (h0 : u ≠ 0) (h : u < 16 ^ 16) : 1 ≤ (dh u).length := by rw [dh_step u h0 h, List.length_append, List.length_singleton]; omega
/-- the digits of a number from 0 to 16777215 -/
theorem hexL_all (n : Nat) (h : n < 16777216) : hexVal (hexL (n : Int)) = (n : Int) ∧ (hexL (n : Int)).all isHex = true ∧ 1 ≤ (hexL (n : Int)).length ∧ (hexL (n : Int)).length ≤ 6 ∧ ∀ b ∈ hexL (n : Int), ¬ b = 13 := by
  unfold hexL
  rw [if_neg (by omega)]
  by_cases h0 : (n : Int) = 0
  · rw [if_pos h0]
    obtain rfl : n = 0 := by omega
    exact ⟨by decide, by decide, by decide, by decide, by decide⟩
  · rw [if_neg h0, Int.toNat_natCast]
    obtain ⟨h1, h2, h3, h4⟩ := dh_val 6 n (by omega) (by omega)
    exact ⟨h1, h2, dh_pos n (by omega) (by omega), h3, h4⟩
theorem readHex_hex (n : Nat) (h : n < 16777216) : readHex (hexNum (n : Int)) = some (n : Int) := by
  obtain ⟨h1, h2, h3, h4, _⟩ := hexL_all n h
  have e : (hexNum (n : Int)).data.toList = hexL (n : Int) := by unfold hexNum; rw [List.toList_toArray]
  have e2 : (hexNum (n : Int)).size = (hexL (n : Int)).length := by rw [← e, Array.length_toList]; rfl
  unfold readHex
  rw [if_pos ⟨by rw [e]; exact h2, by omega, by omega⟩, e, h1]
/-- the digits of at most 60: one or two -/
theorem hexL_two (n : Nat) (h : n ≤ 60) : (hexL (n : Int)).length ≤ 2 := by
  have : ∀ n : Nat, n ≤ 60 → (hexL (n : Int)).length ≤ 2 := by decide +kernel
  exact this n h
theorem byteAt_of (T : ByteArray) (p : List UInt8) (b : UInt8) (q : List UInt8) (h : T.data.toList = p ++ b :: q) : byteAt T p.length = b.toNat := by
  have hl : T.data.toList.length = T.size := by rw [Array.length_toList]; rfl
  have hlt : p.length < T.size := by rw [← hl, h]; simp
  rw [byteAt_eq T _ hlt]
  congr 1
  have : T.data.toList[p.length]'(by omega) = b := by simp [h]
  exact this
theorem extract_mid (T : ByteArray) (p t q : List UInt8) (h : T.data.toList = p ++ (t ++ q)) : T.extract p.length (p.length + t.length) = ⟨t.toArray⟩ := by
  apply ByteArray.ext
  apply Array.toList_inj.1
  rw [ByteArray.data_extract, Array.toList_extract, List.extract_eq_drop_take', h]
  rw [List.take_append, List.drop_append]
  simp
theorem size_list (T : ByteArray) : T.size = T.data.toList.length := by rw [Array.length_toList]; rfl
/-- one piece -/
theorem un_piece (T : ByteArray) (p t q : List UInt8) (out : ByteArray) (f : Nat) (n : Nat) (hn : t.length = n) (h60 : out.size + n ≤ 60)
    (hT : T.data.toList = p ++ (hexL (n : Int) ++ 13 :: 10 :: (t ++ 13 :: 10 :: q))) :
    unF T (f + 1) p.length out = if (n : Int) = 0 then (out ++ ⟨t.toArray⟩, ((p ++ hexL (n : Int) ++ [13, 10] ++ t ++ [13, 10]).length : Int), 0) else unF T f (p ++ hexL (n : Int) ++ [13, 10] ++ t ++ [13, 10]).length (out ++ ⟨t.toArray⟩) := by
  obtain ⟨_, _, _, _, h13⟩ := hexL_all n (by omega)
  obtain ⟨he, hx⟩ := Line.eol_line T p (hexL (n : Int)) _ hT h13
  have hr := readHex_hex n (by omega)
  have hsz := size_list T
  rw [hT] at hsz
  simp only [List.length_append, List.length_cons] at hsz
  have e1 : p.length + (hexL (n : Int)).length + 2 = (p ++ hexL (n : Int) ++ [13, 10]).length := by simp only [List.length_append, List.length_cons, List.length_nil]
  have e2 : p.length + (hexL (n : Int)).length + 2 + n = (p ++ hexL (n : Int) ++ [13, 10] ++ t).length := by simp only [List.length_append, List.length_cons, List.length_nil]; omega
  have e3 : p.length + (hexL (n : Int)).length + 2 + n + 1 = (p ++ hexL (n : Int) ++ [13, 10] ++ t ++ [13]).length := by simp only [List.length_append, List.length_cons, List.length_nil]; omega
  have e4 : p.length + (hexL (n : Int)).length + 2 + n + 2 = (p ++ hexL (n : Int) ++ [13, 10] ++ t ++ [13, 10]).length := by simp only [List.length_append, List.length_cons, List.length_nil]; omega
  have b1 : byteAt T (p.length + (hexL (n : Int)).length + 2 + n) = 13 := by rw [e2]; exact byteAt_of T _ 13 (10 :: q) (by rw [hT]; simp)
  have b2 : byteAt T (p.length + (hexL (n : Int)).length + 2 + n + 1) = 10 := by rw [e3]; exact byteAt_of T _ 10 q (by rw [hT]; simp)
  have ex : T.extract (p.length + (hexL (n : Int)).length + 2) (p.length + (hexL (n : Int)).length + 2 + n) = ⟨t.toArray⟩ := by
    have h := extract_mid T (p ++ hexL (n : Int) ++ [13, 10]) t (13 :: 10 :: q) (by rw [hT]; simp)
    rw [hn, ← e1] at h
    exact h
  rw [unF, he]
  simp only
  rw [hx, show (⟨(hexL (n : Int)).toArray⟩ : ByteArray) = hexNum (n : Int) from rfl, hr]
  simp only [Int.toNat_natCast]
  rw [if_neg (by omega), if_neg (by omega), if_pos ⟨b1, b2⟩, ex, e4]
/-- all pieces, and the end -/
theorem un_all (T : ByteArray) (z : Nat) (hz : 1 ≤ z) (q : List UInt8) : ∀ (k : Nat) (l : List UInt8) (p : List UInt8) (out : ByteArray) (f : Nat), l.length ≤ k → l.length + 1 ≤ f → out.size + l.length ≤ 60 →
    T.data.toList = p ++ (chunkL z l ++ [48, 13, 10, 13, 10] ++ q) → unF T f p.length out = (out ++ ⟨l.toArray⟩, ((p ++ chunkL z l ++ [48, 13, 10, 13, 10]).length : Int), 0) := by
  intro k
  induction k with
  | zero =>
    intro l p out f hk hf h60 hT
    obtain rfl : l = [] := List.eq_nil_of_length_eq_zero (by omega)
    obtain ⟨f, rfl⟩ : ∃ g, f = g + 1 := ⟨f - 1, by omega⟩
    rw [un_piece T p [] q out f 0 rfl (by simpa using h60) (by rw [hT, chunkL_nil]; rfl), if_pos (show ((0 : Nat) : Int) = 0 from rfl)]
    simp [chunkL_nil, hexL]
  | succ k ih =>
    intro l p out f hk hf h60 hT
    by_cases h0 : l = []
    · subst h0
      obtain ⟨f, rfl⟩ : ∃ g, f = g + 1 := ⟨f - 1, by omega⟩
      rw [un_piece T p [] q out f 0 rfl (by simpa using h60) (by rw [hT, chunkL_nil]; rfl), if_pos (show ((0 : Nat) : Int) = 0 from rfl)]
      simp [chunkL_nil, hexL]
    · have hl : 0 < l.length := List.length_pos_iff.2 h0
      obtain ⟨f, rfl⟩ : ∃ g, f = g + 1 := ⟨f - 1, by omega⟩
      have hs := chunkL_step z hz l h0
      obtain ⟨n, hn⟩ : ∃ n, min z l.length = n := ⟨_, rfl⟩
      rw [hn] at hs
      have ht : (l.take n).length = n := by rw [List.length_take]; omega
      have hd : (l.drop n).length = l.length - n := List.length_drop
      rw [hs] at hT
      rw [un_piece T p (l.take n) (chunkL z (l.drop n) ++ [48, 13, 10, 13, 10] ++ q) out f n ht (by omega) (by rw [hT]; simp), if_neg (by omega)]
      rw [ih (l.drop n) _ (out ++ ⟨(l.take n).toArray⟩) f (by omega) (by omega) (by rw [ByteArray.size_append]; have : (⟨(l.take n).toArray⟩ : ByteArray).size = n := by show (l.take n).toArray.size = n; rw [List.size_toArray]; exact ht
                                                                                    omega) (by rw [hT]; simp)]
      rw [hs]
      have e1 : out ++ ⟨(l.take n).toArray⟩ ++ ⟨(l.drop n).toArray⟩ = out ++ ⟨l.toArray⟩ := by
        rw [ByteArray.append_assoc]
        congr 1
        apply ByteArray.ext
        apply Array.toList_inj.1
        simp
      rw [e1]
      simp
theorem unchunk_chunk (s : ByteArray) (z : Int) (q : ByteArray) (hz : 1 ≤ z) (hs : s.size ≤ 60) : unchunk (chunk s z ++ q) = (s, ((chunk s z).size : Int), 0) := by
  obtain ⟨Z, rfl⟩ : ∃ Z : Nat, z = (Z : Int) := ⟨z.toNat, by omega⟩
  have hc : chunk s (Z : Int) = ⟨(chunkL Z s.data.toList ++ [48, 13, 10, 13, 10]).toArray⟩ := by unfold chunk; rw [if_neg (by omega)]; rfl
  have hsl := size_list s
  have hT : (chunk s (Z : Int) ++ q).data.toList = [] ++ (chunkL Z s.data.toList ++ [48, 13, 10, 13, 10] ++ q.data.toList) := by rw [hc]; simp
  have hlen : s.size ≤ (chunk s (Z : Int) ++ q).size := by
    have key : ∀ (f : Nat) (l : List UInt8), l.length ≤ f → l.length ≤ (chF Z f l).length := by
      intro f
      induction f with
      | zero => intro l h; omega
      | succ f ih =>
        intro l h
        rw [chF]
        split
        · next h0 => subst h0; exact Nat.le_refl _
        · next h0 =>
          have hl : 0 < l.length := List.length_pos_iff.2 h0
          have h2 := ih (l.drop (min Z l.length)) (by rw [List.length_drop]; omega)
          rw [List.length_drop] at h2
          simp only [List.length_append, List.length_take, List.length_cons, List.length_nil]
          omega
    have h1 := key _ s.data.toList (Nat.le_refl _)
    have h2 := size_list (chunk s (Z : Int) ++ q)
    rw [hT] at h2
    simp only [List.nil_append, List.length_append] at h2
    unfold chunkL at h2
    omega
  unfold unchunk
  have := un_all (chunk s (Z : Int) ++ q) Z (by omega) q.data.toList s.size s.data.toList [] ⟨#[]⟩ ((chunk s (Z : Int) ++ q).size + 1) (by omega) (by omega) (by show 0 + _ ≤ 60; omega) hT
  rw [List.length_nil] at this
  rw [this]
  have e1 : (⟨#[]⟩ : ByteArray) ++ ⟨s.data.toList.toArray⟩ = s := by apply ByteArray.ext; simp
  have e2 : (chunk s (Z : Int)).size = ([] ++ chunkL Z s.data.toList ++ [48, 13, 10, 13, 10]).length := by rw [size_list, hc]; simp
  rw [e1, e2]
theorem index_no (u : List UInt8) (h : ∀ b ∈ u, ¬ b = 13) : Lib.index u [13, 10] = -1 ∧ Lib.index (u ++ [13]) [13, 10] = -1 := by
  induction u with
  | nil => exact ⟨by decide, by decide⟩
  | cons b u ih =>
    have hb : ¬ b = 13 := h b (List.mem_cons_self ..)
    obtain ⟨h1, h2⟩ := ih (fun c hc => h c (List.mem_cons_of_mem _ hc))
    have hp : ∀ r, ¬ ([13, 10] : List UInt8).isPrefixOf (b :: r) = true := by
      intro r hr
      simp only [List.isPrefixOf, Bool.and_eq_true, beq_iff_eq] at hr
      exact hb hr.1.symm
    constructor
    · rw [Lib.index, if_neg (hp _), h1]; rfl
    · rw [List.cons_append, Lib.index, if_neg (hp _), h2]; rfl
theorem eol_no (T : ByteArray) (p u : List UInt8) (hT : T.data.toList = p ++ u) (h : Lib.index u [13, 10] = -1) : Line.eol T p.length = none := by
  have hi := Line.index_eolGo T _ p.length rfl
  rw [hT, List.drop_left, h] at hi
  show Line.eolGo T _ _ = none
  cases he : Line.eolGo T (T.size - p.length) p.length with
  | none => rfl
  | some k =>
    rw [he] at hi
    have := Line.eolGo_in T _ _ _ he
    unfold Line.eolI at hi
    simp only at hi
    omega
/-- a piece that is cut -/
theorem un_cut (T : ByteArray) (p r : List UInt8) (out : ByteArray) (f : Nat) (n : Nat) (h60 : out.size + n ≤ 60) (K : Nat) (hK : K < (hexL (n : Int)).length + 2 + n + 2)
    (hT : T.data.toList = p ++ (hexL (n : Int) ++ 13 :: 10 :: r).take K) (hr : n + 2 ≤ r.length) : unF T (f + 1) p.length out = more := by
  obtain ⟨_, _, _, _, h13⟩ := hexL_all n (by omega)
  have h2 := hexL_two n (by omega)
  have hsz := size_list T
  rw [hT] at hsz
  simp only [List.length_append, List.length_take, List.length_cons] at hsz
  by_cases hk : K ≤ (hexL (n : Int)).length + 1
  · have he : Line.eol T p.length = none := by
      apply eol_no T p _ hT
      by_cases hk2 : K ≤ (hexL (n : Int)).length
      · rw [List.take_append_of_le_length hk2]
        exact (index_no _ (fun b hb => h13 b (List.mem_of_mem_take hb))).1
      · obtain rfl : K = (hexL (n : Int)).length + 1 := by omega
        have e : (hexL (n : Int) ++ 13 :: 10 :: r).take ((hexL (n : Int)).length + 1) = hexL (n : Int) ++ [13] := by
          rw [List.take_append, List.take_of_length_le (by omega)]; simp
        rw [e]
        exact (index_no _ h13).2
    rw [unF, he]
    simp only
    rw [if_neg (by omega)]
  · have e : (hexL (n : Int) ++ 13 :: 10 :: r).take K = hexL (n : Int) ++ 13 :: 10 :: r.take (K - (hexL (n : Int)).length - 2) := by
      rw [List.take_append]
      obtain ⟨m, hm⟩ : ∃ m, K - (hexL (n : Int)).length = m + 2 := ⟨K - (hexL (n : Int)).length - 2, by omega⟩
      rw [hm, List.take_of_length_le (by omega)]
      simp
    rw [e] at hT
    obtain ⟨he, hx⟩ := Line.eol_line T p (hexL (n : Int)) _ hT h13
    have hrd := readHex_hex n (by omega)
    rw [unF, he]
    simp only
    rw [hx, show (⟨(hexL (n : Int)).toArray⟩ : ByteArray) = hexNum (n : Int) from rfl, hrd]
    simp only [Int.toNat_natCast]
    rw [if_neg (by omega), if_pos (by omega)]
/-- of a beginning more is wanted -/
theorem un_pre (T : ByteArray) (z : Nat) (hz : 1 ≤ z) : ∀ (k : Nat) (l : List UInt8) (p : List UInt8) (out : ByteArray) (f K : Nat), l.length ≤ k → K + 1 ≤ f → out.size + l.length ≤ 60 →
    K < (chunkL z l).length + 5 → T.data.toList = p ++ (chunkL z l ++ [48, 13, 10, 13, 10]).take K → unF T f p.length out = more := by
  intro k
  induction k with
  | zero =>
    intro l p out f K hk hf h60 hK hT
    obtain rfl : l = [] := List.eq_nil_of_length_eq_zero (by omega)
    obtain ⟨f, rfl⟩ : ∃ g, f = g + 1 := ⟨f - 1, by omega⟩
    rw [chunkL_nil] at hK hT
    exact un_cut T p [13, 10] out f 0 (by simpa using h60) K (by simp [hexL] at hK ⊢; omega) (by rw [hT]; rfl) (by decide)
  | succ k ih =>
    intro l p out f K hk hf h60 hK hT
    obtain ⟨f, rfl⟩ : ∃ g, f = g + 1 := ⟨f - 1, by omega⟩
    by_cases h0 : l = []
    · subst h0
      rw [chunkL_nil] at hK hT
      exact un_cut T p [13, 10] out f 0 (by simpa using h60) K (by simp [hexL] at hK ⊢; omega) (by rw [hT]; rfl) (by decide)
    · have hl : 0 < l.length := List.length_pos_iff.2 h0
      have hs := chunkL_step z hz l h0
      obtain ⟨n, hn⟩ : ∃ n, min z l.length = n := ⟨_, rfl⟩
      rw [hn] at hs
      have ht : (l.take n).length = n := by rw [List.length_take]; omega
      have hd : (l.drop n).length = l.length - n := List.length_drop
      have hfm : chunkL z l ++ [48, 13, 10, 13, 10] = hexL (n : Int) ++ 13 :: 10 :: (l.take n ++ 13 :: 10 :: (chunkL z (l.drop n) ++ [48, 13, 10, 13, 10])) := by rw [hs]; simp
      by_cases hc : K < (hexL (n : Int)).length + 2 + n + 2
      · rw [hfm] at hT
        exact un_cut T p _ out f n (by omega) K hc hT (by simp only [List.length_append, List.length_cons, ht]; omega)
      · obtain ⟨m, hm⟩ : ∃ m, K = (hexL (n : Int)).length + 2 + n + 2 + m := ⟨K - ((hexL (n : Int)).length + 2 + n + 2), by omega⟩
        have hfm2 : (chunkL z l ++ [48, 13, 10, 13, 10]).take K = hexL (n : Int) ++ 13 :: 10 :: (l.take n ++ 13 :: 10 :: (chunkL z (l.drop n) ++ [48, 13, 10, 13, 10]).take m) := by
          have hsplit : chunkL z l ++ [48, 13, 10, 13, 10] = (hexL (n : Int) ++ [13, 10] ++ l.take n ++ [13, 10]) ++ (chunkL z (l.drop n) ++ [48, 13, 10, 13, 10]) := by rw [hs]; simp
          have hlen : (hexL (n : Int) ++ [13, 10] ++ l.take n ++ [13, 10]).length = (hexL (n : Int)).length + 2 + n + 2 := by simp only [List.length_append, List.length_cons, List.length_nil, ht]
          rw [hsplit, List.take_append, List.take_of_length_le (by omega), hlen, show K - ((hexL (n : Int)).length + 2 + n + 2) = m by omega]
          simp
        rw [hfm2] at hT
        have hpl := un_piece T p (l.take n) ((chunkL z (l.drop n) ++ [48, 13, 10, 13, 10]).take m) out f n ht (by omega) hT
        rw [if_neg (by omega)] at hpl
        rw [hpl]
        have hKm : m < (chunkL z (l.drop n)).length + 5 := by
          rw [hs] at hK
          simp only [List.length_append, List.length_cons, List.length_nil, ht] at hK
          omega
        refine ih (l.drop n) (p ++ hexL (n : Int) ++ [13, 10] ++ l.take n ++ [13, 10]) (out ++ ⟨(l.take n).toArray⟩) f m (by omega) (by omega) ?_ hKm (by rw [hT]; simp only [List.append_assoc, List.cons_append, List.nil_append])
        rw [ByteArray.size_append]
        have : (⟨(l.take n).toArray⟩ : ByteArray).size = n := by show (l.take n).toArray.size = n; rw [List.size_toArray]; exact ht
        omega
theorem unchunk_pre (s : ByteArray) (z : Int) (K : Nat) (hz : 1 ≤ z) (hs : s.size ≤ 60) (hK : K < (chunk s z).size) : unchunk ((chunk s z).extract 0 K) = more := by
  obtain ⟨Z, rfl⟩ : ∃ Z : Nat, z = (Z : Int) := ⟨z.toNat, by omega⟩
  have hc : chunk s (Z : Int) = ⟨(chunkL Z s.data.toList ++ [48, 13, 10, 13, 10]).toArray⟩ := by unfold chunk; rw [if_neg (by omega)]; rfl
  have hsl := size_list s
  have hcl : (chunk s (Z : Int)).size = (chunkL Z s.data.toList).length + 5 := by rw [size_list, hc]; simp
  have hT : ((chunk s (Z : Int)).extract 0 K).data.toList = [] ++ (chunkL Z s.data.toList ++ [48, 13, 10, 13, 10]).take K := by
    rw [ByteArray.data_extract, Array.toList_extract, List.extract_eq_drop_take', hc]; simp
  have hTs : ((chunk s (Z : Int)).extract 0 K).size = K := by rw [ByteArray.size_extract]; omega
  have h := un_pre ((chunk s (Z : Int)).extract 0 K) Z (by omega) s.size s.data.toList [] ⟨#[]⟩ (K + 1) K (by omega) (by omega) (by show 0 + _ ≤ 60; omega) (by omega) hT
  unfold unchunk
  rw [hTs]
  exact h
end Body
end Go.Proofs.YtkenmilglfnmbaaGreatDoor
