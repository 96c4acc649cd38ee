/-
  HexNum: The digits, and the text of two digits for each byte.
  BodyNum: Numbers in sixteen digits, and bodies in pieces, plain.
  UnchunkNum: Bodies in pieces, read, plain.
  BodyDef: Where a body ends, plain.
  UriNum: What a target looks like, plain.
  ReasonNum: The words of a status, plain.
  WordsNum: A line parted at its first two blanks; whether a message's line and fields are there: plain.
-/
import Derived.Test.YtjeokackmkfooaaGreatDoorNum
import Derived.Lib.Strings
import Derived.Test.YtjeokackmkfooaaGreatDoorPaa
import Derived.Test.YtjeokackmkfooaaGreatDoorPad
import Derived.Test.YtjeokackmkfooaaGreatDoorLowerNum
import Derived.Test.YtjeokackmkfooaaGreatDoorSignNum
namespace Go.Proofs.YtjeokackmkfooaaGreatDoor
open Go.RowKit
set_option linter.unusedVariables false
namespace Hex

/-- the sixteen digits -/
def digits : ByteArray := ⟨#[48, 49, 50, 51, 52, 53, 54, 55, 56, 57, 97, 98, 99, 100, 101, 102]⟩
def hx (k : Nat) : UInt8 := digits.data.toList.getD k 0
theorem digit_at (k : Nat) (h : k < 16) : (⟨#[48, 49, 50, 51, 52, 53, 54, 55, 56, 57, 97, 98, 99, 100, 101, 102]⟩ : ByteArray)[k]'h = hx k := by
  have hs : k < digits.data.toList.length := h
  simp only [hx, List.getD_eq_getElem?_getD, List.getElem?_eq_getElem hs, Option.getD_some, Array.getElem_toList]
  rfl
/-- two digits for each byte -/
def hex : List UInt8 → List UInt8
  | [] => []
  | c :: l => hx (c.toNat / 16) :: hx (c.toNat % 16) :: hex l
theorem hex_append (a b : List UInt8) : hex (a ++ b) = hex a ++ hex b := by
  induction a with
  | nil => rfl
  | cons c a ih => simp [hex, ih]
theorem length_hex (l : List UInt8) : (hex l).length = 2 * l.length := by
  induction l with
  | nil => rfl
  | cons c l ih => simp [hex, ih]; omega
theorem hex_take (s : ByteArray) (k : Nat) (h : k < s.size) : hex (s.data.toList.take (k + 1)) = hex (s.data.toList.take k) ++ [hx (s[k].toNat / 16), hx (s[k].toNat % 16)] := by
  rw [Num.take_snoc s k h, hex_append]; rfl
theorem length_hex_take (s : ByteArray) (k : Nat) (h : k ≤ s.size) : (hex (s.data.toList.take k)).length = 2 * k := by
  rw [length_hex, List.length_take, Array.length_toList]; have : s.data.size = s.size := rfl; omega
end Hex
end Go.Proofs.YtjeokackmkfooaaGreatDoor
namespace Go.Proofs.YtjeokackmkfooaaGreatDoor
set_option linter.unusedVariables false
namespace Body

/-- the digits of a number, none of 0 -/
def hexF : Nat → Nat → List UInt8
  | 0, _ => []
  | f + 1, u => if u = 0 then [] else hexF f (u / 16) ++ [Hex.hx (u % 16)]
theorem hexF_more : ∀ (f u : Nat), u < 16 ^ f → hexF (f + 1) u = hexF f u := by
  intro f
  induction f with
  | zero =>
    intro u h
    simp only [Nat.pow_zero] at h
    obtain rfl : u = 0 := by omega
    rfl
  | succ f ih =>
    intro u h
    rw [hexF]
    conv => rhs; rw [hexF]
    by_cases h0 : u = 0
    · rw [if_pos h0, if_pos h0]
    · rw [if_neg h0, if_neg h0, ih (u / 16) (by rw [Nat.pow_succ] at h; omega)]
def dh (u : Nat) : List UInt8 := hexF 16 u
theorem dh_zero : dh 0 = [] := rfl
theorem dh_step (u : Nat) (h0 : u ≠ 0) (h : u < 16 ^ 16) : dh u = dh (u / 16) ++ [Hex.hx (u % 16)] := by
  show hexF 16 u = hexF 16 (u / 16) ++ _
  rw [show hexF 16 u = hexF 15 (u / 16) ++ [Hex.hx (u % 16)] from if_neg h0, hexF_more 15 (u / 16) (by rw [Nat.pow_succ] at h; omega)]
theorem hexF_len : ∀ (f u : Nat), (hexF f u).length ≤ f := by
  intro f
  induction f with
  | zero => intro u; exact Nat.le_refl _
  | succ f ih =>
    intro u
    rw [hexF]
    split
    · exact Nat.zero_le _
    · rw [List.length_append, List.length_singleton]; have := ih (u / 16); omega
theorem dh_len (u : Nat) : (dh u).length ≤ 16 := hexF_len 16 u
/-- a number in sixteen digits -/
def hexL (n : Int) : List UInt8 := if n < 0 then [] else if n = 0 then [48] else dh n.toNat
def hexNum (n : Int) : ByteArray := ⟨(hexL n).toArray⟩
theorem hexNum_size (n : Int) : (hexNum n).size ≤ 16 := by
  show (hexL n).toArray.size ≤ 16
  rw [List.size_toArray]
  unfold hexL
  split
  · exact Nat.zero_le _
  · split
    · decide
    · exact dh_len _
/-- what a digit counts; -1 where it is none -/
def hv (c : Int) : Int := if 48 ≤ c ∧ c ≤ 57 then c - 48 else if 97 ≤ c ∧ c ≤ 102 then c - 97 + 10 else if 65 ≤ c ∧ c ≤ 70 then c - 65 + 10 else -1
def isHex (b : UInt8) : Bool := decide (0 ≤ hv (b.toNat : Int))
def hexVal (l : List UInt8) : Int := l.foldl (fun n b => n * 16 + hv (b.toNat : Int)) 0
theorem hexVal_snoc (l : List UInt8) (b : UInt8) : hexVal (l ++ [b]) = hexVal l * 16 + hv (b.toNat : Int) := by unfold hexVal; rw [List.foldl_append]; rfl
theorem hv_bd (c : Int) : -1 ≤ hv c ∧ hv c ≤ 15 := by unfold hv; split; omega; split; omega; split; omega; omega
theorem hexVal_bd (l : List UInt8) (h : l.all isHex = true) : 0 ≤ hexVal l ∧ hexVal l < 16 ^ l.length := by
  revert h
  refine Num.snoc_ind (P := fun l => l.all isHex = true → 0 ≤ hexVal l ∧ hexVal l < 16 ^ l.length) (fun _ => by decide) ?_ l
  intro l b ih h
  rw [List.all_append, Bool.and_eq_true] at h
  have h1 := ih h.1
  have h2 : 0 ≤ hv (b.toNat : Int) := by have := h.2; simp [isHex] at this; exact this
  have h3 := hv_bd (b.toNat : Int)
  rw [hexVal_snoc, List.length_append, List.length_singleton, Int.pow_succ]
  omega
theorem hexVal_six (l : List UInt8) (h : l.all isHex = true) (hl : l.length ≤ 6) : 0 ≤ hexVal l ∧ hexVal l ≤ 16777215 := by
  have h1 := hexVal_bd l h
  have hp : (16 : Int) ^ l.length ≤ 16777216 := by
    generalize l.length = n at hl
    match n, hl with
    | 0, _ => decide
    | 1, _ => decide
    | 2, _ => decide
    | 3, _ => decide
    | 4, _ => decide
    | 5, _ => decide
    | 6, _ => decide
  omega
/-- the number of one to six such digits -/
def readHex (s : ByteArray) : Option Int := if s.data.toList.all isHex = true ∧ 1 ≤ s.size ∧ s.size ≤ 6 then some (hexVal s.data.toList) else none
def rhN (s : ByteArray) : Int := (readHex s).getD 0
def rhB (s : ByteArray) : Bool := (readHex s).isSome
theorem hexVal_take (s : ByteArray) (k : Nat) (h : k < s.size) : hexVal (s.data.toList.take (k + 1)) = hexVal (s.data.toList.take k) * 16 + hv ((s[k]).toNat : Int) := by
  rw [Num.take_snoc s k h, hexVal_snoc]
theorem rh_none {s : ByteArray} (h : readHex s = none) : rhN s = 0 ∧ rhB s = false := by unfold rhN rhB; rw [h]; exact ⟨rfl, rfl⟩
theorem rh_bad (s : ByteArray) (k : Nat) (h : k < s.size) (hb : hv ((s[k]).toNat : Int) = -1) : readHex s = none := by
  unfold readHex
  rw [if_neg]
  rintro ⟨h1, _⟩
  rw [List.all_eq_true] at h1
  have := h1 s[k] (by rw [show s[k] = s.data.toList[k]'(by simpa using h) from rfl]; exact List.getElem_mem _)
  unfold isHex at this
  rw [hb] at this
  cases this
/-- pieces of at most so many bytes -/
def chF (z : Nat) : Nat → List UInt8 → List UInt8
  | 0, _ => []
  | f + 1, l => if l = [] then [] else hexL (min z l.length : Nat) ++ [13, 10] ++ l.take (min z l.length) ++ [13, 10] ++ chF z f (l.drop (min z l.length))
def chunkL (z : Nat) (l : List UInt8) : List UInt8 := chF z l.length l
theorem chF_nil (z f : Nat) : chF z f [] = [] := by cases f <;> simp [chF]
theorem chF_enough (z : Nat) (hz : 1 ≤ z) : ∀ (f g : Nat) (l : List UInt8), l.length ≤ f → l.length ≤ g → chF z f l = chF z g l := by
  intro f
  induction f with
  | zero =>
    intro g l h1 h2
    obtain rfl : l = [] := List.eq_nil_of_length_eq_zero (by omega)
    rw [chF_nil, chF_nil]
  | succ f ih =>
    intro g l h1 h2
    by_cases h0 : l = []
    · subst h0
      rw [chF_nil, chF_nil]
    · have hl : 0 < l.length := List.length_pos_iff.2 h0
      obtain ⟨g, rfl⟩ : ∃ g', g = g' + 1 := ⟨g - 1, by omega⟩
      rw [chF, if_neg h0, chF, if_neg h0, ih g _ (by rw [List.length_drop]; omega) (by rw [List.length_drop]; omega)]
theorem chunkL_step (z : Nat) (hz : 1 ≤ z) (l : List UInt8) (h : l ≠ []) : chunkL z l = hexL (min z l.length : Nat) ++ [13, 10] ++ l.take (min z l.length) ++ [13, 10] ++ chunkL z (l.drop (min z l.length)) := by
  have hl : 0 < l.length := List.length_pos_iff.2 h
  unfold chunkL
  obtain ⟨f, hf⟩ : ∃ f, l.length = f + 1 := ⟨l.length - 1, by omega⟩
  rw [show chF z l.length l = chF z (f + 1) l by rw [hf], chF, if_neg h]
  congr 1
  exact chF_enough z hz _ _ _ (by rw [List.length_drop]; omega) (Nat.le_refl _)
theorem chunkL_nil (z : Nat) : chunkL z [] = [] := rfl
theorem hexL_len (n : Int) : (hexL n).length ≤ 16 := by
  have := hexNum_size n
  have e : (hexNum n).size = (hexL n).length := by show (hexL n).toArray.size = _; rw [List.size_toArray]
  omega
theorem chF_len (z : Nat) (hz : 1 ≤ z) : ∀ (f : Nat) (l : List UInt8), (chF z f l).length ≤ 21 * l.length := by
  intro f
  induction f with
  | zero => intro l; exact Nat.zero_le _
  | succ f ih =>
    intro l
    rw [chF]
    split
    · exact Nat.zero_le _
    · next h =>
      have hl : 0 < l.length := List.length_pos_iff.2 h
      have h1 := hexL_len (min z l.length : Nat)
      have h2 := ih (l.drop (min z l.length))
      rw [List.length_drop] at h2
      simp only [List.length_append, List.length_take, List.length_cons, List.length_nil]
      omega
theorem chunkL_len (z : Nat) (hz : 1 ≤ z) (l : List UInt8) : (chunkL z l).length ≤ 21 * l.length := chF_len z hz _ l
/-- a text in pieces, and the end -/
def chunk (s : ByteArray) (z : Int) : ByteArray := if z < 1 then ⟨#[]⟩ else ⟨(chunkL z.toNat s.data.toList ++ [48, 13, 10, 13, 10]).toArray⟩
end Body
end Go.Proofs.YtjeokackmkfooaaGreatDoor
namespace Go.Proofs.YtjeokackmkfooaaGreatDoor
open Go.RowKit
set_option linter.unusedVariables false
namespace Body
open Line (byteAt byteAt_eq)

/-- what is told: the text, how many bytes, and the code -/
abbrev Told := ByteArray × Int × Int
def bad : Told := (⟨#[]⟩, 0, 2)
def more : Told := (⟨#[]⟩, 0, 1)
/-- what is read from 'a' on behind 'out', in at most so many pieces -/
def unF (s : ByteArray) : Nat → Nat → ByteArray → Told
  | 0, _, _ => bad
  | f + 1, a, out =>
    match Line.eol s a with
    | none => if 8 < s.size - a then bad else more
    | some i =>
      match readHex (s.extract a i) with
      | none => bad
      | some n =>
        if 60 < out.size + n.toNat then bad
        else if s.size < i + 2 + n.toNat + 2 then more
        else if byteAt s (i + 2 + n.toNat) = 13 ∧ byteAt s (i + 2 + n.toNat + 1) = 10 then
          if n = 0 then (out ++ s.extract (i + 2) (i + 2 + n.toNat), ((i + 2 + n.toNat + 2 : Nat) : Int), 0)
          else unF s f (i + 2 + n.toNat + 2) (out ++ s.extract (i + 2) (i + 2 + n.toNat))
        else bad
def unchunk (s : ByteArray) : Told := unF s (s.size + 1) 0 ⟨#[]⟩
/-- where the reading stands -/
structure UnAt (s : ByteArray) (a : Nat) (out : ByteArray) : Prop where
  le : a ≤ s.size
  small : out.size ≤ 60
  same : ∃ f, s.size + 1 ≤ f + a ∧ unchunk s = unF s f a out
theorem un_start (s : ByteArray) : UnAt s 0 ⟨#[]⟩ := ⟨Nat.zero_le _, by decide, s.size + 1, by omega, rfl⟩
section
variable {s : ByteArray} {a : Nat} {out : ByteArray}
theorem un_step (h : UnAt s a out) : ∃ f, s.size ≤ f + a ∧ unchunk s = unF s (f + 1) a out := by
  obtain ⟨f, h1, h2⟩ := h.same
  have := h.le
  exact ⟨f - 1, by omega, by rw [show f - 1 + 1 = f by omega]; exact h2⟩
theorem un_long (h : UnAt s a out) (he : Line.eol s a = none) (hl : 8 < s.size - a) : unchunk s = bad := by
  obtain ⟨f, _, h2⟩ := un_step h
  rw [h2, unF, he]; simp only; rw [if_pos hl]
theorem un_more (h : UnAt s a out) (he : Line.eol s a = none) (hl : ¬ 8 < s.size - a) : unchunk s = more := by
  obtain ⟨f, _, h2⟩ := un_step h
  rw [h2, unF, he]; simp only; rw [if_neg hl]
theorem un_nohex (h : UnAt s a out) {i : Nat} (he : Line.eol s a = some i) (hx : readHex (s.extract a i) = none) : unchunk s = bad := by
  obtain ⟨f, _, h2⟩ := un_step h
  rw [h2, unF, he]; simp only; rw [hx]
theorem un_great (h : UnAt s a out) {i : Nat} {n : Int} (he : Line.eol s a = some i) (hx : readHex (s.extract a i) = some n) (hg : 60 < out.size + n.toNat) : unchunk s = bad := by
  obtain ⟨f, _, h2⟩ := un_step h
  rw [h2, unF, he]; simp only; rw [hx]; simp only; rw [if_pos hg]
theorem un_short (h : UnAt s a out) {i : Nat} {n : Int} (he : Line.eol s a = some i) (hx : readHex (s.extract a i) = some n) (hg : ¬ 60 < out.size + n.toNat) (hs : s.size < i + 2 + n.toNat + 2) : unchunk s = more := by
  obtain ⟨f, _, h2⟩ := un_step h
  rw [h2, unF, he]; simp only; rw [hx]; simp only; rw [if_neg hg, if_pos hs]
theorem un_noend (h : UnAt s a out) {i : Nat} {n : Int} (he : Line.eol s a = some i) (hx : readHex (s.extract a i) = some n) (hg : ¬ 60 < out.size + n.toNat) (hs : ¬ s.size < i + 2 + n.toNat + 2) (hb : ¬ (byteAt s (i + 2 + n.toNat) = 13 ∧ byteAt s (i + 2 + n.toNat + 1) = 10)) : unchunk s = bad := by
  obtain ⟨f, _, h2⟩ := un_step h
  rw [h2, unF, he]; simp only; rw [hx]; simp only; rw [if_neg hg, if_neg hs, if_neg hb]
theorem un_done (h : UnAt s a out) {i : Nat} (he : Line.eol s a = some i) (hx : readHex (s.extract a i) = some 0) (hg : ¬ 60 < out.size + (0 : Int).toNat) (hs : ¬ s.size < i + 2 + (0 : Int).toNat + 2) (hb : byteAt s (i + 2 + (0 : Int).toNat) = 13 ∧ byteAt s (i + 2 + (0 : Int).toNat + 1) = 10) :
    unchunk s = (out ++ s.extract (i + 2) (i + 2 + (0 : Int).toNat), ((i + 2 + (0 : Int).toNat + 2 : Nat) : Int), 0) := by
  obtain ⟨f, _, h2⟩ := un_step h
  rw [h2, unF, he]; simp only; rw [hx]; simp only; rw [if_neg hg, if_neg hs, if_pos hb, if_pos trivial]
theorem un_next (h : UnAt s a out) {i : Nat} {n : Int} (he : Line.eol s a = some i) (hx : readHex (s.extract a i) = some n) (hg : ¬ 60 < out.size + n.toNat) (hs : ¬ s.size < i + 2 + n.toNat + 2) (hb : byteAt s (i + 2 + n.toNat) = 13 ∧ byteAt s (i + 2 + n.toNat + 1) = 10) (h0 : ¬ n = 0) :
    UnAt s (i + 2 + n.toNat + 2) (out ++ s.extract (i + 2) (i + 2 + n.toNat)) := by
  have hin := Line.eol_in he
  obtain ⟨f, h1, h2⟩ := un_step h
  refine ⟨by omega, by rw [ByteArray.size_append, ByteArray.size_extract]; omega, f, by omega, ?_⟩
  rw [h2, unF, he]; simp only; rw [hx]; simp only; rw [if_neg hg, if_neg hs, if_pos hb, if_neg h0]
theorem readHex_bd {t : ByteArray} {n : Int} (h : readHex t = some n) : 0 ≤ n ∧ n ≤ 16777215 := by
  unfold readHex at h
  split at h
  · next hc => cases h; exact hexVal_six _ hc.1 (by rw [Array.length_toList]; exact hc.2.2)
  · cases h
theorem rh_some {t : ByteArray} {n : Int} (h : readHex t = some n) : rhN t = n ∧ rhB t = true := by unfold rhN rhB; rw [h]; exact ⟨rfl, rfl⟩
end
end Body
end Go.Proofs.YtjeokackmkfooaaGreatDoor
namespace Go.Proofs.YtjeokackmkfooaaGreatDoor
open Go.RowKit
set_option linter.unusedVariables false
namespace Body

def teName : ByteArray := ⟨#[116, 114, 97, 110, 115, 102, 101, 114, 45, 101, 110, 99, 111, 100, 105, 110, 103]⟩
def clName : ByteArray := ⟨#[99, 111, 110, 116, 101, 110, 116, 45, 108, 101, 110, 103, 116, 104]⟩
def chName : ByteArray := ⟨#[99, 104, 117, 110, 107, 101, 100]⟩
/-- where a body ends, by what is said of it: te, cl: whether a field is there, and its value -/
def bodyBy (te cl : ByteArray × Bool) (s : ByteArray) (closing : Bool) : Told :=
  if te.2 = true then (if Sign.lower te.1 = chName ∧ cl.2 = false then unchunk s else bad)
  else if cl.2 = true then
    (if (Sign.secs cl.1).2 = false ∨ 60 < (Sign.secs cl.1).1 then bad
     else if (s.size : Int) < (Sign.secs cl.1).1 then more
     else (s.extract 0 (Sign.secs cl.1).1.toNat, (Sign.secs cl.1).1, 0))
  else if closing = true then (if 60 < s.size then bad else (s, (s.size : Int), 0))
  else (⟨#[]⟩, 0, 0)
def bodyOf (l : List Flds.Fld) (s : ByteArray) (closing : Bool) : Told := bodyBy (Flds.get l teName) (Flds.get l clName) s closing
theorem secs_bd (t : ByteArray) : 0 ≤ (Sign.secs t).1 ∧ (Sign.secs t).1 ≤ 1152921504606846976 := by
  unfold Sign.secs
  split
  · next h => have := Sign.sec_bd _ h.2; omega
  · decide
theorem get_small (l : List Flds.Fld) (name : ByteArray) (h : Flds.bulk l ≤ 1048576) : (Flds.get l name).1.size ≤ 4194304 := by
  have := Flds.get_size l name
  unfold Flds.bulk at h
  omega
theorem unF_bd (s : ByteArray) : ∀ (f a : Nat) (out : ByteArray), 0 ≤ (unF s f a out).2.1 ∧ (unF s f a out).2.1 ≤ (s.size : Int) := by
  have hb : (0 : Int) ≤ bad.2.1 ∧ bad.2.1 ≤ (s.size : Int) := ⟨Int.le_refl _, by show (0 : Int) ≤ _; omega⟩
  have hm : (0 : Int) ≤ more.2.1 ∧ more.2.1 ≤ (s.size : Int) := ⟨Int.le_refl _, by show (0 : Int) ≤ _; omega⟩
  intro f
  induction f with
  | zero => intro a out; exact hb
  | succ f ih =>
    intro a out
    rw [unF]
    cases Line.eol s a with
    | none =>
      simp only
      split
      · exact hb
      · exact hm
    | some i =>
      simp only
      cases readHex (s.extract a i) with
      | none => exact hb
      | some n =>
        simp only
        split
        · exact hb
        · split
          · exact hm
          · next hs =>
            split
            · split
              · refine ⟨?_, ?_⟩
                · show (0 : Int) ≤ ((_ : Nat) : Int); omega
                · show ((i + 2 + n.toNat + 2 : Nat) : Int) ≤ (s.size : Int); omega
              · exact ih _ _
            · exact hb
theorem body_bd (l : List Flds.Fld) (s : ByteArray) (c : Bool) : 0 ≤ (bodyOf l s c).2.1 ∧ (bodyOf l s c).2.1 ≤ (s.size : Int) + 60 := by
  have hb : (0 : Int) ≤ bad.2.1 ∧ bad.2.1 ≤ (s.size : Int) + 60 := ⟨Int.le_refl _, by show (0 : Int) ≤ _; omega⟩
  have hm : (0 : Int) ≤ more.2.1 ∧ more.2.1 ≤ (s.size : Int) + 60 := ⟨Int.le_refl _, by show (0 : Int) ≤ _; omega⟩
  unfold bodyOf bodyBy
  split
  · split
    · have := unF_bd s (s.size + 1) 0 ⟨#[]⟩
      unfold unchunk
      omega
    · exact hb
  · split
    · split
      · exact hb
      · next h =>
        split
        · exact hm
        · have := secs_bd (Flds.get l clName).1
          have h2 : ¬ 60 < (Sign.secs (Flds.get l clName).1).1 := fun h3 => h (.inr h3)
          show 0 ≤ (Sign.secs (Flds.get l clName).1).1 ∧ (Sign.secs (Flds.get l clName).1).1 ≤ (s.size : Int) + 60
          omega
    · split
      · split
        · exact hb
        · show (0 : Int) ≤ (s.size : Int) ∧ (s.size : Int) ≤ (s.size : Int) + 60; omega
      · show (0 : Int) ≤ 0 ∧ (0 : Int) ≤ (s.size : Int) + 60; omega
end Body
end Go.Proofs.YtjeokackmkfooaaGreatDoor
namespace Go.Proofs.YtjeokackmkfooaaGreatDoor
open Go.RowKit
set_option linter.unusedVariables false
namespace Msg
open Line (byteAt byteAt_eq)

def uriB (b : UInt8) : Bool := decide (32 < (b.toNat : Int) ∧ (b.toNat : Int) < 127)
def uriOk (s : ByteArray) : Bool := s.data.toList.all uriB && decide (1 ≤ s.size ∧ s.size ≤ 20) && decide (byteAt s 0 = 47)
end Msg
end Go.Proofs.YtjeokackmkfooaaGreatDoor
namespace Go.Proofs.YtjeokackmkfooaaGreatDoor
open Go.RowKit
set_option linter.unusedVariables false
namespace Msg

def known : List Int := [200, 203, 204, 300, 301, 304, 400, 404, 410, 502, 504]
def texts : List ByteArray := [⟨#[79, 75]⟩, ⟨#[78, 111, 110, 45, 65, 117, 116, 104, 111, 114, 105, 116, 97, 116, 105, 118, 101, 32, 73, 110, 102, 111, 114, 109, 97, 116, 105, 111, 110]⟩, ⟨#[78, 111, 32, 67, 111, 110, 116, 101, 110, 116]⟩, ⟨#[77, 117, 108, 116, 105, 112, 108, 101, 32, 67, 104, 111, 105, 99, 101, 115]⟩, ⟨#[77, 111, 118, 101, 100, 32, 80, 101, 114, 109, 97, 110, 101, 110, 116, 108, 121]⟩, ⟨#[78, 111, 116, 32, 77, 111, 100, 105, 102, 105, 101, 100]⟩, ⟨#[66, 97, 100, 32, 82, 101, 113, 117, 101, 115, 116]⟩, ⟨#[78, 111, 116, 32, 70, 111, 117, 110, 100]⟩, ⟨#[71, 111, 110, 101]⟩, ⟨#[66, 97, 100, 32, 71, 97, 116, 101, 119, 97, 121]⟩, ⟨#[71, 97, 116, 101, 119, 97, 121, 32, 84, 105, 109, 101, 111, 117, 116]⟩]
/-- the words of the first known status from i on, within n places -/
def reasonF (st : Int) : Nat → Nat → ByteArray
  | 0, _ => ⟨#[83, 116, 97, 116, 117, 115]⟩
  | n + 1, i => if known.getD i 0 = st then texts.getD i ⟨#[]⟩ else reasonF st n (i + 1)
def reason (st : Int) : ByteArray := reasonF st 11 0
end Msg
end Go.Proofs.YtjeokackmkfooaaGreatDoor
namespace Go.Proofs.YtjeokackmkfooaaGreatDoor
open Go.RowKit
set_option linter.unusedVariables false
namespace Msg
open Line (byteAt byteAt_eq)

/-- the first blank from i on, within n places -/
def blF (s : ByteArray) : Nat → Nat → Option Nat
  | 0, _ => none
  | n + 1, i => if byteAt s i = 32 then some i else blF s n (i + 1)
def blk (s : ByteArray) (i : Nat) : Option Nat := blF s (s.size - i) i
theorem blF_in (s : ByteArray) : ∀ (n i k : Nat), blF s n i = some k → i ≤ k ∧ k < s.size := by
  intro n
  induction n with
  | zero => intro i k h; cases h
  | succ n ih =>
    intro i k h
    unfold blF at h
    split at h
    · next hc =>
      cases h
      refine ⟨Nat.le_refl _, ?_⟩
      by_cases hz : i < s.size
      · exact hz
      · exfalso; unfold byteAt at hc; rw [dif_neg hz] at hc; omega
    · have := ih (i + 1) k h; omega
theorem blk_hit (s : ByteArray) (i : Nat) (h : i < s.size) (h1 : (s[i]).toNat = 32) : blk s i = some i := by
  unfold blk
  rw [show s.size - i = (s.size - i - 1) + 1 by omega, blF, if_pos (by rw [byteAt_eq s i h]; exact h1)]
theorem blk_next (s : ByteArray) (i : Nat) (h : i < s.size) (h1 : ¬ (s[i]).toNat = 32) : blk s i = blk s (i + 1) := by
  unfold blk
  rw [show s.size - i = (s.size - (i + 1)) + 1 by omega, blF, if_neg (by rw [byteAt_eq s i h]; exact h1)]
theorem blk_end (s : ByteArray) (i : Nat) (h : s.size ≤ i) : blk s i = none := by unfold blk; rw [show s.size - i = 0 by omega]; rfl
theorem blk_in {s : ByteArray} {i k : Nat} (h : blk s i = some k) : i ≤ k ∧ k < s.size := blF_in s _ i k h
/-- the three parts of a line -/
def words (s : ByteArray) : ByteArray × ByteArray × ByteArray :=
  match blk s 0 with
  | none => (⟨#[]⟩, ⟨#[]⟩, ⟨#[]⟩)
  | some a => match blk s (a + 1) with
    | none => (⟨#[]⟩, ⟨#[]⟩, ⟨#[]⟩)
    | some b => (s.extract 0 a, s.extract (a + 1) b, s.extract (b + 1) s.size)
/-- where the search stands -/
def WdAt (s : ByteArray) (i : Nat) (a b : Int) : Prop :=
  (a = -1 ∧ b = -1 ∧ blk s 0 = blk s i) ∨ (∃ A : Nat, a = (A : Int) ∧ b = -1 ∧ blk s 0 = some A ∧ A < i ∧ blk s (A + 1) = blk s i) ∨ (∃ A B : Nat, a = (A : Int) ∧ b = (B : Int) ∧ blk s 0 = some A ∧ blk s (A + 1) = some B)
theorem wd_start (s : ByteArray) : WdAt s 0 (-1) (-1) := .inl ⟨rfl, rfl, rfl⟩
theorem wd_bd {s : ByteArray} {i : Nat} {a b : Int} (h : WdAt s i a b) (hi : i ≤ s.size) : -1 ≤ a ∧ a ≤ s.size ∧ -1 ≤ b ∧ b ≤ s.size := by
  rcases h with ⟨rfl, rfl, _⟩ | ⟨A, rfl, rfl, _, h1, _⟩ | ⟨A, B, rfl, rfl, h1, h2⟩
  · omega
  · omega
  · have := blk_in h1; have := blk_in h2; omega
theorem wd_no {s : ByteArray} {i : Nat} {a b : Int} (h : WdAt s i a b) (hi : i < s.size) (hc : ¬ (s[i]).toNat = 32) : WdAt s (i + 1) a b := by
  rcases h with ⟨rfl, rfl, h1⟩ | ⟨A, rfl, rfl, h1, h2, h3⟩ | h
  · exact .inl ⟨rfl, rfl, by rw [h1, blk_next s i hi hc]⟩
  · exact .inr (.inl ⟨A, rfl, rfl, h1, by omega, by rw [h3, blk_next s i hi hc]⟩)
  · exact .inr (.inr h)
theorem wd_first {s : ByteArray} {i : Nat} {a b : Int} (h : WdAt s i a b) (hi : i < s.size) (hc : (s[i]).toNat = 32) (ha : a < 0) : WdAt s (i + 1) (i : Int) b := by
  rcases h with ⟨rfl, rfl, h1⟩ | ⟨A, rfl, rfl, h1, h2, h3⟩ | ⟨A, B, rfl, rfl, h1, h2⟩
  · exact .inr (.inl ⟨i, rfl, rfl, by rw [h1, blk_hit s i hi hc], by omega, rfl⟩)
  · omega
  · omega
theorem wd_second {s : ByteArray} {i : Nat} {a b : Int} (h : WdAt s i a b) (hi : i < s.size) (hc : (s[i]).toNat = 32) (ha : ¬ a < 0) (hb : b < 0) : WdAt s (i + 1) a (i : Int) := by
  rcases h with ⟨rfl, rfl, h1⟩ | ⟨A, rfl, rfl, h1, h2, h3⟩ | ⟨A, B, rfl, rfl, h1, h2⟩
  · omega
  · exact .inr (.inr ⟨A, i, rfl, rfl, h1, by rw [h3, blk_hit s i hi hc]⟩)
  · omega
theorem wd_third {s : ByteArray} {i : Nat} {a b : Int} (h : WdAt s i a b) (ha : ¬ a < 0) (hb : ¬ b < 0) : WdAt s (i + 1) a b := by
  rcases h with ⟨rfl, rfl, h1⟩ | ⟨A, rfl, rfl, h1, h2, h3⟩ | h
  · omega
  · omega
  · exact .inr (.inr h)
theorem wd_none {s : ByteArray} {a b : Int} (h : WdAt s s.size a b) (hb : b < 0) : words s = (⟨#[]⟩, ⟨#[]⟩, ⟨#[]⟩) := by
  rcases h with ⟨rfl, rfl, h1⟩ | ⟨A, rfl, rfl, h1, h2, h3⟩ | ⟨A, B, rfl, rfl, h1, h2⟩
  · unfold words; rw [h1, blk_end s _ (Nat.le_refl _)]
  · unfold words; rw [h1]; simp only; rw [h3, blk_end s _ (Nat.le_refl _)]
  · omega
theorem wd_done {s : ByteArray} {a b : Int} (h : WdAt s s.size a b) (hb : ¬ b < 0) : ∃ A B : Nat, a = (A : Int) ∧ b = (B : Int) ∧ A < B ∧ B < s.size ∧ words s = (s.extract 0 A, s.extract (A + 1) B, s.extract (B + 1) s.size) := by
  rcases h with ⟨rfl, rfl, h1⟩ | ⟨A, rfl, rfl, h1, h2, h3⟩ | ⟨A, B, rfl, rfl, h1, h2⟩
  · omega
  · omega
  · have := blk_in h2
    exact ⟨A, B, rfl, rfl, by omega, by omega, by unfold words; rw [h1]; simp only; rw [h2]⟩
/-- bytes 13, 10, 13, 10 -/
def gap : ByteArray := ⟨#[13, 10, 13, 10]⟩
def wholeF (s : ByteArray) : Nat → Nat → Bool
  | 0, _ => false
  | n + 1, i => if s.extract i (i + 4) = gap then true else wholeF s n (i + 1)
/-- are the line and the fields of a message there? -/
def whole (s : ByteArray) : Bool := wholeF s (s.size - 3) 0
end Msg
end Go.Proofs.YtjeokackmkfooaaGreatDoor
