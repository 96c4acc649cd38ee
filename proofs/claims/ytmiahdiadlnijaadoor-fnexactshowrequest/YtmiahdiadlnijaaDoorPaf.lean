/-
  SecondsNum: Seconds, plain: a number of digits, no greater than the bound.
  BodyDef: Where a body ends, plain.
  WordsNum: A line parted at its first two blanks; whether a message's line and fields are there: plain.
-/
import Derived.Test.YtmiahdiadlnijaaDoorSignNum
import Derived.Test.YtmiahdiadlnijaaDoorPae
import Derived.Test.YtmiahdiadlnijaaDoorPad
import Derived.Test.YtmiahdiadlnijaaDoorLowerNum
import Derived.Test.YtmiahdiadlnijaaDoorPaa
namespace Go.Proofs.YtmiahdiadlnijaaDoor
open Go.RowKit
set_option linter.unusedVariables false
namespace Sign

/-- a number of digits, no greater than the bound -/
def sec (l : List UInt8) : Int := l.foldl (fun n c => min (n * 10 + ((c.toNat : Int) - 48)) 2147483648) 0
theorem sec_snoc (l : List UInt8) (c : UInt8) : sec (l ++ [c]) = min (sec l * 10 + ((c.toNat : Int) - 48)) 2147483648 := by simp [sec]
theorem sec_bd (l : List UInt8) (h : l.all (fun b => decide (dig (b.toNat : Int))) = true) : 0 ≤ sec l ∧ sec l ≤ 2147483648 := by
  revert h
  refine Num.snoc_ind (P := fun l => l.all (fun b => decide (dig (b.toNat : Int))) = true → 0 ≤ sec l ∧ sec l ≤ 2147483648) (by intro _; simp [sec]) ?_ l
  intro l c ih h
  rw [List.all_append, Bool.and_eq_true] at h
  have h1 := ih h.1
  have h2 : dig (c.toNat : Int) := by simpa using h.2
  unfold dig at h2
  rw [sec_snoc]
  omega
theorem sec_take (s : ByteArray) (k : Nat) (h : k < s.size) : sec (s.data.toList.take (k + 1)) = min (sec (s.data.toList.take k) * 10 + ((s[k].toNat : Int) - 48)) 2147483648 := by
  rw [Num.take_snoc s k h, sec_snoc]
def secs (s : ByteArray) : Int × Bool :=
  if 0 < s.size ∧ s.data.toList.all (fun b => decide (dig (b.toNat : Int))) = true then (sec s.data.toList, true) else (0, false)
end Sign
end Go.Proofs.YtmiahdiadlnijaaDoor
namespace Go.Proofs.YtmiahdiadlnijaaDoor
open Go.RowKit
set_option linter.unusedVariables false
namespace Body

def teName : ByteArray := ⟨#[116, 114, 97, 110, 115, 102, 101, 114, 45, 101, 110, 99, 111, 100, 105, 110, 103]⟩
def clName : ByteArray := ⟨#[99, 111, 110, 116, 101, 110, 116, 45, 108, 101, 110, 103, 116, 104]⟩
def chName : ByteArray := ⟨#[99, 104, 117, 110, 107, 101, 100]⟩
/-- where a body ends, by what is said of it: te, cl: whether a field is there, and its value -/
def bodyBy (te cl : ByteArray × Bool) (s : ByteArray) (closing : Bool) : Told :=
  if te.2 = true then (if Sign.lower te.1 = chName ∧ cl.2 = false then unchunk s else bad)
  else if cl.2 = true then
    (if (Sign.secs cl.1).2 = false ∨ 60 < (Sign.secs cl.1).1 then bad
     else if (s.size : Int) < (Sign.secs cl.1).1 then more
     else (s.extract 0 (Sign.secs cl.1).1.toNat, (Sign.secs cl.1).1, 0))
  else if closing = true then (if 60 < s.size then bad else (s, (s.size : Int), 0))
  else (⟨#[]⟩, 0, 0)
def bodyOf (l : List Flds.Fld) (s : ByteArray) (closing : Bool) : Told := bodyBy (Flds.get l teName) (Flds.get l clName) s closing
theorem secs_bd (t : ByteArray) : 0 ≤ (Sign.secs t).1 ∧ (Sign.secs t).1 ≤ 1152921504606846976 := by
  unfold Sign.secs
  split
  · next h => have := Sign.sec_bd _ h.2; omega
  · decide
theorem get_small (l : List Flds.Fld) (name : ByteArray) (h : Flds.bulk l ≤ 1048576) : (Flds.get l name).1.size ≤ 4194304 := by
  have := Flds.get_size l name
  unfold Flds.bulk at h
  omega
theorem unF_bd (s : ByteArray) : ∀ (f a : Nat) (out : ByteArray), 0 ≤ (unF s f a out).2.1 ∧ (unF s f a out).2.1 ≤ (s.size : Int) := by
  have hb : (0 : Int) ≤ bad.2.1 ∧ bad.2.1 ≤ (s.size : Int) := ⟨Int.le_refl _, by show (0 : Int) ≤ _; omega⟩
  have hm : (0 : Int) ≤ more.2.1 ∧ more.2.1 ≤ (s.size : Int) := ⟨Int.le_refl _, by show (0 : Int) ≤ _; omega⟩
  intro f
  induction f with
  | zero => intro a out; exact hb
  | succ f ih =>
    intro a out
    rw [unF]
    cases Line.eol s a with
    | none =>
      simp only
      split
      · exact hb
      · exact hm
    | some i =>
      simp only
      cases readHex (s.extract a i) with
      | none => exact hb
      | some n =>
        simp only
        split
        · exact hb
        · split
          · exact hm
          · next hs =>
            split
            · split
              · refine ⟨?_, ?_⟩
                · show (0 : Int) ≤ ((_ : Nat) : Int); omega
                · show ((i + 2 + n.toNat + 2 : Nat) : Int) ≤ (s.size : Int); omega
              · exact ih _ _
            · exact hb
theorem body_bd (l : List Flds.Fld) (s : ByteArray) (c : Bool) : 0 ≤ (bodyOf l s c).2.1 ∧ (bodyOf l s c).2.1 ≤ (s.size : Int) + 60 := by
  have hb : (0 : Int) ≤ bad.2.1 ∧ bad.2.1 ≤ (s.size : Int) + 60 := ⟨Int.le_refl _, by show (0 : Int) ≤ _; omega⟩
  have hm : (0 : Int) ≤ more.2.1 ∧ more.2.1 ≤ (s.size : Int) + 60 := ⟨Int.le_refl _, by show (0 : Int) ≤ _; omega⟩
  unfold bodyOf bodyBy
  split
  · split
    · have := unF_bd s (s.size + 1) 0 ⟨#[]⟩
      unfold unchunk
      omega
    · exact hb
  · split
    · split
      · exact hb
      · next h =>
        split
        · exact hm
        · have := secs_bd (Flds.get l clName).1
          have h2 : ¬ 60 < (Sign.secs (Flds.get l clName).1).1 := fun h3 => h (.inr h3)
          show 0 ≤ (Sign.secs (Flds.get l clName).1).1 ∧ (Sign.secs (Flds.get l clName).1).1 ≤ (s.size : Int) + 60
          omega
    · split
      · split
        · exact hb
        · show (0 : Int) ≤ (s.size : Int) ∧ (s.size : Int) ≤ (s.size : Int) + 60; omega
      · show (0 : Int) ≤ 0 ∧ (0 : Int) ≤ (s.size : Int) + 60; omega
end Body
end Go.Proofs.YtmiahdiadlnijaaDoor
namespace Go.Proofs.YtmiahdiadlnijaaDoor
open Go.RowKit
set_option linter.unusedVariables false
namespace Msg
open Line (byteAt byteAt_eq)

/-- the first blank from i on, within n places -/
def blF (s : ByteArray) : Nat → Nat → Option Nat
  | 0, _ => none
  | n + 1, i => if byteAt s i = 32 then some i else blF s n (i + 1)
def blk (s : ByteArray) (i : Nat) : Option Nat := blF s (s.size - i) i
theorem blF_in (s : ByteArray) : ∀ (n i k : Nat), blF s n i = some k → i ≤ k ∧ k < s.size := by
  intro n
  induction n with
  | zero => intro i k h; cases h
  | succ n ih =>
    intro i k h
    unfold blF at h
    split at h
    · next hc =>
      cases h
      refine ⟨Nat.le_refl _, ?_⟩
      by_cases hz : i < s.size
      · exact hz
      · exfalso; unfold byteAt at hc; rw [dif_neg hz] at hc; omega
    · have := ih (i + 1) k h; omega
theorem blk_hit (s : ByteArray) (i : Nat) (h : i < s.size) (h1 : (s[i]).toNat = 32) : blk s i = some i := by
  unfold blk
  rw [show s.size - i = (s.size - i - 1) + 1 by omega, blF, if_pos (by rw [byteAt_eq s i h]; exact h1)]
theorem blk_next (s : ByteArray) (i : Nat) (h : i < s.size) (h1 : ¬ (s[i]).toNat = 32) : blk s i = blk s (i + 1) := by
  unfold blk
  rw [show s.size - i = (s.size - (i + 1)) + 1 by omega, blF, if_neg (by rw [byteAt_eq s i h]; exact h1)]
theorem blk_end (s : ByteArray) (i : Nat) (h : s.size ≤ i) : blk s i = none := by unfold blk; rw [show s.size - i = 0 by omega]; rfl
theorem blk_in {s : ByteArray} {i k : Nat} (h : blk s i = some k) : i ≤ k ∧ k < s.size := blF_in s _ i k h
/-- the three parts of a line -/
def words (s : ByteArray) : ByteArray × ByteArray × ByteArray :=
  match blk s 0 with
  | none => (⟨#[]⟩, ⟨#[]⟩, ⟨#[]⟩)
  | some a => match blk s (a + 1) with
    | none => (⟨#[]⟩, ⟨#[]⟩, ⟨#[]⟩)
    | some b => (s.extract 0 a, s.extract (a + 1) b, s.extract (b + 1) s.size)
/-- where the search stands -/
def WdAt (s : ByteArray) (i : Nat) (a b : Int) : Prop :=
  (a = -1 ∧ b = -1 ∧ blk s 0 = blk s i) ∨ (∃ A : Nat, a = (A : Int) ∧ b = -1 ∧ blk s 0 = some A ∧ A < i ∧ blk s (A + 1) = blk s i) ∨ (∃ A B : Nat, a = (A : Int) ∧ b = (B : Int) ∧ blk s 0 = some A ∧ blk s (A + 1) = some B)
theorem wd_start (s : ByteArray) : WdAt s 0 (-1) (-1) := .inl ⟨rfl, rfl, rfl⟩
theorem wd_bd {s : ByteArray} {i : Nat} {a b : Int} (h : WdAt s i a b) (hi : i ≤ s.size) : -1 ≤ a ∧ a ≤ s.size ∧ -1 ≤ b ∧ b ≤ s.size := by
  rcases h with ⟨rfl, rfl, _⟩ | ⟨A, rfl, rfl, _, h1, _⟩ | ⟨A, B, rfl, rfl, h1, h2⟩
  · omega
  · omega
  · have := blk_in h1; have := blk_in h2; omega
theorem wd_no {s : ByteArray} {i : Nat} {a b : Int} (h : WdAt s i a b) (hi : i < s.size) (hc : ¬ (s[i]).toNat = 32) : WdAt s (i + 1) a b := by
  rcases h with ⟨rfl, rfl, h1⟩ | ⟨A, rfl, rfl, h1, h2, h3⟩ | h
  · exact .inl ⟨rfl, rfl, by rw [h1, blk_next s i hi hc]⟩
  · exact .inr (.inl ⟨A, rfl, rfl, h1, by omega, by rw [h3, blk_next s i hi hc]⟩)
  · exact .inr (.inr h)
theorem wd_first {s : ByteArray} {i : Nat} {a b : Int} (h : WdAt s i a b) (hi : i < s.size) (hc : (s[i]).toNat = 32) (ha : a < 0) : WdAt s (i + 1) (i : Int) b := by
  rcases h with ⟨rfl, rfl, h1⟩ | ⟨A, rfl, rfl, h1, h2, h3⟩ | ⟨A, B, rfl, rfl, h1, h2⟩
  · exact .inr (.inl ⟨i, rfl, rfl, by rw [h1, blk_hit s i hi hc], by omega, rfl⟩)
  · omega
  · omega
theorem wd_second {s : ByteArray} {i : Nat} {a b : Int} (h : WdAt s i a b) (hi : i < s.size) (hc : (s[i]).toNat = 32) (ha : ¬ a < 0) (hb : b < 0) : WdAt s (i + 1) a (i : Int) := by
  rcases h with ⟨rfl, rfl, h1⟩ | ⟨A, rfl, rfl, h1, h2, h3⟩ | ⟨A, B, rfl, rfl, h1, h2⟩
  · omega
  · exact .inr (.inr ⟨A, i, rfl, rfl, h1, by rw [h3, blk_hit s i hi hc]⟩)
  · omega
theorem wd_third {s : ByteArray} {i : Nat} {a b : Int} (h : WdAt s i a b) (ha : ¬ a < 0) (hb : ¬ b < 0) : WdAt s (i + 1) a b := by
  rcases h with ⟨rfl, rfl, h1⟩ | ⟨A, rfl, rfl, h1, h2, h3⟩ | h
  · omega
  · omega
  · exact .inr (.inr h)
theorem wd_none {s : ByteArray} {a b : Int} (h : WdAt s s.size a b) (hb : b < 0) : words s = (⟨#[]⟩, ⟨#[]⟩, ⟨#[]⟩) := by
  rcases h with ⟨rfl, rfl, h1⟩ | ⟨A, rfl, rfl, h1, h2, h3⟩ | ⟨A, B, rfl, rfl, h1, h2⟩
  · unfold words; rw [h1, blk_end s _ (Nat.le_refl _)]
  · unfold words; rw [h1]; simp only; rw [h3, blk_end s _ (Nat.le_refl _)]
  · omega
theorem wd_done {s : ByteArray} {a b : Int} (h : WdAt s s.size a b) (hb : ¬ b < 0) : ∃ A B : Nat, a = (A : Int) ∧ b = (B : Int) ∧ A < B ∧ B < s.size ∧ words s = (s.extract 0 A, s.extract (A + 1) B, s.extract (B + 1) s.size) := by
  rcases h with ⟨rfl, rfl, h1⟩ | ⟨A, rfl, rfl, h1, h2, h3⟩ | ⟨A, B, rfl, rfl, h1, h2⟩
  · omega
  · omega
  · have := blk_in h2
    exact ⟨A, B, rfl, rfl, by omega, by omega, by unfold words; rw [h1]; simp only; rw [h2]⟩
/-- bytes 13, 10, 13, 10 -/
def gap : ByteArray := ⟨#[13, 10, 13, 10]⟩
def wholeF (s : ByteArray) : Nat → Nat → Bool
  | 0, _ => false
  | n + 1, i => if s.extract i (i + 4) = gap then true else wholeF s n (i + 1)
/-- are the line and the fields of a message there? -/
def whole (s : ByteArray) : Bool := wholeF s (s.size - 3) 0
end Msg
end Go.Proofs.YtmiahdiadlnijaaDoor
