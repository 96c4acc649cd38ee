/-
  UriNum: What a target looks like, plain.
  ReasonNum: The words of a status, plain.
  WordsNum: A line parted at its first two blanks; whether a message's line and fields are there: plain.
  MsgNum: Messages, plain: requests and answers, their texts, and what is read of a text.
  HeurNum: The numbers by which an answer may be stored, plain.
  PolStore: What may be, plain: what is stored; with no-store nothing is.
  FldSz: szField and szFieldS of the laws: how large a list of fields is.
-/
import Derived.Test.YtbcjpjhpobmpbaaGreatDoorSignNum
import Derived.Test.YtbcjpjhpobmpbaaGreatDoorPaa
import Derived.Test.YtbcjpjhpobmpbaaGreatDoorNum
import Derived.Test.YtbcjpjhpobmpbaaGreatDoorPaf
import Derived.Test.YtbcjpjhpobmpbaaGreatDoorPac
import Derived.WalkKit
import Derived.Test.YtbcjpjhpobmpbaaGreatDoorPad
import Derived.Test.YtbcjpjhpobmpbaaGreatDoorFlds
namespace Go.Proofs.YtbcjpjhpobmpbaaGreatDoor
open Go.RowKit
set_option linter.unusedVariables false
namespace Msg
open Line (byteAt byteAt_eq)

def uriB (b : UInt8) : Bool := decide (32 < (b.toNat : Int) ∧ (b.toNat : Int) < 127)
def uriOk (s : ByteArray) : Bool := s.data.toList.all uriB && decide (1 ≤ s.size ∧ s.size ≤ 20) && decide (byteAt s 0 = 47)
end Msg
end Go.Proofs.YtbcjpjhpobmpbaaGreatDoor
namespace Go.Proofs.YtbcjpjhpobmpbaaGreatDoor
open Go.RowKit
set_option linter.unusedVariables false
namespace Msg

def known : List Int := [200, 203, 204, 300, 301, 304, 400, 404, 410, 502, 504]
def texts : List ByteArray := [⟨#[79, 75]⟩, ⟨#[78, 111, 110, 45, 65, 117, 116, 104, 111, 114, 105, 116, 97, 116, 105, 118, 101, 32, 73, 110, 102, 111, 114, 109, 97, 116, 105, 111, 110]⟩, ⟨#[78, 111, 32, 67, 111, 110, 116, 101, 110, 116]⟩, ⟨#[77, 117, 108, 116, 105, 112, 108, 101, 32, 67, 104, 111, 105, 99, 101, 115]⟩, ⟨#[77, 111, 118, 101, 100, 32, 80, 101, 114, 109, 97, 110, 101, 110, 116, 108, 121]⟩, ⟨#[78, 111, 116, 32, 77, 111, 100, 105, 102, 105, 101, 100]⟩, ⟨#[66, 97, 100, 32, 82, 101, 113, 117, 101, 115, 116]⟩, ⟨#[78, 111, 116, 32, 70, 111, 117, 110, 100]⟩, ⟨#[71, 111, 110, 101]⟩, ⟨#[66, 97, 100, 32, 71, 97, 116, 101, 119, 97, 121]⟩, ⟨#[71, 97, 116, 101, 119, 97, 121, 32, 84, 105, 109, 101, 111, 117, 116]⟩]
/-- the words of the first known status from i on, within n places -/
def reasonF (st : Int) : Nat → Nat → ByteArray
  | 0, _ => ⟨#[83, 116, 97, 116, 117, 115]⟩
  | n + 1, i => if known.getD i 0 = st then texts.getD i ⟨#[]⟩ else reasonF st n (i + 1)
def reason (st : Int) : ByteArray := reasonF st 11 0
end Msg
end Go.Proofs.YtbcjpjhpobmpbaaGreatDoor
namespace Go.Proofs.YtbcjpjhpobmpbaaGreatDoor
open Go.RowKit
set_option linter.unusedVariables false
namespace Msg
open Line (byteAt byteAt_eq)

/-- the first blank from i on, within n places -/
def blF (s : ByteArray) : Nat → Nat → Option Nat
  | 0, _ => none
  | n + 1, i => if byteAt s i = 32 then some i else blF s n (i + 1)
def blk (s : ByteArray) (i : Nat) : Option Nat := blF s (s.size - i) i
theorem blF_in (s : ByteArray) : ∀ (n i k : Nat), blF s n i = some k → i ≤ k ∧ k < s.size := by
  intro n
  induction n with
  | zero => intro i k h; cases h
  | succ n ih =>
    intro i k h
    unfold blF at h
    split at h
    · next hc =>
      cases h
      refine ⟨Nat.le_refl _, ?_⟩
      by_cases hz : i < s.size
      · exact hz
      · exfalso; unfold byteAt at hc; rw [dif_neg hz] at hc; omega
    · have := ih (i + 1) k h; omega
theorem blk_hit (s : ByteArray) (i : Nat) (h : i < s.size) (h1 : (s[i]).toNat = 32) : blk s i = some i := by
  unfold blk
  rw [show s.size - i = (s.size - i - 1) + 1 by omega, blF, if_pos (by rw [byteAt_eq s i h]; exact h1)]
theorem blk_next (s : ByteArray) (i : Nat) (h : i < s.size) (h1 : ¬ (s[i]).toNat = 32) : blk s i = blk s (i + 1) := by
  unfold blk
  rw [show s.size - i = (s.size - (i + 1)) + 1 by omega, blF, if_neg (by rw [byteAt_eq s i h]; exact h1)]
theorem blk_end (s : ByteArray) (i : Nat) (h : s.size ≤ i) : blk s i = none := by unfold blk; rw [show s.size - i = 0 by omega]; rfl
theorem blk_in {s : ByteArray} {i k : Nat} (h : blk s i = some k) : i ≤ k ∧ k < s.size := blF_in s _ i k h
/-- the three parts of a line -/
def words (s : ByteArray) : ByteArray × ByteArray × ByteArray :=
  match blk s 0 with
  | none => (⟨#[]⟩, ⟨#[]⟩, ⟨#[]⟩)
  | some a => match blk s (a + 1) with
    | none => (⟨#[]⟩, ⟨#[]⟩, ⟨#[]⟩)
    | some b => (s.extract 0 a, s.extract (a + 1) b, s.extract (b + 1) s.size)
/-- where the search stands -/
def WdAt (s : ByteArray) (i : Nat) (a b : Int) : Prop :=
  (a = -1 ∧ b = -1 ∧ blk s 0 = blk s i) ∨ (∃ A : Nat, a = (A : Int) ∧ b = -1 ∧ blk s 0 = some A ∧ A < i ∧ blk s (A + 1) = blk s i) ∨ (∃ A B : Nat, a = (A : Int) ∧ b = (B : Int) ∧ blk s 0 = some A ∧ blk s (A + 1) = some B)
theorem wd_start (s : ByteArray) : WdAt s 0 (-1) (-1) := .inl ⟨rfl, rfl, rfl⟩
theorem wd_bd {s : ByteArray} {i : Nat} {a b : Int} (h : WdAt s i a b) (hi : i ≤ s.size) : -1 ≤ a ∧ a ≤ s.size ∧ -1 ≤ b ∧ b ≤ s.size := by
  rcases h with ⟨rfl, rfl, _⟩ | ⟨A, rfl, rfl, _, h1, _⟩ | ⟨A, B, rfl, rfl, h1, h2⟩
  · omega
  · omega
  · have := blk_in h1; have := blk_in h2; omega
theorem wd_no {s : ByteArray} {i : Nat} {a b : Int} (h : WdAt s i a b) (hi : i < s.size) (hc : ¬ (s[i]).toNat = 32) : WdAt s (i + 1) a b := by
  rcases h with ⟨rfl, rfl, h1⟩ | ⟨A, rfl, rfl, h1, h2, h3⟩ | h
  · exact .inl ⟨rfl, rfl, by rw [h1, blk_next s i hi hc]⟩
  · exact .inr (.inl ⟨A, rfl, rfl, h1, by omega, by rw [h3, blk_next s i hi hc]⟩)
  · exact .inr (.inr h)
theorem wd_first {s : ByteArray} {i : Nat} {a b : Int} (h : WdAt s i a b) (hi : i < s.size) (hc : (s[i]).toNat = 32) (ha : a < 0) : WdAt s (i + 1) (i : Int) b := by
  rcases h with ⟨rfl, rfl, h1⟩ | ⟨A, rfl, rfl, h1, h2, h3⟩ | ⟨A, B, rfl, rfl, h1, h2⟩
  · exact .inr (.inl ⟨i, rfl, rfl, by rw [h1, blk_hit s i hi hc], by omega, rfl⟩)
  · omega
  · omega
theorem wd_second {s : ByteArray} {i : Nat} {a b : Int} (h : WdAt s i a b) (hi : i < s.size) (hc : (s[i]).toNat = 32) (ha : ¬ a < 0) (hb : b < 0) : WdAt s (i + 1) a (i : Int) := by
  rcases h with ⟨rfl, rfl, h1⟩ | ⟨A, rfl, rfl, h1, h2, h3⟩ | ⟨A, B, rfl, rfl, h1, h2⟩
  · omega
  · exact .inr (.inr ⟨A, i, rfl, rfl, h1, by rw [h3, blk_hit s i hi hc]⟩)
  · omega
theorem wd_third {s : ByteArray} {i : Nat} {a b : Int} (h : WdAt s i a b) (ha : ¬ a < 0) (hb : ¬ b < 0) : WdAt s (i + 1) a b := by
  rcases h with ⟨rfl, rfl, h1⟩ | ⟨A, rfl, rfl, h1, h2, h3⟩ | h
  · omega
  · omega
  · exact .inr (.inr h)
theorem wd_none {s : ByteArray} {a b : Int} (h : WdAt s s.size a b) (hb : b < 0) : words s = (⟨#[]⟩, ⟨#[]⟩, ⟨#[]⟩) := by
  rcases h with ⟨rfl, rfl, h1⟩ | ⟨A, rfl, rfl, h1, h2, h3⟩ | ⟨A, B, rfl, rfl, h1, h2⟩
  · unfold words; rw [h1, blk_end s _ (Nat.le_refl _)]
  · unfold words; rw [h1]; simp only; rw [h3, blk_end s _ (Nat.le_refl _)]
  · omega
theorem wd_done {s : ByteArray} {a b : Int} (h : WdAt s s.size a b) (hb : ¬ b < 0) : ∃ A B : Nat, a = (A : Int) ∧ b = (B : Int) ∧ A < B ∧ B < s.size ∧ words s = (s.extract 0 A, s.extract (A + 1) B, s.extract (B + 1) s.size) := by
  rcases h with ⟨rfl, rfl, h1⟩ | ⟨A, rfl, rfl, h1, h2, h3⟩ | ⟨A, B, rfl, rfl, h1, h2⟩
  · omega
  · omega
  · have := blk_in h2
    exact ⟨A, B, rfl, rfl, by omega, by omega, by unfold words; rw [h1]; simp only; rw [h2]⟩
/-- bytes 13, 10, 13, 10 -/
def gap : ByteArray := ⟨#[13, 10, 13, 10]⟩
def wholeF (s : ByteArray) : Nat → Nat → Bool
  | 0, _ => false
  | n + 1, i => if s.extract i (i + 4) = gap then true else wholeF s n (i + 1)
/-- are the line and the fields of a message there? -/
def whole (s : ByteArray) : Bool := wholeF s (s.size - 3) 0
end Msg
end Go.Proofs.YtbcjpjhpobmpbaaGreatDoor
namespace Go.Proofs.YtbcjpjhpobmpbaaGreatDoor
open Go.RowKit
set_option linter.unusedVariables false
namespace Msg
open Line (byteAt byteAt_eq eol)
open Flds (Fld)

def decB (n : Int) : ByteArray := ⟨(Lib.itoa n).toArray⟩
/-- fields without those that say how long a body is -/
def bare (l : List Fld) : List Fld := Flds.drop (Flds.drop l Body.teName) Body.clName
def framed (l : List Fld) (b : ByteArray) : List Fld := bare l ++ [(Body.clName, decB b.size)]
def plain (l : List Fld) : Bool := !(Flds.get l Body.teName).2 && !(Flds.get l Body.clName).2 && decide (l.length < 12) && Flds.ok l
def reqOk (m u : ByteArray) (l : List Fld) (b : ByteArray) : Bool := Sign.isTok m && decide (m.size ≤ 10) && uriOk u && plain l && decide (b.size ≤ 60)
def ver : ByteArray := ⟨#[72, 84, 84, 80, 47, 49, 46, 49]⟩
/-- the text of a request -/
def reqText (m u : ByteArray) (l : List Fld) (b : ByteArray) : ByteArray := m ++ ⟨#[32]⟩ ++ u ++ ⟨#[32, 72, 84, 84, 80, 47, 49, 46, 49, 13, 10]⟩ ++ Flds.shown (framed l b) ++ b
def showReq (m u : ByteArray) (l : List Fld) (b : ByteArray) : ByteArray := if reqOk m u l b = true then reqText m u l b else ⟨#[]⟩
/-- a body's code as a message's -/
def codeOf (c : Int) : Int := if c = 0 then 0 else if c = 1 then 1 else 2
abbrev Rq := (ByteArray × ByteArray × List Fld × ByteArray) × Int × Int
def noRq (c : Int) : Rq := ((⟨#[]⟩, ⟨#[]⟩, [], ⟨#[]⟩), 0, c)
def readReq (s : ByteArray) : Rq :=
  if whole s = false then noRq (if 1500 < s.size then 2 else 1)
  else match eol s 0 with
    | none => noRq 2
    | some k => match Flds.read (s.extract (k + 2) s.size) with
      | none => noRq 2
      | some (l, n) =>
        if (words (s.extract 0 k)).2.2 = ver ∧ reqOk (words (s.extract 0 k)).1 (words (s.extract 0 k)).2.1 (bare l) ⟨#[]⟩ = true then
          (if (Body.bodyOf l (s.extract (k + 2 + n) s.size) false).2.2 = 0 then (((words (s.extract 0 k)).1, (words (s.extract 0 k)).2.1, bare l, (Body.bodyOf l (s.extract (k + 2 + n) s.size) false).1), ((k + 2 + n : Nat) : Int) + (Body.bodyOf l (s.extract (k + 2 + n) s.size) false).2.1, 0)
           else noRq (codeOf (Body.bodyOf l (s.extract (k + 2 + n) s.size) false).2.2))
        else noRq 2
/-- is a response right? -/
def respOk (st : Int) (l : List Fld) (b : ByteArray) : Bool := decide (200 ≤ st ∧ st ≤ 599) && plain l && decide (b.size ≤ 60) && (decide (st ≠ 204 ∧ st ≠ 304) || decide (b = ⟨#[]⟩))
def respFields (st : Int) (l : List Fld) (b : ByteArray) : List Fld := if st ≠ 204 ∧ st ≠ 304 then framed l b else l
def respText (st : Int) (l : List Fld) (b : ByteArray) : ByteArray := ⟨#[72, 84, 84, 80, 47, 49, 46, 49, 32]⟩ ++ decB st ++ ⟨#[32]⟩ ++ reason st ++ ⟨#[13, 10]⟩ ++ Flds.shown (respFields st l b) ++ b
def showResp (st : Int) (l : List Fld) (b : ByteArray) : ByteArray := if respOk st l b = true then respText st l b else ⟨#[]⟩
end Msg
end Go.Proofs.YtbcjpjhpobmpbaaGreatDoor
namespace Go.Proofs.YtbcjpjhpobmpbaaGreatDoor
open Go.RowKit
namespace Pol

def heurList : List Int := [200, 203, 204, 300, 301, 404, 410]
def heuristic (st : Int) : Bool := decide (st ∈ heurList)
end Pol
end Go.Proofs.YtbcjpjhpobmpbaaGreatDoor
namespace Go.Proofs.YtbcjpjhpobmpbaaGreatDoor
open Go.RowKit
set_option linter.unusedVariables false
namespace Pol
open Flds (Fld)
open Age (sMaxAge maxAge expiresName)

/-- does it hang on all? -/
def starred (L : List ByteArray) : Bool := L.any fun t => decide (t = star)
/-- what forbids that it is stored -/
def barred (lq lr : List Fld) : Bool := said lq noStore || said lr noStore || said lr priv
/-- is it for one alone who asked? -/
def alone (lq lr : List Fld) : Bool := (Flds.get lq authName).2 && !said lr publ && !said lr sMaxAge && !said lr mustRe
/-- is anything said that lets it be stored? -/
def letsBe (st : Int) (lr : List Fld) : Bool := said lr publ || said lr maxAge || said lr sMaxAge || (Flds.get lr expiresName).2 || heuristic st
def storable (m : ByteArray) (lq : List Fld) (st : Int) (lr : List Fld) (br : ByteArray) : Bool :=
  decide (m = getM) && decide (st ≠ 304) && Msg.respOk st lr br && !barred lq lr && !starred (Sign.split (Flds.get lr varyName).1) && !alone lq lr && letsBe st lr
theorem not_q (m : ByteArray) (lq : List Fld) (st : Int) (lr : List Fld) (br : ByteArray) (h : said lq noStore = true) : storable m lq st lr br = false := by
  unfold storable barred; rw [h]; simp
theorem not_r (m : ByteArray) (lq : List Fld) (st : Int) (lr : List Fld) (br : ByteArray) (h : said lr noStore = true) : storable m lq st lr br = false := by
  unfold storable barred; rw [h]; simp
theorem stored_is (m : ByteArray) (lq : List Fld) (st : Int) (lr : List Fld) (br : ByteArray) (h : storable m lq st lr br = true) : m = getM ∧ st ≠ 304 ∧ said lr priv = false := by
  unfold storable barred at h
  simp only [Bool.and_eq_true, decide_eq_true_iff, Bool.not_eq_true', Bool.or_eq_false_iff] at h
  obtain ⟨⟨⟨⟨⟨⟨h1, h2⟩, _⟩, h3⟩, _⟩, _⟩, _⟩ := h
  exact ⟨h1, h2, h3.2⟩
end Pol
end Go.Proofs.YtbcjpjhpobmpbaaGreatDoor
namespace Go.Proofs.YtbcjpjhpobmpbaaGreatDoor
open Go.RowKit
set_option linter.unusedVariables false
namespace Flds

theorem ret_int {k : IntKind} {a b : Int} (h : a = b) : Ending.returned (.int k a) = .returned (.int k b) := by rw [h]
set_option maxRecDepth 100000 in
set_option maxHeartbeats 1000000 in
theorem szField_any (f : Fld) (n : Int) (w : World) (h0 : 0 ≤ n) (h1 : n ≤ 1048576) (hf : f.1.size ≤ 9223372036854775807 ∧ f.2.size ≤ 9223372036854775807) :
    Calls Tryz.prog 42 #[.agg #[.string f.1, .string f.2], .int .i64 n] w fun e w' => e = .returned (.int .i64 (left n (f.1.size + f.2.size))) ∧ Below w.heap.size w w' := by
  obtain ⟨x, y⟩ := f
  simp only at hf ⊢
  obtain ⟨r, hr⟩ : ∃ r, left n (x.size + y.size) = r := ⟨_, rfl⟩
  rw [hr]
  unfold left at hr
  by_cases hx : n - x.size < 0
  · rw [if_pos (by omega)] at hr
    subst hr
    go_enter Tryz.func42, Tryz.ntmps42
    go_wp2
    go_ret
    exact ⟨rfl, (Below.refl _ _).alloc (Nat.le_refl _) _⟩
  · by_cases hy : n - x.size - y.size < 0
    · rw [if_pos (by omega)] at hr
      subst hr
      go_enter Tryz.func42, Tryz.ntmps42
      go_wp2
      go_ret
      exact ⟨rfl, (Below.refl _ _).alloc (Nat.le_refl _) _⟩
    · rw [if_neg (by omega)] at hr
      have HR := Num.hide hr
      clear hr
      go_enter Tryz.func42, Tryz.ntmps42
      go_wp2
      go_ret
      exact ⟨ret_int (by rw [← HR.out]; omega), (Below.refl _ _).alloc (Nat.le_refl _) _⟩

set_option maxRecDepth 100000 in
set_option maxHeartbeats 1000000 in
theorem szFieldS_any (v : Value) (l : List Fld) (n : Int) (w : World) (h : Is w v l) (hz : ∀ f ∈ l, f.1.size ≤ maxLen ∧ f.2.size ≤ maxLen) (h0 : 0 ≤ n) (h1 : n ≤ 1048576) :
    Calls Tryz.prog 21 #[v, .int .i64 n] w fun e w' => e = .returned (.int .i64 (left n (bulk l))) ∧ Below w.heap.size w w' := by
  obtain ⟨a, c, rfl, h2⟩ := is_form h
  have HA := Num.hide h2
  have HZ := Num.hide hz
  have hlen : l.length ≤ 9223372036854775807 := by
    by_cases h0 : 0 < l.length
    · obtain ⟨b, o, _, h3, h4, _⟩ := h2 h0
      unfold maxLen at h4; omega
    · omega
  clear h h2 hz
  obtain ⟨r, hr⟩ : ∃ r, left n (bulk l) = r := ⟨_, rfl⟩
  rw [hr]
  have HR := Num.hide hr
  clear hr
  by_cases hneg : n - l.length < 0
  · have hr : r = -1 := by
      rw [← HR.out]; unfold left bulk; rw [if_pos (by omega)]
    subst hr
    go_enter Tryz.func21, Tryz.ntmps21
    go_wp2
    go_ret
    exact ⟨rfl, Below.refl _ _⟩
  · go_enter Tryz.func21, Tryz.ntmps21
    go_wp2
    go_loopw [1, 5] (fun nv iv wr => ∃ i : Nat, i ≤ l.length ∧ iv = .int .i64 (i : Int) ∧ (∃ m : Int, nv = .int .i64 m ∧ 0 ≤ m ∧ m ≤ 1048576 ∧ Hid (m = n - l.length - (((l.take i).map fun f => f.1.size + f.2.size).sum : Nat))) ∧ Hid (Below w.heap.size w wr)) (fun _ iv _ => l.length - (intOf iv).toNat)
    case atStart => exact ⟨0, by omega, rfl, ⟨_, rfl, by omega, by omega, by simp [Hid]⟩, Below.refl _ _⟩
    case round =>
      obtain ⟨i, hi, rfl, ⟨m, rfl, hm0, hm1, HM⟩, HB⟩ := hrel
      by_cases hlt : i < l.length
      · obtain ⟨b, o, rfl, hc, hmx, hblt, hcell⟩ := Num.unhide HA (by omega)
        obtain ⟨hc1, hc2⟩ := hcell i hlt
        have hz := Num.unhide HZ l[i] (List.getElem_mem hlt)
        have c1 : wr.cell? ⟨b, o + i * 2, none⟩ = some (.string l[i].1) := by rw [HB.out.cell (p := ⟨b, o + i * 2, none⟩) hblt]; exact hc1
        have c2 : wr.cell? ⟨b, o + i * 2 + 1, none⟩ = some (.string l[i].2) := by rw [HB.out.cell (p := ⟨b, o + i * 2 + 1, none⟩) hblt]; exact hc2
        have HT := Num.hide (bulk_take l i hlt)
        have HL := Num.hide (bulk_le l (i + 1))
        clear hcell hc1 hc2
        generalize l[i] = f at c1 c2 hz HT
        obtain ⟨x, y⟩ := f
        simp only at c1 c2 hz
        unfold maxLen at hz
        have hsum : Hid (((l.take (i + 1)).map fun f => f.1.size + f.2.size).sum = ((l.take i).map fun f => f.1.size + f.2.size).sum + (x.size + y.size)) := HT.out
        by_cases hn : m - (x.size + y.size : Nat) < 0
        · have hl : left m (x.size + y.size) = -1 := by unfold left; rw [if_pos hn]
          have hr : r = -1 := by
            have e1 := HM.out; have e2 := HL.out; have e3 := hsum.out
            rw [← HR.out]; unfold left bulk; rw [if_pos (by omega)]
          subst hr
          have HL2 := Num.hide hl
          clear hl
          go_wp2_with fail
          refine (szField_any (x, y) m _ hm0 hm1 hz).mono ?_
          rintro e w1 ⟨rfl, hb1⟩
          rw [show left m (((x, y) : Fld).1.size + ((x, y) : Fld).2.size) = -1 from HL2.out]
          go_wp2
          go_ret
          exact ⟨rfl, HB.out.trans (hb1.mono HB.out.size)⟩
        · have hl : left m (x.size + y.size) = m - (x.size + y.size : Nat) := by unfold left; rw [if_neg hn]
          have HL2 := Num.hide hl
          have hmm : Hid (m - (x.size + y.size : Nat) = n - l.length - (((l.take (i + 1)).map fun f => f.1.size + f.2.size).sum : Nat)) := by
            have e1 := HM.out; have e3 := hsum.out
            show _ = _
            omega
          clear hl
          go_wp2_with fail
          refine (szField_any (x, y) m _ hm0 hm1 hz).mono ?_
          rintro e w1 ⟨rfl, hb1⟩
          rw [show left m (((x, y) : Fld).1.size + ((x, y) : Fld).2.size) = m - (x.size + y.size : Nat) from HL2.out]
          have HB1 := Num.hide (HB.out.trans (hb1.mono HB.out.size))
          clear hb1
          go_wp2
          go_roundw
          case rel => exact ⟨i + 1, by omega, by go_num, ⟨_, rfl, by omega, by omega, hmm⟩, HB1⟩
          case measure => simp [intOf]; omega
      · obtain rfl : i = l.length := by omega
        have hr : r = m := by
          have e1 := HM.out
          rw [List.take_of_length_le (Nat.le_refl _)] at e1
          rw [← HR.out]; unfold left bulk; rw [if_neg (by omega)]; omega
        subst hr
        go_wp2
        go_ret
        exact ⟨rfl, HB.out⟩
end Flds
end Go.Proofs.YtbcjpjhpobmpbaaGreatDoor
