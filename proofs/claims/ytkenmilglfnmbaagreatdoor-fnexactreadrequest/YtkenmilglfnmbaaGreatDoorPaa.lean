/-
  UriNum: What a target looks like, plain.
  InSpec: l1In of the specification.
  UriSpec: UriOk of the specification.
  FldReadNum: Fields read off a text, plain.
  FldLineNum: Lines of a text, and the fields of lines: plain facts (where Cut finds a line's end, a colon; reading by lines is reading field by field).
  FldShowNum: The text of fields, plain.
  FldPut: A field put behind a list of fields in a row of the call's own.
  FldSets: What it is to drop a name of a list of fields, and to set one.
  FldGets: What it is to get all values of a name of a list of fields.
  FldBack: Plain facts on fields: what is set is there once, what is dropped is not, the rest stays; what is shown is read again.
-/
import Derived.Test.YtkenmilglfnmbaaGreatDoorSignNum
import Derived.Test.YtkenmilglfnmbaaGreatDoorByteAt
import Derived.Test.YtkenmilglfnmbaaGreatDoorNum
import Derived.Test.YtkenmilglfnmbaaGreatDoorRows
import Derived.WalkKit
import Derived.WalkLawsBesides
import Derived.Laws.Strings
import Derived.Test.YtkenmilglfnmbaaGreatDoorFldsOkSpec
import Derived.Test.YtkenmilglfnmbaaGreatDoorLineDef
import Derived.Test.YtkenmilglfnmbaaGreatDoorTrimSpec
import Derived.Test.YtkenmilglfnmbaaGreatDoorLineNum
import Derived.Test.YtkenmilglfnmbaaGreatDoorFldOwn
import Derived.Test.YtkenmilglfnmbaaGreatDoorFlds
namespace Go.Proofs.YtkenmilglfnmbaaGreatDoor
open Go.RowKit
set_option linter.unusedVariables false
namespace Msg
open Line (byteAt byteAt_eq)

def uriB (b : UInt8) : Bool := decide (32 < (b.toNat : Int) ∧ (b.toNat : Int) < 127)
def uriOk (s : ByteArray) : Bool := s.data.toList.all uriB && decide (1 ≤ s.size ∧ s.size ≤ 20) && decide (byteAt s 0 = 47)
end Msg
end Go.Proofs.YtkenmilglfnmbaaGreatDoor
namespace Go.Proofs.YtkenmilglfnmbaaGreatDoor
open Go.RowKit
set_option linter.unusedVariables false
namespace Date

set_option maxRecDepth 100000 in
set_option maxHeartbeats 1000000 in
theorem in_spec (x lo hi : Int) (w : World) : Calls Tryz.prog 65 #[.int .i64 x, .int .i64 lo, .int .i64 hi] w fun e w' => e = .returned (.bool (decide (lo ≤ x ∧ x ≤ hi))) ∧ w = w' := by
  obtain ⟨r, hr⟩ : ∃ r, decide (lo ≤ x ∧ x ≤ hi) = r := ⟨_, rfl⟩
  rw [hr]
  by_cases h1 : lo ≤ x
  · obtain rfl : decide (x ≤ hi) = r := by rw [← hr]; simp [h1]
    clear hr
    go_enter Tryz.func65, Tryz.ntmps65
    go_wp2
    go_ret
    exact ⟨rfl, rfl⟩
  · obtain rfl : false = r := by rw [← hr]; simp [h1]
    clear hr
    go_enter Tryz.func65, Tryz.ntmps65
    go_wp2
    go_ret
    exact ⟨rfl, rfl⟩
end Date
end Go.Proofs.YtkenmilglfnmbaaGreatDoor
namespace Go.Proofs.YtkenmilglfnmbaaGreatDoor
open Go.RowKit
set_option linter.unusedVariables false
namespace Msg
open Line (byteAt byteAt_eq)

set_option maxRecDepth 100000 in
set_option maxHeartbeats 1000000 in
theorem uri_spec (s : ByteArray) (w : World) (hs : s.size ≤ maxLen) : Calls Tryz.prog 56 #[.string s] w fun e w' => e = .returned (.bool (uriOk s)) ∧ w = w' := by
  unfold maxLen at hs
  obtain ⟨r, hr⟩ : ∃ r, uriOk s = r := ⟨_, rfl⟩
  rw [hr]
  have HR := Num.hide hr
  clear hr
  go_enter Tryz.func56, Tryz.ntmps56
  go_wp2
  go_loop [3] (fun iv => ∃ k : Nat, k ≤ s.size ∧ iv = .int .i64 (k : Int) ∧ Hid ((s.data.toList.take k).all uriB = true)) (fun iv => s.size - (intOf iv).toNat)
  case atStart => exact ⟨0, by omega, rfl, by show _ = _; simp⟩
  case round =>
    obtain ⟨k, hk, rfl, HA⟩ := hrel
    by_cases hlt : k < s.size
    · have hc := s[k].toNat_lt
      have HT := Num.hide (Sign.all_take s uriB k hlt)
      have HN := Num.hide (fun h => Sign.not_all s uriB k hlt h)
      by_cases h1 : (s[k].toNat : Int) ≤ 32
      · obtain rfl : r = false := by rw [← HR.out]; unfold uriOk; rw [HN.out (decide_eq_false (by omega))]; rfl
        clear HR HA HT HN
        go_wp2
        all_goals go_ret
        all_goals exact ⟨rfl, rfl⟩
      · have d1 : decide ((s[k].toNat : Int) ≤ 32) = false := by rw [decide_eq_false_iff_not]; exact h1
        by_cases h2 : 127 ≤ (s[k].toNat : Int)
        · obtain rfl : r = false := by rw [← HR.out]; unfold uriOk; rw [HN.out (decide_eq_false (by omega))]; rfl
          clear HR HA HT HN
          go_wp2
          all_goals go_ret
          all_goals exact ⟨rfl, rfl⟩
        · have d2 : decide (127 ≤ (s[k].toNat : Int)) = false := by rw [decide_eq_false_iff_not]; exact h2
          have HA2 : Hid ((s.data.toList.take (k + 1)).all uriB = true) := by
            show _ = _; rw [HT.out, HA.out, Bool.true_and]; exact decide_eq_true (by omega)
          clear HA HT HN
          go_wp2
          all_goals go_round
          case rel => exact ⟨k + 1, by omega, by go_num, HA2⟩
          case measure => simp [intOf]; omega
    · obtain rfl : k = s.size := by omega
      have ha := Sign.all_full s uriB HA.out
      have hr := HR.out
      unfold uriOk at hr
      rw [ha, Bool.true_and] at hr
      clear HA ha
      by_cases h20 : (1 : Int) ≤ (s.size : Int) ∧ (s.size : Int) ≤ 20
      · rw [decide_eq_true (by omega : 1 ≤ s.size ∧ s.size ≤ 20), Bool.true_and, byteAt_eq s 0 (by omega)] at hr
        have h0 : 0 < s.size := by omega
        have hz : (0 : Int) < (s.size : Int) := by omega
        by_cases h47 : (s[0]).toNat = 47
        · have d47 : (((s[0]).toNat : Int) == 47) = true := by rw [beq_iff_eq]; omega
          rw [decide_eq_true h47] at hr
          subst hr
          clear HR h47
          go_wp2_with fail
          refine (Date.in_spec _ _ _ _).mono ?_
          rintro e w1 ⟨rfl, rfl⟩
          rw [decide_eq_true h20]
          go_wp2
          go_ret
          exact ⟨rfl, rfl⟩
        · have d47 : (((s[0]).toNat : Int) == 47) = false := by rw [beq_eq_false_iff_ne]; omega
          rw [decide_eq_false h47] at hr
          subst hr
          clear HR h47
          go_wp2_with fail
          refine (Date.in_spec _ _ _ _).mono ?_
          rintro e w1 ⟨rfl, rfl⟩
          rw [decide_eq_true h20]
          go_wp2
          go_ret
          exact ⟨rfl, rfl⟩
      · rw [decide_eq_false (by omega : ¬ (1 ≤ s.size ∧ s.size ≤ 20)), Bool.false_and] at hr
        subst hr
        clear HR
        go_wp2_with fail
        refine (Date.in_spec _ _ _ _).mono ?_
        rintro e w1 ⟨rfl, rfl⟩
        rw [decide_eq_false h20]
        go_wp2
        go_ret
        exact ⟨rfl, rfl⟩
theorem uri_spec_b (s : ByteArray) (w : World) (hs : s.size ≤ maxLen) : Calls Tryz.prog 56 #[.string s] w fun e w' => e = .returned (.bool (uriOk s)) ∧ Below w.heap.size w w' :=
  (uri_spec s w hs).mono (fun _ _ h => ⟨h.1, h.2 ▸ Below.refl _ _⟩)
end Msg
end Go.Proofs.YtkenmilglfnmbaaGreatDoor
namespace Go.Proofs.YtkenmilglfnmbaaGreatDoor
open Go.RowKit
set_option linter.unusedVariables false
set_option linter.unusedSimpArgs false
namespace Flds

/-- the field of a line, where a colon stands at k -/
def fieldOf (line : ByteArray) (k : Nat) : Fld := (Sign.lower (line.extract 0 k), Sign.trim (line.extract (k + 1) line.size))
/-- what is read from 'a' on behind the fields l, in at most so many lines: the fields and the next place -/
def readGo (s : ByteArray) : Nat → Nat → List Fld → Option (List Fld × Nat)
  | 0, _, _ => none
  | n + 1, a, l =>
    match Line.eol s a with
    | none => none
    | some i => if i = a then some (l, i + 2) else
      match Line.colon (s.extract a i) with
      | none => none
      | some k => if okF (fieldOf (s.extract a i) k) = true then readGo s n (i + 2) (l ++ [fieldOf (s.extract a i) k]) else none
/-- the fields and the place behind them -/
def read (s : ByteArray) : Option (List Fld × Nat) := readGo s 13 0 []
/-- where the reading stands -/
structure RdAt (s : ByteArray) (a : Nat) (l : List Fld) : Prop where
  le : a ≤ s.size
  len : l.length ≤ 13
  all : l.all okF = true
  same : read s = readGo s (13 - l.length) a l
  small : ∀ f ∈ l, f.1.size ≤ 60 ∧ f.2.size ≤ 60
theorem rd_start (s : ByteArray) : RdAt s 0 [] := ⟨Nat.zero_le _, Nat.zero_le _, rfl, rfl, fun f hf => by cases hf⟩
theorem okF_small {f : Fld} (h : okF f = true) : f.1.size ≤ 60 ∧ f.2.size ≤ 60 := by
  unfold okF at h
  simp only [Bool.and_eq_true, decide_eq_true_iff] at h
  omega
section
variable {s : ByteArray} {a : Nat} {l : List Fld}
theorem rd_full (h : RdAt s a l) (hl : ¬ l.length ≤ 12) : read s = none := by
  rw [h.same, show 13 - l.length = 0 by omega]; rfl
theorem rd_step (h : RdAt s a l) (hl : l.length ≤ 12) : ∃ n, 13 - l.length = n + 1 := ⟨12 - l.length, by omega⟩
theorem rd_none (h : RdAt s a l) (hl : l.length ≤ 12) (he : Line.eol s a = none) : read s = none := by
  obtain ⟨n, hn⟩ := rd_step h hl
  rw [h.same, hn, readGo, he]
theorem rd_done (h : RdAt s a l) (hl : l.length ≤ 12) (he : Line.eol s a = some a) : read s = some (l, a + 2) := by
  obtain ⟨n, hn⟩ := rd_step h hl
  rw [h.same, hn, readGo, he]; simp
theorem rd_nocolon (h : RdAt s a l) (hl : l.length ≤ 12) {i : Nat} (he : Line.eol s a = some i) (hi : i ≠ a) (hc : Line.colon (s.extract a i) = none) : read s = none := by
  obtain ⟨n, hn⟩ := rd_step h hl
  rw [h.same, hn, readGo, he]; simp only; rw [if_neg hi, hc]
theorem rd_bad (h : RdAt s a l) (hl : l.length ≤ 12) {i k : Nat} (he : Line.eol s a = some i) (hi : i ≠ a) (hc : Line.colon (s.extract a i) = some k) (hf : okF (fieldOf (s.extract a i) k) = false) : read s = none := by
  obtain ⟨n, hn⟩ := rd_step h hl
  rw [h.same, hn, readGo, he]; simp only; rw [if_neg hi, hc]; simp only; rw [if_neg (by rw [hf]; decide)]
theorem rd_more (h : RdAt s a l) (hl : l.length ≤ 12) {i k : Nat} (he : Line.eol s a = some i) (hi : i ≠ a) (hc : Line.colon (s.extract a i) = some k) (hf : okF (fieldOf (s.extract a i) k) = true) : RdAt s (i + 2) (l ++ [fieldOf (s.extract a i) k]) where
  le := by have := Line.eol_in he; omega
  len := by rw [List.length_append]; simp; omega
  all := by rw [List.all_append, h.all]; simp [hf]
  same := by
    obtain ⟨n, hn⟩ := rd_step h hl
    rw [h.same, hn, readGo, he]; simp only; rw [if_neg hi, hc]; simp only; rw [if_pos hf, List.length_append, List.length_singleton, show 13 - (l.length + 1) = n by omega]
  small := by
    intro f hf2
    rcases List.mem_append.1 hf2 with h1 | h1
    · exact h.small f h1
    · obtain rfl := List.mem_singleton.1 h1
      exact okF_small hf
theorem rd_ok (h : RdAt s a l) (hl : l.length ≤ 12) : ok l = true := by unfold ok; rw [h.all, Bool.true_and]; exact decide_eq_true hl
end
/-- what the call tells: the fields, how many bytes, and whether there were any to be read -/
def readL (s : ByteArray) : List Fld := match read s with | some (l, _) => l | none => []
def readN (s : ByteArray) : Int := match read s with | some (_, n) => (n : Int) | none => 0
def readB (s : ByteArray) : Bool := (read s).isSome
theorem told_none {s : ByteArray} (h : read s = none) : readL s = [] ∧ readN s = 0 ∧ readB s = false := by unfold readL readN readB; rw [h]; exact ⟨rfl, rfl, rfl⟩
theorem told_some {s : ByteArray} {l : List Fld} {n : Nat} (h : read s = some (l, n)) : readL s = l ∧ readN s = (n : Int) ∧ readB s = true := by unfold readL readN readB; rw [h]; exact ⟨rfl, rfl, rfl⟩
theorem readGo_length (s : ByteArray) : ∀ (n a : Nat) (l : List Fld) (p : List Fld × Nat), readGo s n a l = some p → p.1.length ≤ l.length + n := by
  intro n
  induction n with
  | zero => intro a l p h; cases h
  | succ n ih =>
    intro a l p h
    rw [readGo] at h
    cases he : Line.eol s a with
    | none => rw [he] at h; cases h
    | some i =>
      rw [he] at h
      simp only at h
      by_cases hi : i = a
      · rw [if_pos hi] at h; cases h; simp only; omega
      · rw [if_neg hi] at h
        cases hc : Line.colon (s.extract a i) with
        | none => rw [hc] at h; cases h
        | some k =>
          rw [hc] at h
          simp only at h
          by_cases hk : okF (fieldOf (s.extract a i) k) = true
          · rw [if_pos hk] at h
            have := ih _ _ _ h
            rw [List.length_append, List.length_singleton] at this
            omega
          · rw [if_neg hk] at h; cases h
theorem readL_length (s : ByteArray) : (readL s).length ≤ 13 := by
  unfold readL
  cases h : read s with
  | none => exact Nat.zero_le _
  | some p =>
    have := readGo_length s _ _ _ _ h
    rw [List.length_nil] at this
    obtain ⟨l, n⟩ := p
    simp only at this ⊢
    omega
end Flds
end Go.Proofs.YtkenmilglfnmbaaGreatDoor
namespace Go.Proofs.YtkenmilglfnmbaaGreatDoor
open Go.RowKit
set_option linter.unusedVariables false
namespace Flds

/-- the lines from 'a' on up to an empty one, at most n with it, and the place behind it -/
def linesGo (s : ByteArray) : Nat → Nat → Option (List ByteArray × Nat)
  | 0, _ => none
  | n + 1, a =>
    match Line.eol s a with
    | none => none
    | some i => if i = a then some ([], i + 2) else (linesGo s n (i + 2)).map fun p => (s.extract a i :: p.1, p.2)
def lines (s : ByteArray) : Option (List ByteArray × Nat) := linesGo s 13 0
structure LnAt (s : ByteArray) (a : Nat) (L : List ByteArray) : Prop where
  le : a ≤ s.size
  len : L.length ≤ 13
  small : ∀ t ∈ L, t.size ≤ s.size
  same : lines s = (linesGo s (13 - L.length) a).map fun p => (L ++ p.1, p.2)
theorem ln_start (s : ByteArray) : LnAt s 0 [] where
  le := Nat.zero_le _
  len := Nat.zero_le _
  small := fun t h => by cases h
  same := by
    show linesGo s 13 0 = (linesGo s 13 0).map fun p => ([] ++ p.1, p.2)
    cases linesGo s 13 0 <;> rfl
section
variable {s : ByteArray} {a : Nat} {L : List ByteArray}
theorem ln_full (h : LnAt s a L) (hl : ¬ L.length ≤ 12) : lines s = none := by
  rw [h.same, show 13 - L.length = 0 by omega]; rfl
theorem ln_step (hl : L.length ≤ 12) : ∃ n, 13 - L.length = n + 1 := ⟨12 - L.length, by omega⟩
theorem ln_none (h : LnAt s a L) (hl : L.length ≤ 12) (he : Line.eol s a = none) : lines s = none := by
  obtain ⟨n, hn⟩ := ln_step hl
  rw [h.same, hn, linesGo, he]; rfl
theorem ln_done (h : LnAt s a L) (hl : L.length ≤ 12) (he : Line.eol s a = some a) : lines s = some (L, a + 2) := by
  obtain ⟨n, hn⟩ := ln_step hl
  rw [h.same, hn, linesGo, he]; simp
theorem ln_more (h : LnAt s a L) (hl : L.length ≤ 12) {i : Nat} (he : Line.eol s a = some i) (hi : i ≠ a) : LnAt s (i + 2) (L ++ [s.extract a i]) where
  le := by have := Line.eol_in he; omega
  len := by rw [List.length_append]; simp; omega
  small := by
    intro t ht
    rcases List.mem_append.1 ht with h1 | h1
    · exact h.small t h1
    · obtain rfl := List.mem_singleton.1 h1
      rw [ByteArray.size_extract]; omega
  same := by
    obtain ⟨n, hn⟩ := ln_step hl
    rw [h.same, hn, linesGo, he]
    simp only
    rw [if_neg hi, List.length_append, List.length_singleton, show 13 - (L.length + 1) = n by omega]
    cases linesGo s n (i + 2) <;> simp
end
/-- what is told of the lines -/
def lnL (s : ByteArray) : List ByteArray := match lines s with | some (l, _) => l | none => []
def lnN (s : ByteArray) : Int := match lines s with | some (_, n) => (n : Int) | none => 0
def lnB (s : ByteArray) : Bool := (lines s).isSome
theorem ln_told_none {s : ByteArray} (h : lines s = none) : lnL s = [] ∧ lnN s = 0 ∧ lnB s = false := by unfold lnL lnN lnB; rw [h]; exact ⟨rfl, rfl, rfl⟩
theorem ln_told_some {s : ByteArray} {l : List ByteArray} {n : Nat} (h : lines s = some (l, n)) : lnL s = l ∧ lnN s = (n : Int) ∧ lnB s = true := by unfold lnL lnN lnB; rw [h]; exact ⟨rfl, rfl, rfl⟩
theorem linesGo_len (s : ByteArray) : ∀ (n a : Nat) (p : List ByteArray × Nat), linesGo s n a = some p → p.1.length < n ∧ ∀ t ∈ p.1, t.size ≤ s.size := by
  intro n
  induction n with
  | zero => intro a p h; cases h
  | succ n ih =>
    intro a p h
    rw [linesGo] at h
    cases he : Line.eol s a with
    | none => rw [he] at h; cases h
    | some i =>
      rw [he] at h
      simp only at h
      by_cases hi : i = a
      · rw [if_pos hi] at h; cases h; exact ⟨Nat.zero_lt_succ _, fun t ht => by cases ht⟩
      · rw [if_neg hi] at h
        obtain ⟨q, hq, rfl⟩ := Option.map_eq_some_iff.1 h
        obtain ⟨h1, h2⟩ := ih _ _ hq
        refine ⟨by simp; omega, fun t ht => ?_⟩
        rcases List.mem_cons.1 ht with rfl | h3
        · rw [ByteArray.size_extract]; omega
        · exact h2 t h3
/-- the field of a line -/
def fieldAt (t : ByteArray) : Option Fld := (Line.colon t).map (fieldOf t)
def good (t : ByteArray) : Bool := match fieldAt t with | some f => okF f | none => false
theorem read_lines (s : ByteArray) : ∀ (n a : Nat) (l : List Fld), readGo s n a l = (linesGo s n a).bind fun p => if p.1.all good = true then some (l ++ p.1.filterMap fieldAt, p.2) else none := by
  intro n
  induction n with
  | zero => intro a l; rfl
  | succ n ih =>
    intro a l
    rw [readGo, linesGo]
    cases he : Line.eol s a with
    | none => rfl
    | some i =>
      simp only
      by_cases hi : i = a
      · rw [if_pos hi, if_pos hi]; simp
      · rw [if_neg hi, if_neg hi]
        cases hc : Line.colon (s.extract a i) with
        | none =>
          have hg : good (s.extract a i) = false := by unfold good fieldAt; rw [hc]; rfl
          cases linesGo s n (i + 2) with
          | none => rfl
          | some p => simp [hg]
        | some k =>
          simp only
          have hf : fieldAt (s.extract a i) = some (fieldOf (s.extract a i) k) := by unfold fieldAt; rw [hc]; rfl
          have hg : good (s.extract a i) = okF (fieldOf (s.extract a i) k) := by unfold good; rw [hf]
          cases hok : okF (fieldOf (s.extract a i) k) with
          | false =>
            rw [if_neg (by simp)]
            cases linesGo s n (i + 2) with
            | none => rfl
            | some p => simp [hg, hok]
          | true =>
            rw [if_pos rfl, ih]
            cases linesGo s n (i + 2) with
            | none => rfl
            | some p => simp [hg, hok, hf]
theorem read_of_lines (s : ByteArray) : read s = (lines s).bind fun p => if p.1.all good = true then some (p.1.filterMap fieldAt, p.2) else none := by
  unfold read lines
  rw [read_lines]
  simp
theorem flt_len (L : List ByteArray) : (L.filterMap fieldAt).length ≤ L.length := List.length_filterMap_le _ _
/-- where a line has no field, or one is not right, nothing is read -/
theorem good_short (L : List ByteArray) (h : (L.filterMap fieldAt).length < L.length) : L.all good = false := by
  rw [Bool.eq_false_iff]
  intro ha
  rw [List.all_eq_true] at ha
  have : ∀ (M : List ByteArray), (∀ t ∈ M, good t = true) → (M.filterMap fieldAt).length = M.length := by
    intro M
    induction M with
    | nil => intro _; rfl
    | cons t M ih =>
      intro hM
      have h1 := hM t (List.mem_cons_self ..)
      have h2 := ih (fun u hu => hM u (List.mem_cons_of_mem _ hu))
      unfold good at h1
      cases hf : fieldAt t with
      | none => rw [hf] at h1; cases h1
      | some f => rw [List.filterMap_cons_some hf, List.length_cons, List.length_cons, h2]
  have := this L ha
  omega
theorem good_full (L : List ByteArray) (h : ¬ (L.filterMap fieldAt).length < L.length) : L.all good = (L.filterMap fieldAt).all okF := by
  induction L with
  | nil => rfl
  | cons t M ih =>
    cases hf : fieldAt t with
    | none =>
      rw [List.filterMap_cons_none hf, List.length_cons] at h
      have := flt_len M
      omega
    | some f =>
      rw [List.filterMap_cons_some hf, List.length_cons, List.length_cons] at h
      have hg : good t = okF f := by unfold good; rw [hf]
      rw [List.filterMap_cons_some hf, List.all_cons, List.all_cons, hg, ih (by omega)]
theorem flt_take (L : List ByteArray) (k : Nat) (h : k < L.length) : (L.take (k + 1)).filterMap fieldAt = (L.take k).filterMap fieldAt ++ (match fieldAt L[k] with | some f => [f] | none => []) := by
  rw [List.take_succ_eq_append_getElem h, List.filterMap_append]
  cases hf : fieldAt L[k] with
  | none => rw [List.filterMap_cons_none hf]; rfl
  | some f => rw [List.filterMap_cons_some hf]; rfl
end Flds
end Go.Proofs.YtkenmilglfnmbaaGreatDoor
namespace Go.Proofs.YtkenmilglfnmbaaGreatDoor
open Go.RowKit
set_option linter.unusedVariables false
namespace Flds

/-- one field more behind a text -/
def showStep (s : ByteArray) (f : Fld) : ByteArray := s ++ f.1 ++ ⟨#[58, 32]⟩ ++ f.2 ++ ⟨#[13, 10]⟩
def showGo (l : List Fld) : ByteArray := l.foldl showStep ⟨#[]⟩
/-- the text of fields; empty where they are not right -/
def shown (l : List Fld) : ByteArray := if ok l = true then showGo l ++ ⟨#[13, 10]⟩ else ⟨#[]⟩
theorem showGo_take (l : List Fld) (k : Nat) (h : k < l.length) : showGo (l.take (k + 1)) = showStep (showGo (l.take k)) l[k] := by
  unfold showGo
  rw [List.take_succ_eq_append_getElem h, List.foldl_append]; rfl
theorem showGo_size (l : List Fld) : (showGo l).size = 4 * l.length + (l.map fun f => f.1.size + f.2.size).sum := by
  refine Num.snoc_ind (P := fun l => (showGo l).size = 4 * l.length + (l.map fun f => f.1.size + f.2.size).sum) rfl ?_ l
  intro l f ih
  have e : showGo (l ++ [f]) = showStep (showGo l) f := by unfold showGo; rw [List.foldl_append]; rfl
  have hz1 : (⟨#[58, 32]⟩ : ByteArray).size = 2 := rfl
  have hz2 : (⟨#[13, 10]⟩ : ByteArray).size = 2 := rfl
  rw [e, List.length_append, List.map_append, List.sum_append]
  unfold showStep
  simp only [ByteArray.size_append, List.length_singleton, List.map_cons, List.map_nil, List.sum_cons, List.sum_nil, hz1, hz2]
  omega

end Flds
end Go.Proofs.YtkenmilglfnmbaaGreatDoor
namespace Go.Proofs.YtkenmilglfnmbaaGreatDoor
open Go.RowKit
set_option linter.unusedVariables false
namespace Flds

theorem ne_text {x y : ByteArray} (h : ¬ x = y) : (x.toList == y.toList) = false := by
  rw [beq_eq_false_iff_ne, ByteArray.toList_eq, ByteArray.toList_eq]
  intro e; exact h (ByteArray.ext (Array.toList_inj.1 e))
theorem cells_two (w : World) (x y : ByteArray) : ∀ j u, [Value.string x, Value.string y][j]? = some u → (w.alloc (.cells #[.string x, .string y] 36)).cell? ((⟨w.heap.size, 0, none⟩ : Addr).add j) = some u := by
  intro j u hj
  match j, hj with
  | 0, hj => simp at hj; subst hj; simp [Addr.add]
  | 1, hj => simp at hj; subst hj; simp [Addr.add]
theorem two_ok (x y : ByteArray) : ∀ u ∈ [Value.string x, Value.string y], u.oneCell' = true := by
  intro u hu; simp at hu; rcases hu with rfl | rfl <;> rfl
theorem put_more {w wr w2 : World} {B : Nat} {v v' : Value} {l : List Fld} {x y : ByteArray} (hB : B ≤ wr.heap.size) (ho : Own B wr v l) (hb : Below B w wr)
    (ho2 : w2.ownsRow B 36 2 v' (l.length + 1) (l.flatMap cells ++ [.string x, .string y])) (hg : (wr.alloc (.cells #[.string x, .string y] 36)).grownBy w2 v.ownBlock) : Own B w2 v' (l ++ [(x, y)]) ∧ Below B w w2 :=
  ⟨Recs.own_snoc ho2, (hb.alloc hB _).grown hg (by simp; omega) (fun j hj => (Recs.own_lt ho j hj).1)⟩
theorem made_nil (w : World) : Own w.heap.size (w.alloc (.cells #[] 36)) (.slice (some ⟨w.heap.size, 0, none⟩) 0 0) [] := World.ownsRow_made w #[] 0 (Nat.le_refl _) (Nat.zero_le _) rfl
theorem two_cells {w : World} {g : Nat} {x y : Value} {T : TypeId} (h : w.heap[g]? = some (.cells #[x, y] T (0, 0))) : w.cell? ⟨g, 0, none⟩ = some x ∧ w.cell? ⟨g, 1, none⟩ = some y ∧ w.frozen? ⟨g, 0, none⟩ = false ∧ w.frozen? ⟨g, 1, none⟩ = false :=
  ⟨by rw [cell_of_row w g _ _ _ _ h]; rfl, by rw [cell_of_row w g _ _ _ _ h]; rfl, frozen_of_row w g 0 _ _ h, frozen_of_row w g 1 _ _ h⟩
theorem box_first {W : World} {g : Nat} {x y : ByteArray} {u : Value} (h : W.cell? ⟨g, 0, none⟩ = some u) : ((W.setCell ⟨g, 0, none⟩ (.string x)).setCell ⟨g, 1, none⟩ (.string y)).cell? ⟨g, 0, none⟩ = some (.string x) := by
  rw [World.cell?_setCell_other (h := by intro e; have e2 : 1 = 0 := congrArg Addr.off e; omega), World.cell?_setCell_same (h := h)]
theorem box_second {W : World} {g : Nat} {x y : ByteArray} {u : Value} (h : W.cell? ⟨g, 1, none⟩ = some u) : ((W.setCell ⟨g, 0, none⟩ (.string x)).setCell ⟨g, 1, none⟩ (.string y)).cell? ⟨g, 1, none⟩ = some (.string y) := by
  exact World.cell?_setCell_same _ _ _ (by rw [World.cell?_setCell_other (h := by intro e; have e2 : 0 = 1 := congrArg Addr.off e; omega)]; exact h)

end Flds
end Go.Proofs.YtkenmilglfnmbaaGreatDoor
namespace Go.Proofs.YtkenmilglfnmbaaGreatDoor
open Go.RowKit
set_option linter.unusedVariables false
namespace Flds

/-- those of another name -/
def drop (l : List Fld) (name : ByteArray) : List Fld := l.filter fun f => decide (¬ f.1 = name)
theorem drop_take (l : List Fld) (name : ByteArray) (k : Nat) (h : k < l.length) : drop (l.take (k + 1)) name = drop (l.take k) name ++ (if l[k].1 = name then [] else [l[k]]) := by
  unfold drop
  rw [List.take_succ_eq_append_getElem h, List.filter_append]
  by_cases e : l[k].1 = name
  · rw [if_pos e]; simp [e]
  · rw [if_neg e]; simp [e]
theorem drop_length (l : List Fld) (name : ByteArray) : (drop l name).length ≤ l.length := List.length_filter_le _ _
/-- one field more, as it is set -/
def setStep (name value : ByteArray) (r : List Fld × Bool) (f : Fld) : List Fld × Bool :=
  if f.1 = name then (if r.2 = true then r else (r.1 ++ [(name, value)], true)) else (r.1 ++ [f], r.2)
def setGo (l : List Fld) (name value : ByteArray) : List Fld × Bool := l.foldl (setStep name value) ([], false)
/-- the first of that name has the value, others of it are gone; else it is put behind all -/
def set (l : List Fld) (name value : ByteArray) : List Fld := if (setGo l name value).2 = true then (setGo l name value).1 else (setGo l name value).1 ++ [(name, value)]
theorem setGo_take (l : List Fld) (name value : ByteArray) (k : Nat) (h : k < l.length) : setGo (l.take (k + 1)) name value = setStep name value (setGo (l.take k) name value) l[k] := by
  unfold setGo
  rw [List.take_succ_eq_append_getElem h, List.foldl_append]; rfl
theorem setGo_length (l : List Fld) (name value : ByteArray) : (setGo l name value).1.length ≤ l.length := by
  refine Num.snoc_ind (P := fun l => (setGo l name value).1.length ≤ l.length) (by simp [setGo]) ?_ l
  intro l f ih
  have e : setGo (l ++ [f]) name value = setStep name value (setGo l name value) f := by unfold setGo; rw [List.foldl_append]; rfl
  rw [e, List.length_append]
  unfold setStep
  split
  · split
    · simp; omega
    · simp; omega
  · simp; omega
theorem set_length (l : List Fld) (name value : ByteArray) : (set l name value).length ≤ l.length + 1 := by
  have := setGo_length l name value
  unfold set
  split
  · omega
  · rw [List.length_append]; simp; omega
end Flds
end Go.Proofs.YtkenmilglfnmbaaGreatDoor
namespace Go.Proofs.YtkenmilglfnmbaaGreatDoor
open Go.RowKit
set_option linter.unusedVariables false
namespace Flds

/-- one field more -/
def getStep (name : ByteArray) (r : ByteArray × Bool) (f : Fld) : ByteArray × Bool :=
  if f.1 = name then ((if r.2 = true then r.1 ++ ⟨#[44, 32]⟩ else r.1) ++ f.2, true) else r
/-- all values of a name -/
def get (l : List Fld) (name : ByteArray) : ByteArray × Bool := l.foldl (getStep name) (⟨#[]⟩, false)
theorem get_take (l : List Fld) (name : ByteArray) (k : Nat) (h : k < l.length) : get (l.take (k + 1)) name = getStep name (get (l.take k) name) l[k] := by
  unfold get
  rw [List.take_succ_eq_append_getElem h, List.foldl_append]; rfl
theorem get_size (l : List Fld) (name : ByteArray) : (get l name).1.size ≤ 2 * l.length + (l.map fun f => f.1.size + f.2.size).sum := by
  refine Num.snoc_ind (P := fun l => (get l name).1.size ≤ 2 * l.length + (l.map fun f => f.1.size + f.2.size).sum) (Nat.zero_le _) ?_ l
  intro l f ih
  have e : get (l ++ [f]) name = getStep name (get l name) f := by unfold get; rw [List.foldl_append]; rfl
  have hz : (⟨#[44, 32]⟩ : ByteArray).size = 2 := rfl
  rw [e, List.length_append, List.map_append, List.sum_append]
  unfold getStep
  split
  · simp only [ByteArray.size_append, List.length_singleton, List.map_cons, List.map_nil, List.sum_cons, List.sum_nil]
    split
    · rw [ByteArray.size_append, hz]; omega
    · omega
  · simp only [List.length_singleton, List.map_cons, List.map_nil, List.sum_cons, List.sum_nil]; omega
theorem text_ne' {x y : ByteArray} (h : ¬ x = y) : (x.toList == y.toList) = false := by
  rw [beq_eq_false_iff_ne, ByteArray.toList_eq, ByteArray.toList_eq]
  intro e; exact h (ByteArray.ext (Array.toList_inj.1 e))

end Flds
end Go.Proofs.YtkenmilglfnmbaaGreatDoor
namespace Go.Proofs.YtkenmilglfnmbaaGreatDoor
open Go.RowKit
set_option linter.unusedVariables false
namespace Flds

theorem get_snoc (l : List Fld) (f : Fld) (name : ByteArray) : get (l ++ [f]) name = getStep name (get l name) f := by unfold get; rw [List.foldl_append]; rfl
theorem drop_snoc (l : List Fld) (f : Fld) (name : ByteArray) : drop (l ++ [f]) name = drop l name ++ (if f.1 = name then [] else [f]) := by
  unfold drop
  rw [List.filter_append]
  by_cases e : f.1 = name
  · rw [if_pos e]; simp [e]
  · rw [if_neg e]; simp [e]
theorem setGo_snoc (l : List Fld) (f : Fld) (name value : ByteArray) : setGo (l ++ [f]) name value = setStep name value (setGo l name value) f := by unfold setGo; rw [List.foldl_append]; rfl
theorem get_none (l : List Fld) (name : ByteArray) (h : ∀ f ∈ l, ¬ f.1 = name) : get l name = (⟨#[]⟩, false) := by
  revert h
  refine Num.snoc_ind (P := fun l => (∀ f ∈ l, ¬ f.1 = name) → get l name = (⟨#[]⟩, false)) (fun _ => rfl) ?_ l
  intro l f ih h
  rw [get_snoc, ih (fun g hg => h g (List.mem_append_left _ hg))]
  unfold getStep
  rw [if_neg (h f (by simp))]
theorem get_drop (l : List Fld) (name : ByteArray) : get (drop l name) name = (⟨#[]⟩, false) := by
  apply get_none
  intro f hf
  unfold drop at hf
  have := (List.mem_filter.1 hf).2
  simpa using this
theorem get_drop_other (l : List Fld) (name other : ByteArray) (h : ¬ other = name) : get (drop l name) other = get l other := by
  refine Num.snoc_ind (P := fun l => get (drop l name) other = get l other) rfl ?_ l
  intro l f ih
  rw [drop_snoc, get_snoc]
  by_cases e : f.1 = name
  · rw [if_pos e, List.append_nil, ih]
    unfold getStep
    rw [if_neg (by rw [e]; exact fun h2 => h h2.symm)]
  · rw [if_neg e, get_snoc, ih]
theorem get_is (l : List Fld) (i : Nat) (h : i < l.length) : (get l l[i].1).2 = true := by
  have key : ∀ (l : List Fld) (name : ByteArray), (∃ f ∈ l, f.1 = name) → (get l name).2 = true := by
    intro l name
    refine Num.snoc_ind (P := fun l => (∃ f ∈ l, f.1 = name) → (get l name).2 = true) (fun ⟨f, hf, _⟩ => by cases hf) ?_ l
    intro l f ih hx
    rw [get_snoc]
    unfold getStep
    by_cases e : f.1 = name
    · rw [if_pos e]
    · rw [if_neg e]
      obtain ⟨g, hg, he⟩ := hx
      rcases List.mem_append.1 hg with h1 | h1
      · exact ih ⟨g, h1, he⟩
      · exact absurd he (by rw [List.mem_singleton.1 h1]; exact e)
  exact key l l[i].1 ⟨l[i], List.getElem_mem h, rfl⟩
/-- what has been gone through of a list, and what is set of it -/
theorem empty_app (v : ByteArray) : (⟨#[]⟩ : ByteArray) ++ v = v := by apply ByteArray.ext; simp
theorem setGo_spec (l : List Fld) (name value : ByteArray) :
    ((setGo l name value).2 = false → (setGo l name value).1 = drop l name) ∧
    ((setGo l name value).2 = true → drop (setGo l name value).1 name = drop l name ∧ get (setGo l name value).1 name = (value, true) ∧ (setGo l name value).1.length = (drop l name).length + 1) := by
  refine Num.snoc_ind (P := fun l => ((setGo l name value).2 = false → (setGo l name value).1 = drop l name) ∧
    ((setGo l name value).2 = true → drop (setGo l name value).1 name = drop l name ∧ get (setGo l name value).1 name = (value, true) ∧ (setGo l name value).1.length = (drop l name).length + 1)) ⟨fun _ => rfl, fun h => by cases h⟩ ?_ l
  intro l f ih
  rw [setGo_snoc, drop_snoc]
  generalize setGo l name value = r at ih
  obtain ⟨m, b⟩ := r
  simp only at ih
  unfold setStep
  by_cases e : f.1 = name
  · rw [if_pos e, if_pos e, List.append_nil]
    cases b with
    | true =>
      rw [if_pos rfl]
      exact ih
    | false =>
      rw [if_neg (by simp)]
      obtain ⟨h1, _⟩ := ih
      have h1 := h1 rfl
      subst h1
      refine ⟨(fun h => by cases h), fun _ => ⟨?_, ?_, ?_⟩⟩
      · rw [drop_snoc, if_pos rfl, List.append_nil]
        unfold drop
        rw [List.filter_filter]; simp
      · rw [get_snoc, get_drop]
        unfold getStep
        rw [if_pos rfl, if_neg (by simp), empty_app]
      · simp
  · rw [if_neg e, if_neg e]
    refine ⟨fun h => ?_, fun h => ?_⟩
    · simp only at h ⊢
      rw [ih.1 h]
    · simp only at h ⊢
      obtain ⟨h1, h2, h3⟩ := ih.2 h
      refine ⟨?_, ?_, ?_⟩
      · rw [drop_snoc, if_neg e, h1]
      · rw [get_snoc, h2]
        unfold getStep
        rw [if_neg e]
      · rw [List.length_append, List.length_append, h3]; simp
theorem set_spec_all (l : List Fld) (name value : ByteArray) : drop (set l name value) name = drop l name ∧ get (set l name value) name = (value, true) ∧ (set l name value).length = (drop l name).length + 1 := by
  have h := setGo_spec l name value
  unfold set
  cases hb : (setGo l name value).2 with
  | true => rw [if_pos rfl]; exact h.2 hb
  | false =>
    rw [if_neg (by simp), h.1 hb]
    refine ⟨?_, ?_, ?_⟩
    · rw [drop_snoc, if_pos rfl, List.append_nil]
      unfold drop
      rw [List.filter_filter]; simp
    · rw [get_snoc, get_drop]
      unfold getStep
      rw [if_pos rfl, if_neg (by simp), empty_app]
    · simp

/-- a line, as bytes -/
def enc (f : Fld) : List UInt8 := f.1.data.toList ++ [58, 32] ++ f.2.data.toList ++ [13, 10]
theorem tok_no {x : ByteArray} (h : Sign.isTok x = true) : ∀ b ∈ x.data.toList, ¬ b = 58 ∧ ¬ b = 13 := by
  intro b hb
  unfold Sign.isTok at h
  rw [Bool.and_eq_true, List.all_eq_true] at h
  have h1 := of_decide_eq_true (h.2 b hb)
  unfold Sign.tok at h1
  constructor
  · rintro rfl; revert h1; decide
  · rintro rfl; revert h1; decide
theorem val_no {y : ByteArray} (h : Sign.isVal y = true) : (∀ b ∈ y.data.toList, ¬ b = 13) ∧ Sign.trim y = y := by
  unfold Sign.isVal at h
  rw [Bool.and_eq_true, List.all_eq_true] at h
  refine ⟨?_, ?_⟩
  · intro b hb
    have h1 := of_decide_eq_true (h.1 b hb)
    unfold Sign.val at h1
    rintro rfl; revert h1; decide
  · have h2 := h.2
    rw [beq_iff_eq, ByteArray.toList_eq, ByteArray.toList_eq] at h2
    exact ByteArray.ext (Array.toList_inj.1 h2)
theorem field_line (f : Fld) (h : okF f = true) : fieldOf ⟨(f.1.data.toList ++ 58 :: 32 :: f.2.data.toList).toArray⟩ f.1.size = f := by
  obtain ⟨x, y⟩ := f
  unfold okF at h
  simp only [Bool.and_eq_true, decide_eq_true_iff] at h
  obtain ⟨⟨⟨⟨h1, h2⟩, h3⟩, h4⟩, h5⟩ := h
  have ex : x.data.toList.length = x.size := by rw [Array.length_toList]; rfl
  unfold fieldOf
  have e1 : (⟨(x.data.toList ++ 58 :: 32 :: y.data.toList).toArray⟩ : ByteArray).extract 0 x.size = x := by
    apply ByteArray.ext
    apply Array.toList_inj.1
    rw [ByteArray.data_extract, Array.toList_extract, List.extract_eq_drop_take', List.drop_zero, List.toList_toArray]
    rw [← ex, List.take_left]
  have e2 : Sign.trim ((⟨(x.data.toList ++ 58 :: 32 :: y.data.toList).toArray⟩ : ByteArray).extract (x.size + 1) (ByteArray.size ⟨(x.data.toList ++ 58 :: 32 :: y.data.toList).toArray⟩)) = Sign.trim y := by
    unfold Sign.trim
    have e3 : ((⟨(x.data.toList ++ 58 :: 32 :: y.data.toList).toArray⟩ : ByteArray).extract (x.size + 1) (ByteArray.size ⟨(x.data.toList ++ 58 :: 32 :: y.data.toList).toArray⟩)).data.toList = 32 :: y.data.toList := by
      rw [Line.extract_list, List.toList_toArray, ← ex]
      rw [List.drop_append]
      simp
    rw [e3, List.dropWhile_cons_of_pos (by decide)]
  show (Sign.lower _, Sign.trim _) = (x, y)
  rw [e1, e2, (val_no h4).2, ← h2]
theorem read_line (T : ByteArray) (p q : List UInt8) (f : Fld) (hT : T.data.toList = p ++ (enc f ++ q)) (h : okF f = true) (n : Nat) (l : List Fld) :
    readGo T (n + 1) p.length l = readGo T n (p ++ enc f).length (l ++ [f]) := by
  have h0 := h
  unfold okF at h0
  simp only [Bool.and_eq_true, decide_eq_true_iff] at h0
  obtain ⟨⟨⟨⟨h1, h2⟩, h3⟩, h4⟩, h5⟩ := h0
  have hT2 : T.data.toList = p ++ ((f.1.data.toList ++ 58 :: 32 :: f.2.data.toList) ++ 13 :: 10 :: q) := by rw [hT]; unfold enc; simp
  obtain ⟨he, hx⟩ := Line.eol_line T p _ q hT2 (by
    intro b hb
    rcases List.mem_append.1 hb with h6 | h6
    · exact (tok_no h1 b h6).2
    · rcases List.mem_cons.1 h6 with rfl | h7
      · decide
      · rcases List.mem_cons.1 h7 with rfl | h8
        · decide
        · exact (val_no h4).1 b h8)
  rw [readGo, he]
  simp only
  rw [if_neg (by simp), hx, Line.colon_line f.1 _ (fun b hb => (tok_no h1 b hb).1)]
  simp only
  rw [field_line f h, if_pos h]
  congr 1
  unfold enc
  simp only [List.length_append, List.length_cons, List.length_nil]
  omega
theorem read_many (T : ByteArray) (q : List UInt8) : ∀ (fs : List Fld) (p : List UInt8) (n : Nat) (l : List Fld), T.data.toList = p ++ (fs.flatMap enc ++ 13 :: 10 :: q) → fs.all okF = true → fs.length ≤ n →
    readGo T (n + 1) p.length l = some (l ++ fs, (p ++ fs.flatMap enc).length + 2) := by
  intro fs
  induction fs with
  | nil =>
    intro p n l hT _ _
    obtain ⟨he, _⟩ := Line.eol_line T p [] q (by simpa using hT) (fun b hb => by cases hb)
    rw [readGo, he]
    simp
  | cons f fs ih =>
    intro p n l hT ha hn
    rw [List.all_cons, Bool.and_eq_true] at ha
    rw [List.length_cons] at hn
    obtain ⟨m, rfl⟩ : ∃ m, n = m + 1 := ⟨n - 1, by omega⟩
    rw [List.flatMap_cons, List.append_assoc] at hT
    rw [read_line T p _ f hT ha.1]
    rw [ih (p ++ enc f) m (l ++ [f]) (by rw [hT]; simp) ha.2 (by omega)]
    simp
theorem showGo_list (l : List Fld) : (showGo l).data.toList = l.flatMap enc := by
  refine Num.snoc_ind (P := fun l => (showGo l).data.toList = l.flatMap enc) rfl ?_ l
  intro l f ih
  have e : showGo (l ++ [f]) = showStep (showGo l) f := by unfold showGo; rw [List.foldl_append]; rfl
  rw [e, List.flatMap_append, ← ih]
  unfold showStep enc
  simp
theorem read_shown (l : List Fld) (more : ByteArray) (h : ok l = true) : read (shown l ++ more) = some (l, (shown l).size) := by
  have hs : shown l = showGo l ++ ⟨#[13, 10]⟩ := by unfold shown; rw [if_pos h]
  unfold ok at h
  rw [Bool.and_eq_true, decide_eq_true_iff] at h
  have hT : (shown l ++ more).data.toList = [] ++ (l.flatMap enc ++ 13 :: 10 :: more.data.toList) := by
    rw [hs, ← showGo_list]; simp
  have := read_many (shown l ++ more) more.data.toList l [] 12 [] hT h.1 h.2
  unfold read
  rw [List.length_nil] at this
  rw [this]
  congr 2
  rw [hs, ByteArray.size_append, ← showGo_list]
  simp only [List.nil_append, Array.length_toList]
  rfl
theorem shown_empty (l : List Fld) : (shown l).toList.isEmpty = !(ok l) := by
  unfold shown
  cases h : ok l with
  | false => rw [if_neg (by simp), ByteArray.toList_eq]; rfl
  | true =>
    rw [if_pos rfl]
    refine (Sign.empty_false _ ?_).trans rfl
    rw [ByteArray.size_append]
    have : (⟨#[13, 10]⟩ : ByteArray).size = 2 := rfl
    omega
end Flds
end Go.Proofs.YtkenmilglfnmbaaGreatDoor
