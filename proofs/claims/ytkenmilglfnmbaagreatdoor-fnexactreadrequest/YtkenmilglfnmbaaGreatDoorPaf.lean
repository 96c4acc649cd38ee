/-
  ShelfContains: Library contracts at this program: strings_Contains.
  HeadImpl: awaitHead and firstLine of the program's reader: a head is waited for; its first line is parted at two blanks.
  ChsFar: What a choice leaves as it was.
  ChsFld: putChosen of the program at fields: what a choice makes of those of a list that it takes, behind each other in a row of the call's own.
  Strs: Lists of texts in memory: a slice of texts as it is read (Strs), and one whose row the call itself made (OwnS).
  FldLines: linesAhead of the program: the lines up to an empty one, in a row of the call's own; what was there stays.
  LowerImpl: isUpper and Lower of the program: what the calls return, for every byte and every text; what was there stays.
  ShelfTrim: Library contracts at this program: strings_Trim_one.
  ShelfClone: internal/stringslite.Clone and strings.Clone at this program, off the library's contract: the same bytes; what was there stays.
-/
import Derived.Shelf.Strings.Builder1
import Derived.Shelf.Strings.Builder2
import Derived.Shelf.Strings.OnBuilder
import Derived.Shelf.Strings.Trim
import Derived.Shelf.Small.Utf8
import Derived.Shelf.Small.Strs
import Derived.Shelf.Strings.BuilderF
import Derived.Shelf.Strings.BuilderK
import Derived.Shelf.Strconv.Atoi
import Derived.Shelf.Strconv.Itoa0
import Derived.Shelf.Strconv.Itoa1
import Derived.Shelf.LaysM
import Derived.Shelf.Strconv.Itoa2
import Derived.Shelf.Strconv.Itoa3
import Derived.Shelf.Strconv.AtoiErrFast
import Derived.Shelf.Strconv.ParseIntEmpty
import Derived.Shelf.Strconv.AtoiFail
import Derived.Shelf.Strconv.Clone
import Derived.Shelf.Strconv.SyntaxError
import Derived.Shelf.LaysC
import Derived.Shelf.Strconv.ToError
import Derived.Shelf.Strconv.AtoiErr
import Derived.Shelf.Strconv.ErrVar
import Derived.Shelf.Strings.Search1
import Derived.Shelf.Strings.Search2
import Derived.Shelf.Strings.Search3
import Derived.Shelf.Strings.Cut
import Derived.Shelf.Strings.Shaped
import Derived.Shelf.Strings.Prefix
import Derived.Shelf.Unicode.Decode
import Derived.Shelf.Strings.Runes
import Derived.Shelf.Strings.AsciiSet
import Derived.Shelf.Unicode.DecodeSlow
import Derived.Shelf.Unicode.DecodeAny
import Derived.Shelf.Unicode.DecodeLast
import Derived.Test.YtkenmilglfnmbaaGreatDoorRows
import Derived.Test.YtkenmilglfnmbaaGreatDoorPae
import Derived.Test.YtkenmilglfnmbaaGreatDoorPieceImpl
import Derived.Test.YtkenmilglfnmbaaGreatDoorPaa
import Derived.Test.YtkenmilglfnmbaaGreatDoorNum
import Derived.WalkKit
import Derived.WalkLawsBesides
import Derived.WalkSmall
import Derived.Below
import Derived.Test.YtkenmilglfnmbaaGreatDoorShelfCut
import Derived.Test.YtkenmilglfnmbaaGreatDoorLowerNum
import Derived.Test.YtkenmilglfnmbaaGreatDoorUpperImpl
namespace Go.Proofs.YtkenmilglfnmbaaGreatDoor
open Go.Shelf
def Shelf.lays144_ren : Go.Shelf.Ren := ⟨fun | 144 => 156 | 143 => 182 | 219 => 197 | 217 => 203 | 225 => 204 | 224 => 205 | 267 => 206 | 266 => 214 | 314 => 215 | n => n, fun | 9 => 9 | 4 => 4 | 3 => 3 | 5 => 5 | 46 => 141 | 146 => 219 | 51 => 188 | n => n, fun | 1 => 8 | n => n⟩
theorem Shelf.lays144 : Go.Proofs.Lays.n144 Tryz.prog Shelf.lays144_ren := {
  mixed := by kernel_rfl
  f143 := Tryz.func182.trans (congrArg some (by kernel_rfl))
  f144 := Tryz.func156.trans (congrArg some (by kernel_rfl))
  f217 := Tryz.func203.trans (congrArg some (by kernel_rfl))
  f219 := Tryz.func197.trans (congrArg some (by kernel_rfl))
  f224 := Tryz.func205.trans (congrArg some (by kernel_rfl))
  f225 := Tryz.func204.trans (congrArg some (by kernel_rfl))
  f266 := Tryz.func214.trans (congrArg some (by kernel_rfl))
  f267 := Tryz.func206.trans (congrArg some (by kernel_rfl))
  f314 := Tryz.func215.trans (congrArg some (by kernel_rfl))
  t3 := Tryz.underlying3
  a3 := Tryz.isAgg3
  z3 := Tryz.sizeOf3
  v3 := Tryz.zeroValue3
  t4 := Tryz.underlying4
  a4 := Tryz.isAgg4
  z4 := Tryz.sizeOf4
  v4 := Tryz.zeroValue4
  t5 := Tryz.underlying5
  a5 := Tryz.isAgg5
  z5 := Tryz.sizeOf5
  v5 := Tryz.zeroValue5
  t9 := Tryz.underlying9
  a9 := Tryz.isAgg9
  z9 := Tryz.sizeOf9
  v9 := Tryz.zeroValue9
  t46 := Tryz.underlying141
  a46 := Tryz.isAgg141
  z46 := Tryz.sizeOf141
  v46 := Tryz.zeroValue141
  t51 := Tryz.underlying188
  a51 := Tryz.isAgg188
  z51 := Tryz.sizeOf188
  v51 := Tryz.zeroValue188
  t146 := Tryz.underlying219
  a146 := Tryz.isAgg219
  z146 := Tryz.sizeOf219
  v146 := Tryz.zeroValue219
  g1 := by kernel_rfl }
open Go.RowKit Go.Lib in
theorem Shelf.strings_Contains (s sub : ByteArray) (m : Int) (w : World) (hs : s.size < 4294967281) (hm : w.cell? ⟨8, 0, none⟩ = some (.int .i64 m)) :
    Calls Tryz.prog 156 #[.string s, .string sub] w fun e w' => e = .returned (.bool (Lib.contains s.data.toList sub.data.toList)) ∧ w' = w := Any.strings_Contains Shelf.lays144 s sub m w hs hm
end Go.Proofs.YtkenmilglfnmbaaGreatDoor
namespace Go.Proofs.YtkenmilglfnmbaaGreatDoor
open Go.RowKit
set_option linter.unusedVariables false
namespace Msg
open Line (eol)

theorem contains_at (s : ByteArray) (w : World) (hs : s.size ≤ 1048576) (hm : Body.Lim w) :
    Calls Tryz.prog 156 #[.string s, .string ⟨#[13, 10, 13, 10]⟩] w fun e w' => e = .returned (.bool (whole s)) ∧ w = w' := by
  obtain ⟨m, hm⟩ := hm
  refine (Shelf.strings_Contains s ⟨#[13, 10, 13, 10]⟩ m w (by omega) hm).mono ?_
  rintro e w' ⟨rfl, rfl⟩
  exact ⟨by rw [← contains_whole], rfl⟩
/-- what stands ahead of the first blank behind i, and behind it -/
def ahead (s : ByteArray) (i : Nat) : ByteArray := match blk s i with | some k => s.extract i k | none => s.extract i s.size
def behind (s : ByteArray) (i : Nat) : ByteArray := match blk s i with | some k => s.extract (k + 1) s.size | none => ⟨#[]⟩
theorem blank_at (s : ByteArray) (i : Nat) (w : World) (hs : s.size ≤ 1048576) (hm : Body.Lim w) :
    Calls Tryz.prog 158 #[.string (s.extract i s.size), .string ⟨#[32]⟩] w fun e w' => e = .returned (.tuple #[.string (ahead s i), .string (behind s i), .bool (blk s i).isSome]) ∧ Below w.heap.size w w' := by
  obtain ⟨m, hm⟩ := hm
  refine (Shelf.strings_Cut (s.extract i s.size) ⟨#[32]⟩ m w (by rw [ByteArray.size_extract]; omega) hm).mono ?_
  rintro e w' ⟨rfl, n, rfl⟩
  refine ⟨?_, ⟨rfl, rfl, rfl, Nat.le_refl _, fun _ _ => rfl⟩⟩
  unfold ahead behind
  cases he : blk s i with
  | none =>
    obtain ⟨e1, e2, e3⟩ := cutb_none he
    rw [e1, e2, e3]; rfl
  | some k =>
    obtain ⟨e1, e2, e3⟩ := cutb_some he
    rw [e1, e2, e3]; rfl
theorem all_of (s : ByteArray) : s.extract 0 s.size = s := ByteArray.extract_zero_size
theorem blank_whole (s : ByteArray) (w : World) (hs : s.size ≤ 1048576) (hm : Body.Lim w) :
    Calls Tryz.prog 158 #[.string s, .string ⟨#[32]⟩] w fun e w' => e = .returned (.tuple #[.string (ahead s 0), .string (behind s 0), .bool (blk s 0).isSome]) ∧ Below w.heap.size w w' := by
  have h := blank_at s 0 w hs hm
  rw [all_of] at h
  exact h
theorem line_at (s : ByteArray) (k : Nat) (w : World) (hs : s.size ≤ 1048576) (hm : Body.Lim w) (hk : eol s 0 = some k) :
    Calls Tryz.prog 158 #[.string s, .string ⟨#[13, 10]⟩] w fun e w' => ∃ y, e = .returned (.tuple #[.string (s.extract 0 k), .string y, .bool true]) ∧ Below w.heap.size w w' := by
  have h := Body.cut_at s 0 w hs hm
  rw [all_of] at h
  refine h.mono ?_
  rintro e w' ⟨x, y, rfl, _, hx, hb⟩
  obtain ⟨rfl, rfl⟩ := hx k hk
  exact ⟨_, by rw [hk]; rfl, hb⟩
set_option maxRecDepth 100000 in
set_option maxHeartbeats 2000000 in
theorem await_impl (g : Nat) (s : ByteArray) (v : Value) (m b : Addr) (W : World) (h : Rd g s 0 v W) (hs : s.size ≤ 1048576) (hm : Body.Lim W) (hE : Body.Errs m b W) :
    Calls Tryz.prog 102 #[.pointer (some ⟨g, 0, none⟩)] W fun e w' => e = (if whole s = true then .returned (.tuple #[]) else thrown m b (if 1500 < s.size then 2 else 1)) ∧ Below W.heap.size W w' := by
  have HRs := Num.hide (fun W h => rest_impl g s 0 v W h (Nat.zero_le _) hs)
  have HC := Num.hide (fun W hm => contains_at s W hs hm)
  have HR := Num.hide h
  have HM := Num.hide hm
  have HE := Num.hide hE
  rw [all_of] at HRs
  clear h hm hE
  cases hw : whole s with
  | true =>
    rw [hw] at HC
    rw [if_pos rfl]
    clear hw
    go_enter Tryz.func102, Tryz.ntmps102
    go_wp2_with fail
    refine (HRs.out _ HR.out).mono ?_
    rintro e w1 ⟨rfl, hb1⟩
    have B1 := Num.hide hb1
    clear hb1
    go_wp2_with fail
    refine (HC.out _ (HM.out.below B1.out)).mono ?_
    rintro e w2 ⟨rfl, rfl⟩
    go_wp2
    first | go_end0 | refine bodyPost_ret (results_none rfl _ _ _) rfl ?_
    exact ⟨rfl, B1.out⟩
  | false =>
    rw [hw] at HC
    rw [if_neg (by decide)]
    clear hw
    by_cases h15 : (s.size : Int) ≤ 1500
    · rw [if_neg (by omega : ¬ 1500 < s.size)]
      go_enter Tryz.func102, Tryz.ntmps102
      go_wp2_with fail
      refine (HRs.out _ HR.out).mono ?_
      rintro e w1 ⟨rfl, hb1⟩
      have B1 := Num.hide hb1
      have R1 := Num.hide (HR.out.step hb1)
      clear hb1
      go_wp2_with fail
      refine (HC.out _ (HM.out.below B1.out)).mono ?_
      rintro e w2 ⟨rfl, rfl⟩
      go_wp2_with fail
      refine (HRs.out _ R1.out).mono ?_
      rintro e w3 ⟨rfl, hb3⟩
      have B3 := Num.hide (B1.out.trans (hb3.mono B1.out.size))
      have em := (HE.out.below B3.out).cm
      clear hb3
      go_wp2_with fail
      refine (demand_yes _).mono ?_
      rintro e w4 ⟨rfl, rfl⟩
      go_wp2
      exact ⟨rfl, rfl, B3.out⟩
    · rw [if_pos (by omega : 1500 < s.size)]
      have d15 : decide ((s.size : Int) ≤ 1500) = false := decide_eq_false h15
      go_enter Tryz.func102, Tryz.ntmps102
      go_wp2_with fail
      refine (HRs.out _ HR.out).mono ?_
      rintro e w1 ⟨rfl, hb1⟩
      have B1 := Num.hide hb1
      have R1 := Num.hide (HR.out.step hb1)
      clear hb1
      go_wp2_with fail
      refine (HC.out _ (HM.out.below B1.out)).mono ?_
      rintro e w2 ⟨rfl, rfl⟩
      go_wp2_with fail
      refine (HRs.out _ R1.out).mono ?_
      rintro e w3 ⟨rfl, hb3⟩
      have B3 := Num.hide (B1.out.trans (hb3.mono B1.out.size))
      clear hb3
      go_wp2_with fail
      refine (demand_no m b _ (HE.out.below B3.out)).mono ?_
      rintro e w4 ⟨rfl, rfl⟩
      unfold thrown
      exact ⟨rfl, rfl, B3.out⟩
theorem words_of {s : ByteArray} (h : parted s = true) : words s = (ahead s 0, ahead s ((blk s 0).getD 0 + 1), behind s ((blk s 0).getD 0 + 1)) ∧ behind s 0 = s.extract ((blk s 0).getD 0 + 1) s.size ∧ (blk s ((blk s 0).getD 0 + 1)).isSome = true := by
  unfold parted at h
  unfold words ahead behind
  cases h1 : blk s 0 with
  | none => rw [h1] at h; cases h
  | some a =>
    rw [h1] at h
    simp only [Option.getD_some] at h ⊢
    cases h2 : blk s (a + 1) with
    | none => rw [h2] at h; cases h
    | some b => refine ⟨?_, ?_, ?_⟩ <;> first | rfl | trivial
/-- a line that is not parted: what the second look tells -/
theorem unparted {s : ByteArray} (h : parted s = false) : ∃ t i, behind s 0 = t.extract i t.size ∧ t.size ≤ s.size ∧ (blk t i).isSome = false := by
  unfold parted at h
  cases h1 : blk s 0 with
  | none => exact ⟨⟨#[]⟩, 0, by unfold behind; rw [h1]; rfl, Nat.zero_le _, rfl⟩
  | some a =>
    rw [h1] at h
    exact ⟨s, a + 1, by unfold behind; rw [h1], Nat.le_refl _, h⟩
set_option maxRecDepth 100000 in
set_option maxHeartbeats 2000000 in
theorem first_yes (g : Nat) (s : ByteArray) (k : Nat) (v : Value) (m b : Addr) (W : World) (h : Rd g s 0 v W) (hs : s.size ≤ 1048576) (hk : eol s 0 = some k) (hk1 : k ≤ s.size) (hp : parted (s.extract 0 k) = true) (hm : Body.Lim W) (hE : Body.Errs m b W) :
    Calls Tryz.prog 103 #[.pointer (some ⟨g, 0, none⟩)] W fun e w' => e = .returned (.tuple #[.string (words (s.extract 0 k)).1, .string (words (s.extract 0 k)).2.1, .string (words (s.extract 0 k)).2.2]) ∧ Rd g s (k + 2) v w' ∧ W.grownBy w' (some g) := by
  have HRs := Num.hide (fun W h => rest_impl g s 0 v W h (Nat.zero_le _) hs)
  rw [all_of] at HRs
  have hLz : (s.extract 0 k).size = k := by rw [ByteArray.size_extract]; omega
  have HL := Num.hide (fun W hm => line_at s k W hs hm hk)
  have HC1 := Num.hide (fun W hm => blank_whole (s.extract 0 k) W (by omega) hm)
  have HC2 := Num.hide (fun W hm => blank_at (s.extract 0 k) ((blk (s.extract 0 k) 0).getD 0 + 1) W (by omega) hm)
  have HP := Num.hide (fun W h => pass_impl g s 0 (k + 2) v W h (Nat.zero_le _) (by have := Line.eol_in hk; omega))
  rw [Nat.zero_add, Int.natCast_add] at HP
  have HR := Num.hide h
  have HM := Num.hide hm
  obtain ⟨hwd, hb0, hbl⟩ := words_of hp
  rw [hwd]
  rw [← hb0, hbl] at HC2
  clear h hm hE hwd hb0 hbl hp hk
  generalize s.extract 0 k = L at HL HC1 HC2 hLz ⊢
  subst hLz
  generalize ahead L 0 = A1 at HC1 ⊢
  generalize behind L 0 = A2 at HC1 HC2
  generalize ahead L _ = A3 at HC2 ⊢
  generalize behind L _ = A4 at HC2 ⊢
  go_enter Tryz.func103, Tryz.ntmps103
  go_wp2_with fail
  refine (HRs.out _ HR.out).mono ?_
  rintro e w1 ⟨rfl, hb1⟩
  have B1 := Num.hide hb1
  clear hb1
  go_wp2_with fail
  refine (HL.out _ (HM.out.below B1.out)).mono ?_
  rintro e w2 ⟨y, rfl, hb2⟩
  have B2 := Num.hide (B1.out.trans (hb2.mono B1.out.size))
  clear hb2
  go_wp2_with fail
  refine (HC1.out _ (HM.out.below B2.out)).mono ?_
  rintro e w3 ⟨rfl, hb3⟩
  have B3 := Num.hide (B2.out.trans (hb3.mono B2.out.size))
  clear hb3
  go_wp2_with fail
  refine (HC2.out _ (HM.out.below B3.out)).mono ?_
  rintro e w4 ⟨rfl, hb4⟩
  have B4 := Num.hide (B3.out.trans (hb4.mono B3.out.size))
  clear hb4
  go_wp2_with fail
  refine (demand_yes _).mono ?_
  rintro e w5 ⟨rfl, rfl⟩
  go_wp2_with fail
  refine (HP.out _ (HR.out.step B4.out)).mono ?_
  rintro e w6 ⟨rfl, hr6, hg6⟩
  have R6 := Num.hide hr6
  have G6 := Num.hide (Recs.grown_trans (Recs.grown_of_below B4.out (some g)) hg6)
  clear hr6 hg6
  go_wp2
  go_ret3
  exact ⟨rfl, R6.out, G6.out⟩
set_option maxRecDepth 100000 in
set_option maxHeartbeats 2000000 in
theorem first_no (g : Nat) (s : ByteArray) (k : Nat) (v : Value) (m b : Addr) (W : World) (h : Rd g s 0 v W) (hs : s.size ≤ 1048576) (hk : eol s 0 = some k) (hk1 : k ≤ s.size) (hp : parted (s.extract 0 k) = false) (hm : Body.Lim W) (hE : Body.Errs m b W) :
    Calls Tryz.prog 103 #[.pointer (some ⟨g, 0, none⟩)] W fun e w' => e = thrown m b 2 ∧ Below W.heap.size W w' := by
  have HRs := Num.hide (fun W h => rest_impl g s 0 v W h (Nat.zero_le _) hs)
  rw [all_of] at HRs
  have hLz : (s.extract 0 k).size = k := by rw [ByteArray.size_extract]; omega
  have HL := Num.hide (fun W hm => line_at s k W hs hm hk)
  have HC1 := Num.hide (fun W hm => blank_whole (s.extract 0 k) W (by omega) hm)
  obtain ⟨t, i, hb0, htz, hbl⟩ := unparted hp
  have HC2 := Num.hide (fun W hm => blank_at t i W (by omega) hm)
  have HR := Num.hide h
  have HM := Num.hide hm
  have HE := Num.hide hE
  rw [hbl] at HC2
  rw [hb0] at HC1
  clear h hm hE hb0 hbl hp hk htz
  generalize s.extract 0 k = L at HL HC1 hLz ⊢
  generalize ahead L 0 = A1 at HC1 ⊢
  generalize t.extract i t.size = A2 at HC1 HC2
  generalize ahead t i = A3 at HC2 ⊢
  generalize behind t i = A4 at HC2 ⊢
  go_enter Tryz.func103, Tryz.ntmps103
  go_wp2_with fail
  refine (HRs.out _ HR.out).mono ?_
  rintro e w1 ⟨rfl, hb1⟩
  have B1 := Num.hide hb1
  clear hb1
  go_wp2_with fail
  refine (HL.out _ (HM.out.below B1.out)).mono ?_
  rintro e w2 ⟨y, rfl, hb2⟩
  have B2 := Num.hide (B1.out.trans (hb2.mono B1.out.size))
  clear hb2
  go_wp2_with fail
  refine (HC1.out _ (HM.out.below B2.out)).mono ?_
  rintro e w3 ⟨rfl, hb3⟩
  have B3 := Num.hide (B2.out.trans (hb3.mono B2.out.size))
  clear hb3
  go_wp2_with fail
  refine (HC2.out _ (HM.out.below B3.out)).mono ?_
  rintro e w4 ⟨rfl, hb4⟩
  have B4 := Num.hide (B3.out.trans (hb4.mono B3.out.size))
  clear hb4
  go_wp2_with fail
  refine (demand_no m b _ (HE.out.below B4.out)).mono ?_
  rintro e w5 ⟨rfl, rfl⟩
  unfold thrown
  exact ⟨rfl, rfl, B4.out⟩
end Msg
end Go.Proofs.YtkenmilglfnmbaaGreatDoor
namespace Go.Proofs.YtkenmilglfnmbaaGreatDoor
open Go.RowKit
set_option linter.unusedVariables false
namespace Flds

/-- what lies below block B, and from block n on, is as it was -/
structure Far (B n : Nat) (W W' : World) : Prop where
  below : Below B W W'
  rows : ∀ j, n ≤ j → j < W.heap.size → W'.heap[j]? = W.heap[j]?
theorem Far.of_below {B n : Nat} {W W' : World} (h : Below W.heap.size W W') (hB : B ≤ W.heap.size) : Far B n W W' := ⟨h.mono hB, fun j _ hj => h.block j hj⟩
theorem own_far {α : Type} {e : TypeId} {sz : Nat} {enc : α → List Value} {B n : Nat} {W W' : World} {v : Value} {l : List α} (h : Recs.Own e sz enc n W v l) (hf : Far B n W W') : Recs.Own e sz enc n W' v l := by
  refine ⟨h.1, ?_⟩
  have hlt := Recs.own_lt h
  rcases h.2 with h1 | ⟨g, cap, cur, h1, hB, hg, rest⟩
  · exact .inl h1
  · subst h1
    exact .inr ⟨g, cap, cur, rfl, hB, by rw [hf.rows g hB (hlt g rfl).2]; exact hg, rest⟩
end Flds
end Go.Proofs.YtkenmilglfnmbaaGreatDoor
namespace Go.Proofs.YtkenmilglfnmbaaGreatDoor
open Go.RowKit
set_option linter.unusedVariables false
namespace Flds

/-- what a choice does at each element: what it makes of it, and whether it takes it -/
def Choice (g : Nat) (cap : Array Value) (B n : Nat) (w : World) (l : List Fld) (A : Nat → List Fld) (Q : Nat → World → Prop) : Prop :=
  ∀ k (hk : k < l.length) (W : World), Below B w W → n ≤ W.heap.size → Q k W →
    Calls Tryz.prog g (#[.agg #[.string l[k].1, .string l[k].2]] ++ cap) W fun e W' => ∃ (m : Fld) (t : Bool), e = .returned (.tuple #[.agg #[.string m.1, .string m.2], .bool t]) ∧ A (k + 1) = A k ++ (if t = true then [m] else []) ∧ Q (k + 1) W' ∧ Far B n W W'
set_option maxRecDepth 100000 in
set_option maxHeartbeats 1000000 in
theorem chosen_any (g : Nat) (cap : Array Value) (B : Nat) (w0 w : World) (v : Value) (l : List Fld) (A : Nat → List Fld) (Q : Nat → World → Prop)
    (h : Is w0 v l) (hB : B = w0.heap.size) (hb : Below B w0 w) (hBn : B ≤ w.heap.size) (hA0 : A 0 = []) (hA : ∀ k, k ≤ l.length → (A k).length ≤ 1073741824) (hl : l.length ≤ 1073741824)
    (hQ0 : Q 0 w) (hQ : ∀ k W W', Q k W → Below w.heap.size W W' → Q k W') (HC : Choice g cap B w.heap.size w0 l A Q) (hent : ∀ args W, (callFunc g args).run Tryz.prog W = .ok (.enter g args) W) :
    Calls Tryz.prog 153 #[v, .func (.func g) #[] cap] w fun e w' => ∃ v', e = .returned v' ∧ Own w.heap.size w' v' (A l.length) ∧ Below B w0 w' ∧ Q l.length w' := by
  obtain ⟨a, c, rfl, h2⟩ := is_form h
  have HA := Num.hide h2
  clear h h2
  have HCh := Num.hide HC
  have HQ := Num.hide hQ
  have HAl := Num.hide hA
  have HQ0 := Num.hide hQ0
  have HB0 := Num.hide hb
  have HA0 : Hid (Own w.heap.size w (.slice none 0 0) (A 0)) := by rw [hA0]; exact Recs.own_nil _ _
  clear HC hQ hA hQ0 hb hA0
  obtain ⟨i0, hi0, hz0, hz1, hz2⟩ := info_parts infoF
  go_enter Tryz.func153, Tryz.ntmps153
  go_wp2
  go_loopw [5, 12] (fun ov iv wr => ∃ i : Nat, i ≤ l.length ∧ iv = .int .i64 (i : Int) ∧ Hid (Own w.heap.size wr ov (A i)) ∧ Hid (Below B w0 wr) ∧ Hid (Q i wr) ∧ w.heap.size ≤ wr.heap.size) (fun _ iv _ => l.length - (intOf iv).toNat)
  case atStart => exact ⟨0, by omega, rfl, HA0, HB0, HQ0, Nat.le_refl _⟩
  case round =>
    clear HA0 HB0 HQ0
    obtain ⟨i, hi, rfl, HO, HB, HQi, hsz⟩ := hrel
    by_cases hlt : i < l.length
    · obtain ⟨bk, o, rfl, hc, hmx, hblt, hcell⟩ := Num.unhide HA (by omega)
      obtain ⟨g1, g2⟩ := hcell i hlt
      have c1 : wr.cell? ⟨bk, o + i * 2, none⟩ = some (.string l[i].1) := by rw [HB.out.cell (p := ⟨bk, o + i * 2, none⟩) (by show bk < B; omega)]; exact g1
      have c2 : wr.cell? ⟨bk, o + i * 2 + 1, none⟩ = some (.string l[i].2) := by rw [HB.out.cell (p := ⟨bk, o + i * 2 + 1, none⟩) (by show bk < B; omega)]; exact g2
      have HCi := Num.hide (HCh.out i hlt)
      have hdl := HAl.out i (by omega)
      clear hcell g1 g2
      generalize l[i] = f at c1 c2 HCi
      obtain ⟨x, y⟩ := f
      simp only at c1 c2
      have hsz1 : w.heap.size ≤ (wr.alloc (.cells #[.string x, .string y] 36)).heap.size := by simp; omega
      have HB1 := Num.hide (HB.out.alloc (by omega) (.cells #[.string x, .string y] 36))
      have HQ1 := Num.hide (HQ.out i _ _ HQi.out ((Below.refl w.heap.size wr).alloc hsz (.cells #[.string x, .string y] 36)))
      have HO1 := Num.hide (World.ownsRow.alloc HO.out (.cells #[.string x, .string y] 36))
      go_wp2_with fail
      refine (HCi.out _ HB1.out hsz1 HQ1.out).mono ?_
      rintro e w1 ⟨⟨m1, m2⟩, t, rfl, hAk, hQk, hF⟩
      have HO2 := Num.hide (own_far HO1.out hF)
      have HB2 := Num.hide (HB1.out.trans hF.below)
      have HQ2 := Num.hide hQk
      have HAk := Num.hide hAk
      have hsz2 := Nat.le_trans hsz1 hF.below.size
      clear hF hQk hAk HO HB HQi HB1 HQ1 HO1 hsz1 c1 c2
      have hsz3 : w.heap.size ≤ (w1.alloc (.cells #[.string m1, .string m2] 36)).heap.size := by simp; omega
      have HB3 := Num.hide (HB2.out.alloc (by omega) (.cells #[.string m1, .string m2] 36))
      have HQ3 := Num.hide (HQ.out (i + 1) _ _ HQ2.out ((Below.refl w.heap.size w1).alloc hsz2 (.cells #[.string m1, .string m2] 36)))
      have HO3 := Num.hide (World.ownsRow.alloc HO2.out (.cells #[.string m1, .string m2] 36))
      clear HO2 HB2 HQ2
      cases t with
      | false =>
        have HO4 : Hid (Own w.heap.size (w1.alloc (.cells #[.string m1, .string m2] 36)) u5 (A (i + 1))) := by
          rw [HAk.out, if_neg (by simp), List.append_nil]; exact HO3
        clear HO3
        go_wp2
        go_roundw
        case rel => exact ⟨i + 1, by omega, by go_num, HO4, HB3, HQ3, by simp; omega⟩
        case measure => simp [intOf]; omega
      | true =>
        have HAk2 : Hid (A (i + 1) = A i ++ [(m1, m2)]) := by show _ = _; rw [HAk.out, if_pos rfl]
        clear HAk
        go_wp2_with (at_builtin; refine wpList_append_own _ rfl _ _ 37 rfl w.heap.size 36 i0 _ 2 32 Tryz.underlying37 hi0 hz0 hz1 hz2 rfl (by decide) _ _ _ rfl (World.ownsRow.alloc HO3.out _) ⟨w1.heap.size + 1, 0, none⟩ 1 1 [.string m1, .string m2] rfl rfl (by simpa using cells_two (w1.alloc (.cells #[.string m1, .string m2] 36)) m1 m2) (two_ok m1 m2) (by unfold maxLen; omega) (by omega) ?c5 ?_)
        case c5 => first | omega | (simp; omega)
        intro v' w2 ho2 hg2 _
        obtain ⟨hp1, hp2⟩ := put_more hsz3 HO3.out (Below.refl w.heap.size _) ho2 hg2
        have HP1 : Hid (Own w.heap.size w2 v' (A (i + 1))) := by rw [HAk2.out]; exact hp1
        have HP2 := Num.hide (HB3.out.trans (hp2.mono (by omega)))
        have HP3 := Num.hide (HQ.out (i + 1) _ _ HQ3.out hp2)
        have hsz4 := Nat.le_trans hsz3 hp2.size
        clear ho2 hg2 hp1 hp2
        go_wp2
        go_roundw
        case rel => exact ⟨i + 1, by omega, by go_num, HP1, HP2, HP3, hsz4⟩
        case measure => simp [intOf]; omega
    · obtain rfl : i = l.length := by omega
      go_wp2
      go_ret
      exact ⟨_, rfl, HO.out, HB.out, HQi.out⟩
end Flds
end Go.Proofs.YtkenmilglfnmbaaGreatDoor
namespace Go.Proofs.YtkenmilglfnmbaaGreatDoor
open Go.RowKit
set_option linter.unusedVariables false
namespace Strs

theorem infoS : (Tryz.prog.info? 9).map (fun i => (i.zero, i.size, i.bytes)) = some (some (.string ⟨#[]⟩), 1, 16) := by kernel_rfl
theorem grown_trans {a b c : World} {r : Option Nat} (h : a.grownBy b r) (k : b.grownBy c r) : a.grownBy c r :=
  ⟨k.os.trans h.os, k.tape.trans h.tape, k.output.trans h.output, Nat.le_trans h.size k.size, fun j hj hr => (k.block j (Nat.lt_of_lt_of_le hj h.size) hr).trans (h.block j hj hr)⟩
theorem grown_of_below {a b : World} (h : Below a.heap.size a b) (r : Option Nat) : a.grownBy b r :=
  ⟨h.os, h.tape, h.output, h.size, fun j hj _ => h.block j hj⟩
theorem grown_drew {a b : World} {r : Option Nat} (h : a.grownBy b r) : a.grownBy b.drew r := ⟨h.os, h.tape, h.output, h.size, h.block⟩
theorem grown_drewN {a b : World} {r : Option Nat} (h : a.grownBy b r) (n : Nat) : a.grownBy (b.drewN n) r := ⟨h.os, h.tape, h.output, h.size, h.block⟩
theorem below_drewN {B : Nat} {a b : World} (h : Below B a b) (n : Nat) : Below B a (b.drewN n) := ⟨h.os, h.tape, h.output, h.size, h.block⟩
theorem below_grown {B : Nat} {a b c : World} {r : Option Nat} (h : Below B a b) (k : b.grownBy c r) (hr : ∀ j, r = some j → B ≤ j) (hB : B ≤ b.heap.size) : Below B a c := h.grown k hB hr

/-- the slice's row is the call's own: from block B on, not marked; it bears these texts -/
def OwnS (B : Nat) (w : World) (v : Value) (l : List ByteArray) : Prop := w.ownsRow B 9 1 v l.length (l.map Value.string)
/-- a slice of texts as it is read -/
def Is (w : World) (v : Value) (l : List ByteArray) : Prop :=
  (l = [] ∧ ∃ a c, v = .slice a 0 c) ∨ ∃ b o c, v = .slice (some ⟨b, o, none⟩) l.length c ∧ l.length ≤ c ∧ c ≤ maxLen ∧ ∀ i (h : i < l.length), w.cell? ⟨b, o + i, none⟩ = some (.string l[i])

theorem own_nil (B : Nat) (w : World) : OwnS B w (.slice none 0 0) [] := World.ownsRow_nil w B _ 1
theorem own_len {B : Nat} {w : World} {v : Value} {l : List ByteArray} (h : OwnS B w v l) : ∃ a c, v = .slice a l.length c := by
  rcases h.2 with ⟨h1, h2⟩ | ⟨g, cap, cur, h1, _⟩
  · exact ⟨none, 0, by rw [h1, h2]⟩
  · exact ⟨_, _, h1⟩
theorem own_kept {B : Nat} {w w' : World} {v : Value} {l : List ByteArray} {r : Option Nat} (h : OwnS B w v l) (hg : w.grownBy w' r) (hne : v.ownBlock = none ∨ v.ownBlock ≠ r) : OwnS B w' v l := World.ownsRow.kept h hg hne
theorem own_below {B : Nat} {w w' : World} {v : Value} {l : List ByteArray} (h : OwnS B w v l) (hb : Below w.heap.size w w') : OwnS B w' v l :=
  own_kept h (grown_of_below hb none) (by cases e : v.ownBlock with
    | none => exact .inl rfl
    | some k => exact .inr (by intro h; cases h))
theorem own_drew {B : Nat} {w : World} {v : Value} {l : List ByteArray} (h : OwnS B w v l) : OwnS B w.drew v l := h
theorem own_drewN {B : Nat} {w : World} {v : Value} {l : List ByteArray} (h : OwnS B w v l) (n : Nat) : OwnS B (w.drewN n) v l := h
theorem own_lt {B : Nat} {w : World} {v : Value} {l : List ByteArray} (h : OwnS B w v l) : ∀ k, v.ownBlock = some k → B ≤ k ∧ k < w.heap.size := World.ownsRow.lt h
theorem own_is {B : Nat} {w : World} {v : Value} {l : List ByteArray} (h : OwnS B w v l) : Is w v l := by
  rcases h.2 with ⟨h1, h2⟩ | ⟨g, cap, cur, h1, hB, hg, hc, hm, hs, ht⟩
  · left; exact ⟨List.eq_nil_of_length_eq_zero h2, none, 0, h1⟩
  · right
    refine ⟨g, 0, cap, h1, hc, hm, fun i hi => ?_⟩
    rw [Nat.zero_add, cell_of_row w g i cur _ _ hg]
    have h2 : (cur.toList.take (l.length * 1))[i]? = (l.map Value.string)[i]? := by rw [ht]
    rw [List.getElem?_take_of_lt (by omega), List.getElem?_map, List.getElem?_eq_getElem hi] at h2
    simpa using h2
theorem is_below {B : Nat} {w w' : World} {v : Value} {l : List ByteArray} (h : Is w v l) (hb : Below w.heap.size w w') : Is w' v l := by
  rcases h with h | ⟨b, o, c, h1, h2, h3, h4⟩
  · exact .inl h
  · refine .inr ⟨b, o, c, h1, h2, h3, fun i hi => ?_⟩
    have e := h4 i hi
    have hlt : b < w.heap.size := by
      by_cases hz : b < w.heap.size
      · exact hz
      · exfalso
        have : w.heap[b]? = none := Array.getElem?_eq_none (by omega)
        simp [World.cell?, this] at e
    rw [hb.cell (p := ⟨b, o + i, none⟩) hlt]; exact e
/-- a row that lies below block C stays with what lies there -/
theorem own_stay {B C : Nat} {w w' : World} {v : Value} {l : List ByteArray} (h : OwnS B w v l) (hC : ∀ k, v.ownBlock = some k → k < C) (hb : Below C w w') : OwnS B w' v l := by
  refine ⟨h.1, ?_⟩
  rcases h.2 with h1 | ⟨g, cap, cur, h1, hB, hg, rest⟩
  · exact .inl h1
  · subst h1
    exact .inr ⟨g, cap, cur, rfl, hB, by rw [hb.block g (hC g rfl)]; exact hg, rest⟩
/-- what a marking of one's own row leaves of what lay below it -/
theorem below_mark {B C : Nat} {w w' : World} {v : Value} {l : List ByteArray} (h : OwnS B w v l) (hCB : C ≤ B) (hC : C ≤ w.heap.size) (hg : w.grownBy w' v.ownBlock) : Below C w w' :=
  (Below.refl C w).grown hg hC (fun j hj => Nat.le_trans hCB (own_lt h j hj).1)
theorem cells_one (w : World) (t : ByteArray) : ∀ j u, [Value.string t][j]? = some u → (w.alloc (.cells #[.string t] 9)).cell? ((⟨w.heap.size, 0, none⟩ : Addr).add j) = some u := by
  intro j u hj
  match j, hj with
  | 0, hj => simp at hj; subst hj; simp [Addr.add]
theorem one_ok (t : ByteArray) : ∀ u ∈ [Value.string t], u.oneCell' = true := by intro u hu; simp at hu; subst hu; rfl
theorem own_snoc {B : Nat} {w : World} {v : Value} {l : List ByteArray} {t : ByteArray} (h : w.ownsRow B 9 1 v (l.length + 1) (l.map Value.string ++ [.string t])) : OwnS B w v (l ++ [t]) := by
  unfold OwnS
  rw [List.length_append, List.map_append]
  exact h
end Strs
end Go.Proofs.YtkenmilglfnmbaaGreatDoor
namespace Go.Proofs.YtkenmilglfnmbaaGreatDoor
open Go.RowKit
set_option linter.unusedVariables false
namespace Flds

/-- the library's variable holds some number -/
def Lim (w : World) : Prop := ∃ m, w.cell? ⟨8, 0, none⟩ = some (.int .i64 m)
theorem lim_lt {w : World} (h : Lim w) : 8 < w.heap.size := by obtain ⟨m, hm⟩ := h; exact Recs.lt_of_cell hm
theorem lim_of {w : World} (h : w.ShapedOpen Tryz.prog) : Lim w := Shelf.laysM145.s1_3 w h
theorem lim_below {w w' : World} {B : Nat} (h : Lim w) (hb : Below B w w') (hB : 8 < B) : Lim w' := by
  obtain ⟨m, hm⟩ := h
  exact ⟨m, (hb.cell (p := ⟨8, 0, none⟩) hB).trans hm⟩
theorem cut_eol (s : ByteArray) (a : Nat) (w : World) (hs : s.size ≤ 1048576) (hm : Lim w) :
    Calls Tryz.prog 158 #[.string (s.extract a s.size), .string ⟨#[13, 10]⟩] w fun e w' => ∃ x y, e = .returned (.tuple #[.string x, .string y, .bool (Line.eol s a).isSome]) ∧ (∀ i, Line.eol s a = some i → x = s.extract a i) ∧ ∃ n, w.drewN n = w' := by
  obtain ⟨m, hm⟩ := hm
  refine (Shelf.strings_Cut (s.extract a s.size) ⟨#[13, 10]⟩ m w (by rw [ByteArray.size_extract]; omega) hm).mono ?_
  rintro e w' ⟨rfl, n, rfl⟩
  cases he : Line.eol s a with
  | none =>
    obtain ⟨e1, e2, e3⟩ := Line.cut_none he
    exact ⟨_, _, by rw [e1, e2, e3]; rfl, (fun i h => by cases h), n, rfl⟩
  | some i =>
    obtain ⟨e1, e3⟩ := Line.cut_some he
    exact ⟨_, _, by rw [e1, e3]; rfl, (fun j h => by cases h; rfl), n, rfl⟩
set_option maxRecDepth 100000 in
set_option maxHeartbeats 2000000 in
theorem lines_impl (s : ByteArray) (w : World) (hs : s.size ≤ 1048576) (hm : Lim w) :
    Calls Tryz.prog 184 #[.string s] w fun e w' => ∃ v', e = .returned (.tuple #[v', .int .i64 (lnN s), .bool (lnB s)]) ∧ Strs.OwnS w.heap.size w' v' (lnL s) ∧ Below w.heap.size w w' := by
  obtain ⟨i0, hi0, hz0, hz1, hz2⟩ := info_parts Strs.infoS
  obtain ⟨L, hL⟩ : ∃ L, lnL s = L := ⟨_, rfl⟩
  obtain ⟨N, hN⟩ : ∃ N, lnN s = N := ⟨_, rfl⟩
  obtain ⟨b, hb⟩ : ∃ b, lnB s = b := ⟨_, rfl⟩
  rw [hL, hN, hb]
  have HR : Hid (lnL s = L ∧ lnN s = N ∧ lnB s = b) := ⟨hL, hN, hb⟩
  clear hL hN hb
  have HE : Hid (lines s = none → L = [] ∧ N = 0 ∧ b = false) := fun h => by
    obtain ⟨h1, h2, h3⟩ := ln_told_none h
    obtain ⟨g1, g2, g3⟩ := HR.out
    exact ⟨g1.symm.trans h1, g2.symm.trans h2, g3.symm.trans h3⟩
  have HF : Hid (∀ l n, lines s = some (l, n) → L = l ∧ N = (n : Int) ∧ b = true) := fun l n h => by
    obtain ⟨h1, h2, h3⟩ := ln_told_some h
    obtain ⟨g1, g2, g3⟩ := HR.out
    exact ⟨g1.symm.trans h1, g2.symm.trans h2, g3.symm.trans h3⟩
  have HM := Num.hide hm
  have hlm := lim_lt hm
  clear HR hm
  go_enter Tryz.func184, Tryz.ntmps184
  go_wp2
  go_loopw [5, 6] (fun ov av wr => ∃ (a : Nat) (l : List ByteArray), av = .int .i64 (a : Int) ∧ Hid (LnAt s a l) ∧ Hid (Strs.OwnS w.heap.size wr ov l) ∧ Hid (Below w.heap.size w wr)) (fun _ av _ => s.size - (intOf av).toNat)
  case atStart => exact ⟨0, [], rfl, ln_start s, Strs.own_nil _ _, Below.refl _ _⟩
  case round =>
    obtain ⟨a, l, rfl, HA, HO, HB⟩ := hrel
    obtain ⟨va, vc, hv⟩ := Strs.own_len HO.out
    subst hv
    have hle := HA.out.le
    have hln := HA.out.len
    have hsz := HB.out.size
    by_cases h12 : l.length ≤ 12
    · have d12 : decide ((l.length : Int) ≤ 12) = true := by simp; omega
      have HC := Num.hide (cut_eol s a wr hs (lim_below HM.out HB.out hlm))
      cases he : Line.eol s a with
      | none =>
        rw [he] at HC
        obtain ⟨rfl, rfl, rfl⟩ := Num.unhide HE (ln_none HA.out h12 he)
        clear he
        go_wp2_with fail
        refine (Num.unhide HC).mono ?_
        rintro e w1 ⟨x, y, rfl, _, n, rfl⟩
        go_wp2
        go_ret3
        exact ⟨_, rfl, Strs.own_nil _ _, Strs.below_drewN HB.out n⟩
      | some i =>
        rw [he] at HC
        have hin := Line.eol_in he
        by_cases hia : i = a
        · subst hia
          have hem : s.extract i i = ⟨#[]⟩ := Sign.empty_true _ (by rw [ByteArray.size_extract]; omega)
          obtain ⟨rfl, rfl, rfl⟩ := Num.unhide HF _ _ (ln_done HA.out h12 he)
          clear he
          go_wp2_with fail
          refine (Num.unhide HC).mono ?_
          rintro e w1 ⟨x, y, rfl, hx, n, rfl⟩
          obtain rfl : x = ⟨#[]⟩ := (hx i rfl).trans hem
          clear hx
          go_wp2
          go_ret3
          exact ⟨_, rfl, Strs.own_drewN HO.out n, Strs.below_drewN HB.out n⟩
        · have hts : (s.extract a i).size = i - a := by rw [ByteArray.size_extract]; omega
          have hne := Sign.empty_false (s.extract a i) (by omega)
          have HA2 := Num.hide (ln_more HA.out h12 he hia)
          clear he
          go_wp2_with fail
          refine (Num.unhide HC).mono ?_
          rintro e w1 ⟨x, y, rfl, hx, n, rfl⟩
          obtain rfl : x = s.extract a i := hx i rfl
          clear hx HC
          generalize s.extract a i = t at hne HA2 hts
          have hsz1 : w.heap.size ≤ (wr.drewN n).heap.size := hsz
          have HO1 : Hid (Strs.OwnS w.heap.size (wr.drewN n) (.slice va l.length vc) l) := Strs.own_drewN HO.out n
          have HB1 := Num.hide (Strs.below_drewN HB.out n)
          clear HO HB hsz
          generalize wr.drewN n = w1 at HO1 HB1 hsz1
          go_wp2_with (at_builtin; refine wpList_append_own _ rfl _ _ 100 rfl w.heap.size 9 i0 (.string ⟨#[]⟩) 1 16 Tryz.underlying100 hi0 hz0 hz1 hz2 rfl (by decide) _ _ _ rfl (World.ownsRow.alloc HO1.out _) ⟨w1.heap.size, 0, none⟩ 1 1 [.string t] rfl rfl (Strs.cells_one w1 t) (Strs.one_ok t) (by unfold maxLen; omega) (by omega) ?c5 ?_)
          case c5 => simp; omega
          intro v' w2 ho2 hg2 _
          have hp2 := Strs.below_grown (HB1.out.alloc hsz1 (.cells #[.string t] 9)) hg2 (fun j hj => (Strs.own_lt HO1.out j hj).1) (by simp; omega)
          have HP1 := Num.hide (Strs.own_snoc ho2)
          have HP2 := Num.hide hp2
          clear ho2 hg2 hp2
          go_wp2
          go_roundw
          case rel => exact ⟨i + 2, _, by go_num, HA2, HP1, HP2⟩
          case measure => simp [intOf]; omega
    · have d12 : decide ((l.length : Int) ≤ 12) = false := by simp; omega
      obtain ⟨rfl, rfl, rfl⟩ := Num.unhide HE (ln_full HA.out h12)
      go_wp2
      go_ret3
      exact ⟨_, rfl, Strs.own_nil _ _, HB.out⟩
end Flds
end Go.Proofs.YtkenmilglfnmbaaGreatDoor
namespace Go.Proofs.YtkenmilglfnmbaaGreatDoor
open Go.RowKit
set_option linter.unusedVariables false
namespace Sign

theorem u8_add (c : Int) (h0 : 65 ≤ c) (h1 : c ≤ 90) : IntKind.u8.wrap (c + 32) = c + 32 := by
  rw [IntKind.wrap_u8]; omega

set_option maxRecDepth 100000 in
set_option maxHeartbeats 1000000 in
theorem lower_impl (s : ByteArray) (w : World) (hs : s.size ≤ maxLen) : Calls Tryz.prog 91 #[.string s] w fun e w' => e = .returned (.string (lower s)) ∧ Below w.heap.size w w' := by
  unfold maxLen at hs
  have hconv := Lib.run_convert_string_bytes (P := Tryz.prog) w 9 22 5 s (u := .string) Tryz.underlying9 Tryz.underlying22 Tryz.underlying5
  have hP := Num.hide (bytes_part w 5 s)
  have hB := Num.hide (bytes_below w 5 s)
  generalize Lib.bytesWorld w 5 s = W0 at hconv hP hB
  generalize grownCap w s.size 0 5 = cap at hconv
  go_enter Tryz.func91, Tryz.ntmps91
  go_wp2
  clear hconv
  go_loopw [10] (fun i W => ∃ k : Nat, k ≤ s.size ∧ i = .int .i64 k ∧ Hid (Part w.heap.size s k W) ∧ Hid (Below w.heap.size w W)) (fun i _ => s.size - (intOf i).toNat)
  case atStart => exact ⟨0, by omega, rfl, hP, hB⟩
  case round =>
    clear hP hB
    obtain ⟨k, hk, rfl, hP, hB⟩ := hrel
    by_cases hlt : k < s.size
    · have hcell := hP.out.todo k hlt (Nat.le_refl _)
      have hfree := hP.out.free k hlt
      by_cases hu : up (s[k].toNat : Int)
      · have hut := Num.hide (decide_eq_true hu)
        have hP2 := Num.hide (part_up hP.out hlt hu)
        have hw := u8_add _ hu.1 hu.2
        clear hu
        go_wp2_with (go_at_call 147; refine (isUpper_any _ _).mono ?_; rintro e w' ⟨rfl, rfl⟩; rw [Num.unhide hut])
        go_roundw
        case rel => exact ⟨k + 1, by omega, by go_num, hP2, Num.hide (hB.out.setCell (Nat.le_refl _) _)⟩
        case measure => simp [intOf]; omega
      · have hut := Num.hide (decide_eq_false hu)
        have hP2 := Num.hide (part_no hP.out hlt hu)
        clear hu
        go_wp2_with (go_at_call 147; refine (isUpper_any _ _).mono ?_; rintro e w' ⟨rfl, rfl⟩; rw [Num.unhide hut])
        go_roundw
        case rel => exact ⟨k + 1, by omega, by go_num, hP2, hB⟩
        case measure => simp [intOf]; omega
    · obtain rfl : k = s.size := by omega
      have hback := part_back hP.out cap
      go_wp2
      go_ret
      exact ⟨rfl, hB.out⟩
end Sign
end Go.Proofs.YtkenmilglfnmbaaGreatDoor
namespace Go.Proofs.YtkenmilglfnmbaaGreatDoor
open Go.Shelf
def Shelf.lays160_ren : Go.Shelf.Ren := ⟨fun | 160 => 202 | 232 => 208 | 231 => 207 | 227 => 209 | 234 => 211 | 233 => 210 | 236 => 213 | 235 => 212 | 228 => 216 | 271 => 219 | 151 => 218 | 197 => 217 | 120 => 222 | 152 => 221 | 260 => 220 | 137 => 223 | 119 => 224 | 224 => 205 | 225 => 204 | 217 => 203 | 266 => 214 | n => n, fun | 9 => 9 | 4 => 4 | 3 => 3 | 5 => 5 | 117 => 215 | 116 => 214 | 0 => 0 | 124 => 218 | 21 => 21 | 105 => 221 | 46 => 141 | 119 => 225 | 139 => 228 | 138 => 227 | n => n, fun | 3 => 9 | 4 => 10 | n => n⟩
theorem Shelf.lays160 : Go.Proofs.Lays.n160 Tryz.prog Shelf.lays160_ren := {
  mixed := by kernel_rfl
  f119 := Tryz.func224.trans (congrArg some (by kernel_rfl))
  f120 := Tryz.func222.trans (congrArg some (by kernel_rfl))
  f137 := Tryz.func223.trans (congrArg some (by kernel_rfl))
  f151 := Tryz.func218.trans (congrArg some (by kernel_rfl))
  f152 := Tryz.func221.trans (congrArg some (by kernel_rfl))
  f160 := Tryz.func202.trans (congrArg some (by kernel_rfl))
  f197 := Tryz.func217.trans (congrArg some (by kernel_rfl))
  f217 := Tryz.func203.trans (congrArg some (by kernel_rfl))
  f224 := Tryz.func205.trans (congrArg some (by kernel_rfl))
  f225 := Tryz.func204.trans (congrArg some (by kernel_rfl))
  f227 := Tryz.func209.trans (congrArg some (by kernel_rfl))
  f228 := Tryz.func216.trans (congrArg some (by kernel_rfl))
  f231 := Tryz.func207.trans (congrArg some (by kernel_rfl))
  f232 := Tryz.func208.trans (congrArg some (by kernel_rfl))
  f233 := Tryz.func210.trans (congrArg some (by kernel_rfl))
  f234 := Tryz.func211.trans (congrArg some (by kernel_rfl))
  f235 := Tryz.func212.trans (congrArg some (by kernel_rfl))
  f236 := Tryz.func213.trans (congrArg some (by kernel_rfl))
  f260 := Tryz.func220.trans (congrArg some (by kernel_rfl))
  f266 := Tryz.func214.trans (congrArg some (by kernel_rfl))
  f271 := Tryz.func219.trans (congrArg some (by kernel_rfl))
  t0 := Tryz.underlying0
  a0 := Tryz.isAgg0
  z0 := Tryz.sizeOf0
  v0 := Tryz.zeroValue0
  t3 := Tryz.underlying3
  a3 := Tryz.isAgg3
  z3 := Tryz.sizeOf3
  v3 := Tryz.zeroValue3
  t4 := Tryz.underlying4
  a4 := Tryz.isAgg4
  z4 := Tryz.sizeOf4
  v4 := Tryz.zeroValue4
  t5 := Tryz.underlying5
  a5 := Tryz.isAgg5
  z5 := Tryz.sizeOf5
  v5 := Tryz.zeroValue5
  t9 := Tryz.underlying9
  a9 := Tryz.isAgg9
  z9 := Tryz.sizeOf9
  v9 := Tryz.zeroValue9
  t21 := Tryz.underlying21
  a21 := Tryz.isAgg21
  z21 := Tryz.sizeOf21
  v21 := Tryz.zeroValue21
  t46 := Tryz.underlying141
  a46 := Tryz.isAgg141
  z46 := Tryz.sizeOf141
  v46 := Tryz.zeroValue141
  t105 := Tryz.underlying221
  a105 := Tryz.isAgg221
  z105 := Tryz.sizeOf221
  v105 := Tryz.zeroValue221
  t116 := Tryz.underlying214
  a116 := Tryz.isAgg214
  z116 := Tryz.sizeOf214
  t117 := Tryz.underlying215
  a117 := Tryz.isAgg215
  z117 := Tryz.sizeOf215
  v117 := Tryz.zeroValue215
  t119 := Tryz.underlying225
  a119 := Tryz.isAgg225
  z119 := Tryz.sizeOf225
  t124 := Tryz.underlying218
  a124 := Tryz.isAgg218
  z124 := Tryz.sizeOf218
  v124 := Tryz.zeroValue218
  t138 := Tryz.underlying227
  a138 := Tryz.isAgg227
  z138 := Tryz.sizeOf227
  v138 := Tryz.zeroValue227
  t139 := Tryz.underlying228
  a139 := Tryz.isAgg228
  z139 := Tryz.sizeOf228
  v139 := Tryz.zeroValue228
  g3 := by kernel_rfl
  g4 := by kernel_rfl }
open Go.RowKit in
theorem Shelf.strings_Trim_one (s : ByteArray) (c : UInt8) (hc : c.toNat < 128) (w : World) (hs : s.size ≤ 9223372036854775807) :
    Calls Tryz.prog 202 #[.string s, .string ⟨#[c]⟩] w fun e w' => e = .returned (.string ⟨(Lib.trimB s.data.toList c).toArray⟩) ∧ (w' = w ∨ w' = w.drew) := Any.strings_Trim_one Shelf.lays160 s c hc w hs
end Go.Proofs.YtkenmilglfnmbaaGreatDoor
namespace Go.Proofs.YtkenmilglfnmbaaGreatDoor
open Go.Shelf Go.RowKit
set_option linter.unusedVariables false
def Shelf.lays316_ren : Go.Shelf.Ren := ⟨fun | 316 => 161 | n => n, fun | 0 => 0 | 3 => 3 | 4 => 4 | 5 => 5 | 9 => 9 | 37 => 22 | 127 => 111 | n => n, fun | n => n⟩
theorem Shelf.lays316 : Go.Proofs.LaysM.n316 Tryz.prog Shelf.lays316_ren := {
  mixed := by kernel_rfl
  f316 := Tryz.func161.trans (congrArg some (by kernel_rfl))
  t0 := Tryz.underlying0
  a0 := Tryz.isAgg0
  z0 := Tryz.sizeOf0
  v0 := Tryz.zeroValue0
  t3 := Tryz.underlying3
  a3 := Tryz.isAgg3
  z3 := Tryz.sizeOf3
  v3 := Tryz.zeroValue3
  t4 := Tryz.underlying4
  a4 := Tryz.isAgg4
  z4 := Tryz.sizeOf4
  v4 := Tryz.zeroValue4
  t9 := Tryz.underlying9
  a9 := Tryz.isAgg9
  z9 := Tryz.sizeOf9
  v9 := Tryz.zeroValue9
  t37 := Tryz.underlying22
  a37 := Tryz.isAgg22
  z37 := Tryz.sizeOf22
  v37 := Tryz.zeroValue22
  t127 := Tryz.underlying111
  a127 := Tryz.isAgg111
  z127 := Tryz.sizeOf111
  v127 := Tryz.zeroValue111
  t5 := Tryz.underlying5
  a5 := Tryz.isAgg5
  z5 := Tryz.sizeOf5
  v5 := Tryz.zeroValue5
  i0 := by kernel_rfl
  i3 := by kernel_rfl
  i4 := by kernel_rfl
  i5 := by kernel_rfl
  i9 := by kernel_rfl
  i37 := by kernel_rfl
  i127 := by kernel_rfl }
theorem Shelf.clone_in (s : ByteArray) (w : World) (hlim : s.size ≤ 281474976710656) :
    Calls Tryz.prog 161 #[.string s] w fun e w' => e = .returned (.string s) ∧ Below w.heap.size w w' := Any.stringslite_Clone Shelf.lays316 s w hlim
set_option maxHeartbeats 1000000 in
theorem Shelf.clone (s : ByteArray) (w : World) (hlim : s.size ≤ 281474976710656) :
    Calls Tryz.prog 106 #[.string s] w fun e w' => e = .returned (.string s) ∧ Below w.heap.size w w' := by
  go_enter Tryz.func106, Tryz.ntmps106
  go_wp2_with fail
  refine (Shelf.clone_in s _ hlim).mono ?_
  rintro e w1 ⟨rfl, hb⟩
  go_wp2
  go_ret
  exact ⟨rfl, hb⟩
end Go.Proofs.YtkenmilglfnmbaaGreatDoor
