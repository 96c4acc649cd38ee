/-
  DecNum: Plain facts on decimal digits: the digits of a number, one by one from the lowest on.
  DateText: The text of a date, plain: the year, the month and the day that a day lies in; the text.
  DecSpec: Dec of the specification: what the call returns, for every number; old memory stays as it was.
  DateSpec: ShowDate of the specification: the text of a date; what was there stays.
  FldPut: A field put behind a list of fields in a row of the call's own.
  DrawFld: The specification's draws of fields: some list of small fields; nothing but the cursor and new memory changes.
-/
import Derived.Test.YtbajfklnekfeoaaGreatDoorNum
import Derived.Lib.ItoaNum
import Derived.Lib.ItoaLen
import Derived.Test.YtbajfklnekfeoaaGreatDoorPaa
import Derived.Test.YtbajfklnekfeoaaGreatDoorMem
import Derived.Test.YtbajfklnekfeoaaGreatDoorFldOwn
namespace Go.Proofs.YtbajfklnekfeoaaGreatDoor
open Go.RowKit
set_option linter.unusedVariables false
namespace Dec

/-- the digits of a number, none for 0 -/
def dd (u : Nat) : List UInt8 := if u = 0 then [] else Lib.decDigits u
theorem dd_zero : dd 0 = [] := rfl
theorem dd_pos (u : Nat) (h : u ≠ 0) : dd u = Lib.decDigits u := if_neg h
theorem dd_step (u : Nat) (h : u ≠ 0) : dd u = dd (u / 10) ++ [Num.byte (48 + (u % 10 : Nat))] := by
  have e : Num.byte (48 + ((u % 10 : Nat) : Int)) = UInt8.ofNat (48 + u % 10) := by
    apply UInt8.toNat_inj.1
    have hb := Num.byte_val (48 + ((u % 10 : Nat) : Int))
    rw [UInt8.toNat_ofNat']
    omega
  rw [dd_pos u h, Lib.decDigits, e]
  by_cases h10 : u < 10
  · rw [dif_pos h10, show u / 10 = 0 by omega, dd_zero, show u % 10 = u by omega]; rfl
  · rw [dif_neg h10, dd_pos (u / 10) (by omega)]
theorem length_dd (u : Nat) (h : u < 18446744073709551616) : (dd u).length ≤ 20 := by
  by_cases h0 : u = 0
  · subst h0; simp [dd_zero]
  · rw [dd_pos u h0, Lib.decDigits_length]; exact Lib.nDigits_le20 u h
theorem itoa_zero : Lib.itoa 0 = [48] := by
  have h : Lib.decDigits 0 = [48] := by rw [Lib.decDigits_one (by decide)]; rfl
  exact h
theorem itoa_pos (n : Int) (h : 0 < n) : Lib.itoa n = dd n.natAbs := by
  unfold Lib.itoa
  rw [if_neg (by omega), dd_pos _ (by omega), show n.toNat = n.natAbs by omega]
theorem itoa_neg (n : Int) (h : n < 0) : Lib.itoa n = 45 :: dd n.natAbs := by
  unfold Lib.itoa
  rw [if_pos h, dd_pos _ (by omega)]
end Dec
end Go.Proofs.YtbajfklnekfeoaaGreatDoor
namespace Go.Proofs.YtbajfklnekfeoaaGreatDoor
open Go.RowKit
set_option linter.unusedVariables false
namespace Date

/-- the year, from 1970 on, that a day lies in -/
def yearGo (D : Int) : Nat → Nat → Nat
  | 0, j => j
  | n + 1, j => if ysum (j + 1) ≤ D then yearGo D n (j + 1) else j
def yearOf (D : Int) : Nat := yearGo D 67 0
def monthGo (y : Int) (r : Int) : Nat → Nat → Nat
  | 0, k => k
  | n + 1, k => if msum y (k + 1) ≤ r then monthGo y r n (k + 1) else k
/-- the month, from 0 on, that a day of the year lies in -/
def monthOf (y : Int) (r : Int) : Nat := monthGo y r 11 0
theorem yearGo_spec (D : Int) : ∀ (n j : Nat), ysum j ≤ D → ysum (yearGo D n j) ≤ D ∧ yearGo D n j ≤ j + n ∧ (D < ysum (yearGo D n j + 1) ∨ yearGo D n j = j + n) := by
  intro n
  induction n with
  | zero => intro j h; exact ⟨h, Nat.le_refl _, .inr rfl⟩
  | succ n ih =>
    intro j h
    unfold yearGo
    by_cases hc : ysum (j + 1) ≤ D
    · rw [if_pos hc]
      have := ih (j + 1) hc
      omega
    · rw [if_neg hc]; omega
theorem monthGo_spec (y r : Int) : ∀ (n k : Nat), msum y k ≤ r → msum y (monthGo y r n k) ≤ r ∧ monthGo y r n k ≤ k + n ∧ (r < msum y (monthGo y r n k + 1) ∨ monthGo y r n k = k + n) := by
  intro n
  induction n with
  | zero => intro j h; exact ⟨h, Nat.le_refl _, .inr rfl⟩
  | succ n ih =>
    intro k h
    unfold monthGo
    by_cases hc : msum y (k + 1) ≤ r
    · rw [if_pos hc]
      have := ih (k + 1) hc
      omega
    · rw [if_neg hc]; omega
theorem ysum_succ (j : Nat) : ysum (j + 1) = ysum j + msum (1970 + (j : Int)) 12 := by
  have h : msum (1970 + (j : Int)) 12 = 337 + feb (1970 + (j : Int)) := by
    show 0 + 31 + feb (1970 + (j : Int)) + 31 + 30 + 31 + 30 + 31 + 31 + 30 + 31 + 30 + 31 = _
    omega
  rw [h]
  unfold feb
  show ysum j + 365 + _ = _
  split <;> omega
theorem ysum_67 : (24472 : Int) ≤ ysum 67 := by decide +kernel
theorem year_in (D : Int) (h0 : 0 ≤ D) (h1 : D ≤ 24471) : ysum (yearOf D) ≤ D ∧ yearOf D ≤ 66 ∧ D < ysum (yearOf D + 1) := by
  have h := yearGo_spec D 67 0 h0
  have h67 := ysum_67
  unfold yearOf
  rcases h with ⟨h2, h3, h4 | h4⟩
  · refine ⟨h2, ?_, h4⟩
    by_cases e : yearGo D 67 0 = 67
    · rw [e] at h2; omega
    · omega
  · rw [h4] at h2
    simp only [Nat.zero_add] at h2
    omega
theorem month_in (j : Nat) (r : Int) (h0 : 0 ≤ r) (h1 : r < msum (1970 + (j : Int)) 12) : msum (1970 + (j : Int)) (monthOf (1970 + (j : Int)) r) ≤ r ∧ monthOf (1970 + (j : Int)) r ≤ 11 ∧ r < msum (1970 + (j : Int)) (monthOf (1970 + (j : Int)) r + 1) := by
  have h := monthGo_spec (1970 + (j : Int)) r 11 0 h0
  unfold monthOf
  rcases h with ⟨h2, h3, h4 | h4⟩
  · exact ⟨h2, by omega, h4⟩
  · refine ⟨h2, by omega, ?_⟩
    rw [h4]; exact h1
/-- the day's year (from 1970 on), month (from 0 on) and day (from 0 on) -/
def yr (D : Int) : Nat := yearOf D
def mo (D : Int) : Nat := monthOf (1970 + (yr D : Int)) (D - ysum (yr D))
def dy (D : Int) : Int := D - ysum (yr D) - msum (1970 + (yr D : Int)) (mo D)
theorem parts_in (D : Int) (h0 : 0 ≤ D) (h1 : D ≤ 24471) : yr D ≤ 66 ∧ mo D ≤ 11 ∧ 0 ≤ dy D ∧ dy D < mlen (1970 + (yr D : Int)) (mo D) ∧ ysum (yr D) ≤ D ∧ D - ysum (yr D) < msum (1970 + (yr D : Int)) 12 := by
  have hy := year_in D h0 h1
  have hs := ysum_succ (yearOf D)
  have hm := month_in (yr D) (D - ysum (yr D)) (by unfold yr; omega) (by unfold yr; omega)
  have hm2 : msum (1970 + (yr D : Int)) (mo D + 1) = msum (1970 + (yr D : Int)) (mo D) + mlen (1970 + (yr D : Int)) (mo D) := rfl
  unfold dy
  refine ⟨hy.2.1, hm.2.1, ?_, ?_, hy.1, ?_⟩
  · have := hm.1; unfold mo; omega
  · have := hm.2.2; unfold mo at hm2 ⊢; omega
  · unfold yr; omega
theorem days_parts (j k : Nat) (d : Int) (hj : j ≤ 67) (hk : k ≤ 11) (h0 : 0 ≤ d) (h1 : d < mlen (1970 + (j : Int)) k) : days (1970 + (j : Int)) ((k : Int) + 1) (d + 1) = d + ysum j + msum (1970 + (j : Int)) k := by
  rw [days_in ⟨by omega, by omega, by omega, by rw [show ((k : Int) + 1 - 1).toNat = k by omega]; omega⟩]
  rw [show ((k : Int) + 1 - 1).toNat = k by omega, show (1970 + (j : Int) - 1970).toNat = j by omega]
  omega
/-- the days of the week, from the first of January 1970 on, and the months -/
def weeks : List ByteArray := [⟨#[84, 104, 117]⟩, ⟨#[70, 114, 105]⟩, ⟨#[83, 97, 116]⟩, ⟨#[83, 117, 110]⟩, ⟨#[77, 111, 110]⟩, ⟨#[84, 117, 101]⟩, ⟨#[87, 101, 100]⟩]
def names : List ByteArray := [⟨#[74, 97, 110]⟩, ⟨#[70, 101, 98]⟩, ⟨#[77, 97, 114]⟩, ⟨#[65, 112, 114]⟩, ⟨#[77, 97, 121]⟩, ⟨#[74, 117, 110]⟩, ⟨#[74, 117, 108]⟩, ⟨#[65, 117, 103]⟩, ⟨#[83, 101, 112]⟩, ⟨#[79, 99, 116]⟩, ⟨#[78, 111, 118]⟩, ⟨#[68, 101, 99]⟩]
def week (k : Nat) : ByteArray := weeks.getD k ⟨#[]⟩
def name (k : Nat) : ByteArray := names.getD k ⟨#[]⟩
def dec (n : Int) : ByteArray := ⟨(Lib.itoa n).toArray⟩
/-- the text of a date -/
def text (n : Int) : ByteArray :=
  week (n / 86400 % 7).toNat ++ ⟨#[44, 32]⟩ ++ two (dy (n / 86400) + 1) ++ ⟨#[32]⟩ ++ name (mo (n / 86400)) ++ ⟨#[32]⟩ ++ dec (1970 + (yr (n / 86400) : Int)) ++ ⟨#[32]⟩ ++ two (n / 3600 % 24) ++ ⟨#[58]⟩ ++ two (n / 60 % 60) ++ ⟨#[58]⟩ ++ two (n % 60) ++ ⟨#[32, 71, 77, 84]⟩
def shown (n : Int) : ByteArray := if 0 ≤ n ∧ n ≤ 2000000000 then text n else ⟨#[]⟩
theorem week_size (k : Nat) (h : k < 7) : (week k).size = 3 := by
  have : ∀ k, k < 7 → (week k).size = 3 := by decide
  exact this k h
theorem name_size (k : Nat) (h : k < 12) : (name k).size = 3 := by
  have : ∀ k, k < 12 → (name k).size = 3 := by decide
  exact this k h
end Date
end Go.Proofs.YtbajfklnekfeoaaGreatDoor
namespace Go.Proofs.YtbajfklnekfeoaaGreatDoor
open Go.RowKit
set_option linter.unusedVariables false
namespace Dec

theorem lay_front (out : List UInt8) (u : Nat) (r : List UInt8) (x : Int) (h : u ≠ 0) (hx : x = 48 + ((u % 10 : Nat) : Int)) (he : r = dd u ++ out) :
    r = dd (u / 10) ++ (Num.byte x :: out) := by
  subst hx
  rw [he, dd_step u h, List.append_assoc]; rfl
theorem cons_text (c : UInt8) (out : List UInt8) : (⟨#[c]⟩ : ByteArray) ++ ⟨out.toArray⟩ = ⟨(c :: out).toArray⟩ := by
  rw [ByteArray.mk_append_mk]; simp
set_option maxRecDepth 100000 in
set_option maxHeartbeats 1000000 in
theorem spec_pos (n : Int) (w : World) (h0 : 0 < n) (h1 : n ≤ 9223372036854775807) :
    Calls Tryz.prog 16 #[.int .i64 n] w fun e w' => e = .returned (.string ⟨(dd n.natAbs).toArray⟩) ∧ Below w.heap.size w w' := by
  have hz : (n == 0) = false := by rw [beq_eq_false_iff_ne]; omega
  have hneg : decide (n < 0) = false := by simp; omega
  go_enter Tryz.func16, Tryz.ntmps16
  go_wp2
  go_loopw [0, 3] (fun q o wr => ∃ (r : Int) (out : List UInt8), 0 ≤ r ∧ r ≤ n ∧ Hid (dd n.natAbs = dd r.natAbs ++ out) ∧ q = .int .i64 r ∧ o = .string ⟨out.toArray⟩ ∧ Below w.heap.size w wr) (fun q _ _ => (intOf q).toNat)
  case atStart => exact ⟨n, [], by omega, by omega, by show _ = _; simp, rfl, rfl, Below.refl _ _⟩
  case round =>
    obtain ⟨r, out, hr0, hrn, hd, rfl, rfl, hbel⟩ := hrel
    have hl : out.length ≤ 20 := by
      have h2 := congrArg List.length hd.out
      rw [List.length_append] at h2
      have h3 := length_dd n.natAbs (by omega)
      omega
    by_cases hr : r = 0
    · subst hr
      have hne : ((0 : Int) != 0) = false := rfl
      go_wp2
      go_ret
      exact ⟨by rw [show dd n.natAbs = out from hd.out]; rfl, hbel⟩
    · have hne : (r != 0) = true := by rw [bne_iff_ne]; exact hr
      have hp : 0 < r := by omega
      have hc := Mem.conv_one wr (48 + r % 10) (by omega) (by omega)
      clear hr
      go_wp2
      go_roundw
      case rel => exact ⟨r / 10, Num.byte (48 + r % 10) :: out, by omega, by omega, by show _ = _; rw [lay_front out r.natAbs _ (48 + r % 10) (by omega) (by omega) hd.out, show (r / 10).natAbs = r.natAbs / 10 by omega], rfl, congrArg Value.string (cons_text _ _), hbel.alloc hbel.size _⟩
      case measure => simp [intOf]; omega
theorem neg_parts (r : Int) (h : r < 0) : r.tmod 10 = -((r.natAbs % 10 : Nat) : Int) ∧ r.tdiv 10 = -((r.natAbs / 10 : Nat) : Int) := by
  obtain ⟨u, rfl⟩ : ∃ u : Nat, r = -(u : Int) := ⟨r.natAbs, by omega⟩
  rw [Int.neg_tmod, Int.neg_tdiv, Int.natAbs_neg, Int.natAbs_natCast, Int.tmod_eq_emod_of_nonneg (by omega), Int.tdiv_eq_ediv_of_nonneg (by omega)]
  constructor <;> omega
set_option maxRecDepth 100000 in
set_option maxHeartbeats 1000000 in
theorem spec_neg (n : Int) (w : World) (h0 : n < 0) (h1 : -9223372036854775808 ≤ n) :
    Calls Tryz.prog 16 #[.int .i64 n] w fun e w' => e = .returned (.string ⟨(45 :: dd n.natAbs).toArray⟩) ∧ Below w.heap.size w w' := by
  have hz : (n == 0) = false := by rw [beq_eq_false_iff_ne]; omega
  have hneg : decide (n < 0) = true := by simp; omega
  go_enter Tryz.func16, Tryz.ntmps16
  go_wp2
  go_loopw [0, 3] (fun q o wr => ∃ (r : Int) (out : List UInt8), r ≤ 0 ∧ n ≤ r ∧ Hid (dd n.natAbs = dd r.natAbs ++ out) ∧ q = .int .i64 r ∧ o = .string ⟨out.toArray⟩ ∧ Below w.heap.size w wr) (fun q _ _ => (intOf q).natAbs)
  case atStart => exact ⟨n, [], by omega, by omega, by show _ = _; simp, rfl, rfl, Below.refl _ _⟩
  case round =>
    obtain ⟨r, out, hr0, hrn, hd, rfl, rfl, hbel⟩ := hrel
    have hl : out.length ≤ 20 := by
      have h2 := congrArg List.length hd.out
      rw [List.length_append] at h2
      have h3 := length_dd n.natAbs (by omega)
      omega
    by_cases hr : r = 0
    · subst hr
      have hne : ((0 : Int) != 0) = false := rfl
      go_wp2
      go_ret
      exact ⟨by rw [show dd n.natAbs = out from hd.out]; exact congrArg (fun x => Ending.returned (.string x)) (cons_text _ _), hbel⟩
    · have hne : (r != 0) = true := by rw [bne_iff_ne]; exact hr
      have hp : r < 0 := by omega
      clear hr
      have hnp := Num.hide (neg_parts r hp)
      have hb0 : -9 ≤ r.tmod 10 := by have := (Num.unhide hnp).1; omega
      have hb1 : r.tmod 10 ≤ 0 := by have := (Num.unhide hnp).1; omega
      have hq0 : r ≤ r.tdiv 10 := by have := (Num.unhide hnp).2; omega
      have hq1 : r.tdiv 10 ≤ 0 := by have := (Num.unhide hnp).2; omega
      by_cases ht : r.tmod 10 < 0
      · have hc := Mem.conv_one wr (48 + -r.tmod 10) (by omega) (by omega)
        go_wp2
        go_roundw
        case rel => exact ⟨r.tdiv 10, Num.byte (48 + -r.tmod 10) :: out, by omega, by omega, by show _ = _; rw [lay_front out r.natAbs _ (48 + -r.tmod 10) (by omega) (by have := (Num.unhide hnp).1; omega) hd.out, show (r.tdiv 10).natAbs = r.natAbs / 10 by have := (Num.unhide hnp).2; omega], rfl, congrArg Value.string (cons_text _ _), hbel.alloc hbel.size _⟩
        case measure => show (r.tdiv 10).natAbs < r.natAbs; have := (Num.unhide hnp).2; omega
      · have hc := Mem.conv_one wr (48 + r.tmod 10) (by omega) (by omega)
        go_wp2
        go_roundw
        case rel => exact ⟨r.tdiv 10, Num.byte (48 + r.tmod 10) :: out, by omega, by omega, by show _ = _; rw [lay_front out r.natAbs _ (48 + r.tmod 10) (by omega) (by have := (Num.unhide hnp).1; omega) hd.out, show (r.tdiv 10).natAbs = r.natAbs / 10 by have := (Num.unhide hnp).2; omega], rfl, congrArg Value.string (cons_text _ _), hbel.alloc hbel.size _⟩
        case measure => show (r.tdiv 10).natAbs < r.natAbs; have := (Num.unhide hnp).2; omega
set_option maxHeartbeats 400000 in
theorem spec_zero (w : World) : Calls Tryz.prog 16 #[.int .i64 0] w fun e w' => e = .returned (.string ⟨#[48]⟩) ∧ Below w.heap.size w w' := by
  have hz : ((0 : Int) == 0) = true := rfl
  go_enter Tryz.func16, Tryz.ntmps16
  go_wp2
  go_ret
  exact ⟨rfl, Below.refl _ _⟩
theorem spec_any (n : Int) (w : World) (h0 : -9223372036854775808 ≤ n) (h1 : n ≤ 9223372036854775807) :
    Calls Tryz.prog 16 #[.int .i64 n] w fun e w' => e = .returned (.string ⟨(Lib.itoa n).toArray⟩) ∧ Below w.heap.size w w' := by
  rcases Int.lt_trichotomy n 0 with h | h | h
  · rw [itoa_neg n h]; exact spec_neg n w h h0
  · subst h; rw [itoa_zero]; exact spec_zero w
  · rw [itoa_pos n h]; exact spec_pos n w h h1
end Dec
end Go.Proofs.YtbajfklnekfeoaaGreatDoor
namespace Go.Proofs.YtbajfklnekfeoaaGreatDoor
open Go.RowKit
set_option linter.unusedVariables false
namespace Date

def wrow : Array Value := #[.string ⟨#[84, 104, 117]⟩, .string ⟨#[70, 114, 105]⟩, .string ⟨#[83, 97, 116]⟩, .string ⟨#[83, 117, 110]⟩, .string ⟨#[77, 111, 110]⟩, .string ⟨#[84, 117, 101]⟩, .string ⟨#[87, 101, 100]⟩]
def nrow : Array Value := #[.string ⟨#[74, 97, 110]⟩, .string ⟨#[70, 101, 98]⟩, .string ⟨#[77, 97, 114]⟩, .string ⟨#[65, 112, 114]⟩, .string ⟨#[77, 97, 121]⟩, .string ⟨#[74, 117, 110]⟩, .string ⟨#[74, 117, 108]⟩, .string ⟨#[65, 117, 103]⟩, .string ⟨#[83, 101, 112]⟩, .string ⟨#[79, 99, 116]⟩, .string ⟨#[78, 111, 118]⟩, .string ⟨#[68, 101, 99]⟩]
theorem wcell (w : World) (k : Nat) (h : k < 7) : (w.alloc (.cells wrow 9)).cell? ⟨w.heap.size, k, none⟩ = some (.string (week k)) := by
  rw [cell_of_row _ _ _ _ _ _ (heap_alloc_new w _)]
  match k, h with
  | 0, _ => rfl
  | 1, _ => rfl
  | 2, _ => rfl
  | 3, _ => rfl
  | 4, _ => rfl
  | 5, _ => rfl
  | 6, _ => rfl
theorem ncell (w : World) (k : Nat) (h : k < 12) : (w.alloc (.cells nrow 9)).cell? ⟨w.heap.size, k, none⟩ = some (.string (name k)) := by
  rw [cell_of_row _ _ _ _ _ _ (heap_alloc_new w _)]
  match k, h with
  | 0, _ => rfl
  | 1, _ => rfl
  | 2, _ => rfl
  | 3, _ => rfl
  | 4, _ => rfl
  | 5, _ => rfl
  | 6, _ => rfl
  | 7, _ => rfl
  | 8, _ => rfl
  | 9, _ => rfl
  | 10, _ => rfl
  | 11, _ => rfl
theorem days_year (j : Nat) (h : j ≤ 66) : days (1970 + (j : Int) + 1) 1 1 = ysum (j + 1) := by
  have := days_parts (j + 1) 0 0 (by omega) (by omega) (by omega) (by have := mlen_bd (1970 + ((j + 1 : Nat) : Int)) 0 (by omega); omega)
  rw [show (1970 + (j : Int) + 1) = 1970 + ((j + 1 : Nat) : Int) by omega]
  simp only [Int.zero_add, msum, Int.add_zero] at this
  exact this
theorem days_month (j k : Nat) (h : j ≤ 67) (hk : k ≤ 11) : days (1970 + (j : Int)) ((k : Int) + 1) 1 = ysum j + msum (1970 + (j : Int)) k := by
  have := days_parts j k 0 h hk (by omega) (by have := mlen_bd (1970 + (j : Int)) k (by omega); omega)
  simp only [Int.zero_add] at this
  exact this
set_option maxRecDepth 100000 in
set_option maxHeartbeats 4000000 in
theorem date_spec (n : Int) (w : World) : Calls Tryz.prog 165 #[.int .i64 n] w fun e w' => e = .returned (.string (shown n)) ∧ Below w.heap.size w w' := by
  by_cases h1 : 0 ≤ n ∧ n ≤ 2000000000
  · have hsh : shown n = text n := if_pos h1
    rw [hsh]
    obtain ⟨r, hr⟩ : ∃ r, text n = r := ⟨_, rfl⟩
    rw [hr]
    unfold text at hr
    clear hsh
    have hD0 : 0 ≤ (n / 86400) ∧ (n / 86400) ≤ 23148 := by omega
    have hp := parts_in (n / 86400) (by omega) (by omega)
    have HR := Num.hide hr
    have HP := Num.hide hp
    have HY : Hid (yr (n / 86400) = yearGo (n / 86400) 67 0) := rfl
    clear hr hp
    go_enter Tryz.func165, Tryz.ntmps165
    go_wp2_with fail
    refine (in_spec _ _ _ _).mono ?_
    rintro e w1 ⟨rfl, rfl⟩
    rw [decide_eq_true h1]
    go_wp2
    go_loopw [4] (fun yv wr => ∃ j : Nat, j ≤ 67 ∧ yv = .int .i64 (1970 + (j : Int)) ∧ Hid (yr (n / 86400) = yearGo (n / 86400) (67 - j) j) ∧ Hid (Below w.heap.size w wr)) (fun yv _ => (2037 - intOf yv).toNat)
    case atStart => exact ⟨0, by omega, by simp, HY, Below.refl _ _⟩
    case round =>
      clear HY
      obtain ⟨j, hj, rfl, HY, HB⟩ := hrel
      have hsz := HB.out.size
      by_cases hlt : 1970 + (j : Int) < 2037
      · have hy : yearGo (n / 86400) (67 - j) j = if ysum (j + 1) ≤ (n / 86400) then yearGo (n / 86400) (67 - (j + 1)) (j + 1) else j := by
          rw [show 67 - j = (67 - (j + 1)) + 1 by omega]; rfl
        have HDy := Num.hide (days_spec (1970 + (j : Int) + 1) 1 1 wr)
        rw [days_year j (by omega)] at HDy
        have hyb := ysum_bd (j + 1)
        by_cases hle : ysum (j + 1) ≤ (n / 86400)
        · have HY2 : Hid (yr (n / 86400) = yearGo (n / 86400) (67 - (j + 1)) (j + 1)) := by show _ = _; rw [HY.out, hy, if_pos hle]
          clear hy HY
          go_wp2_with fail
          refine (Num.unhide HDy).mono ?_
          rintro e w1 ⟨rfl, hb1⟩
          have HB1 := Num.hide (HB.out.trans (hb1.mono hsz))
          clear hb1
          go_wp2
          go_roundw
          case rel => exact ⟨j + 1, by omega, by go_num, HY2, HB1⟩
          case measure => simp [intOf]; omega
        · have HY2 : Hid (yr (n / 86400) = j) := by show _ = _; rw [HY.out, hy, if_neg hle]
          clear hy HY
          go_wp2_with fail
          refine (Num.unhide HDy).mono ?_
          rintro e w1 ⟨rfl, hb1⟩
          have HB1 := Num.hide (HB.out.trans (hb1.mono hsz))
          obtain ⟨hp1, hp2, hp3, hp4, hp5, hp6⟩ := HP.out
          have HR2 := HR.out
          have hmo : mo (n / 86400) = monthOf (1970 + (j : Int)) (n / 86400 - ysum j) := by unfold mo; rw [HY2.out]
          have hdy : dy (n / 86400) = n / 86400 - ysum j - msum (1970 + (j : Int)) (mo (n / 86400)) := by unfold dy; rw [HY2.out]
          rw [HY2.out] at hp1 hp4 hp5 hp6 HR2
          have HR := Num.hide HR2
          have HM0 : Hid (mo (n / 86400) = monthGo (1970 + (j : Int)) (n / 86400 - ysum j) 11 0) := hmo
          have HDY := Num.hide hdy
          have HP4 := Num.hide hp4
          have HP2 := Num.hide hp2
          have HP3 := Num.hide hp3
          clear hb1 HP HY2 HDy hmo hdy HR2 hp4 hp2 hp3 hp6
          go_wp2
          go_loopw [5] (fun mv wr => ∃ k : Nat, k ≤ 11 ∧ mv = .int .i64 ((k : Int) + 1) ∧ Hid (mo (n / 86400) = monthGo (1970 + (j : Int)) (n / 86400 - ysum j) (11 - k) k) ∧ Hid (Below w.heap.size w wr)) (fun mv _ => (12 - intOf mv).toNat)
          case atStart => exact ⟨0, by omega, by simp, HM0, HB1⟩
          case round =>
            clear HM0 HB1 HB
            obtain ⟨k, hk, rfl, HM, HB⟩ := hrel
            have hsz := HB.out.size
            by_cases hlt2 : (k : Int) + 1 < 12
            · have hm : monthGo (1970 + (j : Int)) (n / 86400 - ysum j) (11 - k) k = if msum (1970 + (j : Int)) (k + 1) ≤ n / 86400 - ysum j then monthGo (1970 + (j : Int)) (n / 86400 - ysum j) (11 - (k + 1)) (k + 1) else k := by
                rw [show 11 - k = (11 - (k + 1)) + 1 by omega]; rfl
              have HDm := Num.hide (days_spec (1970 + (j : Int)) ((k : Int) + 1 + 1) 1 wr)
              rw [show ((k : Int) + 1 + 1) = ((k + 1 : Nat) : Int) + 1 by omega, days_month j (k + 1) (by omega) (by omega), show ((k + 1 : Nat) : Int) + 1 = (k : Int) + 1 + 1 by omega] at HDm
              have hmb := msum_bd (1970 + (j : Int)) (k + 1) (by omega)
              have hyb2 := ysum_bd j
              by_cases hle2 : ysum j + msum (1970 + (j : Int)) (k + 1) ≤ n / 86400
              · have HM2 : Hid (mo (n / 86400) = monthGo (1970 + (j : Int)) (n / 86400 - ysum j) (11 - (k + 1)) (k + 1)) := by show _ = _; rw [HM.out, hm, if_pos (by omega)]
                clear hm HM
                go_wp2_with fail
                refine (Num.unhide HDm).mono ?_
                rintro e w2 ⟨rfl, hb2⟩
                have HB2 := Num.hide (HB.out.trans (hb2.mono hsz))
                clear hb2
                go_wp2
                go_roundw
                case rel => exact ⟨k + 1, by omega, by go_num, HM2, HB2⟩
                case measure => simp [intOf]; omega
              · have HM2 : Hid (mo (n / 86400) = k) := by show _ = _; rw [HM.out, hm, if_neg (by omega)]
                clear hm HM
                go_wp2_with fail
                refine (Num.unhide HDm).mono ?_
                rintro e w2 ⟨rfl, hb2⟩
                have HB2 := Num.hide (HB.out.trans (hb2.mono hsz))
                clear hb2
                clear HB
                have hszw := HB2.out.size
                have HD3 := Num.hide (fun W => days_spec (1970 + (j : Int)) ((k : Int) + 1) 1 W)
                rw [days_month j k (by omega) (by omega)] at HD3
                have hr := HR.out
                have hX : dy (n / 86400) + 1 = n / 86400 - (ysum j + msum (1970 + (j : Int)) k) + 1 := by rw [HDY.out, HM2.out]; omega
                have hX0 : 0 ≤ n / 86400 - (ysum j + msum (1970 + (j : Int)) k) + 1 ∧ n / 86400 - (ysum j + msum (1970 + (j : Int)) k) + 1 ≤ 99 := by
                  rw [← hX]
                  have h3 := HP3.out
                  have h4 := HP4.out
                  have h5 := mlen_bd (1970 + (j : Int)) (mo (n / 86400)) (by have := HP2.out; omega)
                  omega
                have hmb2 := msum_bd (1970 + (j : Int)) k (by omega)
                have hyb3 := ysum_bd j
                rw [hX, HM2.out] at hr
                have hws := week_size (n / 86400 % 7).toNat (by omega)
                have hns := name_size k (by omega)
                have HW := Num.hide (fun W => wcell W (n / 86400 % 7).toNat (by omega))
                have HN := Num.hide (fun W => ncell W k (by omega))
                have hds : (dec (1970 + (j : Int))).size ≤ 20 := by
                  unfold dec
                  rw [Dec.itoa_pos _ (by omega)]
                  have := Dec.length_dd (1970 + (j : Int)).natAbs (by omega)
                  simp only [ByteArray.size, List.size_toArray]
                  exact this
                have HE := Num.hide (fun W => Dec.spec_any (1970 + (j : Int)) W (by omega) (by omega))
                have ht1 := size_two (n / 86400 - (ysum j + msum (1970 + (j : Int)) k) + 1)
                have ht2 := size_two (n / 3600 % 24)
                have ht3 := size_two (n / 60 % 60)
                have ht4 := size_two (n % 60)
                have HT1 := Num.hide (fun W => two_spec (n / 86400 - (ysum j + msum (1970 + (j : Int)) k) + 1) W hX0.1 hX0.2)
                have HT2 := Num.hide (fun W => two_spec (n / 3600 % 24) W (by omega) (by omega))
                have HT3 := Num.hide (fun W => two_spec (n / 60 % 60) W (by omega) (by omega))
                have HT4 := Num.hide (fun W => two_spec (n % 60) W (by omega) (by omega))
                change Hid (∀ W, Calls Tryz.prog 16 #[.int .i64 (1970 + (j : Int))] W fun e w' => e = .returned (.string (dec (1970 + (j : Int)))) ∧ Below W.heap.size W w') at HE
                generalize two (n / 86400 - (ysum j + msum (1970 + (j : Int)) k) + 1) = t1 at hr ht1 HT1
                generalize two (n / 3600 % 24) = t2 at hr ht2 HT2
                generalize two (n / 60 % 60) = t3 at hr ht3 HT3
                generalize two (n % 60) = t4 at hr ht4 HT4
                generalize dec (1970 + (j : Int)) = dc at hr hds HE
                generalize week (n / 86400 % 7).toNat = wk at hr hws HW
                generalize name k = nm at hr hns HN
                have HR3 := Num.hide hr
                clear hr hX HR HP4 HP2 HP3 HDY HM2
                go_wp2_with fail
                refine (HD3.out _).mono ?_
                rintro e w3 ⟨rfl, hb3⟩
                have HB3 := Num.hide (HB2.out.trans (hb3.mono hszw))
                clear hb3
                have hc1 := HW.out w3
                unfold wrow at hc1
                have hc2 := HN.out (w3.alloc (.cells wrow 9))
                rw [World.size_alloc] at hc2
                unfold wrow nrow at hc2
                have HB4 := Num.hide ((HB3.out.alloc HB3.out.size (.cells wrow 9)).alloc (by have := HB3.out.size; simp; omega) (.cells nrow 9))
                unfold wrow nrow at HB4
                go_wp2_with fail
                refine (HT1.out _).mono ?_
                rintro e w5 ⟨rfl, hb5⟩
                have HB5 := Num.hide (HB4.out.trans (hb5.mono HB4.out.size))
                clear hb5 hc1 hc2 HB4
                go_wp2_with fail
                refine (HE.out _).mono ?_
                rintro e w6 ⟨rfl, hb6⟩
                have HB6 := Num.hide (HB5.out.trans (hb6.mono HB5.out.size))
                clear hb6 HB5
                go_wp2_with fail
                refine (HT2.out _).mono ?_
                rintro e w7 ⟨rfl, hb7⟩
                have HB7 := Num.hide (HB6.out.trans (hb7.mono HB6.out.size))
                clear hb7 HB6
                go_wp2_with fail
                refine (HT3.out _).mono ?_
                rintro e w8 ⟨rfl, hb8⟩
                have HB8 := Num.hide (HB7.out.trans (hb8.mono HB7.out.size))
                clear hb8 HB7
                go_wp2_with fail
                refine (HT4.out _).mono ?_
                rintro e w9 ⟨rfl, hb9⟩
                have HB9 := Num.hide (HB8.out.trans (hb9.mono HB8.out.size))
                clear hb9 HB8
                have hr := HR3.out
                subst hr
                go_wp2
                go_ret
                exact ⟨rfl, HB9.out⟩
            · have HM2 : Hid (mo (n / 86400) = k) := by show _ = _; rw [HM.out, show 11 - k = 0 by omega]; rfl
              clear HM
              have hszw := HB.out.size
              have HD3 := Num.hide (fun W => days_spec (1970 + (j : Int)) ((k : Int) + 1) 1 W)
              rw [days_month j k (by omega) (by omega)] at HD3
              have hr := HR.out
              have hX : dy (n / 86400) + 1 = n / 86400 - (ysum j + msum (1970 + (j : Int)) k) + 1 := by rw [HDY.out, HM2.out]; omega
              have hX0 : 0 ≤ n / 86400 - (ysum j + msum (1970 + (j : Int)) k) + 1 ∧ n / 86400 - (ysum j + msum (1970 + (j : Int)) k) + 1 ≤ 99 := by
                rw [← hX]
                have h3 := HP3.out
                have h4 := HP4.out
                have h5 := mlen_bd (1970 + (j : Int)) (mo (n / 86400)) (by have := HP2.out; omega)
                omega
              have hmb2 := msum_bd (1970 + (j : Int)) k (by omega)
              have hyb3 := ysum_bd j
              rw [hX, HM2.out] at hr
              have hws := week_size (n / 86400 % 7).toNat (by omega)
              have hns := name_size k (by omega)
              have HW := Num.hide (fun W => wcell W (n / 86400 % 7).toNat (by omega))
              have HN := Num.hide (fun W => ncell W k (by omega))
              have hds : (dec (1970 + (j : Int))).size ≤ 20 := by
                unfold dec
                rw [Dec.itoa_pos _ (by omega)]
                have := Dec.length_dd (1970 + (j : Int)).natAbs (by omega)
                simp only [ByteArray.size, List.size_toArray]
                exact this
              have HE := Num.hide (fun W => Dec.spec_any (1970 + (j : Int)) W (by omega) (by omega))
              have ht1 := size_two (n / 86400 - (ysum j + msum (1970 + (j : Int)) k) + 1)
              have ht2 := size_two (n / 3600 % 24)
              have ht3 := size_two (n / 60 % 60)
              have ht4 := size_two (n % 60)
              have HT1 := Num.hide (fun W => two_spec (n / 86400 - (ysum j + msum (1970 + (j : Int)) k) + 1) W hX0.1 hX0.2)
              have HT2 := Num.hide (fun W => two_spec (n / 3600 % 24) W (by omega) (by omega))
              have HT3 := Num.hide (fun W => two_spec (n / 60 % 60) W (by omega) (by omega))
              have HT4 := Num.hide (fun W => two_spec (n % 60) W (by omega) (by omega))
              change Hid (∀ W, Calls Tryz.prog 16 #[.int .i64 (1970 + (j : Int))] W fun e w' => e = .returned (.string (dec (1970 + (j : Int)))) ∧ Below W.heap.size W w') at HE
              generalize two (n / 86400 - (ysum j + msum (1970 + (j : Int)) k) + 1) = t1 at hr ht1 HT1
              generalize two (n / 3600 % 24) = t2 at hr ht2 HT2
              generalize two (n / 60 % 60) = t3 at hr ht3 HT3
              generalize two (n % 60) = t4 at hr ht4 HT4
              generalize dec (1970 + (j : Int)) = dc at hr hds HE
              generalize week (n / 86400 % 7).toNat = wk at hr hws HW
              generalize name k = nm at hr hns HN
              have HR3 := Num.hide hr
              clear hr hX HR HP4 HP2 HP3 HDY HM2
              go_wp2_with fail
              refine (HD3.out _).mono ?_
              rintro e w3 ⟨rfl, hb3⟩
              have HB3 := Num.hide (HB.out.trans (hb3.mono hszw))
              clear hb3
              have hc1 := HW.out w3
              unfold wrow at hc1
              have hc2 := HN.out (w3.alloc (.cells wrow 9))
              rw [World.size_alloc] at hc2
              unfold wrow nrow at hc2
              have HB4 := Num.hide ((HB3.out.alloc HB3.out.size (.cells wrow 9)).alloc (by have := HB3.out.size; simp; omega) (.cells nrow 9))
              unfold wrow nrow at HB4
              go_wp2_with fail
              refine (HT1.out _).mono ?_
              rintro e w5 ⟨rfl, hb5⟩
              have HB5 := Num.hide (HB4.out.trans (hb5.mono HB4.out.size))
              clear hb5 hc1 hc2 HB4
              go_wp2_with fail
              refine (HE.out _).mono ?_
              rintro e w6 ⟨rfl, hb6⟩
              have HB6 := Num.hide (HB5.out.trans (hb6.mono HB5.out.size))
              clear hb6 HB5
              go_wp2_with fail
              refine (HT2.out _).mono ?_
              rintro e w7 ⟨rfl, hb7⟩
              have HB7 := Num.hide (HB6.out.trans (hb7.mono HB6.out.size))
              clear hb7 HB6
              go_wp2_with fail
              refine (HT3.out _).mono ?_
              rintro e w8 ⟨rfl, hb8⟩
              have HB8 := Num.hide (HB7.out.trans (hb8.mono HB7.out.size))
              clear hb8 HB7
              go_wp2_with fail
              refine (HT4.out _).mono ?_
              rintro e w9 ⟨rfl, hb9⟩
              have HB9 := Num.hide (HB8.out.trans (hb9.mono HB8.out.size))
              clear hb9 HB8
              have hr := HR3.out
              subst hr
              go_wp2
              go_ret
              exact ⟨rfl, HB9.out⟩
      · exfalso
        have := HY.out
        have h2 := HP.out.1
        rw [show 67 - j = 0 by omega] at this
        unfold yearGo at this
        omega
  · have hsh : shown n = ⟨#[]⟩ := if_neg h1
    rw [hsh]
    clear hsh
    go_enter Tryz.func165, Tryz.ntmps165
    go_wp2_with fail
    refine (in_spec _ _ _ _).mono ?_
    rintro e w1 ⟨rfl, rfl⟩
    rw [decide_eq_false h1]
    go_wp2
    go_ret
    exact ⟨rfl, Below.refl _ _⟩
end Date
end Go.Proofs.YtbajfklnekfeoaaGreatDoor
namespace Go.Proofs.YtbajfklnekfeoaaGreatDoor
open Go.RowKit
set_option linter.unusedVariables false
namespace Flds

theorem ne_text {x y : ByteArray} (h : ¬ x = y) : (x.toList == y.toList) = false := by
  rw [beq_eq_false_iff_ne, ByteArray.toList_eq, ByteArray.toList_eq]
  intro e; exact h (ByteArray.ext (Array.toList_inj.1 e))
theorem cells_two (w : World) (x y : ByteArray) : ∀ j u, [Value.string x, Value.string y][j]? = some u → (w.alloc (.cells #[.string x, .string y] 36)).cell? ((⟨w.heap.size, 0, none⟩ : Addr).add j) = some u := by
  intro j u hj
  match j, hj with
  | 0, hj => simp at hj; subst hj; simp [Addr.add]
  | 1, hj => simp at hj; subst hj; simp [Addr.add]
theorem two_ok (x y : ByteArray) : ∀ u ∈ [Value.string x, Value.string y], u.oneCell' = true := by
  intro u hu; simp at hu; rcases hu with rfl | rfl <;> rfl
theorem put_more {w wr w2 : World} {B : Nat} {v v' : Value} {l : List Fld} {x y : ByteArray} (hB : B ≤ wr.heap.size) (ho : Own B wr v l) (hb : Below B w wr)
    (ho2 : w2.ownsRow B 36 2 v' (l.length + 1) (l.flatMap cells ++ [.string x, .string y])) (hg : (wr.alloc (.cells #[.string x, .string y] 36)).grownBy w2 v.ownBlock) : Own B w2 v' (l ++ [(x, y)]) ∧ Below B w w2 :=
  ⟨Recs.own_snoc ho2, (hb.alloc hB _).grown hg (by simp; omega) (fun j hj => (Recs.own_lt ho j hj).1)⟩
theorem made_nil (w : World) : Own w.heap.size (w.alloc (.cells #[] 36)) (.slice (some ⟨w.heap.size, 0, none⟩) 0 0) [] := World.ownsRow_made w #[] 0 (Nat.le_refl _) (Nat.zero_le _) rfl
theorem two_cells {w : World} {g : Nat} {x y : Value} {T : TypeId} (h : w.heap[g]? = some (.cells #[x, y] T (0, 0))) : w.cell? ⟨g, 0, none⟩ = some x ∧ w.cell? ⟨g, 1, none⟩ = some y ∧ w.frozen? ⟨g, 0, none⟩ = false ∧ w.frozen? ⟨g, 1, none⟩ = false :=
  ⟨by rw [cell_of_row w g _ _ _ _ h]; rfl, by rw [cell_of_row w g _ _ _ _ h]; rfl, frozen_of_row w g 0 _ _ h, frozen_of_row w g 1 _ _ h⟩
theorem box_first {W : World} {g : Nat} {x y : ByteArray} {u : Value} (h : W.cell? ⟨g, 0, none⟩ = some u) : ((W.setCell ⟨g, 0, none⟩ (.string x)).setCell ⟨g, 1, none⟩ (.string y)).cell? ⟨g, 0, none⟩ = some (.string x) := by
  rw [World.cell?_setCell_other (h := by intro e; have e2 : 1 = 0 := congrArg Addr.off e; omega), World.cell?_setCell_same (h := h)]
theorem box_second {W : World} {g : Nat} {x y : ByteArray} {u : Value} (h : W.cell? ⟨g, 1, none⟩ = some u) : ((W.setCell ⟨g, 0, none⟩ (.string x)).setCell ⟨g, 1, none⟩ (.string y)).cell? ⟨g, 1, none⟩ = some (.string y) := by
  exact World.cell?_setCell_same _ _ _ (by rw [World.cell?_setCell_other (h := by intro e; have e2 : 0 = 1 := congrArg Addr.off e; omega)]; exact h)

end Flds
end Go.Proofs.YtbajfklnekfeoaaGreatDoor
namespace Go.Proofs.YtbajfklnekfeoaaGreatDoor
open Go.RowKit
set_option linter.unusedVariables false
namespace Draw
open Flds (two_cells box_first box_second)

theorem date_size (z : Int) (h0 : 0 ≤ z) (h1 : z < 60) : (Date.shown z).size ≤ 64 := by
  have e : Date.shown z = Date.text z := if_pos ⟨h0, by omega⟩
  rw [e]
  unfold Date.text
  have hp := Date.parts_in (z / 86400) (by omega) (by omega)
  have hw := Date.week_size (z / 86400 % 7).toNat (by omega)
  have hn := Date.name_size (Date.mo (z / 86400)) (by omega)
  have hd : (Date.dec (1970 + (Date.yr (z / 86400) : Int))).size ≤ 20 := by
    unfold Date.dec
    rw [Dec.itoa_pos _ (by omega)]
    have := Dec.length_dd (1970 + (Date.yr (z / 86400) : Int)).natAbs (by omega)
    simp only [ByteArray.size, List.size_toArray]
    exact this
  have e1 : (⟨#[44, 32]⟩ : ByteArray).size = 2 := rfl
  have e2 : (⟨#[32]⟩ : ByteArray).size = 1 := rfl
  have e3 : (⟨#[58]⟩ : ByteArray).size = 1 := rfl
  have e4 : (⟨#[32, 71, 77, 84]⟩ : ByteArray).size = 4 := rfl
  simp only [ByteArray.size_append, Date.size_two, hw, hn, e1, e2, e3, e4]
  omega
/-- the box of a field that is made: what it holds after two stores -/
theorem box_end {B C : Nat} {w w2 : World} (x y : ByteArray) (hl : Live B C w2) (ho : Only C w w2) (hC : C < w.heap.size) :
    Live B C ((w2.setCell ⟨w.heap.size, 0, none⟩ (.string x)).setCell ⟨w.heap.size, 1, none⟩ (.string y)) ∧ Only C w ((w2.setCell ⟨w.heap.size, 0, none⟩ (.string x)).setCell ⟨w.heap.size, 1, none⟩ (.string y)) := by
  have hb : Below w.heap.size w2 ((w2.setCell ⟨w.heap.size, 0, none⟩ (.string x)).setCell ⟨w.heap.size, 1, none⟩ (.string y)) :=
    ((Below.refl _ _).setCell (p := ⟨w.heap.size, 0, none⟩) (Nat.le_refl _) _).setCell (p := ⟨w.heap.size, 1, none⟩) (Nat.le_refl _) _
  exact ⟨hl.under hb hC, ho.of_below hb⟩
set_option maxRecDepth 100000 in
set_option maxHeartbeats 4000000 in
theorem field_q (B C : Nat) (w : World) (h : Live B C w) :
    Calls Tryz.prog 117 #[.pointer (some ⟨C, 0, none⟩)] w fun e w' => ∃ x y, e = .returned (.agg #[.string x, .string y]) ∧ x.size ≤ 64 ∧ y.size ≤ 64 ∧ Calm.Said x y ∧ Live B C w' ∧ Only C w w' := by
  have hC := h.lt
  have HL0 := Num.hide (h.alloc (.cells #[.string ⟨#[]⟩, .string ⟨#[]⟩] 36))
  have HO0 := Num.hide ((Only.refl C w).alloc (.cells #[.string ⟨#[]⟩, .string ⟨#[]⟩] 36))
  have HK0 : Hid ((w.alloc (.cells #[.string ⟨#[]⟩, .string ⟨#[]⟩] 36)).heap[w.heap.size]? = some (.cells #[.string ⟨#[]⟩, .string ⟨#[]⟩] 36)) := heap_alloc_new w _
  clear h
  go_enter Tryz.func117, Tryz.ntmps117
  go_wp2_with fail
  refine (below_live B C 10 _ HL0.out (by omega) (by omega)).mono ?_
  rintro e w1 ⟨z, rfl, hz0, hz1, hl, ho⟩
  have HL1 := Num.hide hl
  have HO1 := Num.hide (HO0.out.trans ho)
  have HK1 : Hid (w1.heap[w.heap.size]? = some (.cells #[.string ⟨#[]⟩, .string ⟨#[]⟩] 36)) := (ho.block _ (by simp) (by omega)).trans HK0.out
  have hs1 : w.heap.size < w1.heap.size := by have := ho.size; simp at this; omega
  clear hl ho HL0 HO0 HK0
  rcases (by omega : z = 0 ∨ z = 1 ∨ z = 2 ∨ z = 3 ∨ z = 4 ∨ z = 5 ∨ z = 6 ∨ z = 7 ∨ z = 8 ∨ z = 9) with rfl | rfl | rfl | rfl | rfl | rfl | rfl | rfl | rfl | rfl
  · go_wp2_with fail
    refine (pick_q Calm.calm B C w1.heap.size _ 12 _ (HL1.out.alloc _) (by omega) (heap_alloc_new w1 _) rfl (by omega) (by omega) (by kernel_rfl)).mono ?_
    rintro e w2 ⟨y, rfl, hy, hq, hl, ho⟩
    have HQ := Num.hide hq
    clear hq
    have HO2 := Num.hide ((HO1.out.alloc _).trans ho)
    have HK2 : Hid (w2.heap[w.heap.size]? = some (.cells #[.string ⟨#[]⟩, .string ⟨#[]⟩] 36)) := by
      rw [ho.block _ (by simp; omega) (by omega), heap_alloc_old w1 _ (by omega)]; exact HK1.out
    have hs2 : w.heap.size < w2.heap.size := by have := ho.size; simp at this; omega
    have HL2 := Num.hide hl
    clear hl ho HL1 HO1 HK1
    obtain ⟨k0, k1, f0, f1⟩ := two_cells HK2.out
    have r0 := Num.hide (box_first (x := ⟨#[99, 97, 99, 104, 101, 45, 99, 111, 110, 116, 114, 111, 108]⟩) (y := y) k0)
    have r1 := Num.hide (box_second (x := ⟨#[99, 97, 99, 104, 101, 45, 99, 111, 110, 116, 114, 111, 108]⟩) (y := y) k1)
    have HE := Num.hide (box_end (⟨#[99, 97, 99, 104, 101, 45, 99, 111, 110, 116, 114, 111, 108]⟩) (y) HL2.out HO2.out hC)
    clear HL2 HO2 HK2
    go_wp2
    generalize ((w2.setCell ⟨w.heap.size, 0, none⟩ (.string (⟨#[99, 97, 99, 104, 101, 45, 99, 111, 110, 116, 114, 111, 108]⟩))).setCell ⟨w.heap.size, 1, none⟩ (.string y)) = w9 at r0 r1 HE ⊢
    have r0 := r0.out
    have r1 := r1.out
    exact bodyPost_ret (v := .agg #[.string (⟨#[99, 97, 99, 104, 101, 45, 99, 111, 110, 116, 114, 111, 108]⟩), .string y]) (by simp [results, Tryz.results117, go_sem, r0, r1]) rfl ⟨_, _, rfl, (by decide), hy, fun _ => HQ.out, HE.out.1, HE.out.2⟩
  · go_wp2_with fail
    refine (pick_q Calm.calm B C w1.heap.size _ 12 _ (HL1.out.alloc _) (by omega) (heap_alloc_new w1 _) rfl (by omega) (by omega) (by kernel_rfl)).mono ?_
    rintro e w2 ⟨y, rfl, hy, hq, hl, ho⟩
    have HQ := Num.hide hq
    clear hq
    have HO2 := Num.hide ((HO1.out.alloc _).trans ho)
    have HK2 : Hid (w2.heap[w.heap.size]? = some (.cells #[.string ⟨#[]⟩, .string ⟨#[]⟩] 36)) := by
      rw [ho.block _ (by simp; omega) (by omega), heap_alloc_old w1 _ (by omega)]; exact HK1.out
    have hs2 : w.heap.size < w2.heap.size := by have := ho.size; simp at this; omega
    have HL2 := Num.hide hl
    clear hl ho HL1 HO1 HK1
    obtain ⟨k0, k1, f0, f1⟩ := two_cells HK2.out
    have r0 := Num.hide (box_first (x := ⟨#[99, 97, 99, 104, 101, 45, 99, 111, 110, 116, 114, 111, 108]⟩) (y := y) k0)
    have r1 := Num.hide (box_second (x := ⟨#[99, 97, 99, 104, 101, 45, 99, 111, 110, 116, 114, 111, 108]⟩) (y := y) k1)
    have HE := Num.hide (box_end (⟨#[99, 97, 99, 104, 101, 45, 99, 111, 110, 116, 114, 111, 108]⟩) (y) HL2.out HO2.out hC)
    clear HL2 HO2 HK2
    go_wp2
    generalize ((w2.setCell ⟨w.heap.size, 0, none⟩ (.string (⟨#[99, 97, 99, 104, 101, 45, 99, 111, 110, 116, 114, 111, 108]⟩))).setCell ⟨w.heap.size, 1, none⟩ (.string y)) = w9 at r0 r1 HE ⊢
    have r0 := r0.out
    have r1 := r1.out
    exact bodyPost_ret (v := .agg #[.string (⟨#[99, 97, 99, 104, 101, 45, 99, 111, 110, 116, 114, 111, 108]⟩), .string y]) (by simp [results, Tryz.results117, go_sem, r0, r1]) rfl ⟨_, _, rfl, (by decide), hy, fun _ => HQ.out, HE.out.1, HE.out.2⟩
  · go_wp2_with fail
    refine (pick_q Calm.calm B C w1.heap.size _ 12 _ (HL1.out.alloc _) (by omega) (heap_alloc_new w1 _) rfl (by omega) (by omega) (by kernel_rfl)).mono ?_
    rintro e w2 ⟨y, rfl, hy, hq, hl, ho⟩
    have HQ := Num.hide hq
    clear hq
    have HO2 := Num.hide ((HO1.out.alloc _).trans ho)
    have HK2 : Hid (w2.heap[w.heap.size]? = some (.cells #[.string ⟨#[]⟩, .string ⟨#[]⟩] 36)) := by
      rw [ho.block _ (by simp; omega) (by omega), heap_alloc_old w1 _ (by omega)]; exact HK1.out
    have hs2 : w.heap.size < w2.heap.size := by have := ho.size; simp at this; omega
    have HL2 := Num.hide hl
    clear hl ho HL1 HO1 HK1
    obtain ⟨k0, k1, f0, f1⟩ := two_cells HK2.out
    have r0 := Num.hide (box_first (x := ⟨#[99, 97, 99, 104, 101, 45, 99, 111, 110, 116, 114, 111, 108]⟩) (y := y) k0)
    have r1 := Num.hide (box_second (x := ⟨#[99, 97, 99, 104, 101, 45, 99, 111, 110, 116, 114, 111, 108]⟩) (y := y) k1)
    have HE := Num.hide (box_end (⟨#[99, 97, 99, 104, 101, 45, 99, 111, 110, 116, 114, 111, 108]⟩) (y) HL2.out HO2.out hC)
    clear HL2 HO2 HK2
    go_wp2
    generalize ((w2.setCell ⟨w.heap.size, 0, none⟩ (.string (⟨#[99, 97, 99, 104, 101, 45, 99, 111, 110, 116, 114, 111, 108]⟩))).setCell ⟨w.heap.size, 1, none⟩ (.string y)) = w9 at r0 r1 HE ⊢
    have r0 := r0.out
    have r1 := r1.out
    exact bodyPost_ret (v := .agg #[.string (⟨#[99, 97, 99, 104, 101, 45, 99, 111, 110, 116, 114, 111, 108]⟩), .string y]) (by simp [results, Tryz.results117, go_sem, r0, r1]) rfl ⟨_, _, rfl, (by decide), hy, fun _ => HQ.out, HE.out.1, HE.out.2⟩
  · go_wp2_with fail
    refine (pick_live B C w1.heap.size _ 4 _ (HL1.out.alloc _) (by omega) (heap_alloc_new w1 _) rfl (by omega) (by omega) (by decide)).mono ?_
    rintro e w2 ⟨y, rfl, hy, hl, ho⟩
    have HO2 := Num.hide ((HO1.out.alloc _).trans ho)
    have HK2 : Hid (w2.heap[w.heap.size]? = some (.cells #[.string ⟨#[]⟩, .string ⟨#[]⟩] 36)) := by
      rw [ho.block _ (by simp; omega) (by omega), heap_alloc_old w1 _ (by omega)]; exact HK1.out
    have hs2 : w.heap.size < w2.heap.size := by have := ho.size; simp at this; omega
    have HL2 := Num.hide hl
    clear hl ho HL1 HO1 HK1
    obtain ⟨k0, k1, f0, f1⟩ := two_cells HK2.out
    have r0 := Num.hide (box_first (x := ⟨#[118, 97, 114, 121]⟩) (y := y) k0)
    have r1 := Num.hide (box_second (x := ⟨#[118, 97, 114, 121]⟩) (y := y) k1)
    have HE := Num.hide (box_end (⟨#[118, 97, 114, 121]⟩) (y) HL2.out HO2.out hC)
    clear HL2 HO2 HK2
    go_wp2
    generalize ((w2.setCell ⟨w.heap.size, 0, none⟩ (.string (⟨#[118, 97, 114, 121]⟩))).setCell ⟨w.heap.size, 1, none⟩ (.string y)) = w9 at r0 r1 HE ⊢
    have r0 := r0.out
    have r1 := r1.out
    exact bodyPost_ret (v := .agg #[.string (⟨#[118, 97, 114, 121]⟩), .string y]) (by simp [results, Tryz.results117, go_sem, r0, r1]) rfl ⟨_, _, rfl, (by decide), hy, Calm.said_other (by decide), HE.out.1, HE.out.2⟩
  · go_wp2_with fail
    refine (pick_live B C w1.heap.size _ 4 _ (HL1.out.alloc _) (by omega) (heap_alloc_new w1 _) rfl (by omega) (by omega) (by decide)).mono ?_
    rintro e w2 ⟨y, rfl, hy, hl, ho⟩
    have HO2 := Num.hide ((HO1.out.alloc _).trans ho)
    have HK2 : Hid (w2.heap[w.heap.size]? = some (.cells #[.string ⟨#[]⟩, .string ⟨#[]⟩] 36)) := by
      rw [ho.block _ (by simp; omega) (by omega), heap_alloc_old w1 _ (by omega)]; exact HK1.out
    have hs2 : w.heap.size < w2.heap.size := by have := ho.size; simp at this; omega
    have HL2 := Num.hide hl
    clear hl ho HL1 HO1 HK1
    obtain ⟨k0, k1, f0, f1⟩ := two_cells HK2.out
    have r0 := Num.hide (box_first (x := ⟨#[97, 99, 99, 101, 112, 116]⟩) (y := y) k0)
    have r1 := Num.hide (box_second (x := ⟨#[97, 99, 99, 101, 112, 116]⟩) (y := y) k1)
    have HE := Num.hide (box_end (⟨#[97, 99, 99, 101, 112, 116]⟩) (y) HL2.out HO2.out hC)
    clear HL2 HO2 HK2
    go_wp2
    generalize ((w2.setCell ⟨w.heap.size, 0, none⟩ (.string (⟨#[97, 99, 99, 101, 112, 116]⟩))).setCell ⟨w.heap.size, 1, none⟩ (.string y)) = w9 at r0 r1 HE ⊢
    have r0 := r0.out
    have r1 := r1.out
    exact bodyPost_ret (v := .agg #[.string (⟨#[97, 99, 99, 101, 112, 116]⟩), .string y]) (by simp [results, Tryz.results117, go_sem, r0, r1]) rfl ⟨_, _, rfl, (by decide), hy, Calm.said_other (by decide), HE.out.1, HE.out.2⟩
  · go_wp2_with fail
    refine (pick_live B C w1.heap.size _ 2 _ (HL1.out.alloc _) (by omega) (heap_alloc_new w1 _) rfl (by omega) (by omega) (by decide)).mono ?_
    rintro e w2 ⟨y, rfl, hy, hl, ho⟩
    have HO2 := Num.hide ((HO1.out.alloc _).trans ho)
    have HK2 : Hid (w2.heap[w.heap.size]? = some (.cells #[.string ⟨#[]⟩, .string ⟨#[]⟩] 36)) := by
      rw [ho.block _ (by simp; omega) (by omega), heap_alloc_old w1 _ (by omega)]; exact HK1.out
    have hs2 : w.heap.size < w2.heap.size := by have := ho.size; simp at this; omega
    have HL2 := Num.hide hl
    clear hl ho HL1 HO1 HK1
    obtain ⟨k0, k1, f0, f1⟩ := two_cells HK2.out
    have r0 := Num.hide (box_first (x := ⟨#[120, 45, 97]⟩) (y := y) k0)
    have r1 := Num.hide (box_second (x := ⟨#[120, 45, 97]⟩) (y := y) k1)
    have HE := Num.hide (box_end (⟨#[120, 45, 97]⟩) (y) HL2.out HO2.out hC)
    clear HL2 HO2 HK2
    go_wp2
    generalize ((w2.setCell ⟨w.heap.size, 0, none⟩ (.string (⟨#[120, 45, 97]⟩))).setCell ⟨w.heap.size, 1, none⟩ (.string y)) = w9 at r0 r1 HE ⊢
    have r0 := r0.out
    have r1 := r1.out
    exact bodyPost_ret (v := .agg #[.string (⟨#[120, 45, 97]⟩), .string y]) (by simp [results, Tryz.results117, go_sem, r0, r1]) rfl ⟨_, _, rfl, (by decide), hy, Calm.said_other (by decide), HE.out.1, HE.out.2⟩
  · go_wp2_with fail
    refine (pick_live B C w1.heap.size _ 3 _ (HL1.out.alloc _) (by omega) (heap_alloc_new w1 _) rfl (by omega) (by omega) (by decide)).mono ?_
    rintro e w2 ⟨y, rfl, hy, hl, ho⟩
    have HO2 := Num.hide ((HO1.out.alloc _).trans ho)
    have HK2 : Hid (w2.heap[w.heap.size]? = some (.cells #[.string ⟨#[]⟩, .string ⟨#[]⟩] 36)) := by
      rw [ho.block _ (by simp; omega) (by omega), heap_alloc_old w1 _ (by omega)]; exact HK1.out
    have hs2 : w.heap.size < w2.heap.size := by have := ho.size; simp at this; omega
    have HL2 := Num.hide hl
    clear hl ho HL1 HO1 HK1
    obtain ⟨k0, k1, f0, f1⟩ := two_cells HK2.out
    have r0 := Num.hide (box_first (x := ⟨#[101, 116, 97, 103]⟩) (y := y) k0)
    have r1 := Num.hide (box_second (x := ⟨#[101, 116, 97, 103]⟩) (y := y) k1)
    have HE := Num.hide (box_end (⟨#[101, 116, 97, 103]⟩) (y) HL2.out HO2.out hC)
    clear HL2 HO2 HK2
    go_wp2
    generalize ((w2.setCell ⟨w.heap.size, 0, none⟩ (.string (⟨#[101, 116, 97, 103]⟩))).setCell ⟨w.heap.size, 1, none⟩ (.string y)) = w9 at r0 r1 HE ⊢
    have r0 := r0.out
    have r1 := r1.out
    exact bodyPost_ret (v := .agg #[.string (⟨#[101, 116, 97, 103]⟩), .string y]) (by simp [results, Tryz.results117, go_sem, r0, r1]) rfl ⟨_, _, rfl, (by decide), hy, Calm.said_other (by decide), HE.out.1, HE.out.2⟩
  · go_wp2_with fail
    refine (below_live B C 60 _ HL1.out (by omega) (by omega)).mono ?_
    rintro e w2 ⟨t, rfl, ht0, ht1, hl, ho⟩
    have HO2 := Num.hide (HO1.out.trans ho)
    have HK2 : Hid (w2.heap[w.heap.size]? = some (.cells #[.string ⟨#[]⟩, .string ⟨#[]⟩] 36)) := (ho.block _ (by omega) (by omega)).trans HK1.out
    have hs2 : w.heap.size < w2.heap.size := by have := ho.size; omega
    have HL2 := Num.hide hl
    clear hl ho HL1 HO1 HK1
    have HS := Num.hide (date_size t ht0 ht1)
    have HT := Num.hide (fun W => Date.date_spec t W)
    generalize Date.shown t = y at HS HT
    have hy := HS.out
    go_wp2_with fail
    refine (HT.out _).mono ?_
    rintro e w3 ⟨rfl, hb⟩
    have HO3 := Num.hide (HO2.out.of_below (hb.mono (by omega)))
    have HK3 : Hid (w3.heap[w.heap.size]? = some (.cells #[.string ⟨#[]⟩, .string ⟨#[]⟩] 36)) := (hb.block _ (by omega)).trans HK2.out
    have hs3 : w.heap.size < w3.heap.size := by have := hb.size; omega
    have HL3 := Num.hide (HL2.out.below hb)
    clear hb HS HT HL2 HO2 HK2
    obtain ⟨k0, k1, f0, f1⟩ := two_cells HK3.out
    have r0 := Num.hide (box_first (x := ⟨#[100, 97, 116, 101]⟩) (y := y) k0)
    have r1 := Num.hide (box_second (x := ⟨#[100, 97, 116, 101]⟩) (y := y) k1)
    have HE := Num.hide (box_end (⟨#[100, 97, 116, 101]⟩) (y) HL3.out HO3.out hC)
    clear HL3 HO3 HK3
    go_wp2
    generalize ((w3.setCell ⟨w.heap.size, 0, none⟩ (.string (⟨#[100, 97, 116, 101]⟩))).setCell ⟨w.heap.size, 1, none⟩ (.string y)) = w9 at r0 r1 HE ⊢
    have r0 := r0.out
    have r1 := r1.out
    exact bodyPost_ret (v := .agg #[.string (⟨#[100, 97, 116, 101]⟩), .string y]) (by simp [results, Tryz.results117, go_sem, r0, r1]) rfl ⟨_, _, rfl, (by decide), hy, Calm.said_other (by decide), HE.out.1, HE.out.2⟩
  · go_wp2_with fail
    refine (pick_q (fun x => decide (¬ x = Calm.cc)) B C w1.heap.size _ 2 _ (HL1.out.alloc _) (by omega) (heap_alloc_new w1 _) rfl (by omega) (by omega) (by kernel_rfl)).mono ?_
    rintro e w2 ⟨x, rfl, hx, hq, hl, ho⟩
    have HQ := Num.hide hq
    clear hq
    have HO2 := Num.hide ((HO1.out.alloc _).trans ho)
    have HK2 : Hid (w2.heap[w.heap.size]? = some (.cells #[.string ⟨#[]⟩, .string ⟨#[]⟩] 36)) := by
      rw [ho.block _ (by simp; omega) (by omega), heap_alloc_old w1 _ (by omega)]; exact HK1.out
    have hs2 : w.heap.size < w2.heap.size := by have := ho.size; simp at this; omega
    have HL2 := Num.hide hl
    clear hl ho HL1 HO1 HK1
    go_wp2_with fail
    refine (below_live B C 60 _ HL2.out (by omega) (by omega)).mono ?_
    rintro e w3 ⟨t, rfl, ht0, ht1, hl, ho⟩
    have HO3 := Num.hide (HO2.out.trans ho)
    have HK3 : Hid (w3.heap[w.heap.size]? = some (.cells #[.string ⟨#[]⟩, .string ⟨#[]⟩] 36)) := (ho.block _ (by omega) (by omega)).trans HK2.out
    have hs3 : w.heap.size < w3.heap.size := by have := ho.size; omega
    have HL3 := Num.hide hl
    clear hl ho HL2 HO2 HK2
    have HS := Num.hide (date_size t ht0 ht1)
    have HT := Num.hide (fun W => Date.date_spec t W)
    generalize Date.shown t = y at HS HT
    have hy := HS.out
    go_wp2_with fail
    refine (HT.out _).mono ?_
    rintro e w4 ⟨rfl, hb⟩
    have HO4 := Num.hide (HO3.out.of_below (hb.mono (by omega)))
    have HK4 : Hid (w4.heap[w.heap.size]? = some (.cells #[.string ⟨#[]⟩, .string ⟨#[]⟩] 36)) := (hb.block _ (by omega)).trans HK3.out
    have hs4 : w.heap.size < w4.heap.size := by have := hb.size; omega
    have HL4 := Num.hide (HL3.out.below hb)
    clear hb HS HT HL3 HO3 HK3
    obtain ⟨k0, k1, f0, f1⟩ := two_cells HK4.out
    have r0 := Num.hide (box_first (x := x) (y := y) k0)
    have r1 := Num.hide (box_second (x := x) (y := y) k1)
    have HE := Num.hide (box_end (x) (y) HL4.out HO4.out hC)
    clear HL4 HO4 HK4
    go_wp2
    generalize ((w4.setCell ⟨w.heap.size, 0, none⟩ (.string x)).setCell ⟨w.heap.size, 1, none⟩ (.string y)) = w9 at r0 r1 HE ⊢
    have r0 := r0.out
    have r1 := r1.out
    exact bodyPost_ret (v := .agg #[.string x, .string y]) (by simp [results, Tryz.results117, go_sem, r0, r1]) rfl ⟨_, _, rfl, hx, hy, Calm.said_other (of_decide_eq_true HQ.out), HE.out.1, HE.out.2⟩
  · go_wp2_with fail
    refine (pick_q (fun x => decide (¬ x = Calm.cc)) B C w1.heap.size _ 3 _ (HL1.out.alloc _) (by omega) (heap_alloc_new w1 _) rfl (by omega) (by omega) (by kernel_rfl)).mono ?_
    rintro e w2 ⟨x, rfl, hx, hq, hl, ho⟩
    have HQ := Num.hide hq
    clear hq
    have HO2 := Num.hide ((HO1.out.alloc _).trans ho)
    have HK2 : Hid (w2.heap[w.heap.size]? = some (.cells #[.string ⟨#[]⟩, .string ⟨#[]⟩] 36)) := by
      rw [ho.block _ (by simp; omega) (by omega), heap_alloc_old w1 _ (by omega)]; exact HK1.out
    have hs2 : w.heap.size < w2.heap.size := by have := ho.size; simp at this; omega
    have HL2 := Num.hide hl
    clear hl ho HL1 HO1 HK1
    go_wp2_with fail
    refine (pick_live B C w2.heap.size _ 4 _ (HL2.out.alloc _) (by omega) (heap_alloc_new w2 _) rfl (by omega) (by omega) (by decide)).mono ?_
    rintro e w3 ⟨y, rfl, hy, hl, ho⟩
    have HO3 := Num.hide ((HO2.out.alloc _).trans ho)
    have HK3 : Hid (w3.heap[w.heap.size]? = some (.cells #[.string ⟨#[]⟩, .string ⟨#[]⟩] 36)) := by
      rw [ho.block _ (by simp; omega) (by omega), heap_alloc_old w2 _ (by omega)]; exact HK2.out
    have hs3 : w.heap.size < w3.heap.size := by have := ho.size; simp at this; omega
    have HL3 := Num.hide hl
    clear hl ho HL2 HO2 HK2
    obtain ⟨k0, k1, f0, f1⟩ := two_cells HK3.out
    have r0 := Num.hide (box_first (x := x) (y := y) k0)
    have r1 := Num.hide (box_second (x := x) (y := y) k1)
    have HE := Num.hide (box_end (x) (y) HL3.out HO3.out hC)
    clear HL3 HO3 HK3
    go_wp2
    generalize ((w3.setCell ⟨w.heap.size, 0, none⟩ (.string x)).setCell ⟨w.heap.size, 1, none⟩ (.string y)) = w9 at r0 r1 HE ⊢
    have r0 := r0.out
    have r1 := r1.out
    exact bodyPost_ret (v := .agg #[.string x, .string y]) (by simp [results, Tryz.results117, go_sem, r0, r1]) rfl ⟨_, _, rfl, hx, hy, Calm.said_other (of_decide_eq_true HQ.out), HE.out.1, HE.out.2⟩
theorem field_live (B C : Nat) (w : World) (h : Live B C w) :
    Calls Tryz.prog 117 #[.pointer (some ⟨C, 0, none⟩)] w fun e w' => ∃ x y, e = .returned (.agg #[.string x, .string y]) ∧ x.size ≤ 64 ∧ y.size ≤ 64 ∧ Live B C w' ∧ Only C w w' :=
  (field_q B C w h).mono fun e w' ⟨x, y, h1, h2, h3, _, h4, h5⟩ => ⟨x, y, h1, h2, h3, h4, h5⟩
end Draw
end Go.Proofs.YtbajfklnekfeoaaGreatDoor
