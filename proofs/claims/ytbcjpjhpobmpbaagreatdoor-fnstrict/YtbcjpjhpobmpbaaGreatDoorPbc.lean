/-
  DecImpl: Dec of the program: what the call returns, for every number, where the library's table of powers lies as it is laid; old memory stays as it was.
  DecTab: The library's table of powers, kept by whatever makes new memory alone.
  DateWords: nameAt, twoDigits and showTime of the program; what was there stays.
  LeapImpl: IsLeap of the program; the world stays.
  DayImpl: yearDays, monthDays and dateOf of the program; what was there stays.
  DateImpl: ShowDate of the program: the text of a date; what was there stays.
-/
import Derived.Test.YtbcjpjhpobmpbaaGreatDoorPac
import Derived.Test.YtbcjpjhpobmpbaaGreatDoorPbb
import Derived.WalkKit
import Derived.WalkLawsBesides
import Derived.WalkSmall
import Derived.Laws.Strings
import Derived.Laws.Strings2
import Derived.Test.YtbcjpjhpobmpbaaGreatDoorPab
import Derived.Test.YtbcjpjhpobmpbaaGreatDoorRows
import Derived.Below
import Derived.Test.YtbcjpjhpobmpbaaGreatDoorRegLaw
import Derived.Laws.Pointers
import Derived.Laws.Entries
namespace Go.Proofs.YtbcjpjhpobmpbaaGreatDoor
open Go.RowKit
set_option linter.unusedVariables false
namespace Dec

theorem below_grow (w : World) (k : Nat) (os : Array Obj) : Below w.heap.size w (Sort.grow (w.drewN k) os) :=
  (below_drewN (Below.refl _ _) k).trans ⟨rfl, rfl, rfl, by simp, fun i hi => by
    show (w.heap ++ os)[i]? = w.heap[i]?
    exact Array.getElem?_append_left hi⟩
theorem lt_of_cell {w : World} {a : Addr} {v : Value} (h : w.cell? a = some v) : a.block < w.heap.size := by
  apply Decidable.byContradiction
  intro hc
  have hn : w.heap[a.block]? = none := Array.getElem?_eq_none (by omega)
  simp [World.cell?, hn] at h
theorem impl_any (n : Int) (w : World) (h0 : -9223372036854775808 ≤ n) (h1 : n ≤ 9223372036854775807) (htab : Lib.TabIs Tryz.prog w "internal/strconv.uint64pow10" .u64 Lib.pow10Tab) :
    Calls Tryz.prog 173 #[.int .i64 n] w fun e w' => e = .returned (.string ⟨(Lib.itoa n).toArray⟩) ∧ Below w.heap.size w w' := by
  have hI := Num.hide (Shelf.strconv_Itoa n h0 h1 w htab)
  clear htab
  go_enter Tryz.func173, Tryz.ntmps173
  go_wp2_with fail
  refine (Num.unhide hI).mono ?_
  rintro e w1 ⟨rfl, k, os, rfl⟩
  have hb := below_grow w k os
  go_wp2
  go_ret
  exact ⟨rfl, hb⟩
end Dec
end Go.Proofs.YtbcjpjhpobmpbaaGreatDoor
namespace Go.Proofs.YtbcjpjhpobmpbaaGreatDoor
open Go.RowKit
set_option linter.unusedVariables false
namespace Dec

/-- the library's table of powers lies as it is laid -/
def Tab (w : World) : Prop := Lib.TabIs Tryz.prog w "internal/strconv.uint64pow10" .u64 Lib.pow10Tab
theorem g_tab : Tryz.prog.globalNamed "internal/strconv.uint64pow10" = some 4 := by kernel_rfl
theorem Tab.lt {w : World} (h : Tab w) : 4 < w.heap.size := lt_of_cell (Lib.TabIs.cell h g_tab 0 (by simp [Lib.pow10Tab]))
theorem Tab.below {w w' : World} (h : Tab w) (hb : Below w.heap.size w w') : Tab w' := var?_below hb g_tab h.lt h
theorem Tab.under {w w' : World} {B : Nat} (h : Tab w) (hB : 4 < B) (hb : Below B w w') : Tab w' := var?_below hb g_tab hB h
end Dec
end Go.Proofs.YtbcjpjhpobmpbaaGreatDoor
namespace Go.Proofs.YtbcjpjhpobmpbaaGreatDoor
open Go.RowKit
set_option linter.unusedVariables false
namespace Date

theorem parts_of (D : Int) (h0 : 0 ≤ D) (h1 : D ≤ 24471) : Parts D (yr D) (mo D) (dy D) := by
  obtain ⟨p1, p2, p3, p4, p5, p6⟩ := parts_in D h0 h1
  exact ⟨by omega, p2, p3, p4, by unfold dy; omega⟩
def wnames : ByteArray := ⟨#[77, 111, 110, 84, 117, 101, 87, 101, 100, 84, 104, 117, 70, 114, 105, 83, 97, 116, 83, 117, 110]⟩
def mnames : ByteArray := ⟨#[74, 97, 110, 70, 101, 98, 77, 97, 114, 65, 112, 114, 77, 97, 121, 74, 117, 110, 74, 117, 108, 65, 117, 103, 83, 101, 112, 79, 99, 116, 78, 111, 118, 68, 101, 99]⟩
theorem week_cut (D : Int) (h : 0 ≤ D) : wnames.extract (((3 + D) % 7).toNat * 3) ((((3 + D) % 7).toNat + 1) * 3) = week (D % 7).toNat := by
  have key : ∀ r : Nat, r < 7 → (wnames.extract ((3 + r) % 7 * 3) (((3 + r) % 7 + 1) * 3)).data.toList = (week r).data.toList := by decide +kernel
  have e : ((3 + D) % 7).toNat = (3 + (D % 7).toNat) % 7 := by omega
  rw [e]
  exact ByteArray.ext (Array.toList_inj.1 (key _ (by omega)))
theorem name_cut (k : Nat) (h : k < 12) : mnames.extract (k * 3) ((k + 1) * 3) = name k := by
  have key : ∀ r : Nat, r < 12 → (mnames.extract (r * 3) ((r + 1) * 3)).data.toList = (name r).data.toList := by decide +kernel
  exact ByteArray.ext (Array.toList_inj.1 (key _ h))
theorem digit_dec (x : Int) (h0 : 0 ≤ x) (h1 : x < 10) : dec x = ⟨#[Num.byte (48 + x)]⟩ := by
  have key : ∀ r : Nat, r < 10 → (dec (r : Int)).data.toList = [Num.byte (48 + (r : Int))] := by decide +kernel
  have e : ((x.toNat : Nat) : Int) = x := by omega
  have := key x.toNat (by omega)
  rw [e] at this
  exact ByteArray.ext (Array.toList_inj.1 this)
theorem two_dec (n : Int) (h0 : 0 ≤ n) (h1 : n ≤ 99) : dec (n / 10) ++ dec (n % 10) = two n := by
  rw [digit_dec (n / 10) (by omega) (by omega), digit_dec (n % 10) (by omega) (by omega)]
  unfold two
  rw [show n / 10 % 10 = n / 10 by omega]
  rfl
set_option maxRecDepth 100000 in
set_option maxHeartbeats 1000000 in
theorem nameAt_impl (t : ByteArray) (i : Nat) (w : World) (hi : (i + 1) * 3 ≤ t.size) (hs : t.size ≤ 100) : Calls Tryz.prog 171 #[.string t, .int .i64 i] w fun e w' => e = .returned (.string (t.extract (i * 3) ((i + 1) * 3))) ∧ w = w' := by
  have h1 : ((i : Int) + 1) * 3 ≤ (t.size : Int) := by omega
  have h2 : (i : Int) * 3 ≤ ((i : Int) + 1) * 3 := by omega
  have e1 : ((i : Int) * 3).toNat = i * 3 := by omega
  have e2 : (((i : Int) + 1) * 3).toNat = (i + 1) * 3 := by omega
  have hs2 := run_slice_string (P := Tryz.prog) w 9 t .i64 .i64 ((i : Int) * 3) (((i : Int) + 1) * 3) Tryz.underlying9 (by omega) h2 h1
  rw [e1, e2] at hs2
  go_enter Tryz.func171, Tryz.ntmps171
  go_wp2
  go_ret
  exact ⟨rfl, rfl⟩
set_option maxRecDepth 100000 in
set_option maxHeartbeats 1000000 in
theorem two_impl (n : Int) (w : World) (h0 : 0 ≤ n) (h1 : n ≤ 99) (ht : Dec.Tab w) : Calls Tryz.prog 172 #[.int .i64 n] w fun e w' => e = .returned (.string (two n)) ∧ Below w.heap.size w w' := by
  have HA : Hid (∀ W, Dec.Tab W → Calls Tryz.prog 173 #[.int .i64 (n / 10)] W fun e w' => e = .returned (.string (dec (n / 10))) ∧ Below W.heap.size W w') := fun W h => Dec.impl_any (n / 10) W (by omega) (by omega) h
  have HB : Hid (∀ W, Dec.Tab W → Calls Tryz.prog 173 #[.int .i64 (n % 10)] W fun e w' => e = .returned (.string (dec (n % 10))) ∧ Below W.heap.size W w') := fun W h => Dec.impl_any (n % 10) W (by omega) (by omega) h
  have he := two_dec n h0 h1
  have s1 : (dec (n / 10)).size = 1 := by rw [digit_dec _ (by omega) (by omega)]; rfl
  have s2 : (dec (n % 10)).size = 1 := by rw [digit_dec _ (by omega) (by omega)]; rfl
  have HT := Num.hide ht
  clear ht
  generalize two n = r at he ⊢
  generalize dec (n / 10) = x at HA he s1
  generalize dec (n % 10) = y at HB he s2
  subst he
  go_enter Tryz.func172, Tryz.ntmps172
  go_wp2_with fail
  refine (HA.out _ HT.out).mono ?_
  rintro e w1 ⟨rfl, hb1⟩
  have HB1 := Num.hide hb1
  clear hb1
  go_wp2_with fail
  refine (HB.out _ (HT.out.below HB1.out)).mono ?_
  rintro e w2 ⟨rfl, hb2⟩
  have HB2 := Num.hide (HB1.out.trans (hb2.mono HB1.out.size))
  clear hb2
  go_wp2
  go_ret
  exact ⟨rfl, HB2.out⟩
set_option maxRecDepth 100000 in
set_option maxHeartbeats 1000000 in
theorem time_impl (n : Int) (w : World) (h0 : 0 ≤ n) (h1 : n < 86400) (ht : Dec.Tab w) : Calls Tryz.prog 174 #[.int .i64 n] w fun e w' => e = .returned (.string (two (n / 3600) ++ ⟨#[58]⟩ ++ two (n % 3600 / 60) ++ ⟨#[58]⟩ ++ two (n % 60))) ∧ Below w.heap.size w w' := by
  have HA := Num.hide (fun W h => two_impl (n / 3600) W (by omega) (by omega) h)
  have HB := Num.hide (fun W h => two_impl (n % 3600 / 60) W (by omega) (by omega) h)
  have HC := Num.hide (fun W h => two_impl (n % 60) W (by omega) (by omega) h)
  have s1 := size_two (n / 3600)
  have s2 := size_two (n % 3600 / 60)
  have s3 := size_two (n % 60)
  have HT := Num.hide ht
  clear ht
  generalize two (n / 3600) = x at HA s1 ⊢
  generalize two (n % 3600 / 60) = y at HB s2 ⊢
  generalize two (n % 60) = z at HC s3 ⊢
  obtain ⟨r, hr⟩ : ∃ r, x ++ ⟨#[58]⟩ ++ y ++ ⟨#[58]⟩ ++ z = r := ⟨_, rfl⟩
  rw [hr]
  have HR := Num.hide hr
  clear hr
  go_enter Tryz.func174, Tryz.ntmps174
  go_wp2_with fail
  refine (HA.out _ HT.out).mono ?_
  rintro e w1 ⟨rfl, hb1⟩
  have HB1 := Num.hide hb1
  clear hb1
  go_wp2_with fail
  refine (HB.out _ (HT.out.below HB1.out)).mono ?_
  rintro e w2 ⟨rfl, hb2⟩
  have HB2 := Num.hide (HB1.out.trans (hb2.mono HB1.out.size))
  clear hb2
  go_wp2_with fail
  refine (HC.out _ (HT.out.below HB2.out)).mono ?_
  rintro e w3 ⟨rfl, hb3⟩
  have HB3 := Num.hide (HB2.out.trans (hb3.mono HB2.out.size))
  clear hb3
  have hr := HR.out
  subst hr
  go_wp2
  go_ret
  exact ⟨rfl, HB3.out⟩
end Date
end Go.Proofs.YtbcjpjhpobmpbaaGreatDoor
namespace Go.Proofs.YtbcjpjhpobmpbaaGreatDoor
open Go.RowKit
set_option linter.unusedVariables false
namespace Date

theorem leap_alt (y : Int) : leap y = (((y.tmod 4 == 0) && (y.tmod 100 != 0)) || (y.tmod 400 == 0)) := by
  unfold leap
  rw [bne, tmod_zero y 4 (by decide), tmod_zero y 100 (by decide), tmod_zero y 400 (by decide)]
  by_cases h4 : y % 4 = 0
  · rw [decide_eq_true h4]; rfl
  · rw [decide_eq_false h4, decide_eq_false (by omega : ¬ y % 400 = 0)]; rfl
set_option maxRecDepth 100000 in
set_option maxHeartbeats 1000000 in
theorem leap_impl_at (y : Int) (w : World) : Calls Tryz.prog 187 #[.int .i64 y] w fun e w' => e = .returned (.bool (leap y)) ∧ w = w' := by
  have hr := leap_alt y
  obtain ⟨r, hr2⟩ : ∃ r, leap y = r := ⟨_, rfl⟩
  rw [hr2] at hr ⊢
  clear hr2
  have b4 : -4 < y.tmod 4 ∧ y.tmod 4 < 4 := ⟨Int.lt_tmod_of_pos _ (by decide), Int.tmod_lt_of_pos _ (by decide)⟩
  have b100 : -100 < y.tmod 100 ∧ y.tmod 100 < 100 := ⟨Int.lt_tmod_of_pos _ (by decide), Int.tmod_lt_of_pos _ (by decide)⟩
  have b400 : -400 < y.tmod 400 ∧ y.tmod 400 < 400 := ⟨Int.lt_tmod_of_pos _ (by decide), Int.tmod_lt_of_pos _ (by decide)⟩
  cases h4 : (y.tmod 4 == 0) with
  | false =>
    rw [h4] at hr
    cases h400 : (y.tmod 400 == 0) with
    | false =>
      rw [h400] at hr
      subst hr
      go_enter Tryz.func187, Tryz.ntmps187
      go_wp2
      go_ret
      exact ⟨rfl, rfl⟩
    | true =>
      rw [h400] at hr
      subst hr
      go_enter Tryz.func187, Tryz.ntmps187
      go_wp2
      go_ret
      exact ⟨rfl, rfl⟩
  | true =>
    rw [h4] at hr
    cases h100 : (y.tmod 100 == 0) with
    | false =>
      have hn : (y.tmod 100 != 0) = true := by rw [bne, h100]; rfl
      rw [hn] at hr
      subst hr
      go_enter Tryz.func187, Tryz.ntmps187
      go_wp2
      go_ret
      exact ⟨rfl, rfl⟩
    | true =>
      have hn : (y.tmod 100 != 0) = false := by rw [bne, h100]; rfl
      rw [hn] at hr
      cases h400 : (y.tmod 400 == 0) with
      | false =>
        rw [h400] at hr
        subst hr
        go_enter Tryz.func187, Tryz.ntmps187
        go_wp2
        go_ret
        exact ⟨rfl, rfl⟩
      | true =>
        rw [h400] at hr
        subst hr
        go_enter Tryz.func187, Tryz.ntmps187
        go_wp2
        go_ret
        exact ⟨rfl, rfl⟩
theorem leap_impl (y : Int) (w : World) : Calls Tryz.prog 187 #[.int .i64 y] w fun e w' => e = .returned (.bool (leap y)) ∧ Below w.heap.size w w' :=
  (leap_impl_at y w).mono fun e w' ⟨h1, h2⟩ => ⟨h1, by subst h2; exact Below.refl _ _⟩
end Date
end Go.Proofs.YtbcjpjhpobmpbaaGreatDoor
namespace Go.Proofs.YtbcjpjhpobmpbaaGreatDoor
open Go.RowKit
set_option linter.unusedVariables false
namespace Date

theorem year_len (j : Nat) : ysum (j + 1) - ysum j = 365 + (if leap (1970 + (j : Int)) = true then 1 else 0) := by
  have h : ysum (j + 1) = ysum j + 365 + (if leap (1970 + (j : Int)) = true then 1 else 0) := rfl
  omega
set_option maxRecDepth 100000 in
set_option maxHeartbeats 1000000 in
theorem year_impl (y : Int) (w : World) : Calls Tryz.prog 168 #[.int .i64 y] w fun e w' => e = .returned (.int .i64 (365 + (if leap y = true then 1 else 0))) ∧ w = w' := by
  have HL := Num.hide (fun W => leap_impl_at y W)
  cases hl : leap y with
  | false =>
    rw [hl] at HL
    rw [if_neg (by decide)]
    go_enter Tryz.func168, Tryz.ntmps168
    go_wp2_with fail
    refine (HL.out _).mono ?_
    rintro e w1 ⟨rfl, rfl⟩
    go_wp2
    go_ret
    exact ⟨rfl, rfl⟩
  | true =>
    rw [hl] at HL
    rw [if_pos rfl]
    go_enter Tryz.func168, Tryz.ntmps168
    go_wp2_with fail
    refine (HL.out _).mono ?_
    rintro e w1 ⟨rfl, rfl⟩
    go_wp2
    go_ret
    exact ⟨rfl, rfl⟩
set_option maxRecDepth 100000 in
set_option maxHeartbeats 4000000 in
theorem month_impl (y : Int) (k : Nat) (w : World) (hk : k < 12) : Calls Tryz.prog 169 #[.int .i64 y, .int .i64 ((k : Int) + 1)] w fun e w' => e = .returned (.int .i64 (mlen y k)) ∧ w = w' := by
  by_cases h2 : k = 1
  · subst h2
    have hm : mlen y 1 = feb y := rfl
    rw [hm]
    unfold feb
    have HL := Num.hide (fun W => leap_impl_at y W)
    cases hl : leap y with
    | false =>
      rw [hl] at HL
      rw [if_neg (by decide)]
      go_enter Tryz.func169, Tryz.ntmps169
      go_wp2_with fail
      refine (HL.out _).mono ?_
      rintro e w1 ⟨rfl, rfl⟩
      go_wp2
      go_ret
      exact ⟨rfl, rfl⟩
    | true =>
      rw [hl] at HL
      rw [if_pos rfl]
      go_enter Tryz.func169, Tryz.ntmps169
      go_wp2_with fail
      refine (HL.out _).mono ?_
      rintro e w1 ⟨rfl, rfl⟩
      go_wp2
      go_ret
      exact ⟨rfl, rfl⟩
  · by_cases h30 : k = 3 ∨ k = 5 ∨ k = 8 ∨ k = 10
    · have hm : mlen y k = 30 := by rcases h30 with rfl | rfl | rfl | rfl <;> rfl
      rw [hm]
      clear hm h2 hk
      rcases h30 with rfl | rfl | rfl | rfl
      all_goals
        go_enter Tryz.func169, Tryz.ntmps169
        go_wp2
        go_ret
        exact ⟨rfl, rfl⟩
    · have hm : mlen y k = 31 := by
        have : k = 0 ∨ k = 2 ∨ k = 4 ∨ k = 6 ∨ k = 7 ∨ k = 9 ∨ k = 11 := by omega
        rcases this with rfl | rfl | rfl | rfl | rfl | rfl | rfl <;> rfl
      rw [hm]
      have e2 : (((k : Int) + 1) == 2) = false := by rw [beq_eq_false_iff_ne]; omega
      have e4 : (((k : Int) + 1) == 4) = false := by rw [beq_eq_false_iff_ne]; omega
      have e6 : (((k : Int) + 1) == 6) = false := by rw [beq_eq_false_iff_ne]; omega
      have e9 : (((k : Int) + 1) == 9) = false := by rw [beq_eq_false_iff_ne]; omega
      have e11 : (((k : Int) + 1) == 11) = false := by rw [beq_eq_false_iff_ne]; omega
      clear hm h2 h30
      go_enter Tryz.func169, Tryz.ntmps169
      go_wp2
      go_ret
      exact ⟨rfl, rfl⟩
/-- a year, a month and a day as the program holds them -/
def arr (j k : Nat) (d : Int) : Value := .agg #[.int .i64 (1970 + (j : Int)), .int .i64 ((k : Int) + 1), .int .i64 (d + 1)]
set_option maxRecDepth 100000 in
set_option maxHeartbeats 4000000 in
theorem dateOf_impl (D : Int) (w : World) (h0 : 0 ≤ D) (h1 : D < ysum 68) : Calls Tryz.prog 170 #[.int .i64 D] w fun e w' => ∃ j k d, e = .returned (arr j k d) ∧ Parts D j k d ∧ Below w.heap.size w w' := by
  have b68 := ysum_bd 68
  have hD : D < 24888 := by omega
  have H1 := Num.hide h1
  clear h1 b68
  go_enter Tryz.func170, Tryz.ntmps170
  go_wp2_with fail
  go_loop [0, 3] (fun dv yv => ∃ j : Nat, j ≤ 67 ∧ yv = .int .i64 (1970 + (j : Int)) ∧ dv = .int .i64 (D - ysum j) ∧ Hid (ysum j ≤ D)) (fun _ yv => (2038 - intOf yv).toNat)
  case atStart => exact ⟨0, by omega, by simp, by simp [ysum], h0⟩
  case round =>
    obtain ⟨j, hj, rfl, rfl, HJ⟩ := hrel
    have hyb := ysum_bd j
    have hle := HJ.out
    have hl := year_len j
    have HY := Num.hide (fun W => year_impl (1970 + (j : Int)) W)
    have hst := ysum_step j
    have HM := Num.hide (ysum_next j)
    generalize (365 + (if leap (1970 + (j : Int)) = true then 1 else 0) : Int) = L at HY hl
    obtain rfl : L = ysum (j + 1) - ysum j := hl.symm
    clear hl
    by_cases hc : ysum (j + 1) ≤ D
    · have h67 : j < 67 := by
        have h1 : D < ysum (67 + 1) := H1.out
        by_cases e : j = 67
        · subst e; omega
        · omega
      go_wp2_with fail
      refine (HY.out _).mono ?_
      rintro e w1 ⟨rfl, rfl⟩
      go_wp2_with fail
      refine (HY.out _).mono ?_
      rintro e w1 ⟨rfl, rfl⟩
      go_wp2
      go_round
      case rel => exact ⟨j + 1, by omega, by go_num, by go_num, hc⟩
      case measure => simp [intOf]; omega
    · go_wp2_with fail
      refine (HY.out _).mono ?_
      rintro e w1 ⟨rfl, rfl⟩
      clear HY
      have hm12 : D - ysum j < msum (1970 + (j : Int)) 12 := by have := HM.out; omega
      have H12 := Num.hide hm12
      clear HM hm12
      go_wp2_with fail
      go_loop [0, 4] (fun dv mv => ∃ k : Nat, k ≤ 11 ∧ mv = .int .i64 ((k : Int) + 1) ∧ dv = .int .i64 (D - ysum j - msum (1970 + (j : Int)) k) ∧ Hid (msum (1970 + (j : Int)) k ≤ D - ysum j)) (fun _ mv => (13 - intOf mv).toNat)
      case atStart => exact ⟨0, by omega, by simp, by simp [msum], by show (0 : Int) ≤ _; omega⟩
      case round =>
        obtain ⟨k, hk, rfl, rfl, HK⟩ := hrel
        have hmb := msum_bd (1970 + (j : Int)) k (by omega)
        have hmk := HK.out
        have hml := mlen_bd (1970 + (j : Int)) k (by omega)
        have HMo := Num.hide (fun W => month_impl (1970 + (j : Int)) k W (by omega))
        have hs : msum (1970 + (j : Int)) (k + 1) = msum (1970 + (j : Int)) k + mlen (1970 + (j : Int)) k := rfl
        by_cases hc2 : mlen (1970 + (j : Int)) k ≤ D - ysum j - msum (1970 + (j : Int)) k
        · have h11 : k < 11 := by
            have h1 : D - ysum j < msum (1970 + (j : Int)) (11 + 1) := H12.out
            by_cases e : k = 11
            · subst e; omega
            · omega
          have HN : Hid (msum (1970 + (j : Int)) (k + 1) ≤ D - ysum j) := by show _ ≤ _; omega
          have HS := Num.hide hs
          clear hs
          go_wp2_with fail
          refine (HMo.out _).mono ?_
          rintro e w1 ⟨rfl, rfl⟩
          go_wp2_with fail
          refine (HMo.out _).mono ?_
          rintro e w1 ⟨rfl, rfl⟩
          go_wp2
          go_round
          case rel => exact ⟨k + 1, by omega, by go_num, by rw [HS.out]; go_num, HN⟩
          case measure => simp [intOf]; omega
        · have HP : Hid (Parts D j k (D - ysum j - msum (1970 + (j : Int)) k)) := ⟨hj, hk, by omega, by omega, by omega⟩
          clear hs
          go_wp2_with fail
          refine (HMo.out _).mono ?_
          rintro e w1 ⟨rfl, rfl⟩
          go_wp2
          exact bodyPost_ret (v := arr j k (D - ysum j - msum (1970 + (j : Int)) k)) (by simp [results, Tryz.results170, go_sem, arr]) rfl ⟨j, k, _, rfl, HP.out, (Below.refl _ _).alloc (Nat.le_refl _) _⟩
end Date
end Go.Proofs.YtbcjpjhpobmpbaaGreatDoor
namespace Go.Proofs.YtbcjpjhpobmpbaaGreatDoor
open Go.RowKit
set_option linter.unusedVariables false
namespace Date

/-- a box of three numbers, of the call's own; the library's table lies as it is laid; what was there stays -/
abbrev Box (w : World) (b : Nat) (x y z : Int) (W : World) : Prop :=
  W.cell? ⟨b, 0, none⟩ = some (.int .i64 x) ∧ W.cell? ⟨b, 1, none⟩ = some (.int .i64 y) ∧ W.cell? ⟨b, 2, none⟩ = some (.int .i64 z) ∧ Below w.heap.size w W ∧ Dec.Tab W
theorem Box.step {w : World} {b : Nat} {x y z : Int} {W W' : World} (h : Box w b x y z W) (hb : Below W.heap.size W W') : Box w b x y z W' := by
  obtain ⟨h0, h1, h2, h3, h4⟩ := h
  have hlt : b < W.heap.size := Dec.lt_of_cell h0
  exact ⟨(hb.cell (p := ⟨b, 0, none⟩) hlt).trans h0, (hb.cell (p := ⟨b, 1, none⟩) hlt).trans h1, (hb.cell (p := ⟨b, 2, none⟩) hlt).trans h2, h3.trans (hb.mono h3.size), h4.below hb⟩
theorem Box.first {w W : World} {x y z : Int} (hb : Below w.heap.size w W) (ht : Dec.Tab w) : Box w W.heap.size x y z (W.alloc (.cells #[.int .i64 x, .int .i64 y, .int .i64 z] 158)).drew := by
  have hb2 : Below w.heap.size w (W.alloc (.cells #[.int .i64 x, .int .i64 y, .int .i64 z] 158)).drew := (hb.alloc hb.size _).drew
  exact ⟨by simp, by simp, by simp, hb2, ht.below hb2⟩
theorem nameAt_b (t : ByteArray) (i : Nat) (w : World) (hi : (i + 1) * 3 ≤ t.size) (hs : t.size ≤ 100) : Calls Tryz.prog 171 #[.string t, .int .i64 i] w fun e w' => e = .returned (.string (t.extract (i * 3) ((i + 1) * 3))) ∧ Below w.heap.size w w' :=
  (nameAt_impl t i w hi hs).mono fun e w' ⟨h1, h2⟩ => ⟨h1, by subst h2; exact Below.refl _ _⟩
set_option maxRecDepth 100000 in
set_option maxHeartbeats 8000000 in
theorem date_impl (n : Int) (w : World) (ht : Dec.Tab w) : Calls Tryz.prog 160 #[.int .i64 n] w fun e w' => e = .returned (.string (shown n)) ∧ Below w.heap.size w w' := by
  by_cases h1 : 0 ≤ n ∧ n ≤ 2000000000
  · have hsh : shown n = text n := if_pos h1
    rw [hsh]
    obtain ⟨r, hr⟩ : ∃ r, text n = r := ⟨_, rfl⟩
    rw [hr]
    have HR := Num.hide hr
    have HT := Num.hide ht
    have HD := Num.hide (fun W => dateOf_impl (n / 86400) W (by omega) (by have := ysum_bd 68; omega))
    have f1 : decide (n < 0) = false := by rw [decide_eq_false_iff_not]; omega
    have f2 : decide (2000000000 < n) = false := by rw [decide_eq_false_iff_not]; omega
    obtain ⟨h1a, h1b⟩ := h1
    clear hr ht hsh
    go_enter Tryz.func160, Tryz.ntmps160
    go_wp2_with fail
    refine (HD.out _).mono ?_
    rintro e W1 ⟨j, k, d, rfl, hp, hb⟩
    have HP := Num.hide hp
    have HB1 := Num.hide hb
    clear hb hp HD
    unfold arr
    have HW := Num.hide (fun W => nameAt_impl wnames ((3 + n / 86400) % 7).toNat W (by show _ ≤ 21; omega) (by decide))
    rw [week_cut _ (by omega)] at HW
    rw [show ((((3 + n / 86400) % 7).toNat : Nat) : Int) = (3 + n / 86400) % 7 by omega] at HW
    unfold wnames at HW
    go_wp2_with fail
    refine (HW.out _).mono ?_
    rintro e W2 ⟨rfl, rfl⟩
    clear HW
    have hk := HP.out.hk
    have hj := HP.out.hj
    have hd0 := HP.out.h0
    have hd1 := HP.out.h1
    have hml := mlen_bd (1970 + (j : Int)) k (by omega)
    have HA := Num.hide (fun W h => two_impl (d + 1) W (by omega) (by omega) h)
    have HN := Num.hide (fun W => nameAt_b mnames k W (by show _ ≤ 36; omega) (by decide))
    rw [name_cut k (by omega)] at HN
    unfold mnames at HN
    have HY : Hid (∀ W, Dec.Tab W → Calls Tryz.prog 173 #[.int .i64 (1970 + (j : Int))] W fun e w' => e = .returned (.string (dec (1970 + (j : Int)))) ∧ Below W.heap.size W w') := fun W h => Dec.impl_any (1970 + (j : Int)) W (by omega) (by omega) h
    have HF := Num.hide (Box.first (x := 1970 + (j : Int)) (y := (k : Int) + 1) (z := d + 1) HB1.out HT.out)
    have sn := name_size k (by omega)
    have st := size_two (d + 1)
    have sd : (dec (1970 + (j : Int))).size = 4 := by rw [dec_four j hj]; rfl
    clear hd1
    go_wp2_with fail
    refine wp_region_held_drew (S := Box w W1.heap.size (1970 + (j : Int)) ((k : Int) + 1) (d + 1)) (by kernel_rfl) HF.out (fun hHeld => ?_)
    refine Reg.take (i := 0) (d := 24) (v := ?_) rfl rfl (by kernel_rfl) (by kernel_rfl) (by kernel_rfl) (fun _ _ _ h => h) (by rfl) ?_ hHeld ?_
    rotate_left
    · rintro W ⟨g0, g1, g2, g3, g4⟩
      first | (go_simp; done) | (go_simp; with_reducible rfl)
    simp only [Act.put, List.setIfInBounds_toArray, List.set_cons_zero, List.set_cons_succ]
    refine Reg.take (i := 1) (d := 25) (v := ?_) rfl rfl (by kernel_rfl) (by kernel_rfl) (by kernel_rfl) (fun _ _ _ h => h) (by rfl) ?_ hHeld ?_
    rotate_left
    · rintro W ⟨g0, g1, g2, g3, g4⟩
      first | (go_simp; done) | (go_simp; with_reducible rfl)
    simp only [Act.put, List.setIfInBounds_toArray, List.set_cons_zero, List.set_cons_succ]
    refine Reg.take (i := 4) (d := 28) (v := ?_) rfl rfl (by kernel_rfl) (by kernel_rfl) (by kernel_rfl) (fun _ _ _ h => h) (by rfl) ?_ hHeld ?_
    rotate_left
    · rintro W ⟨g0, g1, g2, g3, g4⟩
      first | (go_simp; done) | (go_simp; with_reducible rfl)
    simp only [Act.put, List.setIfInBounds_toArray, List.set_cons_zero, List.set_cons_succ]
    refine Reg.take (i := 5) (d := 29) (v := ?_) rfl rfl (by kernel_rfl) (by kernel_rfl) (by kernel_rfl) (fun _ _ _ h => h) (by rfl) ?_ hHeld ?_
    rotate_left
    · rintro W ⟨g0, g1, g2, g3, g4⟩
      first | (go_simp; done) | (go_simp; with_reducible rfl)
    simp only [Act.put, List.setIfInBounds_toArray, List.set_cons_zero, List.set_cons_succ]
    refine Reg.take (i := 6) (d := 30) (v := ?_) rfl rfl (by kernel_rfl) (by kernel_rfl) (by kernel_rfl) (fun _ _ _ h => h) (by rfl) ?_ hHeld ?_
    rotate_left
    · rintro W ⟨g0, g1, g2, g3, g4⟩
      first | (go_simp; done) | (go_simp; with_reducible rfl)
    simp only [Act.put, List.setIfInBounds_toArray, List.set_cons_zero, List.set_cons_succ]
    refine Reg.take (i := 10) (d := 34) (v := ?_) rfl rfl (by kernel_rfl) (by kernel_rfl) (by kernel_rfl) (fun _ _ _ h => h) (by rfl) ?_ hHeld ?_
    rotate_left
    · rintro W ⟨g0, g1, g2, g3, g4⟩
      first | (go_simp; done) | (go_simp; with_reducible rfl)
    simp only [Act.put, List.setIfInBounds_toArray, List.set_cons_zero, List.set_cons_succ]
    refine Reg.take (i := 11) (d := 35) (v := ?_) rfl rfl (by kernel_rfl) (by kernel_rfl) (by kernel_rfl) (fun _ _ _ h => h) (by rfl) ?_ hHeld ?_
    rotate_left
    · rintro W ⟨g0, g1, g2, g3, g4⟩
      first | (go_simp; done) | (go_simp; with_reducible rfl)
    simp only [Act.put, List.setIfInBounds_toArray, List.set_cons_zero, List.set_cons_succ]
    refine Reg.call (i := 2) rfl (by kernel_rfl) (by rfl) (fun K hK => ?_)
    go_wp2_with (first | (go_at_call 172; refine (HA.out _ hHeld.2.2.2.2).mono ?_; rintro e W3 ⟨rfl, hb3⟩))
    refine hK.out _ _ ?_ (fun hHeld2 => ?_)
    · exact Box.step hHeld hb3
    clear hK K
    replace hHeld := hHeld2
    clear hHeld2
    refine Reg.take (i := 3) (d := 27) (v := ?_) rfl rfl (by kernel_rfl) (by kernel_rfl) (by kernel_rfl) (fun _ _ _ h => h) (by rfl) ?_ hHeld ?_
    rotate_left
    · rintro W ⟨g0, g1, g2, g3, g4⟩
      first | (go_simp; done) | (go_simp; with_reducible rfl)
    simp only [Act.put, List.setIfInBounds_toArray, List.set_cons_zero, List.set_cons_succ]
    refine Reg.call (i := 7) rfl (by kernel_rfl) (by rfl) (fun K hK => ?_)
    go_wp2_with (first | (go_at_call 171; refine (HN.out _).mono ?_; rintro e W4 ⟨rfl, hb4⟩))
    refine hK.out _ _ ?_ (fun hHeld2 => ?_)
    · exact Box.step hHeld hb4
    clear hK K
    replace hHeld := hHeld2
    clear hHeld2
    refine Reg.take (i := 8) (d := 32) (v := ?_) rfl rfl (by kernel_rfl) (by kernel_rfl) (by kernel_rfl) (fun _ _ _ h => h) (by rfl) ?_ hHeld ?_
    rotate_left
    · rintro W ⟨g0, g1, g2, g3, g4⟩
      first | (go_simp; done) | (go_simp; with_reducible rfl)
    simp only [Act.put, List.setIfInBounds_toArray, List.set_cons_zero, List.set_cons_succ]
    refine Reg.take (i := 9) (d := 33) (v := ?_) rfl rfl (by kernel_rfl) (by kernel_rfl) (by kernel_rfl) (fun _ _ _ h => h) (by rfl) ?_ hHeld ?_
    rotate_left
    · rintro W ⟨g0, g1, g2, g3, g4⟩
      first | (go_simp; done) | (go_simp; with_reducible rfl)
    simp only [Act.put, List.setIfInBounds_toArray, List.set_cons_zero, List.set_cons_succ]
    refine Reg.call (i := 12) rfl (by kernel_rfl) (by rfl) (fun K hK => ?_)
    go_wp2_with (first | (go_at_call 173; refine (HY.out _ hHeld.2.2.2.2).mono ?_; rintro e W5 ⟨rfl, hb5⟩))
    refine hK.out _ _ ?_ (fun hHeld2 => ?_)
    · exact Box.step hHeld hb5
    clear hK K
    replace hHeld := hHeld2
    clear hHeld2
    refine Reg.take (i := 13) (d := 37) (v := ?_) rfl rfl (by kernel_rfl) (by kernel_rfl) (by kernel_rfl) (fun _ _ _ h => h) (by rfl) ?_ hHeld ?_
    rotate_left
    · rintro W ⟨g0, g1, g2, g3, g4⟩
      first | (go_simp; done) | (go_simp; with_reducible rfl)
    simp only [Act.put, List.setIfInBounds_toArray, List.set_cons_zero, List.set_cons_succ]
    refine Reg.take (i := 14) (d := 7) (v := ?_) rfl rfl (by kernel_rfl) (by kernel_rfl) (by kernel_rfl) (fun _ _ _ h => h) (by rfl) ?_ hHeld ?_
    rotate_left
    · rintro W ⟨g0, g1, g2, g3, g4⟩
      first | (go_simp; done) | (go_simp; with_reducible rfl)
    simp only [Act.put, List.setIfInBounds_toArray, List.set_cons_zero, List.set_cons_succ]
    refine wpAnyH_done (by kernel_rfl) ?_ _
    have hr : week (n / 86400 % 7).toNat ++ ⟨#[44, 32]⟩ ++ (two (d + 1) ++ ⟨#[32]⟩ ++ name k ++ ⟨#[32]⟩ ++ dec (1970 + (j : Int))) ++ ⟨#[32]⟩ ++ (two (n % 86400 / 3600) ++ ⟨#[58]⟩ ++ two (n % 86400 % 3600 / 60) ++ ⟨#[58]⟩ ++ two (n % 86400 % 60)) ++ ⟨#[32, 71, 77, 84]⟩ = r := by
      rw [← HR.out]
      obtain ⟨e1, e2, e3⟩ := HP.out.one (parts_of (n / 86400) (by omega) (by omega))
      unfold text
      rw [← e1, ← e2, ← e3, show n % 86400 / 3600 = n / 3600 % 24 by omega, show n % 86400 % 3600 / 60 = n / 60 % 60 by omega, show n % 86400 % 60 = n % 60 by omega]
      simp only [ByteArray.append_assoc]
    have HTm := Num.hide (fun W h => time_impl (n % 86400) W (by omega) (by omega) h)
    have sw := week_size (n / 86400 % 7).toNat (by omega)
    have sT : (two (n % 86400 / 3600) ++ ⟨#[58]⟩ ++ two (n % 86400 % 3600 / 60) ++ ⟨#[58]⟩ ++ two (n % 86400 % 60)).size = 8 := rfl
    generalize two (n % 86400 / 3600) ++ ⟨#[58]⟩ ++ two (n % 86400 % 3600 / 60) ++ ⟨#[58]⟩ ++ two (n % 86400 % 60) = TM at HTm sT hr
    have HR2 := Num.hide hr
    have HH := Num.hide hHeld
    clear hr HR HA HN HY HF hHeld
    go_wp2_with fail
    refine (HTm.out _ HH.out.2.2.2.2).mono ?_
    rintro e W6 ⟨rfl, hb6⟩
    have HB6 := Num.hide (HH.out.2.2.2.1.trans (hb6.mono HH.out.2.2.2.1.size))
    clear hb6
    have hr := HR2.out
    subst hr
    go_wp2
    go_ret
    exact ⟨rfl, HB6.out⟩
  · have hsh : shown n = ⟨#[]⟩ := if_neg h1
    rw [hsh]
    clear hsh ht
    by_cases h2 : n < 0
    · have f1 : decide (n < 0) = true := decide_eq_true h2
      go_enter Tryz.func160, Tryz.ntmps160
      go_wp2
      go_ret
      exact ⟨rfl, Below.refl _ _⟩
    · have f1 : decide (n < 0) = false := decide_eq_false h2
      have f2 : decide (2000000000 < n) = true := decide_eq_true (by omega)
      go_enter Tryz.func160, Tryz.ntmps160
      go_wp2
      go_ret
      exact ⟨rfl, Below.refl _ _⟩
end Date
end Go.Proofs.YtbcjpjhpobmpbaaGreatDoor
