/-
  SatImpl: SatAdd of the program.
  DateOne: A day lies in one year, one month and one day of it, plain.
  ShelfItoa: Library contracts at this program: strconv_Itoa.
  DecImpl: Dec of the program: what the call returns, for every number, where the library's table of powers lies as it is laid; old memory stays as it was.
  DecTab: The library's table of powers, kept by whatever makes new memory alone.
  DateWords: nameAt, twoDigits and showTime of the program; what was there stays.
-/
import Derived.Test.YtjeokackmkfooaaGreatDoorPab
import Derived.Test.YtjeokackmkfooaaGreatDoorNum
import Derived.Test.YtjeokackmkfooaaGreatDoorRows
import Derived.WalkKit
import Derived.Shelf.Strings.Builder1
import Derived.Shelf.Strings.Builder2
import Derived.Shelf.Strings.OnBuilder
import Derived.Shelf.Strings.Trim
import Derived.Shelf.Small.Utf8
import Derived.Shelf.Small.Strs
import Derived.Shelf.Strings.BuilderF
import Derived.Shelf.Strings.BuilderK
import Derived.Shelf.Strconv.Itoa0
import Derived.Shelf.Strconv.Itoa1
import Derived.Shelf.LaysM
import Derived.Shelf.Strconv.Itoa2
import Derived.Shelf.Strconv.Itoa3
import Derived.Shelf.Strconv.Clone
import Derived.Shelf.Strings.Search1
import Derived.Shelf.Strings.Search2
import Derived.Shelf.Strings.Search3
import Derived.Shelf.Strings.Cut
import Derived.Shelf.Strings.Shaped
import Derived.Shelf.Unicode.Decode
import Derived.Shelf.Strings.Runes
import Derived.Shelf.Strings.AsciiSet
import Derived.Shelf.Unicode.DecodeSlow
import Derived.Shelf.Unicode.DecodeAny
import Derived.Shelf.Unicode.DecodeLast
import Derived.Test.YtjeokackmkfooaaGreatDoorPac
import Derived.WalkLawsBesides
import Derived.WalkSmall
import Derived.Laws.Strings
import Derived.Laws.Strings2
namespace Go.Proofs.YtjeokackmkfooaaGreatDoor
open Go.RowKit
set_option linter.unusedVariables false
namespace Age

set_option maxRecDepth 100000 in
set_option maxHeartbeats 1000000 in
theorem satSec_impl (a : Int) (w : World) : Calls Tryz.prog 100 #[.int .i64 a] w fun e w' => e = .returned (.int .i64 (clamp a)) ∧ w = w' := by
  obtain ⟨r, hr⟩ : ∃ r, clamp a = r := ⟨_, rfl⟩
  rw [hr]
  have HR := Num.hide hr
  clear hr
  rcases (by omega : a ≤ 0 ∨ (0 < a ∧ a ≤ 2147483648) ∨ 2147483648 < a) with ha | ha | ha
  · have p1 : ¬ 2147483648 < a := by omega
    have p2 : ¬ 0 < a := by omega
    obtain rfl : r = 0 := by rw [← HR.out]; unfold clamp; omega
    clear HR
    go_enter Tryz.func100, Tryz.ntmps100
    go_wp2
    all_goals go_ret
    all_goals exact ⟨retI (by omega), rfl⟩
  · have p1 : ¬ 2147483648 < a := by omega
    have p2 : 0 < a := by omega
    obtain rfl : r = a := by rw [← HR.out]; unfold clamp; omega
    clear HR
    go_enter Tryz.func100, Tryz.ntmps100
    go_wp2
    all_goals go_ret
    all_goals exact ⟨retI (by omega), rfl⟩
  · have p1 : 2147483648 < a := by omega
    have p2 : 0 < a := by omega
    obtain rfl : r = 2147483648 := by rw [← HR.out]; unfold clamp; omega
    clear HR
    go_enter Tryz.func100, Tryz.ntmps100
    go_wp2
    all_goals go_ret
    all_goals exact ⟨retI (by omega), rfl⟩
set_option maxRecDepth 100000 in
set_option maxHeartbeats 1000000 in
theorem satAdd_impl (a b : Int) (w : World) : Calls Tryz.prog 70 #[.int .i64 a, .int .i64 b] w fun e w' => e = .returned (.int .i64 (satAdd a b)) ∧ w = w' := by
  obtain ⟨r, hr⟩ : ∃ r, satAdd a b = r := ⟨_, rfl⟩
  rw [hr]
  unfold satAdd at hr
  have HA := Num.hide (fun W => satSec_impl a W)
  have HB := Num.hide (fun W => satSec_impl b W)
  have ba := clamp_bd a
  have bb := clamp_bd b
  generalize clamp a = A at HA ba hr
  generalize clamp b = B at HB bb hr
  have HR := Num.hide hr
  clear hr
  by_cases hs : 2147483648 < A + B
  · obtain rfl : r = 2147483648 := by rw [← HR.out]; omega
    clear HR
    go_enter Tryz.func70, Tryz.ntmps70
    go_wp2_with fail
    refine (HA.out _).mono ?_
    rintro e w1 ⟨rfl, rfl⟩
    go_wp2_with fail
    refine (HB.out _).mono ?_
    rintro e w2 ⟨rfl, rfl⟩
    go_wp2
    all_goals go_ret
    all_goals exact ⟨retI (by omega), rfl⟩
  · obtain rfl : r = A + B := by rw [← HR.out]; omega
    clear HR
    go_enter Tryz.func70, Tryz.ntmps70
    go_wp2_with fail
    refine (HA.out _).mono ?_
    rintro e w1 ⟨rfl, rfl⟩
    go_wp2_with fail
    refine (HB.out _).mono ?_
    rintro e w2 ⟨rfl, rfl⟩
    go_wp2
    all_goals go_ret
    all_goals exact ⟨retI (by omega), rfl⟩
end Age
end Go.Proofs.YtjeokackmkfooaaGreatDoor
namespace Go.Proofs.YtjeokackmkfooaaGreatDoor
open Go.RowKit
set_option linter.unusedVariables false
namespace Date

theorem mlen_nonneg (y : Int) (k : Nat) : 0 ≤ mlen y k := by
  by_cases h : k < 12
  · have := mlen_bd y k h; omega
  · have e : mlen y k = 0 := by
      unfold mlen
      rw [List.getD_eq_getElem?_getD, List.getElem?_eq_none (by unfold mlens; simp; omega)]
      rfl
    omega
theorem msum_mono (y : Int) (i : Nat) : ∀ n, msum y i ≤ msum y (i + n) := by
  intro n
  induction n with
  | zero => exact Int.le_refl _
  | succ n ih =>
    have h : msum y (i + (n + 1)) = msum y (i + n) + mlen y (i + n) := rfl
    have := mlen_nonneg y (i + n)
    omega
theorem msum_le (y : Int) {i k : Nat} (h : i ≤ k) : msum y i ≤ msum y k := by
  have := msum_mono y i (k - i)
  rw [show i + (k - i) = k by omega] at this
  exact this
theorem ysum_step (j : Nat) : ysum j + 365 ≤ ysum (j + 1) ∧ ysum (j + 1) ≤ ysum j + 366 := by
  show _ ∧ ysum j + 365 + _ ≤ _
  have h : ysum (j + 1) = ysum j + 365 + (if leap (1970 + (j : Int)) = true then 1 else 0) := rfl
  rw [h]
  split <;> omega
theorem ysum_mono (i : Nat) : ∀ n, ysum i ≤ ysum (i + n) := by
  intro n
  induction n with
  | zero => exact Int.le_refl _
  | succ n ih =>
    have := ysum_step (i + n)
    have h : ysum (i + (n + 1)) = ysum (i + n + 1) := rfl
    omega
theorem ysum_le {i k : Nat} (h : i ≤ k) : ysum i ≤ ysum k := by
  have := ysum_mono i (k - i)
  rw [show i + (k - i) = k by omega] at this
  exact this
theorem ysum_next (j : Nat) : ysum (j + 1) = ysum j + msum (1970 + (j : Int)) 12 := by
  have h : msum (1970 + (j : Int)) 12 = 337 + feb (1970 + (j : Int)) := by
    show 0 + 31 + feb (1970 + (j : Int)) + 31 + 30 + 31 + 30 + 31 + 31 + 30 + 31 + 30 + 31 = _
    omega
  rw [h]
  unfold feb
  show ysum j + 365 + _ = _
  split <;> omega
/-- the day D is the d-th (from 0 on) of the k-th month (from 0 on) of the j-th year (from 1970 on) -/
structure Parts (D : Int) (j k : Nat) (d : Int) : Prop where
  hj : j ≤ 67
  hk : k ≤ 11
  h0 : 0 ≤ d
  h1 : d < mlen (1970 + (j : Int)) k
  sum : D = ysum j + msum (1970 + (j : Int)) k + d
theorem Parts.month {D : Int} {j k : Nat} {d : Int} (h : Parts D j k d) : msum (1970 + (j : Int)) k ≤ D - ysum j ∧ D - ysum j < msum (1970 + (j : Int)) (k + 1) := by
  have e : msum (1970 + (j : Int)) (k + 1) = msum (1970 + (j : Int)) k + mlen (1970 + (j : Int)) k := rfl
  have := h.sum; have := h.h0; have := h.h1
  omega
theorem Parts.year {D : Int} {j k : Nat} {d : Int} (h : Parts D j k d) : ysum j ≤ D ∧ D < ysum (j + 1) := by
  have hm := h.month
  have e := ysum_next j
  have h1 := msum_le (1970 + (j : Int)) (show k + 1 ≤ 12 by have := h.hk; omega)
  have h2 := msum_bd (1970 + (j : Int)) k (by have := h.hk; omega)
  omega
theorem Parts.one {D : Int} {j k j' k' : Nat} {d d' : Int} (h : Parts D j k d) (h' : Parts D j' k' d') : j = j' ∧ k = k' ∧ d = d' := by
  have y1 := h.year
  have y2 := h'.year
  have ej : j = j' := by
    rcases Nat.lt_trichotomy j j' with hl | he | hl
    · have := ysum_le (show j + 1 ≤ j' by omega); omega
    · exact he
    · have := ysum_le (show j' + 1 ≤ j by omega); omega
  subst ej
  have m1 := h.month
  have m2 := h'.month
  have ek : k = k' := by
    rcases Nat.lt_trichotomy k k' with hl | he | hl
    · have := msum_le (1970 + (j : Int)) (show k + 1 ≤ k' by omega); omega
    · exact he
    · have := msum_le (1970 + (j : Int)) (show k' + 1 ≤ k by omega); omega
  subst ek
  have := h.sum; have := h'.sum
  exact ⟨rfl, rfl, by omega⟩
/-- whatever day of a month is wanted, it lies ahead of the end of 2037 -/
theorem ahead (j k : Nat) (d : Int) (hj : j ≤ 67) (hk : k ≤ 11) (h1 : d ≤ 30) : ysum j + msum (1970 + (j : Int)) k + d < ysum 68 := by
  have e := ysum_next j
  have hy := ysum_le (show j + 1 ≤ 68 by omega)
  by_cases h : k = 11
  · subst h
    have e2 : msum (1970 + (j : Int)) 12 = msum (1970 + (j : Int)) 11 + 31 := rfl
    omega
  · have e1 : msum (1970 + (j : Int)) (k + 2) = msum (1970 + (j : Int)) k + mlen (1970 + (j : Int)) k + mlen (1970 + (j : Int)) (k + 1) := rfl
    have b1 := mlen_bd (1970 + (j : Int)) k (by omega)
    have b2 := mlen_bd (1970 + (j : Int)) (k + 1) (by omega)
    have := msum_le (1970 + (j : Int)) (show k + 2 ≤ 12 by omega)
    omega
end Date
end Go.Proofs.YtjeokackmkfooaaGreatDoor
namespace Go.Proofs.YtjeokackmkfooaaGreatDoor
open Go.Shelf
def Shelf.laysM171_ren : Go.Shelf.Ren := ⟨fun | 171 => 191 | 243 => 197 | 246 => 200 | 283 => 201 | 284 => 202 | 285 => 203 | 286 => 204 | 129 => 206 | 317 => 205 | 318 => 207 | 319 => 208 | 320 => 209 | 337 => 210 | 338 => 211 | n => n, fun | 3 => 3 | 9 => 9 | 2 => 2 | 4 => 4 | 171 => 182 | 0 => 0 | 53 => 183 | 37 => 22 | 5 => 5 | 173 => 186 | 212 => 189 | 51 => 173 | 20 => 20 | 213 => 190 | 46 => 109 | 232 => 193 | 233 => 194 | n => n, fun | 17 => 4 | 18 => 5 | 19 => 6 | n => n⟩
theorem Shelf.laysM171 : Go.Proofs.LaysM.n171 Tryz.prog Shelf.laysM171_ren := {
  mixed := by kernel_rfl
  f129 := Tryz.func206.trans (congrArg some (by kernel_rfl))
  f171 := Tryz.func191.trans (congrArg some (by kernel_rfl))
  f243 := Tryz.func197.trans (congrArg some (by kernel_rfl))
  f246 := Tryz.func200.trans (congrArg some (by kernel_rfl))
  f283 := Tryz.func201.trans (congrArg some (by kernel_rfl))
  f284 := Tryz.func202.trans (congrArg some (by kernel_rfl))
  f285 := Tryz.func203.trans (congrArg some (by kernel_rfl))
  f286 := Tryz.func204.trans (congrArg some (by kernel_rfl))
  f317 := Tryz.func205.trans (congrArg some (by kernel_rfl))
  f318 := Tryz.func207.trans (congrArg some (by kernel_rfl))
  f319 := Tryz.func208.trans (congrArg some (by kernel_rfl))
  f320 := Tryz.func209.trans (congrArg some (by kernel_rfl))
  f337 := Tryz.func210.trans (congrArg some (by kernel_rfl))
  f338 := Tryz.func211.trans (congrArg some (by kernel_rfl))
  t0 := Tryz.underlying0
  a0 := Tryz.isAgg0
  z0 := Tryz.sizeOf0
  v0 := Tryz.zeroValue0
  t2 := Tryz.underlying2
  a2 := Tryz.isAgg2
  z2 := Tryz.sizeOf2
  v2 := Tryz.zeroValue2
  t3 := Tryz.underlying3
  a3 := Tryz.isAgg3
  z3 := Tryz.sizeOf3
  v3 := Tryz.zeroValue3
  t4 := Tryz.underlying4
  a4 := Tryz.isAgg4
  z4 := Tryz.sizeOf4
  v4 := Tryz.zeroValue4
  t5 := Tryz.underlying5
  a5 := Tryz.isAgg5
  z5 := Tryz.sizeOf5
  v5 := Tryz.zeroValue5
  t9 := Tryz.underlying9
  a9 := Tryz.isAgg9
  z9 := Tryz.sizeOf9
  v9 := Tryz.zeroValue9
  t20 := Tryz.underlying20
  a20 := Tryz.isAgg20
  z20 := Tryz.sizeOf20
  v20 := Tryz.zeroValue20
  t37 := Tryz.underlying22
  a37 := Tryz.isAgg22
  z37 := Tryz.sizeOf22
  v37 := Tryz.zeroValue22
  t46 := Tryz.underlying109
  a46 := Tryz.isAgg109
  z46 := Tryz.sizeOf109
  v46 := Tryz.zeroValue109
  t51 := Tryz.underlying173
  a51 := Tryz.isAgg173
  z51 := Tryz.sizeOf173
  v51 := Tryz.zeroValue173
  t53 := Tryz.underlying183
  a53 := Tryz.isAgg183
  z53 := Tryz.sizeOf183
  v53 := Tryz.zeroValue183
  t171 := Tryz.underlying182
  a171 := Tryz.isAgg182
  z171 := Tryz.sizeOf182
  v171 := Tryz.zeroValue182
  t173 := Tryz.underlying186
  a173 := Tryz.isAgg186
  z173 := Tryz.sizeOf186
  v173 := Tryz.zeroValue186
  t212 := Tryz.underlying189
  a212 := Tryz.isAgg189
  z212 := Tryz.sizeOf189
  v212 := Tryz.zeroValue189
  t213 := Tryz.underlying190
  a213 := Tryz.isAgg190
  z213 := Tryz.sizeOf190
  t232 := Tryz.underlying193
  a232 := Tryz.isAgg193
  z232 := Tryz.sizeOf193
  v232 := Tryz.zeroValue193
  t233 := Tryz.underlying194
  a233 := Tryz.isAgg194
  z233 := Tryz.sizeOf194
  v233 := Tryz.zeroValue194
  g17 := by kernel_rfl
  g18 := by kernel_rfl
  g19 := by kernel_rfl
  i0 := by kernel_rfl
  i2 := by kernel_rfl
  i3 := by kernel_rfl
  i4 := by kernel_rfl
  i5 := by kernel_rfl
  i9 := by kernel_rfl
  i20 := by kernel_rfl
  i37 := by kernel_rfl
  i46 := by kernel_rfl
  i51 := by kernel_rfl
  i53 := by kernel_rfl
  i171 := by kernel_rfl
  i173 := by kernel_rfl
  i212 := by kernel_rfl
  i232 := by kernel_rfl
  i233 := by kernel_rfl
  m17 := by kernel_rfl
  m18 := by kernel_rfl
  m19 := by kernel_rfl }
open Go.RowKit Go.Sort Go.Lib in
theorem Shelf.strconv_Itoa (n : Int) (h0 : -9223372036854775808 ≤ n) (h1 : n ≤ 9223372036854775807) (w : World) (htab : Lib.TabIs Tryz.prog w "internal/strconv.uint64pow10" .u64 Lib.pow10Tab) :
    Calls Tryz.prog 191 #[.int .i64 n] w fun e w' => e = .returned (.string ⟨(Lib.itoa n).toArray⟩) ∧ ∃ k os, w' = grow (w.drewN k) os := Any.strconv_Itoa Shelf.laysM171 n h0 h1 w htab
end Go.Proofs.YtjeokackmkfooaaGreatDoor
namespace Go.Proofs.YtjeokackmkfooaaGreatDoor
open Go.RowKit
set_option linter.unusedVariables false
namespace Dec

theorem below_grow (w : World) (k : Nat) (os : Array Obj) : Below w.heap.size w (Sort.grow (w.drewN k) os) :=
  (below_drewN (Below.refl _ _) k).trans ⟨rfl, rfl, rfl, by simp, fun i hi => by
    show (w.heap ++ os)[i]? = w.heap[i]?
    exact Array.getElem?_append_left hi⟩
theorem lt_of_cell {w : World} {a : Addr} {v : Value} (h : w.cell? a = some v) : a.block < w.heap.size := by
  apply Decidable.byContradiction
  intro hc
  have hn : w.heap[a.block]? = none := Array.getElem?_eq_none (by omega)
  simp [World.cell?, hn] at h
theorem impl_any (n : Int) (w : World) (h0 : -9223372036854775808 ≤ n) (h1 : n ≤ 9223372036854775807) (htab : Lib.TabIs Tryz.prog w "internal/strconv.uint64pow10" .u64 Lib.pow10Tab) :
    Calls Tryz.prog 179 #[.int .i64 n] w fun e w' => e = .returned (.string ⟨(Lib.itoa n).toArray⟩) ∧ Below w.heap.size w w' := by
  have hI := Num.hide (Shelf.strconv_Itoa n h0 h1 w htab)
  clear htab
  go_enter Tryz.func179, Tryz.ntmps179
  go_wp2_with fail
  refine (Num.unhide hI).mono ?_
  rintro e w1 ⟨rfl, k, os, rfl⟩
  have hb := below_grow w k os
  go_wp2
  go_ret
  exact ⟨rfl, hb⟩
end Dec
end Go.Proofs.YtjeokackmkfooaaGreatDoor
namespace Go.Proofs.YtjeokackmkfooaaGreatDoor
open Go.RowKit
set_option linter.unusedVariables false
namespace Dec

/-- the library's table of powers lies as it is laid -/
def Tab (w : World) : Prop := Lib.TabIs Tryz.prog w "internal/strconv.uint64pow10" .u64 Lib.pow10Tab
theorem g_tab : Tryz.prog.globalNamed "internal/strconv.uint64pow10" = some 4 := by kernel_rfl
theorem Tab.lt {w : World} (h : Tab w) : 4 < w.heap.size := lt_of_cell (Lib.TabIs.cell h g_tab 0 (by simp [Lib.pow10Tab]))
theorem Tab.below {w w' : World} (h : Tab w) (hb : Below w.heap.size w w') : Tab w' := var?_below hb g_tab h.lt h
theorem Tab.under {w w' : World} {B : Nat} (h : Tab w) (hB : 4 < B) (hb : Below B w w') : Tab w' := var?_below hb g_tab hB h
end Dec
end Go.Proofs.YtjeokackmkfooaaGreatDoor
namespace Go.Proofs.YtjeokackmkfooaaGreatDoor
open Go.RowKit
set_option linter.unusedVariables false
namespace Date

theorem parts_of (D : Int) (h0 : 0 ≤ D) (h1 : D ≤ 24471) : Parts D (yr D) (mo D) (dy D) := by
  obtain ⟨p1, p2, p3, p4, p5, p6⟩ := parts_in D h0 h1
  exact ⟨by omega, p2, p3, p4, by unfold dy; omega⟩
def wnames : ByteArray := ⟨#[77, 111, 110, 84, 117, 101, 87, 101, 100, 84, 104, 117, 70, 114, 105, 83, 97, 116, 83, 117, 110]⟩
def mnames : ByteArray := ⟨#[74, 97, 110, 70, 101, 98, 77, 97, 114, 65, 112, 114, 77, 97, 121, 74, 117, 110, 74, 117, 108, 65, 117, 103, 83, 101, 112, 79, 99, 116, 78, 111, 118, 68, 101, 99]⟩
theorem week_cut (D : Int) (h : 0 ≤ D) : wnames.extract (((3 + D) % 7).toNat * 3) ((((3 + D) % 7).toNat + 1) * 3) = week (D % 7).toNat := by
  have key : ∀ r : Nat, r < 7 → (wnames.extract ((3 + r) % 7 * 3) (((3 + r) % 7 + 1) * 3)).data.toList = (week r).data.toList := by decide +kernel
  have e : ((3 + D) % 7).toNat = (3 + (D % 7).toNat) % 7 := by omega
  rw [e]
  exact ByteArray.ext (Array.toList_inj.1 (key _ (by omega)))
theorem name_cut (k : Nat) (h : k < 12) : mnames.extract (k * 3) ((k + 1) * 3) = name k := by
  have key : ∀ r : Nat, r < 12 → (mnames.extract (r * 3) ((r + 1) * 3)).data.toList = (name r).data.toList := by decide +kernel
  exact ByteArray.ext (Array.toList_inj.1 (key _ h))
theorem digit_dec (x : Int) (h0 : 0 ≤ x) (h1 : x < 10) : dec x = ⟨#[Num.byte (48 + x)]⟩ := by
  have key : ∀ r : Nat, r < 10 → (dec (r : Int)).data.toList = [Num.byte (48 + (r : Int))] := by decide +kernel
  have e : ((x.toNat : Nat) : Int) = x := by omega
  have := key x.toNat (by omega)
  rw [e] at this
  exact ByteArray.ext (Array.toList_inj.1 this)
theorem two_dec (n : Int) (h0 : 0 ≤ n) (h1 : n ≤ 99) : dec (n / 10) ++ dec (n % 10) = two n := by
  rw [digit_dec (n / 10) (by omega) (by omega), digit_dec (n % 10) (by omega) (by omega)]
  unfold two
  rw [show n / 10 % 10 = n / 10 by omega]
  rfl
set_option maxRecDepth 100000 in
set_option maxHeartbeats 1000000 in
theorem nameAt_impl (t : ByteArray) (i : Nat) (w : World) (hi : (i + 1) * 3 ≤ t.size) (hs : t.size ≤ 100) : Calls Tryz.prog 177 #[.string t, .int .i64 i] w fun e w' => e = .returned (.string (t.extract (i * 3) ((i + 1) * 3))) ∧ w = w' := by
  have h1 : ((i : Int) + 1) * 3 ≤ (t.size : Int) := by omega
  have h2 : (i : Int) * 3 ≤ ((i : Int) + 1) * 3 := by omega
  have e1 : ((i : Int) * 3).toNat = i * 3 := by omega
  have e2 : (((i : Int) + 1) * 3).toNat = (i + 1) * 3 := by omega
  have hs2 := run_slice_string (P := Tryz.prog) w 9 t .i64 .i64 ((i : Int) * 3) (((i : Int) + 1) * 3) Tryz.underlying9 (by omega) h2 h1
  rw [e1, e2] at hs2
  go_enter Tryz.func177, Tryz.ntmps177
  go_wp2
  go_ret
  exact ⟨rfl, rfl⟩
set_option maxRecDepth 100000 in
set_option maxHeartbeats 1000000 in
theorem two_impl (n : Int) (w : World) (h0 : 0 ≤ n) (h1 : n ≤ 99) (ht : Dec.Tab w) : Calls Tryz.prog 178 #[.int .i64 n] w fun e w' => e = .returned (.string (two n)) ∧ Below w.heap.size w w' := by
  have HA : Hid (∀ W, Dec.Tab W → Calls Tryz.prog 179 #[.int .i64 (n / 10)] W fun e w' => e = .returned (.string (dec (n / 10))) ∧ Below W.heap.size W w') := fun W h => Dec.impl_any (n / 10) W (by omega) (by omega) h
  have HB : Hid (∀ W, Dec.Tab W → Calls Tryz.prog 179 #[.int .i64 (n % 10)] W fun e w' => e = .returned (.string (dec (n % 10))) ∧ Below W.heap.size W w') := fun W h => Dec.impl_any (n % 10) W (by omega) (by omega) h
  have he := two_dec n h0 h1
  have s1 : (dec (n / 10)).size = 1 := by rw [digit_dec _ (by omega) (by omega)]; rfl
  have s2 : (dec (n % 10)).size = 1 := by rw [digit_dec _ (by omega) (by omega)]; rfl
  have HT := Num.hide ht
  clear ht
  generalize two n = r at he ⊢
  generalize dec (n / 10) = x at HA he s1
  generalize dec (n % 10) = y at HB he s2
  subst he
  go_enter Tryz.func178, Tryz.ntmps178
  go_wp2_with fail
  refine (HA.out _ HT.out).mono ?_
  rintro e w1 ⟨rfl, hb1⟩
  have HB1 := Num.hide hb1
  clear hb1
  go_wp2_with fail
  refine (HB.out _ (HT.out.below HB1.out)).mono ?_
  rintro e w2 ⟨rfl, hb2⟩
  have HB2 := Num.hide (HB1.out.trans (hb2.mono HB1.out.size))
  clear hb2
  go_wp2
  go_ret
  exact ⟨rfl, HB2.out⟩
set_option maxRecDepth 100000 in
set_option maxHeartbeats 1000000 in
theorem time_impl (n : Int) (w : World) (h0 : 0 ≤ n) (h1 : n < 86400) (ht : Dec.Tab w) : Calls Tryz.prog 180 #[.int .i64 n] w fun e w' => e = .returned (.string (two (n / 3600) ++ ⟨#[58]⟩ ++ two (n % 3600 / 60) ++ ⟨#[58]⟩ ++ two (n % 60))) ∧ Below w.heap.size w w' := by
  have HA := Num.hide (fun W h => two_impl (n / 3600) W (by omega) (by omega) h)
  have HB := Num.hide (fun W h => two_impl (n % 3600 / 60) W (by omega) (by omega) h)
  have HC := Num.hide (fun W h => two_impl (n % 60) W (by omega) (by omega) h)
  have s1 := size_two (n / 3600)
  have s2 := size_two (n % 3600 / 60)
  have s3 := size_two (n % 60)
  have HT := Num.hide ht
  clear ht
  generalize two (n / 3600) = x at HA s1 ⊢
  generalize two (n % 3600 / 60) = y at HB s2 ⊢
  generalize two (n % 60) = z at HC s3 ⊢
  obtain ⟨r, hr⟩ : ∃ r, x ++ ⟨#[58]⟩ ++ y ++ ⟨#[58]⟩ ++ z = r := ⟨_, rfl⟩
  rw [hr]
  have HR := Num.hide hr
  clear hr
  go_enter Tryz.func180, Tryz.ntmps180
  go_wp2_with fail
  refine (HA.out _ HT.out).mono ?_
  rintro e w1 ⟨rfl, hb1⟩
  have HB1 := Num.hide hb1
  clear hb1
  go_wp2_with fail
  refine (HB.out _ (HT.out.below HB1.out)).mono ?_
  rintro e w2 ⟨rfl, hb2⟩
  have HB2 := Num.hide (HB1.out.trans (hb2.mono HB1.out.size))
  clear hb2
  go_wp2_with fail
  refine (HC.out _ (HT.out.below HB2.out)).mono ?_
  rintro e w3 ⟨rfl, hb3⟩
  have HB3 := Num.hide (HB2.out.trans (hb3.mono HB2.out.size))
  clear hb3
  have hr := HR.out
  subst hr
  go_wp2
  go_ret
  exact ⟨rfl, HB3.out⟩
end Date
end Go.Proofs.YtjeokackmkfooaaGreatDoor
