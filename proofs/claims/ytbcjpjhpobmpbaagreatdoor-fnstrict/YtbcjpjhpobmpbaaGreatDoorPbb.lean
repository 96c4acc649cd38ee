/-
  SatImpl: SatAdd of the program.
  DateOne: A day lies in one year, one month and one day of it, plain.
  ShelfItoa: Library contracts at this program: strconv_Itoa.
-/
import Derived.Test.YtbcjpjhpobmpbaaGreatDoorPab
import Derived.Test.YtbcjpjhpobmpbaaGreatDoorNum
import Derived.Test.YtbcjpjhpobmpbaaGreatDoorRows
import Derived.WalkKit
import Derived.Shelf.Strings.Builder1
import Derived.Shelf.Strings.Builder2
import Derived.Shelf.Strings.OnBuilder
import Derived.Shelf.Strings.Trim
import Derived.Shelf.Small.Utf8
import Derived.Shelf.Small.Strs
import Derived.Shelf.Strings.BuilderF
import Derived.Shelf.Strings.BuilderK
import Derived.Shelf.Strconv.Itoa0
import Derived.Shelf.Strconv.Itoa1
import Derived.Shelf.LaysM
import Derived.Shelf.Strconv.Itoa2
import Derived.Shelf.Strconv.Itoa3
import Derived.Shelf.Strconv.Clone
import Derived.Shelf.Strings.Search1
import Derived.Shelf.Strings.Search2
import Derived.Shelf.Strings.Search3
import Derived.Shelf.Strings.Cut
import Derived.Shelf.Strings.Shaped
import Derived.Shelf.Unicode.Decode
import Derived.Shelf.Strings.Runes
import Derived.Shelf.Strings.AsciiSet
import Derived.Shelf.Unicode.DecodeSlow
import Derived.Shelf.Unicode.DecodeAny
import Derived.Shelf.Unicode.DecodeLast
namespace Go.Proofs.YtbcjpjhpobmpbaaGreatDoor
open Go.RowKit
set_option linter.unusedVariables false
namespace Age

set_option maxRecDepth 100000 in
set_option maxHeartbeats 1000000 in
theorem satSec_impl (a : Int) (w : World) : Calls Tryz.prog 98 #[.int .i64 a] w fun e w' => e = .returned (.int .i64 (clamp a)) ∧ w = w' := by
  obtain ⟨r, hr⟩ : ∃ r, clamp a = r := ⟨_, rfl⟩
  rw [hr]
  have HR := Num.hide hr
  clear hr
  rcases (by omega : a ≤ 0 ∨ (0 < a ∧ a ≤ 2147483648) ∨ 2147483648 < a) with ha | ha | ha
  · have p1 : ¬ 2147483648 < a := by omega
    have p2 : ¬ 0 < a := by omega
    obtain rfl : r = 0 := by rw [← HR.out]; unfold clamp; omega
    clear HR
    go_enter Tryz.func98, Tryz.ntmps98
    go_wp2
    all_goals go_ret
    all_goals exact ⟨retI (by omega), rfl⟩
  · have p1 : ¬ 2147483648 < a := by omega
    have p2 : 0 < a := by omega
    obtain rfl : r = a := by rw [← HR.out]; unfold clamp; omega
    clear HR
    go_enter Tryz.func98, Tryz.ntmps98
    go_wp2
    all_goals go_ret
    all_goals exact ⟨retI (by omega), rfl⟩
  · have p1 : 2147483648 < a := by omega
    have p2 : 0 < a := by omega
    obtain rfl : r = 2147483648 := by rw [← HR.out]; unfold clamp; omega
    clear HR
    go_enter Tryz.func98, Tryz.ntmps98
    go_wp2
    all_goals go_ret
    all_goals exact ⟨retI (by omega), rfl⟩
set_option maxRecDepth 100000 in
set_option maxHeartbeats 1000000 in
theorem satAdd_impl (a b : Int) (w : World) : Calls Tryz.prog 72 #[.int .i64 a, .int .i64 b] w fun e w' => e = .returned (.int .i64 (satAdd a b)) ∧ w = w' := by
  obtain ⟨r, hr⟩ : ∃ r, satAdd a b = r := ⟨_, rfl⟩
  rw [hr]
  unfold satAdd at hr
  have HA := Num.hide (fun W => satSec_impl a W)
  have HB := Num.hide (fun W => satSec_impl b W)
  have ba := clamp_bd a
  have bb := clamp_bd b
  generalize clamp a = A at HA ba hr
  generalize clamp b = B at HB bb hr
  have HR := Num.hide hr
  clear hr
  by_cases hs : 2147483648 < A + B
  · obtain rfl : r = 2147483648 := by rw [← HR.out]; omega
    clear HR
    go_enter Tryz.func72, Tryz.ntmps72
    go_wp2_with fail
    refine (HA.out _).mono ?_
    rintro e w1 ⟨rfl, rfl⟩
    go_wp2_with fail
    refine (HB.out _).mono ?_
    rintro e w2 ⟨rfl, rfl⟩
    go_wp2
    all_goals go_ret
    all_goals exact ⟨retI (by omega), rfl⟩
  · obtain rfl : r = A + B := by rw [← HR.out]; omega
    clear HR
    go_enter Tryz.func72, Tryz.ntmps72
    go_wp2_with fail
    refine (HA.out _).mono ?_
    rintro e w1 ⟨rfl, rfl⟩
    go_wp2_with fail
    refine (HB.out _).mono ?_
    rintro e w2 ⟨rfl, rfl⟩
    go_wp2
    all_goals go_ret
    all_goals exact ⟨retI (by omega), rfl⟩
end Age
end Go.Proofs.YtbcjpjhpobmpbaaGreatDoor
namespace Go.Proofs.YtbcjpjhpobmpbaaGreatDoor
open Go.RowKit
set_option linter.unusedVariables false
namespace Date

theorem mlen_nonneg (y : Int) (k : Nat) : 0 ≤ mlen y k := by
  by_cases h : k < 12
  · have := mlen_bd y k h; omega
  · have e : mlen y k = 0 := by
      unfold mlen
      rw [List.getD_eq_getElem?_getD, List.getElem?_eq_none (by unfold mlens; simp; omega)]
      rfl
    omega
theorem msum_mono (y : Int) (i : Nat) : ∀ n, msum y i ≤ msum y (i + n) := by
  intro n
  induction n with
  | zero => exact Int.le_refl _
  | succ n ih =>
    have h : msum y (i + (n + 1)) = msum y (i + n) + mlen y (i + n) := rfl
    have := mlen_nonneg y (i + n)
    omega
theorem msum_le (y : Int) {i k : Nat} (h : i ≤ k) : msum y i ≤ msum y k := by
  have := msum_mono y i (k - i)
  rw [show i + (k - i) = k by omega] at this
  exact this
theorem ysum_step (j : Nat) : ysum j + 365 ≤ ysum (j + 1) ∧ ysum (j + 1) ≤ ysum j + 366 := by
  show _ ∧ ysum j + 365 + _ ≤ _
  have h : ysum (j + 1) = ysum j + 365 + (if leap (1970 + (j : Int)) = true then 1 else 0) := rfl
  rw [h]
  split <;> omega
theorem ysum_mono (i : Nat) : ∀ n, ysum i ≤ ysum (i + n) := by
  intro n
  induction n with
  | zero => exact Int.le_refl _
  | succ n ih =>
    have := ysum_step (i + n)
    have h : ysum (i + (n + 1)) = ysum (i + n + 1) := rfl
    omega
theorem ysum_le {i k : Nat} (h : i ≤ k) : ysum i ≤ ysum k := by
  have := ysum_mono i (k - i)
  rw [show i + (k - i) = k by omega] at this
  exact this
theorem ysum_next (j : Nat) : ysum (j + 1) = ysum j + msum (1970 + (j : Int)) 12 := by
  have h : msum (1970 + (j : Int)) 12 = 337 + feb (1970 + (j : Int)) := by
    show 0 + 31 + feb (1970 + (j : Int)) + 31 + 30 + 31 + 30 + 31 + 31 + 30 + 31 + 30 + 31 = _
    omega
  rw [h]
  unfold feb
  show ysum j + 365 + _ = _
  split <;> omega
/-- the day D is the d-th (from 0 on) of the k-th month (from 0 on) of the j-th year (from 1970 on) -/
structure Parts (D : Int) (j k : Nat) (d : Int) : Prop where
  hj : j ≤ 67
  hk : k ≤ 11
  h0 : 0 ≤ d
  h1 : d < mlen (1970 + (j : Int)) k
  sum : D = ysum j + msum (1970 + (j : Int)) k + d
theorem Parts.month {D : Int} {j k : Nat} {d : Int} (h : Parts D j k d) : msum (1970 + (j : Int)) k ≤ D - ysum j ∧ D - ysum j < msum (1970 + (j : Int)) (k + 1) := by
  have e : msum (1970 + (j : Int)) (k + 1) = msum (1970 + (j : Int)) k + mlen (1970 + (j : Int)) k := rfl
  have := h.sum; have := h.h0; have := h.h1
  omega
theorem Parts.year {D : Int} {j k : Nat} {d : Int} (h : Parts D j k d) : ysum j ≤ D ∧ D < ysum (j + 1) := by
  have hm := h.month
  have e := ysum_next j
  have h1 := msum_le (1970 + (j : Int)) (show k + 1 ≤ 12 by have := h.hk; omega)
  have h2 := msum_bd (1970 + (j : Int)) k (by have := h.hk; omega)
  omega
theorem Parts.one {D : Int} {j k j' k' : Nat} {d d' : Int} (h : Parts D j k d) (h' : Parts D j' k' d') : j = j' ∧ k = k' ∧ d = d' := by
  have y1 := h.year
  have y2 := h'.year
  have ej : j = j' := by
    rcases Nat.lt_trichotomy j j' with hl | he | hl
    · have := ysum_le (show j + 1 ≤ j' by omega); omega
    · exact he
    · have := ysum_le (show j' + 1 ≤ j by omega); omega
  subst ej
  have m1 := h.month
  have m2 := h'.month
  have ek : k = k' := by
    rcases Nat.lt_trichotomy k k' with hl | he | hl
    · have := msum_le (1970 + (j : Int)) (show k + 1 ≤ k' by omega); omega
    · exact he
    · have := msum_le (1970 + (j : Int)) (show k' + 1 ≤ k by omega); omega
  subst ek
  have := h.sum; have := h'.sum
  exact ⟨rfl, rfl, by omega⟩
/-- whatever day of a month is wanted, it lies ahead of the end of 2037 -/
theorem ahead (j k : Nat) (d : Int) (hj : j ≤ 67) (hk : k ≤ 11) (h1 : d ≤ 30) : ysum j + msum (1970 + (j : Int)) k + d < ysum 68 := by
  have e := ysum_next j
  have hy := ysum_le (show j + 1 ≤ 68 by omega)
  by_cases h : k = 11
  · subst h
    have e2 : msum (1970 + (j : Int)) 12 = msum (1970 + (j : Int)) 11 + 31 := rfl
    omega
  · have e1 : msum (1970 + (j : Int)) (k + 2) = msum (1970 + (j : Int)) k + mlen (1970 + (j : Int)) k + mlen (1970 + (j : Int)) (k + 1) := rfl
    have b1 := mlen_bd (1970 + (j : Int)) k (by omega)
    have b2 := mlen_bd (1970 + (j : Int)) (k + 1) (by omega)
    have := msum_le (1970 + (j : Int)) (show k + 2 ≤ 12 by omega)
    omega
end Date
end Go.Proofs.YtbcjpjhpobmpbaaGreatDoor
namespace Go.Proofs.YtbcjpjhpobmpbaaGreatDoor
open Go.Shelf
def Shelf.laysM171_ren : Go.Shelf.Ren := ⟨fun | 171 => 188 | 243 => 195 | 246 => 199 | 283 => 202 | 284 => 203 | 285 => 204 | 286 => 205 | 129 => 207 | 317 => 206 | 318 => 208 | 319 => 209 | 320 => 210 | 337 => 211 | 338 => 212 | n => n, fun | 3 => 3 | 9 => 9 | 2 => 2 | 4 => 4 | 171 => 183 | 0 => 0 | 53 => 184 | 37 => 42 | 5 => 5 | 173 => 187 | 212 => 190 | 51 => 173 | 20 => 20 | 213 => 191 | 46 => 118 | 232 => 194 | 233 => 195 | n => n, fun | 17 => 4 | 18 => 5 | 19 => 6 | n => n⟩
theorem Shelf.laysM171 : Go.Proofs.LaysM.n171 Tryz.prog Shelf.laysM171_ren := {
  mixed := by kernel_rfl
  f129 := Tryz.func207.trans (congrArg some (by kernel_rfl))
  f171 := Tryz.func188.trans (congrArg some (by kernel_rfl))
  f243 := Tryz.func195.trans (congrArg some (by kernel_rfl))
  f246 := Tryz.func199.trans (congrArg some (by kernel_rfl))
  f283 := Tryz.func202.trans (congrArg some (by kernel_rfl))
  f284 := Tryz.func203.trans (congrArg some (by kernel_rfl))
  f285 := Tryz.func204.trans (congrArg some (by kernel_rfl))
  f286 := Tryz.func205.trans (congrArg some (by kernel_rfl))
  f317 := Tryz.func206.trans (congrArg some (by kernel_rfl))
  f318 := Tryz.func208.trans (congrArg some (by kernel_rfl))
  f319 := Tryz.func209.trans (congrArg some (by kernel_rfl))
  f320 := Tryz.func210.trans (congrArg some (by kernel_rfl))
  f337 := Tryz.func211.trans (congrArg some (by kernel_rfl))
  f338 := Tryz.func212.trans (congrArg some (by kernel_rfl))
  t0 := Tryz.underlying0
  a0 := Tryz.isAgg0
  z0 := Tryz.sizeOf0
  v0 := Tryz.zeroValue0
  t2 := Tryz.underlying2
  a2 := Tryz.isAgg2
  z2 := Tryz.sizeOf2
  v2 := Tryz.zeroValue2
  t3 := Tryz.underlying3
  a3 := Tryz.isAgg3
  z3 := Tryz.sizeOf3
  v3 := Tryz.zeroValue3
  t4 := Tryz.underlying4
  a4 := Tryz.isAgg4
  z4 := Tryz.sizeOf4
  v4 := Tryz.zeroValue4
  t5 := Tryz.underlying5
  a5 := Tryz.isAgg5
  z5 := Tryz.sizeOf5
  v5 := Tryz.zeroValue5
  t9 := Tryz.underlying9
  a9 := Tryz.isAgg9
  z9 := Tryz.sizeOf9
  v9 := Tryz.zeroValue9
  t20 := Tryz.underlying20
  a20 := Tryz.isAgg20
  z20 := Tryz.sizeOf20
  v20 := Tryz.zeroValue20
  t37 := Tryz.underlying42
  a37 := Tryz.isAgg42
  z37 := Tryz.sizeOf42
  v37 := Tryz.zeroValue42
  t46 := Tryz.underlying118
  a46 := Tryz.isAgg118
  z46 := Tryz.sizeOf118
  v46 := Tryz.zeroValue118
  t51 := Tryz.underlying173
  a51 := Tryz.isAgg173
  z51 := Tryz.sizeOf173
  v51 := Tryz.zeroValue173
  t53 := Tryz.underlying184
  a53 := Tryz.isAgg184
  z53 := Tryz.sizeOf184
  v53 := Tryz.zeroValue184
  t171 := Tryz.underlying183
  a171 := Tryz.isAgg183
  z171 := Tryz.sizeOf183
  v171 := Tryz.zeroValue183
  t173 := Tryz.underlying187
  a173 := Tryz.isAgg187
  z173 := Tryz.sizeOf187
  v173 := Tryz.zeroValue187
  t212 := Tryz.underlying190
  a212 := Tryz.isAgg190
  z212 := Tryz.sizeOf190
  v212 := Tryz.zeroValue190
  t213 := Tryz.underlying191
  a213 := Tryz.isAgg191
  z213 := Tryz.sizeOf191
  t232 := Tryz.underlying194
  a232 := Tryz.isAgg194
  z232 := Tryz.sizeOf194
  v232 := Tryz.zeroValue194
  t233 := Tryz.underlying195
  a233 := Tryz.isAgg195
  z233 := Tryz.sizeOf195
  v233 := Tryz.zeroValue195
  g17 := by kernel_rfl
  g18 := by kernel_rfl
  g19 := by kernel_rfl
  i0 := by kernel_rfl
  i2 := by kernel_rfl
  i3 := by kernel_rfl
  i4 := by kernel_rfl
  i5 := by kernel_rfl
  i9 := by kernel_rfl
  i20 := by kernel_rfl
  i37 := by kernel_rfl
  i46 := by kernel_rfl
  i51 := by kernel_rfl
  i53 := by kernel_rfl
  i171 := by kernel_rfl
  i173 := by kernel_rfl
  i212 := by kernel_rfl
  i232 := by kernel_rfl
  i233 := by kernel_rfl
  m17 := by kernel_rfl
  m18 := by kernel_rfl
  m19 := by kernel_rfl }
open Go.RowKit Go.Sort Go.Lib in
theorem Shelf.strconv_Itoa (n : Int) (h0 : -9223372036854775808 ≤ n) (h1 : n ≤ 9223372036854775807) (w : World) (htab : Lib.TabIs Tryz.prog w "internal/strconv.uint64pow10" .u64 Lib.pow10Tab) :
    Calls Tryz.prog 188 #[.int .i64 n] w fun e w' => e = .returned (.string ⟨(Lib.itoa n).toArray⟩) ∧ ∃ k os, w' = grow (w.drewN k) os := Any.strconv_Itoa Shelf.laysM171 n h0 h1 w htab
end Go.Proofs.YtbcjpjhpobmpbaaGreatDoor
