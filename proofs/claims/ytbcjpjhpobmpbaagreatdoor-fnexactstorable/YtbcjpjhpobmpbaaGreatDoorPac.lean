/-
  TwoSpec: l4Two of the specification: two digits; what was there stays.
  DecNum: Plain facts on decimal digits: the digits of a number, one by one from the lowest on.
  DateText: The text of a date, plain: the year, the month and the day that a day lies in; the text.
  DateRead: A date read off its text, plain.
  AgeOne: How old an answer is, plain: its age.
  AgeNum: How old an answer is, plain: how long it may be told, and whether it is fresh.
-/
import Derived.Test.YtbcjpjhpobmpbaaGreatDoorPab
import Derived.Below
import Derived.Test.YtbcjpjhpobmpbaaGreatDoorNum
import Derived.Lib.ItoaNum
import Derived.Lib.ItoaLen
import Derived.Test.YtbcjpjhpobmpbaaGreatDoorPaa
namespace Go.Proofs.YtbcjpjhpobmpbaaGreatDoor
open Go.RowKit
set_option linter.unusedVariables false
namespace Date

/-- two digits of a number -/
def two (n : Int) : ByteArray := ⟨#[Num.byte (48 + n / 10 % 10), Num.byte (48 + n % 10)]⟩
theorem size_two (n : Int) : (two n).size = 2 := rfl
theorem conv_two (w : World) (x y : Int) (hx : 0 ≤ x) (hx2 : x < 256) (hy : 0 ≤ y) (hy2 : y < 256) :
    (convert 42 9 (.slice (some ⟨w.heap.size, 0, none⟩) 2 2)).run Tryz.prog (w.alloc (.cells #[.int .u8 x, .int .u8 y] 5)) = .ok (.string ⟨#[Num.byte x, Num.byte y]⟩) (w.alloc (.cells #[.int .u8 x, .int .u8 y] 5)) := by
  refine run_convert_bytes_back (P := Tryz.prog) (w.alloc (.cells #[.int .u8 x, .int .u8 y] 5)) 42 9 5 ⟨w.heap.size, 0, none⟩ 2 [Num.byte x, Num.byte y] Tryz.underlying42 Tryz.underlying5 Tryz.underlying9 ?_
  intro j hj
  have e1 : ((Num.byte x).toNat : Int) = x := by rw [Num.byte_val]; omega
  have e2 : ((Num.byte y).toNat : Int) = y := by rw [Num.byte_val]; omega
  match j, hj with
  | 0, _ => simp [Addr.add, e1]
  | 1, _ => simp [Addr.add, e2]
set_option maxRecDepth 100000 in
set_option maxHeartbeats 1000000 in
theorem two_spec (n : Int) (w : World) (h0 : 0 ≤ n) (h1 : n ≤ 99) : Calls Tryz.prog 104 #[.int .i64 n] w fun e w' => e = .returned (.string (two n)) ∧ Below w.heap.size w w' := by
  have hc := conv_two w (48 + n / 10 % 10) (48 + n % 10) (by omega) (by omega) (by omega) (by omega)
  go_enter Tryz.func104, Tryz.ntmps104
  go_wp2
  go_ret
  exact ⟨rfl, (Below.refl _ _).alloc (Nat.le_refl _) _⟩
end Date
end Go.Proofs.YtbcjpjhpobmpbaaGreatDoor
namespace Go.Proofs.YtbcjpjhpobmpbaaGreatDoor
open Go.RowKit
set_option linter.unusedVariables false
namespace Dec

/-- the digits of a number, none for 0 -/
def dd (u : Nat) : List UInt8 := if u = 0 then [] else Lib.decDigits u
theorem dd_zero : dd 0 = [] := rfl
theorem dd_pos (u : Nat) (h : u ≠ 0) : dd u = Lib.decDigits u := if_neg h
theorem dd_step (u : Nat) (h : u ≠ 0) : dd u = dd (u / 10) ++ [Num.byte (48 + (u % 10 : Nat))] := by
  have e : Num.byte (48 + ((u % 10 : Nat) : Int)) = UInt8.ofNat (48 + u % 10) := by
    apply UInt8.toNat_inj.1
    have hb := Num.byte_val (48 + ((u % 10 : Nat) : Int))
    rw [UInt8.toNat_ofNat']
    omega
  rw [dd_pos u h, Lib.decDigits, e]
  by_cases h10 : u < 10
  · rw [dif_pos h10, show u / 10 = 0 by omega, dd_zero, show u % 10 = u by omega]; rfl
  · rw [dif_neg h10, dd_pos (u / 10) (by omega)]
theorem length_dd (u : Nat) (h : u < 18446744073709551616) : (dd u).length ≤ 20 := by
  by_cases h0 : u = 0
  · subst h0; simp [dd_zero]
  · rw [dd_pos u h0, Lib.decDigits_length]; exact Lib.nDigits_le20 u h
theorem itoa_zero : Lib.itoa 0 = [48] := by
  have h : Lib.decDigits 0 = [48] := by rw [Lib.decDigits_one (by decide)]; rfl
  exact h
theorem itoa_pos (n : Int) (h : 0 < n) : Lib.itoa n = dd n.natAbs := by
  unfold Lib.itoa
  rw [if_neg (by omega), dd_pos _ (by omega), show n.toNat = n.natAbs by omega]
theorem itoa_neg (n : Int) (h : n < 0) : Lib.itoa n = 45 :: dd n.natAbs := by
  unfold Lib.itoa
  rw [if_pos h, dd_pos _ (by omega)]
end Dec
end Go.Proofs.YtbcjpjhpobmpbaaGreatDoor
namespace Go.Proofs.YtbcjpjhpobmpbaaGreatDoor
open Go.RowKit
set_option linter.unusedVariables false
namespace Date

/-- the year, from 1970 on, that a day lies in -/
def yearGo (D : Int) : Nat → Nat → Nat
  | 0, j => j
  | n + 1, j => if ysum (j + 1) ≤ D then yearGo D n (j + 1) else j
def yearOf (D : Int) : Nat := yearGo D 67 0
def monthGo (y : Int) (r : Int) : Nat → Nat → Nat
  | 0, k => k
  | n + 1, k => if msum y (k + 1) ≤ r then monthGo y r n (k + 1) else k
/-- the month, from 0 on, that a day of the year lies in -/
def monthOf (y : Int) (r : Int) : Nat := monthGo y r 11 0
theorem yearGo_spec (D : Int) : ∀ (n j : Nat), ysum j ≤ D → ysum (yearGo D n j) ≤ D ∧ yearGo D n j ≤ j + n ∧ (D < ysum (yearGo D n j + 1) ∨ yearGo D n j = j + n) := by
  intro n
  induction n with
  | zero => intro j h; exact ⟨h, Nat.le_refl _, .inr rfl⟩
  | succ n ih =>
    intro j h
    unfold yearGo
    by_cases hc : ysum (j + 1) ≤ D
    · rw [if_pos hc]
      have := ih (j + 1) hc
      omega
    · rw [if_neg hc]; omega
theorem monthGo_spec (y r : Int) : ∀ (n k : Nat), msum y k ≤ r → msum y (monthGo y r n k) ≤ r ∧ monthGo y r n k ≤ k + n ∧ (r < msum y (monthGo y r n k + 1) ∨ monthGo y r n k = k + n) := by
  intro n
  induction n with
  | zero => intro j h; exact ⟨h, Nat.le_refl _, .inr rfl⟩
  | succ n ih =>
    intro k h
    unfold monthGo
    by_cases hc : msum y (k + 1) ≤ r
    · rw [if_pos hc]
      have := ih (k + 1) hc
      omega
    · rw [if_neg hc]; omega
theorem ysum_succ (j : Nat) : ysum (j + 1) = ysum j + msum (1970 + (j : Int)) 12 := by
  have h : msum (1970 + (j : Int)) 12 = 337 + feb (1970 + (j : Int)) := by
    show 0 + 31 + feb (1970 + (j : Int)) + 31 + 30 + 31 + 30 + 31 + 31 + 30 + 31 + 30 + 31 = _
    omega
  rw [h]
  unfold feb
  show ysum j + 365 + _ = _
  split <;> omega
theorem ysum_67 : (24472 : Int) ≤ ysum 67 := by decide +kernel
theorem year_in (D : Int) (h0 : 0 ≤ D) (h1 : D ≤ 24471) : ysum (yearOf D) ≤ D ∧ yearOf D ≤ 66 ∧ D < ysum (yearOf D + 1) := by
  have h := yearGo_spec D 67 0 h0
  have h67 := ysum_67
  unfold yearOf
  rcases h with ⟨h2, h3, h4 | h4⟩
  · refine ⟨h2, ?_, h4⟩
    by_cases e : yearGo D 67 0 = 67
    · rw [e] at h2; omega
    · omega
  · rw [h4] at h2
    simp only [Nat.zero_add] at h2
    omega
theorem month_in (j : Nat) (r : Int) (h0 : 0 ≤ r) (h1 : r < msum (1970 + (j : Int)) 12) : msum (1970 + (j : Int)) (monthOf (1970 + (j : Int)) r) ≤ r ∧ monthOf (1970 + (j : Int)) r ≤ 11 ∧ r < msum (1970 + (j : Int)) (monthOf (1970 + (j : Int)) r + 1) := by
  have h := monthGo_spec (1970 + (j : Int)) r 11 0 h0
  unfold monthOf
  rcases h with ⟨h2, h3, h4 | h4⟩
  · exact ⟨h2, by omega, h4⟩
  · refine ⟨h2, by omega, ?_⟩
    rw [h4]; exact h1
/-- the day's year (from 1970 on), month (from 0 on) and day (from 0 on) -/
def yr (D : Int) : Nat := yearOf D
def mo (D : Int) : Nat := monthOf (1970 + (yr D : Int)) (D - ysum (yr D))
def dy (D : Int) : Int := D - ysum (yr D) - msum (1970 + (yr D : Int)) (mo D)
theorem parts_in (D : Int) (h0 : 0 ≤ D) (h1 : D ≤ 24471) : yr D ≤ 66 ∧ mo D ≤ 11 ∧ 0 ≤ dy D ∧ dy D < mlen (1970 + (yr D : Int)) (mo D) ∧ ysum (yr D) ≤ D ∧ D - ysum (yr D) < msum (1970 + (yr D : Int)) 12 := by
  have hy := year_in D h0 h1
  have hs := ysum_succ (yearOf D)
  have hm := month_in (yr D) (D - ysum (yr D)) (by unfold yr; omega) (by unfold yr; omega)
  have hm2 : msum (1970 + (yr D : Int)) (mo D + 1) = msum (1970 + (yr D : Int)) (mo D) + mlen (1970 + (yr D : Int)) (mo D) := rfl
  unfold dy
  refine ⟨hy.2.1, hm.2.1, ?_, ?_, hy.1, ?_⟩
  · have := hm.1; unfold mo; omega
  · have := hm.2.2; unfold mo at hm2 ⊢; omega
  · unfold yr; omega
theorem days_parts (j k : Nat) (d : Int) (hj : j ≤ 67) (hk : k ≤ 11) (h0 : 0 ≤ d) (h1 : d < mlen (1970 + (j : Int)) k) : days (1970 + (j : Int)) ((k : Int) + 1) (d + 1) = d + ysum j + msum (1970 + (j : Int)) k := by
  rw [days_in ⟨by omega, by omega, by omega, by rw [show ((k : Int) + 1 - 1).toNat = k by omega]; omega⟩]
  rw [show ((k : Int) + 1 - 1).toNat = k by omega, show (1970 + (j : Int) - 1970).toNat = j by omega]
  omega
/-- the days of the week, from the first of January 1970 on, and the months -/
def weeks : List ByteArray := [⟨#[84, 104, 117]⟩, ⟨#[70, 114, 105]⟩, ⟨#[83, 97, 116]⟩, ⟨#[83, 117, 110]⟩, ⟨#[77, 111, 110]⟩, ⟨#[84, 117, 101]⟩, ⟨#[87, 101, 100]⟩]
def names : List ByteArray := [⟨#[74, 97, 110]⟩, ⟨#[70, 101, 98]⟩, ⟨#[77, 97, 114]⟩, ⟨#[65, 112, 114]⟩, ⟨#[77, 97, 121]⟩, ⟨#[74, 117, 110]⟩, ⟨#[74, 117, 108]⟩, ⟨#[65, 117, 103]⟩, ⟨#[83, 101, 112]⟩, ⟨#[79, 99, 116]⟩, ⟨#[78, 111, 118]⟩, ⟨#[68, 101, 99]⟩]
def week (k : Nat) : ByteArray := weeks.getD k ⟨#[]⟩
def name (k : Nat) : ByteArray := names.getD k ⟨#[]⟩
def dec (n : Int) : ByteArray := ⟨(Lib.itoa n).toArray⟩
/-- the text of a date -/
def text (n : Int) : ByteArray :=
  week (n / 86400 % 7).toNat ++ ⟨#[44, 32]⟩ ++ two (dy (n / 86400) + 1) ++ ⟨#[32]⟩ ++ name (mo (n / 86400)) ++ ⟨#[32]⟩ ++ dec (1970 + (yr (n / 86400) : Int)) ++ ⟨#[32]⟩ ++ two (n / 3600 % 24) ++ ⟨#[58]⟩ ++ two (n / 60 % 60) ++ ⟨#[58]⟩ ++ two (n % 60) ++ ⟨#[32, 71, 77, 84]⟩
def shown (n : Int) : ByteArray := if 0 ≤ n ∧ n ≤ 2000000000 then text n else ⟨#[]⟩
theorem week_size (k : Nat) (h : k < 7) : (week k).size = 3 := by
  have : ∀ k, k < 7 → (week k).size = 3 := by decide
  exact this k h
theorem name_size (k : Nat) (h : k < 12) : (name k).size = 3 := by
  have : ∀ k, k < 12 → (name k).size = 3 := by decide
  exact this k h
end Date
end Go.Proofs.YtbcjpjhpobmpbaaGreatDoor
namespace Go.Proofs.YtbcjpjhpobmpbaaGreatDoor
open Go.RowKit
set_option linter.unusedVariables false
namespace Date
open Line (byteAt byteAt_eq)

/-- the number of n digits from i on, behind x; -1 where they are none -/
def numGo (s : ByteArray) : Nat → Nat → Int → Int
  | 0, _, x => x
  | n + 1, i, x => if 48 ≤ byteAt s i ∧ byteAt s i ≤ 57 then numGo s n (i + 1) (x * 10 + ((byteAt s i : Int) - 48)) else -1
def numAt (s : ByteArray) (a n : Nat) : Int := numGo s n a 0
theorem numGo_bd (s : ByteArray) : ∀ (n i : Nat) (x : Int), 0 ≤ x → x ≤ 9999 → n ≤ 4 → -1 ≤ numGo s n i x ∧ numGo s n i x ≤ (x + 1) * 10000 := by
  have key : ∀ (n i : Nat) (x : Int), 0 ≤ x → -1 ≤ numGo s n i x ∧ numGo s n i x ≤ (x + 1) * 10 ^ n - 1 := by
    intro n
    induction n with
    | zero => intro i x h; simp only [numGo]; omega
    | succ n ih =>
      intro i x h
      unfold numGo
      split
      · next hc =>
        have := ih (i + 1) (x * 10 + ((byteAt s i : Int) - 48)) (by omega)
        refine ⟨this.1, Int.le_trans this.2 ?_⟩
        have h1 : (x * 10 + ((byteAt s i : Int) - 48) + 1) * 10 ^ n ≤ ((x + 1) * 10) * 10 ^ n := Int.mul_le_mul_of_nonneg_right (by omega) (Int.pow_nonneg (by omega))
        have h2 : ((x + 1) * 10) * (10 : Int) ^ n = (x + 1) * 10 ^ (n + 1) := by rw [Int.pow_succ, Int.mul_assoc, Int.mul_comm 10]
        omega
      · refine ⟨by omega, ?_⟩
        have : (0 : Int) ≤ (x + 1) * 10 ^ (n + 1) - 1 - (-1) := by
          have hpn : (0 : Int) ≤ 10 ^ (n + 1) := Int.pow_nonneg (by omega)
          have := Int.mul_nonneg (show (0 : Int) ≤ x + 1 by omega) hpn
          omega
        omega
  intro n i x h0 h1 hn
  have := key n i x h0
  refine ⟨this.1, Int.le_trans this.2 ?_⟩
  have hp : (10 : Int) ^ n ≤ 10000 := by
    match n, hn with
    | 0, _ => decide
    | 1, _ => decide
    | 2, _ => decide
    | 3, _ => decide
    | 4, _ => decide
  have := Int.mul_le_mul_of_nonneg_left hp (show (0 : Int) ≤ x + 1 by omega)
  omega
/-- the last of the first n months whose name stands there, from 1 on; 0 where there is none -/
def monGo (t : ByteArray) : Nat → Int
  | 0 => 0
  | k + 1 => if t = name k then (k : Int) + 1 else monGo t k
def mon (s : ByteArray) : Int := monGo (s.extract 8 11) 12
/-- what is reckoned off a text: the days, hours, minutes and seconds -/
def dayOf (s : ByteArray) : Int := days (numAt s 12 4) (mon s) (numAt s 5 2)
def secOf (s : ByteArray) : Int := dayOf s * 86400 + numAt s 17 2 * 3600 + numAt s 20 2 * 60 + numAt s 23 2
/-- the date of a text -/
def read (s : ByteArray) : Option Int :=
  if s.size = 29 then
    if dayOf s < 0 ∨ numAt s 17 2 < 0 ∨ numAt s 20 2 < 0 ∨ numAt s 23 2 < 0 then none
    else if shown (secOf s) = s then some (secOf s) else none
  else none
theorem read_shown {s : ByteArray} {n : Int} (h : read s = some n) : shown n = s ∧ s.size = 29 := by
  unfold read at h
  split at h
  · next h29 =>
    split at h
    · cases h
    · split at h
      · next hs => cases h; exact ⟨hs, h29⟩
      · cases h
  · cases h
theorem week_form (k : Nat) (h : k < 7) : ∃ a b c, week k = ⟨#[a, b, c]⟩ := by
  match k, h with
  | 0, _ => exact ⟨_, _, _, rfl⟩
  | 1, _ => exact ⟨_, _, _, rfl⟩
  | 2, _ => exact ⟨_, _, _, rfl⟩
  | 3, _ => exact ⟨_, _, _, rfl⟩
  | 4, _ => exact ⟨_, _, _, rfl⟩
  | 5, _ => exact ⟨_, _, _, rfl⟩
  | 6, _ => exact ⟨_, _, _, rfl⟩
theorem name_form (k : Nat) (h : k < 12) : ∃ a b c, name k = ⟨#[a, b, c]⟩ := by
  match k, h with
  | 0, _ => exact ⟨_, _, _, rfl⟩
  | 1, _ => exact ⟨_, _, _, rfl⟩
  | 2, _ => exact ⟨_, _, _, rfl⟩
  | 3, _ => exact ⟨_, _, _, rfl⟩
  | 4, _ => exact ⟨_, _, _, rfl⟩
  | 5, _ => exact ⟨_, _, _, rfl⟩
  | 6, _ => exact ⟨_, _, _, rfl⟩
  | 7, _ => exact ⟨_, _, _, rfl⟩
  | 8, _ => exact ⟨_, _, _, rfl⟩
  | 9, _ => exact ⟨_, _, _, rfl⟩
  | 10, _ => exact ⟨_, _, _, rfl⟩
  | 11, _ => exact ⟨_, _, _, rfl⟩
/-- the four digits of a year -/
def four (y : Int) : ByteArray := ⟨#[Num.byte (48 + y / 1000 % 10), Num.byte (48 + y / 100 % 10), Num.byte (48 + y / 10 % 10), Num.byte (48 + y % 10)]⟩
theorem dec_four (j : Nat) (h : j ≤ 67) : dec (1970 + (j : Int)) = four (1970 + (j : Int)) := by
  have key : ∀ j : Nat, j < 68 → (dec (1970 + (j : Int))).data.toList = (four (1970 + (j : Int))).data.toList := by decide +kernel
  exact ByteArray.ext (Array.toList_inj.1 (key j (by omega)))
theorem dig_val (x : Int) (h0 : 0 ≤ x) (h1 : x ≤ 9) : (Num.byte (48 + x)).toNat = (48 + x).toNat := by
  have := Num.byte_val (48 + x)
  omega
/-- the names differ -/
theorem name_inj (i j : Nat) (hi : i < 12) (hj : j < 12) (h : name i = name j) : i = j := by
  have key : ∀ i, i < 12 → ∀ j, j < 12 → (name i).data.toList = (name j).data.toList → i = j := by decide
  exact key i hi j hj (by rw [h])
theorem monGo_name (k : Nat) (hk : k < 12) : ∀ n, n ≤ 12 → monGo (name k) n = if k < n then (k : Int) + 1 else 0 := by
  intro n
  induction n with
  | zero => intro _; rfl
  | succ n ih =>
    intro hn
    unfold monGo
    by_cases e : name k = name n
    · obtain rfl := name_inj k n hk (by omega) e
      rw [if_pos rfl, if_pos (by omega)]
    · rw [if_neg e, ih (by omega)]
      have : k ≠ n := fun h => e (by rw [h])
      by_cases hkn : k < n
      · rw [if_pos hkn, if_pos (by omega)]
      · rw [if_neg hkn, if_neg (by omega)]
theorem num_two {s : ByteArray} {a : Nat} {x y : Int} (hx : byteAt s a = (48 + x).toNat) (hy : byteAt s (a + 1) = (48 + y).toNat) (h0 : 0 ≤ x) (h1 : x ≤ 9) (h2 : 0 ≤ y) (h3 : y ≤ 9) : numAt s a 2 = 10 * x + y := by
  unfold numAt
  rw [numGo, if_pos (by omega), numGo, if_pos (by omega), numGo]
  omega
theorem num_four {s : ByteArray} {a : Nat} {x y z u : Int} (hx : byteAt s a = (48 + x).toNat) (hy : byteAt s (a + 1) = (48 + y).toNat) (hz : byteAt s (a + 1 + 1) = (48 + z).toNat) (hu : byteAt s (a + 1 + 1 + 1) = (48 + u).toNat)
    (h0 : 0 ≤ x) (h1 : x ≤ 9) (h2 : 0 ≤ y) (h3 : y ≤ 9) (h4 : 0 ≤ z) (h5 : z ≤ 9) (h6 : 0 ≤ u) (h7 : u ≤ 9) : numAt s a 4 = 1000 * x + 100 * y + 10 * z + u := by
  unfold numAt
  rw [numGo, if_pos (by omega), numGo, if_pos (by omega), numGo, if_pos (by omega), numGo, if_pos (by omega), numGo]
  omega
/-- the 29 bytes of a date -/
theorem text_form (n : Int) (h0 : 0 ≤ n) (h1 : n ≤ 2000000000) : ∃ a b c p q r, name (mo (n / 86400)) = ⟨#[p, q, r]⟩ ∧ text n =
    ⟨#[a, b, c, 44, 32, Num.byte (48 + (dy (n / 86400) + 1) / 10 % 10), Num.byte (48 + (dy (n / 86400) + 1) % 10), 32, p, q, r, 32,
      Num.byte (48 + (1970 + (yr (n / 86400) : Int)) / 1000 % 10), Num.byte (48 + (1970 + (yr (n / 86400) : Int)) / 100 % 10), Num.byte (48 + (1970 + (yr (n / 86400) : Int)) / 10 % 10), Num.byte (48 + (1970 + (yr (n / 86400) : Int)) % 10), 32,
      Num.byte (48 + n / 3600 % 24 / 10 % 10), Num.byte (48 + n / 3600 % 24 % 10), 58, Num.byte (48 + n / 60 % 60 / 10 % 10), Num.byte (48 + n / 60 % 60 % 10), 58, Num.byte (48 + n % 60 / 10 % 10), Num.byte (48 + n % 60 % 10), 32, 71, 77, 84]⟩ := by
  have hp := parts_in (n / 86400) (by omega) (by omega)
  obtain ⟨a, b, c, hw⟩ := week_form (n / 86400 % 7).toNat (by omega)
  obtain ⟨p, q, r, hn⟩ := name_form (mo (n / 86400)) (by omega)
  refine ⟨a, b, c, p, q, r, hn, ?_⟩
  unfold text
  rw [hw, hn, dec_four _ (by omega)]
  unfold two four
  rfl
theorem read_text (n : Int) (h0 : 0 ≤ n) (h1 : n ≤ 2000000000) : read (text n) = some n := by
  have hp := parts_in (n / 86400) (by omega) (by omega)
  obtain ⟨p1, p2, p3, p4, p5, p6⟩ := hp
  have hml := mlen_bd (1970 + (yr (n / 86400) : Int)) (mo (n / 86400)) (by omega)
  have hsh : shown n = text n := if_pos ⟨h0, h1⟩
  obtain ⟨a, b, c, p, q, r, hn, ht⟩ := text_form n h0 h1
  have e29 : (text n).size = 29 := by rw [ht]; rfl
  have ed : numAt (text n) 5 2 = dy (n / 86400) + 1 := by
    rw [num_two (a := 5) (x := (dy (n / 86400) + 1) / 10 % 10) (y := (dy (n / 86400) + 1) % 10) (by rw [ht]; exact dig_val _ (by omega) (by omega)) (by rw [ht]; exact dig_val _ (by omega) (by omega)) (by omega) (by omega) (by omega) (by omega)]
    omega
  have ey : numAt (text n) 12 4 = 1970 + (yr (n / 86400) : Int) := by
    rw [num_four (a := 12) (x := (1970 + (yr (n / 86400) : Int)) / 1000 % 10) (y := (1970 + (yr (n / 86400) : Int)) / 100 % 10) (z := (1970 + (yr (n / 86400) : Int)) / 10 % 10) (u := (1970 + (yr (n / 86400) : Int)) % 10)
      (by rw [ht]; exact dig_val _ (by omega) (by omega)) (by rw [ht]; exact dig_val _ (by omega) (by omega)) (by rw [ht]; exact dig_val _ (by omega) (by omega)) (by rw [ht]; exact dig_val _ (by omega) (by omega)) (by omega) (by omega) (by omega) (by omega) (by omega) (by omega) (by omega) (by omega)]
    omega
  have eh : numAt (text n) 17 2 = n / 3600 % 24 := by
    rw [num_two (a := 17) (x := n / 3600 % 24 / 10 % 10) (y := n / 3600 % 24 % 10) (by rw [ht]; exact dig_val _ (by omega) (by omega)) (by rw [ht]; exact dig_val _ (by omega) (by omega)) (by omega) (by omega) (by omega) (by omega)]
    omega
  have em : numAt (text n) 20 2 = n / 60 % 60 := by
    rw [num_two (a := 20) (x := n / 60 % 60 / 10 % 10) (y := n / 60 % 60 % 10) (by rw [ht]; exact dig_val _ (by omega) (by omega)) (by rw [ht]; exact dig_val _ (by omega) (by omega)) (by omega) (by omega) (by omega) (by omega)]
    omega
  have es : numAt (text n) 23 2 = n % 60 := by
    rw [num_two (a := 23) (x := n % 60 / 10 % 10) (y := n % 60 % 10) (by rw [ht]; exact dig_val _ (by omega) (by omega)) (by rw [ht]; exact dig_val _ (by omega) (by omega)) (by omega) (by omega) (by omega) (by omega)]
    omega
  have eo : mon (text n) = (mo (n / 86400) : Int) + 1 := by
    unfold mon
    have e : (text n).extract 8 11 = name (mo (n / 86400)) := by rw [ht, hn]; rfl
    rw [e, monGo_name _ (by omega) 12 (by omega), if_pos (by omega)]
  have edy : dayOf (text n) = n / 86400 := by
    unfold dayOf
    rw [ed, ey, eo, days_parts _ _ _ (by omega) (by omega) p3 p4]
    unfold dy
    omega
  have ese : secOf (text n) = n := by
    unfold secOf
    rw [edy, eh, em, es]
    omega
  unfold read
  rw [if_pos e29, if_neg (by rw [edy, eh, em, es]; omega), ese, if_pos hsh]
/-- there is one date of a text at most -/
theorem text_inj {n m : Int} (h0 : 0 ≤ n) (h1 : n ≤ 2000000000) (h2 : 0 ≤ m) (h3 : m ≤ 2000000000) (h : text n = text m) : n = m := by
  have e := read_text n h0 h1
  rw [h, read_text m h2 h3] at e
  exact (Option.some.inj e).symm
theorem text_size (n : Int) (h0 : 0 ≤ n) (h1 : n ≤ 2000000000) : (text n).size = 29 := by
  obtain ⟨a, b, c, p, q, r, hn, ht⟩ := text_form n h0 h1
  rw [ht]; rfl
/-- what is read is what is shown as it, and nothing else -/
theorem read_iff (s : ByteArray) (n : Int) : read s = some n ↔ (0 ≤ n ∧ n ≤ 2000000000) ∧ text n = s := by
  constructor
  · intro h
    obtain ⟨h1, h2⟩ := read_shown h
    unfold shown at h1
    split at h1
    · next hr => exact ⟨hr, h1⟩
    · subst h1; cases h2
  · rintro ⟨⟨h0, h1⟩, rfl⟩
    exact read_text n h0 h1
def readN (s : ByteArray) : Int := (read s).getD 0
def readB (s : ByteArray) : Bool := (read s).isSome
end Date
end Go.Proofs.YtbcjpjhpobmpbaaGreatDoor
namespace Go.Proofs.YtbcjpjhpobmpbaaGreatDoor
open Go.RowKit
set_option linter.unusedVariables false
namespace Age
open Flds (Fld)

theorem secs_bd (s : ByteArray) : 0 ≤ (Sign.secs s).1 ∧ (Sign.secs s).1 ≤ 2147483648 := by
  unfold Sign.secs
  split
  · next h => exact Sign.sec_bd _ h.2
  · exact ⟨Int.le_refl _, by decide⟩
/-- the date of a field -/
def dateOf (l : List Fld) (name : ByteArray) : Int × Bool := if (Flds.get l name).2 = true then (Date.readN (Flds.get l name).1, Date.readB (Flds.get l name).1) else (0, false)
theorem readN_bd (s : ByteArray) : 0 ≤ Date.readN s ∧ Date.readN s ≤ 2000000000 := by
  unfold Date.readN
  cases h : Date.read s with
  | none => exact ⟨by decide, by decide⟩
  | some n => exact ((Date.read_iff s n).1 h).1
theorem dateOf_bd (l : List Fld) (name : ByteArray) : 0 ≤ (dateOf l name).1 ∧ (dateOf l name).1 ≤ 2000000000 := by
  unfold dateOf
  split
  · exact readN_bd _
  · exact ⟨by decide, by decide⟩
def sMaxAge : ByteArray := ⟨#[115, 45, 109, 97, 120, 97, 103, 101]⟩
def maxAge : ByteArray := ⟨#[109, 97, 120, 45, 97, 103, 101]⟩
def dateName : ByteArray := ⟨#[100, 97, 116, 101]⟩
def expiresName : ByteArray := ⟨#[101, 120, 112, 105, 114, 101, 115]⟩
def lastName : ByteArray := ⟨#[108, 97, 115, 116, 45, 109, 111, 100, 105, 102, 105, 101, 100]⟩
def ageName : ByteArray := ⟨#[97, 103, 101]⟩
/-- how much later it came than its date -/
def apparent (l : List Fld) (came : Int) : Int := if (dateOf l dateName).2 = true ∧ (dateOf l dateName).1 < came then min (came - (dateOf l dateName).1) 2147483648 else 0
/-- how long it was under way -/
def delay (asked came : Int) : Int := if asked < came ∧ 0 ≤ asked then came - asked else 0
def told (l : List Fld) : Int := (Sign.secs (Flds.get l ageName).1).1
def firstAge (l : List Fld) (asked came : Int) : Int := max (apparent l came) (satAdd (told l) (delay asked came))
theorem firstAge_bd (l : List Fld) (asked came : Int) : 0 ≤ firstAge l asked came ∧ firstAge l asked came ≤ 2147483648 := by
  have h1 := satAdd_bd (told l) (delay asked came)
  have h2 : 0 ≤ apparent l came ∧ apparent l came ≤ 2147483648 := by unfold apparent; split <;> omega
  unfold firstAge
  omega
/-- how long it has been here -/
def here (came now : Int) : Int := if came < now ∧ 0 ≤ came then now - came else 0
def ageAt (l : List Fld) (asked came now : Int) : Int := satAdd (firstAge l asked came) (here came now)
theorem ageAt_bd (l : List Fld) (asked came now : Int) : 0 ≤ ageAt l asked came now ∧ ageAt l asked came now ≤ 2147483648 := satAdd_bd _ _
/-- an age grows by one each second, up to the bound -/
theorem age_next (l : List Fld) (asked came now : Int) : ageAt l asked came now ≤ ageAt l asked came (now + 1) ∧ ageAt l asked came (now + 1) ≤ ageAt l asked came now + 1 := by
  have h := firstAge_bd l asked came
  unfold ageAt satAdd here clamp
  split <;> split <;> omega
theorem age_later (l : List Fld) (asked came now k : Int) (hk : 0 ≤ k) : ageAt l asked came now ≤ ageAt l asked came (now + k) := by
  have h := firstAge_bd l asked came
  unfold ageAt satAdd here clamp
  split <;> split <;> omega
theorem age_step (l : List Fld) (asked came now : Int) (hc : 0 ≤ came) (hn : came ≤ now) : ageAt l asked came (now + 1) = min (ageAt l asked came now + 1) 2147483648 := by
  have h := firstAge_bd l asked came
  unfold ageAt satAdd here clamp
  split <;> split <;> omega
theorem age_first (l : List Fld) (asked came now : Int) : firstAge l asked came ≤ ageAt l asked came now := by
  have h := firstAge_bd l asked came
  unfold ageAt satAdd here clamp
  split <;> omega
end Age
end Go.Proofs.YtbcjpjhpobmpbaaGreatDoor
namespace Go.Proofs.YtbcjpjhpobmpbaaGreatDoor
open Go.RowKit
set_option linter.unusedVariables false
namespace Age
open Flds (Fld)

/-- how long it may be told -/
def lifetime (l : List Fld) : Int :=
  if (Cc.sec (Cc.dirs l) sMaxAge).2 = true then (Cc.sec (Cc.dirs l) sMaxAge).1
  else if (Cc.sec (Cc.dirs l) maxAge).2 = true then (Cc.sec (Cc.dirs l) maxAge).1
  else if (Flds.get l expiresName).2 = true then
    (if (dateOf l expiresName).2 = true ∧ (dateOf l dateName).2 = true then max 0 ((dateOf l expiresName).1 - (dateOf l dateName).1) else 0)
  else if (dateOf l dateName).2 = true ∧ (dateOf l lastName).2 = true then max 0 ((dateOf l dateName).1 - (dateOf l lastName).1) / 10
  else 0
theorem sec_bd (d : List Fld) (name : ByteArray) : 0 ≤ (Cc.sec d name).1 ∧ (Cc.sec d name).1 ≤ 2147483648 := by
  unfold Cc.sec
  cases h : Cc.least d name with
  | none => exact ⟨Int.le_refl _, by decide⟩
  | some c => exact Cc.least_bd d name c h
theorem lifetime_bd (l : List Fld) : 0 ≤ lifetime l ∧ lifetime l ≤ 2147483648 := by
  have h1 := sec_bd (Cc.dirs l) sMaxAge
  have h2 := sec_bd (Cc.dirs l) maxAge
  have h3 := dateOf_bd l expiresName
  have h4 := dateOf_bd l dateName
  have h5 := dateOf_bd l lastName
  unfold lifetime
  split
  · exact h1
  · split
    · exact h2
    · split
      · split <;> omega
      · split <;> omega
def isFresh (l : List Fld) (asked came now : Int) : Bool := decide (ageAt l asked came now < lifetime l)
theorem fresh_once (l : List Fld) (asked came now k : Int) (hk : 0 ≤ k) (h : isFresh l asked came (now + k) = true) : isFresh l asked came now = true := by
  unfold isFresh at *
  have h1 := of_decide_eq_true h
  have h2 := age_later l asked came now k hk
  exact decide_eq_true (by omega)
end Age
end Go.Proofs.YtbcjpjhpobmpbaaGreatDoor
