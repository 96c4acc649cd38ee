/-
  A date read off its text, plain.
-/
import Derived.Test.YtkogcbnbmdeolaaDoorDateText
import Derived.Test.YtkogcbnbmdeolaaDoorByteAt
namespace Go.Proofs.YtkogcbnbmdeolaaDoor
open Go.RowKit
set_option linter.unusedVariables false
namespace Date
open Line (byteAt byteAt_eq)

/-- the number of n digits from i on, behind x; -1 where they are none -/
def numGo (s : ByteArray) : Nat → Nat → Int → Int
  | 0, _, x => x
  | n + 1, i, x => if 48 ≤ byteAt s i ∧ byteAt s i ≤ 57 then numGo s n (i + 1) (x * 10 + ((byteAt s i : Int) - 48)) else -1
def numAt (s : ByteArray) (a n : Nat) : Int := numGo s n a 0
theorem numGo_bd (s : ByteArray) : ∀ (n i : Nat) (x : Int), 0 ≤ x → x ≤ 9999 → n ≤ 4 → -1 ≤ numGo s n i x ∧ numGo s n i x ≤ (x + 1) * 10000 := by
  have key : ∀ (n i : Nat) (x : Int), 0 ≤ x → -1 ≤ numGo s n i x ∧ numGo s n i x ≤ (x + 1) * 10 ^ n - 1 := by
    intro n
    induction n with
    | zero => intro i x h; simp only [numGo]; omega
    | succ n ih =>
      intro i x h
      unfold numGo
      split
      · next hc =>
        have := ih (i + 1) (x * 10 + ((byteAt s i : Int) - 48)) (by omega)
        refine ⟨this.1, Int.le_trans this.2 ?_⟩
        have h1 : (x * 10 + ((byteAt s i : Int) - 48) + 1) * 10 ^ n ≤ ((x + 1) * 10) * 10 ^ n := Int.mul_le_mul_of_nonneg_right (by omega) (Int.pow_nonneg (by omega))
        have h2 : ((x + 1) * 10) * (10 : Int) ^ n = (x + 1) * 10 ^ (n + 1) := by rw [Int.pow_succ, Int.mul_assoc, Int.mul_comm 10]
        omega
      · refine ⟨by omega, ?_⟩
        have : (0 : Int) ≤ (x + 1) * 10 ^ (n + 1) - 1 - (-1) := by
          have hpn : (0 : Int) ≤ 10 ^ (n + 1) := Int.pow_nonneg (by omega)
          have := Int.mul_nonneg (show (0 : Int) ≤ x + 1 by omega) hpn
          omega
        omega
  intro n i x h0 h1 hn
  have := key n i x h0
  refine ⟨this.1, Int.le_trans this.2 ?_⟩
  have hp : (10 : Int) ^ n ≤ 10000 := by
    match n, hn with
    | 0, _ => decide
    | 1, _ => decide
    | 2, _ => decide
    | 3, _ => decide
    | 4, _ => decide
  have := Int.mul_le_mul_of_nonneg_left hp (show (0 : Int) ≤ x + 1 by omega)
  omega
/-- the last of the first n months whose name stands there, from 1 on; 0 where there is none -/
def monGo (t : ByteArray) : Nat → Int
  | 0 => 0
  | k + 1 => if t = name k then (k : Int) + 1 else monGo t k
def mon (s : ByteArray) : Int := monGo (s.extract 8 11) 12
/-- what is reckoned off a text: the days, hours, minutes and seconds -/
def dayOf (s : ByteArray) : Int := days (numAt s 12 4) (mon s) (numAt s 5 2)
def secOf (s : ByteArray) : Int := dayOf s * 86400 + numAt s 17 2 * 3600 + numAt s 20 2 * 60 + numAt s 23 2
/-- the date of a text -/
def read (s : ByteArray) : Option Int :=
  if s.size = 29 then
    if dayOf s < 0 ∨ numAt s 17 2 < 0 ∨ numAt s 20 2 < 0 ∨ numAt s 23 2 < 0 then none
    else if shown (secOf s) = s then some (secOf s) else none
  else none
theorem read_shown {s : ByteArray} {n : Int} (h : read s = some n) : shown n = s ∧ s.size = 29 := by
  unfold read at h
  split at h
  · next h29 =>
    split at h
    · cases h
    · split at h
      · next hs => cases h; exact ⟨hs, h29⟩
      · cases h
  · cases h
theorem week_form (k : Nat) (h : k < 7) : ∃ a b c, week k = ⟨#[a, b, c]⟩ := by
  match k, h with
  | 0, _ => exact ⟨_, _, _, rfl⟩
  | 1, _ => exact ⟨_, _, _, rfl⟩
  | 2, _ => exact ⟨_, _, _, rfl⟩
  | 3, _ => exact ⟨_, _, _, rfl⟩
  | 4, _ => exact ⟨_, _, _, rfl⟩
  | 5, _ => exact ⟨_, _, _, rfl⟩
  | 6, _ => exact ⟨_, _, _, rfl⟩
theorem name_form (k : Nat) (h : k < 12) : ∃ a b c, name k = ⟨#[a, b, c]⟩ := by
  match k, h with
  | 0, _ => exact ⟨_, _, _, rfl⟩
  | 1, _ => exact ⟨_, _, _, rfl⟩
  | 2, _ => exact ⟨_, _, _, rfl⟩
  | 3, _ => exact ⟨_, _, _, rfl⟩
  | 4, _ => exact ⟨_, _, _, rfl⟩
  | 5, _ => exact ⟨_, _, _, rfl⟩
  | 6, _ => exact ⟨_, _, _, rfl⟩
  | 7, _ => exact ⟨_, _, _, rfl⟩
  | 8, _ => exact ⟨_, _, _, rfl⟩
  | 9, _ => exact ⟨_, _, _, rfl⟩
  | 10, _ => exact ⟨_, _, _, rfl⟩
  | 11, _ => exact ⟨_, _, _, rfl⟩
/-- the four digits of a year -/
def four (y : Int) : ByteArray := ⟨#[Num.byte (48 + y / 1000 % 10), Num.byte (48 + y / 100 % 10), Num.byte (48 + y / 10 % 10), Num.byte (48 + y % 10)]⟩
theorem dec_four (j : Nat) (h : j ≤ 67) : dec (1970 + (j : Int)) = four (1970 + (j : Int)) := by
  have key : ∀ j : Nat, j < 68 → (dec (1970 + (j : Int))).data.toList = (four (1970 + (j : Int))).data.toList := by decide +kernel
  exact ByteArray.ext (Array.toList_inj.1 (key j (by omega)))
theorem dig_val (x : Int) (h0 : 0 ≤ x) (h1 : x ≤ 9) : (Num.byte (48 + x)).toNat = (48 + x).toNat := by
  have := Num.byte_val (48 + x)
  omega
/-- the names differ -/
theorem name_inj (i j : Nat) (hi : i < 12) (hj : j < 12) (h : name i = name j) : i = j := by
  have key : ∀ i, i < 12 → ∀ j, j < 12 → (name i).data.toList = (name j).data.toList → i = j := by decide
  exact key i hi j hj (by rw [h])
theorem monGo_name (k : Nat) (hk : k < 12) : ∀ n, n ≤ 12 → monGo (name k) n = if k < n then (k : Int) + 1 else 0 := by
  intro n
  induction n with
  | zero => intro _; rfl
  | succ n ih =>
    intro hn
    unfold monGo
    by_cases e : name k = name n
    · obtain rfl := name_inj k n hk (by omega) e
      rw [if_pos rfl, if_pos (by omega)]
    · rw [if_neg e, ih (by omega)]
      have : k ≠ n := fun h => e (by rw [h])
      by_cases hkn : k < n
      · rw [if_pos hkn, if_pos (by omega)]
      · rw [if_neg hkn, if_neg (by omega)]
theorem num_two {s : ByteArray} {a : Nat} {x y : Int} (hx : byteAt s a = (48 + x).toNat) (hy : byteAt s (a + 1) = (48 + y).toNat) (h0 : 0 ≤ x) (h1 : x ≤ 9) (h2 : 0 ≤ y) (h3 : y ≤ 9) : numAt s a 2 = 10 * x + y := by
  unfold numAt
  rw [numGo, if_pos (by omega), numGo, if_pos (by omega), numGo]
  omega
theorem num_four {s : ByteArray} {a : Nat} {x y z u : Int} (hx : byteAt s a = (48 + x).toNat) (hy : byteAt s (a + 1) = (48 + y).toNat) (hz : byteAt s (a + 1 + 1) = (48 + z).toNat) (hu : byteAt s (a + 1 + 1 + 1) = (48 + u).toNat)
    (h0 : 0 ≤ x) (h1 : x ≤ 9) (h2 : 0 ≤ y) (h3 : y ≤ 9) (h4 : 0 ≤ z) (h5 : z ≤ 9) (h6 : 0 ≤ u) (h7 : u ≤ 9) : numAt s a 4 = 1000 * x + 100 * y + 10 * z + u := by
  unfold numAt
  rw [numGo, if_pos (by omega), numGo, if_pos (by omega), numGo, if_pos (by omega), numGo, if_pos (by omega), numGo]
  omega
/-- the 29 bytes of a date -/
theorem text_form (n : Int) (h0 : 0 ≤ n) (h1 : n ≤ 2000000000) : ∃ a b c p q r, name (mo (n / 86400)) = ⟨#[p, q, r]⟩ ∧ text n =
    ⟨#[a, b, c, 44, 32, Num.byte (48 + (dy (n / 86400) + 1) / 10 % 10), Num.byte (48 + (dy (n / 86400) + 1) % 10), 32, p, q, r, 32,
      Num.byte (48 + (1970 + (yr (n / 86400) : Int)) / 1000 % 10), Num.byte (48 + (1970 + (yr (n / 86400) : Int)) / 100 % 10), Num.byte (48 + (1970 + (yr (n / 86400) : Int)) / 10 % 10), Num.byte (48 + (1970 + (yr (n / 86400) : Int)) % 10), 32,
      Num.byte (48 + n / 3600 % 24 / 10 % 10), Num.byte (48 + n / 3600 % 24 % 10), 58, Num.byte (48 + n / 60 % 60 / 10 % 10), Num.byte (48 + n / 60 % 60 % 10), 58, Num.byte (48 + n % 60 / 10 % 10), Num.byte (48 + n % 60 % 10), 32, 71, 77, 84]⟩ := by
  have hp := parts_in (n / 86400) (by omega) (by omega)
  obtain ⟨a, b, c, hw⟩ := week_form (n / 86400 % 7).toNat (by omega)
  obtain ⟨p, q, r, hn⟩ := name_form (mo (n / 86400)) (by omega)
  refine ⟨a, b, c, p, q, r, hn, ?_⟩
  unfold text
  rw [hw, hn, dec_four _ (by omega)]
  unfold two four
  rfl
theorem read_text (n : Int) (h0 : 0 ≤ n) (h1 : n ≤ 2000000000) : read (text n) = some n := by
  have hp := parts_in (n / 86400) (by omega) (by omega)
  obtain ⟨p1, p2, p3, p4, p5, p6⟩ := hp
  have hml := mlen_bd (1970 + (yr (n / 86400) : Int)) (mo (n / 86400)) (by omega)
  have hsh : shown n = text n := if_pos ⟨h0, h1⟩
  obtain ⟨a, b, c, p, q, r, hn, ht⟩ := text_form n h0 h1
  have e29 : (text n).size = 29 := by rw [ht]; rfl
  have ed : numAt (text n) 5 2 = dy (n / 86400) + 1 := by
    rw [num_two (a := 5) (x := (dy (n / 86400) + 1) / 10 % 10) (y := (dy (n / 86400) + 1) % 10) (by rw [ht]; exact dig_val _ (by omega) (by omega)) (by rw [ht]; exact dig_val _ (by omega) (by omega)) (by omega) (by omega) (by omega) (by omega)]
    omega
  have ey : numAt (text n) 12 4 = 1970 + (yr (n / 86400) : Int) := by
    rw [num_four (a := 12) (x := (1970 + (yr (n / 86400) : Int)) / 1000 % 10) (y := (1970 + (yr (n / 86400) : Int)) / 100 % 10) (z := (1970 + (yr (n / 86400) : Int)) / 10 % 10) (u := (1970 + (yr (n / 86400) : Int)) % 10)
      (by rw [ht]; exact dig_val _ (by omega) (by omega)) (by rw [ht]; exact dig_val _ (by omega) (by omega)) (by rw [ht]; exact dig_val _ (by omega) (by omega)) (by rw [ht]; exact dig_val _ (by omega) (by omega)) (by omega) (by omega) (by omega) (by omega) (by omega) (by omega) (by omega) (by omega)]
    omega
  have eh : numAt (text n) 17 2 = n / 3600 % 24 := by
    rw [num_two (a := 17) (x := n / 3600 % 24 / 10 % 10) (y := n / 3600 % 24 % 10) (by rw [ht]; exact dig_val _ (by omega) (by omega)) (by rw [ht]; exact dig_val _ (by omega) (by omega)) (by omega) (by omega) (by omega) (by omega)]
    omega
  have em : numAt (text n) 20 2 = n / 60 % 60 := by
    rw [num_two (a := 20) (x := n / 60 % 60 / 10 % 10) (y := n / 60 % 60 % 10) (by rw [ht]; exact dig_val _ (by omega) (by omega)) (by rw [ht]; exact dig_val _ (by omega) (by omega)) (by omega) (by omega) (by omega) (by omega)]
    omega
  have es : numAt (text n) 23 2 = n % 60 := by
    rw [num_two (a := 23) (x := n % 60 / 10 % 10) (y := n % 60 % 10) (by rw [ht]; exact dig_val _ (by omega) (by omega)) (by rw [ht]; exact dig_val _ (by omega) (by omega)) (by omega) (by omega) (by omega) (by omega)]
    omega
  have eo : mon (text n) = (mo (n / 86400) : Int) + 1 := by
    unfold mon
    have e : (text n).extract 8 11 = name (mo (n / 86400)) := by rw [ht, hn]; rfl
    rw [e, monGo_name _ (by omega) 12 (by omega), if_pos (by omega)]
  have edy : dayOf (text n) = n / 86400 := by
    unfold dayOf
    rw [ed, ey, eo, days_parts _ _ _ (by omega) (by omega) p3 p4]
    unfold dy
    omega
  have ese : secOf (text n) = n := by
    unfold secOf
    rw [edy, eh, em, es]
    omega
  unfold read
  rw [if_pos e29, if_neg (by rw [edy, eh, em, es]; omega), ese, if_pos hsh]
/-- there is one date of a text at most -/
theorem text_inj {n m : Int} (h0 : 0 ≤ n) (h1 : n ≤ 2000000000) (h2 : 0 ≤ m) (h3 : m ≤ 2000000000) (h : text n = text m) : n = m := by
  have e := read_text n h0 h1
  rw [h, read_text m h2 h3] at e
  exact (Option.some.inj e).symm
theorem text_size (n : Int) (h0 : 0 ≤ n) (h1 : n ≤ 2000000000) : (text n).size = 29 := by
  obtain ⟨a, b, c, p, q, r, hn, ht⟩ := text_form n h0 h1
  rw [ht]; rfl
/-- what is read is what is shown as it, and nothing else -/
theorem read_iff (s : ByteArray) (n : Int) : read s = some n ↔ (0 ≤ n ∧ n ≤ 2000000000) ∧ text n = s := by
  constructor
  · intro h
    obtain ⟨h1, h2⟩ := read_shown h
    unfold shown at h1
    split at h1
    · next hr => exact ⟨hr, h1⟩
    · subst h1; cases h2
  · rintro ⟨⟨h0, h1⟩, rfl⟩
    exact read_text n h0 h1
def readN (s : ByteArray) : Int := (read s).getD 0
def readB (s : ByteArray) : Bool := (read s).isSome
end Date
end Go.Proofs.YtkogcbnbmdeolaaDoor
