/-
  Plain facts: a number's decimal text is read as that number, and as no other; how many digits it has.
-/
import Derived.Test.YtkenmilglfnmbaaGreatDoorDecNum
import Derived.Lib.Atoi
import Derived.Lib.AtoiBound
namespace Go.Proofs.YtkenmilglfnmbaaGreatDoor
open Go.RowKit
set_option linter.unusedVariables false
namespace ReadDec

theorem ofNat_val (d : Nat) (h : d < 10) : (UInt8.ofNat (48 + d)).toNat = 48 + d := by rw [UInt8.toNat_ofNat']; omega
theorem decFrom_append (a b : List UInt8) (acc n : Nat) (h : Lib.decFrom acc a = some n) : Lib.decFrom acc (a ++ b) = Lib.decFrom n b := by
  induction a generalizing acc with
  | nil => simp only [Lib.decFrom, Option.some.injEq] at h; subst h; rfl
  | cons c a ih =>
    simp only [Lib.decFrom, List.cons_append] at h ⊢
    cases hd : Lib.digitVal c with
    | none => rw [hd] at h; cases h
    | some d => rw [hd] at h; exact ih _ h
/-- the number of the digits of a text, whatever else stands in it; and how many they are -/
def dval (acc : Int) : List UInt8 → Int
  | [] => acc
  | c :: l => if 48 ≤ c.toNat ∧ c.toNat ≤ 57 then dval (acc * 10 + ((c.toNat : Int) - 48)) l else dval acc l
def dcnt : List UInt8 → Nat
  | [] => 0
  | c :: l => (if 48 ≤ c.toNat ∧ c.toNat ≤ 57 then 1 else 0) + dcnt l
theorem dval_append (a b : List UInt8) (acc : Int) : dval acc (a ++ b) = dval (dval acc a) b := by
  induction a generalizing acc with
  | nil => rfl
  | cons c a ih => simp only [List.cons_append, dval]; split <;> exact ih _
theorem dcnt_append (a b : List UInt8) : dcnt (a ++ b) = dcnt a + dcnt b := by
  induction a with
  | nil => simp [dcnt]
  | cons c a ih => simp only [List.cons_append, dcnt, ih]; omega
theorem dcnt_le (a : List UInt8) : dcnt a ≤ a.length := by
  induction a with
  | nil => simp [dcnt]
  | cons c a ih => simp only [dcnt, List.length_cons]; split <;> omega
theorem dval_bd (a : List UInt8) (acc : Int) (h : 0 ≤ acc) : 0 ≤ dval acc a ∧ dval acc a < (acc + 1) * 10 ^ a.length := by
  induction a generalizing acc with
  | nil => simp [dval]; omega
  | cons c a ih =>
    have hp : (0 : Int) < 10 ^ a.length := Int.pow_pos (by decide)
    simp only [dval, List.length_cons, Int.pow_succ]
    split
    · rename_i hc
      have hi := ih (acc * 10 + ((c.toNat : Int) - 48)) (by omega)
      refine ⟨hi.1, Int.lt_of_lt_of_le hi.2 ?_⟩
      rw [Int.mul_comm (10 ^ a.length) 10, ← Int.mul_assoc]
      exact Int.mul_le_mul_of_nonneg_right (by omega) (by omega)
    · have hi := ih acc h
      refine ⟨hi.1, Int.lt_of_lt_of_le hi.2 ?_⟩
      rw [Int.mul_comm (10 ^ a.length) 10, ← Int.mul_assoc]
      exact Int.mul_le_mul_of_nonneg_right (by omega) (by omega)
theorem digits_all (k : Nat) : ∀ u, u < 10 ^ k ∨ u < 10 → Lib.decFrom 0 (Lib.decDigits u) = some u ∧ dval 0 (Lib.decDigits u) = u ∧ dcnt (Lib.decDigits u) = Lib.nDigits u := by
  induction k with
  | zero =>
    intro u h
    have h10 : u < 10 := by rcases h with h | h <;> omega
    rw [Lib.decDigits_one h10, Lib.nDigits_small h10]
    have hv := ofNat_val u h10
    refine ⟨?_, ?_, ?_⟩
    · simp only [Lib.decFrom, Lib.digitVal, hv]; rw [if_pos (by omega)]; simp
    · simp only [dval, hv]; rw [if_pos (by omega)]; omega
    · simp only [dcnt, hv]; rw [if_pos (by omega)]
  | succ k ih =>
    intro u h
    by_cases h10 : u < 10
    · exact ih u (.inr h10)
    · have hlt : u / 10 < 10 ^ k := by
        rcases h with h | h
        · rw [Nat.pow_succ] at h; omega
        · omega
      obtain ⟨i1, i2, i3⟩ := ih (u / 10) (.inl hlt)
      have hv := ofNat_val (u % 10) (by omega)
      rw [Lib.decDigits, dif_neg h10, Lib.nDigits_big h10]
      refine ⟨?_, ?_, ?_⟩
      · rw [decFrom_append _ _ _ _ i1]
        simp only [Lib.decFrom, Lib.digitVal, hv]
        rw [if_pos (by omega)]
        simp only [Option.some.injEq]
        omega
      · rw [dval_append, i2]
        simp only [dval, hv]
        rw [if_pos (by omega)]
        omega
      · rw [dcnt_append, i3]
        simp only [dcnt, hv]
        rw [if_pos (by omega)]
theorem digits_of (u : Nat) : Lib.decFrom 0 (Lib.decDigits u) = some u ∧ dval 0 (Lib.decDigits u) = u ∧ dcnt (Lib.decDigits u) = Lib.nDigits u :=
  digits_all (Lib.nDigits u) u (.inl (Lib.lt_pow_nDigits u))
theorem digits_ne (u : Nat) : Lib.decDigits u ≠ [] := by
  intro h
  have := congrArg List.length h
  rw [Lib.decDigits_length] at this
  have := Lib.nDigits_pos u
  simp at *
  omega
theorem head_digit (u : Nat) : ∃ c l, Lib.decDigits u = c :: l ∧ 48 ≤ c.toNat ∧ c.toNat ≤ 57 := by
  cases h : Lib.decDigits u with
  | nil => exact absurd h (digits_ne u)
  | cons c l =>
    refine ⟨c, l, rfl, ?_⟩
    have h1 := (digits_of u).1
    rw [h] at h1
    simp only [Lib.decFrom] at h1
    cases hd : Lib.digitVal c with
    | none => rw [hd] at h1; cases h1
    | some d => have := Lib.digitVal_eq hd; omega
theorem decNat_digits (u : Nat) : Lib.decNat (Lib.decDigits u) = some u := by
  unfold Lib.decNat
  have hne : (Lib.decDigits u).isEmpty = false := by
    cases h : Lib.decDigits u with
    | nil => exact absurd h (digits_ne u)
    | cons c l => rfl
  rw [hne]
  exact (digits_of u).1
theorem atoi_itoa (n : Int) : Lib.atoi (Lib.itoa n) = some n := by
  unfold Lib.itoa
  by_cases h : n < 0
  · rw [if_pos h]
    have e : Lib.atoi (45 :: Lib.decDigits n.natAbs) = (Lib.decNat (Lib.decDigits n.natAbs)).map fun (m : Nat) => -(m : Int) := rfl
    rw [e, decNat_digits]
    simp only [Option.map_some, Option.some.injEq]
    omega
  · rw [if_neg h]
    obtain ⟨c, l, he, h1, h2⟩ := head_digit n.toNat
    have hd := decNat_digits n.toNat
    rw [he] at hd ⊢
    have c1 : (c == 45) = false := by
      rw [beq_eq_false_iff_ne]; intro hc; subst hc; revert h1; decide
    have c2 : (c == 43) = false := by
      rw [beq_eq_false_iff_ne]; intro hc; subst hc; revert h1; decide
    simp only [Lib.atoi, c1, c2]
    simp only [Bool.false_eq_true, if_false, hd, Option.map_some, Option.some.injEq]
    omega
theorem itoa_inj (m n : Int) (h : Lib.itoa m = Lib.itoa n) : m = n := by
  have h1 := atoi_itoa m
  rw [h, atoi_itoa n] at h1
  exact (Option.some.inj h1).symm
/-- what the loop makes of a number's text -/
def sval (l : List UInt8) : Int := if l.head? = some 45 then -dval 0 l else dval 0 l
theorem itoa_parts (n : Int) : sval (Lib.itoa n) = n ∧ dcnt (Lib.itoa n) = Lib.nDigits n.natAbs := by
  unfold Lib.itoa sval
  by_cases h : n < 0
  · rw [if_pos h]
    have hd := digits_of n.natAbs
    have e1 : dval 0 (45 :: Lib.decDigits n.natAbs) = dval 0 (Lib.decDigits n.natAbs) := by simp [dval]
    have e2 : dcnt (45 :: Lib.decDigits n.natAbs) = dcnt (Lib.decDigits n.natAbs) := by simp [dcnt]
    rw [e1, e2, hd.2.1, hd.2.2]
    simp only [List.head?_cons, if_true]
    exact ⟨by omega, trivial⟩
  · rw [if_neg h]
    have hd := digits_of n.toNat
    obtain ⟨c, l, he, h1, h2⟩ := head_digit n.toNat
    rw [hd.2.1, hd.2.2, show n.natAbs = n.toNat by omega]
    have hc : (Lib.decDigits n.toNat).head? ≠ some 45 := by
      rw [he]; simp only [List.head?_cons, ne_eq, Option.some.injEq]; intro hc; subst hc; revert h1; decide
    rw [if_neg hc]
    exact ⟨by omega, rfl⟩
theorem digits_few (j u : Nat) (h : u < 10 ^ j) : Lib.nDigits u ≤ max 1 j := by
  induction j generalizing u with
  | zero => rw [Lib.nDigits_small (by simp at h; omega)]; omega
  | succ j ih =>
    by_cases h10 : u < 10
    · rw [Lib.nDigits_small h10]; omega
    · rw [Lib.nDigits_big h10]
      have hi := ih (u / 10) (by rw [Nat.pow_succ] at h; omega)
      rcases Nat.eq_zero_or_pos j with hj | hj
      · subst hj; simp at h; omega
      · omega
theorem nDigits_le9 (u : Nat) (h : u ≤ 999999999) : Lib.nDigits u ≤ 9 := by
  have h1 := digits_few 9 u (by omega)
  omega
theorem le9_nDigits (u : Nat) (h : Lib.nDigits u ≤ 9) : u ≤ 999999999 := by
  have h1 := Lib.lt_pow_nDigits u
  have h2 : 10 ^ Lib.nDigits u ≤ 10 ^ 9 := Nat.pow_le_pow_right (by decide) h
  omega
theorem length_itoa (n : Int) (h0 : -999999999 ≤ n) (h1 : n ≤ 999999999) : (Lib.itoa n).length ≤ 10 := by
  unfold Lib.itoa
  split
  · rw [List.length_cons, Lib.decDigits_length]; have := nDigits_le9 n.natAbs (by omega); omega
  · rw [Lib.decDigits_length]; have := nDigits_le9 n.toNat (by omega); omega
/-- what is told -/
def Good (s : ByteArray) (a : Int) (t : Bool) : Prop :=
  (t = true ∧ -999999999 ≤ a ∧ a ≤ 999999999 ∧ Lib.itoa a = s.data.toList) ∨ (t = false ∧ a = 0 ∧ ∀ m, -999999999 ≤ m → m ≤ 999999999 → Lib.itoa m ≠ s.data.toList)
theorem good_one (s : ByteArray) (a a' : Int) (t t' : Bool) (h : Good s a t) (h' : Good s a' t') : a = a' ∧ t = t' := by
  rcases h with ⟨rfl, h1, h2, h3⟩ | ⟨rfl, rfl, h3⟩ <;> rcases h' with ⟨rfl, k1, k2, k3⟩ | ⟨rfl, rfl, k3⟩
  · exact ⟨itoa_inj a a' (h3.trans k3.symm), rfl⟩
  · exact absurd h3 (k3 a h1 h2)
  · exact absurd k3 (h3 a' k1 k2)
  · exact ⟨rfl, rfl⟩
end ReadDec
end Go.Proofs.YtkenmilglfnmbaaGreatDoor
