/-
  Plain facts on the text that Var makes: seven bits to a byte, the lowest first; which texts are such a text, and of which number.
-/
import Derived.Test.YtfmfidlhbephmaaDoorNum
namespace Go.Proofs.YtfmfidlhbephmaaDoor
open Go.RowKit
set_option linter.unusedVariables false
namespace Num

/-- Var of a number below 128 ^ (f + 1) -/
def vr : Nat → Int → List UInt8
  | 0, r => [byte r]
  | f + 1, r => if r < 128 then [byte r] else byte (128 + r % 128) :: vr f (r / 128)
theorem vr_small (f : Nat) (r : Int) (h : r < 128) : vr f r = [byte r] := by
  cases f with
  | zero => rfl
  | succ f => exact if_pos h
theorem vr_great (f : Nat) (r : Int) (h : ¬ r < 128) : vr (f + 1) r = byte (128 + r % 128) :: vr f (r / 128) := if_neg h
theorem length_vr (f : Nat) (r : Int) : (vr f r).length ≤ f + 1 := by
  induction f generalizing r with
  | zero => simp [vr]
  | succ f ih =>
    by_cases h : r < 128
    · rw [vr_small _ _ h]; simp
    · rw [vr_great _ _ h]; simpa using ih (r / 128)
theorem pos_vr (f : Nat) (r : Int) : 0 < (vr f r).length := by
  cases f with
  | zero => simp [vr]
  | succ f =>
    by_cases h : r < 128
    · rw [vr_small _ _ h]; simp
    · rw [vr_great _ _ h]; simp

/-- the number of a text: seven bits of each byte, the lowest first -/
def val : List UInt8 → Int
  | [] => 0
  | c :: l => (c.toNat : Int) % 128 + 128 * val l
theorem val_snoc (l : List UInt8) (c : UInt8) : val (l ++ [c]) = val l + 128 ^ l.length * ((c.toNat : Int) % 128) := by
  induction l with
  | nil => simp [val]
  | cons d l ih =>
    simp only [List.cons_append, val, ih, List.length_cons, Int.pow_succ]
    rw [Int.mul_add, Int.add_assoc, ← Int.mul_assoc, Int.mul_comm 128 (128 ^ l.length)]
theorem val_bd (l : List UInt8) : 0 ≤ val l ∧ val l < 128 ^ l.length := by
  induction l with
  | nil => simp [val]
  | cons d l ih => simp only [val, List.length_cons, Int.pow_succ]; omega
/-- is it a text that Var makes? each byte but the last from 128 on, the last below, and no nought in a last byte behind another -/
def canon : List UInt8 → Prop
  | [] => False
  | [c] => c.toNat < 128
  | c :: d :: l => 128 ≤ c.toNat ∧ d.toNat + l.length ≠ 0 ∧ canon (d :: l)
theorem canon_cons (c : UInt8) (l : List UInt8) (h : l ≠ []) (h0 : l ≠ [0]) : canon (c :: l) ↔ 128 ≤ c.toNat ∧ canon l := by
  cases l with
  | nil => exact absurd rfl h
  | cons d l =>
    simp only [canon]
    constructor
    · rintro ⟨a, _, b⟩; exact ⟨a, b⟩
    · rintro ⟨a, b⟩
      refine ⟨a, ?_, b⟩
      intro hz
      have h1 : d.toNat = 0 := by omega
      have h2 : l = [] := List.eq_nil_of_length_eq_zero (by omega)
      exact h0 (by rw [h2, UInt8.toNat_inj.1 (show d.toNat = (0 : UInt8).toNat from h1)])
theorem canon_zero (c : UInt8) : ¬ canon [c, 0] := by simp [canon]
theorem vr_canon (f : Nat) (r : Int) (h0 : 0 ≤ r) (h1 : r < 128 ^ (f + 1)) : canon (vr f r) ∧ val (vr f r) = r ∧ (vr f r = [0] → r = 0) := by
  induction f generalizing r with
  | zero =>
    have hb := byte_val r
    simp only [Nat.zero_add, Int.pow_succ, Int.pow_zero] at h1
    refine ⟨?_, ?_, ?_⟩
    · simp only [vr, canon]; omega
    · simp only [vr, val]; omega
    · intro h; simp only [vr, List.cons.injEq, and_true] at h; rw [h] at hb; simp at hb; omega
  | succ f ih =>
    by_cases h : r < 128
    · have hb := byte_val r
      rw [vr_small _ _ h]
      refine ⟨?_, ?_, ?_⟩
      · simp only [canon]; omega
      · simp only [val]; omega
      · intro h; simp only [List.cons.injEq, and_true] at h; rw [h] at hb; simp at hb; omega
    · rw [vr_great _ _ h]
      have hb := byte_val (128 + r % 128)
      obtain ⟨i1, i2, i3⟩ := ih (r / 128) (by omega) (by rw [Int.pow_succ] at h1; omega)
      have hp := pos_vr f (r / 128)
      refine ⟨(canon_cons _ _ (fun e => by rw [e] at hp; simp at hp) (fun e => by have := i3 e; omega)).2 ⟨by omega, i1⟩, ?_, ?_⟩
      · simp only [val, i2]; omega
      · intro e
        have := congrArg List.length e
        simp only [List.length_cons, List.length_nil] at this
        omega
theorem canon_vr (f : Nat) (l : List UInt8) (h : canon l) (hl : l.length ≤ f + 1) : vr f (val l) = l := by
  induction f generalizing l with
  | zero =>
    match l, h, hl with
    | [c], h, _ =>
      simp only [canon] at h
      simp only [vr, val, List.cons.injEq, and_true]
      apply UInt8.toNat_inj.1
      have hb := byte_val ((c.toNat : Int) % 128 + 128 * 0)
      omega
  | succ f ih =>
    match l, h, hl with
    | [c], h, _ =>
      simp only [canon] at h
      have hv : val [c] = (c.toNat : Int) := by simp only [val]; omega
      rw [hv, vr_small _ _ (by omega)]
      simp only [List.cons.injEq, and_true]
      apply UInt8.toNat_inj.1
      have hb := byte_val (c.toNat : Int)
      omega
    | c :: d :: l, h, hl =>
      simp only [canon] at h
      obtain ⟨hc, hd, hr⟩ := h
      have e := ih (d :: l) hr (by simpa using hl)
      have hcl := c.toNat_lt
      have hpos : 1 ≤ val (d :: l) := by
        have hb := val_bd (d :: l)
        by_cases hz : val (d :: l) = 0
        · rw [hz, vr_small f 0 (by decide)] at e
          have h2 := congrArg List.length e
          simp only [List.length_cons, List.length_nil] at h2
          have h3 : l = [] := List.eq_nil_of_length_eq_zero (by omega)
          subst h3
          simp only [List.cons.injEq, and_true] at e
          rw [← e] at hd
          exact absurd rfl hd
        · omega
      have hv : val (c :: d :: l) = (c.toNat : Int) % 128 + 128 * val (d :: l) := rfl
      rw [hv, vr_great f _ (by omega), show ((c.toNat : Int) % 128 + 128 * val (d :: l)) / 128 = val (d :: l) by omega, e]
      simp only [List.cons.injEq, and_true]
      apply UInt8.toNat_inj.1
      have hb := byte_val (128 + ((c.toNat : Int) % 128 + 128 * val (d :: l)) % 128)
      omega
end Num
end Go.Proofs.YtfmfidlhbephmaaDoor
