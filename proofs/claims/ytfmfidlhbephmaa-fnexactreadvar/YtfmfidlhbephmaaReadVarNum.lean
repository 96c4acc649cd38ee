/-
  Which beginning of a text is a text of Var, and of which number.
-/
import Derived.Test.YtfmfidlhbephmaaVarNum
import Derived.Lib.Strings
namespace Go.Proofs.Ytfmfidlhbephmaa
open Go.RowKit
set_option linter.unusedVariables false
namespace ReadVar


/-- what is told: the number of the one beginning that is a text of Var, and its length; 0 and 0 where there is none -/
def Good (s : ByteArray) (a b : Int) : Prop :=
  (∃ k : Nat, 1 ≤ k ∧ k ≤ 7 ∧ k ≤ s.size ∧ Num.canon (s.data.toList.take k) ∧ a = Num.val (s.data.toList.take k) ∧ b = k) ∨
  ((∀ k : Nat, 1 ≤ k → k ≤ 7 → k ≤ s.size → ¬ Num.canon (s.data.toList.take k)) ∧ a = 0 ∧ b = 0)
theorem canon_snoc (l : List UInt8) (c : UInt8) : Num.canon (l ++ [c]) ↔ (∀ d ∈ l, 128 ≤ d.toNat) ∧ c.toNat < 128 ∧ (l = [] ∨ c.toNat ≠ 0) := by
  induction l with
  | nil => simp [Num.canon]
  | cons d l ih =>
    by_cases hz : l ++ [c] = [0]
    · have hl : l = [] := by
        have := congrArg List.length hz
        simp at this
        exact this
      subst hl
      simp only [List.nil_append, List.cons.injEq, and_true] at hz
      subst hz
      simp [Num.canon]
    · rw [List.cons_append, Num.canon_cons d (l ++ [c]) (by simp) hz, ih]
      constructor
      · rintro ⟨h1, h2, h3, h4⟩
        refine ⟨fun x hx => (List.mem_cons.1 hx).elim (fun e => e ▸ h1) (fun hx => h2 x hx), h3, .inr ?_⟩
        rcases h4 with rfl | h4
        · intro h0
          exact hz (by rw [List.nil_append, UInt8.toNat_inj.1 (show c.toNat = (0 : UInt8).toNat from h0)])
        · exact h4
      · rintro ⟨h1, h3, h4⟩
        refine ⟨h1 d (by simp), fun x hx => h1 x (by simp [hx]), h3, .inr ?_⟩
        rcases h4 with h4 | h4
        · cases h4
        · exact h4
theorem canon_take (s : ByteArray) (k : Nat) (h : k < s.size) :
    Num.canon (s.data.toList.take (k + 1)) ↔ (∀ j (hj : j < k), 128 ≤ (s[j]'(by omega)).toNat) ∧ (s[k]'h).toNat < 128 ∧ (k = 0 ∨ (s[k]'h).toNat ≠ 0) := by
  rw [Num.take_snoc s k h, canon_snoc]
  have hn : s.data.toList.take k = [] ↔ k = 0 := by
    have hs : s.data.toList.length = s.size := by rw [Array.length_toList]; rfl
    constructor
    · intro e
      have := congrArg List.length e
      simp only [List.length_take, List.length_nil] at this
      omega
    · rintro rfl; rfl
  rw [hn]
  constructor
  · rintro ⟨h1, h2, h3⟩
    refine ⟨fun j hj => h1 _ ?_, h2, h3⟩
    have hs : s.data.toList.length = s.size := by rw [Array.length_toList]; rfl
    rw [List.mem_take_iff_getElem]
    exact ⟨j, by omega, by simp; rfl⟩
  · rintro ⟨h1, h2, h3⟩
    refine ⟨fun d hd => ?_, h2, h3⟩
    rw [List.mem_take_iff_getElem] at hd
    obtain ⟨j, hj, rfl⟩ := hd
    exact h1 j (by omega)
theorem good_one (s : ByteArray) (a b a' b' : Int) (h : Good s a b) (h' : Good s a' b') : a = a' ∧ b = b' := by
  rcases h with ⟨k, h1, h2, h3, h4, rfl, rfl⟩ | ⟨hn, rfl, rfl⟩
  · rcases h' with ⟨k', h1', h2', h3', h4', rfl, rfl⟩ | ⟨hn, rfl, rfl⟩
    · obtain ⟨i, rfl⟩ : ∃ i, k = i + 1 := ⟨k - 1, by omega⟩
      obtain ⟨i', rfl⟩ : ∃ i', k' = i' + 1 := ⟨k' - 1, by omega⟩
      rw [canon_take s i (by omega)] at h4
      rw [canon_take s i' (by omega)] at h4'
      have : i = i' := by
        rcases Nat.lt_trichotomy i i' with hlt | he | hlt
        · have := h4'.1 i hlt; omega
        · exact he
        · have := h4.1 i' hlt; omega
      subst this
      exact ⟨rfl, rfl⟩
    · exact absurd h4 (hn k h1 h2 h3)
  · rcases h' with ⟨k', h1', h2', h3', h4', rfl, rfl⟩ | ⟨_, rfl, rfl⟩
    · exact absurd h4' (hn k' h1' h2' h3')
    · exact ⟨rfl, rfl⟩
theorem u8_and127 (c : Nat) (h : c < 256) : bits .and .u8 (c : Int) 127 = (c : Int) % 128 := bits_mask .u8 8 (by decide) wraps_u8 7 (by decide) (c : Int) (by omega) (by omega)
theorem pow_7 (i : Nat) : (2 : Int) ^ (7 * i) = 128 ^ i := by rw [Int.pow_mul]; rfl

theorem or_round (x : Int) (k c : Nat) (hk : k ≤ 6) (hc : c < 256) (h0 : 0 ≤ x) (h1 : x < 128 ^ k) :
    bits .or .i64 x (wrap64 (wrap64 (bits .and .u8 (c : Int) 127) * 2 ^ (7 * k))) = x + 128 ^ k * ((c : Int) % 128) := by
  rw [u8_and127 c hc, Num.w64 ((c : Int) % 128) (by omega) (by omega)]
  have hp : (0 : Int) ≤ 2 ^ (7 * k) := Int.pow_nonneg (by decide)
  have hq : (2 : Int) ^ (7 * k) ≤ 4398046511104 := Num.pow_up 2 (7 * k) 42 (by decide) (by omega)
  have hb : ((c : Int) % 128) * 2 ^ (7 * k) ≤ 127 * 4398046511104 := Int.mul_le_mul (by omega) hq hp (by decide)
  have hn : 0 ≤ ((c : Int) % 128) * 2 ^ (7 * k) := Int.mul_nonneg (by omega) hp
  rw [Num.w64 _ (by omega) (by omega), Num.or_swap, Num.or_i64 (7 * k) _ x (by omega) hn (Int.mul_emod_left _ _) (by omega) h0 (by rw [pow_7]; exact h1), pow_7, Int.mul_comm, Int.add_comm]
theorem val_take (s : ByteArray) (k : Nat) (h : k < s.size) : Num.val (s.data.toList.take (k + 1)) = Num.val (s.data.toList.take k) + 128 ^ k * (((s[k]'h).toNat : Int) % 128) := by
  rw [Num.take_snoc s k h, Num.val_snoc, List.length_take, Array.length_toList, Nat.min_eq_left (by have : s.data.size = s.size := rfl; omega)]
theorem val_take_bd (s : ByteArray) (k : Nat) : 0 ≤ Num.val (s.data.toList.take k) ∧ Num.val (s.data.toList.take k) < 128 ^ k := by
  have h := Num.val_bd (s.data.toList.take k)
  exact ⟨h.1, Int.lt_of_lt_of_le h.2 (Num.pow_up 128 _ _ (by decide) (List.length_take_le _ _))⟩
theorem step (s : ByteArray) (k : Nat) (h : k < s.size) (hk : k ≤ 6) :
    bits .or .i64 (Num.val (s.data.toList.take k)) (wrap64 (wrap64 (bits .and .u8 ((s[k]'h).toNat : Int) 127) * 2 ^ (7 * k))) = Num.val (s.data.toList.take (k + 1)) := by
  have hb := val_take_bd s k
  rw [or_round _ k _ hk (s[k]'h).toNat_lt hb.1 hb.2, val_take s k h]
/-- a text whose bytes up to place k are from 128 on, and whose byte there is not: the one beginning that may be right is the one that ends there -/
theorem none_else (s : ByteArray) (k : Nat) (h : k < s.size) (hj : ∀ j (h : j < s.size), j < k → 128 ≤ (s[j]'h).toNat) (hc : (s[k]'h).toNat < 128) (hno : (s[k]'h).toNat = 0 ∧ 0 < k) : Good s 0 0 := by
  refine .inr ⟨fun i h1 h7 hs hcan => ?_, rfl, rfl⟩
  obtain ⟨i, rfl⟩ : ∃ i', i = i' + 1 := ⟨i - 1, by omega⟩
  rw [canon_take s i (by omega)] at hcan
  obtain ⟨a, b, c⟩ := hcan
  rcases Nat.lt_trichotomy i k with hlt | rfl | hlt
  · have := hj i (by omega) hlt; omega
  · omega
  · have := a k hlt; omega
theorem none_all (s : ByteArray) (k : Nat) (hj : ∀ j (h : j < s.size), j < k → 128 ≤ (s[j]'h).toNat) (hk : s.size ≤ k ∨ 7 ≤ k) : Good s 0 0 := by
  refine .inr ⟨fun i h1 h7 hs hcan => ?_, rfl, rfl⟩
  obtain ⟨i, rfl⟩ : ∃ i', i = i' + 1 := ⟨i - 1, by omega⟩
  rw [canon_take s i (by omega)] at hcan
  obtain ⟨a, b, c⟩ := hcan
  have := hj i (by omega) (by omega)
  omega
theorem here (s : ByteArray) (k : Nat) (h : k < s.size) (h7 : k < 7) (hj : ∀ j (h : j < s.size), j < k → 128 ≤ (s[j]'h).toNat) (hc : (s[k]'h).toNat < 128) (hno : (s[k]'h).toNat ≠ 0 ∨ k = 0) :
    Good s (Num.val (s.data.toList.take (k + 1))) ((k : Int) + 1) := by
  refine .inl ⟨k + 1, by omega, by omega, by omega, ?_, rfl, by omega⟩
  rw [canon_take s k h]
  exact ⟨fun j hjk => hj j (by omega) hjk, hc, by omega⟩
theorem drop_take (s : ByteArray) (k j : Nat) (h : j < k) (hk : k ≤ s.size) :
    (s.data.toList.take k).drop j = (s[j]'(by omega)) :: (s.data.toList.take k).drop (j + 1) := by
  have hl : (s.data.toList.take k).length = k := by
    rw [List.length_take, Array.length_toList]; have : s.data.size = s.size := rfl; omega
  rw [List.drop_eq_getElem_cons (by omega)]
  congr 1
  rw [List.getElem_take, Array.getElem_toList]
  rfl
theorem val_drop (s : ByteArray) (k j : Nat) (h : j < k) (hk : k ≤ s.size) :
    Num.val ((s.data.toList.take k).drop j) = Num.val ((s.data.toList.take k).drop (j + 1)) * 128 + ((s[j]'(by omega)).toNat : Int) % 128 := by
  rw [drop_take s k j h hk]
  simp only [Num.val]
  omega
theorem val_drop_bd (s : ByteArray) (k j : Nat) (hk : k ≤ 7) : 0 ≤ Num.val ((s.data.toList.take k).drop j) ∧ Num.val ((s.data.toList.take k).drop j) ≤ 562949953421311 := by
  have h := Num.val_bd ((s.data.toList.take k).drop j)
  have hp : (128 : Int) ^ ((s.data.toList.take k).drop j).length ≤ 128 ^ 7 := Num.pow_up 128 _ 7 (by decide) (by
    rw [List.length_drop]
    have := List.length_take_le k s.data.toList
    omega)
  have h7 : (128 : Int) ^ 7 = 562949953421312 := by decide
  omega
theorem step_down (x : Int) (c : UInt8) (h0 : 0 ≤ x) (h1 : x ≤ 562949953421311) : wrap64 (x * 128 + (wrap64 (c.toNat : Int)).tmod 128) = x * 128 + (c.toNat : Int) % 128 := by
  have hc := c.toNat_lt
  rw [Num.w64 (c.toNat : Int) (by omega) (by omega), Int.tmod_eq_emod_of_nonneg (by omega), Num.w64 _ (by omega) (by omega)]
end ReadVar
end Go.Proofs.Ytfmfidlhbephmaa
