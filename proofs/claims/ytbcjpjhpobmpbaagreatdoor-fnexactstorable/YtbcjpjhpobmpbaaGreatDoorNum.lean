/-
  Plain facts on numbers and lists of bytes that the walks of chapter 1 lean on (no program in sight): joining bits is adding, a number out of bytes with the highest first, and its bounds.
-/
import Derived.WalkKit
import Derived.WalkLawsBesides
import Derived.Laws.BitsLemmas
namespace Go.Proofs.YtbcjpjhpobmpbaaGreatDoor
open Go.RowKit
namespace Num

theorem hide {p : Prop} (h : p) : Hid p := h
theorem unhide {p : Prop} (h : Hid p) : p := h
theorem or_swap (x y : Int) : bits .or .i64 x y = bits .or .i64 y x := by simp [bits, BitVec.or_comm]
theorem wraps_i64 (n : Int) (h₀ : 0 ≤ n) (h₁ : n < 2 ^ 63) : IntKind.i64.wrap n = n := by rw [IntKind.wrap_i64]; omega
theorem or_i64 (i : Nat) (x y : Int) (hi : i ≤ 63) (hx₀ : 0 ≤ x) (hx : x % 2 ^ i = 0) (hx₁ : x < 2 ^ 63) (hy₀ : 0 ≤ y) (hy : y < 2 ^ i) : bits .or .i64 x y = x + y :=
  bits_join .i64 63 (by decide) wraps_i64 i x y hx₀ hx hx₁ hy₀ hy (Int.lt_of_lt_of_le hy (by exact_mod_cast Nat.pow_le_pow_right (by decide) hi))

/-- the number of bytes, the highest first -/
def be (l : List UInt8) : Int := l.foldl (fun n c => n * 256 + (c.toNat : Int)) 0
theorem be_snoc (l : List UInt8) (c : UInt8) : be (l ++ [c]) = be l * 256 + (c.toNat : Int) := by simp [be]
theorem snoc_ind {α : Type} {P : List α → Prop} (h0 : P []) (h1 : ∀ l c, P l → P (l ++ [c])) (l : List α) : P l := by
  rw [← List.reverse_reverse l]
  induction l.reverse with
  | nil => exact h0
  | cons c r ih => rw [List.reverse_cons]; exact h1 _ _ ih
theorem be_bd (l : List UInt8) : 0 ≤ be l ∧ be l < 256 ^ l.length := by
  refine snoc_ind (P := fun l => 0 ≤ be l ∧ be l < 256 ^ l.length) (by simp [be]) ?_ l
  intro l c ih
  rw [be_snoc, List.length_append, List.length_singleton, Int.pow_succ]
  have hc : (c.toNat : Int) < 256 := by have := c.toNat_lt; omega
  omega
theorem take_snoc (s : ByteArray) (k : Nat) (h : k < s.size) : s.data.toList.take (k + 1) = s.data.toList.take k ++ [s[k]] := by
  rw [List.take_succ_eq_append_getElem (by simpa using h)]; rfl
theorem pow_up (n a b : Nat) (hn : 0 < n) (h : a ≤ b) : (n : Int) ^ a ≤ (n : Int) ^ b := by
  rw [← Int.natCast_pow, ← Int.natCast_pow]
  exact Int.ofNat_le.2 (Nat.pow_le_pow_right hn h)
theorem be_take_bd (s : ByteArray) (k : Nat) : 0 ≤ be (s.data.toList.take k) ∧ be (s.data.toList.take k) < 256 ^ k := by
  have h := be_bd (s.data.toList.take k)
  have hl : (s.data.toList.take k).length ≤ k := List.length_take_le _ _
  exact ⟨h.1, Int.lt_of_lt_of_le h.2 (pow_up 256 _ _ (by decide) hl)⟩
theorem be_take_lt (s : ByteArray) (k : Nat) (hk : k ≤ 6) : 0 ≤ be (s.data.toList.take k) ∧ be (s.data.toList.take k) ≤ 281474976710655 := by
  have h := be_take_bd s k
  have : (256 : Int) ^ k ≤ 256 ^ 6 := pow_up 256 _ _ (by decide) hk
  refine ⟨h.1, ?_⟩
  have h6 : (256 : Int) ^ 6 = 281474976710656 := by decide
  omega
/-- what a round of the program's own loop makes: a shift by eight and an or -/
theorem shl_or (x y : Int) (h0 : 0 ≤ x) (h1 : x ≤ 281474976710655) (h2 : 0 ≤ y) (h3 : y < 256) : bits .or .i64 (x * 256) y = x * 256 + y :=
  or_i64 8 (x * 256) y (by decide) (by omega) (by omega) (by omega) h2 (by omega)
theorem w64 (n : Int) (h0 : -9223372036854775808 ≤ n) (h1 : n ≤ 9223372036854775807) : wrap64 n = n := by unfold wrap64; omega
/-- one round more, as the walks spell it -/
theorem be_round (x : Int) (c : UInt8) (h0 : 0 ≤ x) (h1 : x ≤ 281474976710655) : wrap64 (x * 256 + wrap64 (c.toNat : Int)) = x * 256 + (c.toNat : Int) := by
  have hc := c.toNat_lt
  rw [w64 (c.toNat : Int) (by omega) (by omega), w64 _ (by omega) (by omega)]
theorem be_round_or (x : Int) (c : UInt8) (h0 : 0 ≤ x) (h1 : x ≤ 281474976710655) : bits .or .i64 (x * 256) (wrap64 (c.toNat : Int)) = x * 256 + (c.toNat : Int) := by
  have hc := c.toNat_lt
  rw [w64 (c.toNat : Int) (by omega) (by omega), shl_or _ _ h0 h1 (by omega) (by omega)]
/-- the lowest byte of a number -/
def byte (n : Int) : UInt8 := UInt8.ofNat (n % 256).toNat
theorem byte_val (n : Int) : ((byte n).toNat : Int) = n % 256 := by
  unfold byte
  rw [UInt8.toNat_ofNat']
  omega
/-- a number in so many bytes, the highest first -/
def fx (n : Int) : Nat → List UInt8
  | 0 => []
  | j + 1 => byte (n / 256 ^ j) :: fx n j
theorem length_fx (n : Int) (k : Nat) : (fx n k).length = k := by
  induction k with
  | zero => rfl
  | succ j ih => simp [fx, ih]
theorem drop_fx (n : Int) (a b : Nat) : (fx n (a + b)).drop a = fx n b := by
  induction a with
  | zero => simp
  | succ a ih => rw [show a + 1 + b = (a + b) + 1 by omega]; simpa [fx] using ih
theorem fx_at (n : Int) (k t : Nat) (h : t < k) : ((fx n k).drop t).take 1 = [byte (n / 256 ^ (k - 1 - t))] := by
  obtain ⟨b, rfl⟩ : ∃ b, k = t + (b + 1) := ⟨k - t - 1, by omega⟩
  rw [drop_fx]
  simp only [fx, List.take_succ_cons, List.take_zero]
  rw [show t + (b + 1) - 1 - t = b by omega]
theorem pow_8 (i : Nat) : (2 : Int) ^ (8 * i) = 256 ^ i := by rw [Int.pow_mul]; rfl
theorem byte_mod (n : Int) : byte (n % 256) = byte n := by unfold byte; rw [Int.emod_emod_of_dvd _ (Int.dvd_refl _)]
theorem fx_succ (n r : Int) (t : Nat) (h : r = n / 256 ^ t) : (⟨#[byte (r % 256)]⟩ : ByteArray) ++ ⟨(fx n t).toArray⟩ = ⟨(fx n (t + 1)).toArray⟩ := by
  subst h
  rw [byte_mod, ByteArray.mk_append_mk]
  simp [fx]
theorem div_succ (n r : Int) (t : Nat) (h : r = n / 256 ^ t) : r / 256 = n / 256 ^ (t + 1) := by
  subst h
  rw [Int.pow_succ, Int.ediv_ediv_of_nonneg (Int.pow_nonneg (by decide))]
end Num
end Go.Proofs.YtbcjpjhpobmpbaaGreatDoor
