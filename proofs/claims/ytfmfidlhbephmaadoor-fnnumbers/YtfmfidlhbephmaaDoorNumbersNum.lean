/-
  Plain facts of FnNumbers: what is made of a number is read as it, whatever stands behind.
-/
import Derived.Test.YtfmfidlhbephmaaDoorReadVarNum
import Derived.Test.YtfmfidlhbephmaaDoorVarTells
import Derived.Test.YtfmfidlhbephmaaDoorUnhexNum
import Derived.Test.YtfmfidlhbephmaaDoorReadDecNum
namespace Go.Proofs.YtfmfidlhbephmaaDoor
open Go.RowKit
set_option linter.unusedVariables false
namespace Numbers

theorem data_append (a b : List UInt8) : ((⟨a.toArray⟩ : ByteArray) ++ ⟨b.toArray⟩).data.toList = a ++ b := by
  rw [ByteArray.mk_append_mk]
theorem size_append (a b : List UInt8) : ((⟨a.toArray⟩ : ByteArray) ++ ⟨b.toArray⟩).size = a.length + b.length := by
  rw [ByteArray.size_append]; simp [ByteArray.size]
theorem tells_in (n : Int) (h0 : 0 ≤ n) (h1 : n ≤ 562949953421311) : Var.tells n = Num.vr 6 n := if_neg (by omega)
theorem tells_out (n : Int) (h : n < 0 ∨ 562949953421311 < n) : Var.tells n = [] := if_pos h
theorem var_good (n : Int) (t : List UInt8) (h0 : 0 ≤ n) (h1 : n ≤ 562949953421311) : ReadVar.Good (⟨(Var.tells n).toArray⟩ ++ ⟨t.toArray⟩) n ((Var.tells n).length : Nat) := by
  rw [tells_in n h0 h1]
  have hc := Num.vr_canon 6 n h0 (by omega)
  have hl := Num.length_vr 6 n
  have hp := Num.pos_vr 6 n
  have ht : ((⟨(Num.vr 6 n).toArray⟩ : ByteArray) ++ ⟨t.toArray⟩).data.toList.take (Num.vr 6 n).length = Num.vr 6 n := by
    rw [data_append, List.take_left]
  refine .inl ⟨(Num.vr 6 n).length, by omega, by omega, ?_, ?_, ?_, rfl⟩
  · rw [size_append]; omega
  · rw [ht]; exact hc.1
  · rw [ht]; exact hc.2.1.symm
theorem be_fx (n : Int) (k : Nat) (h : 0 ≤ n) : Num.be (Num.fx n k) = n % 256 ^ k := by
  have key : ∀ (k : Nat) (acc : Int), (Num.fx n k).foldl (fun m c => m * 256 + (c.toNat : Int)) acc = acc * 256 ^ k + n % 256 ^ k := by
    intro k
    induction k with
    | zero => intro acc; simp [Num.fx, Int.emod_one]
    | succ k ih =>
      intro acc
      rw [Num.fx, List.foldl_cons, ih, Num.byte_val]
      have hp : (0 : Int) < 256 ^ k := Int.pow_pos (by decide)
      have e1 : n % 256 ^ (k + 1) = (n / 256 ^ k % 256) * 256 ^ k + n % 256 ^ k := by
        rw [Int.pow_succ]
        have d1 := Int.emod_def n (256 ^ k * 256)
        have d2 := Int.emod_def n (256 ^ k)
        have d3 := Int.emod_def (n / 256 ^ k) 256
        have d4 : n / 256 ^ k / 256 = n / (256 ^ k * 256) := Int.ediv_ediv_of_nonneg (Int.le_of_lt hp)
        rw [d4] at d3
        rw [d1, d2, d3]
        rw [Int.sub_mul, Int.mul_comm (n / 256 ^ k) (256 ^ k), Int.mul_comm (256 * _) (256 ^ k), ← Int.mul_assoc]
        omega
      rw [e1, Int.pow_succ, Int.add_mul]
      have e2 : acc * 256 * 256 ^ k = acc * (256 ^ k * 256) := by rw [Int.mul_assoc, Int.mul_comm 256 (256 ^ k)]
      omega
  have := key k 0
  simpa [Num.be] using this
theorem fixed_read (n : Int) (t : List UInt8) (h0 : 0 ≤ n) (h1 : n < 72057594037927936) : Num.be (((⟨(Num.fx n 7).toArray⟩ : ByteArray) ++ ⟨t.toArray⟩).data.toList.take 7) = n := by
  rw [data_append, List.take_left' (Num.length_fx n 7), be_fx n 7 h0]
  have e : (256 : Int) ^ 7 = 72057594037927936 := by decide
  rw [e]
  omega
theorem cons_of {l : List UInt8} {k : Nat} (h : l.length = k + 1) : ∃ c S, l = c :: S ∧ S.length = k := by
  cases l with
  | nil => simp at h
  | cons c S => exact ⟨c, S, rfl, by simpa using h⟩
theorem cons_some {l : List UInt8} (h : 0 < l.length) : ∃ c S, l = c :: S := by
  cases l with
  | nil => simp at h
  | cons c S => exact ⟨c, S, rfl⟩
theorem dec_yes (n : Int) (h0 : -999999999 ≤ n) (h1 : n ≤ 999999999) : ReadDec.Good ⟨(Lib.itoa n).toArray⟩ n true := .inl ⟨rfl, h0, h1, rfl⟩
theorem dec_no (n : Int) (h : n < -999999999 ∨ 999999999 < n) : ReadDec.Good ⟨(Lib.itoa n).toArray⟩ 0 false := .inr ⟨rfl, rfl, fun m h0 h1 he => by
  have : m = n := ReadDec.itoa_inj m n he
  omega⟩
theorem hx_nodup : ∀ i : Fin 16, ∀ j : Fin 16, Hex.hx i.val = Hex.hx j.val → i = j := by decide +kernel
theorem ix_hx (k : Nat) (h : k < 16) : Unhex.ix (Hex.hx k) = k := by
  refine Unhex.index_at Hex.digits.data.toList (Hex.hx k) k h (fun j hj hjk he => ?_) (Unhex.hx_get k h).symm
  rw [← Unhex.hx_get j hj] at he
  have := hx_nodup ⟨j, hj⟩ ⟨k, h⟩ he
  have := congrArg Fin.val this
  simp at this
  omega
theorem pairs_hex (l : List UInt8) : Unhex.pairs (Hex.hex l) = l := by
  induction l with
  | nil => rfl
  | cons c l ih =>
    simp only [Hex.hex, Unhex.pairs, ih, List.cons.injEq, and_true]
    have hc := c.toNat_lt
    rw [ix_hx _ (by omega), ix_hx _ (by omega)]
    apply UInt8.toNat_inj.1
    have hb := Num.byte_val (16 * ((c.toNat / 16 : Nat) : Int) + ((c.toNat % 16 : Nat) : Int))
    omega
theorem hex_all (l : List UInt8) : ∀ j (h : j < (Hex.hex l).length), 0 ≤ Unhex.ix ((Hex.hex l)[j]) := by
  induction l with
  | nil => intro j h; simp [Hex.hex] at h
  | cons c l ih =>
    intro j h
    have hc := c.toNat_lt
    match j, h with
    | 0, h => simp only [Hex.hex, List.getElem_cons_zero]; rw [ix_hx _ (by omega)]; omega
    | 1, h => simp only [Hex.hex, List.getElem_cons_succ, List.getElem_cons_zero]; rw [ix_hx _ (by omega)]; omega
    | j + 2, h =>
      simp only [Hex.hex, List.length_cons] at h
      simp only [Hex.hex, List.getElem_cons_succ]
      exact ih j (by omega)
theorem hex_good (l : List UInt8) : Unhex.Good ⟨(Hex.hex l).toArray⟩ l true := by
  refine .inr ⟨?_, by rw [pairs_hex], rfl⟩
  rintro (h | ⟨j, hj, hneg⟩)
  · have e : (⟨(Hex.hex l).toArray⟩ : ByteArray).size = 2 * l.length := by
      have := Hex.length_hex l
      simpa [ByteArray.size] using this
    omega
  · have h2 := hex_all l j hj
    have e : (⟨(Hex.hex l).toArray⟩ : ByteArray)[j]'hj = (Hex.hex l)[j]'hj := rfl
    rw [e] at hneg
    omega
theorem read_again (s : ByteArray) (z j : Int) (h : ReadVar.Good s z j) (hj : ¬ j = 0) : ∃ k : Nat, j = k ∧ 1 ≤ k ∧ k ≤ s.size ∧ k ≤ 7 ∧ (Var.tells z == (s.extract 0 k).toList) = true := by
  rcases h with ⟨k, h1, h7, hs, hc, rfl, rfl⟩ | ⟨_, _, h0⟩
  · refine ⟨k, rfl, h1, hs, h7, ?_⟩
    have hb := ReadVar.val_drop_bd s k 0 h7
    rw [List.drop_zero] at hb
    rw [tells_in _ hb.1 hb.2, Lib.extract_toList, beq_iff_eq]
    simp only [List.drop_zero, Nat.sub_zero]
    exact Num.canon_vr 6 _ hc (Nat.le_trans (List.length_take_le _ _) h7)
  · exact absurd h0 hj
end Numbers
end Go.Proofs.YtfmfidlhbephmaaDoor
