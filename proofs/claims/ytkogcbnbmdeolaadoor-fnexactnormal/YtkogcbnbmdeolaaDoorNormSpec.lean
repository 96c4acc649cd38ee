/-
  Normal of the specification.
-/
import Derived.Test.YtkogcbnbmdeolaaDoorCharsNum
import Derived.Test.YtkogcbnbmdeolaaDoorSplitSpec
import Derived.Test.YtkogcbnbmdeolaaDoorStrs
namespace Go.Proofs.YtkogcbnbmdeolaaDoor
open Go.RowKit
set_option linter.unusedVariables false
namespace Norm
open Sign (split)

theorem joined_take (L : List ByteArray) (i : Nat) (h : i < L.length) : joined (L.take (i + 1)) = if i = 0 then L[i] else joined (L.take i) ++ ⟨#[44, 32]⟩ ++ L[i] := by
  rw [List.take_succ_eq_append_getElem h, joined_snoc]
  by_cases hi : i = 0
  · rw [if_pos hi, if_pos (by rw [hi]; rfl)]
  · rw [if_neg hi, if_neg]
    intro e
    have h2 := congrArg List.length e
    rw [List.length_take, List.length_nil] at h2
    omega
theorem take_sum (L : List ByteArray) (k : Nat) : ((L.take k).map fun p => p.size + 2).sum ≤ (L.map fun p => p.size + 2).sum := by
  conv => rhs; rw [← List.take_append_drop k L, List.map_append, List.sum_append]
  omega
set_option maxRecDepth 100000 in
set_option maxHeartbeats 2000000 in
theorem normal_spec (s : ByteArray) (w : World) (hs : s.size ≤ 1048576) : Calls Tryd.prog 32 #[.string s] w fun e w' => e = .returned (.string (normal s)) ∧ Below w.heap.size w w' := by
  have HS := Num.hide (Sign.split_spec s w hs)
  obtain ⟨r, hr⟩ : ∃ r, normal s = r := ⟨_, rfl⟩
  rw [hr]
  unfold normal at hr
  have hsum : ((split s).map fun p => p.size + 2).sum ≤ 3 * s.size + 2 := by
    have h2 := parts_sum s s.size 0 false (Nat.zero_le _) (by omega)
    unfold Sign.split; simpa using h2
  have hlen := Cc.split_len s
  generalize split s = L at HS hr hsum hlen
  have HR := Num.hide hr
  have HT := Num.hide (joined_take L)
  have HZ := Num.hide (fun k => Nat.le_trans (joined_size (L.take k)) (take_sum L k))
  clear hr
  go_enter Tryd.func32, Tryd.ntmps32
  go_wp2_with fail
  refine HS.out.mono ?_
  rintro e w1 ⟨pv, rfl, ho, hb⟩
  obtain ⟨pa, pc, rfl⟩ := Strs.own_len ho
  have HI := Num.hide (Strs.own_is ho)
  have HB := Num.hide hb
  clear ho hb HS
  go_wp2
  go_loop [4, 5] (fun ov iv => ∃ i : Nat, i ≤ L.length ∧ iv = .int .i64 (i : Int) ∧ ov = .string (joined (L.take i))) (fun _ iv => L.length - (intOf iv).toNat)
  case atStart => exact ⟨0, by omega, rfl, rfl⟩
  case round =>
  obtain ⟨i, hi, rfl, rfl⟩ := hrel
  by_cases hlt : i < L.length
  · obtain ⟨b, po, rfl, hc1, hc2, hcell⟩ : ∃ b po, pa = some ⟨b, po, none⟩ ∧ L.length ≤ pc ∧ pc ≤ maxLen ∧ w1.cell? ⟨b, po + i, none⟩ = some (.string L[i]) := by
      rcases HI.out with ⟨h1, _⟩ | ⟨b, o, c, h1, h2, h3, h4⟩
      · rw [h1] at hlt; exact absurd hlt (Nat.not_lt_zero _)
      · cases h1; exact ⟨b, o, rfl, h2, h3, h4 i hlt⟩
    have hz0 := HZ.out i
    have hz1 := HZ.out (i + 1)
    have ht := HT.out i hlt
    clear HI HR HT HZ
    by_cases h0 : i = 0
    · rw [if_pos h0] at ht
      subst h0
      rw [Nat.add_zero] at hcell
      have e0 : joined (L.take 0) = ⟨#[]⟩ := rfl
      rw [e0]
      generalize L[0] = t at hcell ht
      have HTk := Num.hide ht
      have hsz : t.size ≤ 9223372036854775807 := by rw [ht] at hz1; omega
      clear ht hz0 hz1 e0
      have et : (⟨#[]⟩ : ByteArray) ++ t = t := by apply ByteArray.ext; simp [ByteArray.data_append]
      have hno : ¬ 9223372036854775807 < (⟨#[]⟩ : ByteArray).size + t.size := by show ¬ 9223372036854775807 < 0 + t.size; omega
      go_wp2
      go_round
      case rel => exact ⟨0 + 1, by omega, by go_num, by rw [HTk.out]⟩
      case measure => simp [intOf]; omega
    · rw [if_neg h0] at ht
      rw [ht, ByteArray.size_append, ByteArray.size_append] at hz1
      have h2 : (⟨#[44, 32]⟩ : ByteArray).size = 2 := rfl
      generalize joined (L.take i) = o at ht hz0 hz1
      generalize L[i] = t at hcell ht hz1
      have HTk := Num.hide ht
      have hno1 : ¬ 9223372036854775807 < o.size + 2 := by omega
      have hno2 : ¬ 9223372036854775807 < o.size + 2 + t.size := by omega
      have hpos : (0 : Int) < (i : Int) := by omega
      clear ht h2
      go_wp2
      go_round
      case rel => exact ⟨i + 1, by omega, by go_num, by rw [HTk.out]⟩
      case measure => simp [intOf]; omega
  · obtain rfl : i = L.length := by omega
    have hR := HR.out
    rw [List.take_length]
    rw [hR]
    clear hR HR HT HZ HI
    go_wp2
    go_ret
    exact ⟨rfl, HB.out⟩
end Norm
end Go.Proofs.YtkogcbnbmdeolaaDoor
