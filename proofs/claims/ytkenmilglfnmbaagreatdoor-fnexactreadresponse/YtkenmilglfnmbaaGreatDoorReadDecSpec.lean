/-
  ReadDec of the specification: what the call returns, for every text; old memory stays as it was.
-/
import Derived.Test.YtkenmilglfnmbaaGreatDoorReadDecNum
import Derived.Test.YtkenmilglfnmbaaGreatDoorDecSpec
import Derived.Laws.Strings
namespace Go.Proofs.YtkenmilglfnmbaaGreatDoor
open Go.RowKit
set_option linter.unusedVariables false
namespace ReadDec

theorem dval_take (s : ByteArray) (k : Nat) (h : k < s.size) : dval 0 (s.data.toList.take (k + 1)) = if 48 ≤ (s[k]'h).toNat ∧ (s[k]'h).toNat ≤ 57 then dval 0 (s.data.toList.take k) * 10 + (((s[k]'h).toNat : Int) - 48) else dval 0 (s.data.toList.take k) := by
  rw [Num.take_snoc s k h, dval_append]; simp only [dval]
theorem dcnt_take (s : ByteArray) (k : Nat) (h : k < s.size) : dcnt (s.data.toList.take (k + 1)) = dcnt (s.data.toList.take k) + if 48 ≤ (s[k]'h).toNat ∧ (s[k]'h).toNat ≤ 57 then 1 else 0 := by
  rw [Num.take_snoc s k h, dcnt_append]; simp only [dcnt, Nat.add_zero]
theorem dval_take_bd (s : ByteArray) (k : Nat) (hk : k ≤ 11) : 0 ≤ dval 0 (s.data.toList.take k) ∧ dval 0 (s.data.toList.take k) ≤ 100000000000 := by
  have h := dval_bd (s.data.toList.take k) 0 (by omega)
  have hp := Num.pow_up 10 (s.data.toList.take k).length 11 (by decide) (Nat.le_trans (List.length_take_le _ _) hk)
  have h11 : ((10 : Nat) : Int) ^ 11 = 100000000000 := by decide
  have e10 : ((10 : Nat) : Int) = 10 := rfl
  rw [h11, e10] at hp
  omega
/-- what the call comes to -/
def Told (s : ByteArray) (w : World) (e : Ending) (w' : World) : Prop := ∃ a t, e = .returned (.tuple #[.int .i64 a, .bool t]) ∧ Good s a t ∧ Below w.heap.size w w'
theorem long_no (s : ByteArray) (h : 10 < s.size) : Good s 0 false := .inr ⟨rfl, rfl, fun m h0 h1 he => by
  have h2 := length_itoa m h0 h1
  rw [he, Array.length_toList] at h2
  have : s.data.size = s.size := rfl
  omega⟩
theorem many_no (s : ByteArray) (h : 9 < dcnt s.data.toList) : Good s 0 false := .inr ⟨rfl, rfl, fun m h0 h1 he => by
  have h2 := (itoa_parts m).2
  have h3 := nDigits_le9 m.natAbs (by omega)
  rw [he] at h2
  omega⟩
theorem here_yes (s : ByteArray) (n : Int) (hc : dcnt s.data.toList ≤ 9) (he : Lib.itoa n = s.data.toList) : Good s n true := by
  have h2 := (itoa_parts n).2
  rw [he] at h2
  have h3 := le9_nDigits n.natAbs (by omega)
  exact .inl ⟨rfl, by omega, by omega, he⟩
theorem here_no (s : ByteArray) (n : Int) (hn : n = sval s.data.toList) (he : Lib.itoa n ≠ s.data.toList) : Good s 0 false := .inr ⟨rfl, rfl, fun m h0 h1 hm => by
  have h2 := (itoa_parts m).1
  rw [hm, ← hn] at h2
  subst h2
  exact he hm⟩
theorem head_of (s : ByteArray) (h : 0 < s.size) : s.data.toList.head? = some s[0] := by
  rw [List.head?_eq_getElem?, Array.getElem?_toList, Array.getElem?_eq_getElem h]
  rfl
theorem sval_zero (s : ByteArray) (h : s.size = 0) : sval s.data.toList = dval 0 s.data.toList := by
  have : s.data.toList = [] := List.eq_nil_of_length_eq_zero (by rw [Array.length_toList]; exact h)
  rw [this]; rfl
theorem sval_neg (s : ByteArray) (h : 0 < s.size) (hm : s[0].toNat = 45) : sval s.data.toList = -dval 0 s.data.toList := by
  unfold sval
  rw [if_pos]
  rw [head_of s h, UInt8.toNat_inj.1 (show s[0].toNat = (45 : UInt8).toNat from hm)]
theorem sval_pos (s : ByteArray) (h : 0 < s.size) (hm : ¬ s[0].toNat = 45) : sval s.data.toList = dval 0 s.data.toList := by
  unfold sval
  rw [if_neg]
  rw [head_of s h]
  intro hc
  simp only [Option.some.injEq] at hc
  exact hm (by rw [hc]; rfl)
set_option maxRecDepth 100000 in
set_option maxHeartbeats 1000000 in
theorem spec_told (s : ByteArray) (w : World) (hs : s.size ≤ maxLen) : Calls Tryz.prog 81 #[.string s] w (Told s w) := by
  unfold maxLen at hs
  go_enter Tryz.func81, Tryz.ntmps81
  go_wp2
  go_loop [4, 5, 6] (fun n c i => ∃ k : Nat, k ≤ s.size ∧ k ≤ 11 ∧ i = .int .i64 k ∧ n = .int .i64 (dval 0 (s.data.toList.take k)) ∧ c = .int .i64 (dcnt (s.data.toList.take k) : Nat)) (fun _ _ i => 11 - (intOf i).toNat)
  case atStart => exact ⟨0, by omega, by omega, rfl, rfl, rfl⟩
  case round =>
    obtain ⟨k, hk, hk11, rfl, rfl, rfl⟩ := hrel
    have hb := dval_take_bd s k hk11
    have hc := Nat.le_trans (dcnt_le (s.data.toList.take k)) (List.length_take_le _ _)
    by_cases hks : k < s.size
    · by_cases h11 : k < 11
      · have hd := Num.hide (dval_take s k hks)
        have he := Num.hide (dcnt_take s k hks)
        go_wp2
        · have h1 : (48 : Int) ≤ (s[k].toNat : Int) := by assumption
          have h2 : (s[k].toNat : Int) ≤ 57 := by assumption
          go_round
          case rel => exact ⟨k + 1, by omega, by omega, by go_num, by rw [Num.unhide hd, if_pos (by omega)], by rw [Num.unhide he, if_pos (by omega)]; go_num⟩
          case measure => simp [intOf]; omega
        · have h2 : (57 : Int) < (s[k].toNat : Int) := by assumption
          go_round
          case rel => exact ⟨k + 1, by omega, by omega, by go_num, by rw [Num.unhide hd, if_neg (by omega)], by rw [Num.unhide he, if_neg (by omega)]; rfl⟩
          case measure => simp [intOf]; omega
        · have h2 : ¬ (48 : Int) ≤ (s[k].toNat : Int) := by assumption
          go_round
          case rel => exact ⟨k + 1, by omega, by omega, by go_num, by rw [Num.unhide hd, if_neg (by omega)], by rw [Num.unhide he, if_neg (by omega)]; rfl⟩
          case measure => simp [intOf]; omega
      · have hg := Num.hide (long_no s (by omega))
        have hlong : (10 : Int) < (s.size : Int) := by omega
        generalize dval 0 (s.data.toList.take k) = X at *
        generalize dcnt (s.data.toList.take k) = C at *
        go_wp2
        all_goals go_ret2
        all_goals exact ⟨0, false, rfl, Num.unhide hg, Below.refl _ _⟩
    · obtain rfl : k = s.size := by omega
      have hall : s.data.toList.take s.size = s.data.toList := List.take_of_length_le (by rw [Array.length_toList]; exact Nat.le_refl _)
      rw [hall] at hb hc
      generalize hX : dval 0 (s.data.toList.take s.size) = X at *
      generalize hC : dcnt (s.data.toList.take s.size) = C at *
      rw [hall] at hX hC
      rw [hX] at hb
      rw [hC] at hc
      have HX := Num.hide hX
      have HC := Num.hide hC
      clear hall hX hC
      by_cases hlong : 10 < s.size
      · have hg := Num.hide (long_no s hlong)
        have hlong' : (10 : Int) < (s.size : Int) := by omega
        go_wp2
        all_goals go_ret2
        all_goals exact ⟨0, false, rfl, Num.unhide hg, Below.refl _ _⟩
      · have hshort : (s.size : Int) ≤ 10 := by omega
        by_cases hC9 : 9 < C
        · have hg := Num.hide (many_no s (by rw [Num.unhide HC]; exact hC9))
          have hC9' : (9 : Int) < (C : Int) := by omega
          go_wp2
          all_goals go_ret2
          all_goals exact ⟨0, false, rfl, Num.unhide hg, Below.refl _ _⟩
        · have hC9' : (C : Int) ≤ 9 := by omega
          by_cases h0 : s.size = 0
          · have hsv := Num.hide (sval_zero s h0)
            have h0' : ¬ (0 : Int) < (s.size : Int) := by omega
            clear h0
            go_wp2_with fail
            refine (Dec.spec_any (X) _ (by omega) (by omega)).mono ?_
            rintro e w1 ⟨rfl, hb1⟩
            by_cases he : Lib.itoa (X) = s.data.toList
            · have hg := Num.hide (here_yes s (X) (by rw [Num.unhide HC]; omega) he)
              have ht : (Lib.itoa (X) == s.toList) = true := by rw [beq_iff_eq, ByteArray.toList_eq]; exact he
              clear he
              go_wp2
              go_ret2
              exact ⟨_, true, rfl, Num.unhide hg, hb1⟩
            · have hg := Num.hide (here_no s (X) (by rw [Num.unhide hsv, Num.unhide HX]) he)
              have ht : (Lib.itoa (X) == s.toList) = false := by rw [beq_eq_false_iff_ne, ByteArray.toList_eq]; exact he
              clear he
              go_wp2
              go_ret2
              exact ⟨0, false, rfl, Num.unhide hg, hb1⟩
          · have h0' : (0 : Int) < (s.size : Int) := by omega
            have h0n : 0 < s.size := by omega
            by_cases hm : s[0].toNat = 45
            · have hsv := Num.hide (sval_neg s h0n hm)
              have hm' : ((s[0].toNat : Int) == 45) = true := by rw [beq_iff_eq]; omega
              clear hm h0
              go_wp2_with fail
              refine (Dec.spec_any (-X) _ (by omega) (by omega)).mono ?_
              rintro e w1 ⟨rfl, hb1⟩
              by_cases he : Lib.itoa (-X) = s.data.toList
              · have hg := Num.hide (here_yes s (-X) (by rw [Num.unhide HC]; omega) he)
                have ht : (Lib.itoa (-X) == s.toList) = true := by rw [beq_iff_eq, ByteArray.toList_eq]; exact he
                clear he
                go_wp2
                go_ret2
                exact ⟨_, true, rfl, Num.unhide hg, hb1⟩
              · have hg := Num.hide (here_no s (-X) (by rw [Num.unhide hsv, Num.unhide HX]) he)
                have ht : (Lib.itoa (-X) == s.toList) = false := by rw [beq_eq_false_iff_ne, ByteArray.toList_eq]; exact he
                clear he
                go_wp2
                go_ret2
                exact ⟨0, false, rfl, Num.unhide hg, hb1⟩
            · have hsv := Num.hide (sval_pos s h0n hm)
              have hm' : ((s[0].toNat : Int) == 45) = false := by rw [beq_eq_false_iff_ne]; omega
              clear hm h0
              go_wp2_with fail
              refine (Dec.spec_any (X) _ (by omega) (by omega)).mono ?_
              rintro e w1 ⟨rfl, hb1⟩
              by_cases he : Lib.itoa (X) = s.data.toList
              · have hg := Num.hide (here_yes s (X) (by rw [Num.unhide HC]; omega) he)
                have ht : (Lib.itoa (X) == s.toList) = true := by rw [beq_iff_eq, ByteArray.toList_eq]; exact he
                clear he
                go_wp2
                go_ret2
                exact ⟨_, true, rfl, Num.unhide hg, hb1⟩
              · have hg := Num.hide (here_no s (X) (by rw [Num.unhide hsv, Num.unhide HX]) he)
                have ht : (Lib.itoa (X) == s.toList) = false := by rw [beq_eq_false_iff_ne, ByteArray.toList_eq]; exact he
                clear he
                go_wp2
                go_ret2
                exact ⟨0, false, rfl, Num.unhide hg, hb1⟩
end ReadDec
end Go.Proofs.YtkenmilglfnmbaaGreatDoor
