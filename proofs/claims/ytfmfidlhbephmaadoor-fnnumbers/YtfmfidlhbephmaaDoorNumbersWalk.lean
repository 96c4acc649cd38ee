/-
  FnNumbers: the law's own call returns true, for every draw, where the library's variables lie as they are laid; old memory stays as it was.
-/
import Derived.Test.YtfmfidlhbephmaaDoorNumbersNum
import Derived.Test.YtfmfidlhbephmaaDoorDrawOne
import Derived.Test.YtfmfidlhbephmaaDoorCode
import Derived.Test.YtfmfidlhbephmaaDoorVarImpl
import Derived.Test.YtfmfidlhbephmaaDoorReadVarImpl
import Derived.Test.YtfmfidlhbephmaaDoorFixedImpl
import Derived.Test.YtfmfidlhbephmaaDoorReadFixedImpl
import Derived.Test.YtfmfidlhbephmaaDoorReadDecImpl
import Derived.Test.YtfmfidlhbephmaaDoorHexImpl
import Derived.Test.YtfmfidlhbephmaaDoorUnhexImpl
namespace Go.Proofs.YtfmfidlhbephmaaDoor
open Go.RowKit
set_option linter.unusedVariables false
namespace Numbers

theorem fixed_in (n : Int) (h0 : 0 ≤ n) (h1 : n < 72057594037927936) : Fixed.tells n 7 = Num.fx n 7 := by
  have e : (256 : Int) ^ 7 = 72057594037927936 := by decide
  have e7 : (7 : Int).toNat = 7 := rfl
  unfold Fixed.tells
  rw [e7, e, if_neg (by omega)]
theorem fixed_out (n : Int) (h : n < 0 ∨ 72057594037927936 ≤ n) : Fixed.tells n 7 = [] := by
  have e : (256 : Int) ^ 7 = 72057594037927936 := by decide
  have e7 : (7 : Int).toNat = 7 := rfl
  unfold Fixed.tells
  rw [e7, e, if_pos (by omega)]
theorem readFixed_in (n : Int) (t : List UInt8) (h0 : 0 ≤ n) (h1 : n < 72057594037927936) : ReadFixed.tells (⟨(Num.fx n 7).toArray⟩ ++ ⟨t.toArray⟩) 7 = (n, true) := by
  have hs := size_append (Num.fx n 7) t
  rw [Num.length_fx] at hs
  unfold ReadFixed.tells
  rw [if_neg (by omega), show (7 : Int).toNat = 7 from rfl, fixed_read n t h0 h1]
set_option maxRecDepth 100000 in
set_option maxHeartbeats 4000000 in
theorem law (a : Option Addr) (cap : Nat) (l : List Int) (w : World) (hcode : Draw.CodeAt w.heap.size w a l) (hl : l.length ≤ 1048576) (g gv : Nat) (tp : TypeId) (p : Value)
    (hvar : w.var? Tryd.prog "strconv.ErrSyntax" = some #[.iface tp p]) (hgv : Tryd.prog.globalNamed "strconv.ErrSyntax" = some gv) (hgvs : gv < w.heap.size)
    (hg : Tryd.prog.globalNamed "internal/strconv.uint64pow10" = some g) (hgs : g < w.heap.size) (htab : Lib.TabIs Tryd.prog w "internal/strconv.uint64pow10" .u64 Lib.pow10Tab) :
    Calls Tryd.prog 3 #[.slice a l.length cap] w fun e w' => e = .returned (.bool true) ∧ Below w.heap.size w w' := by
  have hbig : decide (1048576 < (l.length : Int)) = false := by simp; omega
  have HB := Num.hide (fun W => Draw.big_any a l.length cap W (by omega))
  have HV := Num.hide (fun W hc => Draw.var_at cap a l W hc hl)
  have HH := Num.hide (fun W hc => Draw.hex_at cap a l W hc hl)
  have HR := Num.hide (fun W hc => Draw.readVar_at cap a l W hc hl)
  have hn := Draw.nv_bd l (Draw.st0 l)
  have hT := Draw.length_txt l 40 (Draw.st0 l) (by omega)
  have hR := Draw.size_rvd l
  have e40 : (40 : Int).toNat = 40 := rfl
  rw [e40] at hT
  generalize Draw.nv l (Draw.st0 l) = n at *
  generalize Draw.txt l 40 (Draw.st0 l) = T at *
  generalize Draw.rvd l = R at *
  have HC := Num.hide (fun W (hb : Below w.heap.size w W) => (hcode.below hb).mono hb.size)
  have HVar := Num.hide (fun W (hb : Below w.heap.size w W) => var?_below hb hgv hgvs hvar)
  have HTab := Num.hide (fun W (hb : Below w.heap.size w W) => var?_below hb hg hgs htab)
  have HG := Num.hide hg
  clear hcode hvar htab hg hgv e40
  go_enter Tryd.func3, Tryd.ntmps3
  go_wp2_with fail
  refine (Num.unhide HB _).mono ?_
  rintro e wx ⟨rfl, rfl⟩
  go_wp2_with fail
  refine (Num.unhide HV _ (Num.unhide HC _ (Below.refl _ _))).mono ?_
  rintro e w1 ⟨rfl, b1⟩
  go_wp2_with fail
  refine (Num.unhide HH _ (Num.unhide HC _ b1)).mono ?_
  rintro e w2 ⟨rfl, c2⟩
  have b2 := b1.trans (c2.mono b1.size)
  go_wp2_with fail
  refine (Var.impl_any n _).mono ?_
  rintro e w3 ⟨rfl, c3⟩
  have b3 := b2.trans (c3.mono b2.size)
  have hS := Draw.length_tells n
  go_wp2_with fail
  refine (ReadVar.impl_any _ _ (by rw [size_append]; unfold maxLen; omega)).mono ?_
  rintro e wx ⟨x, k, rfl, hg1, rfl⟩
  clear b1 b2 c2 c3
  by_cases hin : 0 ≤ n ∧ n ≤ 562949953421311
  · obtain ⟨hn0, hn1⟩ := hin
    obtain ⟨rfl, rfl⟩ := ReadVar.good_one _ _ _ _ _ (var_good n T hn0 hn1) hg1
    clear hg1
    have hne : Var.tells n ≠ [] := by rw [tells_in n hn0 hn1]; intro h; have := Num.pos_vr 6 n; rw [h] at this; simp at this
    obtain ⟨c, S, hcS⟩ : ∃ c S, Var.tells n = c :: S := by
      cases h : Var.tells n with
      | nil => exact absurd h hne
      | cons c S => exact ⟨c, S, rfl⟩
    rw [hcS] at hS ⊢
    clear hne hcS
    go_wp2_with fail
    refine (Fixed.impl_any n 7 _ hn.2).mono ?_
    rintro e w4 ⟨rfl, c4⟩
    have b4 := b3.trans (c4.mono b3.size)
    have hrf := readFixed_in n T hn0 (by omega)
    rw [fixed_in n hn0 (by omega)]
    obtain ⟨c2, F, hF, hF6⟩ := cons_of (Num.length_fx n 7)
    rw [hF] at hrf ⊢
    have HRF := Num.hide hrf
    clear hF hrf c4 b3
    go_wp2_with fail
    refine (ReadFixed.impl_any _ _ _ (by rw [size_append]; unfold maxLen; simp; omega)).mono ?_
    rintro e wx ⟨rfl, rfl⟩
    rw [Num.unhide HRF]
    clear HRF
    go_wp2_with fail
    refine (Dec.impl_any n _ hn.1 hn.2 (Num.unhide HTab _ b4)).mono ?_
    rintro e w5 ⟨rfl, c5⟩
    have b5 := b4.trans (c5.mono b4.size)
    go_wp2_with fail
    refine (ReadDec.impl_any _ _ g (by rw [Draw.size_mk]; unfold maxLen; have := Lib.itoa_length_le n hn.1 hn.2; omega) _ _ (Num.unhide HVar _ b5) (Num.unhide HG) (by have := b5.size; omega) (Num.unhide HTab _ b5)).mono ?_
    rintro e w6 ⟨d, fine, rfl, hg2, c6⟩
    have b6 := b5.trans (c6.mono b5.size)
    by_cases hd : -999999999 ≤ n ∧ n ≤ 999999999
    · obtain ⟨rfl, rfl⟩ := ReadDec.good_one _ _ _ _ _ (dec_yes n hd.1 hd.2) hg2
      obtain ⟨hd0, hd1⟩ := hd
      clear hg2 b4 b5 c5 c6
      go_wp2_with fail
      refine (Hex.impl_any _ _ (by rw [Draw.size_mk]; omega)).mono ?_
      rintro e w7 ⟨rfl, c7⟩
      have b7 := b6.trans (c7.mono b6.size)
      go_wp2_with fail
      refine (Unhex.impl_walk _ _ (by rw [Draw.size_mk, Hex.length_hex]; omega)).mono ?_
      rintro e w8 ⟨l', t', rfl, hg3, c8⟩
      obtain ⟨rfl, rfl⟩ := Unhex.good_one _ _ _ _ _ (hex_good T) hg3
      have b8 := b7.trans (c8.mono b7.size)
      clear hg3 b6 b7 c7 c8
      go_wp2_with fail
      refine (Num.unhide HR _ (Num.unhide HC _ b8)).mono ?_
      rintro e w9 ⟨rfl, c9⟩
      have b9 := b8.trans (c9.mono b8.size)
      clear b8 c9
      go_wp2_with fail
      refine (ReadVar.impl_any R _ (by unfold maxLen; omega)).mono ?_
      rintro e wy ⟨z, j, rfl, hg4, rfl⟩
      by_cases hj : j = 0
      · subst hj
        have hj0 : ((0 : Int) == 0) = true := rfl
        clear hg4
        go_wp2
        go_ret
        exact ⟨rfl, b9⟩
      · obtain ⟨kk, rfl, hk1, hks, hk7, hv⟩ := read_again R z j hg4 hj
        have hj0 : ((kk : Int) == 0) = false := by rw [beq_eq_false_iff_ne]; exact hj
        have hj1 : (0 : Int) < (kk : Int) := by omega
        have hj2 : (kk : Int) ≤ (R.size : Int) := by omega
        clear hg4 hj
        go_wp2_with fail
        refine (Num.unhide HR _ (Num.unhide HC _ b9)).mono ?_
        rintro e w10 ⟨rfl, c10⟩
        have b10 := b9.trans (c10.mono b9.size)
        go_wp2_with fail
        refine (Var.impl_any z _).mono ?_
        rintro e w11 ⟨rfl, c11⟩
        have b11 := b10.trans (c11.mono b10.size)
        go_wp2_with fail
        refine (Num.unhide HR _ (Num.unhide HC _ b11)).mono ?_
        rintro e w12 ⟨rfl, c12⟩
        have b12 := b11.trans (c12.mono b11.size)
        clear b9 b10 b11 c10 c11 c12
        go_wp2
        go_ret
        exact ⟨rfl, b12⟩
    · have hd2 : n < -999999999 ∨ 999999999 < n := by omega
      clear hd
      obtain ⟨rfl, rfl⟩ := ReadDec.good_one _ _ _ _ _ (dec_no n hd2) hg2
      clear hg2 b4 b5 c5 c6
      go_wp2_with fail
      refine (Hex.impl_any _ _ (by rw [Draw.size_mk]; omega)).mono ?_
      rintro e w7 ⟨rfl, c7⟩
      have b7 := b6.trans (c7.mono b6.size)
      go_wp2_with fail
      refine (Unhex.impl_walk _ _ (by rw [Draw.size_mk, Hex.length_hex]; omega)).mono ?_
      rintro e w8 ⟨l', t', rfl, hg3, c8⟩
      obtain ⟨rfl, rfl⟩ := Unhex.good_one _ _ _ _ _ (hex_good T) hg3
      have b8 := b7.trans (c8.mono b7.size)
      clear hg3 b6 b7 c7 c8
      go_wp2_with fail
      refine (Num.unhide HR _ (Num.unhide HC _ b8)).mono ?_
      rintro e w9 ⟨rfl, c9⟩
      have b9 := b8.trans (c9.mono b8.size)
      clear b8 c9
      go_wp2_with fail
      refine (ReadVar.impl_any R _ (by unfold maxLen; omega)).mono ?_
      rintro e wy ⟨z, j, rfl, hg4, rfl⟩
      by_cases hj : j = 0
      · subst hj
        have hj0 : ((0 : Int) == 0) = true := rfl
        clear hg4
        go_wp2
        go_ret
        exact ⟨rfl, b9⟩
      · obtain ⟨kk, rfl, hk1, hks, hk7, hv⟩ := read_again R z j hg4 hj
        have hj0 : ((kk : Int) == 0) = false := by rw [beq_eq_false_iff_ne]; exact hj
        have hj1 : (0 : Int) < (kk : Int) := by omega
        have hj2 : (kk : Int) ≤ (R.size : Int) := by omega
        clear hg4 hj
        go_wp2_with fail
        refine (Num.unhide HR _ (Num.unhide HC _ b9)).mono ?_
        rintro e w10 ⟨rfl, c10⟩
        have b10 := b9.trans (c10.mono b9.size)
        go_wp2_with fail
        refine (Var.impl_any z _).mono ?_
        rintro e w11 ⟨rfl, c11⟩
        have b11 := b10.trans (c11.mono b10.size)
        go_wp2_with fail
        refine (Num.unhide HR _ (Num.unhide HC _ b11)).mono ?_
        rintro e w12 ⟨rfl, c12⟩
        have b12 := b11.trans (c12.mono b11.size)
        clear b9 b10 b11 c10 c11 c12
        go_wp2
        go_ret
        exact ⟨rfl, b12⟩
  · rw [tells_out n (by omega)] at hS ⊢
    clear hg1
    by_cases hneg : n < 0
    · go_wp2_with fail
      refine (Fixed.impl_any n 7 _ hn.2).mono ?_
      rintro e w4 ⟨rfl, c4⟩
      have b4 := b3.trans (c4.mono b3.size)
      rw [fixed_out n (by omega)]
      clear c4 b3
      go_wp2_with fail
      refine (ReadFixed.impl_any _ _ _ (by rw [ByteArray.size_append]; unfold maxLen; simp only [Draw.size_mk, List.length_nil]; omega)).mono ?_
      rintro e wx ⟨rfl, rfl⟩
      generalize ReadFixed.tells _ 7 = yt
      obtain ⟨yv, yt⟩ := yt
      go_wp2_with fail
      refine (Dec.impl_any n _ hn.1 hn.2 (Num.unhide HTab _ b4)).mono ?_
      rintro e w5 ⟨rfl, c5⟩
      have b5 := b4.trans (c5.mono b4.size)
      go_wp2_with fail
      refine (ReadDec.impl_any _ _ g (by rw [Draw.size_mk]; unfold maxLen; have := Lib.itoa_length_le n hn.1 hn.2; omega) _ _ (Num.unhide HVar _ b5) (Num.unhide HG) (by have := b5.size; omega) (Num.unhide HTab _ b5)).mono ?_
      rintro e w6 ⟨d, fine, rfl, hg2, c6⟩
      have b6 := b5.trans (c6.mono b5.size)
      by_cases hd : -999999999 ≤ n ∧ n ≤ 999999999
      · obtain ⟨rfl, rfl⟩ := ReadDec.good_one _ _ _ _ _ (dec_yes n hd.1 hd.2) hg2
        obtain ⟨hd0, hd1⟩ := hd
        clear hg2 b4 b5 c5 c6
        go_wp2_with fail
        refine (Hex.impl_any _ _ (by rw [Draw.size_mk]; omega)).mono ?_
        rintro e w7 ⟨rfl, c7⟩
        have b7 := b6.trans (c7.mono b6.size)
        go_wp2_with fail
        refine (Unhex.impl_walk _ _ (by rw [Draw.size_mk, Hex.length_hex]; omega)).mono ?_
        rintro e w8 ⟨l', t', rfl, hg3, c8⟩
        obtain ⟨rfl, rfl⟩ := Unhex.good_one _ _ _ _ _ (hex_good T) hg3
        have b8 := b7.trans (c8.mono b7.size)
        clear hg3 b6 b7 c7 c8
        go_wp2_with fail
        refine (Num.unhide HR _ (Num.unhide HC _ b8)).mono ?_
        rintro e w9 ⟨rfl, c9⟩
        have b9 := b8.trans (c9.mono b8.size)
        clear b8 c9
        go_wp2_with fail
        refine (ReadVar.impl_any R _ (by unfold maxLen; omega)).mono ?_
        rintro e wy ⟨z, j, rfl, hg4, rfl⟩
        by_cases hj : j = 0
        · subst hj
          have hj0 : ((0 : Int) == 0) = true := rfl
          clear hg4
          go_wp2
          go_ret
          exact ⟨rfl, b9⟩
        · obtain ⟨kk, rfl, hk1, hks, hk7, hv⟩ := read_again R z j hg4 hj
          have hj0 : ((kk : Int) == 0) = false := by rw [beq_eq_false_iff_ne]; exact hj
          have hj1 : (0 : Int) < (kk : Int) := by omega
          have hj2 : (kk : Int) ≤ (R.size : Int) := by omega
          clear hg4 hj
          go_wp2_with fail
          refine (Num.unhide HR _ (Num.unhide HC _ b9)).mono ?_
          rintro e w10 ⟨rfl, c10⟩
          have b10 := b9.trans (c10.mono b9.size)
          go_wp2_with fail
          refine (Var.impl_any z _).mono ?_
          rintro e w11 ⟨rfl, c11⟩
          have b11 := b10.trans (c11.mono b10.size)
          go_wp2_with fail
          refine (Num.unhide HR _ (Num.unhide HC _ b11)).mono ?_
          rintro e w12 ⟨rfl, c12⟩
          have b12 := b11.trans (c12.mono b11.size)
          clear b9 b10 b11 c10 c11 c12
          go_wp2
          go_ret
          exact ⟨rfl, b12⟩
      · have hd2 : n < -999999999 ∨ 999999999 < n := by omega
        clear hd
        obtain ⟨rfl, rfl⟩ := ReadDec.good_one _ _ _ _ _ (dec_no n hd2) hg2
        clear hg2 b4 b5 c5 c6
        go_wp2_with fail
        refine (Hex.impl_any _ _ (by rw [Draw.size_mk]; omega)).mono ?_
        rintro e w7 ⟨rfl, c7⟩
        have b7 := b6.trans (c7.mono b6.size)
        go_wp2_with fail
        refine (Unhex.impl_walk _ _ (by rw [Draw.size_mk, Hex.length_hex]; omega)).mono ?_
        rintro e w8 ⟨l', t', rfl, hg3, c8⟩
        obtain ⟨rfl, rfl⟩ := Unhex.good_one _ _ _ _ _ (hex_good T) hg3
        have b8 := b7.trans (c8.mono b7.size)
        clear hg3 b6 b7 c7 c8
        go_wp2_with fail
        refine (Num.unhide HR _ (Num.unhide HC _ b8)).mono ?_
        rintro e w9 ⟨rfl, c9⟩
        have b9 := b8.trans (c9.mono b8.size)
        clear b8 c9
        go_wp2_with fail
        refine (ReadVar.impl_any R _ (by unfold maxLen; omega)).mono ?_
        rintro e wy ⟨z, j, rfl, hg4, rfl⟩
        by_cases hj : j = 0
        · subst hj
          have hj0 : ((0 : Int) == 0) = true := rfl
          clear hg4
          go_wp2
          go_ret
          exact ⟨rfl, b9⟩
        · obtain ⟨kk, rfl, hk1, hks, hk7, hv⟩ := read_again R z j hg4 hj
          have hj0 : ((kk : Int) == 0) = false := by rw [beq_eq_false_iff_ne]; exact hj
          have hj1 : (0 : Int) < (kk : Int) := by omega
          have hj2 : (kk : Int) ≤ (R.size : Int) := by omega
          clear hg4 hj
          go_wp2_with fail
          refine (Num.unhide HR _ (Num.unhide HC _ b9)).mono ?_
          rintro e w10 ⟨rfl, c10⟩
          have b10 := b9.trans (c10.mono b9.size)
          go_wp2_with fail
          refine (Var.impl_any z _).mono ?_
          rintro e w11 ⟨rfl, c11⟩
          have b11 := b10.trans (c11.mono b10.size)
          go_wp2_with fail
          refine (Num.unhide HR _ (Num.unhide HC _ b11)).mono ?_
          rintro e w12 ⟨rfl, c12⟩
          have b12 := b11.trans (c12.mono b11.size)
          clear b9 b10 b11 c10 c11 c12
          go_wp2
          go_ret
          exact ⟨rfl, b12⟩
    · have hbig2 : 562949953421311 < n := by omega
      by_cases hmid : n < 72057594037927936
      · go_wp2_with fail
        refine (Fixed.impl_any n 7 _ hn.2).mono ?_
        rintro e w4 ⟨rfl, c4⟩
        have b4 := b3.trans (c4.mono b3.size)
        have hrf := readFixed_in n T (by omega) (by omega)
        rw [fixed_in n (by omega) (by omega)]
        obtain ⟨c2, F, hF, hF6⟩ := cons_of (Num.length_fx n 7)
        rw [hF] at hrf ⊢
        have HRF := Num.hide hrf
        clear hF hrf c4 b3
        go_wp2_with fail
        refine (ReadFixed.impl_any _ _ _ (by rw [size_append]; unfold maxLen; simp; omega)).mono ?_
        rintro e wx ⟨rfl, rfl⟩
        rw [Num.unhide HRF]
        clear HRF
        go_wp2_with fail
        refine (Dec.impl_any n _ hn.1 hn.2 (Num.unhide HTab _ b4)).mono ?_
        rintro e w5 ⟨rfl, c5⟩
        have b5 := b4.trans (c5.mono b4.size)
        go_wp2_with fail
        refine (ReadDec.impl_any _ _ g (by rw [Draw.size_mk]; unfold maxLen; have := Lib.itoa_length_le n hn.1 hn.2; omega) _ _ (Num.unhide HVar _ b5) (Num.unhide HG) (by have := b5.size; omega) (Num.unhide HTab _ b5)).mono ?_
        rintro e w6 ⟨d, fine, rfl, hg2, c6⟩
        have b6 := b5.trans (c6.mono b5.size)
        obtain ⟨rfl, rfl⟩ := ReadDec.good_one _ _ _ _ _ (dec_no n (by omega)) hg2
        clear hg2 b4 b5 c5 c6
        go_wp2_with fail
        refine (Hex.impl_any _ _ (by rw [Draw.size_mk]; omega)).mono ?_
        rintro e w7 ⟨rfl, c7⟩
        have b7 := b6.trans (c7.mono b6.size)
        go_wp2_with fail
        refine (Unhex.impl_walk _ _ (by rw [Draw.size_mk, Hex.length_hex]; omega)).mono ?_
        rintro e w8 ⟨l', t', rfl, hg3, c8⟩
        obtain ⟨rfl, rfl⟩ := Unhex.good_one _ _ _ _ _ (hex_good T) hg3
        have b8 := b7.trans (c8.mono b7.size)
        clear hg3 b6 b7 c7 c8
        go_wp2_with fail
        refine (Num.unhide HR _ (Num.unhide HC _ b8)).mono ?_
        rintro e w9 ⟨rfl, c9⟩
        have b9 := b8.trans (c9.mono b8.size)
        clear b8 c9
        go_wp2_with fail
        refine (ReadVar.impl_any R _ (by unfold maxLen; omega)).mono ?_
        rintro e wy ⟨z, j, rfl, hg4, rfl⟩
        by_cases hj : j = 0
        · subst hj
          have hj0 : ((0 : Int) == 0) = true := rfl
          clear hg4
          go_wp2
          go_ret
          exact ⟨rfl, b9⟩
        · obtain ⟨kk, rfl, hk1, hks, hk7, hv⟩ := read_again R z j hg4 hj
          have hj0 : ((kk : Int) == 0) = false := by rw [beq_eq_false_iff_ne]; exact hj
          have hj1 : (0 : Int) < (kk : Int) := by omega
          have hj2 : (kk : Int) ≤ (R.size : Int) := by omega
          clear hg4 hj
          go_wp2_with fail
          refine (Num.unhide HR _ (Num.unhide HC _ b9)).mono ?_
          rintro e w10 ⟨rfl, c10⟩
          have b10 := b9.trans (c10.mono b9.size)
          go_wp2_with fail
          refine (Var.impl_any z _).mono ?_
          rintro e w11 ⟨rfl, c11⟩
          have b11 := b10.trans (c11.mono b10.size)
          go_wp2_with fail
          refine (Num.unhide HR _ (Num.unhide HC _ b11)).mono ?_
          rintro e w12 ⟨rfl, c12⟩
          have b12 := b11.trans (c12.mono b11.size)
          clear b9 b10 b11 c10 c11 c12
          go_wp2
          go_ret
          exact ⟨rfl, b12⟩
      · have hmid2 : 72057594037927936 ≤ n := by omega
        go_wp2_with fail
        refine (Fixed.impl_any n 7 _ hn.2).mono ?_
        rintro e w4 ⟨rfl, c4⟩
        have b4 := b3.trans (c4.mono b3.size)
        rw [fixed_out n (by omega)]
        clear c4 b3
        go_wp2_with fail
        refine (ReadFixed.impl_any _ _ _ (by rw [ByteArray.size_append]; unfold maxLen; simp only [Draw.size_mk, List.length_nil]; omega)).mono ?_
        rintro e wx ⟨rfl, rfl⟩
        generalize ReadFixed.tells _ 7 = yt
        obtain ⟨yv, yt⟩ := yt
        go_wp2_with fail
        refine (Dec.impl_any n _ hn.1 hn.2 (Num.unhide HTab _ b4)).mono ?_
        rintro e w5 ⟨rfl, c5⟩
        have b5 := b4.trans (c5.mono b4.size)
        go_wp2_with fail
        refine (ReadDec.impl_any _ _ g (by rw [Draw.size_mk]; unfold maxLen; have := Lib.itoa_length_le n hn.1 hn.2; omega) _ _ (Num.unhide HVar _ b5) (Num.unhide HG) (by have := b5.size; omega) (Num.unhide HTab _ b5)).mono ?_
        rintro e w6 ⟨d, fine, rfl, hg2, c6⟩
        have b6 := b5.trans (c6.mono b5.size)
        obtain ⟨rfl, rfl⟩ := ReadDec.good_one _ _ _ _ _ (dec_no n (by omega)) hg2
        clear hg2 b4 b5 c5 c6
        go_wp2_with fail
        refine (Hex.impl_any _ _ (by rw [Draw.size_mk]; omega)).mono ?_
        rintro e w7 ⟨rfl, c7⟩
        have b7 := b6.trans (c7.mono b6.size)
        go_wp2_with fail
        refine (Unhex.impl_walk _ _ (by rw [Draw.size_mk, Hex.length_hex]; omega)).mono ?_
        rintro e w8 ⟨l', t', rfl, hg3, c8⟩
        obtain ⟨rfl, rfl⟩ := Unhex.good_one _ _ _ _ _ (hex_good T) hg3
        have b8 := b7.trans (c8.mono b7.size)
        clear hg3 b6 b7 c7 c8
        go_wp2_with fail
        refine (Num.unhide HR _ (Num.unhide HC _ b8)).mono ?_
        rintro e w9 ⟨rfl, c9⟩
        have b9 := b8.trans (c9.mono b8.size)
        clear b8 c9
        go_wp2_with fail
        refine (ReadVar.impl_any R _ (by unfold maxLen; omega)).mono ?_
        rintro e wy ⟨z, j, rfl, hg4, rfl⟩
        by_cases hj : j = 0
        · subst hj
          have hj0 : ((0 : Int) == 0) = true := rfl
          clear hg4
          go_wp2
          go_ret
          exact ⟨rfl, b9⟩
        · obtain ⟨kk, rfl, hk1, hks, hk7, hv⟩ := read_again R z j hg4 hj
          have hj0 : ((kk : Int) == 0) = false := by rw [beq_eq_false_iff_ne]; exact hj
          have hj1 : (0 : Int) < (kk : Int) := by omega
          have hj2 : (kk : Int) ≤ (R.size : Int) := by omega
          clear hg4 hj
          go_wp2_with fail
          refine (Num.unhide HR _ (Num.unhide HC _ b9)).mono ?_
          rintro e w10 ⟨rfl, c10⟩
          have b10 := b9.trans (c10.mono b9.size)
          go_wp2_with fail
          refine (Var.impl_any z _).mono ?_
          rintro e w11 ⟨rfl, c11⟩
          have b11 := b10.trans (c11.mono b10.size)
          go_wp2_with fail
          refine (Num.unhide HR _ (Num.unhide HC _ b11)).mono ?_
          rintro e w12 ⟨rfl, c12⟩
          have b12 := b11.trans (c12.mono b11.size)
          clear b9 b10 b11 c10 c11 c12
          go_wp2
          go_ret
          exact ⟨rfl, b12⟩
end Numbers
end Go.Proofs.YtfmfidlhbephmaaDoor
