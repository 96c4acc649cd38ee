/-
  FnChars: blanks around a text are gone; small letters stay; parts of a list put together are parted the same: for every draw, of a program whose functions tell what they are to tell.
-/
import Derived.Test.YtkogcbnbmdeolaaDoorDrawChars
import Derived.Test.YtkogcbnbmdeolaaDoorCharsNum
import Derived.Test.YtkogcbnbmdeolaaDoorStrs
import Derived.Test.YtkogcbnbmdeolaaDoorCode
import Derived.Test.YtkogcbnbmdeolaaDoorRegLaw
import Derived.Deep.Cut
namespace Go.Proofs.YtkogcbnbmdeolaaDoor
open Go.RowKit
set_option linter.unusedVariables false
set_option linter.unusedSimpArgs false
namespace Chars
open Draw Norm
open Sign (trim lower split secs)

theorem code_at {w W : World} {a : Option Addr} {l : List Int} (h : CodeAt w.heap.size w a l) (hb : Below w.heap.size w W) : CodeAt W.heap.size W a l := by
  have h2 := h.below hb
  refine ⟨h2.1, ?_⟩
  rcases h2.2 with h3 | ⟨x, y, h3, h4, h5⟩
  · exact .inl h3
  · exact .inr ⟨x, y, h3, Nat.lt_of_lt_of_le h4 hb.size, h5⟩
/-- a part's cell, and what is kept -/
abbrev Pt (G : World → Prop) (w : World) (b o : Nat) (t : ByteArray) (pv : Value) (P : List ByteArray) (W : World) : Prop := W.cell? ⟨b, o, none⟩ = some (.string t) ∧ G W ∧ Strs.Is W pv P ∧ Below w.heap.size w W
theorem Pt.step {G : World → Prop} {w : World} {b o : Nat} {t : ByteArray} {pv : Value} {P : List ByteArray} {W W' : World} (h : Pt G w b o t pv P W) (HG : ∀ W W', G W → Below W.heap.size W W' → G W') (hb : Below W.heap.size W W') : Pt G w b o t pv P W' :=
  ⟨(hb.cell (p := ⟨b, o, none⟩) (Recs.lt_of_cell h.1)).trans h.1, HG _ _ h.2.1 hb, Strs.is_below (B := 0) h.2.2.1 hb, h.2.2.2.trans (hb.mono h.2.2.2.size)⟩
/-- what is kept -/
structure Kp (G : World → Prop) (w : World) (pv : Value) (P : List ByteArray) (W : World) : Prop where
  g : G W
  is : Strs.Is W pv P
  below : Below w.heap.size w W
theorem Kp.step {G : World → Prop} {w : World} {pv : Value} {P : List ByteArray} {W W' : World} (h : Kp G w pv P W) (HG : ∀ W W', G W → Below W.heap.size W W' → G W') (hb : Below W.heap.size W W') : Kp G w pv P W' := ⟨HG _ _ h.g hb, Strs.is_below (B := 0) h.is hb, h.below.trans (hb.mono h.below.size)⟩
theorem same_text (x : ByteArray) : (x.toList == x.toList) = true := by simp
set_option maxRecDepth 100000 in
set_option maxHeartbeats 16000000 in
theorem law (G : World → Prop) (HGb : ∀ W W', G W → Below W.heap.size W W' → G W')
    (hTr : ∀ (s : ByteArray) (W : World), s.size ≤ 1048576 → G W → Calls Tryd.prog 11 #[.string s] W fun e w' => e = .returned (.string (trim s)) ∧ Below W.heap.size W w')
    (hLo : ∀ (s : ByteArray) (W : World), s.size ≤ 1048576 → G W → Calls Tryd.prog 13 #[.string s] W fun e w' => e = .returned (.string (lower s)) ∧ Below W.heap.size W w')
    (hSp : ∀ (s : ByteArray) (W : World), s.size ≤ 1048576 → G W → Calls Tryd.prog 15 #[.string s] W fun e w' => ∃ v, e = .returned v ∧ Strs.OwnS W.heap.size w' v (split s) ∧ Below W.heap.size W w')
    (hNo : ∀ (s : ByteArray) (W : World), s.size ≤ 1048576 → G W → Calls Tryd.prog 16 #[.string s] W fun e w' => e = .returned (.string (normal s)) ∧ Below W.heap.size W w')
    (hSe : ∀ (s : ByteArray) (W : World), s.size ≤ 1048576 → G W → Calls Tryd.prog 17 #[.string s] W fun e w' => e = .returned (.tuple #[.int .i64 (secs s).1, .bool (secs s).2]) ∧ Below W.heap.size W w')
    (a : Option Addr) (cap : Nat) (l0 : List Int) (w : World) (hcode : CodeAt w.heap.size w a l0) (hl0 : l0.length ≤ 1048576) (g : G w) :
    Calls Tryd.prog 3 #[.slice a l0.length cap] w fun e w' => e = .returned (.bool true) ∧ Below w.heap.size w w' := by
  have HC := Num.hide hcode
  have HBg := Num.hide (fun W => big_any a l0.length cap W (by omega))
  rw [decide_eq_false (by omega : ¬ (1048576 < (l0.length : Int)))] at HBg
  have HG := Num.hide HGb
  have Hg := Num.hide g
  have HTr := Num.hide hTr
  have HLo := Num.hide hLo
  have HSp := Num.hide hSp
  have HNo := Num.hide hNo
  have HSe := Num.hide hSe
  clear hcode g HGb hTr hLo hSp hNo hSe
  go_enter Tryd.func3, Tryd.ntmps3
  go_wp2_with fail
  refine (HBg.out _).mono ?_
  rintro e w0 ⟨rfl, rfl⟩
  go_wp2_with fail
  refine (trimD cap a l0 w HC.out hl0).mono ?_
  rintro e w1 ⟨s, rfl, hs, hb⟩
  have HG1 := Num.hide (HG.out _ _ Hg.out hb)
  have HB1 := Num.hide hb
  clear hb
  have HT1 := Num.hide (fun W => HTr.out s W (by omega))
  have HT2 := Num.hide (fun W => HTr.out (trim s) W (by have := Sign.trim_size s; omega))
  have HT3 := Num.hide (fun W => HTr.out (⟨#[32]⟩ ++ s ++ ⟨#[9]⟩) W (by rw [ByteArray.size_append, ByteArray.size_append]; have : (⟨#[32]⟩ : ByteArray).size = 1 := rfl; have : (⟨#[9]⟩ : ByteArray).size = 1 := rfl; omega))
  rw [trim_twice] at HT2
  rw [trim_around] at HT3
  have hus := Sign.trim_size s
  generalize trim s = u at HT1 HT2 HT3 hus
  go_wp2_with fail
  refine (HT1.out _ HG1.out).mono ?_
  rintro e w2 ⟨rfl, hb⟩
  have HG2 := Num.hide (HG.out _ _ HG1.out hb)
  have HB2 := Num.hide (HB1.out.trans (hb.mono HB1.out.size))
  clear hb HG1 HB1 HT1
  go_wp2_with fail
  refine (lowerD cap a l0 _ (code_at HC.out HB2.out) hl0).mono ?_
  rintro e w3 ⟨l, rfl, hl, hb⟩
  have HG3 := Num.hide (HG.out _ _ HG2.out hb)
  have HB3 := Num.hide (HB2.out.trans (hb.mono HB2.out.size))
  clear hb HG2 HB2
  have hzl := Sign.size_lower l
  have HL1 := Num.hide (fun W => HLo.out l W (by omega))
  have HL2 := Num.hide (fun W => HLo.out (lower l) W (by omega))
  rw [Cc.lower_twice] at HL2
  generalize lower l = m at HL1 HL2 hzl
  go_wp2_with fail
  refine (HL1.out _ HG3.out).mono ?_
  rintro e w4 ⟨rfl, hb⟩
  have HG4 := Num.hide (HG.out _ _ HG3.out hb)
  have HB4 := Num.hide (HB3.out.trans (hb.mono HB3.out.size))
  clear hb HG3 HB3 HL1
  go_wp2_with fail
  refine (normalD cap a l0 _ (code_at HC.out HB4.out) hl0).mono ?_
  rintro e w5 ⟨n, rfl, hn, hb⟩
  have HG5 := Num.hide (HG.out _ _ HG4.out hb)
  have HB5 := Num.hide (HB4.out.trans (hb.mono HB4.out.size))
  clear hb HG4 HB4
  have HS1 := Num.hide (fun W => HSp.out n W (by omega))
  have HN1 := Num.hide (fun W => HNo.out n W (by omega))
  have hpq := normal_parts n
  have hnz := normal_size n
  have HS2 := Num.hide (fun W => HSp.out (normal n) W (by omega))
  have hpl := Cc.split_len n
  have hpk := Num.hide (parts_ok n)
  have hpz := Num.hide (Cc.split_small n)
  generalize split n = P at HS1 hpq hpk hpl hpz
  generalize split (normal n) = Q at HS2 hpq
  generalize normal n = nn at HN1 HS2 hnz
  go_wp2_with fail
  refine (HS1.out _ HG5.out).mono ?_
  rintro e w6 ⟨pv, rfl, ho, hb⟩
  obtain ⟨pa, pc, rfl⟩ := Strs.own_len ho
  have HK6 : Hid (Kp G w (.slice pa P.length pc) P w6) := ⟨HG.out _ _ HG5.out hb, Strs.own_is ho, HB5.out.trans (hb.mono HB5.out.size)⟩
  clear hb ho HG5 HB5 HS1
  go_wp2_with fail
  refine (HN1.out _ HK6.out.g).mono ?_
  rintro e w7 ⟨rfl, hb⟩
  have HK7 := Num.hide (Kp.step HK6.out HG.out hb)
  clear hb HK6 HN1
  go_wp2_with fail
  refine (HS2.out _ HK7.out.g).mono ?_
  rintro e w8 ⟨qv, rfl, ho, hb⟩
  obtain ⟨qa, qc, rfl⟩ := Strs.own_len ho
  have HK8 := Num.hide (Kp.step HK7.out HG.out hb)
  clear hb ho HK7 HS2
  go_wp2
  go_loopw [10] (fun iv wr => ∃ i : Nat, i ≤ P.length ∧ iv = .int .i64 (i : Int) ∧ Hid (Kp G w (.slice pa P.length pc) P wr)) (fun iv _ => P.length - (intOf iv).toNat)
  case atStart => exact ⟨0, by omega, rfl, HK8⟩
  case round =>
  clear HK8
  obtain ⟨i, hi, rfl, HK⟩ := hrel
  by_cases hlt : i < P.length
  · obtain ⟨b, po, rfl, hc1, hc2, hcell⟩ : ∃ b po, pa = some ⟨b, po, none⟩ ∧ P.length ≤ pc ∧ pc ≤ maxLen ∧ wr.cell? ⟨b, po + i, none⟩ = some (.string P[i]) := by
      rcases HK.out.is with ⟨h1, _⟩ | ⟨b, o, c, h1, h2, h3, h4⟩
      · rw [h1] at hlt; exact absurd hlt (Nat.not_lt_zero _)
      · cases h1; exact ⟨b, o, rfl, h2, h3, h4 i hlt⟩
    obtain ⟨hne, htr⟩ := hpk.out P[i] (List.getElem_mem hlt)
    have hz := hpz.out P[i] (List.getElem_mem hlt)
    have HTt := Num.hide (fun W => HTr.out P[i] W (by omega))
    rw [htr] at HTt
    generalize P[i] = t at hcell hne HTt hz
    have e0 : t.toList.isEmpty = false := by
      rw [ByteArray.toList_eq]
      cases h : t.data.toList with
      | nil => exact absurd (by show t.data.size = 0; rw [← Array.length_toList, h]; rfl) hne
      | cons c r => rfl
    have e1 : (t.toList == []) = false := by
      rw [beq_eq_false_iff_ne]
      intro h
      rw [h] at e0; cases e0
    have e2 := same_text t
    have HP : Hid (Pt G w b (po + i) t (.slice (some ⟨b, po, none⟩) P.length pc) P wr.drew) := ⟨hcell, HG.out _ _ HK.out.g (Below.refl _ _).drew, HK.out.is, HK.out.below.trans ((Below.refl _ _).drew)⟩
    clear hcell htr hz HK
    go_wp2
    refine wp_region_held_drew (S := Pt G w b (po + i) t (.slice (some ⟨b, po, none⟩) P.length pc) P) (by kernel_rfl) HP.out (fun hHeld => ?_)
    refine Reg.take (i := 0) (d := 37) (v := ?_) rfl rfl (by kernel_rfl) (by kernel_rfl) (by kernel_rfl) (fun _ _ _ h => h) (by rfl) ?_ hHeld ?_
    rotate_left
    · rintro W ⟨c1, -, -, -⟩
      first | (go_simp; done) | (go_simp; with_reducible rfl)
    simp only [Act.put, List.setIfInBounds_toArray, List.set_cons_zero, List.set_cons_succ]
    refine Reg.take (i := 1) (d := 38) (v := ?_) rfl rfl (by kernel_rfl) (by kernel_rfl) (by kernel_rfl) (fun _ _ _ h => h) (by rfl) ?_ hHeld ?_
    rotate_left
    · rintro W ⟨c1, -, -, -⟩
      first | (go_simp; done) | (go_simp; with_reducible rfl)
    simp only [Act.put, List.setIfInBounds_toArray, List.set_cons_zero, List.set_cons_succ]
    refine Reg.take (i := 2) (d := 39) (v := ?_) rfl rfl (by kernel_rfl) (by kernel_rfl) (by kernel_rfl) (fun _ _ _ h => h) (by rfl) ?_ hHeld ?_
    rotate_left
    · rintro W ⟨c1, -, -, -⟩
      first | (go_simp; done) | (go_simp; with_reducible rfl)
    simp only [Act.put, List.setIfInBounds_toArray, List.set_cons_zero, List.set_cons_succ]
    refine Reg.take (i := 3) (d := 40) (v := ?_) rfl rfl (by kernel_rfl) (by kernel_rfl) (by kernel_rfl) (fun _ _ _ h => h) (by rfl) ?_ hHeld ?_
    rotate_left
    · rintro W ⟨c1, -, -, -⟩
      first | (go_simp; done) | (go_simp; with_reducible rfl)
    simp only [Act.put, List.setIfInBounds_toArray, List.set_cons_zero, List.set_cons_succ]
    refine Reg.take (i := 4) (d := 41) (v := ?_) rfl rfl (by kernel_rfl) (by kernel_rfl) (by kernel_rfl) (fun _ _ _ h => h) (by rfl) ?_ hHeld ?_
    rotate_left
    · rintro W ⟨c1, -, -, -⟩
      first | (go_simp; done) | (go_simp; with_reducible rfl)
    simp only [Act.put, List.setIfInBounds_toArray, List.set_cons_zero, List.set_cons_succ]
    refine Reg.take (i := 5) (d := 42) (v := ?_) rfl rfl (by kernel_rfl) (by kernel_rfl) (by kernel_rfl) (fun _ _ _ h => h) (by rfl) ?_ hHeld ?_
    rotate_left
    · rintro W ⟨c1, -, -, -⟩
      first | (go_simp; done) | (go_simp; with_reducible rfl)
    simp only [Act.put, List.setIfInBounds_toArray, List.set_cons_zero, List.set_cons_succ]
    refine Reg.take (i := 6) (d := 43) (v := ?_) rfl rfl (by kernel_rfl) (by kernel_rfl) (by kernel_rfl) (fun _ _ _ h => h) (by rfl) ?_ hHeld ?_
    rotate_left
    · rintro W ⟨c1, -, -, -⟩
      first | (go_simp; done) | (go_simp; with_reducible rfl)
    simp only [Act.put, List.setIfInBounds_toArray, List.set_cons_zero, List.set_cons_succ]
    refine Reg.take (i := 7) (d := 44) (v := ?_) rfl rfl (by kernel_rfl) (by kernel_rfl) (by kernel_rfl) (fun _ _ _ h => h) (by rfl) ?_ hHeld ?_
    rotate_left
    · rintro W ⟨c1, -, -, -⟩
      first | (go_simp; done) | (go_simp; with_reducible rfl)
    simp only [Act.put, List.setIfInBounds_toArray, List.set_cons_zero, List.set_cons_succ]
    refine Reg.take (i := 8) (d := 45) (v := ?_) rfl rfl (by kernel_rfl) (by kernel_rfl) (by kernel_rfl) (fun _ _ _ h => h) (by rfl) ?_ hHeld ?_
    rotate_left
    · rintro W ⟨c1, -, -, -⟩
      first | (go_simp; done) | (go_simp; with_reducible rfl)
    simp only [Act.put, List.setIfInBounds_toArray, List.set_cons_zero, List.set_cons_succ]
    refine Reg.take (i := 9) (d := 46) (v := ?_) rfl rfl (by kernel_rfl) (by kernel_rfl) (by kernel_rfl) (fun _ _ _ h => h) (by rfl) ?_ hHeld ?_
    rotate_left
    · rintro W ⟨c1, -, -, -⟩
      first | (go_simp; done) | (go_simp; with_reducible rfl)
    simp only [Act.put, List.setIfInBounds_toArray, List.set_cons_zero, List.set_cons_succ]
    refine Reg.take (i := 11) (d := 48) (v := ?_) rfl rfl (by kernel_rfl) (by kernel_rfl) (by kernel_rfl) (fun _ _ _ h => h) (by rfl) ?_ hHeld ?_
    rotate_left
    · rintro W ⟨c1, -, -, -⟩
      first | (go_simp; done) | (go_simp; with_reducible rfl)
    simp only [Act.put, List.setIfInBounds_toArray, List.set_cons_zero, List.set_cons_succ]
    refine Reg.take (i := 12) (d := 49) (v := ?_) rfl rfl (by kernel_rfl) (by kernel_rfl) (by kernel_rfl) (fun _ _ _ h => h) (by rfl) ?_ hHeld ?_
    rotate_left
    · rintro W ⟨c1, -, -, -⟩
      first | (go_simp; done) | (go_simp; with_reducible rfl)
    simp only [Act.put, List.setIfInBounds_toArray, List.set_cons_zero, List.set_cons_succ]
    refine Reg.take (i := 13) (d := 50) (v := ?_) rfl rfl (by kernel_rfl) (by kernel_rfl) (by kernel_rfl) (fun _ _ _ h => h) (by rfl) ?_ hHeld ?_
    rotate_left
    · rintro W ⟨c1, -, -, -⟩
      first | (go_simp; done) | (go_simp; with_reducible rfl)
    simp only [Act.put, List.setIfInBounds_toArray, List.set_cons_zero, List.set_cons_succ]
    refine Reg.take (i := 14) (d := 51) (v := ?_) rfl rfl (by kernel_rfl) (by kernel_rfl) (by kernel_rfl) (fun _ _ _ h => h) (by rfl) ?_ hHeld ?_
    rotate_left
    · rintro W ⟨c1, -, -, -⟩
      first | (go_simp; done) | (go_simp; with_reducible rfl)
    simp only [Act.put, List.setIfInBounds_toArray, List.set_cons_zero, List.set_cons_succ]
    refine Reg.call (i := 10) rfl (by kernel_rfl) (by rfl) (fun K hK => ?_)
    go_wp2_with (first | (go_at_call 11; refine (HTt.out _ hHeld.2.1).mono ?_; rintro e z1 ⟨rfl, hb1⟩))
    refine hK.out _ _ ?_ (fun hHeld2 => ?_)
    · exact hHeld.step HG.out hb1
    clear hK K
    replace hHeld := hHeld2
    clear hHeld2
    refine Reg.take (i := 15) (d := 52) (v := ?_) rfl rfl (by kernel_rfl) (by kernel_rfl) (by kernel_rfl) (fun _ _ _ h => h) (by rfl) ?_ hHeld ?_
    rotate_left
    · rintro W ⟨c1, -, -, -⟩
      first | (go_simp; done) | (go_simp; with_reducible rfl)
    simp only [Act.put, List.setIfInBounds_toArray, List.set_cons_zero, List.set_cons_succ]
    refine Reg.take (i := 16) (d := 53) (v := ?_) rfl rfl (by kernel_rfl) (by kernel_rfl) (by kernel_rfl) (fun _ _ _ h => h) (by rfl) ?_ hHeld ?_
    rotate_left
    · rintro W ⟨c1, -, -, -⟩
      first | (go_simp; done) | (go_simp; with_reducible rfl)
    simp only [Act.put, List.setIfInBounds_toArray, List.set_cons_zero, List.set_cons_succ]
    refine wpAnyH_done (by kernel_rfl) ?_ _
    obtain ⟨c1, hg1, hi1, hb1'⟩ := hHeld
    have HK : Hid (Kp G w (.slice (some ⟨b, po, none⟩) P.length pc) P z1) := ⟨hg1, hi1, hb1'⟩
    clear c1 hg1 hi1 hb1' HP HTt e0 e1
    go_wp2
    go_roundw
    case rel => exact ⟨i + 1, by omega, by go_num, HK⟩
    case measure => simp [intOf]; omega
  · obtain rfl : i = P.length := by omega
    go_wp2
    go_loop [11] (fun kv => ∃ k : Nat, k ≤ u.size ∧ kv = .int .i64 (k : Int)) (fun kv => u.size - (intOf kv).toNat)
    case atStart => exact ⟨0, by omega, rfl⟩
    case round =>
    obtain ⟨k, hk, rfl⟩ := hrel
    have hnu : decide ((s.size : Int) < (u.size : Int)) = false := decide_eq_false (by omega)
    by_cases hku : k < u.size
    · go_wp2
      go_round
      case rel => exact ⟨k + 1, by omega, by go_num⟩
      case measure => simp [intOf]; omega
    · obtain rfl : k = u.size := by omega
      go_wp2_with fail
      refine (secsD cap a l0 _ (code_at HC.out HK.out.below) hl0).mono ?_
      rintro e w9 ⟨x, rfl, hx, hb⟩
      have HK9 := Num.hide (Kp.step HK.out HG.out hb)
      clear hb HK
      have HX := Num.hide (fun W => HSe.out x W (by omega))
      have hxb := secs_bd x
      have hxf := secs_flag x
      generalize secs x = sc at HX hxb hxf
      obtain ⟨v, vb⟩ := sc
      simp only at HX hxb hxf
      go_wp2_with fail
      refine (HX.out _ HK9.out.g).mono ?_
      rintro e w10 ⟨rfl, hb⟩
      have HK10 := Num.hide (Kp.step HK9.out HG.out hb)
      clear hb HK9 HX
      have f1 := same_text u
      have f2 := same_text m
      have f3 : ((m.size : Int) == (l.size : Int)) = true := by rw [beq_iff_eq]; omega
      have f4 : decide ((Q.length : Int) ≤ (P.length : Int)) = true := decide_eq_true (by omega)
      have f5 : decide ((0 : Int) ≤ v) = true := decide_eq_true hxb.1
      have f6 : decide (v ≤ (2147483648 : Int)) = true := decide_eq_true hxb.2
      have hno1 : ¬ 9223372036854775807 < 1 + s.size := by omega
      have hno2 : ¬ 9223372036854775807 < 1 + s.size + 1 := by omega
      go_wp2_with fail
      refine (HT2.out _ HK10.out.g).mono ?_
      rintro e w11 ⟨rfl, hb⟩
      have HK11 := Num.hide (Kp.step HK10.out HG.out hb)
      clear hb HK10 HT2
      go_wp2_with fail
      refine (HT3.out _ HK11.out.g).mono ?_
      rintro e w12 ⟨rfl, hb⟩
      have HK12 := Num.hide (Kp.step HK11.out HG.out hb)
      clear hb HK11 HT3
      go_wp2_with fail
      refine (HL2.out _ HK12.out.g).mono ?_
      rintro e w13 ⟨rfl, hb⟩
      have HB := Num.hide (Kp.step HK12.out HG.out hb).below
      clear hb HK12 HL2
      rcases hxf with rfl | rfl
      · go_wp2
        go_ret
        exact ⟨by first | rfl | simp, HB.out⟩
      · cases vb with
        | true =>
          go_wp2
          go_ret
          exact ⟨by first | rfl | simp, HB.out⟩
        | false =>
          have f7 : ((0 : Int) == 0) = true := rfl
          go_wp2
          go_ret
          exact ⟨by first | rfl | simp, HB.out⟩
end Chars
end Go.Proofs.YtkogcbnbmdeolaaDoor
