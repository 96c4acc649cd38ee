/-
  DateReadSpec: l4Num and ReadDate of the specification: a date off its text; what was there stays.
-/
import Derived.Test.YtihiljickefanaaDoorQan
import Derived.Test.YtihiljickefanaaDoorQas
import Derived.Laws.Strings
import Derived.RegionTactic
import Derived.BigRegion
import Derived.ChangeAlike
namespace Go.Proofs.YtihiljickefanaaDoor
open Go.RowKit
set_option linter.unusedVariables false
namespace Date
open Line (byteAt byteAt_eq)

set_option maxRecDepth 100000 in
set_option maxHeartbeats 2000000 in
theorem num_spec (s : ByteArray) (a n : Nat) (w : World) (hs : s.size = 29) (ha : a + n ≤ 29) (hn : n ≤ 4) : Calls Tryd.prog 32 #[.string s, .int .i64 a, .int .i64 n] w fun e w' => e = .returned (.int .i64 (numAt s a n)) ∧ w = w' := by
  obtain ⟨r, hr⟩ : ∃ r, numAt s a n = r := ⟨_, rfl⟩
  rw [hr]
  unfold numAt at hr
  have HR := Num.hide hr
  have hsz : s.size ≤ 29 := by omega
  have HS := Num.hide hs
  clear hr hs
  go_enter Tryd.func32, Tryd.ntmps32
  go_wp2
  go_loop [7, 8] (fun xv iv => ∃ (j : Nat) (x : Int), a ≤ j ∧ j ≤ a + n ∧ iv = .int .i64 (j : Int) ∧ xv = .int .i64 x ∧ 0 ≤ x ∧ Hid (x + 1 ≤ 10 ^ (j - a)) ∧ Hid (numGo s (a + n - j) j x = r)) (fun _ iv => (a + n - intOf iv).toNat)
  case atStart => exact ⟨a, 0, by omega, by omega, rfl, rfl, by omega, by show (0 : Int) + 1 ≤ 10 ^ (a - a); rw [Nat.sub_self]; decide, by rw [show a + n - a = n by omega]; exact HR⟩
  case round =>
    clear HR
    obtain ⟨j, x, hj, hjn, rfl, rfl, hx0, HX, HE⟩ := hrel
    by_cases hlt : (j : Int) < (a : Int) + (n : Int)
    · have hls : j < s.size := by have := HS.out; omega
      have hxb : x ≤ 9999 := by
        have h1 := HX.out
        have hp : (10 : Int) ^ (j - a) ≤ 10000 := by
          have : j - a ≤ 4 := by omega
          generalize j - a = m at this
          match m, this with
          | 0, _ => decide
          | 1, _ => decide
          | 2, _ => decide
          | 3, _ => decide
          | 4, _ => decide
        omega
      have he := HE.out
      rw [show a + n - j = (a + n - (j + 1)) + 1 by omega, numGo, byteAt_eq s j hls] at he
      have hc := s[j].toNat_lt
      by_cases h1 : 48 ≤ (s[j].toNat : Int)
      · have d1 : decide ((s[j].toNat : Int) < 48) = false := by simp; omega
        by_cases h2 : (s[j].toNat : Int) ≤ 57
        · have d2 : decide (57 < (s[j].toNat : Int)) = false := by simp; omega
          rw [if_pos (by omega)] at he
          have HE2 := Num.hide he
          have HX2 : Hid (x * 10 + ((s[j].toNat : Int) - 48) + 1 ≤ 10 ^ (j + 1 - a)) := by
            show _ ≤ _
            rw [show j + 1 - a = (j - a) + 1 by omega, Int.pow_succ]
            have := HX.out
            omega
          clear he HX HE
          go_wp2
          all_goals go_round
          case rel => exact ⟨j + 1, _, by omega, by omega, by go_num, rfl, by omega, HX2, HE2⟩
          case measure => simp [intOf]; omega
        · have d2 : decide (57 < (s[j].toNat : Int)) = true := by simp; omega
          rw [if_neg (by omega)] at he
          subst he
          clear HE
          go_wp2
          all_goals go_ret
          all_goals exact ⟨rfl, rfl⟩
      · have d1 : decide ((s[j].toNat : Int) < 48) = true := by simp; omega
        rw [if_neg (by omega)] at he
        subst he
        clear HE
        go_wp2
        all_goals go_ret
        all_goals exact ⟨rfl, rfl⟩
    · have he := HE.out
      rw [show a + n - j = 0 by omega, numGo] at he
      subst he
      clear HE
      go_wp2
      go_ret
      exact ⟨rfl, rfl⟩
set_option maxRecDepth 100000 in
set_option maxHeartbeats 2000000 in
theorem read_spec (s : ByteArray) (w : World) (hs : s.size ≤ maxLen) : Calls Tryd.prog 20 #[.string s] w fun e w' => e = .returned (.tuple #[.int .i64 (readN s), .bool (readB s)]) ∧ Below w.heap.size w w' := by
  unfold maxLen at hs
  by_cases h29 : s.size = 29
  · obtain ⟨N, hN⟩ : ∃ N, readN s = N := ⟨_, rfl⟩
    obtain ⟨b, hb⟩ : ∃ b, readB s = b := ⟨_, rfl⟩
    rw [hN, hb]
    have HN := Num.hide hN
    have HBb := Num.hide hb
    have H29 := Num.hide h29
    have d29 : ((s.size : Int) != 29) = false := by rw [bne_eq_false_iff_eq]; omega
    have h8 : (11 : Int) ≤ (s.size : Int) := by omega
    clear hN hb h29
    go_enter Tryd.func20, Tryd.ntmps20
    go_wp2
    go_loopw [4, 5] (fun ov mv wr => ∃ k : Nat, k ≤ 12 ∧ mv = .int .i64 ((k : Int) + 1) ∧ ov = .int .i64 (monGo (s.extract 8 11) k) ∧ Hid (Below w.heap.size w wr)) (fun _ mv _ => (13 - intOf mv).toNat)
    case atStart => exact ⟨0, by omega, by simp, rfl, Below.refl _ _⟩
    case round =>
      obtain ⟨k, hk, rfl, rfl, HB⟩ := hrel
      have hsz := HB.out.size
      by_cases hlt : (k : Int) + 1 ≤ 12
      · have hc := ncell wr k (by omega)
        have hm : monGo (s.extract 8 11) (k + 1) = if s.extract 8 11 = name k then (k : Int) + 1 else monGo (s.extract 8 11) k := rfl
        have HB1 := Num.hide (HB.out.alloc hsz (.cells nrow 9))
        unfold nrow at hc HB1
        generalize name k = nm at hc hm
        by_cases he : s.extract 8 11 = nm
        · have hq : ((s.extract 8 11).toList == nm.toList) = true := by rw [he]; exact beq_self_eq_true _
          rw [if_pos he] at hm
          have HM := Num.hide hm
          clear hm he
          go_wp2
          go_region
          go_wp2
          go_roundw
          case rel => exact ⟨k + 1, by omega, by go_num, by rw [HM.out], HB1.out.drew⟩
          case measure => simp [intOf]; omega
        · have hq : ((s.extract 8 11).toList == nm.toList) = false := by
            rw [beq_eq_false_iff_ne, ByteArray.toList_eq, ByteArray.toList_eq]
            intro e; exact he (ByteArray.ext (Array.toList_inj.1 e))
          rw [if_neg he] at hm
          have HM := Num.hide hm
          clear hm he
          go_wp2
          go_region
          go_wp2
          go_roundw
          case rel => exact ⟨k + 1, by omega, by go_num, by rw [HM.out], HB1.out.drew⟩
          case measure => simp [intOf]; omega
      · obtain rfl : k = 12 := by omega
        have hmon : monGo (s.extract 8 11) 12 = mon s := rfl
        rw [hmon]
        have H1 := Num.hide (fun W => num_spec s 12 4 W H29.out (by omega) (by omega))
        have H2 := Num.hide (fun W => num_spec s 5 2 W H29.out (by omega) (by omega))
        have H3 := Num.hide (fun W => num_spec s 17 2 W H29.out (by omega) (by omega))
        have H4 := Num.hide (fun W => num_spec s 20 2 W H29.out (by omega) (by omega))
        have H5 := Num.hide (fun W => num_spec s 23 2 W H29.out (by omega) (by omega))
        have HD := Num.hide (fun W => days_spec (numAt s 12 4) (mon s) (numAt s 5 2) W)
        have hdd : days (numAt s 12 4) (mon s) (numAt s 5 2) = dayOf s := rfl
        rw [hdd] at HD
        have hsec : secOf s = dayOf s * 86400 + numAt s 17 2 * 3600 + numAt s 20 2 * 60 + numAt s 23 2 := rfl
        have bd := days_bd (numAt s 12 4) (mon s) (numAt s 5 2)
        rw [hdd] at bd
        have bh := numGo_bd s 2 17 0 (by omega) (by omega) (by omega)
        have bm := numGo_bd s 2 20 0 (by omega) (by omega) (by omega)
        have bx := numGo_bd s 2 23 0 (by omega) (by omega) (by omega)
        have hrd : read s = if dayOf s < 0 ∨ numAt s 17 2 < 0 ∨ numAt s 20 2 < 0 ∨ numAt s 23 2 < 0 then none else if shown (secOf s) = s then some (secOf s) else none := by
          unfold read; rw [if_pos H29.out]
        have HS := Num.hide (fun W => date_spec (secOf s) W)
        change -1 ≤ numAt s 17 2 ∧ numAt s 17 2 ≤ _ at bh
        change -1 ≤ numAt s 20 2 ∧ numAt s 20 2 ≤ _ at bm
        change -1 ≤ numAt s 23 2 ∧ numAt s 23 2 ≤ _ at bx
        rw [hsec] at hrd HS
        clear hmon hdd hsec
        generalize dayOf s = D at HD bd hrd HS
        generalize numAt s 12 4 = y at H1 HD
        generalize numAt s 5 2 = dd at H2 HD
        generalize numAt s 17 2 = hh at H3 bh hrd HS
        generalize numAt s 20 2 = mm at H4 bm hrd HS
        generalize numAt s 23 2 = xx at H5 bx hrd HS
        generalize mon s = mo at HD ⊢
        have HRd := Num.hide hrd
        clear hrd
        go_wp2_with fail
        refine (H1.out _).mono ?_
        rintro e w1 ⟨rfl, rfl⟩
        go_wp2_with fail
        refine (H2.out _).mono ?_
        rintro e w1 ⟨rfl, rfl⟩
        go_wp2_with fail
        refine (HD.out _).mono ?_
        rintro e w1 ⟨rfl, hb1⟩
        have HB1 := Num.hide (HB.out.trans (hb1.mono hsz))
        have hsz1 := HB1.out.size
        clear hb1
        go_wp2_with fail
        refine (H3.out _).mono ?_
        rintro e w2 ⟨rfl, rfl⟩
        go_wp2_with fail
        refine (H4.out _).mono ?_
        rintro e w2 ⟨rfl, rfl⟩
        go_wp2_with fail
        refine (H5.out _).mono ?_
        rintro e w2 ⟨rfl, rfl⟩
        by_cases g1 : D < 0
        · have hr := HRd.out
          rw [if_pos (.inl g1)] at hr
          obtain rfl : N = 0 := by rw [← HN.out]; unfold readN; rw [hr]; rfl
          obtain rfl : b = false := by rw [← HBb.out]; unfold readB; rw [hr]; rfl
          clear hr HRd HN HBb
          go_wp2
          go_ret2
          exact ⟨rfl, HB1.out⟩
        · have k1 : decide (D < 0) = false := by rw [decide_eq_false_iff_not]; exact g1
          by_cases g2 : hh < 0
          · have hr := HRd.out
            rw [if_pos (.inr (.inl g2))] at hr
            obtain rfl : N = 0 := by rw [← HN.out]; unfold readN; rw [hr]; rfl
            obtain rfl : b = false := by rw [← HBb.out]; unfold readB; rw [hr]; rfl
            clear hr HRd HN HBb
            go_wp2
            go_ret2
            exact ⟨rfl, HB1.out⟩
          · have k2 : decide (hh < 0) = false := by rw [decide_eq_false_iff_not]; exact g2
            by_cases g3 : mm < 0
            · have hr := HRd.out
              rw [if_pos (.inr (.inr (.inl g3)))] at hr
              obtain rfl : N = 0 := by rw [← HN.out]; unfold readN; rw [hr]; rfl
              obtain rfl : b = false := by rw [← HBb.out]; unfold readB; rw [hr]; rfl
              clear hr HRd HN HBb
              go_wp2
              go_ret2
              exact ⟨rfl, HB1.out⟩
            · have k3 : decide (mm < 0) = false := by rw [decide_eq_false_iff_not]; exact g3
              by_cases g4 : xx < 0
              · have hr := HRd.out
                rw [if_pos (.inr (.inr (.inr g4)))] at hr
                obtain rfl : N = 0 := by rw [← HN.out]; unfold readN; rw [hr]; rfl
                obtain rfl : b = false := by rw [← HBb.out]; unfold readB; rw [hr]; rfl
                clear hr HRd HN HBb
                go_wp2
                go_ret2
                exact ⟨rfl, HB1.out⟩
              · have k4 : decide (xx < 0) = false := by rw [decide_eq_false_iff_not]; exact g4
                have hr := HRd.out
                rw [if_neg (by omega)] at hr
                generalize shown (D * 86400 + hh * 3600 + mm * 60 + xx) = t at HS hr
                by_cases g5 : t = s
                · rw [if_pos g5] at hr
                  subst g5
                  obtain rfl : N = D * 86400 + hh * 3600 + mm * 60 + xx := by rw [← HN.out]; unfold readN; rw [hr]; rfl
                  obtain rfl : b = true := by rw [← HBb.out]; unfold readB; rw [hr]; rfl
                  clear hr HRd HN HBb
                  go_wp2_with fail
                  refine (HS.out _).mono ?_
                  rintro e w3 ⟨rfl, hb3⟩
                  have HB3 := Num.hide (HB1.out.trans (hb3.mono hsz1))
                  clear hb3
                  go_wp2
                  go_ret2
                  exact ⟨rfl, HB3.out⟩
                · rw [if_neg g5] at hr
                  have hq : (t.toList == s.toList) = false := by
                    rw [beq_eq_false_iff_ne, ByteArray.toList_eq, ByteArray.toList_eq]
                    intro e; exact g5 (ByteArray.ext (Array.toList_inj.1 e))
                  have hq2 : (t.toList != s.toList) = true := by rw [bne, hq]; rfl
                  obtain rfl : N = 0 := by rw [← HN.out]; unfold readN; rw [hr]; rfl
                  obtain rfl : b = false := by rw [← HBb.out]; unfold readB; rw [hr]; rfl
                  clear hr HRd HN HBb g5
                  go_wp2_with fail
                  refine (HS.out _).mono ?_
                  rintro e w3 ⟨rfl, hb3⟩
                  have HB3 := Num.hide (HB1.out.trans (hb3.mono hsz1))
                  clear hb3
                  go_wp2
                  go_ret2
                  exact ⟨rfl, HB3.out⟩
  · have hr : read s = none := by unfold read; rw [if_neg h29]
    have hN : readN s = 0 := by unfold readN; rw [hr]; rfl
    have hb : readB s = false := by unfold readB; rw [hr]; rfl
    rw [hN, hb]
    have d29 : ((s.size : Int) != 29) = true := by rw [bne_iff_ne]; omega
    clear hr hN hb h29
    go_enter Tryd.func20, Tryd.ntmps20
    go_wp2
    go_ret2
    exact ⟨rfl, Below.refl _ _⟩
end Date
end Go.Proofs.YtihiljickefanaaDoor
