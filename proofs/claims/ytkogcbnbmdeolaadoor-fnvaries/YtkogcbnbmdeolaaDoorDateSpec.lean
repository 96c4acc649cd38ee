/-
  ShowDate of the specification: the text of a date; what was there stays.
-/
import Derived.Test.YtkogcbnbmdeolaaDoorDateText
import Derived.Test.YtkogcbnbmdeolaaDoorDecSpec
namespace Go.Proofs.YtkogcbnbmdeolaaDoor
open Go.RowKit
set_option linter.unusedVariables false
namespace Date

def wrow : Array Value := #[.string ⟨#[84, 104, 117]⟩, .string ⟨#[70, 114, 105]⟩, .string ⟨#[83, 97, 116]⟩, .string ⟨#[83, 117, 110]⟩, .string ⟨#[77, 111, 110]⟩, .string ⟨#[84, 117, 101]⟩, .string ⟨#[87, 101, 100]⟩]
def nrow : Array Value := #[.string ⟨#[74, 97, 110]⟩, .string ⟨#[70, 101, 98]⟩, .string ⟨#[77, 97, 114]⟩, .string ⟨#[65, 112, 114]⟩, .string ⟨#[77, 97, 121]⟩, .string ⟨#[74, 117, 110]⟩, .string ⟨#[74, 117, 108]⟩, .string ⟨#[65, 117, 103]⟩, .string ⟨#[83, 101, 112]⟩, .string ⟨#[79, 99, 116]⟩, .string ⟨#[78, 111, 118]⟩, .string ⟨#[68, 101, 99]⟩]
theorem wcell (w : World) (k : Nat) (h : k < 7) : (w.alloc (.cells wrow 9)).cell? ⟨w.heap.size, k, none⟩ = some (.string (week k)) := by
  rw [cell_of_row _ _ _ _ _ _ (heap_alloc_new w _)]
  match k, h with
  | 0, _ => rfl
  | 1, _ => rfl
  | 2, _ => rfl
  | 3, _ => rfl
  | 4, _ => rfl
  | 5, _ => rfl
  | 6, _ => rfl
theorem ncell (w : World) (k : Nat) (h : k < 12) : (w.alloc (.cells nrow 9)).cell? ⟨w.heap.size, k, none⟩ = some (.string (name k)) := by
  rw [cell_of_row _ _ _ _ _ _ (heap_alloc_new w _)]
  match k, h with
  | 0, _ => rfl
  | 1, _ => rfl
  | 2, _ => rfl
  | 3, _ => rfl
  | 4, _ => rfl
  | 5, _ => rfl
  | 6, _ => rfl
  | 7, _ => rfl
  | 8, _ => rfl
  | 9, _ => rfl
  | 10, _ => rfl
  | 11, _ => rfl
theorem days_year (j : Nat) (h : j ≤ 66) : days (1970 + (j : Int) + 1) 1 1 = ysum (j + 1) := by
  have := days_parts (j + 1) 0 0 (by omega) (by omega) (by omega) (by have := mlen_bd (1970 + ((j + 1 : Nat) : Int)) 0 (by omega); omega)
  rw [show (1970 + (j : Int) + 1) = 1970 + ((j + 1 : Nat) : Int) by omega]
  simp only [Int.zero_add, msum, Int.add_zero] at this
  exact this
theorem days_month (j k : Nat) (h : j ≤ 67) (hk : k ≤ 11) : days (1970 + (j : Int)) ((k : Int) + 1) 1 = ysum j + msum (1970 + (j : Int)) k := by
  have := days_parts j k 0 h hk (by omega) (by have := mlen_bd (1970 + (j : Int)) k (by omega); omega)
  simp only [Int.zero_add] at this
  exact this
set_option maxRecDepth 100000 in
set_option maxHeartbeats 4000000 in
theorem date_spec (n : Int) (w : World) : Calls Tryd.prog 97 #[.int .i64 n] w fun e w' => e = .returned (.string (shown n)) ∧ Below w.heap.size w w' := by
  by_cases h1 : 0 ≤ n ∧ n ≤ 2000000000
  · have hsh : shown n = text n := if_pos h1
    rw [hsh]
    obtain ⟨r, hr⟩ : ∃ r, text n = r := ⟨_, rfl⟩
    rw [hr]
    unfold text at hr
    clear hsh
    have hD0 : 0 ≤ (n / 86400) ∧ (n / 86400) ≤ 23148 := by omega
    have hp := parts_in (n / 86400) (by omega) (by omega)
    have HR := Num.hide hr
    have HP := Num.hide hp
    have HY : Hid (yr (n / 86400) = yearGo (n / 86400) 67 0) := rfl
    clear hr hp
    go_enter Tryd.func97, Tryd.ntmps97
    go_wp2_with fail
    refine (in_spec _ _ _ _).mono ?_
    rintro e w1 ⟨rfl, rfl⟩
    rw [decide_eq_true h1]
    go_wp2
    go_loopw [4] (fun yv wr => ∃ j : Nat, j ≤ 67 ∧ yv = .int .i64 (1970 + (j : Int)) ∧ Hid (yr (n / 86400) = yearGo (n / 86400) (67 - j) j) ∧ Hid (Below w.heap.size w wr)) (fun yv _ => (2037 - intOf yv).toNat)
    case atStart => exact ⟨0, by omega, by simp, HY, Below.refl _ _⟩
    case round =>
      clear HY
      obtain ⟨j, hj, rfl, HY, HB⟩ := hrel
      have hsz := HB.out.size
      by_cases hlt : 1970 + (j : Int) < 2037
      · have hy : yearGo (n / 86400) (67 - j) j = if ysum (j + 1) ≤ (n / 86400) then yearGo (n / 86400) (67 - (j + 1)) (j + 1) else j := by
          rw [show 67 - j = (67 - (j + 1)) + 1 by omega]; rfl
        have HDy := Num.hide (days_spec (1970 + (j : Int) + 1) 1 1 wr)
        rw [days_year j (by omega)] at HDy
        have hyb := ysum_bd (j + 1)
        by_cases hle : ysum (j + 1) ≤ (n / 86400)
        · have HY2 : Hid (yr (n / 86400) = yearGo (n / 86400) (67 - (j + 1)) (j + 1)) := by show _ = _; rw [HY.out, hy, if_pos hle]
          clear hy HY
          go_wp2_with fail
          refine (Num.unhide HDy).mono ?_
          rintro e w1 ⟨rfl, hb1⟩
          have HB1 := Num.hide (HB.out.trans (hb1.mono hsz))
          clear hb1
          go_wp2
          go_roundw
          case rel => exact ⟨j + 1, by omega, by go_num, HY2, HB1⟩
          case measure => simp [intOf]; omega
        · have HY2 : Hid (yr (n / 86400) = j) := by show _ = _; rw [HY.out, hy, if_neg hle]
          clear hy HY
          go_wp2_with fail
          refine (Num.unhide HDy).mono ?_
          rintro e w1 ⟨rfl, hb1⟩
          have HB1 := Num.hide (HB.out.trans (hb1.mono hsz))
          obtain ⟨hp1, hp2, hp3, hp4, hp5, hp6⟩ := HP.out
          have HR2 := HR.out
          have hmo : mo (n / 86400) = monthOf (1970 + (j : Int)) (n / 86400 - ysum j) := by unfold mo; rw [HY2.out]
          have hdy : dy (n / 86400) = n / 86400 - ysum j - msum (1970 + (j : Int)) (mo (n / 86400)) := by unfold dy; rw [HY2.out]
          rw [HY2.out] at hp1 hp4 hp5 hp6 HR2
          have HR := Num.hide HR2
          have HM0 : Hid (mo (n / 86400) = monthGo (1970 + (j : Int)) (n / 86400 - ysum j) 11 0) := hmo
          have HDY := Num.hide hdy
          have HP4 := Num.hide hp4
          have HP2 := Num.hide hp2
          have HP3 := Num.hide hp3
          clear hb1 HP HY2 HDy hmo hdy HR2 hp4 hp2 hp3 hp6
          go_wp2
          go_loopw [5] (fun mv wr => ∃ k : Nat, k ≤ 11 ∧ mv = .int .i64 ((k : Int) + 1) ∧ Hid (mo (n / 86400) = monthGo (1970 + (j : Int)) (n / 86400 - ysum j) (11 - k) k) ∧ Hid (Below w.heap.size w wr)) (fun mv _ => (12 - intOf mv).toNat)
          case atStart => exact ⟨0, by omega, by simp, HM0, HB1⟩
          case round =>
            clear HM0 HB1 HB
            obtain ⟨k, hk, rfl, HM, HB⟩ := hrel
            have hsz := HB.out.size
            by_cases hlt2 : (k : Int) + 1 < 12
            · have hm : monthGo (1970 + (j : Int)) (n / 86400 - ysum j) (11 - k) k = if msum (1970 + (j : Int)) (k + 1) ≤ n / 86400 - ysum j then monthGo (1970 + (j : Int)) (n / 86400 - ysum j) (11 - (k + 1)) (k + 1) else k := by
                rw [show 11 - k = (11 - (k + 1)) + 1 by omega]; rfl
              have HDm := Num.hide (days_spec (1970 + (j : Int)) ((k : Int) + 1 + 1) 1 wr)
              rw [show ((k : Int) + 1 + 1) = ((k + 1 : Nat) : Int) + 1 by omega, days_month j (k + 1) (by omega) (by omega), show ((k + 1 : Nat) : Int) + 1 = (k : Int) + 1 + 1 by omega] at HDm
              have hmb := msum_bd (1970 + (j : Int)) (k + 1) (by omega)
              have hyb2 := ysum_bd j
              by_cases hle2 : ysum j + msum (1970 + (j : Int)) (k + 1) ≤ n / 86400
              · have HM2 : Hid (mo (n / 86400) = monthGo (1970 + (j : Int)) (n / 86400 - ysum j) (11 - (k + 1)) (k + 1)) := by show _ = _; rw [HM.out, hm, if_pos (by omega)]
                clear hm HM
                go_wp2_with fail
                refine (Num.unhide HDm).mono ?_
                rintro e w2 ⟨rfl, hb2⟩
                have HB2 := Num.hide (HB.out.trans (hb2.mono hsz))
                clear hb2
                go_wp2
                go_roundw
                case rel => exact ⟨k + 1, by omega, by go_num, HM2, HB2⟩
                case measure => simp [intOf]; omega
              · have HM2 : Hid (mo (n / 86400) = k) := by show _ = _; rw [HM.out, hm, if_neg (by omega)]
                clear hm HM
                go_wp2_with fail
                refine (Num.unhide HDm).mono ?_
                rintro e w2 ⟨rfl, hb2⟩
                have HB2 := Num.hide (HB.out.trans (hb2.mono hsz))
                clear hb2
                clear HB
                have hszw := HB2.out.size
                have HD3 := Num.hide (fun W => days_spec (1970 + (j : Int)) ((k : Int) + 1) 1 W)
                rw [days_month j k (by omega) (by omega)] at HD3
                have hr := HR.out
                have hX : dy (n / 86400) + 1 = n / 86400 - (ysum j + msum (1970 + (j : Int)) k) + 1 := by rw [HDY.out, HM2.out]; omega
                have hX0 : 0 ≤ n / 86400 - (ysum j + msum (1970 + (j : Int)) k) + 1 ∧ n / 86400 - (ysum j + msum (1970 + (j : Int)) k) + 1 ≤ 99 := by
                  rw [← hX]
                  have h3 := HP3.out
                  have h4 := HP4.out
                  have h5 := mlen_bd (1970 + (j : Int)) (mo (n / 86400)) (by have := HP2.out; omega)
                  omega
                have hmb2 := msum_bd (1970 + (j : Int)) k (by omega)
                have hyb3 := ysum_bd j
                rw [hX, HM2.out] at hr
                have hws := week_size (n / 86400 % 7).toNat (by omega)
                have hns := name_size k (by omega)
                have HW := Num.hide (fun W => wcell W (n / 86400 % 7).toNat (by omega))
                have HN := Num.hide (fun W => ncell W k (by omega))
                have hds : (dec (1970 + (j : Int))).size ≤ 20 := by
                  unfold dec
                  rw [Dec.itoa_pos _ (by omega)]
                  have := Dec.length_dd (1970 + (j : Int)).natAbs (by omega)
                  simp only [ByteArray.size, List.size_toArray]
                  exact this
                have HE := Num.hide (fun W => Dec.spec_any (1970 + (j : Int)) W (by omega) (by omega))
                have ht1 := size_two (n / 86400 - (ysum j + msum (1970 + (j : Int)) k) + 1)
                have ht2 := size_two (n / 3600 % 24)
                have ht3 := size_two (n / 60 % 60)
                have ht4 := size_two (n % 60)
                have HT1 := Num.hide (fun W => two_spec (n / 86400 - (ysum j + msum (1970 + (j : Int)) k) + 1) W hX0.1 hX0.2)
                have HT2 := Num.hide (fun W => two_spec (n / 3600 % 24) W (by omega) (by omega))
                have HT3 := Num.hide (fun W => two_spec (n / 60 % 60) W (by omega) (by omega))
                have HT4 := Num.hide (fun W => two_spec (n % 60) W (by omega) (by omega))
                change Hid (∀ W, Calls Tryd.prog 54 #[.int .i64 (1970 + (j : Int))] W fun e w' => e = .returned (.string (dec (1970 + (j : Int)))) ∧ Below W.heap.size W w') at HE
                generalize two (n / 86400 - (ysum j + msum (1970 + (j : Int)) k) + 1) = t1 at hr ht1 HT1
                generalize two (n / 3600 % 24) = t2 at hr ht2 HT2
                generalize two (n / 60 % 60) = t3 at hr ht3 HT3
                generalize two (n % 60) = t4 at hr ht4 HT4
                generalize dec (1970 + (j : Int)) = dc at hr hds HE
                generalize week (n / 86400 % 7).toNat = wk at hr hws HW
                generalize name k = nm at hr hns HN
                have HR3 := Num.hide hr
                clear hr hX HR HP4 HP2 HP3 HDY HM2
                go_wp2_with fail
                refine (HD3.out _).mono ?_
                rintro e w3 ⟨rfl, hb3⟩
                have HB3 := Num.hide (HB2.out.trans (hb3.mono hszw))
                clear hb3
                have hc1 := HW.out w3
                unfold wrow at hc1
                have hc2 := HN.out (w3.alloc (.cells wrow 9))
                rw [World.size_alloc] at hc2
                unfold wrow nrow at hc2
                have HB4 := Num.hide ((HB3.out.alloc HB3.out.size (.cells wrow 9)).alloc (by have := HB3.out.size; simp; omega) (.cells nrow 9))
                unfold wrow nrow at HB4
                go_wp2_with fail
                refine (HT1.out _).mono ?_
                rintro e w5 ⟨rfl, hb5⟩
                have HB5 := Num.hide (HB4.out.trans (hb5.mono HB4.out.size))
                clear hb5 hc1 hc2 HB4
                go_wp2_with fail
                refine (HE.out _).mono ?_
                rintro e w6 ⟨rfl, hb6⟩
                have HB6 := Num.hide (HB5.out.trans (hb6.mono HB5.out.size))
                clear hb6 HB5
                go_wp2_with fail
                refine (HT2.out _).mono ?_
                rintro e w7 ⟨rfl, hb7⟩
                have HB7 := Num.hide (HB6.out.trans (hb7.mono HB6.out.size))
                clear hb7 HB6
                go_wp2_with fail
                refine (HT3.out _).mono ?_
                rintro e w8 ⟨rfl, hb8⟩
                have HB8 := Num.hide (HB7.out.trans (hb8.mono HB7.out.size))
                clear hb8 HB7
                go_wp2_with fail
                refine (HT4.out _).mono ?_
                rintro e w9 ⟨rfl, hb9⟩
                have HB9 := Num.hide (HB8.out.trans (hb9.mono HB8.out.size))
                clear hb9 HB8
                have hr := HR3.out
                subst hr
                go_wp2
                go_ret
                exact ⟨rfl, HB9.out⟩
            · have HM2 : Hid (mo (n / 86400) = k) := by show _ = _; rw [HM.out, show 11 - k = 0 by omega]; rfl
              clear HM
              have hszw := HB.out.size
              have HD3 := Num.hide (fun W => days_spec (1970 + (j : Int)) ((k : Int) + 1) 1 W)
              rw [days_month j k (by omega) (by omega)] at HD3
              have hr := HR.out
              have hX : dy (n / 86400) + 1 = n / 86400 - (ysum j + msum (1970 + (j : Int)) k) + 1 := by rw [HDY.out, HM2.out]; omega
              have hX0 : 0 ≤ n / 86400 - (ysum j + msum (1970 + (j : Int)) k) + 1 ∧ n / 86400 - (ysum j + msum (1970 + (j : Int)) k) + 1 ≤ 99 := by
                rw [← hX]
                have h3 := HP3.out
                have h4 := HP4.out
                have h5 := mlen_bd (1970 + (j : Int)) (mo (n / 86400)) (by have := HP2.out; omega)
                omega
              have hmb2 := msum_bd (1970 + (j : Int)) k (by omega)
              have hyb3 := ysum_bd j
              rw [hX, HM2.out] at hr
              have hws := week_size (n / 86400 % 7).toNat (by omega)
              have hns := name_size k (by omega)
              have HW := Num.hide (fun W => wcell W (n / 86400 % 7).toNat (by omega))
              have HN := Num.hide (fun W => ncell W k (by omega))
              have hds : (dec (1970 + (j : Int))).size ≤ 20 := by
                unfold dec
                rw [Dec.itoa_pos _ (by omega)]
                have := Dec.length_dd (1970 + (j : Int)).natAbs (by omega)
                simp only [ByteArray.size, List.size_toArray]
                exact this
              have HE := Num.hide (fun W => Dec.spec_any (1970 + (j : Int)) W (by omega) (by omega))
              have ht1 := size_two (n / 86400 - (ysum j + msum (1970 + (j : Int)) k) + 1)
              have ht2 := size_two (n / 3600 % 24)
              have ht3 := size_two (n / 60 % 60)
              have ht4 := size_two (n % 60)
              have HT1 := Num.hide (fun W => two_spec (n / 86400 - (ysum j + msum (1970 + (j : Int)) k) + 1) W hX0.1 hX0.2)
              have HT2 := Num.hide (fun W => two_spec (n / 3600 % 24) W (by omega) (by omega))
              have HT3 := Num.hide (fun W => two_spec (n / 60 % 60) W (by omega) (by omega))
              have HT4 := Num.hide (fun W => two_spec (n % 60) W (by omega) (by omega))
              change Hid (∀ W, Calls Tryd.prog 54 #[.int .i64 (1970 + (j : Int))] W fun e w' => e = .returned (.string (dec (1970 + (j : Int)))) ∧ Below W.heap.size W w') at HE
              generalize two (n / 86400 - (ysum j + msum (1970 + (j : Int)) k) + 1) = t1 at hr ht1 HT1
              generalize two (n / 3600 % 24) = t2 at hr ht2 HT2
              generalize two (n / 60 % 60) = t3 at hr ht3 HT3
              generalize two (n % 60) = t4 at hr ht4 HT4
              generalize dec (1970 + (j : Int)) = dc at hr hds HE
              generalize week (n / 86400 % 7).toNat = wk at hr hws HW
              generalize name k = nm at hr hns HN
              have HR3 := Num.hide hr
              clear hr hX HR HP4 HP2 HP3 HDY HM2
              go_wp2_with fail
              refine (HD3.out _).mono ?_
              rintro e w3 ⟨rfl, hb3⟩
              have HB3 := Num.hide (HB.out.trans (hb3.mono hszw))
              clear hb3
              have hc1 := HW.out w3
              unfold wrow at hc1
              have hc2 := HN.out (w3.alloc (.cells wrow 9))
              rw [World.size_alloc] at hc2
              unfold wrow nrow at hc2
              have HB4 := Num.hide ((HB3.out.alloc HB3.out.size (.cells wrow 9)).alloc (by have := HB3.out.size; simp; omega) (.cells nrow 9))
              unfold wrow nrow at HB4
              go_wp2_with fail
              refine (HT1.out _).mono ?_
              rintro e w5 ⟨rfl, hb5⟩
              have HB5 := Num.hide (HB4.out.trans (hb5.mono HB4.out.size))
              clear hb5 hc1 hc2 HB4
              go_wp2_with fail
              refine (HE.out _).mono ?_
              rintro e w6 ⟨rfl, hb6⟩
              have HB6 := Num.hide (HB5.out.trans (hb6.mono HB5.out.size))
              clear hb6 HB5
              go_wp2_with fail
              refine (HT2.out _).mono ?_
              rintro e w7 ⟨rfl, hb7⟩
              have HB7 := Num.hide (HB6.out.trans (hb7.mono HB6.out.size))
              clear hb7 HB6
              go_wp2_with fail
              refine (HT3.out _).mono ?_
              rintro e w8 ⟨rfl, hb8⟩
              have HB8 := Num.hide (HB7.out.trans (hb8.mono HB7.out.size))
              clear hb8 HB7
              go_wp2_with fail
              refine (HT4.out _).mono ?_
              rintro e w9 ⟨rfl, hb9⟩
              have HB9 := Num.hide (HB8.out.trans (hb9.mono HB8.out.size))
              clear hb9 HB8
              have hr := HR3.out
              subst hr
              go_wp2
              go_ret
              exact ⟨rfl, HB9.out⟩
      · exfalso
        have := HY.out
        have h2 := HP.out.1
        rw [show 67 - j = 0 by omega] at this
        unfold yearGo at this
        omega
  · have hsh : shown n = ⟨#[]⟩ := if_neg h1
    rw [hsh]
    clear hsh
    go_enter Tryd.func97, Tryd.ntmps97
    go_wp2_with fail
    refine (in_spec _ _ _ _).mono ?_
    rintro e w1 ⟨rfl, rfl⟩
    rw [decide_eq_false h1]
    go_wp2
    go_ret
    exact ⟨rfl, Below.refl _ _⟩
end Date
end Go.Proofs.YtkogcbnbmdeolaaDoor
