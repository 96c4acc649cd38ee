/-
  DateSpec: ShowDate of the specification: the text of a date; what was there stays.
  DateReadSpec: l4Num and ReadDate of the specification: a date off its text; what was there stays.
  SecondsSpec: Seconds of the specification: what the call returns, for every text; the world stays.
  AgeSpec: SatAdd, DateOf, FirstAge and AgeAt of the specification: the world stays but for new memory.
-/
import Derived.Test.YtjeokackmkfooaaGreatDoorPac
import Derived.Test.YtjeokackmkfooaaGreatDoorPas
import Derived.Laws.Strings
import Derived.RegionTactic
import Derived.BigRegion
import Derived.ChangeAlike
import Derived.Test.YtjeokackmkfooaaGreatDoorPaa
import Derived.Test.YtjeokackmkfooaaGreatDoorRows
import Derived.Test.YtjeokackmkfooaaGreatDoorPag
import Derived.Test.YtjeokackmkfooaaGreatDoorPah
import Derived.Deep.Cut
import Derived.WalkKit
namespace Go.Proofs.YtjeokackmkfooaaGreatDoor
open Go.RowKit
set_option linter.unusedVariables false
namespace Date

def wrow : Array Value := #[.string ⟨#[84, 104, 117]⟩, .string ⟨#[70, 114, 105]⟩, .string ⟨#[83, 97, 116]⟩, .string ⟨#[83, 117, 110]⟩, .string ⟨#[77, 111, 110]⟩, .string ⟨#[84, 117, 101]⟩, .string ⟨#[87, 101, 100]⟩]
def nrow : Array Value := #[.string ⟨#[74, 97, 110]⟩, .string ⟨#[70, 101, 98]⟩, .string ⟨#[77, 97, 114]⟩, .string ⟨#[65, 112, 114]⟩, .string ⟨#[77, 97, 121]⟩, .string ⟨#[74, 117, 110]⟩, .string ⟨#[74, 117, 108]⟩, .string ⟨#[65, 117, 103]⟩, .string ⟨#[83, 101, 112]⟩, .string ⟨#[79, 99, 116]⟩, .string ⟨#[78, 111, 118]⟩, .string ⟨#[68, 101, 99]⟩]
theorem wcell (w : World) (k : Nat) (h : k < 7) : (w.alloc (.cells wrow 9)).cell? ⟨w.heap.size, k, none⟩ = some (.string (week k)) := by
  rw [cell_of_row _ _ _ _ _ _ (heap_alloc_new w _)]
  match k, h with
  | 0, _ => rfl
  | 1, _ => rfl
  | 2, _ => rfl
  | 3, _ => rfl
  | 4, _ => rfl
  | 5, _ => rfl
  | 6, _ => rfl
theorem ncell (w : World) (k : Nat) (h : k < 12) : (w.alloc (.cells nrow 9)).cell? ⟨w.heap.size, k, none⟩ = some (.string (name k)) := by
  rw [cell_of_row _ _ _ _ _ _ (heap_alloc_new w _)]
  match k, h with
  | 0, _ => rfl
  | 1, _ => rfl
  | 2, _ => rfl
  | 3, _ => rfl
  | 4, _ => rfl
  | 5, _ => rfl
  | 6, _ => rfl
  | 7, _ => rfl
  | 8, _ => rfl
  | 9, _ => rfl
  | 10, _ => rfl
  | 11, _ => rfl
theorem days_year (j : Nat) (h : j ≤ 66) : days (1970 + (j : Int) + 1) 1 1 = ysum (j + 1) := by
  have := days_parts (j + 1) 0 0 (by omega) (by omega) (by omega) (by have := mlen_bd (1970 + ((j + 1 : Nat) : Int)) 0 (by omega); omega)
  rw [show (1970 + (j : Int) + 1) = 1970 + ((j + 1 : Nat) : Int) by omega]
  simp only [Int.zero_add, msum, Int.add_zero] at this
  exact this
theorem days_month (j k : Nat) (h : j ≤ 67) (hk : k ≤ 11) : days (1970 + (j : Int)) ((k : Int) + 1) 1 = ysum j + msum (1970 + (j : Int)) k := by
  have := days_parts j k 0 h hk (by omega) (by have := mlen_bd (1970 + (j : Int)) k (by omega); omega)
  simp only [Int.zero_add] at this
  exact this
set_option maxRecDepth 100000 in
set_option maxHeartbeats 4000000 in
theorem date_spec (n : Int) (w : World) : Calls Tryz.prog 48 #[.int .i64 n] w fun e w' => e = .returned (.string (shown n)) ∧ Below w.heap.size w w' := by
  by_cases h1 : 0 ≤ n ∧ n ≤ 2000000000
  · have hsh : shown n = text n := if_pos h1
    rw [hsh]
    obtain ⟨r, hr⟩ : ∃ r, text n = r := ⟨_, rfl⟩
    rw [hr]
    unfold text at hr
    clear hsh
    have hD0 : 0 ≤ (n / 86400) ∧ (n / 86400) ≤ 23148 := by omega
    have hp := parts_in (n / 86400) (by omega) (by omega)
    have HR := Num.hide hr
    have HP := Num.hide hp
    have HY : Hid (yr (n / 86400) = yearGo (n / 86400) 67 0) := rfl
    clear hr hp
    go_enter Tryz.func48, Tryz.ntmps48
    go_wp2_with fail
    refine (in_spec _ _ _ _).mono ?_
    rintro e w1 ⟨rfl, rfl⟩
    rw [decide_eq_true h1]
    go_wp2
    go_loopw [4] (fun yv wr => ∃ j : Nat, j ≤ 67 ∧ yv = .int .i64 (1970 + (j : Int)) ∧ Hid (yr (n / 86400) = yearGo (n / 86400) (67 - j) j) ∧ Hid (Below w.heap.size w wr)) (fun yv _ => (2037 - intOf yv).toNat)
    case atStart => exact ⟨0, by omega, by simp, HY, Below.refl _ _⟩
    case round =>
      clear HY
      obtain ⟨j, hj, rfl, HY, HB⟩ := hrel
      have hsz := HB.out.size
      by_cases hlt : 1970 + (j : Int) < 2037
      · have hy : yearGo (n / 86400) (67 - j) j = if ysum (j + 1) ≤ (n / 86400) then yearGo (n / 86400) (67 - (j + 1)) (j + 1) else j := by
          rw [show 67 - j = (67 - (j + 1)) + 1 by omega]; rfl
        have HDy := Num.hide (days_spec (1970 + (j : Int) + 1) 1 1 wr)
        rw [days_year j (by omega)] at HDy
        have hyb := ysum_bd (j + 1)
        by_cases hle : ysum (j + 1) ≤ (n / 86400)
        · have HY2 : Hid (yr (n / 86400) = yearGo (n / 86400) (67 - (j + 1)) (j + 1)) := by show _ = _; rw [HY.out, hy, if_pos hle]
          clear hy HY
          go_wp2_with fail
          refine (Num.unhide HDy).mono ?_
          rintro e w1 ⟨rfl, hb1⟩
          have HB1 := Num.hide (HB.out.trans (hb1.mono hsz))
          clear hb1
          go_wp2
          go_roundw
          case rel => exact ⟨j + 1, by omega, by go_num, HY2, HB1⟩
          case measure => simp [intOf]; omega
        · have HY2 : Hid (yr (n / 86400) = j) := by show _ = _; rw [HY.out, hy, if_neg hle]
          clear hy HY
          go_wp2_with fail
          refine (Num.unhide HDy).mono ?_
          rintro e w1 ⟨rfl, hb1⟩
          have HB1 := Num.hide (HB.out.trans (hb1.mono hsz))
          obtain ⟨hp1, hp2, hp3, hp4, hp5, hp6⟩ := HP.out
          have HR2 := HR.out
          have hmo : mo (n / 86400) = monthOf (1970 + (j : Int)) (n / 86400 - ysum j) := by unfold mo; rw [HY2.out]
          have hdy : dy (n / 86400) = n / 86400 - ysum j - msum (1970 + (j : Int)) (mo (n / 86400)) := by unfold dy; rw [HY2.out]
          rw [HY2.out] at hp1 hp4 hp5 hp6 HR2
          have HR := Num.hide HR2
          have HM0 : Hid (mo (n / 86400) = monthGo (1970 + (j : Int)) (n / 86400 - ysum j) 11 0) := hmo
          have HDY := Num.hide hdy
          have HP4 := Num.hide hp4
          have HP2 := Num.hide hp2
          have HP3 := Num.hide hp3
          clear hb1 HP HY2 HDy hmo hdy HR2 hp4 hp2 hp3 hp6
          go_wp2
          go_loopw [5] (fun mv wr => ∃ k : Nat, k ≤ 11 ∧ mv = .int .i64 ((k : Int) + 1) ∧ Hid (mo (n / 86400) = monthGo (1970 + (j : Int)) (n / 86400 - ysum j) (11 - k) k) ∧ Hid (Below w.heap.size w wr)) (fun mv _ => (12 - intOf mv).toNat)
          case atStart => exact ⟨0, by omega, by simp, HM0, HB1⟩
          case round =>
            clear HM0 HB1 HB
            obtain ⟨k, hk, rfl, HM, HB⟩ := hrel
            have hsz := HB.out.size
            by_cases hlt2 : (k : Int) + 1 < 12
            · have hm : monthGo (1970 + (j : Int)) (n / 86400 - ysum j) (11 - k) k = if msum (1970 + (j : Int)) (k + 1) ≤ n / 86400 - ysum j then monthGo (1970 + (j : Int)) (n / 86400 - ysum j) (11 - (k + 1)) (k + 1) else k := by
                rw [show 11 - k = (11 - (k + 1)) + 1 by omega]; rfl
              have HDm := Num.hide (days_spec (1970 + (j : Int)) ((k : Int) + 1 + 1) 1 wr)
              rw [show ((k : Int) + 1 + 1) = ((k + 1 : Nat) : Int) + 1 by omega, days_month j (k + 1) (by omega) (by omega), show ((k + 1 : Nat) : Int) + 1 = (k : Int) + 1 + 1 by omega] at HDm
              have hmb := msum_bd (1970 + (j : Int)) (k + 1) (by omega)
              have hyb2 := ysum_bd j
              by_cases hle2 : ysum j + msum (1970 + (j : Int)) (k + 1) ≤ n / 86400
              · have HM2 : Hid (mo (n / 86400) = monthGo (1970 + (j : Int)) (n / 86400 - ysum j) (11 - (k + 1)) (k + 1)) := by show _ = _; rw [HM.out, hm, if_pos (by omega)]
                clear hm HM
                go_wp2_with fail
                refine (Num.unhide HDm).mono ?_
                rintro e w2 ⟨rfl, hb2⟩
                have HB2 := Num.hide (HB.out.trans (hb2.mono hsz))
                clear hb2
                go_wp2
                go_roundw
                case rel => exact ⟨k + 1, by omega, by go_num, HM2, HB2⟩
                case measure => simp [intOf]; omega
              · have HM2 : Hid (mo (n / 86400) = k) := by show _ = _; rw [HM.out, hm, if_neg (by omega)]
                clear hm HM
                go_wp2_with fail
                refine (Num.unhide HDm).mono ?_
                rintro e w2 ⟨rfl, hb2⟩
                have HB2 := Num.hide (HB.out.trans (hb2.mono hsz))
                clear hb2
                clear HB
                have hszw := HB2.out.size
                have HD3 := Num.hide (fun W => days_spec (1970 + (j : Int)) ((k : Int) + 1) 1 W)
                rw [days_month j k (by omega) (by omega)] at HD3
                have hr := HR.out
                have hX : dy (n / 86400) + 1 = n / 86400 - (ysum j + msum (1970 + (j : Int)) k) + 1 := by rw [HDY.out, HM2.out]; omega
                have hX0 : 0 ≤ n / 86400 - (ysum j + msum (1970 + (j : Int)) k) + 1 ∧ n / 86400 - (ysum j + msum (1970 + (j : Int)) k) + 1 ≤ 99 := by
                  rw [← hX]
                  have h3 := HP3.out
                  have h4 := HP4.out
                  have h5 := mlen_bd (1970 + (j : Int)) (mo (n / 86400)) (by have := HP2.out; omega)
                  omega
                have hmb2 := msum_bd (1970 + (j : Int)) k (by omega)
                have hyb3 := ysum_bd j
                rw [hX, HM2.out] at hr
                have hws := week_size (n / 86400 % 7).toNat (by omega)
                have hns := name_size k (by omega)
                have HW := Num.hide (fun W => wcell W (n / 86400 % 7).toNat (by omega))
                have HN := Num.hide (fun W => ncell W k (by omega))
                have hds : (dec (1970 + (j : Int))).size ≤ 20 := by
                  unfold dec
                  rw [Dec.itoa_pos _ (by omega)]
                  have := Dec.length_dd (1970 + (j : Int)).natAbs (by omega)
                  simp only [ByteArray.size, List.size_toArray]
                  exact this
                have HE := Num.hide (fun W => Dec.spec_any (1970 + (j : Int)) W (by omega) (by omega))
                have ht1 := size_two (n / 86400 - (ysum j + msum (1970 + (j : Int)) k) + 1)
                have ht2 := size_two (n / 3600 % 24)
                have ht3 := size_two (n / 60 % 60)
                have ht4 := size_two (n % 60)
                have HT1 := Num.hide (fun W => two_spec (n / 86400 - (ysum j + msum (1970 + (j : Int)) k) + 1) W hX0.1 hX0.2)
                have HT2 := Num.hide (fun W => two_spec (n / 3600 % 24) W (by omega) (by omega))
                have HT3 := Num.hide (fun W => two_spec (n / 60 % 60) W (by omega) (by omega))
                have HT4 := Num.hide (fun W => two_spec (n % 60) W (by omega) (by omega))
                change Hid (∀ W, Calls Tryz.prog 91 #[.int .i64 (1970 + (j : Int))] W fun e w' => e = .returned (.string (dec (1970 + (j : Int)))) ∧ Below W.heap.size W w') at HE
                generalize two (n / 86400 - (ysum j + msum (1970 + (j : Int)) k) + 1) = t1 at hr ht1 HT1
                generalize two (n / 3600 % 24) = t2 at hr ht2 HT2
                generalize two (n / 60 % 60) = t3 at hr ht3 HT3
                generalize two (n % 60) = t4 at hr ht4 HT4
                generalize dec (1970 + (j : Int)) = dc at hr hds HE
                generalize week (n / 86400 % 7).toNat = wk at hr hws HW
                generalize name k = nm at hr hns HN
                have HR3 := Num.hide hr
                clear hr hX HR HP4 HP2 HP3 HDY HM2
                go_wp2_with fail
                refine (HD3.out _).mono ?_
                rintro e w3 ⟨rfl, hb3⟩
                have HB3 := Num.hide (HB2.out.trans (hb3.mono hszw))
                clear hb3
                have hc1 := HW.out w3
                unfold wrow at hc1
                have hc2 := HN.out (w3.alloc (.cells wrow 9))
                rw [World.size_alloc] at hc2
                unfold wrow nrow at hc2
                have HB4 := Num.hide ((HB3.out.alloc HB3.out.size (.cells wrow 9)).alloc (by have := HB3.out.size; simp; omega) (.cells nrow 9))
                unfold wrow nrow at HB4
                go_wp2_with fail
                refine (HT1.out _).mono ?_
                rintro e w5 ⟨rfl, hb5⟩
                have HB5 := Num.hide (HB4.out.trans (hb5.mono HB4.out.size))
                clear hb5 hc1 hc2 HB4
                go_wp2_with fail
                refine (HE.out _).mono ?_
                rintro e w6 ⟨rfl, hb6⟩
                have HB6 := Num.hide (HB5.out.trans (hb6.mono HB5.out.size))
                clear hb6 HB5
                go_wp2_with fail
                refine (HT2.out _).mono ?_
                rintro e w7 ⟨rfl, hb7⟩
                have HB7 := Num.hide (HB6.out.trans (hb7.mono HB6.out.size))
                clear hb7 HB6
                go_wp2_with fail
                refine (HT3.out _).mono ?_
                rintro e w8 ⟨rfl, hb8⟩
                have HB8 := Num.hide (HB7.out.trans (hb8.mono HB7.out.size))
                clear hb8 HB7
                go_wp2_with fail
                refine (HT4.out _).mono ?_
                rintro e w9 ⟨rfl, hb9⟩
                have HB9 := Num.hide (HB8.out.trans (hb9.mono HB8.out.size))
                clear hb9 HB8
                have hr := HR3.out
                subst hr
                go_wp2
                go_ret
                exact ⟨rfl, HB9.out⟩
            · have HM2 : Hid (mo (n / 86400) = k) := by show _ = _; rw [HM.out, show 11 - k = 0 by omega]; rfl
              clear HM
              have hszw := HB.out.size
              have HD3 := Num.hide (fun W => days_spec (1970 + (j : Int)) ((k : Int) + 1) 1 W)
              rw [days_month j k (by omega) (by omega)] at HD3
              have hr := HR.out
              have hX : dy (n / 86400) + 1 = n / 86400 - (ysum j + msum (1970 + (j : Int)) k) + 1 := by rw [HDY.out, HM2.out]; omega
              have hX0 : 0 ≤ n / 86400 - (ysum j + msum (1970 + (j : Int)) k) + 1 ∧ n / 86400 - (ysum j + msum (1970 + (j : Int)) k) + 1 ≤ 99 := by
                rw [← hX]
                have h3 := HP3.out
                have h4 := HP4.out
                have h5 := mlen_bd (1970 + (j : Int)) (mo (n / 86400)) (by have := HP2.out; omega)
                omega
              have hmb2 := msum_bd (1970 + (j : Int)) k (by omega)
              have hyb3 := ysum_bd j
              rw [hX, HM2.out] at hr
              have hws := week_size (n / 86400 % 7).toNat (by omega)
              have hns := name_size k (by omega)
              have HW := Num.hide (fun W => wcell W (n / 86400 % 7).toNat (by omega))
              have HN := Num.hide (fun W => ncell W k (by omega))
              have hds : (dec (1970 + (j : Int))).size ≤ 20 := by
                unfold dec
                rw [Dec.itoa_pos _ (by omega)]
                have := Dec.length_dd (1970 + (j : Int)).natAbs (by omega)
                simp only [ByteArray.size, List.size_toArray]
                exact this
              have HE := Num.hide (fun W => Dec.spec_any (1970 + (j : Int)) W (by omega) (by omega))
              have ht1 := size_two (n / 86400 - (ysum j + msum (1970 + (j : Int)) k) + 1)
              have ht2 := size_two (n / 3600 % 24)
              have ht3 := size_two (n / 60 % 60)
              have ht4 := size_two (n % 60)
              have HT1 := Num.hide (fun W => two_spec (n / 86400 - (ysum j + msum (1970 + (j : Int)) k) + 1) W hX0.1 hX0.2)
              have HT2 := Num.hide (fun W => two_spec (n / 3600 % 24) W (by omega) (by omega))
              have HT3 := Num.hide (fun W => two_spec (n / 60 % 60) W (by omega) (by omega))
              have HT4 := Num.hide (fun W => two_spec (n % 60) W (by omega) (by omega))
              change Hid (∀ W, Calls Tryz.prog 91 #[.int .i64 (1970 + (j : Int))] W fun e w' => e = .returned (.string (dec (1970 + (j : Int)))) ∧ Below W.heap.size W w') at HE
              generalize two (n / 86400 - (ysum j + msum (1970 + (j : Int)) k) + 1) = t1 at hr ht1 HT1
              generalize two (n / 3600 % 24) = t2 at hr ht2 HT2
              generalize two (n / 60 % 60) = t3 at hr ht3 HT3
              generalize two (n % 60) = t4 at hr ht4 HT4
              generalize dec (1970 + (j : Int)) = dc at hr hds HE
              generalize week (n / 86400 % 7).toNat = wk at hr hws HW
              generalize name k = nm at hr hns HN
              have HR3 := Num.hide hr
              clear hr hX HR HP4 HP2 HP3 HDY HM2
              go_wp2_with fail
              refine (HD3.out _).mono ?_
              rintro e w3 ⟨rfl, hb3⟩
              have HB3 := Num.hide (HB.out.trans (hb3.mono hszw))
              clear hb3
              have hc1 := HW.out w3
              unfold wrow at hc1
              have hc2 := HN.out (w3.alloc (.cells wrow 9))
              rw [World.size_alloc] at hc2
              unfold wrow nrow at hc2
              have HB4 := Num.hide ((HB3.out.alloc HB3.out.size (.cells wrow 9)).alloc (by have := HB3.out.size; simp; omega) (.cells nrow 9))
              unfold wrow nrow at HB4
              go_wp2_with fail
              refine (HT1.out _).mono ?_
              rintro e w5 ⟨rfl, hb5⟩
              have HB5 := Num.hide (HB4.out.trans (hb5.mono HB4.out.size))
              clear hb5 hc1 hc2 HB4
              go_wp2_with fail
              refine (HE.out _).mono ?_
              rintro e w6 ⟨rfl, hb6⟩
              have HB6 := Num.hide (HB5.out.trans (hb6.mono HB5.out.size))
              clear hb6 HB5
              go_wp2_with fail
              refine (HT2.out _).mono ?_
              rintro e w7 ⟨rfl, hb7⟩
              have HB7 := Num.hide (HB6.out.trans (hb7.mono HB6.out.size))
              clear hb7 HB6
              go_wp2_with fail
              refine (HT3.out _).mono ?_
              rintro e w8 ⟨rfl, hb8⟩
              have HB8 := Num.hide (HB7.out.trans (hb8.mono HB7.out.size))
              clear hb8 HB7
              go_wp2_with fail
              refine (HT4.out _).mono ?_
              rintro e w9 ⟨rfl, hb9⟩
              have HB9 := Num.hide (HB8.out.trans (hb9.mono HB8.out.size))
              clear hb9 HB8
              have hr := HR3.out
              subst hr
              go_wp2
              go_ret
              exact ⟨rfl, HB9.out⟩
      · exfalso
        have := HY.out
        have h2 := HP.out.1
        rw [show 67 - j = 0 by omega] at this
        unfold yearGo at this
        omega
  · have hsh : shown n = ⟨#[]⟩ := if_neg h1
    rw [hsh]
    clear hsh
    go_enter Tryz.func48, Tryz.ntmps48
    go_wp2_with fail
    refine (in_spec _ _ _ _).mono ?_
    rintro e w1 ⟨rfl, rfl⟩
    rw [decide_eq_false h1]
    go_wp2
    go_ret
    exact ⟨rfl, Below.refl _ _⟩
end Date
end Go.Proofs.YtjeokackmkfooaaGreatDoor
namespace Go.Proofs.YtjeokackmkfooaaGreatDoor
open Go.RowKit
set_option linter.unusedVariables false
namespace Date
open Line (byteAt byteAt_eq)

set_option maxRecDepth 100000 in
set_option maxHeartbeats 2000000 in
theorem num_spec (s : ByteArray) (a n : Nat) (w : World) (hs : s.size = 29) (ha : a + n ≤ 29) (hn : n ≤ 4) : Calls Tryz.prog 130 #[.string s, .int .i64 a, .int .i64 n] w fun e w' => e = .returned (.int .i64 (numAt s a n)) ∧ w = w' := by
  obtain ⟨r, hr⟩ : ∃ r, numAt s a n = r := ⟨_, rfl⟩
  rw [hr]
  unfold numAt at hr
  have HR := Num.hide hr
  have hsz : s.size ≤ 29 := by omega
  have HS := Num.hide hs
  clear hr hs
  go_enter Tryz.func130, Tryz.ntmps130
  go_wp2
  go_loop [7, 8] (fun xv iv => ∃ (j : Nat) (x : Int), a ≤ j ∧ j ≤ a + n ∧ iv = .int .i64 (j : Int) ∧ xv = .int .i64 x ∧ 0 ≤ x ∧ Hid (x + 1 ≤ 10 ^ (j - a)) ∧ Hid (numGo s (a + n - j) j x = r)) (fun _ iv => (a + n - intOf iv).toNat)
  case atStart => exact ⟨a, 0, by omega, by omega, rfl, rfl, by omega, by show (0 : Int) + 1 ≤ 10 ^ (a - a); rw [Nat.sub_self]; decide, by rw [show a + n - a = n by omega]; exact HR⟩
  case round =>
    clear HR
    obtain ⟨j, x, hj, hjn, rfl, rfl, hx0, HX, HE⟩ := hrel
    by_cases hlt : (j : Int) < (a : Int) + (n : Int)
    · have hls : j < s.size := by have := HS.out; omega
      have hxb : x ≤ 9999 := by
        have h1 := HX.out
        have hp : (10 : Int) ^ (j - a) ≤ 10000 := by
          have : j - a ≤ 4 := by omega
          generalize j - a = m at this
          match m, this with
          | 0, _ => decide
          | 1, _ => decide
          | 2, _ => decide
          | 3, _ => decide
          | 4, _ => decide
        omega
      have he := HE.out
      rw [show a + n - j = (a + n - (j + 1)) + 1 by omega, numGo, byteAt_eq s j hls] at he
      have hc := s[j].toNat_lt
      by_cases h1 : 48 ≤ (s[j].toNat : Int)
      · have d1 : decide ((s[j].toNat : Int) < 48) = false := by simp; omega
        by_cases h2 : (s[j].toNat : Int) ≤ 57
        · have d2 : decide (57 < (s[j].toNat : Int)) = false := by simp; omega
          rw [if_pos (by omega)] at he
          have HE2 := Num.hide he
          have HX2 : Hid (x * 10 + ((s[j].toNat : Int) - 48) + 1 ≤ 10 ^ (j + 1 - a)) := by
            show _ ≤ _
            rw [show j + 1 - a = (j - a) + 1 by omega, Int.pow_succ]
            have := HX.out
            omega
          clear he HX HE
          go_wp2
          all_goals go_round
          case rel => exact ⟨j + 1, _, by omega, by omega, by go_num, rfl, by omega, HX2, HE2⟩
          case measure => simp [intOf]; omega
        · have d2 : decide (57 < (s[j].toNat : Int)) = true := by simp; omega
          rw [if_neg (by omega)] at he
          subst he
          clear HE
          go_wp2
          all_goals go_ret
          all_goals exact ⟨rfl, rfl⟩
      · have d1 : decide ((s[j].toNat : Int) < 48) = true := by simp; omega
        rw [if_neg (by omega)] at he
        subst he
        clear HE
        go_wp2
        all_goals go_ret
        all_goals exact ⟨rfl, rfl⟩
    · have he := HE.out
      rw [show a + n - j = 0 by omega, numGo] at he
      subst he
      clear HE
      go_wp2
      go_ret
      exact ⟨rfl, rfl⟩
set_option maxRecDepth 100000 in
set_option maxHeartbeats 2000000 in
theorem read_spec (s : ByteArray) (w : World) (hs : s.size ≤ maxLen) : Calls Tryz.prog 112 #[.string s] w fun e w' => e = .returned (.tuple #[.int .i64 (readN s), .bool (readB s)]) ∧ Below w.heap.size w w' := by
  unfold maxLen at hs
  by_cases h29 : s.size = 29
  · obtain ⟨N, hN⟩ : ∃ N, readN s = N := ⟨_, rfl⟩
    obtain ⟨b, hb⟩ : ∃ b, readB s = b := ⟨_, rfl⟩
    rw [hN, hb]
    have HN := Num.hide hN
    have HBb := Num.hide hb
    have H29 := Num.hide h29
    have d29 : ((s.size : Int) != 29) = false := by rw [bne_eq_false_iff_eq]; omega
    have h8 : (11 : Int) ≤ (s.size : Int) := by omega
    clear hN hb h29
    go_enter Tryz.func112, Tryz.ntmps112
    go_wp2
    go_loopw [4, 5] (fun ov mv wr => ∃ k : Nat, k ≤ 12 ∧ mv = .int .i64 ((k : Int) + 1) ∧ ov = .int .i64 (monGo (s.extract 8 11) k) ∧ Hid (Below w.heap.size w wr)) (fun _ mv _ => (13 - intOf mv).toNat)
    case atStart => exact ⟨0, by omega, by simp, rfl, Below.refl _ _⟩
    case round =>
      obtain ⟨k, hk, rfl, rfl, HB⟩ := hrel
      have hsz := HB.out.size
      by_cases hlt : (k : Int) + 1 ≤ 12
      · have hc := ncell wr k (by omega)
        have hm : monGo (s.extract 8 11) (k + 1) = if s.extract 8 11 = name k then (k : Int) + 1 else monGo (s.extract 8 11) k := rfl
        have HB1 := Num.hide (HB.out.alloc hsz (.cells nrow 9))
        unfold nrow at hc HB1
        generalize name k = nm at hc hm
        by_cases he : s.extract 8 11 = nm
        · have hq : ((s.extract 8 11).toList == nm.toList) = true := by rw [he]; exact beq_self_eq_true _
          rw [if_pos he] at hm
          have HM := Num.hide hm
          clear hm he
          go_wp2
          go_region
          go_wp2
          go_roundw
          case rel => exact ⟨k + 1, by omega, by go_num, by rw [HM.out], HB1.out.drew⟩
          case measure => simp [intOf]; omega
        · have hq : ((s.extract 8 11).toList == nm.toList) = false := by
            rw [beq_eq_false_iff_ne, ByteArray.toList_eq, ByteArray.toList_eq]
            intro e; exact he (ByteArray.ext (Array.toList_inj.1 e))
          rw [if_neg he] at hm
          have HM := Num.hide hm
          clear hm he
          go_wp2
          go_region
          go_wp2
          go_roundw
          case rel => exact ⟨k + 1, by omega, by go_num, by rw [HM.out], HB1.out.drew⟩
          case measure => simp [intOf]; omega
      · obtain rfl : k = 12 := by omega
        have hmon : monGo (s.extract 8 11) 12 = mon s := rfl
        rw [hmon]
        have H1 := Num.hide (fun W => num_spec s 12 4 W H29.out (by omega) (by omega))
        have H2 := Num.hide (fun W => num_spec s 5 2 W H29.out (by omega) (by omega))
        have H3 := Num.hide (fun W => num_spec s 17 2 W H29.out (by omega) (by omega))
        have H4 := Num.hide (fun W => num_spec s 20 2 W H29.out (by omega) (by omega))
        have H5 := Num.hide (fun W => num_spec s 23 2 W H29.out (by omega) (by omega))
        have HD := Num.hide (fun W => days_spec (numAt s 12 4) (mon s) (numAt s 5 2) W)
        have hdd : days (numAt s 12 4) (mon s) (numAt s 5 2) = dayOf s := rfl
        rw [hdd] at HD
        have hsec : secOf s = dayOf s * 86400 + numAt s 17 2 * 3600 + numAt s 20 2 * 60 + numAt s 23 2 := rfl
        have bd := days_bd (numAt s 12 4) (mon s) (numAt s 5 2)
        rw [hdd] at bd
        have bh := numGo_bd s 2 17 0 (by omega) (by omega) (by omega)
        have bm := numGo_bd s 2 20 0 (by omega) (by omega) (by omega)
        have bx := numGo_bd s 2 23 0 (by omega) (by omega) (by omega)
        have hrd : read s = if dayOf s < 0 ∨ numAt s 17 2 < 0 ∨ numAt s 20 2 < 0 ∨ numAt s 23 2 < 0 then none else if shown (secOf s) = s then some (secOf s) else none := by
          unfold read; rw [if_pos H29.out]
        have HS := Num.hide (fun W => date_spec (secOf s) W)
        change -1 ≤ numAt s 17 2 ∧ numAt s 17 2 ≤ _ at bh
        change -1 ≤ numAt s 20 2 ∧ numAt s 20 2 ≤ _ at bm
        change -1 ≤ numAt s 23 2 ∧ numAt s 23 2 ≤ _ at bx
        rw [hsec] at hrd HS
        clear hmon hdd hsec
        generalize dayOf s = D at HD bd hrd HS
        generalize numAt s 12 4 = y at H1 HD
        generalize numAt s 5 2 = dd at H2 HD
        generalize numAt s 17 2 = hh at H3 bh hrd HS
        generalize numAt s 20 2 = mm at H4 bm hrd HS
        generalize numAt s 23 2 = xx at H5 bx hrd HS
        generalize mon s = mo at HD ⊢
        have HRd := Num.hide hrd
        clear hrd
        go_wp2_with fail
        refine (H1.out _).mono ?_
        rintro e w1 ⟨rfl, rfl⟩
        go_wp2_with fail
        refine (H2.out _).mono ?_
        rintro e w1 ⟨rfl, rfl⟩
        go_wp2_with fail
        refine (HD.out _).mono ?_
        rintro e w1 ⟨rfl, hb1⟩
        have HB1 := Num.hide (HB.out.trans (hb1.mono hsz))
        have hsz1 := HB1.out.size
        clear hb1
        go_wp2_with fail
        refine (H3.out _).mono ?_
        rintro e w2 ⟨rfl, rfl⟩
        go_wp2_with fail
        refine (H4.out _).mono ?_
        rintro e w2 ⟨rfl, rfl⟩
        go_wp2_with fail
        refine (H5.out _).mono ?_
        rintro e w2 ⟨rfl, rfl⟩
        by_cases g1 : D < 0
        · have hr := HRd.out
          rw [if_pos (.inl g1)] at hr
          obtain rfl : N = 0 := by rw [← HN.out]; unfold readN; rw [hr]; rfl
          obtain rfl : b = false := by rw [← HBb.out]; unfold readB; rw [hr]; rfl
          clear hr HRd HN HBb
          go_wp2
          go_ret2
          exact ⟨rfl, HB1.out⟩
        · have k1 : decide (D < 0) = false := by rw [decide_eq_false_iff_not]; exact g1
          by_cases g2 : hh < 0
          · have hr := HRd.out
            rw [if_pos (.inr (.inl g2))] at hr
            obtain rfl : N = 0 := by rw [← HN.out]; unfold readN; rw [hr]; rfl
            obtain rfl : b = false := by rw [← HBb.out]; unfold readB; rw [hr]; rfl
            clear hr HRd HN HBb
            go_wp2
            go_ret2
            exact ⟨rfl, HB1.out⟩
          · have k2 : decide (hh < 0) = false := by rw [decide_eq_false_iff_not]; exact g2
            by_cases g3 : mm < 0
            · have hr := HRd.out
              rw [if_pos (.inr (.inr (.inl g3)))] at hr
              obtain rfl : N = 0 := by rw [← HN.out]; unfold readN; rw [hr]; rfl
              obtain rfl : b = false := by rw [← HBb.out]; unfold readB; rw [hr]; rfl
              clear hr HRd HN HBb
              go_wp2
              go_ret2
              exact ⟨rfl, HB1.out⟩
            · have k3 : decide (mm < 0) = false := by rw [decide_eq_false_iff_not]; exact g3
              by_cases g4 : xx < 0
              · have hr := HRd.out
                rw [if_pos (.inr (.inr (.inr g4)))] at hr
                obtain rfl : N = 0 := by rw [← HN.out]; unfold readN; rw [hr]; rfl
                obtain rfl : b = false := by rw [← HBb.out]; unfold readB; rw [hr]; rfl
                clear hr HRd HN HBb
                go_wp2
                go_ret2
                exact ⟨rfl, HB1.out⟩
              · have k4 : decide (xx < 0) = false := by rw [decide_eq_false_iff_not]; exact g4
                have hr := HRd.out
                rw [if_neg (by omega)] at hr
                generalize shown (D * 86400 + hh * 3600 + mm * 60 + xx) = t at HS hr
                by_cases g5 : t = s
                · rw [if_pos g5] at hr
                  subst g5
                  obtain rfl : N = D * 86400 + hh * 3600 + mm * 60 + xx := by rw [← HN.out]; unfold readN; rw [hr]; rfl
                  obtain rfl : b = true := by rw [← HBb.out]; unfold readB; rw [hr]; rfl
                  clear hr HRd HN HBb
                  go_wp2_with fail
                  refine (HS.out _).mono ?_
                  rintro e w3 ⟨rfl, hb3⟩
                  have HB3 := Num.hide (HB1.out.trans (hb3.mono hsz1))
                  clear hb3
                  go_wp2
                  go_ret2
                  exact ⟨rfl, HB3.out⟩
                · rw [if_neg g5] at hr
                  have hq : (t.toList == s.toList) = false := by
                    rw [beq_eq_false_iff_ne, ByteArray.toList_eq, ByteArray.toList_eq]
                    intro e; exact g5 (ByteArray.ext (Array.toList_inj.1 e))
                  have hq2 : (t.toList != s.toList) = true := by rw [bne, hq]; rfl
                  obtain rfl : N = 0 := by rw [← HN.out]; unfold readN; rw [hr]; rfl
                  obtain rfl : b = false := by rw [← HBb.out]; unfold readB; rw [hr]; rfl
                  clear hr HRd HN HBb g5
                  go_wp2_with fail
                  refine (HS.out _).mono ?_
                  rintro e w3 ⟨rfl, hb3⟩
                  have HB3 := Num.hide (HB1.out.trans (hb3.mono hsz1))
                  clear hb3
                  go_wp2
                  go_ret2
                  exact ⟨rfl, HB3.out⟩
  · have hr : read s = none := by unfold read; rw [if_neg h29]
    have hN : readN s = 0 := by unfold readN; rw [hr]; rfl
    have hb : readB s = false := by unfold readB; rw [hr]; rfl
    rw [hN, hb]
    have d29 : ((s.size : Int) != 29) = true := by rw [bne_iff_ne]; omega
    clear hr hN hb h29
    go_enter Tryz.func112, Tryz.ntmps112
    go_wp2
    go_ret2
    exact ⟨rfl, Below.refl _ _⟩
end Date
end Go.Proofs.YtjeokackmkfooaaGreatDoor
namespace Go.Proofs.YtjeokackmkfooaaGreatDoor
open Go.RowKit
set_option linter.unusedVariables false
namespace Sign

set_option maxRecDepth 100000 in
set_option maxHeartbeats 1000000 in
theorem seconds_spec (s : ByteArray) (w : World) (hs : s.size ≤ maxLen) : Calls Tryz.prog 86 #[.string s] w fun e w' => e = .returned (.tuple #[.int .i64 (secs s).1, .bool (secs s).2]) ∧ w = w' := by
  unfold maxLen at hs
  obtain ⟨r, hr⟩ : ∃ r, secs s = r := ⟨_, rfl⟩
  rw [hr]
  have HR := Num.hide hr
  clear hr
  go_enter Tryz.func86, Tryz.ntmps86
  go_wp2
  go_loop [4, 5] (fun n i => ∃ k : Nat, k ≤ s.size ∧ i = .int .i64 k ∧ n = .int .i64 (sec (s.data.toList.take k)) ∧ (s.data.toList.take k).all (fun b => decide (dig (b.toNat : Int))) = true) (fun _ i => s.size - (intOf i).toNat)
  case atStart => exact ⟨0, by omega, rfl, rfl, by simp⟩
  case round =>
    obtain ⟨k, hk, rfl, rfl, hall⟩ := hrel
    have hb := sec_bd _ hall
    have HA := Num.hide hall
    clear hall
    by_cases hlt : k < s.size
    · have hstep := Num.hide (all_take s (fun b => decide (dig (b.toNat : Int))) k hlt)
      have hsec := Num.hide (sec_take s k hlt)
      have hn := Num.hide (fun h => not_all s (fun b => decide (dig (b.toNat : Int))) k hlt h)
      have hc := s[k].toNat_lt
      obtain ⟨x, hx⟩ : ∃ x, sec (s.data.toList.take k) = x := ⟨_, rfl⟩
      rw [hx] at hb ⊢
      have HX := Num.hide hx
      clear hx
      by_cases h1 : 48 ≤ (s[k].toNat : Int)
      · have d1 : decide ((s[k].toNat : Int) < 48) = false := by simp; omega
        by_cases h2 : (s[k].toNat : Int) ≤ 57
        · have d2 : decide (57 < (s[k].toNat : Int)) = false := by simp; omega
          have hd := Num.hide (show decide (dig (s[k].toNat : Int)) = true from decide_eq_true (by unfold dig; omega))
          go_wp2
          all_goals go_round
          case rel => exact ⟨k + 1, by omega, by go_num, by rw [Num.unhide hsec, Num.unhide HX] <;> go_num, by rw [Num.unhide hstep, Num.unhide HA, Num.unhide hd]; rfl⟩
          case measure => simp [intOf]; omega
        · have d2 : decide (57 < (s[k].toNat : Int)) = true := by simp; omega
          have hr : secs s = (0, false) := by
            unfold secs
            rw [if_neg]
            intro h
            rw [Num.unhide hn (decide_eq_false (by unfold dig; omega))] at h
            simp at h
          rw [Num.unhide HR] at hr
          subst hr
          go_wp2
          all_goals go_ret2
          all_goals exact ⟨rfl, rfl⟩
      · have d1 : decide ((s[k].toNat : Int) < 48) = true := by simp; omega
        have hr : secs s = (0, false) := by
          unfold secs
          rw [if_neg]
          intro h
          rw [Num.unhide hn (decide_eq_false (by unfold dig; omega))] at h
          simp at h
        rw [Num.unhide HR] at hr
        subst hr
        go_wp2
        all_goals go_ret2
        all_goals exact ⟨rfl, rfl⟩
    · obtain rfl : k = s.size := by omega
      have hfull : s.data.toList.take s.size = s.data.toList := List.take_of_length_le (by rw [Array.length_toList]; exact Nat.le_refl _)
      have hall := Num.unhide HA
      have hr := Num.unhide HR
      rw [hfull] at hall hb ⊢
      unfold secs at hr
      by_cases h0 : 0 < s.size
      · rw [if_pos ⟨h0, hall⟩] at hr
        subst hr
        have h0' : decide (0 < (s.size : Int)) = true := by simp; omega
        clear HR HA hall hfull
        obtain ⟨x, hx⟩ : ∃ x, sec s.data.toList = x := ⟨_, rfl⟩
        rw [hx] at hb ⊢
        have HX := Num.hide hx
        clear hx
        go_wp2
        all_goals go_ret2
        all_goals exact ⟨by rw [Num.unhide HX]; rfl, rfl⟩
      · rw [if_neg (fun h => h0 h.1)] at hr
        subst hr
        have hz : s.size = 0 := by omega
        have h0' : decide (0 < (s.size : Int)) = false := by rw [hz]; rfl
        have e0 : sec s.data.toList = 0 := by
          rw [List.eq_nil_of_length_eq_zero (show s.data.toList.length = 0 by rw [Array.length_toList]; exact hz)]; rfl
        rw [e0]
        clear HR HA hall hfull
        go_wp2
        all_goals go_ret2
        all_goals exact ⟨rfl, rfl⟩
end Sign
end Go.Proofs.YtjeokackmkfooaaGreatDoor
namespace Go.Proofs.YtjeokackmkfooaaGreatDoor
open Go.RowKit
set_option linter.unusedVariables false
namespace Age
open Flds (Fld ret_int)

theorem get_small (l : List Fld) (name : ByteArray) (hl : Flds.bulk l ≤ 1048576) : (Flds.get l name).1.size ≤ 4194304 := by
  have h := Flds.get_size l name
  unfold Flds.bulk at hl
  omega
set_option maxRecDepth 100000 in
set_option maxHeartbeats 1000000 in
theorem dateOf_spec (v : Value) (l : List Fld) (name : ByteArray) (w : World) (h : Flds.Is w v l) (hl : Flds.bulk l ≤ 1048576) :
    Calls Tryz.prog 85 #[v, .string name] w fun e w' => e = .returned (.tuple #[.int .i64 (dateOf l name).1, .bool (dateOf l name).2]) ∧ Below w.heap.size w w' := by
  have HG := Num.hide (Flds.get_spec_b v l name w h (by omega))
  have hsz := get_small l name hl
  obtain ⟨r, hr⟩ : ∃ r, dateOf l name = r := ⟨_, rfl⟩
  rw [hr]
  unfold dateOf at hr
  generalize Flds.get l name = g at HG hsz hr
  obtain ⟨s, b⟩ := g
  simp only at HG hsz hr
  have HD := Num.hide (fun W => Date.read_spec s W (by unfold maxLen; omega))
  generalize Date.readN s = n at HD hr
  generalize Date.readB s = f at HD hr
  clear h
  cases b with
  | true =>
    rw [if_pos rfl] at hr
    subst hr
    go_enter Tryz.func85, Tryz.ntmps85
    go_wp2_with fail
    refine HG.out.mono ?_
    rintro e w1 ⟨rfl, hb1⟩
    have HB := Num.hide hb1
    clear hb1
    go_wp2_with fail
    refine (HD.out _).mono ?_
    rintro e w2 ⟨rfl, hb2⟩
    have HB2 := Num.hide (HB.out.trans (hb2.mono HB.out.size))
    clear hb2
    go_wp2
    go_ret2
    exact ⟨rfl, HB2.out⟩
  | false =>
    rw [if_neg (by simp)] at hr
    subst hr
    go_enter Tryz.func85, Tryz.ntmps85
    go_wp2_with fail
    refine HG.out.mono ?_
    rintro e w1 ⟨rfl, hb1⟩
    have HB := Num.hide hb1
    clear hb1
    go_wp2
    go_ret2
    exact ⟨rfl, HB.out⟩
theorem row_stays {W W' : World} {g : Nat} {o : Obj} (h : W.heap[g]? = some o) (hb : Below W.heap.size W W') : W'.heap[g]? = some o := (hb.block g (Array.getElem?_eq_some_iff.1 h).1).trans h
set_option maxRecDepth 100000 in
set_option maxHeartbeats 2000000 in
theorem firstAge_spec (st : Int) (v : Value) (l : List Fld) (b : ByteArray) (asked came : Int) (w : World) (h : Flds.Is w v l) (hl : Flds.bulk l ≤ 1048576) (hcm : came ≤ 9223372036854775807) :
    Calls Tryz.prog 84 #[Resp.val st v b, .int .i64 asked, .int .i64 came] w fun e w' => e = .returned (.int .i64 (firstAge l asked came)) ∧ Below w.heap.size w w' := by
  have hb0 : Below w.heap.size w (w.alloc (.cells #[.int .i64 st, v, .string b] 28)) := (Below.refl _ _).alloc (Nat.le_refl _) _
  have HV0 := Num.hide (Recs.is_below h hb0)
  obtain ⟨av, cv, rfl, _⟩ := Flds.is_form h
  have HX0 : Hid ((w.alloc (.cells #[.int .i64 st, .slice av l.length cv, .string b] 28)).heap[w.heap.size]? = some (.cells #[.int .i64 st, .slice av l.length cv, .string b] 28)) := heap_alloc_new w _
  have HB0 := Num.hide hb0
  have HG := Num.hide (Flds.get_spec_b _ l ageName _ HV0.out (by omega))
  have hsz := get_small l ageName hl
  obtain ⟨r, hr⟩ : ∃ r, firstAge l asked came = r := ⟨_, rfl⟩
  rw [hr]
  unfold firstAge told at hr
  have hsb := secs_bd (Flds.get l ageName).1
  generalize Flds.get l ageName = g at HG hsz hr hsb
  obtain ⟨s, bs⟩ := g
  simp only at HG hsz hr hsb
  have HS := Num.hide (fun W => Sign.seconds_spec s W (by unfold maxLen; omega))
  generalize Sign.secs s = sc at HS hr hsb
  obtain ⟨T, tb⟩ := sc
  simp only at HS hr hsb
  have HR := Num.hide hr
  unfold Resp.val
  clear h hb0 hr
  go_enter Tryz.func84, Tryz.ntmps84
  go_wp2_with fail
  refine HG.out.mono ?_
  rintro e w1 ⟨rfl, hb1⟩
  have HX1 := Num.hide (row_stays HX0.out hb1)
  have HV1 := Num.hide (Recs.is_below HV0.out hb1)
  have HB1 := Num.hide (HB0.out.trans (hb1.mono HB0.out.size))
  clear hb1 HX0 HV0 HB0 HG
  go_wp2_with fail
  refine (HS.out _).mono ?_
  rintro e w2 ⟨rfl, rfl⟩
  have c1 := Recs.box_cell HX1.out 1
  simp only [List.getElem?_toArray, List.getElem?_cons_succ, List.getElem?_cons_zero] at c1
  have HD := Num.hide (dateOf_spec _ l dateName w1 HV1.out hl)
  have hdb := dateOf_bd l dateName
  obtain ⟨A, hA⟩ : ∃ A, apparent l came = A := ⟨_, rfl⟩
  have HA := Num.hide hA
  unfold apparent at hA
  generalize dateOf l dateName = d at HD hA hdb
  obtain ⟨D, db⟩ := d
  simp only at HD hA hdb
  have HA2 := Num.hide hA
  clear hA
  go_wp2_with fail
  refine HD.out.mono ?_
  rintro e w3 ⟨rfl, hb3⟩
  have HB3 := Num.hide (HB1.out.trans (hb3.mono HB1.out.size))
  clear hb3 c1 HX1 HV1 HB1 HD HS
  go_upto_region 5 with fail
  obtain ⟨P, hP⟩ : ∃ P, (db && decide (D < came)) = P := ⟨_, rfl⟩
  have HP := Num.hide hP
  have HAf : Hid (P = false → A = 0) := fun h => by
    rw [← HA2.out, if_neg]
    rintro ⟨e1, e2⟩
    rw [← hP, e1, decide_eq_true e2] at h; cases h
  have HAt : Hid (P = true → D < came ∧ A = min (came - D) 2147483648) := fun h => by
    rw [← hP, Bool.and_eq_true, decide_eq_true_iff] at h
    exact ⟨h.2, by rw [← HA2.out, if_pos h]⟩
  clear hP HA2
  go_cut [37] from 15 (fun v wx => v = .bool P ∧ wx = w3)
  case first =>
    cases db with
    | false =>
      obtain rfl : P = false := by rw [← HP.out]; rfl
      clear HP HAf HAt
      go_wp2
      go_meet
      case rel => exact ⟨rfl, rfl⟩
    | true =>
      by_cases hc : D < came
      · have dc : decide (D < came) = true := decide_eq_true hc
        obtain rfl : P = true := by rw [← HP.out, dc]; rfl
        clear HP HAf HAt
        go_wp2
        go_meet
        case rel => exact ⟨rfl, rfl⟩
      · have dc : decide (D < came) = false := decide_eq_false hc
        obtain rfl : P = false := by rw [← HP.out, dc]; rfl
        clear HP HAf HAt
        go_wp2
        go_meet
        case rel => exact ⟨rfl, rfl⟩
  case rest =>
  obtain ⟨rfl, rfl⟩ := hcut
  clear HP
  go_upto_if 37 with fail
  go_cut [13] from 15 (fun v wx => v = .int .i64 A ∧ wx = wc)
  case first =>
    cases P with
    | false =>
      obtain rfl := HAf.out rfl
      clear HA HAf HAt
      go_wp2
      go_meet
      case rel => exact ⟨rfl, rfl⟩
    | true =>
      obtain ⟨hc, hA⟩ := HAt.out rfl
      by_cases hm : 2147483648 < came - D
      · obtain rfl : A = 2147483648 := by omega
        clear HA HAf HAt hA
        go_wp2
        go_meet
        case rel => exact ⟨by first | rfl | exact congrArg _ (by omega), rfl⟩
      · obtain rfl : A = came - D := by omega
        clear HA HAf HAt hA
        go_wp2
        go_meet
        case rel => exact ⟨by first | rfl | exact congrArg _ (by omega), rfl⟩
  case rest =>
  obtain ⟨rfl, rfl⟩ := hcut
  clear HAf HAt
  obtain ⟨Dl, hDl⟩ : ∃ Dl, delay asked came = Dl := ⟨_, rfl⟩
  have HDl := Num.hide hDl
  unfold delay at hDl
  have HD2 := Num.hide hDl
  clear hDl
  go_upto_region 8 with fail
  obtain ⟨Q, hQ⟩ : ∃ Q, (decide (asked < came) && decide (0 ≤ asked)) = Q := ⟨_, rfl⟩
  have HQ := Num.hide hQ
  have HQf : Hid (Q = false → Dl = 0) := fun h => by
    rw [← HD2.out, if_neg]
    rintro ⟨e1, e2⟩
    rw [← hQ, decide_eq_true e1, decide_eq_true e2] at h; cases h
  have HQt : Hid (Q = true → asked < came ∧ 0 ≤ asked ∧ Dl = came - asked) := fun h => by
    rw [← hQ, Bool.and_eq_true, decide_eq_true_iff, decide_eq_true_iff] at h
    exact ⟨h.1, h.2, by rw [← HD2.out, if_pos h]⟩
  clear hQ HD2
  go_cut [48] from 15 (fun v wx => v = .bool Q ∧ wx = wc)
  case first =>
    by_cases h1 : asked < came
    · have d1 : decide (asked < came) = true := decide_eq_true h1
      by_cases h2 : 0 ≤ asked
      · have d2 : decide (0 ≤ asked) = true := decide_eq_true h2
        obtain rfl : Q = true := by rw [← HQ.out, d1, d2]; rfl
        clear HQ HQf HQt
        go_wp2
        go_meet
        case rel => exact ⟨rfl, rfl⟩
      · have d2 : decide (0 ≤ asked) = false := decide_eq_false h2
        obtain rfl : Q = false := by rw [← HQ.out, d1, d2]; rfl
        clear HQ HQf HQt
        go_wp2
        go_meet
        case rel => exact ⟨rfl, rfl⟩
    · have d1 : decide (asked < came) = false := decide_eq_false h1
      obtain rfl : Q = false := by rw [← HQ.out, d1]; rfl
      clear HQ HQf HQt
      go_wp2
      go_meet
      case rel => exact ⟨rfl, rfl⟩
  case rest =>
  obtain ⟨rfl, rfl⟩ := hcut
  clear HQ
  go_upto_if 48 with fail
  go_cut [14] from 15 (fun v wx => v = .int .i64 Dl ∧ wx = wc)
  case first =>
    cases Q with
    | false =>
      obtain rfl := HQf.out rfl
      clear HDl HQf HQt
      go_wp2
      go_meet
      case rel => exact ⟨rfl, rfl⟩
    | true =>
      obtain ⟨h1, h2, rfl⟩ := HQt.out rfl
      clear HDl HQf HQt
      go_wp2
      go_meet
      case rel => exact ⟨rfl, rfl⟩
  case rest =>
  obtain ⟨rfl, rfl⟩ := hcut
  clear HQf HQt
  have hr := HR.out
  rw [HA.out, HDl.out] at hr
  have HSa := Num.hide (fun W => satAdd_spec T Dl W)
  generalize satAdd T Dl = Sa at HSa hr
  clear HR HA HDl
  go_wp2_with fail
  refine (HSa.out _).mono ?_
  rintro e w4 ⟨rfl, rfl⟩
  by_cases hlt : A < Sa
  · obtain rfl : r = Sa := by omega
    clear hr
    go_wp2
    all_goals go_ret
    all_goals exact ⟨ret_int (by omega), HB3.out⟩
  · obtain rfl : r = A := by omega
    clear hr
    go_wp2
    all_goals go_ret
    all_goals exact ⟨ret_int (by omega), HB3.out⟩
end Age
end Go.Proofs.YtjeokackmkfooaaGreatDoor
