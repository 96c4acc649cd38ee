/-
  DateSpec: ShowDate of the specification: the text of a date; what was there stays.
  DrawFld: The specification's draws of fields: some list of small fields; nothing but the cursor and new memory changes.
  DrawFldL: The specification's draws of lists of fields.
  DrawPickInt: l1PickInt of the draws, of a cursor in whatever state.
-/
import Derived.Test.YtbcjpjhpobmpbaaGreatDoorPac
import Derived.Test.YtbcjpjhpobmpbaaGreatDoorPau
import Derived.Test.YtbcjpjhpobmpbaaGreatDoorPae
namespace Go.Proofs.YtbcjpjhpobmpbaaGreatDoor
open Go.RowKit
set_option linter.unusedVariables false
namespace Date

def wrow : Array Value := #[.string ⟨#[84, 104, 117]⟩, .string ⟨#[70, 114, 105]⟩, .string ⟨#[83, 97, 116]⟩, .string ⟨#[83, 117, 110]⟩, .string ⟨#[77, 111, 110]⟩, .string ⟨#[84, 117, 101]⟩, .string ⟨#[87, 101, 100]⟩]
def nrow : Array Value := #[.string ⟨#[74, 97, 110]⟩, .string ⟨#[70, 101, 98]⟩, .string ⟨#[77, 97, 114]⟩, .string ⟨#[65, 112, 114]⟩, .string ⟨#[77, 97, 121]⟩, .string ⟨#[74, 117, 110]⟩, .string ⟨#[74, 117, 108]⟩, .string ⟨#[65, 117, 103]⟩, .string ⟨#[83, 101, 112]⟩, .string ⟨#[79, 99, 116]⟩, .string ⟨#[78, 111, 118]⟩, .string ⟨#[68, 101, 99]⟩]
theorem wcell (w : World) (k : Nat) (h : k < 7) : (w.alloc (.cells wrow 9)).cell? ⟨w.heap.size, k, none⟩ = some (.string (week k)) := by
  rw [cell_of_row _ _ _ _ _ _ (heap_alloc_new w _)]
  match k, h with
  | 0, _ => rfl
  | 1, _ => rfl
  | 2, _ => rfl
  | 3, _ => rfl
  | 4, _ => rfl
  | 5, _ => rfl
  | 6, _ => rfl
theorem ncell (w : World) (k : Nat) (h : k < 12) : (w.alloc (.cells nrow 9)).cell? ⟨w.heap.size, k, none⟩ = some (.string (name k)) := by
  rw [cell_of_row _ _ _ _ _ _ (heap_alloc_new w _)]
  match k, h with
  | 0, _ => rfl
  | 1, _ => rfl
  | 2, _ => rfl
  | 3, _ => rfl
  | 4, _ => rfl
  | 5, _ => rfl
  | 6, _ => rfl
  | 7, _ => rfl
  | 8, _ => rfl
  | 9, _ => rfl
  | 10, _ => rfl
  | 11, _ => rfl
theorem days_year (j : Nat) (h : j ≤ 66) : days (1970 + (j : Int) + 1) 1 1 = ysum (j + 1) := by
  have := days_parts (j + 1) 0 0 (by omega) (by omega) (by omega) (by have := mlen_bd (1970 + ((j + 1 : Nat) : Int)) 0 (by omega); omega)
  rw [show (1970 + (j : Int) + 1) = 1970 + ((j + 1 : Nat) : Int) by omega]
  simp only [Int.zero_add, msum, Int.add_zero] at this
  exact this
theorem days_month (j k : Nat) (h : j ≤ 67) (hk : k ≤ 11) : days (1970 + (j : Int)) ((k : Int) + 1) 1 = ysum j + msum (1970 + (j : Int)) k := by
  have := days_parts j k 0 h hk (by omega) (by have := mlen_bd (1970 + (j : Int)) k (by omega); omega)
  simp only [Int.zero_add] at this
  exact this
set_option maxRecDepth 100000 in
set_option maxHeartbeats 4000000 in
theorem date_spec (n : Int) (w : World) : Calls Tryz.prog 81 #[.int .i64 n] w fun e w' => e = .returned (.string (shown n)) ∧ Below w.heap.size w w' := by
  by_cases h1 : 0 ≤ n ∧ n ≤ 2000000000
  · have hsh : shown n = text n := if_pos h1
    rw [hsh]
    obtain ⟨r, hr⟩ : ∃ r, text n = r := ⟨_, rfl⟩
    rw [hr]
    unfold text at hr
    clear hsh
    have hD0 : 0 ≤ (n / 86400) ∧ (n / 86400) ≤ 23148 := by omega
    have hp := parts_in (n / 86400) (by omega) (by omega)
    have HR := Num.hide hr
    have HP := Num.hide hp
    have HY : Hid (yr (n / 86400) = yearGo (n / 86400) 67 0) := rfl
    clear hr hp
    go_enter Tryz.func81, Tryz.ntmps81
    go_wp2_with fail
    refine (in_spec _ _ _ _).mono ?_
    rintro e w1 ⟨rfl, rfl⟩
    rw [decide_eq_true h1]
    go_wp2
    go_loopw [4] (fun yv wr => ∃ j : Nat, j ≤ 67 ∧ yv = .int .i64 (1970 + (j : Int)) ∧ Hid (yr (n / 86400) = yearGo (n / 86400) (67 - j) j) ∧ Hid (Below w.heap.size w wr)) (fun yv _ => (2037 - intOf yv).toNat)
    case atStart => exact ⟨0, by omega, by simp, HY, Below.refl _ _⟩
    case round =>
      clear HY
      obtain ⟨j, hj, rfl, HY, HB⟩ := hrel
      have hsz := HB.out.size
      by_cases hlt : 1970 + (j : Int) < 2037
      · have hy : yearGo (n / 86400) (67 - j) j = if ysum (j + 1) ≤ (n / 86400) then yearGo (n / 86400) (67 - (j + 1)) (j + 1) else j := by
          rw [show 67 - j = (67 - (j + 1)) + 1 by omega]; rfl
        have HDy := Num.hide (days_spec (1970 + (j : Int) + 1) 1 1 wr)
        rw [days_year j (by omega)] at HDy
        have hyb := ysum_bd (j + 1)
        by_cases hle : ysum (j + 1) ≤ (n / 86400)
        · have HY2 : Hid (yr (n / 86400) = yearGo (n / 86400) (67 - (j + 1)) (j + 1)) := by show _ = _; rw [HY.out, hy, if_pos hle]
          clear hy HY
          go_wp2_with fail
          refine (Num.unhide HDy).mono ?_
          rintro e w1 ⟨rfl, hb1⟩
          have HB1 := Num.hide (HB.out.trans (hb1.mono hsz))
          clear hb1
          go_wp2
          go_roundw
          case rel => exact ⟨j + 1, by omega, by go_num, HY2, HB1⟩
          case measure => simp [intOf]; omega
        · have HY2 : Hid (yr (n / 86400) = j) := by show _ = _; rw [HY.out, hy, if_neg hle]
          clear hy HY
          go_wp2_with fail
          refine (Num.unhide HDy).mono ?_
          rintro e w1 ⟨rfl, hb1⟩
          have HB1 := Num.hide (HB.out.trans (hb1.mono hsz))
          obtain ⟨hp1, hp2, hp3, hp4, hp5, hp6⟩ := HP.out
          have HR2 := HR.out
          have hmo : mo (n / 86400) = monthOf (1970 + (j : Int)) (n / 86400 - ysum j) := by unfold mo; rw [HY2.out]
          have hdy : dy (n / 86400) = n / 86400 - ysum j - msum (1970 + (j : Int)) (mo (n / 86400)) := by unfold dy; rw [HY2.out]
          rw [HY2.out] at hp1 hp4 hp5 hp6 HR2
          have HR := Num.hide HR2
          have HM0 : Hid (mo (n / 86400) = monthGo (1970 + (j : Int)) (n / 86400 - ysum j) 11 0) := hmo
          have HDY := Num.hide hdy
          have HP4 := Num.hide hp4
          have HP2 := Num.hide hp2
          have HP3 := Num.hide hp3
          clear hb1 HP HY2 HDy hmo hdy HR2 hp4 hp2 hp3 hp6
          go_wp2
          go_loopw [5] (fun mv wr => ∃ k : Nat, k ≤ 11 ∧ mv = .int .i64 ((k : Int) + 1) ∧ Hid (mo (n / 86400) = monthGo (1970 + (j : Int)) (n / 86400 - ysum j) (11 - k) k) ∧ Hid (Below w.heap.size w wr)) (fun mv _ => (12 - intOf mv).toNat)
          case atStart => exact ⟨0, by omega, by simp, HM0, HB1⟩
          case round =>
            clear HM0 HB1 HB
            obtain ⟨k, hk, rfl, HM, HB⟩ := hrel
            have hsz := HB.out.size
            by_cases hlt2 : (k : Int) + 1 < 12
            · have hm : monthGo (1970 + (j : Int)) (n / 86400 - ysum j) (11 - k) k = if msum (1970 + (j : Int)) (k + 1) ≤ n / 86400 - ysum j then monthGo (1970 + (j : Int)) (n / 86400 - ysum j) (11 - (k + 1)) (k + 1) else k := by
                rw [show 11 - k = (11 - (k + 1)) + 1 by omega]; rfl
              have HDm := Num.hide (days_spec (1970 + (j : Int)) ((k : Int) + 1 + 1) 1 wr)
              rw [show ((k : Int) + 1 + 1) = ((k + 1 : Nat) : Int) + 1 by omega, days_month j (k + 1) (by omega) (by omega), show ((k + 1 : Nat) : Int) + 1 = (k : Int) + 1 + 1 by omega] at HDm
              have hmb := msum_bd (1970 + (j : Int)) (k + 1) (by omega)
              have hyb2 := ysum_bd j
              by_cases hle2 : ysum j + msum (1970 + (j : Int)) (k + 1) ≤ n / 86400
              · have HM2 : Hid (mo (n / 86400) = monthGo (1970 + (j : Int)) (n / 86400 - ysum j) (11 - (k + 1)) (k + 1)) := by show _ = _; rw [HM.out, hm, if_pos (by omega)]
                clear hm HM
                go_wp2_with fail
                refine (Num.unhide HDm).mono ?_
                rintro e w2 ⟨rfl, hb2⟩
                have HB2 := Num.hide (HB.out.trans (hb2.mono hsz))
                clear hb2
                go_wp2
                go_roundw
                case rel => exact ⟨k + 1, by omega, by go_num, HM2, HB2⟩
                case measure => simp [intOf]; omega
              · have HM2 : Hid (mo (n / 86400) = k) := by show _ = _; rw [HM.out, hm, if_neg (by omega)]
                clear hm HM
                go_wp2_with fail
                refine (Num.unhide HDm).mono ?_
                rintro e w2 ⟨rfl, hb2⟩
                have HB2 := Num.hide (HB.out.trans (hb2.mono hsz))
                clear hb2
                clear HB
                have hszw := HB2.out.size
                have HD3 := Num.hide (fun W => days_spec (1970 + (j : Int)) ((k : Int) + 1) 1 W)
                rw [days_month j k (by omega) (by omega)] at HD3
                have hr := HR.out
                have hX : dy (n / 86400) + 1 = n / 86400 - (ysum j + msum (1970 + (j : Int)) k) + 1 := by rw [HDY.out, HM2.out]; omega
                have hX0 : 0 ≤ n / 86400 - (ysum j + msum (1970 + (j : Int)) k) + 1 ∧ n / 86400 - (ysum j + msum (1970 + (j : Int)) k) + 1 ≤ 99 := by
                  rw [← hX]
                  have h3 := HP3.out
                  have h4 := HP4.out
                  have h5 := mlen_bd (1970 + (j : Int)) (mo (n / 86400)) (by have := HP2.out; omega)
                  omega
                have hmb2 := msum_bd (1970 + (j : Int)) k (by omega)
                have hyb3 := ysum_bd j
                rw [hX, HM2.out] at hr
                have hws := week_size (n / 86400 % 7).toNat (by omega)
                have hns := name_size k (by omega)
                have HW := Num.hide (fun W => wcell W (n / 86400 % 7).toNat (by omega))
                have HN := Num.hide (fun W => ncell W k (by omega))
                have hds : (dec (1970 + (j : Int))).size ≤ 20 := by
                  unfold dec
                  rw [Dec.itoa_pos _ (by omega)]
                  have := Dec.length_dd (1970 + (j : Int)).natAbs (by omega)
                  simp only [ByteArray.size, List.size_toArray]
                  exact this
                have HE := Num.hide (fun W => Dec.spec_any (1970 + (j : Int)) W (by omega) (by omega))
                have ht1 := size_two (n / 86400 - (ysum j + msum (1970 + (j : Int)) k) + 1)
                have ht2 := size_two (n / 3600 % 24)
                have ht3 := size_two (n / 60 % 60)
                have ht4 := size_two (n % 60)
                have HT1 := Num.hide (fun W => two_spec (n / 86400 - (ysum j + msum (1970 + (j : Int)) k) + 1) W hX0.1 hX0.2)
                have HT2 := Num.hide (fun W => two_spec (n / 3600 % 24) W (by omega) (by omega))
                have HT3 := Num.hide (fun W => two_spec (n / 60 % 60) W (by omega) (by omega))
                have HT4 := Num.hide (fun W => two_spec (n % 60) W (by omega) (by omega))
                change Hid (∀ W, Calls Tryz.prog 105 #[.int .i64 (1970 + (j : Int))] W fun e w' => e = .returned (.string (dec (1970 + (j : Int)))) ∧ Below W.heap.size W w') at HE
                generalize two (n / 86400 - (ysum j + msum (1970 + (j : Int)) k) + 1) = t1 at hr ht1 HT1
                generalize two (n / 3600 % 24) = t2 at hr ht2 HT2
                generalize two (n / 60 % 60) = t3 at hr ht3 HT3
                generalize two (n % 60) = t4 at hr ht4 HT4
                generalize dec (1970 + (j : Int)) = dc at hr hds HE
                generalize week (n / 86400 % 7).toNat = wk at hr hws HW
                generalize name k = nm at hr hns HN
                have HR3 := Num.hide hr
                clear hr hX HR HP4 HP2 HP3 HDY HM2
                go_wp2_with fail
                refine (HD3.out _).mono ?_
                rintro e w3 ⟨rfl, hb3⟩
                have HB3 := Num.hide (HB2.out.trans (hb3.mono hszw))
                clear hb3
                have hc1 := HW.out w3
                unfold wrow at hc1
                have hc2 := HN.out (w3.alloc (.cells wrow 9))
                rw [World.size_alloc] at hc2
                unfold wrow nrow at hc2
                have HB4 := Num.hide ((HB3.out.alloc HB3.out.size (.cells wrow 9)).alloc (by have := HB3.out.size; simp; omega) (.cells nrow 9))
                unfold wrow nrow at HB4
                go_wp2_with fail
                refine (HT1.out _).mono ?_
                rintro e w5 ⟨rfl, hb5⟩
                have HB5 := Num.hide (HB4.out.trans (hb5.mono HB4.out.size))
                clear hb5 hc1 hc2 HB4
                go_wp2_with fail
                refine (HE.out _).mono ?_
                rintro e w6 ⟨rfl, hb6⟩
                have HB6 := Num.hide (HB5.out.trans (hb6.mono HB5.out.size))
                clear hb6 HB5
                go_wp2_with fail
                refine (HT2.out _).mono ?_
                rintro e w7 ⟨rfl, hb7⟩
                have HB7 := Num.hide (HB6.out.trans (hb7.mono HB6.out.size))
                clear hb7 HB6
                go_wp2_with fail
                refine (HT3.out _).mono ?_
                rintro e w8 ⟨rfl, hb8⟩
                have HB8 := Num.hide (HB7.out.trans (hb8.mono HB7.out.size))
                clear hb8 HB7
                go_wp2_with fail
                refine (HT4.out _).mono ?_
                rintro e w9 ⟨rfl, hb9⟩
                have HB9 := Num.hide (HB8.out.trans (hb9.mono HB8.out.size))
                clear hb9 HB8
                have hr := HR3.out
                subst hr
                go_wp2
                go_ret
                exact ⟨rfl, HB9.out⟩
            · have HM2 : Hid (mo (n / 86400) = k) := by show _ = _; rw [HM.out, show 11 - k = 0 by omega]; rfl
              clear HM
              have hszw := HB.out.size
              have HD3 := Num.hide (fun W => days_spec (1970 + (j : Int)) ((k : Int) + 1) 1 W)
              rw [days_month j k (by omega) (by omega)] at HD3
              have hr := HR.out
              have hX : dy (n / 86400) + 1 = n / 86400 - (ysum j + msum (1970 + (j : Int)) k) + 1 := by rw [HDY.out, HM2.out]; omega
              have hX0 : 0 ≤ n / 86400 - (ysum j + msum (1970 + (j : Int)) k) + 1 ∧ n / 86400 - (ysum j + msum (1970 + (j : Int)) k) + 1 ≤ 99 := by
                rw [← hX]
                have h3 := HP3.out
                have h4 := HP4.out
                have h5 := mlen_bd (1970 + (j : Int)) (mo (n / 86400)) (by have := HP2.out; omega)
                omega
              have hmb2 := msum_bd (1970 + (j : Int)) k (by omega)
              have hyb3 := ysum_bd j
              rw [hX, HM2.out] at hr
              have hws := week_size (n / 86400 % 7).toNat (by omega)
              have hns := name_size k (by omega)
              have HW := Num.hide (fun W => wcell W (n / 86400 % 7).toNat (by omega))
              have HN := Num.hide (fun W => ncell W k (by omega))
              have hds : (dec (1970 + (j : Int))).size ≤ 20 := by
                unfold dec
                rw [Dec.itoa_pos _ (by omega)]
                have := Dec.length_dd (1970 + (j : Int)).natAbs (by omega)
                simp only [ByteArray.size, List.size_toArray]
                exact this
              have HE := Num.hide (fun W => Dec.spec_any (1970 + (j : Int)) W (by omega) (by omega))
              have ht1 := size_two (n / 86400 - (ysum j + msum (1970 + (j : Int)) k) + 1)
              have ht2 := size_two (n / 3600 % 24)
              have ht3 := size_two (n / 60 % 60)
              have ht4 := size_two (n % 60)
              have HT1 := Num.hide (fun W => two_spec (n / 86400 - (ysum j + msum (1970 + (j : Int)) k) + 1) W hX0.1 hX0.2)
              have HT2 := Num.hide (fun W => two_spec (n / 3600 % 24) W (by omega) (by omega))
              have HT3 := Num.hide (fun W => two_spec (n / 60 % 60) W (by omega) (by omega))
              have HT4 := Num.hide (fun W => two_spec (n % 60) W (by omega) (by omega))
              change Hid (∀ W, Calls Tryz.prog 105 #[.int .i64 (1970 + (j : Int))] W fun e w' => e = .returned (.string (dec (1970 + (j : Int)))) ∧ Below W.heap.size W w') at HE
              generalize two (n / 86400 - (ysum j + msum (1970 + (j : Int)) k) + 1) = t1 at hr ht1 HT1
              generalize two (n / 3600 % 24) = t2 at hr ht2 HT2
              generalize two (n / 60 % 60) = t3 at hr ht3 HT3
              generalize two (n % 60) = t4 at hr ht4 HT4
              generalize dec (1970 + (j : Int)) = dc at hr hds HE
              generalize week (n / 86400 % 7).toNat = wk at hr hws HW
              generalize name k = nm at hr hns HN
              have HR3 := Num.hide hr
              clear hr hX HR HP4 HP2 HP3 HDY HM2
              go_wp2_with fail
              refine (HD3.out _).mono ?_
              rintro e w3 ⟨rfl, hb3⟩
              have HB3 := Num.hide (HB.out.trans (hb3.mono hszw))
              clear hb3
              have hc1 := HW.out w3
              unfold wrow at hc1
              have hc2 := HN.out (w3.alloc (.cells wrow 9))
              rw [World.size_alloc] at hc2
              unfold wrow nrow at hc2
              have HB4 := Num.hide ((HB3.out.alloc HB3.out.size (.cells wrow 9)).alloc (by have := HB3.out.size; simp; omega) (.cells nrow 9))
              unfold wrow nrow at HB4
              go_wp2_with fail
              refine (HT1.out _).mono ?_
              rintro e w5 ⟨rfl, hb5⟩
              have HB5 := Num.hide (HB4.out.trans (hb5.mono HB4.out.size))
              clear hb5 hc1 hc2 HB4
              go_wp2_with fail
              refine (HE.out _).mono ?_
              rintro e w6 ⟨rfl, hb6⟩
              have HB6 := Num.hide (HB5.out.trans (hb6.mono HB5.out.size))
              clear hb6 HB5
              go_wp2_with fail
              refine (HT2.out _).mono ?_
              rintro e w7 ⟨rfl, hb7⟩
              have HB7 := Num.hide (HB6.out.trans (hb7.mono HB6.out.size))
              clear hb7 HB6
              go_wp2_with fail
              refine (HT3.out _).mono ?_
              rintro e w8 ⟨rfl, hb8⟩
              have HB8 := Num.hide (HB7.out.trans (hb8.mono HB7.out.size))
              clear hb8 HB7
              go_wp2_with fail
              refine (HT4.out _).mono ?_
              rintro e w9 ⟨rfl, hb9⟩
              have HB9 := Num.hide (HB8.out.trans (hb9.mono HB8.out.size))
              clear hb9 HB8
              have hr := HR3.out
              subst hr
              go_wp2
              go_ret
              exact ⟨rfl, HB9.out⟩
      · exfalso
        have := HY.out
        have h2 := HP.out.1
        rw [show 67 - j = 0 by omega] at this
        unfold yearGo at this
        omega
  · have hsh : shown n = ⟨#[]⟩ := if_neg h1
    rw [hsh]
    clear hsh
    go_enter Tryz.func81, Tryz.ntmps81
    go_wp2_with fail
    refine (in_spec _ _ _ _).mono ?_
    rintro e w1 ⟨rfl, rfl⟩
    rw [decide_eq_false h1]
    go_wp2
    go_ret
    exact ⟨rfl, Below.refl _ _⟩
end Date
end Go.Proofs.YtbcjpjhpobmpbaaGreatDoor
namespace Go.Proofs.YtbcjpjhpobmpbaaGreatDoor
open Go.RowKit
set_option linter.unusedVariables false
namespace Draw
open Flds (two_cells box_first box_second)

theorem date_size (z : Int) (h0 : 0 ≤ z) (h1 : z < 60) : (Date.shown z).size ≤ 64 := by
  have e : Date.shown z = Date.text z := if_pos ⟨h0, by omega⟩
  rw [e]
  unfold Date.text
  have hp := Date.parts_in (z / 86400) (by omega) (by omega)
  have hw := Date.week_size (z / 86400 % 7).toNat (by omega)
  have hn := Date.name_size (Date.mo (z / 86400)) (by omega)
  have hd : (Date.dec (1970 + (Date.yr (z / 86400) : Int))).size ≤ 20 := by
    unfold Date.dec
    rw [Dec.itoa_pos _ (by omega)]
    have := Dec.length_dd (1970 + (Date.yr (z / 86400) : Int)).natAbs (by omega)
    simp only [ByteArray.size, List.size_toArray]
    exact this
  have e1 : (⟨#[44, 32]⟩ : ByteArray).size = 2 := rfl
  have e2 : (⟨#[32]⟩ : ByteArray).size = 1 := rfl
  have e3 : (⟨#[58]⟩ : ByteArray).size = 1 := rfl
  have e4 : (⟨#[32, 71, 77, 84]⟩ : ByteArray).size = 4 := rfl
  simp only [ByteArray.size_append, Date.size_two, hw, hn, e1, e2, e3, e4]
  omega
/-- the box of a field that is made: what it holds after two stores -/
theorem box_end {B C : Nat} {w w2 : World} (x y : ByteArray) (hl : Live B C w2) (ho : Only C w w2) (hC : C < w.heap.size) :
    Live B C ((w2.setCell ⟨w.heap.size, 0, none⟩ (.string x)).setCell ⟨w.heap.size, 1, none⟩ (.string y)) ∧ Only C w ((w2.setCell ⟨w.heap.size, 0, none⟩ (.string x)).setCell ⟨w.heap.size, 1, none⟩ (.string y)) := by
  have hb : Below w.heap.size w2 ((w2.setCell ⟨w.heap.size, 0, none⟩ (.string x)).setCell ⟨w.heap.size, 1, none⟩ (.string y)) :=
    ((Below.refl _ _).setCell (p := ⟨w.heap.size, 0, none⟩) (Nat.le_refl _) _).setCell (p := ⟨w.heap.size, 1, none⟩) (Nat.le_refl _) _
  exact ⟨hl.under hb hC, ho.of_below hb⟩
set_option maxRecDepth 100000 in
set_option maxHeartbeats 4000000 in
theorem field_q (B C : Nat) (w : World) (h : Live B C w) :
    Calls Tryz.prog 77 #[.pointer (some ⟨C, 0, none⟩)] w fun e w' => ∃ x y, e = .returned (.agg #[.string x, .string y]) ∧ x.size ≤ 64 ∧ y.size ≤ 64 ∧ Drawn x y ∧ Live B C w' ∧ Only C w w' := by
  have hC := h.lt
  have HL0 := Num.hide (h.alloc (.cells #[.string ⟨#[]⟩, .string ⟨#[]⟩] 47))
  have HO0 := Num.hide ((Only.refl C w).alloc (.cells #[.string ⟨#[]⟩, .string ⟨#[]⟩] 47))
  have HK0 : Hid ((w.alloc (.cells #[.string ⟨#[]⟩, .string ⟨#[]⟩] 47)).heap[w.heap.size]? = some (.cells #[.string ⟨#[]⟩, .string ⟨#[]⟩] 47)) := heap_alloc_new w _
  clear h
  go_enter Tryz.func77, Tryz.ntmps77
  go_wp2_with fail
  refine (below_live B C 10 _ HL0.out (by omega) (by omega)).mono ?_
  rintro e w1 ⟨z, rfl, hz0, hz1, hl, ho⟩
  have HL1 := Num.hide hl
  have HO1 := Num.hide (HO0.out.trans ho)
  have HK1 : Hid (w1.heap[w.heap.size]? = some (.cells #[.string ⟨#[]⟩, .string ⟨#[]⟩] 47)) := (ho.block _ (by simp) (by omega)).trans HK0.out
  have hs1 : w.heap.size < w1.heap.size := by have := ho.size; simp at this; omega
  clear hl ho HL0 HO0 HK0
  rcases (by omega : z = 0 ∨ z = 1 ∨ z = 2 ∨ z = 3 ∨ z = 4 ∨ z = 5 ∨ z = 6 ∨ z = 7 ∨ z = 8 ∨ z = 9) with rfl | rfl | rfl | rfl | rfl | rfl | rfl | rfl | rfl | rfl
  · go_wp2_with fail
    refine (pick_q (oneOf ccVals) B C w1.heap.size _ 12 _ (HL1.out.alloc _) (by omega) (heap_alloc_new w1 _) rfl (by omega) (by omega) (by kernel_rfl)).mono ?_
    rintro e w2 ⟨y, rfl, hy, hq, hl, ho⟩
    have HQ := Num.hide hq
    clear hq
    have HO2 := Num.hide ((HO1.out.alloc _).trans ho)
    have HK2 : Hid (w2.heap[w.heap.size]? = some (.cells #[.string ⟨#[]⟩, .string ⟨#[]⟩] 47)) := by
      rw [ho.block _ (by simp; omega) (by omega), heap_alloc_old w1 _ (by omega)]; exact HK1.out
    have hs2 : w.heap.size < w2.heap.size := by have := ho.size; simp at this; omega
    have HL2 := Num.hide hl
    clear hl ho HL1 HO1 HK1
    obtain ⟨k0, k1, f0, f1⟩ := two_cells HK2.out
    have r0 := Num.hide (box_first (x := ⟨#[99, 97, 99, 104, 101, 45, 99, 111, 110, 116, 114, 111, 108]⟩) (y := y) k0)
    have r1 := Num.hide (box_second (x := ⟨#[99, 97, 99, 104, 101, 45, 99, 111, 110, 116, 114, 111, 108]⟩) (y := y) k1)
    have HE := Num.hide (box_end (⟨#[99, 97, 99, 104, 101, 45, 99, 111, 110, 116, 114, 111, 108]⟩) (y) HL2.out HO2.out hC)
    clear HL2 HO2 HK2
    go_wp2
    generalize ((w2.setCell ⟨w.heap.size, 0, none⟩ (.string (⟨#[99, 97, 99, 104, 101, 45, 99, 111, 110, 116, 114, 111, 108]⟩))).setCell ⟨w.heap.size, 1, none⟩ (.string y)) = w9 at r0 r1 HE ⊢
    have r0 := r0.out
    have r1 := r1.out
    exact bodyPost_ret (v := .agg #[.string (⟨#[99, 97, 99, 104, 101, 45, 99, 111, 110, 116, 114, 111, 108]⟩), .string y]) (by simp [results, Tryz.results77, go_sem, r0, r1]) rfl ⟨_, _, rfl, (by decide), hy, Drawn.cc HQ.out, HE.out.1, HE.out.2⟩
  · go_wp2_with fail
    refine (pick_q (oneOf ccVals) B C w1.heap.size _ 12 _ (HL1.out.alloc _) (by omega) (heap_alloc_new w1 _) rfl (by omega) (by omega) (by kernel_rfl)).mono ?_
    rintro e w2 ⟨y, rfl, hy, hq, hl, ho⟩
    have HQ := Num.hide hq
    clear hq
    have HO2 := Num.hide ((HO1.out.alloc _).trans ho)
    have HK2 : Hid (w2.heap[w.heap.size]? = some (.cells #[.string ⟨#[]⟩, .string ⟨#[]⟩] 47)) := by
      rw [ho.block _ (by simp; omega) (by omega), heap_alloc_old w1 _ (by omega)]; exact HK1.out
    have hs2 : w.heap.size < w2.heap.size := by have := ho.size; simp at this; omega
    have HL2 := Num.hide hl
    clear hl ho HL1 HO1 HK1
    obtain ⟨k0, k1, f0, f1⟩ := two_cells HK2.out
    have r0 := Num.hide (box_first (x := ⟨#[99, 97, 99, 104, 101, 45, 99, 111, 110, 116, 114, 111, 108]⟩) (y := y) k0)
    have r1 := Num.hide (box_second (x := ⟨#[99, 97, 99, 104, 101, 45, 99, 111, 110, 116, 114, 111, 108]⟩) (y := y) k1)
    have HE := Num.hide (box_end (⟨#[99, 97, 99, 104, 101, 45, 99, 111, 110, 116, 114, 111, 108]⟩) (y) HL2.out HO2.out hC)
    clear HL2 HO2 HK2
    go_wp2
    generalize ((w2.setCell ⟨w.heap.size, 0, none⟩ (.string (⟨#[99, 97, 99, 104, 101, 45, 99, 111, 110, 116, 114, 111, 108]⟩))).setCell ⟨w.heap.size, 1, none⟩ (.string y)) = w9 at r0 r1 HE ⊢
    have r0 := r0.out
    have r1 := r1.out
    exact bodyPost_ret (v := .agg #[.string (⟨#[99, 97, 99, 104, 101, 45, 99, 111, 110, 116, 114, 111, 108]⟩), .string y]) (by simp [results, Tryz.results77, go_sem, r0, r1]) rfl ⟨_, _, rfl, (by decide), hy, Drawn.cc HQ.out, HE.out.1, HE.out.2⟩
  · go_wp2_with fail
    refine (pick_q (oneOf ccVals) B C w1.heap.size _ 12 _ (HL1.out.alloc _) (by omega) (heap_alloc_new w1 _) rfl (by omega) (by omega) (by kernel_rfl)).mono ?_
    rintro e w2 ⟨y, rfl, hy, hq, hl, ho⟩
    have HQ := Num.hide hq
    clear hq
    have HO2 := Num.hide ((HO1.out.alloc _).trans ho)
    have HK2 : Hid (w2.heap[w.heap.size]? = some (.cells #[.string ⟨#[]⟩, .string ⟨#[]⟩] 47)) := by
      rw [ho.block _ (by simp; omega) (by omega), heap_alloc_old w1 _ (by omega)]; exact HK1.out
    have hs2 : w.heap.size < w2.heap.size := by have := ho.size; simp at this; omega
    have HL2 := Num.hide hl
    clear hl ho HL1 HO1 HK1
    obtain ⟨k0, k1, f0, f1⟩ := two_cells HK2.out
    have r0 := Num.hide (box_first (x := ⟨#[99, 97, 99, 104, 101, 45, 99, 111, 110, 116, 114, 111, 108]⟩) (y := y) k0)
    have r1 := Num.hide (box_second (x := ⟨#[99, 97, 99, 104, 101, 45, 99, 111, 110, 116, 114, 111, 108]⟩) (y := y) k1)
    have HE := Num.hide (box_end (⟨#[99, 97, 99, 104, 101, 45, 99, 111, 110, 116, 114, 111, 108]⟩) (y) HL2.out HO2.out hC)
    clear HL2 HO2 HK2
    go_wp2
    generalize ((w2.setCell ⟨w.heap.size, 0, none⟩ (.string (⟨#[99, 97, 99, 104, 101, 45, 99, 111, 110, 116, 114, 111, 108]⟩))).setCell ⟨w.heap.size, 1, none⟩ (.string y)) = w9 at r0 r1 HE ⊢
    have r0 := r0.out
    have r1 := r1.out
    exact bodyPost_ret (v := .agg #[.string (⟨#[99, 97, 99, 104, 101, 45, 99, 111, 110, 116, 114, 111, 108]⟩), .string y]) (by simp [results, Tryz.results77, go_sem, r0, r1]) rfl ⟨_, _, rfl, (by decide), hy, Drawn.cc HQ.out, HE.out.1, HE.out.2⟩
  · go_wp2_with fail
    refine (pick_q (oneOf varyVals) B C w1.heap.size _ 4 _ (HL1.out.alloc _) (by omega) (heap_alloc_new w1 _) rfl (by omega) (by omega) (by kernel_rfl)).mono ?_
    rintro e w2 ⟨y, rfl, hy, hqy, hl, ho⟩
    have HQy := Num.hide hqy
    clear hqy
    have HO2 := Num.hide ((HO1.out.alloc _).trans ho)
    have HK2 : Hid (w2.heap[w.heap.size]? = some (.cells #[.string ⟨#[]⟩, .string ⟨#[]⟩] 47)) := by
      rw [ho.block _ (by simp; omega) (by omega), heap_alloc_old w1 _ (by omega)]; exact HK1.out
    have hs2 : w.heap.size < w2.heap.size := by have := ho.size; simp at this; omega
    have HL2 := Num.hide hl
    clear hl ho HL1 HO1 HK1
    obtain ⟨k0, k1, f0, f1⟩ := two_cells HK2.out
    have r0 := Num.hide (box_first (x := ⟨#[118, 97, 114, 121]⟩) (y := y) k0)
    have r1 := Num.hide (box_second (x := ⟨#[118, 97, 114, 121]⟩) (y := y) k1)
    have HE := Num.hide (box_end (⟨#[118, 97, 114, 121]⟩) (y) HL2.out HO2.out hC)
    clear HL2 HO2 HK2
    go_wp2
    generalize ((w2.setCell ⟨w.heap.size, 0, none⟩ (.string (⟨#[118, 97, 114, 121]⟩))).setCell ⟨w.heap.size, 1, none⟩ (.string y)) = w9 at r0 r1 HE ⊢
    have r0 := r0.out
    have r1 := r1.out
    exact bodyPost_ret (v := .agg #[.string (⟨#[118, 97, 114, 121]⟩), .string y]) (by simp [results, Tryz.results77, go_sem, r0, r1]) rfl ⟨_, _, rfl, (by decide), hy, Drawn.vary HQy.out, HE.out.1, HE.out.2⟩
  · go_wp2_with fail
    refine (pick_q (oneOf acceptVals) B C w1.heap.size _ 4 _ (HL1.out.alloc _) (by omega) (heap_alloc_new w1 _) rfl (by omega) (by omega) (by kernel_rfl)).mono ?_
    rintro e w2 ⟨y, rfl, hy, hqy, hl, ho⟩
    have HQy := Num.hide hqy
    clear hqy
    have HO2 := Num.hide ((HO1.out.alloc _).trans ho)
    have HK2 : Hid (w2.heap[w.heap.size]? = some (.cells #[.string ⟨#[]⟩, .string ⟨#[]⟩] 47)) := by
      rw [ho.block _ (by simp; omega) (by omega), heap_alloc_old w1 _ (by omega)]; exact HK1.out
    have hs2 : w.heap.size < w2.heap.size := by have := ho.size; simp at this; omega
    have HL2 := Num.hide hl
    clear hl ho HL1 HO1 HK1
    obtain ⟨k0, k1, f0, f1⟩ := two_cells HK2.out
    have r0 := Num.hide (box_first (x := ⟨#[97, 99, 99, 101, 112, 116]⟩) (y := y) k0)
    have r1 := Num.hide (box_second (x := ⟨#[97, 99, 99, 101, 112, 116]⟩) (y := y) k1)
    have HE := Num.hide (box_end (⟨#[97, 99, 99, 101, 112, 116]⟩) (y) HL2.out HO2.out hC)
    clear HL2 HO2 HK2
    go_wp2
    generalize ((w2.setCell ⟨w.heap.size, 0, none⟩ (.string (⟨#[97, 99, 99, 101, 112, 116]⟩))).setCell ⟨w.heap.size, 1, none⟩ (.string y)) = w9 at r0 r1 HE ⊢
    have r0 := r0.out
    have r1 := r1.out
    exact bodyPost_ret (v := .agg #[.string (⟨#[97, 99, 99, 101, 112, 116]⟩), .string y]) (by simp [results, Tryz.results77, go_sem, r0, r1]) rfl ⟨_, _, rfl, (by decide), hy, Drawn.accept HQy.out, HE.out.1, HE.out.2⟩
  · go_wp2_with fail
    refine (pick_q (oneOf xaVals) B C w1.heap.size _ 2 _ (HL1.out.alloc _) (by omega) (heap_alloc_new w1 _) rfl (by omega) (by omega) (by kernel_rfl)).mono ?_
    rintro e w2 ⟨y, rfl, hy, hqy, hl, ho⟩
    have HQy := Num.hide hqy
    clear hqy
    have HO2 := Num.hide ((HO1.out.alloc _).trans ho)
    have HK2 : Hid (w2.heap[w.heap.size]? = some (.cells #[.string ⟨#[]⟩, .string ⟨#[]⟩] 47)) := by
      rw [ho.block _ (by simp; omega) (by omega), heap_alloc_old w1 _ (by omega)]; exact HK1.out
    have hs2 : w.heap.size < w2.heap.size := by have := ho.size; simp at this; omega
    have HL2 := Num.hide hl
    clear hl ho HL1 HO1 HK1
    obtain ⟨k0, k1, f0, f1⟩ := two_cells HK2.out
    have r0 := Num.hide (box_first (x := ⟨#[120, 45, 97]⟩) (y := y) k0)
    have r1 := Num.hide (box_second (x := ⟨#[120, 45, 97]⟩) (y := y) k1)
    have HE := Num.hide (box_end (⟨#[120, 45, 97]⟩) (y) HL2.out HO2.out hC)
    clear HL2 HO2 HK2
    go_wp2
    generalize ((w2.setCell ⟨w.heap.size, 0, none⟩ (.string (⟨#[120, 45, 97]⟩))).setCell ⟨w.heap.size, 1, none⟩ (.string y)) = w9 at r0 r1 HE ⊢
    have r0 := r0.out
    have r1 := r1.out
    exact bodyPost_ret (v := .agg #[.string (⟨#[120, 45, 97]⟩), .string y]) (by simp [results, Tryz.results77, go_sem, r0, r1]) rfl ⟨_, _, rfl, (by decide), hy, Drawn.xa HQy.out, HE.out.1, HE.out.2⟩
  · go_wp2_with fail
    refine (pick_q (oneOf etagVals) B C w1.heap.size _ 3 _ (HL1.out.alloc _) (by omega) (heap_alloc_new w1 _) rfl (by omega) (by omega) (by kernel_rfl)).mono ?_
    rintro e w2 ⟨y, rfl, hy, hqy, hl, ho⟩
    have HQy := Num.hide hqy
    clear hqy
    have HO2 := Num.hide ((HO1.out.alloc _).trans ho)
    have HK2 : Hid (w2.heap[w.heap.size]? = some (.cells #[.string ⟨#[]⟩, .string ⟨#[]⟩] 47)) := by
      rw [ho.block _ (by simp; omega) (by omega), heap_alloc_old w1 _ (by omega)]; exact HK1.out
    have hs2 : w.heap.size < w2.heap.size := by have := ho.size; simp at this; omega
    have HL2 := Num.hide hl
    clear hl ho HL1 HO1 HK1
    obtain ⟨k0, k1, f0, f1⟩ := two_cells HK2.out
    have r0 := Num.hide (box_first (x := ⟨#[101, 116, 97, 103]⟩) (y := y) k0)
    have r1 := Num.hide (box_second (x := ⟨#[101, 116, 97, 103]⟩) (y := y) k1)
    have HE := Num.hide (box_end (⟨#[101, 116, 97, 103]⟩) (y) HL2.out HO2.out hC)
    clear HL2 HO2 HK2
    go_wp2
    generalize ((w2.setCell ⟨w.heap.size, 0, none⟩ (.string (⟨#[101, 116, 97, 103]⟩))).setCell ⟨w.heap.size, 1, none⟩ (.string y)) = w9 at r0 r1 HE ⊢
    have r0 := r0.out
    have r1 := r1.out
    exact bodyPost_ret (v := .agg #[.string (⟨#[101, 116, 97, 103]⟩), .string y]) (by simp [results, Tryz.results77, go_sem, r0, r1]) rfl ⟨_, _, rfl, (by decide), hy, Drawn.etag HQy.out, HE.out.1, HE.out.2⟩
  · go_wp2_with fail
    refine (below_live B C 60 _ HL1.out (by omega) (by omega)).mono ?_
    rintro e w2 ⟨t, rfl, ht0, ht1, hl, ho⟩
    have HO2 := Num.hide (HO1.out.trans ho)
    have HK2 : Hid (w2.heap[w.heap.size]? = some (.cells #[.string ⟨#[]⟩, .string ⟨#[]⟩] 47)) := (ho.block _ (by omega) (by omega)).trans HK1.out
    have hs2 : w.heap.size < w2.heap.size := by have := ho.size; omega
    have HL2 := Num.hide hl
    clear hl ho HL1 HO1 HK1
    have HS := Num.hide (date_size t ht0 ht1)
    have HDr := Num.hide (Drawn.date (x := ⟨#[100, 97, 116, 101]⟩) (by decide +kernel) ht0 (by omega))
    have HT := Num.hide (fun W => Date.date_spec t W)
    generalize Date.shown t = y at HS HT HDr
    have hy := HS.out
    go_wp2_with fail
    refine (HT.out _).mono ?_
    rintro e w3 ⟨rfl, hb⟩
    have HO3 := Num.hide (HO2.out.of_below (hb.mono (by omega)))
    have HK3 : Hid (w3.heap[w.heap.size]? = some (.cells #[.string ⟨#[]⟩, .string ⟨#[]⟩] 47)) := (hb.block _ (by omega)).trans HK2.out
    have hs3 : w.heap.size < w3.heap.size := by have := hb.size; omega
    have HL3 := Num.hide (HL2.out.below hb)
    clear hb HS HT HL2 HO2 HK2
    obtain ⟨k0, k1, f0, f1⟩ := two_cells HK3.out
    have r0 := Num.hide (box_first (x := ⟨#[100, 97, 116, 101]⟩) (y := y) k0)
    have r1 := Num.hide (box_second (x := ⟨#[100, 97, 116, 101]⟩) (y := y) k1)
    have HE := Num.hide (box_end (⟨#[100, 97, 116, 101]⟩) (y) HL3.out HO3.out hC)
    clear HL3 HO3 HK3
    go_wp2
    generalize ((w3.setCell ⟨w.heap.size, 0, none⟩ (.string (⟨#[100, 97, 116, 101]⟩))).setCell ⟨w.heap.size, 1, none⟩ (.string y)) = w9 at r0 r1 HE ⊢
    have r0 := r0.out
    have r1 := r1.out
    exact bodyPost_ret (v := .agg #[.string (⟨#[100, 97, 116, 101]⟩), .string y]) (by simp [results, Tryz.results77, go_sem, r0, r1]) rfl ⟨_, _, rfl, (by decide), hy, HDr.out, HE.out.1, HE.out.2⟩
  · go_wp2_with fail
    refine (pick_q (oneOf dateNames) B C w1.heap.size _ 2 _ (HL1.out.alloc _) (by omega) (heap_alloc_new w1 _) rfl (by omega) (by omega) (by kernel_rfl)).mono ?_
    rintro e w2 ⟨x, rfl, hx, hq, hl, ho⟩
    have HQ := Num.hide hq
    clear hq
    have HO2 := Num.hide ((HO1.out.alloc _).trans ho)
    have HK2 : Hid (w2.heap[w.heap.size]? = some (.cells #[.string ⟨#[]⟩, .string ⟨#[]⟩] 47)) := by
      rw [ho.block _ (by simp; omega) (by omega), heap_alloc_old w1 _ (by omega)]; exact HK1.out
    have hs2 : w.heap.size < w2.heap.size := by have := ho.size; simp at this; omega
    have HL2 := Num.hide hl
    clear hl ho HL1 HO1 HK1
    go_wp2_with fail
    refine (below_live B C 60 _ HL2.out (by omega) (by omega)).mono ?_
    rintro e w3 ⟨t, rfl, ht0, ht1, hl, ho⟩
    have HO3 := Num.hide (HO2.out.trans ho)
    have HK3 : Hid (w3.heap[w.heap.size]? = some (.cells #[.string ⟨#[]⟩, .string ⟨#[]⟩] 47)) := (ho.block _ (by omega) (by omega)).trans HK2.out
    have hs3 : w.heap.size < w3.heap.size := by have := ho.size; omega
    have HL3 := Num.hide hl
    clear hl ho HL2 HO2 HK2
    have HS := Num.hide (date_size t ht0 ht1)
    have HDr := Num.hide (Drawn.date (x := x) HQ.out ht0 (by omega))
    have HT := Num.hide (fun W => Date.date_spec t W)
    generalize Date.shown t = y at HS HT HDr
    have hy := HS.out
    go_wp2_with fail
    refine (HT.out _).mono ?_
    rintro e w4 ⟨rfl, hb⟩
    have HO4 := Num.hide (HO3.out.of_below (hb.mono (by omega)))
    have HK4 : Hid (w4.heap[w.heap.size]? = some (.cells #[.string ⟨#[]⟩, .string ⟨#[]⟩] 47)) := (hb.block _ (by omega)).trans HK3.out
    have hs4 : w.heap.size < w4.heap.size := by have := hb.size; omega
    have HL4 := Num.hide (HL3.out.below hb)
    clear hb HS HT HL3 HO3 HK3
    obtain ⟨k0, k1, f0, f1⟩ := two_cells HK4.out
    have r0 := Num.hide (box_first (x := x) (y := y) k0)
    have r1 := Num.hide (box_second (x := x) (y := y) k1)
    have HE := Num.hide (box_end (x) (y) HL4.out HO4.out hC)
    clear HL4 HO4 HK4
    go_wp2
    generalize ((w4.setCell ⟨w.heap.size, 0, none⟩ (.string x)).setCell ⟨w.heap.size, 1, none⟩ (.string y)) = w9 at r0 r1 HE ⊢
    have r0 := r0.out
    have r1 := r1.out
    exact bodyPost_ret (v := .agg #[.string x, .string y]) (by simp [results, Tryz.results77, go_sem, r0, r1]) rfl ⟨_, _, rfl, hx, hy, HDr.out, HE.out.1, HE.out.2⟩
  · go_wp2_with fail
    refine (pick_q (oneOf ageNames) B C w1.heap.size _ 3 _ (HL1.out.alloc _) (by omega) (heap_alloc_new w1 _) rfl (by omega) (by omega) (by kernel_rfl)).mono ?_
    rintro e w2 ⟨x, rfl, hx, hq, hl, ho⟩
    have HQ := Num.hide hq
    clear hq
    have HO2 := Num.hide ((HO1.out.alloc _).trans ho)
    have HK2 : Hid (w2.heap[w.heap.size]? = some (.cells #[.string ⟨#[]⟩, .string ⟨#[]⟩] 47)) := by
      rw [ho.block _ (by simp; omega) (by omega), heap_alloc_old w1 _ (by omega)]; exact HK1.out
    have hs2 : w.heap.size < w2.heap.size := by have := ho.size; simp at this; omega
    have HL2 := Num.hide hl
    clear hl ho HL1 HO1 HK1
    go_wp2_with fail
    refine (pick_q (oneOf ageVals) B C w2.heap.size _ 4 _ (HL2.out.alloc _) (by omega) (heap_alloc_new w2 _) rfl (by omega) (by omega) (by kernel_rfl)).mono ?_
    rintro e w3 ⟨y, rfl, hy, hqy, hl, ho⟩
    have HQy := Num.hide hqy
    clear hqy
    have HO3 := Num.hide ((HO2.out.alloc _).trans ho)
    have HK3 : Hid (w3.heap[w.heap.size]? = some (.cells #[.string ⟨#[]⟩, .string ⟨#[]⟩] 47)) := by
      rw [ho.block _ (by simp; omega) (by omega), heap_alloc_old w2 _ (by omega)]; exact HK2.out
    have hs3 : w.heap.size < w3.heap.size := by have := ho.size; simp at this; omega
    have HL3 := Num.hide hl
    clear hl ho HL2 HO2 HK2
    obtain ⟨k0, k1, f0, f1⟩ := two_cells HK3.out
    have r0 := Num.hide (box_first (x := x) (y := y) k0)
    have r1 := Num.hide (box_second (x := x) (y := y) k1)
    have HE := Num.hide (box_end (x) (y) HL3.out HO3.out hC)
    clear HL3 HO3 HK3
    go_wp2
    generalize ((w3.setCell ⟨w.heap.size, 0, none⟩ (.string x)).setCell ⟨w.heap.size, 1, none⟩ (.string y)) = w9 at r0 r1 HE ⊢
    have r0 := r0.out
    have r1 := r1.out
    exact bodyPost_ret (v := .agg #[.string x, .string y]) (by simp [results, Tryz.results77, go_sem, r0, r1]) rfl ⟨_, _, rfl, hx, hy, Drawn.age HQ.out HQy.out, HE.out.1, HE.out.2⟩
theorem field_live (B C : Nat) (w : World) (h : Live B C w) :
    Calls Tryz.prog 77 #[.pointer (some ⟨C, 0, none⟩)] w fun e w' => ∃ x y, e = .returned (.agg #[.string x, .string y]) ∧ x.size ≤ 64 ∧ y.size ≤ 64 ∧ Live B C w' ∧ Only C w w' :=
  (field_q B C w h).mono fun e w' ⟨x, y, h1, h2, h3, _, h4, h5⟩ => ⟨x, y, h1, h2, h3, h4, h5⟩
end Draw
end Go.Proofs.YtbcjpjhpobmpbaaGreatDoor
namespace Go.Proofs.YtbcjpjhpobmpbaaGreatDoor
open Go.RowKit
set_option linter.unusedVariables false
namespace Draw

/-- few fields, of small texts -/
structure Few (n : Nat) (l : List Flds.Fld) : Prop where
  len : l.length ≤ n
  small : ∀ f ∈ l, f.1.size ≤ 64 ∧ f.2.size ≤ 64
theorem Few.more {n : Nat} {l : List Flds.Fld} {x y : ByteArray} (h : Few n l) (hx : x.size ≤ 64) (hy : y.size ≤ 64) : Few (n + 1) (l ++ [(x, y)]) :=
  ⟨by rw [List.length_append, List.length_singleton]; have := h.len; omega, fun f hf => by
    rcases List.mem_append.1 hf with h1 | h1
    · exact h.small f h1
    · rw [List.mem_singleton.1 h1]; exact ⟨hx, hy⟩⟩
theorem Few.mono {n m : Nat} {l : List Flds.Fld} (h : Few n l) (hnm : n ≤ m) : Few m l := ⟨Nat.le_trans h.len hnm, h.small⟩
theorem Few.sum {l : List Flds.Fld} {n : Nat} (h : Few n l) : (l.map fun f => f.1.size + f.2.size).sum ≤ 128 * l.length := by
  have key : ∀ (l : List Flds.Fld), (∀ f ∈ l, f.1.size ≤ 64 ∧ f.2.size ≤ 64) → (l.map fun f => f.1.size + f.2.size).sum ≤ 128 * l.length := by
    intro l
    induction l with
    | nil => intro _; simp
    | cons f l ih =>
      intro h
      have h1 := h f (List.mem_cons_self ..)
      have h2 := ih (fun g hg => h g (List.mem_cons_of_mem _ hg))
      rw [List.map_cons, List.sum_cons, List.length_cons]
      omega
  exact key l h.small
theorem Few.bulk {l : List Flds.Fld} {n : Nat} (h : Few n l) (hn : n ≤ 100) : Flds.bulk l ≤ 100000 := by
  have key : ∀ (l : List Flds.Fld), (∀ f ∈ l, f.1.size ≤ 64 ∧ f.2.size ≤ 64) → (l.map fun f => f.1.size + f.2.size).sum ≤ 128 * l.length := by
    intro l
    induction l with
    | nil => intro _; simp
    | cons f l ih =>
      intro h
      have h1 := h f (List.mem_cons_self ..)
      have h2 := ih (fun g hg => h g (List.mem_cons_of_mem _ hg))
      rw [List.map_cons, List.sum_cons, List.length_cons]
      omega
  have h1 := key l h.small
  have h2 := h.len
  unfold Flds.bulk
  omega
/-- an owned row stays while the cursor moves -/
theorem own_only {B C : Nat} {w w' : World} {v : Value} {l : List Flds.Fld} (h : Flds.Own B w v l) (ho : Only C w w') (hC : C < B) : Flds.Own B w' v l := ho.owns hC h
/-- they are all as they are drawn -/
def AllSaid (l : List Flds.Fld) : Prop := ∀ f ∈ l, Drawn f.1 f.2
theorem AllSaid.calm {l : List Flds.Fld} (h : AllSaid l) : ∀ f ∈ l, Calm.Said f.1 f.2 := fun f hf => (h f hf).said
theorem AllSaid.more {l : List Flds.Fld} {x y : ByteArray} (h : AllSaid l) (hs : Drawn x y) : AllSaid (l ++ [(x, y)]) := by
  intro f hf
  rcases List.mem_append.1 hf with h1 | h1
  · exact h f h1
  · rw [List.mem_singleton.1 h1]; exact hs
/-- such, and not nil -/
structure Laid (l : List Flds.Fld) (v : Value) : Prop where
  said : AllSaid l
  there : ¬ v = .slice none 0 0
theorem own_some {B : Nat} {w : World} {v : Value} {l : List Flds.Fld} (h : Flds.Own B w v l) (hn : ¬ v = .slice none 0 0) : ∃ g c, v = .slice (some ⟨g, 0, none⟩) l.length c := by
  rcases h.2 with ⟨h1, _⟩ | ⟨g, cap, cur, h1, _⟩
  · exact absurd h1 hn
  · exact ⟨g, cap, h1⟩
set_option maxRecDepth 100000 in
set_option maxHeartbeats 2000000 in
theorem fields_q (B C : Nat) (w : World) (h : Live B C w) :
    Calls Tryz.prog 102 #[.pointer (some ⟨C, 0, none⟩)] w fun e w' => ∃ v l, e = .returned v ∧ Flds.Own w.heap.size w' v l ∧ Few 4 l ∧ AllSaid l ∧ (∃ g c, v = .slice (some ⟨g, 0, none⟩) l.length c) ∧ Live B C w' ∧ Only C w w' := by
  have hC := h.lt
  obtain ⟨i0, hi0, hz0, hz1, hz2⟩ := info_parts Flds.infoF
  have HL0 := Num.hide (h.alloc (.cells #[] 47))
  have HO0 := Num.hide ((Only.refl C w).alloc (.cells #[] 47))
  have HD := Num.hide (Flds.made_nil w)
  clear h
  go_enter Tryz.func102, Tryz.ntmps102
  go_wp2_with fail
  refine (below_live B C 5 _ HL0.out (by omega) (by omega)).mono ?_
  rintro e w1 ⟨z, rfl, hz0', hz1', hl, ho⟩
  obtain ⟨m, rfl⟩ := Int.eq_ofNat_of_zero_le hz0'
  have HL1 := Num.hide hl
  have HO1 := Num.hide (HO0.out.trans ho)
  have HD1 := Num.hide (own_only HD.out ho hC)
  clear hl ho HL0 HO0 HD
  go_wp2
  go_loopw [3, 4] (fun ov nv wr => ∃ (k : Nat) (l : List Flds.Fld), nv = .int .i64 (k : Int) ∧ k ≤ 4 ∧ Hid (Flds.Own w.heap.size wr ov l) ∧ Hid (Few (4 - k) l) ∧ Hid (Laid l ov) ∧ Hid (Live B C wr) ∧ Hid (Only C w wr)) (fun _ nv _ => (intOf nv).toNat)
  case atStart => exact ⟨m, [], rfl, by omega, HD1, ⟨Nat.zero_le _, fun f hf => by cases hf⟩, ⟨(fun f hf => by cases hf), (by intro h; cases h)⟩, HL1, HO1⟩
  case round =>
    clear HL1 HO1 HD1
    obtain ⟨k, l, rfl, hk, HO, HF, HS, HL, HN⟩ := hrel
    have hsz := HN.out.size
    have hlen := HF.out.len
    by_cases h0 : 0 < (k : Int)
    · go_wp2_with fail
      refine (field_q B C _ HL.out).mono ?_
      rintro e w2 ⟨x, y, rfl, hx, hy, hs2, hl2, ho2⟩
      have HSd := Num.hide hs2
      clear hs2
      have hsz2 : w.heap.size ≤ w2.heap.size := Nat.le_trans hsz ho2.size
      have HO2 := Num.hide (own_only HO.out ho2 hC)
      have HN2 := Num.hide (HN.out.trans ho2)
      have HL2 := Num.hide hl2
      clear hl2 ho2 HL HN HO
      go_wp2_with (at_builtin; refine wpList_append_own _ rfl _ _ 30 rfl w.heap.size 47 i0 _ 2 32 Tryz.underlying30 hi0 hz0 hz1 hz2 rfl (by decide) _ _ _ rfl (World.ownsRow.alloc HO2.out _) ⟨w2.heap.size, 0, none⟩ 1 1 [.string x, .string y] rfl rfl (Flds.cells_two w2 x y) (Flds.two_ok x y) (by unfold maxLen; omega) (by omega) ?c9 ?_)
      case c9 => first | omega | (simp; omega)
      intro v' w3 ho3 hg3 hnil
      obtain ⟨hp1, hp2⟩ := Flds.put_more hsz2 HO2.out (Below.refl w.heap.size _) ho3 hg3
      have HP1 := Num.hide hp1
      have HP2 := Num.hide (HL2.out.under hp2 hC)
      have HP3 := Num.hide (HN2.out.of_below hp2)
      have HP4 := Num.hide ((HF.out.more hx hy).mono (by omega : 4 - k + 1 ≤ 4 - (k - 1)))
      have HS2 : Hid (Laid (l ++ [(x, y)]) v') := ⟨HS.out.said.more HSd.out, fun h => hnil h⟩
      clear ho3 hg3 hp1 hp2 hnil
      go_wp2
      go_roundw
      case rel => exact ⟨k - 1, _, by go_num, by omega, HP1, HP4, HS2, HP2, HP3⟩
      case measure => simp [intOf]; omega
    · have HF4 := Num.hide (HF.out.mono (by omega : 4 - k ≤ 4))
      have HG := Num.hide (own_some HO.out HS.out.there)
      go_wp2
      go_ret
      first | exact ⟨_, _, rfl, HO.out, HF4.out, HS.out.said, HG.out, HL.out, HN.out⟩ | exact ⟨_, rfl, _, HO.out, HF4.out, HS.out.said, HG.out, HL.out, HN.out⟩
theorem fields_live (B C : Nat) (w : World) (h : Live B C w) :
    Calls Tryz.prog 102 #[.pointer (some ⟨C, 0, none⟩)] w fun e w' => ∃ v l, e = .returned v ∧ Flds.Own w.heap.size w' v l ∧ Few 4 l ∧ Live B C w' ∧ Only C w w' :=
  (fields_q B C w h).mono fun e w' ⟨v, l, h1, h2, h3, _, _, h4, h5⟩ => ⟨v, l, h1, h2, h3, h4, h5⟩
end Draw
end Go.Proofs.YtbcjpjhpobmpbaaGreatDoor
namespace Go.Proofs.YtbcjpjhpobmpbaaGreatDoor
open Go.RowKit
set_option linter.unusedVariables false
namespace Draw

/-- numbers within bounds -/
def IntsIn (lo hi : Int) : List Value → Prop
  | [] => True
  | .int .i64 z :: l => (lo ≤ z ∧ z ≤ hi) ∧ IntsIn lo hi l
  | _ :: _ => False
theorem ints_at {lo hi : Int} : ∀ {l : List Value}, IntsIn lo hi l → ∀ i, i < l.length → ∃ z, l[i]? = some (.int .i64 z) ∧ lo ≤ z ∧ z ≤ hi
  | [], _, i, hi => by simp at hi
  | v :: l, h, i, hi => by
    cases v with
    | int k z =>
      cases k with
      | i64 =>
        obtain ⟨h1, h2⟩ := h
        cases i with
        | zero => exact ⟨z, rfl, h1⟩
        | succ i => exact ints_at h2 i (by simpa using hi)
      | _ => cases h
    | _ => cases h
set_option maxRecDepth 100000 in
set_option maxHeartbeats 1000000 in
theorem pickInt_live (B C R : Nat) (lo hi : Int) (cs : Array Value) (n : Nat) (w : World) (h : Live B C w) (hR : R ≠ C) (hrow : w.heap[R]? = some (.cells cs 3)) (hn : cs.size = n) (h0 : 0 < n) (h1 : n ≤ 256) (ht : IntsIn lo hi cs.toList) :
    Calls Tryz.prog 101 #[.pointer (some ⟨C, 0, none⟩), .slice (some ⟨R, 0, none⟩) n n] w fun e w' => ∃ z : Int, e = .returned (.int .i64 z) ∧ lo ≤ z ∧ z ≤ hi ∧ Live B C w' ∧ Only C w w' := by
  have HR := Num.hide hrow
  have HT := Num.hide ht
  have HN := Num.hide hn
  clear hrow ht hn
  go_enter Tryz.func101, Tryz.ntmps101
  go_wp2_with fail
  refine (below_live B C n _ h (by omega) (by omega)).mono ?_
  rintro e w1 ⟨z, rfl, hz0, hz1, hl, ho⟩
  obtain ⟨j, rfl⟩ := Int.eq_ofNat_of_zero_le hz0
  obtain ⟨x, hx, hx0, hx1⟩ := ints_at HT.out j (by have := HN.out; rw [Array.length_toList]; omega)
  have hc : w1.cell? ⟨R, j, none⟩ = some (.int .i64 x) := by
    rw [cell_of_row w1 R j _ _ _ ((ho.block R (Array.getElem?_eq_some_iff.1 (Num.unhide HR)).1 hR).trans (Num.unhide HR))]
    rw [← hx, Array.getElem?_toList]
  have HX0 := Num.hide hx0
  have HX1 := Num.hide hx1
  clear hx hx0 hx1
  have HL := Num.hide hl
  have HO := Num.hide ho
  clear hl ho
  go_wp2
  go_ret
  exact ⟨x, rfl, HX0.out, HX1.out, HL.out, HO.out⟩
end Draw
end Go.Proofs.YtbcjpjhpobmpbaaGreatDoor
