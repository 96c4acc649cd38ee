/-
  FnDates: dates are read from their texts; a day is a day later; no other text is a date: for every draw, of a program whose functions tell what they are to tell.
-/
import Derived.Test.YtdgmhjklidklmaaDoorDrawDate
import Derived.Test.YtdgmhjklidklmaaDoorCode
import Derived.Test.YtdgmhjklidklmaaDoorRecs
import Derived.Deep.Cut
namespace Go.Proofs.YtdgmhjklidklmaaDoor
open Go.RowKit
set_option linter.unusedVariables false
namespace Dates
open Date Draw

theorem shown_out {n : Int} (h : ¬ (0 ≤ n ∧ n ≤ 2000000000)) : shown n = ⟨#[]⟩ := if_neg h
theorem shown_in {n : Int} (h : 0 ≤ n ∧ n ≤ 2000000000) : shown n = text n := if_pos h
theorem read_empty : Date.read ⟨#[]⟩ = none := by unfold Date.read; rw [if_neg (by decide)]
theorem later {y m d : Int} (h : inside y m d) (h2 : inside y m (d + 1)) : days y m (d + 1) = days y m d + 1 := by rw [days_in h, days_in h2]; omega
theorem last {y m d : Int} (h : inside y m d) (h2 : ¬ inside y m (d + 1)) : d = mlen y (m - 1).toNat := by
  have h3 := h.2.2
  by_cases e : d + 1 ≤ mlen y (m - 1).toNat
  · exact absurd ⟨h.1, h.2.1, by omega, e⟩ h2
  · omega
theorem next_month {y m d : Int} (h : inside y m d) (h2 : ¬ inside y m (d + 1)) (hm : ¬ m = 12) : days y (m + 1) 1 = days y m d + 1 := by
  have hl := last h h2
  obtain ⟨h1, h3, h4⟩ := h
  obtain ⟨k, rfl⟩ : ∃ k : Nat, m = (k : Int) + 1 := ⟨(m - 1).toNat, by omega⟩
  have hb := mlen_bd y (k + 1) (by omega)
  have e1 : ((k : Int) + 1 - 1).toNat = k := by omega
  have e2 : ((k : Int) + 1 + 1 - 1).toNat = k + 1 := by omega
  rw [e1] at hl h4
  rw [days_in (show inside y ((k : Int) + 1) d from ⟨h1, h3, by rw [e1]; exact h4⟩), days_in (show inside y ((k : Int) + 1 + 1) 1 from ⟨h1, by omega, by rw [e2]; omega⟩), e1, e2, msum]
  omega
theorem next_year {y d : Int} (h : inside y 12 d) (h2 : ¬ inside y 12 (d + 1)) (hy : y < 2037) : days (y + 1) 1 1 = days y 12 d + 1 := by
  have hl := last h h2
  obtain ⟨h1, h3, h4⟩ := h
  obtain ⟨j, rfl⟩ : ∃ j : Nat, y = 1970 + (j : Int) := ⟨(y - 1970).toNat, by omega⟩
  have hb := mlen_bd (1970 + (j : Int) + 1) 0 (by omega)
  have e1 : ((12 : Int) - 1).toNat = 11 := rfl
  have e2 : ((1 : Int) - 1).toNat = 0 := rfl
  have e3 : (1970 + (j : Int) + 1 - 1970).toNat = j + 1 := by omega
  have e4 : (1970 + (j : Int) - 1970).toNat = j := by omega
  have hs := ysum_succ j
  have hm : msum (1970 + (j : Int)) 12 = msum (1970 + (j : Int)) 11 + mlen (1970 + (j : Int)) 11 := rfl
  rw [days_in (show inside (1970 + (j : Int) + 1) 1 1 from ⟨by omega, by omega, by rw [e2]; omega⟩), days_in (show inside (1970 + (j : Int)) 12 d from ⟨h1, h3, h4⟩), e1, e2, e3, e4]
  rw [e1] at hl
  show 1 - 1 + ysum (j + 1) + 0 = _
  omega
/-- what is shown of a number and read off it -/
theorem both (n : Int) : ((0 ≤ n ∧ n ≤ 2000000000) → readN (shown n) = n ∧ readB (shown n) = true ∧ (shown n).toList.isEmpty = false ∧ (shown n).size = 29) ∧ (¬ (0 ≤ n ∧ n ≤ 2000000000) → readB (shown n) = false ∧ (shown n).toList.isEmpty = true) := by
  constructor
  · intro h
    have hz := text_size n h.1 h.2
    rw [shown_in h]
    unfold readN readB
    rw [read_text n h.1 h.2]
    refine ⟨rfl, rfl, ?_, hz⟩
    rw [ByteArray.toList_eq]
    cases e : (text n).data.toList with
    | nil => exfalso; have h3 := congrArg List.length e; rw [Array.length_toList] at h3; have h2 : (text n).size = 0 := h3; omega
    | cons c t => rfl
  · intro h
    rw [shown_out h]
    unfold readB
    rw [read_empty]
    exact ⟨rfl, by rw [ByteArray.toList_eq]; rfl⟩
/-- a day and the next one -/
structure Next (y m A B N1 N2 : Int) : Prop where
  bdA : -1 ≤ A ∧ A ≤ 100000
  bdB : -1 ≤ B ∧ B ≤ 100000
  bdN1 : -1 ≤ N1 ∧ N1 ≤ 100000
  bdN2 : -1 ≤ N2 ∧ N2 ≤ 100000
  later : 0 ≤ A → 0 ≤ B → B = A + 1
  month : 0 ≤ A → B < 0 → ¬ m = 12 → N1 = A + 1
  year : 0 ≤ A → B < 0 → m = 12 → y < 2037 → N2 = A + 1
theorem nonneg {y m d : Int} (h : inside y m d) : 0 ≤ days y m d := by
  rw [days_in h]
  have := ysum_bd (y - 1970).toNat
  have := msum_bd y (m - 1).toNat (by have := h.2.1; omega)
  have := h.2.2
  omega
theorem inside_of {y m d : Int} (h : 0 ≤ days y m d) : inside y m d := by
  by_cases e : inside y m d
  · exact e
  · rw [days_out e] at h; omega
theorem next (y m d : Int) : Next y m (days y m d) (days y m (d + 1)) (days y (m + 1) 1) (days (y + 1) 1 1) where
  bdA := days_bd _ _ _
  bdB := days_bd _ _ _
  bdN1 := days_bd _ _ _
  bdN2 := days_bd _ _ _
  later := fun h1 h2 => later (inside_of h1) (inside_of h2)
  month := fun h1 h2 h3 => next_month (inside_of h1) (fun h => by have := nonneg h; omega) h3
  year := fun h1 h2 h3 h4 => by subst h3; exact next_year (inside_of h1) (fun h => by have := nonneg h; omega) h4
set_option maxRecDepth 100000 in
set_option maxHeartbeats 8000000 in
theorem law (G : World → Prop) (hG : ∀ W W', G W → Below W.heap.size W W' → G W')
    (hshow : ∀ n W, G W → Calls Tryd.prog 8 #[.int .i64 n] W fun e w' => e = .returned (.string (shown n)) ∧ Below W.heap.size W w')
    (hread : ∀ (s : ByteArray) W, s.size ≤ 1048576 → G W → Calls Tryd.prog 9 #[.string s] W fun e w' => e = .returned (.tuple #[.int .i64 (readN s), .bool (readB s)]) ∧ Below W.heap.size W w')
    (hdays : ∀ y m d W, G W → Calls Tryd.prog 11 #[.int .i64 y, .int .i64 m, .int .i64 d] W fun e w' => e = .returned (.int .i64 (days y m d)) ∧ Below W.heap.size W w')
    (a : Option Addr) (cap : Nat) (l : List Int) (w : World) (hcode : CodeAt w.heap.size w a l) (hl : l.length ≤ 1048576) (hg : G w) :
    Calls Tryd.prog 3 #[.slice a l.length cap] w fun e w' => e = .returned (.bool true) ∧ Below w.heap.size w w' := by
  have HC := Num.hide hcode
  have HG := Num.hide hG
  have HSh := Num.hide hshow
  have HRd := Num.hide hread
  have HDy := Num.hide hdays
  have HG0 := Num.hide hg
  have HBg := Num.hide (fun W => big_any a l.length cap W (by omega))
  rw [decide_eq_false (by omega : ¬ (1048576 < (l.length : Int)))] at HBg
  clear hcode hG hshow hread hdays hg
  go_enter Tryd.func3, Tryd.ntmps3
  go_wp2_with fail
  refine (HBg.out _).mono ?_
  rintro e w0 ⟨rfl, rfl⟩
  go_wp2_with fail
  refine (drawSec cap a l w HC.out hl).mono ?_
  rintro e W1 ⟨n, rfl, hn0, hn1, hb⟩
  have B1 := Num.hide hb
  have G1 := Num.hide (HG.out _ _ HG0.out hb)
  have HS := Num.hide (fun W hg => HSh.out n W hg)
  have HR := Num.hide (fun W hg => HRd.out (shown n) W (by have := shown_size n; omega) hg)
  have HBo := Num.hide (both n)
  have hsz := shown_size n
  clear hb
  generalize readN (shown n) = M at HR HBo
  generalize readB (shown n) = I at HR HBo
  generalize shown n = S at HS HR HBo hsz
  go_wp2_with fail
  refine (HS.out _ G1.out).mono ?_
  rintro e W2 ⟨rfl, hb⟩
  have B2 := Num.hide (Recs.below_step B1.out hb)
  have G2 := Num.hide (HG.out _ _ G1.out hb)
  clear hb B1 G1
  go_wp2_with fail
  refine (HR.out _ G2.out).mono ?_
  rintro e W3 ⟨rfl, hb⟩
  have B3 := Num.hide (Recs.below_step B2.out hb)
  have G3 := Num.hide (HG.out _ _ G2.out hb)
  clear hb B2 G2
  go_upto_region 6 with fail
  go_cut [58] from 18 (fun v wx => v = .bool false ∧ wx = W3)
  case first =>
    by_cases hin : 0 ≤ n ∧ n ≤ 2000000000
    · obtain ⟨rfl, rfl, hne, h29⟩ := HBo.out.1 hin
      have d29 : ((S.size : Int) != 29) = false := by rw [bne_eq_false_iff_eq]; omega
      obtain ⟨hi0, hi1⟩ := hin
      clear HBo h29
      go_wp2
      go_meet
      case rel => exact ⟨rfl, rfl⟩
    · obtain ⟨rfl, hne⟩ := HBo.out.2 hin
      by_cases h0 : 0 ≤ n
      · have h1 : decide (n ≤ 2000000000) = false := by rw [decide_eq_false_iff_not]; omega
        clear HBo hin
        go_wp2
        go_meet
        case rel => exact ⟨rfl, rfl⟩
      · have h1 : decide (0 ≤ n) = false := by rw [decide_eq_false_iff_not]; exact h0
        clear HBo hin
        go_wp2
        go_meet
        case rel => exact ⟨rfl, rfl⟩
  case rest =>
  obtain ⟨rfl, rfl⟩ := hcut
  clear HBo HS HR
  go_wp2_with fail
  refine (drawDays cap a l _ ((HC.out.below B3.out).mono B3.out.size) hl).mono ?_
  rintro e W4 ⟨y, m, d, rfl, hy, hm, hd, hb⟩
  have B4 := Num.hide (Recs.below_step B3.out hb)
  have G4 := Num.hide (HG.out _ _ G3.out hb)
  have HA := Num.hide (fun W hg => HDy.out y m d W hg)
  have HB := Num.hide (fun W hg => HDy.out y m (d + 1) W hg)
  have HN1 := Num.hide (fun W hg => HDy.out y (m + 1) 1 W hg)
  have HN2 := Num.hide (fun W hg => HDy.out (y + 1) 1 1 W hg)
  have HNx := Num.hide (next y m d)
  clear hb B3 G3
  generalize days y m d = A at HA HNx
  generalize days y m (d + 1) = Bq at HB HNx
  generalize days y (m + 1) 1 = N1 at HN1 HNx
  generalize days (y + 1) 1 1 = N2 at HN2 HNx
  have bA := HNx.out.bdA
  have bB := HNx.out.bdB
  have bN1 := HNx.out.bdN1
  have bN2 := HNx.out.bdN2
  go_wp2_with fail
  refine (HA.out _ G4.out).mono ?_
  rintro e W5 ⟨rfl, hb⟩
  have B5 := Num.hide (Recs.below_step B4.out hb)
  have G5 := Num.hide (HG.out _ _ G4.out hb)
  clear hb B4 G4
  go_wp2_with fail
  refine (HB.out _ G5.out).mono ?_
  rintro e W6 ⟨rfl, hb⟩
  have B6 := Num.hide (Recs.below_step B5.out hb)
  have G6 := Num.hide (HG.out _ _ G5.out hb)
  clear hb B5 G5
  go_upto_region 11 with fail
  go_cut [85] from 18 (fun v wx => v = .bool false ∧ wx = W6)
  case first =>
    by_cases hA : 0 ≤ A
    · by_cases hBq : 0 ≤ Bq
      · obtain rfl := HNx.out.later hA hBq
        go_wp2
        go_meet
        case rel => exact ⟨rfl, rfl⟩
      · have dB : decide (0 ≤ Bq) = false := by rw [decide_eq_false_iff_not]; exact hBq
        go_wp2
        go_meet
        case rel => exact ⟨rfl, rfl⟩
    · have dA : decide (0 ≤ A) = false := by rw [decide_eq_false_iff_not]; exact hA
      go_wp2
      go_meet
      case rel => exact ⟨rfl, rfl⟩
  case rest =>
  obtain ⟨rfl, rfl⟩ := hcut
  go_upto_region 13 with fail
  go_cut [91] from 18 (fun v wx => v = .bool (decide (0 ≤ A ∧ Bq < 0)) ∧ wx = wc)
  case first =>
    by_cases hA : 0 ≤ A
    · go_wp2
      go_meet
      case rel => exact ⟨by simp [hA], rfl⟩
    · have dA : decide (0 ≤ A) = false := by rw [decide_eq_false_iff_not]; exact hA
      have HE := Num.hide (decide_eq_false (fun h => hA h.1) : decide (0 ≤ A ∧ Bq < 0) = false)
      go_wp2
      go_meet
      case rel => exact ⟨by rw [HE.out], rfl⟩
  case rest =>
  obtain ⟨rfl, rfl⟩ := hcut
  go_upto_if 91 with fail
  go_cut [12] from 18 (fun _ wx => Hid (Below w.heap.size w wx) ∧ Hid (G wx))
  case first =>
    by_cases hAB : 0 ≤ A ∧ Bq < 0
    · rw [decide_eq_true hAB]
      by_cases hm12 : m = 12
      · subst hm12
        by_cases hy37 : y < 2037
        · obtain rfl := HNx.out.year hAB.1 hAB.2 rfl hy37
          go_wp2_with fail
          refine (HN1.out _ G6.out).mono ?_
          rintro e W7 ⟨rfl, hb⟩
          have B7 := Num.hide (Recs.below_step B6.out hb)
          have G7 := Num.hide (HG.out _ _ G6.out hb)
          clear hb B6 G6
          go_wp2_with fail
          refine (HN2.out _ G7.out).mono ?_
          rintro e W8 ⟨rfl, hb⟩
          have B8 := Num.hide (Recs.below_step B7.out hb)
          have G8 := Num.hide (HG.out _ _ G7.out hb)
          clear hb B7 G7
          go_wp2
          go_meet
          case rel => exact ⟨B8, G8⟩
        · have d37 : decide (y < 2037) = false := by rw [decide_eq_false_iff_not]; exact hy37
          by_cases hne : N2 = A + 1
          · have d2 : (N2 != A + 1) = false := by rw [bne_eq_false_iff_eq]; exact hne
            clear hne
            go_wp2_with fail
            refine (HN1.out _ G6.out).mono ?_
            rintro e W7 ⟨rfl, hb⟩
            have B7 := Num.hide (Recs.below_step B6.out hb)
            have G7 := Num.hide (HG.out _ _ G6.out hb)
            clear hb B6 G6
            go_wp2_with fail
            refine (HN2.out _ G7.out).mono ?_
            rintro e W8 ⟨rfl, hb⟩
            have B8 := Num.hide (Recs.below_step B7.out hb)
            have G8 := Num.hide (HG.out _ _ G7.out hb)
            clear hb B7 G7
            go_wp2
            go_meet
            case rel => exact ⟨B8, G8⟩
          · have d2 : (N2 != A + 1) = true := by rw [bne_iff_ne]; exact hne
            clear hne
            go_wp2_with fail
            refine (HN1.out _ G6.out).mono ?_
            rintro e W7 ⟨rfl, hb⟩
            have B7 := Num.hide (Recs.below_step B6.out hb)
            have G7 := Num.hide (HG.out _ _ G6.out hb)
            clear hb B6 G6
            go_wp2_with fail
            refine (HN2.out _ G7.out).mono ?_
            rintro e W8 ⟨rfl, hb⟩
            have B8 := Num.hide (Recs.below_step B7.out hb)
            have G8 := Num.hide (HG.out _ _ G7.out hb)
            clear hb B7 G7
            go_wp2
            go_meet
            case rel => exact ⟨B8, G8⟩
      · have d12 : (m == 12) = false := by rw [beq_eq_false_iff_ne]; exact hm12
        obtain rfl := HNx.out.month hAB.1 hAB.2 hm12
        clear hm12
        go_wp2_with fail
        refine (HN1.out _ G6.out).mono ?_
        rintro e W7 ⟨rfl, hb⟩
        have B7 := Num.hide (Recs.below_step B6.out hb)
        have G7 := Num.hide (HG.out _ _ G6.out hb)
        clear hb B6 G6
        go_wp2
        go_meet
        case rel => exact ⟨B7, G7⟩
    · rw [decide_eq_false hAB]
      go_wp2
      go_meet
      case rel => exact ⟨B6, G6⟩
  case rest =>
  obtain ⟨B7, G7⟩ := hcut
  clear B6 G6 HA HB HN1 HN2 HNx bA bB bN1 bN2
  go_wp2_with fail
  refine (drawText cap a l _ ((HC.out.below B7.out).mono B7.out.size) hl).mono ?_
  rintro e W8 ⟨t, rfl, hts, hb⟩
  have B8 := Num.hide (Recs.below_step B7.out hb)
  have G8 := Num.hide (HG.out _ _ G7.out hb)
  have hri := read_iff t
  have HR := Num.hide (fun W hg => HRd.out t W (by omega) hg)
  unfold readN readB at HR
  clear hb B7 G7
  cases hr : Date.read t with
  | none =>
    rw [hr] at HR
    simp only [Option.getD_none, Option.isSome_none] at HR
    clear hri hr
    go_wp2_with fail
    refine (HR.out _ G8.out).mono ?_
    rintro e W9 ⟨rfl, hb⟩
    have B9 := Num.hide (Recs.below_step B8.out hb)
    clear hb B8 G8
    go_wp2
    go_ret
    exact ⟨rfl, B9.out⟩
  | some k =>
    have hk := (hri k).1 hr
    have hsh : shown k = t := (shown_in hk.1).trans hk.2
    rw [hr] at HR
    simp only [Option.getD_some, Option.isSome_some] at HR
    have HS := Num.hide (fun W hg => HSh.out k W hg)
    rw [hsh] at HS
    clear hri hr hk hsh
    go_wp2_with fail
    refine (HR.out _ G8.out).mono ?_
    rintro e W9 ⟨rfl, hb⟩
    have B9 := Num.hide (Recs.below_step B8.out hb)
    have G9 := Num.hide (HG.out _ _ G8.out hb)
    clear hb B8 G8
    go_wp2_with fail
    refine (HS.out _ G9.out).mono ?_
    rintro e W10 ⟨rfl, hb⟩
    have B10 := Num.hide (Recs.below_step B9.out hb)
    clear hb B9 G9
    go_wp2
    go_ret
    exact ⟨rfl, B10.out⟩
end Dates
end Go.Proofs.YtdgmhjklidklmaaDoor
