/-
  BodyImpl: BodyOf of the program: where a body ends; what was there stays.
  WordsSpec: l6Words and l6Whole of the specification: a line parted at its first two blanks; whether a message's line and fields are there.
  LineEol: l3Line of the specification: the line at a place.
  LineSpec: l3Colon of the specification: the first colon.
  FldReadSpec: ReadFields of the specification: fields read off a text, in a row of the call's own; what was there stays.
-/
import Derived.Test.YtbajfklnekfeoaaGreatDoorPar
import Derived.Test.YtbajfklnekfeoaaGreatDoorPag
import Derived.Test.YtbajfklnekfeoaaGreatDoorSecondsImpl
import Derived.Test.YtbajfklnekfeoaaGreatDoorPam
import Derived.Test.YtbajfklnekfeoaaGreatDoorPal
import Derived.Test.YtbajfklnekfeoaaGreatDoorRecs
import Derived.Test.YtbajfklnekfeoaaGreatDoorRows
import Derived.WalkKit
import Derived.WalkLawsBesides
import Derived.WalkSpells
import Derived.Below
import Derived.Deep.QuietTactic
import Derived.BigQuiet
import Derived.Laws.Strings
import Derived.Laws.Strings2
import Derived.Laws.Strings3
import Derived.Test.YtbajfklnekfeoaaGreatDoorSignNum
import Derived.Test.YtbajfklnekfeoaaGreatDoorPae
import Derived.Test.YtbajfklnekfeoaaGreatDoorFldsOkSpec
import Derived.Test.YtbajfklnekfeoaaGreatDoorPab
import Derived.Test.YtbajfklnekfeoaaGreatDoorTrimSpec
import Derived.Test.YtbajfklnekfeoaaGreatDoorRegLaw
namespace Go.Proofs.YtbajfklnekfeoaaGreatDoor
open Go.RowKit
set_option linter.unusedVariables false
namespace Body

/-- a body of so many bytes; and all that is left -/
def counted (cl s : ByteArray) : Told :=
  if (Sign.secs cl).2 = false ∨ 60 < (Sign.secs cl).1 then bad
  else if (s.size : Int) < (Sign.secs cl).1 then more
  else (s.extract 0 (Sign.secs cl).1.toNat, (Sign.secs cl).1, 0)
def whole (s : ByteArray) : Told := if 60 < s.size then bad else (s, (s.size : Int), 0)
set_option maxRecDepth 100000 in
set_option maxHeartbeats 2000000 in
theorem counted_impl (cl s : ByteArray) (m b : Addr) (w : World) (hc : cl.size ≤ 4194304) (hs : s.size ≤ 1048576) (hE : Errs m b w) :
    Calls Tryz.prog 92 #[.string cl, .string s] w fun e w' => ∃ t u c, e = .returned (.tuple #[.string t, .int .i64 u, errV m b c]) ∧ c ≤ 2 ∧ tell t u c = counted cl s ∧ Below w.heap.size w w' := by
  have HS := Num.hide (fun W => Sign.seconds_impl cl W (by unfold maxLen; omega))
  have hsb := secs_bd cl
  have em := hE.cm
  have eb := hE.cb
  obtain ⟨r, hr⟩ : ∃ r, counted cl s = r := ⟨_, rfl⟩
  rw [hr]
  unfold counted at hr
  generalize Sign.secs cl = sc at HS hsb hr
  obtain ⟨n, is⟩ := sc
  simp only at HS hsb hr
  have HR := Num.hide hr
  clear hr hE
  cases is with
  | false =>
    obtain rfl : bad = r := by rw [← HR.out, if_pos (.inl rfl)]
    clear HR
    go_enter Tryz.func92, Tryz.ntmps92
    go_wp2_with fail
    refine (HS.out _).mono ?_
    rintro e w1 ⟨rfl, rfl⟩
    go_wp2
    go_region
    go_wp2
    go_ret3
    exact ⟨_, _, 2, rfl, by omega, rfl, (Below.refl _ w).drew⟩
  | true =>
    by_cases h60 : 60 < n
    · obtain rfl : bad = r := by rw [← HR.out, if_pos (.inr h60)]
      have d60 : decide (60 < n) = true := by rw [decide_eq_true_iff]; exact h60
      clear HR
      go_enter Tryz.func92, Tryz.ntmps92
      go_wp2_with fail
      refine (HS.out _).mono ?_
      rintro e w1 ⟨rfl, rfl⟩
      go_wp2
      go_region
      go_wp2
      go_ret3
      exact ⟨_, _, 2, rfl, by omega, rfl, (Below.refl _ w).drew⟩
    · have d60 : decide (60 < n) = false := by rw [decide_eq_false_iff_not]; exact h60
      by_cases hsn : (s.size : Int) < n
      · obtain rfl : more = r := by rw [← HR.out, if_neg (by simp; omega), if_pos hsn]
        have dsn : decide ((s.size : Int) < n) = true := by rw [decide_eq_true_iff]; exact hsn
        clear HR
        go_enter Tryz.func92, Tryz.ntmps92
        go_wp2_with fail
        refine (HS.out _).mono ?_
        rintro e w1 ⟨rfl, rfl⟩
        go_wp2
        go_region
        go_wp2
        go_ret3
        exact ⟨_, _, 1, rfl, by omega, rfl, (Below.refl _ w).drew⟩
      · have dsn : decide ((s.size : Int) < n) = false := by rw [decide_eq_false_iff_not]; exact hsn
        obtain rfl : (s.extract 0 n.toNat, n, 0) = r := by rw [← HR.out, if_neg (by simp; omega), if_neg hsn]
        have HC := Num.hide (fun W => Shelf.clone (s.extract 0 n.toNat) W (by rw [ByteArray.size_extract]; omega))
        clear HR
        go_enter Tryz.func92, Tryz.ntmps92
        go_wp2_with fail
        refine (HS.out _).mono ?_
        rintro e w1 ⟨rfl, rfl⟩
        go_wp2_with fail
        refine (HC.out _).mono ?_
        rintro e w2 ⟨rfl, hb⟩
        have HB := Num.hide hb
        clear hb
        go_wp2
        go_ret3
        exact ⟨_, _, 0, rfl, by omega, rfl, HB.out⟩
set_option maxRecDepth 100000 in
set_option maxHeartbeats 2000000 in
theorem whole_impl (s : ByteArray) (m b : Addr) (w : World) (hs : s.size ≤ 1048576) (hE : Errs m b w) :
    Calls Tryz.prog 93 #[.string s] w fun e w' => ∃ t u c, e = .returned (.tuple #[.string t, .int .i64 u, errV m b c]) ∧ c ≤ 2 ∧ tell t u c = whole s ∧ Below w.heap.size w w' := by
  have em := hE.cm
  have eb := hE.cb
  have HC := Num.hide (fun W => Shelf.clone s W (by omega))
  clear hE
  unfold whole
  by_cases h60 : 60 < s.size
  · rw [if_pos h60]
    have d60 : decide ((60 : Int) < (s.size : Int)) = true := by simp; omega
    go_enter Tryz.func93, Tryz.ntmps93
    go_wp2
    go_region
    go_wp2
    go_ret3
    exact ⟨_, _, 2, rfl, by omega, rfl, (Below.refl _ w).drew⟩
  · rw [if_neg h60]
    have d60 : decide ((60 : Int) < (s.size : Int)) = false := by simp; omega
    go_enter Tryz.func93, Tryz.ntmps93
    go_wp2_with fail
    refine (HC.out _).mono ?_
    rintro e w1 ⟨rfl, hb⟩
    have HB := Num.hide hb
    clear hb
    go_wp2
    go_ret3
    exact ⟨_, _, 0, rfl, by omega, rfl, HB.out⟩
set_option maxRecDepth 100000 in
set_option maxHeartbeats 4000000 in
theorem ahead_impl (v : Value) (l : List Flds.Fld) (s : ByteArray) (c : Bool) (m b : Addr) (w : World) (h : Flds.Is w v l) (hl : Flds.bulk l ≤ 1048576) (hs : s.size ≤ 1048576) (hm : Lim w) (hS : Syn w) (hE : Errs m b w) :
    Calls Tryz.prog 48 #[v, .string s, .bool c] w fun e w' => ∃ t u k, e = .returned (.tuple #[.string t, .int .i64 u, errV m b k]) ∧ k ≤ 2 ∧ tell t u k = bodyOf l s c ∧ Below w.heap.size w w' := by
  have HG1 := Num.hide (Flds.get_impl v l teName w h (by omega))
  have HG2 := Num.hide (fun W (hb : Below w.heap.size w W) => Flds.get_impl v l clName W (Recs.is_below h hb) (by omega))
  have HW : Hid (∀ W, Below w.heap.size w W → Lim W ∧ Syn W ∧ Errs m b W) := fun W hb => ⟨hm.below hb, hS.below hb, hE.below hb⟩
  unfold bodyOf
  have z1 := get_small l teName hl
  have z2 := get_small l clName hl
  clear h hm hS hE
  generalize Flds.get l teName = te at HG1 z1
  generalize Flds.get l clName = cl at HG2 z2
  obtain ⟨te1, te2⟩ := te
  obtain ⟨cl1, cl2⟩ := cl
  simp only at z1 z2 HG1 HG2
  have HLo := Num.hide (fun W => Sign.lower_impl te1 W (by unfold maxLen; omega))
  have HU := Num.hide (fun W (g : Lim W ∧ Syn W ∧ Errs m b W) => join_impl s m b W hs g.1 g.2.1 g.2.2)
  have HCn := Num.hide (fun W (g : Errs m b W) => counted_impl cl1 s m b W z2 hs g)
  have HWh := Num.hide (fun W (g : Errs m b W) => whole_impl s m b W hs g)
  obtain ⟨r, hr⟩ : ∃ r, bodyBy (te1, te2) (cl1, cl2) s c = r := ⟨_, rfl⟩
  rw [hr]
  unfold bodyBy at hr
  simp only at hr
  have hcn : counted cl1 s = (if (Sign.secs cl1).2 = false ∨ 60 < (Sign.secs cl1).1 then bad else if (s.size : Int) < (Sign.secs cl1).1 then more else (s.extract 0 (Sign.secs cl1).1.toNat, (Sign.secs cl1).1, 0)) := rfl
  have hwh : whole s = (if 60 < s.size then bad else (s, (s.size : Int), 0)) := rfl
  rw [← hcn, ← hwh] at hr
  generalize Sign.lower te1 = lo at HLo hr
  generalize unchunk s = un at HU hr
  generalize counted cl1 s = cn at HCn hr
  generalize whole s = wh at HWh hr
  have HR := Num.hide hr
  clear hr hcn hwh
  unfold teName at HG1
  unfold clName at HG2
  go_enter Tryz.func48, Tryz.ntmps48
  go_wp2_with fail
  refine HG1.out.mono ?_
  rintro e w1 ⟨rfl, hb1⟩
  have B1 := Num.hide hb1
  clear hb1
  go_wp2_with fail
  refine (HG2.out _ B1.out).mono ?_
  rintro e w2 ⟨rfl, hb2⟩
  have B2 := Num.hide (B1.out.trans (hb2.mono B1.out.size))
  clear hb2 HG1 HG2
  cases te2 with
  | true =>
    rw [if_pos rfl] at HR
    cases cl2 with
    | true =>
      obtain rfl : bad = r := by rw [← HR.out, if_neg (by simp)]
      have eb := (HW.out _ B2.out).2.2.cb
      clear HR HW
      go_wp2
      go_region
      go_wp2
      go_ret3
      exact ⟨_, _, 2, rfl, by omega, rfl, B2.out.drew⟩
    | false =>
      by_cases hch : lo = chName
      · subst hch
        unfold chName at HLo
        obtain rfl : un = r := by rw [← HR.out, if_pos ⟨rfl, rfl⟩]
        clear HR
        go_wp2_with fail
        refine (HLo.out _).mono ?_
        rintro e w3 ⟨rfl, hb3⟩
        have B3 := Num.hide (B2.out.trans (hb3.mono B2.out.size))
        clear hb3
        go_wp2_with fail
        refine (HU.out _ (HW.out _ B3.out)).mono ?_
        rintro e w4 ⟨t, u, k, rfl, hk, ht, hb4⟩
        have B4 := Num.hide (B3.out.trans (hb4.mono B3.out.size))
        have HT := Num.hide ht
        clear hb4 ht
        go_wp2
        go_ret3
        exact ⟨_, _, k, rfl, hk, HT.out, B4.out⟩
      · obtain rfl : bad = r := by rw [← HR.out, if_neg (fun h => hch h.1)]
        have dq : (lo.toList == [99, 104, 117, 110, 107, 101, 100]) = false := by
          rw [beq_eq_false_iff_ne, ByteArray.toList_eq]
          intro e
          exact hch (ByteArray.ext (Array.toList_inj.1 e))
        clear HR hch
        go_wp2_with fail
        refine (HLo.out _).mono ?_
        rintro e w3 ⟨rfl, hb3⟩
        have B3 := Num.hide (B2.out.trans (hb3.mono B2.out.size))
        have eb := (HW.out _ B3.out).2.2.cb
        clear hb3 HW
        go_wp2
        go_region
        go_wp2
        go_ret3
        exact ⟨_, _, 2, rfl, by omega, rfl, B3.out.drew⟩
  | false =>
    rw [if_neg (by simp)] at HR
    cases cl2 with
    | true =>
      rw [if_pos rfl] at HR
      obtain rfl : cn = r := HR.out
      clear HR
      go_wp2_with fail
      refine (HCn.out _ (HW.out _ B2.out).2.2).mono ?_
      rintro e w4 ⟨t, u, k, rfl, hk, ht, hb4⟩
      have B4 := Num.hide (B2.out.trans (hb4.mono B2.out.size))
      have HT := Num.hide ht
      clear hb4 ht
      go_wp2
      go_ret3
      exact ⟨_, _, k, rfl, hk, HT.out, B4.out⟩
    | false =>
      rw [if_neg (by simp)] at HR
      cases c with
      | true =>
        rw [if_pos rfl] at HR
        obtain rfl : wh = r := HR.out
        clear HR
        go_wp2_with fail
        refine (HWh.out _ (HW.out _ B2.out).2.2).mono ?_
        rintro e w4 ⟨t, u, k, rfl, hk, ht, hb4⟩
        have B4 := Num.hide (B2.out.trans (hb4.mono B2.out.size))
        have HT := Num.hide ht
        clear hb4 ht
        go_wp2
        go_ret3
        exact ⟨_, _, k, rfl, hk, HT.out, B4.out⟩
      | false =>
        rw [if_neg (by simp)] at HR
        obtain rfl : (⟨#[]⟩, 0, 0) = r := HR.out
        clear HR HW
        go_wp2
        go_ret3
        exact ⟨_, _, 0, rfl, by omega, rfl, B2.out⟩
set_option maxRecDepth 100000 in
set_option maxHeartbeats 2000000 in
theorem body_impl (v : Value) (l : List Flds.Fld) (s : ByteArray) (c : Bool) (m b : Addr) (w : World) (h : Flds.Is w v l) (hl : Flds.bulk l ≤ 1048576) (hs : s.size ≤ 1048576) (hm : Lim w) (hS : Syn w) (hE : Errs m b w) :
    Calls Tryz.prog 15 #[v, .string s, .bool c] w fun e w' => e = .returned (.tuple #[.string (bodyOf l s c).1, .int .i64 (bodyOf l s c).2.1, .int .i64 (bodyOf l s c).2.2]) ∧ Below w.heap.size w w' := by
  have HJ := Num.hide (ahead_impl v l s c m b w h hl hs hm hS hE)
  have HE := Num.hide (fun W h => hE.below (w' := W) h)
  obtain ⟨⟨x, y, z⟩, hR⟩ : ∃ R, bodyOf l s c = R := ⟨_, rfl⟩
  rw [hR] at HJ ⊢
  clear hm hS hE hR h
  go_enter Tryz.func15, Tryz.ntmps15
  go_wp2_with fail
  refine HJ.out.mono ?_
  rintro e w1 ⟨t, u, k, rfl, hk, ht, hb⟩
  have HT := Num.hide (tell_impl t u k m b w1 hk (HE.out _ hb))
  rw [ht] at HT
  have HB := Num.hide hb
  clear hb ht HJ
  go_wp2_with fail
  refine HT.out.mono ?_
  rintro e w2 ⟨rfl, rfl⟩
  go_wp2
  go_ret3
  exact ⟨rfl, HB.out⟩
end Body
end Go.Proofs.YtbajfklnekfeoaaGreatDoor
namespace Go.Proofs.YtbajfklnekfeoaaGreatDoor
open Go.RowKit
set_option linter.unusedVariables false
namespace Msg
open Line (byteAt byteAt_eq)

set_option maxRecDepth 100000 in
set_option maxHeartbeats 2000000 in
theorem words_spec (s : ByteArray) (w : World) (hs : s.size ≤ 1152921504606846976) : Calls Tryz.prog 73 #[.string s] w fun e w' => e = .returned (.tuple #[.string (words s).1, .string (words s).2.1, .string (words s).2.2]) ∧ Below w.heap.size w w' := by
  obtain ⟨r, hr⟩ : ∃ r, words s = r := ⟨_, rfl⟩
  rw [hr]
  have HR := Num.hide hr
  clear hr
  go_enter Tryz.func73, Tryz.ntmps73
  go_wp2
  go_loop [5, 6, 7] (fun av bv iv => ∃ (i : Nat) (a b : Int), i ≤ s.size ∧ av = .int .i64 a ∧ bv = .int .i64 b ∧ iv = .int .i64 (i : Int) ∧ Hid (WdAt s i a b)) (fun _ _ iv => s.size - (intOf iv).toNat)
  case atStart => exact ⟨0, -1, -1, by omega, rfl, rfl, rfl, wd_start s⟩
  case round =>
    obtain ⟨i, a, b, hi, rfl, rfl, rfl, HW⟩ := hrel
    have hbd := wd_bd HW.out hi
    by_cases hlt : i < s.size
    · have hc := s[i].toNat_lt
      by_cases h32 : (s[i].toNat : Int) = 32
      · have e32 : ((s[i].toNat : Int) == 32) = true := by rw [beq_iff_eq]; exact h32
        have n32 : s[i].toNat = 32 := by omega
        by_cases ha : a < 0
        · have da : decide (a < 0) = true := decide_eq_true ha
          have HW2 := Num.hide (wd_first HW.out hlt n32 ha)
          clear HW h32 n32
          go_wp2
          go_round
          case rel => exact ⟨i + 1, _, _, by omega, rfl, rfl, by go_num, HW2⟩
          case measure => simp [intOf]; omega
        · have da : decide (a < 0) = false := decide_eq_false ha
          by_cases hb : b < 0
          · have db : decide (b < 0) = true := decide_eq_true hb
            have HW2 := Num.hide (wd_second HW.out hlt n32 ha hb)
            clear HW h32 n32
            go_wp2
            go_round
            case rel => exact ⟨i + 1, _, _, by omega, rfl, rfl, by go_num, HW2⟩
            case measure => simp [intOf]; omega
          · have db : decide (b < 0) = false := decide_eq_false hb
            have HW2 := Num.hide (wd_third HW.out ha hb)
            clear HW h32 n32
            go_wp2
            go_round
            case rel => exact ⟨i + 1, _, _, by omega, rfl, rfl, by go_num, HW2⟩
            case measure => simp [intOf]; omega
      · have e32 : ((s[i].toNat : Int) == 32) = false := by rw [beq_eq_false_iff_ne]; exact h32
        have HW2 := Num.hide (wd_no HW.out hlt (fun h => h32 (by omega)))
        clear HW h32
        go_wp2
        go_round
        case rel => exact ⟨i + 1, _, _, by omega, rfl, rfl, by go_num, HW2⟩
        case measure => simp [intOf]; omega
    · obtain rfl : i = s.size := by omega
      by_cases hb : b < 0
      · have hr := HR.out
        rw [wd_none HW.out hb] at hr
        subst hr
        clear HW HR
        go_wp2
        go_ret3
        exact ⟨rfl, Below.refl _ _⟩
      · obtain ⟨A, B, rfl, rfl, hAB, hBs, hw⟩ := wd_done HW.out hb
        have hr := HR.out
        rw [hw] at hr
        subst hr
        have db : decide ((B : Int) < 0) = false := decide_eq_false hb
        have k1 : (A : Int) ≤ (s.size : Int) := by omega
        have k2 : (A : Int) + 1 ≤ (B : Int) := by omega
        have k3 : (B : Int) ≤ (s.size : Int) := by omega
        have k4 : (B : Int) + 1 ≤ (s.size : Int) := by omega
        clear HW HR hw
        go_wp2
        go_quiet (fail)
        go_wp2
        go_ret3
        exact ⟨rfl, Recs.below_drewN (Below.refl _ _) _⟩
theorem whole_step (s : ByteArray) (i : Nat) (h : i + 3 < s.size) : wholeF s (s.size - 3 - i) i = if s.extract i (i + 4) = gap then true else wholeF s (s.size - 3 - (i + 1)) (i + 1) := by
  rw [show s.size - 3 - i = (s.size - 3 - (i + 1)) + 1 by omega]; rfl
set_option maxRecDepth 100000 in
set_option maxHeartbeats 1000000 in
theorem whole_spec (s : ByteArray) (w : World) (hs : s.size ≤ 1152921504606846976) : Calls Tryz.prog 71 #[.string s] w fun e w' => e = .returned (.bool (whole s)) ∧ w = w' := by
  obtain ⟨r, hr⟩ : ∃ r, whole s = r := ⟨_, rfl⟩
  rw [hr]
  have HR : Hid (wholeF s (s.size - 3 - 0) 0 = r) := hr
  clear hr
  go_enter Tryz.func71, Tryz.ntmps71
  go_wp2
  go_loop [3] (fun iv => ∃ i : Nat, i ≤ s.size ∧ iv = .int .i64 (i : Int) ∧ Hid (wholeF s (s.size - 3 - i) i = r)) (fun iv => s.size - (intOf iv).toNat)
  case atStart => exact ⟨0, by omega, rfl, HR⟩
  case round =>
    clear HR
    obtain ⟨i, hi, rfl, HR⟩ := hrel
    by_cases hlt : (i : Int) + 3 < (s.size : Int)
    · have he := HR.out
      rw [whole_step s i (by omega)] at he
      have k1 : (i : Int) + 4 ≤ (s.size : Int) := by omega
      have k2 : (i : Int) ≤ (i : Int) + 4 := by omega
      have hx := run_slice_string (P := Tryz.prog) w 9 s .i64 .i64 (i : Int) ((i : Int) + 4) Tryz.underlying9 (by omega) k2 k1
      rw [show ((i : Int)).toNat = i by omega, show ((i : Int) + 4).toNat = i + 4 by omega] at hx
      clear HR
      by_cases hg : s.extract i (i + 4) = gap
      · rw [if_pos hg] at he
        subst he
        rw [hg] at hx
        unfold gap at hx
        go_wp2
        go_ret
        exact ⟨rfl, rfl⟩
      · rw [if_neg hg] at he
        have HE := Num.hide he
        have hq : ((s.extract i (i + 4)).toList == [13, 10, 13, 10]) = false := by
          rw [beq_eq_false_iff_ne, ByteArray.toList_eq]
          intro e; exact hg (ByteArray.ext (Array.toList_inj.1 (by rw [e]; rfl)))
        clear he hg
        generalize s.extract i (i + 4) = t at hx hq
        go_wp2
        go_round
        case rel => exact ⟨i + 1, by omega, by go_num, HE⟩
        case measure => simp [intOf]; omega
    · have he := HR.out
      rw [show s.size - 3 - i = 0 by omega] at he
      have hf : false = r := he
      subst hf
      clear HR he
      go_wp2
      go_ret
      exact ⟨rfl, rfl⟩
end Msg
end Go.Proofs.YtbajfklnekfeoaaGreatDoor
namespace Go.Proofs.YtbajfklnekfeoaaGreatDoor
open Go.RowKit
set_option linter.unusedVariables false
namespace Line

set_option maxRecDepth 100000 in
set_option maxHeartbeats 1000000 in
theorem line_spec (s : ByteArray) (a : Nat) (w : World) (hs : s.size ≤ 1152921504606846976) (ha : a ≤ s.size) : Calls Tryz.prog 72 #[.string s, .int .i64 a] w fun e w' => e = .returned (.tuple #[.string (lineOf s a).1, .int .i64 (lineOf s a).2]) ∧ w = w' := by
  obtain ⟨r, hr⟩ : ∃ r, lineOf s a = r := ⟨_, rfl⟩
  rw [hr]
  unfold lineOf at hr
  have HR := Num.hide hr
  clear hr
  go_enter Tryz.func72, Tryz.ntmps72
  go_wp2
  go_loop [6] (fun iv => ∃ i : Nat, a ≤ i ∧ i ≤ s.size ∧ iv = .int .i64 (i : Int) ∧ Hid (eol s a = eol s i)) (fun iv => s.size - (intOf iv).toNat)
  case atStart => exact ⟨a, Nat.le_refl _, ha, rfl, rfl⟩
  case round =>
    obtain ⟨i, hai, hi, rfl, HE⟩ := hrel
    by_cases hlt : i + 1 < s.size
    · have hlt' : ((i : Int) + 1) < s.size := by omega
      have hi2 : i < s.size := by omega
      by_cases h13 : (s[i]).toNat = 13
      · have d13 : (((s[i]).toNat : Int) == 13) = true := by rw [beq_iff_eq]; omega
        by_cases h10 : (s[i + 1]).toNat = 10
        · have d10 : (((s[i + 1]).toNat : Int) == 10) = true := by rw [beq_iff_eq]; omega
          have hr := HR.out
          rw [HE.out, eol_hit s i hlt h13 h10] at hr
          subst hr
          clear h13 h10 HR
          go_wp2
          all_goals go_ret2
          all_goals exact ⟨rfl, rfl⟩
        · have d10 : (((s[i + 1]).toNat : Int) == 10) = false := by rw [beq_eq_false_iff_ne]; omega
          have HE2 : Hid (eol s a = eol s (i + 1)) := by show _ = _; rw [HE.out, eol_next s i hlt (fun h => h10 h.2)]
          clear h13 h10
          go_wp2
          go_round
          case rel => exact ⟨i + 1, by omega, by omega, by go_num, HE2⟩
          case measure => simp [intOf]; omega
      · have d13 : (((s[i]).toNat : Int) == 13) = false := by rw [beq_eq_false_iff_ne]; omega
        have HE2 : Hid (eol s a = eol s (i + 1)) := by show _ = _; rw [HE.out, eol_next s i hlt (fun h => h13 h.1)]
        clear h13
        go_wp2
        go_round
        case rel => exact ⟨i + 1, by omega, by omega, by go_num, HE2⟩
        case measure => simp [intOf]; omega
    · have hr := HR.out
      rw [HE.out, eol_end s i (by omega)] at hr
      subst hr
      clear HR
      go_wp2
      go_ret2
      exact ⟨rfl, rfl⟩
end Line
end Go.Proofs.YtbajfklnekfeoaaGreatDoor
namespace Go.Proofs.YtbajfklnekfeoaaGreatDoor
open Go.RowKit
set_option linter.unusedVariables false
namespace Line

set_option maxRecDepth 100000 in
set_option maxHeartbeats 1000000 in
theorem colon_spec (s : ByteArray) (w : World) (hs : s.size ≤ maxLen) : Calls Tryz.prog 121 #[.string s] w fun e w' => e = .returned (.int .i64 (colonOf s)) ∧ w = w' := by
  unfold maxLen at hs
  obtain ⟨r, hr⟩ : ∃ r, colonOf s = r := ⟨_, rfl⟩
  rw [hr]
  unfold colonOf at hr
  have HR := Num.hide hr
  clear hr
  go_enter Tryz.func121, Tryz.ntmps121
  go_wp2
  go_loop [3] (fun iv => ∃ i : Nat, i ≤ s.size ∧ iv = .int .i64 (i : Int) ∧ Hid (colon s = colonGo s (s.size - i) i)) (fun iv => s.size - (intOf iv).toNat)
  case atStart => exact ⟨0, Nat.zero_le _, rfl, rfl⟩
  case round =>
    obtain ⟨i, hi, rfl, HE⟩ := hrel
    by_cases hlt : i < s.size
    · obtain ⟨n, hn⟩ : ∃ n, s.size - i = n + 1 := ⟨s.size - i - 1, by omega⟩
      have he := HE.out
      rw [hn, colonGo, byteAt_eq s i hlt] at he
      have hn2 : s.size - (i + 1) = n := by omega
      by_cases h58 : (s[i]).toNat = 58
      · have d58 : (((s[i]).toNat : Int) == 58) = true := by rw [beq_iff_eq]; omega
        rw [if_pos h58] at he
        have hr := HR.out
        rw [he] at hr
        subst hr
        clear h58 HR he hn hn2
        go_wp2
        go_ret
        exact ⟨rfl, rfl⟩
      · have d58 : (((s[i]).toNat : Int) == 58) = false := by rw [beq_eq_false_iff_ne]; omega
        rw [if_neg h58] at he
        have HE2 : Hid (colon s = colonGo s (s.size - (i + 1)) (i + 1)) := by rw [hn2]; exact he
        clear h58 he hn hn2
        go_wp2
        go_round
        case rel => exact ⟨i + 1, by omega, by go_num, HE2⟩
        case measure => simp [intOf]; omega
    · have he := HE.out
      rw [show s.size - i = 0 by omega, colonGo] at he
      have hr := HR.out
      rw [he] at hr
      subst hr
      clear HR he
      go_wp2
      go_ret
      exact ⟨rfl, rfl⟩
end Line
end Go.Proofs.YtbajfklnekfeoaaGreatDoor
namespace Go.Proofs.YtbajfklnekfeoaaGreatDoor
open Go.RowKit
set_option linter.unusedVariables false
set_option linter.unusedSimpArgs false
namespace Flds

/-- what holds while a line is read -/
def Rd (w : World) (v : Value) (l : List Fld) (W : World) : Prop := Own w.heap.size W v l ∧ Below w.heap.size w W
theorem rd_below {w : World} {v : Value} {l : List Fld} {W W' : World} (h : Rd w v l W) (hb : Below W.heap.size W W') : Rd w v l W' := ⟨Recs.own_below h.1 hb, h.2.trans (hb.mono h.2.size)⟩
theorem rd_alloc {w : World} {v : Value} {l : List Fld} {W : World} (h : Rd w v l W) (o : Obj) : Rd w v l (W.alloc o) := ⟨World.ownsRow.alloc h.1 o, h.2.alloc h.2.size o⟩
theorem rd_set {w : World} {v : Value} {l : List Fld} {W : World} {g : Nat} {x y : Value} (h : Rd w v l W) (hg : ∀ k, v.ownBlock = some k → k < g) (hw : w.heap.size ≤ g) : Rd w v l ((W.setCell ⟨g, 0, none⟩ x).setCell ⟨g, 1, none⟩ y) :=
  ⟨Recs.own_stay h.1 hg (((Below.refl g W).setCell (Nat.le_refl _) _).setCell (Nat.le_refl _) _), (h.2.setCell hw _).setCell hw _⟩
theorem bad_end {w wr : World} (h : w.heap.size ≤ wr.heap.size) : Own w.heap.size (wr.alloc (.cells #[] 36)) (.slice (some ⟨wr.heap.size, 0, none⟩) 0 0) [] := World.ownsRow_made wr #[] 0 h (Nat.zero_le _) rfl
set_option maxRecDepth 100000 in
set_option maxHeartbeats 4000000 in
theorem read_spec (s : ByteArray) (w : World) (hs : s.size ≤ 1048576) :
    Calls Tryz.prog 74 #[.string s] w fun e w' => ∃ v', e = .returned (.tuple #[v', .int .i64 (readN s), .bool (readB s)]) ∧ Own w.heap.size w' v' (readL s) ∧ Below w.heap.size w w' := by
  obtain ⟨i0, hi0, hz0, hz1, hz2⟩ := info_parts infoF
  have HD := Num.hide (made_nil w)
  obtain ⟨L, hL⟩ : ∃ L, readL s = L := ⟨_, rfl⟩
  obtain ⟨N, hN⟩ : ∃ N, readN s = N := ⟨_, rfl⟩
  obtain ⟨b, hb⟩ : ∃ b, readB s = b := ⟨_, rfl⟩
  rw [hL, hN, hb]
  have HR : Hid (readL s = L ∧ readN s = N ∧ readB s = b) := ⟨hL, hN, hb⟩
  clear hL hN hb
  have HE : Hid (read s = none → L = [] ∧ N = 0 ∧ b = false) := fun h => by
    obtain ⟨h1, h2, h3⟩ := told_none h
    obtain ⟨g1, g2, g3⟩ := HR.out
    exact ⟨g1.symm.trans h1, g2.symm.trans h2, g3.symm.trans h3⟩
  have HF : Hid (∀ l n, read s = some (l, n) → L = l ∧ N = (n : Int) ∧ b = true) := fun l n h => by
    obtain ⟨h1, h2, h3⟩ := told_some h
    obtain ⟨g1, g2, g3⟩ := HR.out
    exact ⟨g1.symm.trans h1, g2.symm.trans h2, g3.symm.trans h3⟩
  clear HR
  go_enter Tryz.func74, Tryz.ntmps74
  go_wp2
  go_loopw [5, 6] (fun ov av wr => ∃ (a : Nat) (l : List Fld), av = .int .i64 (a : Int) ∧ Hid (RdAt s a l) ∧ Hid (Own w.heap.size wr ov l) ∧ Hid (Below w.heap.size w wr)) (fun _ av _ => s.size - (intOf av).toNat)
  case atStart => exact ⟨0, [], rfl, rd_start s, HD, (Below.refl _ _).alloc (Nat.le_refl _) _⟩
  case round =>
    clear HD
    obtain ⟨a, l, rfl, HA, HO, HB⟩ := hrel
    obtain ⟨va, vc, hv⟩ := Recs.own_len HO.out
    subst hv
    have hle := HA.out.le
    have hln := HA.out.len
    have hsz := HB.out.size
    by_cases h12 : l.length ≤ 12
    · have d12 : decide ((l.length : Int) ≤ 12) = true := by simp; omega
      have HL := Num.hide (fun W => Line.line_spec s a W (by omega) hle)
      cases he : Line.eol s a with
      | none =>
        have hl : Line.lineOf s a = (⟨#[]⟩, -1) := by unfold Line.lineOf; rw [he]
        rw [hl] at HL
        obtain ⟨rfl, rfl, rfl⟩ := Num.unhide HE (rd_none HA.out h12 he)
        clear hl he
        go_wp2_with fail
        refine (Num.unhide HL _).mono ?_
        rintro e w1 ⟨rfl, rfl⟩
        go_wp2
        go_ret3
        exact ⟨_, rfl, bad_end hsz, HB.out.alloc hsz _⟩
      | some i =>
        obtain ⟨hin1, hin2⟩ := Line.eol_in he
        have hl : Line.lineOf s a = (s.extract a i, (i : Int) + 2) := by unfold Line.lineOf; rw [he]
        rw [hl] at HL
        clear hl
        by_cases hia : i = a
        · subst hia
          have hem : s.extract i i = ⟨#[]⟩ := Sign.empty_true _ (by rw [ByteArray.size_extract]; omega)
          rw [hem] at HL
          obtain ⟨rfl, rfl, rfl⟩ := Num.unhide HF _ _ (rd_done HA.out h12 he)
          have HC := Num.hide (fun W h => ok_spec (.slice va L.length vc) L W h (fun f hf => by have := HA.out.small f hf; unfold maxLen; omega) (by omega))
          rw [rd_ok HA.out h12] at HC
          clear hem he
          go_wp2_with fail
          refine (Num.unhide HL _).mono ?_
          rintro e w1 ⟨rfl, rfl⟩
          go_wp2_with fail
          refine (Num.unhide HC _ (Recs.own_is cells_len HO.out)).mono ?_
          rintro e w2 ⟨rfl, hb2⟩
          have HO2 := Num.hide (Recs.own_below HO.out hb2)
          have HB2 := Num.hide (HB.out.trans (hb2.mono hsz))
          clear hb2
          go_wp2
          go_ret3
          exact ⟨_, rfl, HO2.out, HB2.out⟩
        · have hts : (s.extract a i).size = i - a := by rw [ByteArray.size_extract]; omega
          have hne := Sign.empty_false (s.extract a i) (by omega)
          have HC := Num.hide (fun W => Line.colon_spec (s.extract a i) W (by unfold maxLen; omega))
          cases hc : Line.colon (s.extract a i) with
          | none =>
            have hco : Line.colonOf (s.extract a i) = -1 := by unfold Line.colonOf; rw [hc]
            rw [hco] at HC
            obtain ⟨rfl, rfl, rfl⟩ := Num.unhide HE (rd_nocolon HA.out h12 he hia hc)
            clear hco hc he hts
            generalize s.extract a i = t at HL hne HC
            go_wp2_with fail
            refine (Num.unhide HL _).mono ?_
            rintro e w1 ⟨rfl, rfl⟩
            go_wp2_with fail
            refine (Num.unhide HC _).mono ?_
            rintro e w2 ⟨rfl, rfl⟩
            go_wp2
            go_ret3
            exact ⟨_, rfl, bad_end hsz, HB.out.alloc hsz _⟩
          | some k =>
            have hk := Line.colon_in hc
            have hco : Line.colonOf (s.extract a i) = (k : Int) := by unfold Line.colonOf; rw [hc]
            rw [hco] at HC
            have HBad := Num.hide (rd_bad HA.out h12 he hia hc)
            have HMore := Num.hide (rd_more HA.out h12 he hia hc)
            unfold fieldOf at HBad HMore
            clear hco hc
            generalize s.extract a i = t at HL hne HC hk hts HBad HMore
            have HLo := Num.hide (fun W => Sign.lower_spec (t.extract 0 k) W (by unfold maxLen; rw [ByteArray.size_extract]; omega))
            have HTr := Num.hide (fun W => Sign.trim_spec (t.extract (k + 1) t.size) W (by unfold maxLen; rw [ByteArray.size_extract]; omega))
            have hx1 : (Sign.lower (t.extract 0 k)).size ≤ 1048576 := by rw [Sign.size_lower, ByteArray.size_extract]; omega
            generalize Sign.lower (t.extract 0 k) = x at HLo HBad HMore hx1
            have hy1 : (Sign.trim (t.extract (k + 1) t.size)).size ≤ 1048576 := by have := Sign.trim_size (t.extract (k + 1) t.size); rw [ByteArray.size_extract] at this; omega
            generalize Sign.trim (t.extract (k + 1) t.size) = y at HTr HBad HMore hy1
            go_wp2_with fail
            refine (Num.unhide HL _).mono ?_
            rintro e w1 ⟨rfl, rfl⟩
            go_wp2_with fail
            refine (Num.unhide HC _).mono ?_
            rintro e w2 ⟨rfl, rfl⟩
            go_wp2
            have HTs := Num.hide hts
            have hk1 : k ≤ t.size := by omega
            have hk2 : IntKind.i64.wrap ((k : Int) + 1) = (k : Int) + 1 := by rw [IntKind.wrap_i64]; omega
            have hk3 : (0 : Int) ≤ (k : Int) + 1 := by omega
            have hk4 : (k : Int) + 1 ≤ (t.size : Int) := by omega
            have hk5 : ((k : Int) + 1).toNat = k + 1 := by omega
            clear hts
            refine wp_region_held_drew (S := Rd w (.slice va l.length vc) l) (by kernel_rfl) ⟨HO.out, HB.out.drew⟩ (fun hHeld => ?_)
            refine Reg.take (i := 0) (d := 33) (v := ?_) rfl rfl (by kernel_rfl) (by kernel_rfl) (by kernel_rfl) (fun _ _ _ h => h) (by rfl) ?_ hHeld ?_
            rotate_left
            · rintro W h1
              first | (go_simp; done) | (go_simp; with_reducible rfl)
            simp only [Act.put, List.setIfInBounds_toArray, List.set_cons_zero, List.set_cons_succ]
            refine Reg.take (i := 1) (d := 34) (v := ?_) rfl rfl (by kernel_rfl) (by kernel_rfl) (by kernel_rfl) (fun _ _ _ h => h) (by rfl) ?_ hHeld ?_
            rotate_left
            · rintro W h1
              first | (go_simp; done) | (go_simp; with_reducible rfl)
            simp only [Act.put, List.setIfInBounds_toArray, List.set_cons_zero, List.set_cons_succ]
            refine Reg.take (i := 2) (d := 35) (v := ?_) rfl rfl (by kernel_rfl) (by kernel_rfl) (by kernel_rfl) (fun _ _ _ h => h) (by rfl) ?_ hHeld ?_
            rotate_left
            · rintro W h1
              first | (go_simp; done) | (go_simp; with_reducible rfl)
            simp only [Act.put, List.setIfInBounds_toArray, List.set_cons_zero, List.set_cons_succ]
            refine Reg.take (i := 4) (d := 37) (v := ?_) rfl rfl (by kernel_rfl) (by kernel_rfl) (by kernel_rfl) (fun _ _ _ h => h) (by rfl) ?_ hHeld ?_
            rotate_left
            · rintro W h1
              first | (go_simp; done) | (go_simp; with_reducible rfl)
            simp only [Act.put, List.setIfInBounds_toArray, List.set_cons_zero, List.set_cons_succ]
            refine Reg.take (i := 5) (d := 38) (v := ?_) rfl rfl (by kernel_rfl) (by kernel_rfl) (by kernel_rfl) (fun _ _ _ h => h) (by rfl) ?_ hHeld ?_
            rotate_left
            · rintro W h1
              first | (go_simp; done) | (go_simp; with_reducible rfl)
            simp only [Act.put, List.setIfInBounds_toArray, List.set_cons_zero, List.set_cons_succ]
            refine Reg.take (i := 6) (d := 39) (v := ?_) rfl rfl (by kernel_rfl) (by kernel_rfl) (by kernel_rfl) (fun _ _ _ h => h) (by rfl) ?_ hHeld ?_
            rotate_left
            · rintro W h1
              first | (go_simp; done) | (go_simp; with_reducible rfl)
            simp only [Act.put, List.setIfInBounds_toArray, List.set_cons_zero, List.set_cons_succ]
            refine Reg.take (i := 7) (d := 40) (v := ?_) rfl rfl (by kernel_rfl) (by kernel_rfl) (by kernel_rfl) (fun _ _ _ h => h) (by rfl) ?_ hHeld ?_
            rotate_left
            · rintro W h1
              first | (go_simp; done) | (go_simp; with_reducible rfl)
            simp only [Act.put, List.setIfInBounds_toArray, List.set_cons_zero, List.set_cons_succ]
            refine wpAnyH_ready (rs := [3, 10]) (by kernel_rfl) (by simp) (AllReadyH.cons (Reg.at_ rfl) (fun K hK => ?_) (AllReadyH.cons (Reg.at_ rfl) (fun K hK => ?_) AllReadyH.nil))
            · rw [if_pos (by rfl)]
              go_wp2_with fail
              refine (Num.unhide HLo _).mono ?_
              rintro e w3 ⟨rfl, hb3⟩
              go_wp2_with fail
              refine hK.out _ _ ?_ (fun hHeld2 => ?_)
              · exact rd_below hHeld hb3
              clear hK K
              replace hHeld := hHeld2
              clear hHeld2
              refine wpAnyH_ready (rs := [8, 10]) (by kernel_rfl) (by simp) (AllReadyH.cons (Reg.at_ rfl) (fun K hK => ?_) (AllReadyH.cons (Reg.at_ rfl) (fun K hK => ?_) AllReadyH.nil))
              · rw [if_pos (by rfl)]
                go_wp2_with fail
                refine (Num.unhide HTr _).mono ?_
                rintro e w4 ⟨rfl, rfl⟩
                go_wp2_with fail
                refine hK.out _ _ ?_ (fun hHeld2 => ?_)
                · exact hHeld
                clear hK K
                replace hHeld := hHeld2
                clear hHeld2
                refine Reg.take (i := 9) (d := 42) (v := ?_) rfl rfl (by kernel_rfl) (by kernel_rfl) (by kernel_rfl) (fun _ _ _ h => h) (by rfl) ?_ hHeld ?_
                rotate_left
                · rintro W h1
                  first | (go_simp; done) | (go_simp; with_reducible rfl)
                simp only [Act.put, List.setIfInBounds_toArray, List.set_cons_zero, List.set_cons_succ]
                refine Reg.call (i := 10) rfl (by kernel_rfl) (by rfl) (fun K hK => ?_)
                have hKeep := hHeld
                go_wp2_with fail
                refine hK.out _ _ ?_ (fun hHeld2 => ?_)
                · exact rd_alloc hHeld _
                clear hK K
                replace hHeld := hHeld2
                clear hHeld2
                refine Reg.call (i := 11) rfl (by kernel_rfl) (by rfl) (fun K hK => ?_)
                go_wp2_with fail
                refine hK.out _ _ ?_ (fun hHeld2 => ?_)
                · exact rd_alloc hKeep _
                clear hK K
                replace hHeld := hHeld2
                clear hHeld2 hKeep hb3
                have b1 : (w3.alloc (.cells #[.string x, .string y] 36)).cell? ⟨w3.heap.size, 0, none⟩ = some (.string x) := by simp
                have b2 : (w3.alloc (.cells #[.string x, .string y] 36)).cell? ⟨w3.heap.size, 1, none⟩ = some (.string y) := by simp
                have hgb : w3.heap.size < (w3.alloc (.cells #[.string x, .string y] 36)).heap.size := by simp
                refine wpAnyH_done (by kernel_rfl) ?_ _
                have HH := Num.hide hHeld
                have HOk := Num.hide (fun W => okF_spec x y W (by unfold maxLen; omega) (by unfold maxLen; omega))
                clear hHeld
                cases hok : okF (x, y) with
                | false =>
                  rw [hok] at HOk
                  obtain ⟨rfl, rfl, rfl⟩ := Num.unhide HE (Num.unhide HBad hok)
                  clear hok
                  go_wp2_with fail
                  refine (Num.unhide HOk _).mono ?_
                  rintro e w5 ⟨rfl, hb5⟩
                  have R5 := Num.hide (rd_below HH.out hb5)
                  have s5 := R5.out.2.size
                  clear hb5
                  go_wp2
                  go_ret3
                  exact ⟨_, rfl, bad_end s5, R5.out.2.alloc s5 _⟩
                | true =>
                  rw [hok] at HOk
                  have HA2 := Num.hide (Num.unhide HMore hok)
                  clear hok
                  go_wp2_with fail
                  refine (Num.unhide HOk _).mono ?_
                  rintro e w5 ⟨rfl, hb5⟩
                  have R5 := Num.hide (rd_below HH.out hb5)
                  have s5 := R5.out.2.size
                  have k1 := (hb5.cell (p := ⟨w3.heap.size, 0, none⟩) hgb).trans b1
                  have k2 := (hb5.cell (p := ⟨w3.heap.size, 1, none⟩) hgb).trans b2
                  clear hb5 b1 b2
                  go_wp2_with (at_builtin; refine wpList_append_own _ rfl _ _ 37 rfl w.heap.size 36 i0 _ 2 32 Tryz.underlying37 hi0 hz0 hz1 hz2 rfl (by decide) _ _ _ rfl (World.ownsRow.alloc R5.out.1 _) ⟨w5.heap.size, 0, none⟩ 1 1 [.string x, .string y] rfl rfl (cells_two w5 x y) (two_ok x y) (by unfold maxLen; omega) (by omega) ?c9 ?_)
                  case c9 => first | omega | (simp; omega)
                  intro v' w6 ho6 hg6 _
                  obtain ⟨hp1, hp2⟩ := put_more s5 R5.out.1 R5.out.2 ho6 hg6
                  have HP1 := Num.hide hp1
                  have HP2 := Num.hide hp2
                  clear ho6 hg6 hp1 hp2
                  go_wp2
                  go_roundw
                  case rel => exact ⟨i + 2, _, by go_num, HA2, HP1, HP2⟩
                  case measure => simp [intOf]; omega
              · rw [if_pos (by rfl)]
                have hKeep := hHeld
                go_wp2_with fail
                refine hK.out _ _ ?_ (fun hHeld2 => ?_)
                · exact rd_alloc hHeld _
                clear hK K
                replace hHeld := hHeld2
                clear hHeld2
                refine Reg.call (i := 8) rfl (by kernel_rfl) (by rfl) (fun K hK => ?_)
                go_wp2_with fail
                refine (Num.unhide HTr _).mono ?_
                rintro e w4 ⟨rfl, rfl⟩
                go_wp2_with fail
                refine hK.out _ _ ?_ (fun hHeld2 => ?_)
                · exact hHeld
                clear hK K
                replace hHeld := hHeld2
                clear hHeld2
                refine Reg.take (i := 9) (d := 42) (v := ?_) rfl rfl (by kernel_rfl) (by kernel_rfl) (by kernel_rfl) (fun _ _ _ h => h) (by rfl) ?_ hHeld ?_
                rotate_left
                · rintro W h1
                  first | (go_simp; done) | (go_simp; with_reducible rfl)
                simp only [Act.put, List.setIfInBounds_toArray, List.set_cons_zero, List.set_cons_succ]
                refine Reg.call (i := 11) rfl (by kernel_rfl) (by rfl) (fun K hK => ?_)
                go_wp2_with fail
                refine hK.out _ _ ?_ (fun hHeld2 => ?_)
                · exact rd_alloc hKeep _
                clear hK K
                replace hHeld := hHeld2
                clear hHeld2 hKeep hb3
                have b1 : (w3.alloc (.cells #[.string x, .string y] 36)).cell? ⟨w3.heap.size, 0, none⟩ = some (.string x) := by simp
                have b2 : (w3.alloc (.cells #[.string x, .string y] 36)).cell? ⟨w3.heap.size, 1, none⟩ = some (.string y) := by simp
                have hgb : w3.heap.size < (w3.alloc (.cells #[.string x, .string y] 36)).heap.size := by simp
                refine wpAnyH_done (by kernel_rfl) ?_ _
                have HH := Num.hide hHeld
                have HOk := Num.hide (fun W => okF_spec x y W (by unfold maxLen; omega) (by unfold maxLen; omega))
                clear hHeld
                cases hok : okF (x, y) with
                | false =>
                  rw [hok] at HOk
                  obtain ⟨rfl, rfl, rfl⟩ := Num.unhide HE (Num.unhide HBad hok)
                  clear hok
                  go_wp2_with fail
                  refine (Num.unhide HOk _).mono ?_
                  rintro e w5 ⟨rfl, hb5⟩
                  have R5 := Num.hide (rd_below HH.out hb5)
                  have s5 := R5.out.2.size
                  clear hb5
                  go_wp2
                  go_ret3
                  exact ⟨_, rfl, bad_end s5, R5.out.2.alloc s5 _⟩
                | true =>
                  rw [hok] at HOk
                  have HA2 := Num.hide (Num.unhide HMore hok)
                  clear hok
                  go_wp2_with fail
                  refine (Num.unhide HOk _).mono ?_
                  rintro e w5 ⟨rfl, hb5⟩
                  have R5 := Num.hide (rd_below HH.out hb5)
                  have s5 := R5.out.2.size
                  have k1 := (hb5.cell (p := ⟨w3.heap.size, 0, none⟩) hgb).trans b1
                  have k2 := (hb5.cell (p := ⟨w3.heap.size, 1, none⟩) hgb).trans b2
                  clear hb5 b1 b2
                  go_wp2_with (at_builtin; refine wpList_append_own _ rfl _ _ 37 rfl w.heap.size 36 i0 _ 2 32 Tryz.underlying37 hi0 hz0 hz1 hz2 rfl (by decide) _ _ _ rfl (World.ownsRow.alloc R5.out.1 _) ⟨w5.heap.size, 0, none⟩ 1 1 [.string x, .string y] rfl rfl (cells_two w5 x y) (two_ok x y) (by unfold maxLen; omega) (by omega) ?c9 ?_)
                  case c9 => first | omega | (simp; omega)
                  intro v' w6 ho6 hg6 _
                  obtain ⟨hp1, hp2⟩ := put_more s5 R5.out.1 R5.out.2 ho6 hg6
                  have HP1 := Num.hide hp1
                  have HP2 := Num.hide hp2
                  clear ho6 hg6 hp1 hp2
                  go_wp2
                  go_roundw
                  case rel => exact ⟨i + 2, _, by go_num, HA2, HP1, HP2⟩
                  case measure => simp [intOf]; omega
            · rw [if_pos (by rfl)]
              have hKeep := hHeld
              go_wp2_with fail
              refine hK.out _ _ ?_ (fun hHeld2 => ?_)
              · exact rd_alloc hHeld _
              clear hK K
              replace hHeld := hHeld2
              clear hHeld2
              refine Reg.call (i := 3) rfl (by kernel_rfl) (by rfl) (fun K hK => ?_)
              go_wp2_with fail
              refine (Num.unhide HLo _).mono ?_
              rintro e w3 ⟨rfl, hb3⟩
              go_wp2_with fail
              refine hK.out _ _ ?_ (fun hHeld2 => ?_)
              · exact rd_below hHeld hb3
              clear hK K
              replace hHeld := hHeld2
              clear hHeld2
              refine Reg.call (i := 8) rfl (by kernel_rfl) (by rfl) (fun K hK => ?_)
              go_wp2_with fail
              refine (Num.unhide HTr _).mono ?_
              rintro e w4 ⟨rfl, rfl⟩
              go_wp2_with fail
              refine hK.out _ _ ?_ (fun hHeld2 => ?_)
              · exact hHeld
              clear hK K
              replace hHeld := hHeld2
              clear hHeld2
              refine Reg.take (i := 9) (d := 42) (v := ?_) rfl rfl (by kernel_rfl) (by kernel_rfl) (by kernel_rfl) (fun _ _ _ h => h) (by rfl) ?_ hHeld ?_
              rotate_left
              · rintro W h1
                first | (go_simp; done) | (go_simp; with_reducible rfl)
              simp only [Act.put, List.setIfInBounds_toArray, List.set_cons_zero, List.set_cons_succ]
              refine Reg.call (i := 11) rfl (by kernel_rfl) (by rfl) (fun K hK => ?_)
              have e1 := (hb3.cell (p := ⟨wr.heap.size, 0, none⟩) (by simp)).trans (show _ = some (.string ⟨#[]⟩) by simp)
              have e2 := (hb3.cell (p := ⟨wr.heap.size, 1, none⟩) (by simp)).trans (show _ = some (.string ⟨#[]⟩) by simp)
              have f1 := (hb3.frozen (p := ⟨wr.heap.size, 0, none⟩) (by simp)).trans (show _ = false by simp)
              have f2 := (hb3.frozen (p := ⟨wr.heap.size, 1, none⟩) (by simp)).trans (show _ = false by simp)
              have hlt3 : wr.heap.size < w3.heap.size := by have := hb3.size; simp at this; omega
              go_wp2_with fail
              refine hK.out _ _ ?_ (fun hHeld2 => ?_)
              · exact rd_set hHeld (fun k hk => (Recs.own_lt HO.out k hk).2) hsz
              clear hK K
              replace hHeld := hHeld2
              have b1 := box_first (x := x) (y := y) e1
              have b2 := box_second (x := x) (y := y) e2
              have hgb : wr.heap.size < ((w3.setCell ⟨wr.heap.size, 0, none⟩ (.string x)).setCell ⟨wr.heap.size, 1, none⟩ (.string y)).heap.size := by simp; omega
              clear hHeld2 hKeep hb3 e1 e2 f1 f2
              refine wpAnyH_done (by kernel_rfl) ?_ _
              have HH := Num.hide hHeld
              have HOk := Num.hide (fun W => okF_spec x y W (by unfold maxLen; omega) (by unfold maxLen; omega))
              clear hHeld
              cases hok : okF (x, y) with
              | false =>
                rw [hok] at HOk
                obtain ⟨rfl, rfl, rfl⟩ := Num.unhide HE (Num.unhide HBad hok)
                clear hok
                go_wp2_with fail
                refine (Num.unhide HOk _).mono ?_
                rintro e w5 ⟨rfl, hb5⟩
                have R5 := Num.hide (rd_below HH.out hb5)
                have s5 := R5.out.2.size
                clear hb5
                go_wp2
                go_ret3
                exact ⟨_, rfl, bad_end s5, R5.out.2.alloc s5 _⟩
              | true =>
                rw [hok] at HOk
                have HA2 := Num.hide (Num.unhide HMore hok)
                clear hok
                go_wp2_with fail
                refine (Num.unhide HOk _).mono ?_
                rintro e w5 ⟨rfl, hb5⟩
                have R5 := Num.hide (rd_below HH.out hb5)
                have s5 := R5.out.2.size
                have k1 := (hb5.cell (p := ⟨wr.heap.size, 0, none⟩) hgb).trans b1
                have k2 := (hb5.cell (p := ⟨wr.heap.size, 1, none⟩) hgb).trans b2
                clear hb5 b1 b2
                go_wp2_with (at_builtin; refine wpList_append_own _ rfl _ _ 37 rfl w.heap.size 36 i0 _ 2 32 Tryz.underlying37 hi0 hz0 hz1 hz2 rfl (by decide) _ _ _ rfl (World.ownsRow.alloc R5.out.1 _) ⟨w5.heap.size, 0, none⟩ 1 1 [.string x, .string y] rfl rfl (cells_two w5 x y) (two_ok x y) (by unfold maxLen; omega) (by omega) ?c9 ?_)
                case c9 => first | omega | (simp; omega)
                intro v' w6 ho6 hg6 _
                obtain ⟨hp1, hp2⟩ := put_more s5 R5.out.1 R5.out.2 ho6 hg6
                have HP1 := Num.hide hp1
                have HP2 := Num.hide hp2
                clear ho6 hg6 hp1 hp2
                go_wp2
                go_roundw
                case rel => exact ⟨i + 2, _, by go_num, HA2, HP1, HP2⟩
                case measure => simp [intOf]; omega
    · obtain ⟨rfl, rfl, rfl⟩ := Num.unhide HE (rd_full HA.out h12)
      have d12 : decide ((l.length : Int) ≤ 12) = false := by simp; omega
      go_wp2
      go_ret3
      exact ⟨_, rfl, bad_end hsz, HB.out.alloc hsz _⟩
end Flds
end Go.Proofs.YtbajfklnekfeoaaGreatDoor
