/-
  BodyImpl: BodyOf of the program: where a body ends; what was there stays.
-/
import Derived.Test.YtkenmilglfnmbaaGreatDoorQav
import Derived.Test.YtkenmilglfnmbaaGreatDoorQad
import Derived.Test.YtkenmilglfnmbaaGreatDoorQbb
import Derived.Test.YtkenmilglfnmbaaGreatDoorSecondsImpl
import Derived.Test.YtkenmilglfnmbaaGreatDoorQbc
import Derived.Test.YtkenmilglfnmbaaGreatDoorQaz
namespace Go.Proofs.YtkenmilglfnmbaaGreatDoor
open Go.RowKit
set_option linter.unusedVariables false
namespace Body

/-- a body of so many bytes; and all that is left -/
def counted (cl s : ByteArray) : Told :=
  if (Sign.secs cl).2 = false ∨ 60 < (Sign.secs cl).1 then bad
  else if (s.size : Int) < (Sign.secs cl).1 then more
  else (s.extract 0 (Sign.secs cl).1.toNat, (Sign.secs cl).1, 0)
def whole (s : ByteArray) : Told := if 60 < s.size then bad else (s, (s.size : Int), 0)
set_option maxRecDepth 100000 in
set_option maxHeartbeats 2000000 in
theorem counted_impl (cl s : ByteArray) (m b : Addr) (w : World) (hc : cl.size ≤ 4194304) (hs : s.size ≤ 1048576) (hE : Errs m b w) :
    Calls Tryz.prog 92 #[.string cl, .string s] w fun e w' => ∃ t u c, e = .returned (.tuple #[.string t, .int .i64 u, errV m b c]) ∧ c ≤ 2 ∧ tell t u c = counted cl s ∧ Below w.heap.size w w' := by
  have HS := Num.hide (fun W => Sign.seconds_impl cl W (by unfold maxLen; omega))
  have hsb := secs_bd cl
  have em := hE.cm
  have eb := hE.cb
  obtain ⟨r, hr⟩ : ∃ r, counted cl s = r := ⟨_, rfl⟩
  rw [hr]
  unfold counted at hr
  generalize Sign.secs cl = sc at HS hsb hr
  obtain ⟨n, is⟩ := sc
  simp only at HS hsb hr
  have HR := Num.hide hr
  clear hr hE
  cases is with
  | false =>
    obtain rfl : bad = r := by rw [← HR.out, if_pos (.inl rfl)]
    clear HR
    go_enter Tryz.func92, Tryz.ntmps92
    go_wp2_with fail
    refine (HS.out _).mono ?_
    rintro e w1 ⟨rfl, rfl⟩
    go_wp2
    go_region
    go_wp2
    go_ret3
    exact ⟨_, _, 2, rfl, by omega, rfl, (Below.refl _ w).drew⟩
  | true =>
    by_cases h60 : 60 < n
    · obtain rfl : bad = r := by rw [← HR.out, if_pos (.inr h60)]
      have d60 : decide (60 < n) = true := by rw [decide_eq_true_iff]; exact h60
      clear HR
      go_enter Tryz.func92, Tryz.ntmps92
      go_wp2_with fail
      refine (HS.out _).mono ?_
      rintro e w1 ⟨rfl, rfl⟩
      go_wp2
      go_region
      go_wp2
      go_ret3
      exact ⟨_, _, 2, rfl, by omega, rfl, (Below.refl _ w).drew⟩
    · have d60 : decide (60 < n) = false := by rw [decide_eq_false_iff_not]; exact h60
      by_cases hsn : (s.size : Int) < n
      · obtain rfl : more = r := by rw [← HR.out, if_neg (by simp; omega), if_pos hsn]
        have dsn : decide ((s.size : Int) < n) = true := by rw [decide_eq_true_iff]; exact hsn
        clear HR
        go_enter Tryz.func92, Tryz.ntmps92
        go_wp2_with fail
        refine (HS.out _).mono ?_
        rintro e w1 ⟨rfl, rfl⟩
        go_wp2
        go_region
        go_wp2
        go_ret3
        exact ⟨_, _, 1, rfl, by omega, rfl, (Below.refl _ w).drew⟩
      · have dsn : decide ((s.size : Int) < n) = false := by rw [decide_eq_false_iff_not]; exact hsn
        obtain rfl : (s.extract 0 n.toNat, n, 0) = r := by rw [← HR.out, if_neg (by simp; omega), if_neg hsn]
        have HC := Num.hide (fun W => Shelf.clone (s.extract 0 n.toNat) W (by rw [ByteArray.size_extract]; omega))
        clear HR
        go_enter Tryz.func92, Tryz.ntmps92
        go_wp2_with fail
        refine (HS.out _).mono ?_
        rintro e w1 ⟨rfl, rfl⟩
        go_wp2_with fail
        refine (HC.out _).mono ?_
        rintro e w2 ⟨rfl, hb⟩
        have HB := Num.hide hb
        clear hb
        go_wp2
        go_ret3
        exact ⟨_, _, 0, rfl, by omega, rfl, HB.out⟩
set_option maxRecDepth 100000 in
set_option maxHeartbeats 2000000 in
theorem whole_impl (s : ByteArray) (m b : Addr) (w : World) (hs : s.size ≤ 1048576) (hE : Errs m b w) :
    Calls Tryz.prog 93 #[.string s] w fun e w' => ∃ t u c, e = .returned (.tuple #[.string t, .int .i64 u, errV m b c]) ∧ c ≤ 2 ∧ tell t u c = whole s ∧ Below w.heap.size w w' := by
  have em := hE.cm
  have eb := hE.cb
  have HC := Num.hide (fun W => Shelf.clone s W (by omega))
  clear hE
  unfold whole
  by_cases h60 : 60 < s.size
  · rw [if_pos h60]
    have d60 : decide ((60 : Int) < (s.size : Int)) = true := by simp; omega
    go_enter Tryz.func93, Tryz.ntmps93
    go_wp2
    go_region
    go_wp2
    go_ret3
    exact ⟨_, _, 2, rfl, by omega, rfl, (Below.refl _ w).drew⟩
  · rw [if_neg h60]
    have d60 : decide ((60 : Int) < (s.size : Int)) = false := by simp; omega
    go_enter Tryz.func93, Tryz.ntmps93
    go_wp2_with fail
    refine (HC.out _).mono ?_
    rintro e w1 ⟨rfl, hb⟩
    have HB := Num.hide hb
    clear hb
    go_wp2
    go_ret3
    exact ⟨_, _, 0, rfl, by omega, rfl, HB.out⟩
set_option maxRecDepth 100000 in
set_option maxHeartbeats 4000000 in
theorem ahead_impl (v : Value) (l : List Flds.Fld) (s : ByteArray) (c : Bool) (m b : Addr) (w : World) (h : Flds.Is w v l) (hl : Flds.bulk l ≤ 1048576) (hs : s.size ≤ 1048576) (hm : Lim w) (hS : Syn w) (hE : Errs m b w) :
    Calls Tryz.prog 48 #[v, .string s, .bool c] w fun e w' => ∃ t u k, e = .returned (.tuple #[.string t, .int .i64 u, errV m b k]) ∧ k ≤ 2 ∧ tell t u k = bodyOf l s c ∧ Below w.heap.size w w' := by
  have HG1 := Num.hide (Flds.get_impl v l teName w h (by omega))
  have HG2 := Num.hide (fun W (hb : Below w.heap.size w W) => Flds.get_impl v l clName W (Recs.is_below h hb) (by omega))
  have HW : Hid (∀ W, Below w.heap.size w W → Lim W ∧ Syn W ∧ Errs m b W) := fun W hb => ⟨hm.below hb, hS.below hb, hE.below hb⟩
  unfold bodyOf
  have z1 := get_small l teName hl
  have z2 := get_small l clName hl
  clear h hm hS hE
  generalize Flds.get l teName = te at HG1 z1
  generalize Flds.get l clName = cl at HG2 z2
  obtain ⟨te1, te2⟩ := te
  obtain ⟨cl1, cl2⟩ := cl
  simp only at z1 z2 HG1 HG2
  have HLo := Num.hide (fun W => Sign.lower_impl te1 W (by unfold maxLen; omega))
  have HU := Num.hide (fun W (g : Lim W ∧ Syn W ∧ Errs m b W) => join_impl s m b W hs g.1 g.2.1 g.2.2)
  have HCn := Num.hide (fun W (g : Errs m b W) => counted_impl cl1 s m b W z2 hs g)
  have HWh := Num.hide (fun W (g : Errs m b W) => whole_impl s m b W hs g)
  obtain ⟨r, hr⟩ : ∃ r, bodyBy (te1, te2) (cl1, cl2) s c = r := ⟨_, rfl⟩
  rw [hr]
  unfold bodyBy at hr
  simp only at hr
  have hcn : counted cl1 s = (if (Sign.secs cl1).2 = false ∨ 60 < (Sign.secs cl1).1 then bad else if (s.size : Int) < (Sign.secs cl1).1 then more else (s.extract 0 (Sign.secs cl1).1.toNat, (Sign.secs cl1).1, 0)) := rfl
  have hwh : whole s = (if 60 < s.size then bad else (s, (s.size : Int), 0)) := rfl
  rw [← hcn, ← hwh] at hr
  generalize Sign.lower te1 = lo at HLo hr
  generalize unchunk s = un at HU hr
  generalize counted cl1 s = cn at HCn hr
  generalize whole s = wh at HWh hr
  have HR := Num.hide hr
  clear hr hcn hwh
  unfold teName at HG1
  unfold clName at HG2
  go_enter Tryz.func48, Tryz.ntmps48
  go_wp2_with fail
  refine HG1.out.mono ?_
  rintro e w1 ⟨rfl, hb1⟩
  have B1 := Num.hide hb1
  clear hb1
  go_wp2_with fail
  refine (HG2.out _ B1.out).mono ?_
  rintro e w2 ⟨rfl, hb2⟩
  have B2 := Num.hide (B1.out.trans (hb2.mono B1.out.size))
  clear hb2 HG1 HG2
  cases te2 with
  | true =>
    rw [if_pos rfl] at HR
    cases cl2 with
    | true =>
      obtain rfl : bad = r := by rw [← HR.out, if_neg (by simp)]
      have eb := (HW.out _ B2.out).2.2.cb
      clear HR HW
      go_wp2
      go_region
      go_wp2
      go_ret3
      exact ⟨_, _, 2, rfl, by omega, rfl, B2.out.drew⟩
    | false =>
      by_cases hch : lo = chName
      · subst hch
        unfold chName at HLo
        obtain rfl : un = r := by rw [← HR.out, if_pos ⟨rfl, rfl⟩]
        clear HR
        go_wp2_with fail
        refine (HLo.out _).mono ?_
        rintro e w3 ⟨rfl, hb3⟩
        have B3 := Num.hide (B2.out.trans (hb3.mono B2.out.size))
        clear hb3
        go_wp2_with fail
        refine (HU.out _ (HW.out _ B3.out)).mono ?_
        rintro e w4 ⟨t, u, k, rfl, hk, ht, hb4⟩
        have B4 := Num.hide (B3.out.trans (hb4.mono B3.out.size))
        have HT := Num.hide ht
        clear hb4 ht
        go_wp2
        go_ret3
        exact ⟨_, _, k, rfl, hk, HT.out, B4.out⟩
      · obtain rfl : bad = r := by rw [← HR.out, if_neg (fun h => hch h.1)]
        have dq : (lo.toList == [99, 104, 117, 110, 107, 101, 100]) = false := by
          rw [beq_eq_false_iff_ne, ByteArray.toList_eq]
          intro e
          exact hch (ByteArray.ext (Array.toList_inj.1 e))
        clear HR hch
        go_wp2_with fail
        refine (HLo.out _).mono ?_
        rintro e w3 ⟨rfl, hb3⟩
        have B3 := Num.hide (B2.out.trans (hb3.mono B2.out.size))
        have eb := (HW.out _ B3.out).2.2.cb
        clear hb3 HW
        go_wp2
        go_region
        go_wp2
        go_ret3
        exact ⟨_, _, 2, rfl, by omega, rfl, B3.out.drew⟩
  | false =>
    rw [if_neg (by simp)] at HR
    cases cl2 with
    | true =>
      rw [if_pos rfl] at HR
      obtain rfl : cn = r := HR.out
      clear HR
      go_wp2_with fail
      refine (HCn.out _ (HW.out _ B2.out).2.2).mono ?_
      rintro e w4 ⟨t, u, k, rfl, hk, ht, hb4⟩
      have B4 := Num.hide (B2.out.trans (hb4.mono B2.out.size))
      have HT := Num.hide ht
      clear hb4 ht
      go_wp2
      go_ret3
      exact ⟨_, _, k, rfl, hk, HT.out, B4.out⟩
    | false =>
      rw [if_neg (by simp)] at HR
      cases c with
      | true =>
        rw [if_pos rfl] at HR
        obtain rfl : wh = r := HR.out
        clear HR
        go_wp2_with fail
        refine (HWh.out _ (HW.out _ B2.out).2.2).mono ?_
        rintro e w4 ⟨t, u, k, rfl, hk, ht, hb4⟩
        have B4 := Num.hide (B2.out.trans (hb4.mono B2.out.size))
        have HT := Num.hide ht
        clear hb4 ht
        go_wp2
        go_ret3
        exact ⟨_, _, k, rfl, hk, HT.out, B4.out⟩
      | false =>
        rw [if_neg (by simp)] at HR
        obtain rfl : (⟨#[]⟩, 0, 0) = r := HR.out
        clear HR HW
        go_wp2
        go_ret3
        exact ⟨_, _, 0, rfl, by omega, rfl, B2.out⟩
set_option maxRecDepth 100000 in
set_option maxHeartbeats 2000000 in
theorem body_impl (v : Value) (l : List Flds.Fld) (s : ByteArray) (c : Bool) (m b : Addr) (w : World) (h : Flds.Is w v l) (hl : Flds.bulk l ≤ 1048576) (hs : s.size ≤ 1048576) (hm : Lim w) (hS : Syn w) (hE : Errs m b w) :
    Calls Tryz.prog 15 #[v, .string s, .bool c] w fun e w' => e = .returned (.tuple #[.string (bodyOf l s c).1, .int .i64 (bodyOf l s c).2.1, .int .i64 (bodyOf l s c).2.2]) ∧ Below w.heap.size w w' := by
  have HJ := Num.hide (ahead_impl v l s c m b w h hl hs hm hS hE)
  have HE := Num.hide (fun W h => hE.below (w' := W) h)
  obtain ⟨⟨x, y, z⟩, hR⟩ : ∃ R, bodyOf l s c = R := ⟨_, rfl⟩
  rw [hR] at HJ ⊢
  clear hm hS hE hR h
  go_enter Tryz.func15, Tryz.ntmps15
  go_wp2_with fail
  refine HJ.out.mono ?_
  rintro e w1 ⟨t, u, k, rfl, hk, ht, hb⟩
  have HT := Num.hide (tell_impl t u k m b w1 hk (HE.out _ hb))
  rw [ht] at HT
  have HB := Num.hide hb
  clear hb ht HJ
  go_wp2_with fail
  refine HT.out.mono ?_
  rintro e w2 ⟨rfl, rfl⟩
  go_wp2
  go_ret3
  exact ⟨rfl, HB.out⟩
end Body
end Go.Proofs.YtkenmilglfnmbaaGreatDoor
