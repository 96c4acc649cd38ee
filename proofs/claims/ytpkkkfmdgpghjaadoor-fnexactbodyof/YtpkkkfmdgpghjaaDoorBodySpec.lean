/-
  BodyOf of the specification: where a body ends.
-/
import Derived.Test.YtpkkkfmdgpghjaaDoorBodyDef
import Derived.Test.YtpkkkfmdgpghjaaDoorUnchunkSpec
import Derived.Test.YtpkkkfmdgpghjaaDoorFldGetSpec
import Derived.Test.YtpkkkfmdgpghjaaDoorSecondsSpec
import Derived.Test.YtpkkkfmdgpghjaaDoorLowerSpec
namespace Go.Proofs.YtpkkkfmdgpghjaaDoor
open Go.RowKit
set_option linter.unusedVariables false
namespace Body

set_option maxRecDepth 100000 in
set_option maxHeartbeats 4000000 in
theorem body_spec (v : Value) (l : List Flds.Fld) (s : ByteArray) (c : Bool) (w : World) (h : Flds.Is w v l) (hl : Flds.bulk l ≤ 1048576) (hs : s.size ≤ 1048576) :
    Calls Tryd.prog 13 #[v, .string s, .bool c] w fun e w' => e = .returned (.tuple #[.string (bodyOf l s c).1, .int .i64 (bodyOf l s c).2.1, .int .i64 (bodyOf l s c).2.2]) ∧ Below w.heap.size w w' := by
  have HG1 := Num.hide (Flds.get_spec v l teName w h (by omega))
  have HG2 := Num.hide (Flds.get_spec v l clName w h (by omega))
  unfold bodyOf
  have z1 := get_small l teName hl
  have z2 := get_small l clName hl
  clear h
  generalize Flds.get l teName = te at HG1 z1
  generalize Flds.get l clName = cl at HG2 z2
  obtain ⟨te1, te2⟩ := te
  obtain ⟨cl1, cl2⟩ := cl
  simp only at z1 z2 HG1 HG2
  have HS := Num.hide (fun W => Sign.seconds_spec cl1 W (by unfold maxLen; omega))
  have HLo := Num.hide (fun W => Sign.lower_spec te1 W (by unfold maxLen; omega))
  have HU := Num.hide (fun W => unchunk_spec s W (by omega))
  have hsb := secs_bd cl1
  obtain ⟨r, hr⟩ : ∃ r, bodyBy (te1, te2) (cl1, cl2) s c = r := ⟨_, rfl⟩
  rw [hr]
  unfold bodyBy at hr
  simp only at hr
  generalize Sign.secs cl1 = sc at HS hsb hr
  obtain ⟨n, is⟩ := sc
  simp only at HS hsb hr
  generalize Sign.lower te1 = lo at HLo hr
  generalize unchunk s = un at HU hr
  have HR := Num.hide hr
  clear hr
  unfold teName at HG1
  unfold clName at HG2
  go_enter Tryd.func13, Tryd.ntmps13
  go_wp2_with fail
  refine HG1.out.mono ?_
  rintro e w1 ⟨rfl, rfl⟩
  go_wp2_with fail
  refine HG2.out.mono ?_
  rintro e w2 ⟨rfl, rfl⟩
  go_wp2_with fail
  refine (HS.out _).mono ?_
  rintro e w3 ⟨rfl, rfl⟩
  cases te2 with
  | true =>
    rw [if_pos rfl] at HR
    by_cases hch : lo = chName
    · subst hch
      unfold chName at HLo
      cases cl2 with
      | true =>
        obtain rfl : bad = r := by rw [← HR.out, if_neg (by simp)]
        clear HR
        go_wp2_with fail
        refine (HLo.out _).mono ?_
        rintro e w3 ⟨rfl, hb3⟩
        have HB3 := Num.hide hb3
        clear hb3
        go_wp2
        go_ret3
        exact ⟨rfl, HB3.out⟩
      | false =>
        obtain rfl : un = r := by rw [← HR.out, if_pos ⟨rfl, rfl⟩]
        clear HR
        go_wp2_with fail
        refine (HLo.out _).mono ?_
        rintro e w3 ⟨rfl, hb3⟩
        have HB3 := Num.hide hb3
        clear hb3
        go_wp2_with fail
        refine (HU.out _).mono ?_
        rintro e w4 ⟨rfl, rfl⟩
        go_wp2
        go_ret3
        exact ⟨rfl, HB3.out⟩
    · obtain rfl : bad = r := by rw [← HR.out, if_neg (fun h => hch h.1)]
      have dq : (lo.toList == [99, 104, 117, 110, 107, 101, 100]) = false := by
        rw [beq_eq_false_iff_ne, ByteArray.toList_eq]
        intro e
        exact hch (ByteArray.ext (Array.toList_inj.1 e))
      clear HR hch
      go_wp2_with fail
      refine (HLo.out _).mono ?_
      rintro e w3 ⟨rfl, hb3⟩
      have HB3 := Num.hide hb3
      clear hb3
      go_wp2
      go_ret3
      exact ⟨rfl, HB3.out⟩
  | false =>
    rw [if_neg (by simp)] at HR
    cases cl2 with
    | true =>
      rw [if_pos rfl] at HR
      cases is with
      | false =>
        obtain rfl : bad = r := by rw [← HR.out, if_pos (.inl rfl)]
        clear HR
        go_wp2
        go_ret3
        exact ⟨rfl, Below.refl _ _⟩
      | true =>
        by_cases h60 : 60 < n
        · obtain rfl : bad = r := by rw [← HR.out, if_pos (.inr h60)]
          clear HR
          go_wp2
          go_ret3
          exact ⟨rfl, Below.refl _ _⟩
        · have d60 : decide (60 < n) = false := by rw [decide_eq_false_iff_not]; exact h60
          by_cases hsn : (s.size : Int) < n
          · obtain rfl : more = r := by rw [← HR.out, if_neg (by simp; omega), if_pos hsn]
            clear HR
            go_wp2
            go_ret3
            exact ⟨rfl, Below.refl _ _⟩
          · have dsn : decide ((s.size : Int) < n) = false := by rw [decide_eq_false_iff_not]; exact hsn
            obtain rfl : (s.extract 0 n.toNat, n, 0) = r := by rw [← HR.out, if_neg (by simp; omega), if_neg hsn]
            clear HR
            go_wp2
            go_ret3
            exact ⟨rfl, Below.refl _ _⟩
    | false =>
      rw [if_neg (by simp)] at HR
      cases c with
      | true =>
        rw [if_pos rfl] at HR
        by_cases h60 : (60 : Int) < (s.size : Int)
        · obtain rfl : bad = r := by rw [← HR.out, if_pos (by omega)]
          clear HR
          go_wp2
          go_ret3
          exact ⟨rfl, Below.refl _ _⟩
        · have d60 : decide ((60 : Int) < (s.size : Int)) = false := by rw [decide_eq_false_iff_not]; exact h60
          obtain rfl : (s, (s.size : Int), 0) = r := by rw [← HR.out, if_neg (by omega)]
          clear HR
          go_wp2
          go_ret3
          exact ⟨rfl, Below.refl _ _⟩
      | false =>
        obtain rfl : (⟨#[]⟩, 0, 0) = r := by rw [← HR.out, if_neg (by simp)]
        clear HR
        go_wp2
        go_ret3
        exact ⟨rfl, Below.refl _ _⟩
end Body
end Go.Proofs.YtpkkkfmdgpghjaaDoor
