/-
  LowerSpec: Lower of the specification: what the call returns, for every text; what was there stays.
  BodySpec: BodyOf of the specification: where a body ends.
-/
import Derived.Test.YtkenmilglfnmbaaDoorPal
import Derived.Test.YtkenmilglfnmbaaDoorPbf
import Derived.Test.YtkenmilglfnmbaaDoorPai
import Derived.Test.YtkenmilglfnmbaaDoorPbg
import Derived.Test.YtkenmilglfnmbaaDoorPbh
namespace Go.Proofs.YtkenmilglfnmbaaDoor
open Go.RowKit
set_option linter.unusedVariables false
namespace Sign

theorem u8_add32 (c : Int) (h0 : 65 ≤ c) (h1 : c ≤ 90) : IntKind.u8.wrap (c + 32) = c + 32 := by
  rw [IntKind.wrap_u8]; omega

set_option maxRecDepth 100000 in
set_option maxHeartbeats 1000000 in
theorem lower_spec (s : ByteArray) (w : World) (hs : s.size ≤ maxLen) : Calls Tryd.prog 19 #[.string s] w fun e w' => e = .returned (.string (lower s)) ∧ Below w.heap.size w w' := by
  unfold maxLen at hs
  have hconv := Lib.run_convert_string_bytes (P := Tryd.prog) w 9 54 5 s (u := .string) Tryd.underlying9 Tryd.underlying54 Tryd.underlying5
  have hP := Num.hide (bytes_part w 5 s)
  have hB := Num.hide (bytes_below w 5 s)
  generalize Lib.bytesWorld w 5 s = W0 at hconv hP hB
  generalize grownCap w s.size 0 5 = cap at hconv
  go_enter Tryd.func19, Tryd.ntmps19
  go_wp2
  clear hconv
  go_loopw [4] (fun i W => ∃ k : Nat, k ≤ s.size ∧ i = .int .i64 k ∧ Hid (Part w.heap.size s k W) ∧ Hid (Below w.heap.size w W)) (fun i _ => s.size - (intOf i).toNat)
  case atStart => exact ⟨0, by omega, rfl, hP, hB⟩
  case round =>
    clear hP hB
    obtain ⟨k, hk, rfl, hP, hB⟩ := hrel
    by_cases hlt : k < s.size
    · have hcell := hP.out.todo k hlt (Nat.le_refl _)
      have hfree := hP.out.free k hlt
      by_cases h1 : 65 ≤ (s[k].toNat : Int)
      · have d1 : decide (65 ≤ (s[k].toNat : Int)) = true := decide_eq_true h1
        by_cases h2 : (s[k].toNat : Int) ≤ 90
        · have d2 : decide ((s[k].toNat : Int) ≤ 90) = true := decide_eq_true h2
          have hP2 := Num.hide (part_up hP.out hlt ⟨h1, h2⟩)
          have hw := u8_add32 _ h1 h2
          go_wp2
          go_roundw
          case rel => exact ⟨k + 1, by omega, by go_num, hP2, Num.hide (hB.out.setCell (Nat.le_refl _) _)⟩
          case measure => simp [intOf]; omega
        · have d2 : decide ((s[k].toNat : Int) ≤ 90) = false := decide_eq_false h2
          have hP2 := Num.hide (part_no hP.out hlt (fun h => h2 h.2))
          go_wp2
          go_roundw
          case rel => exact ⟨k + 1, by omega, by go_num, hP2, hB⟩
          case measure => simp [intOf]; omega
      · have d1 : decide (65 ≤ (s[k].toNat : Int)) = false := decide_eq_false h1
        have hP2 := Num.hide (part_no hP.out hlt (fun h => h1 h.1))
        go_wp2
        go_roundw
        case rel => exact ⟨k + 1, by omega, by go_num, hP2, hB⟩
        case measure => simp [intOf]; omega
    · obtain rfl : k = s.size := by omega
      have hback := part_back hP.out cap
      go_wp2
      go_ret
      exact ⟨rfl, hB.out⟩
end Sign
end Go.Proofs.YtkenmilglfnmbaaDoor
namespace Go.Proofs.YtkenmilglfnmbaaDoor
open Go.RowKit
set_option linter.unusedVariables false
namespace Body

set_option maxRecDepth 100000 in
set_option maxHeartbeats 4000000 in
theorem body_spec (v : Value) (l : List Flds.Fld) (s : ByteArray) (c : Bool) (w : World) (h : Flds.Is w v l) (hl : Flds.bulk l ≤ 1048576) (hs : s.size ≤ 1048576) :
    Calls Tryd.prog 8 #[v, .string s, .bool c] w fun e w' => e = .returned (.tuple #[.string (bodyOf l s c).1, .int .i64 (bodyOf l s c).2.1, .int .i64 (bodyOf l s c).2.2]) ∧ Below w.heap.size w w' := by
  have HG1 := Num.hide (Flds.get_spec v l teName w h (by omega))
  have HG2 := Num.hide (Flds.get_spec v l clName w h (by omega))
  unfold bodyOf
  have z1 := get_small l teName hl
  have z2 := get_small l clName hl
  clear h
  generalize Flds.get l teName = te at HG1 z1
  generalize Flds.get l clName = cl at HG2 z2
  obtain ⟨te1, te2⟩ := te
  obtain ⟨cl1, cl2⟩ := cl
  simp only at z1 z2 HG1 HG2
  have HS := Num.hide (fun W => Sign.seconds_spec cl1 W (by unfold maxLen; omega))
  have HLo := Num.hide (fun W => Sign.lower_spec te1 W (by unfold maxLen; omega))
  have HU := Num.hide (fun W => unchunk_spec s W (by omega))
  have hsb := secs_bd cl1
  obtain ⟨r, hr⟩ : ∃ r, bodyBy (te1, te2) (cl1, cl2) s c = r := ⟨_, rfl⟩
  rw [hr]
  unfold bodyBy at hr
  simp only at hr
  generalize Sign.secs cl1 = sc at HS hsb hr
  obtain ⟨n, is⟩ := sc
  simp only at HS hsb hr
  generalize Sign.lower te1 = lo at HLo hr
  generalize unchunk s = un at HU hr
  have HR := Num.hide hr
  clear hr
  unfold teName at HG1
  unfold clName at HG2
  go_enter Tryd.func8, Tryd.ntmps8
  go_wp2_with fail
  refine HG1.out.mono ?_
  rintro e w1 ⟨rfl, rfl⟩
  go_wp2_with fail
  refine HG2.out.mono ?_
  rintro e w2 ⟨rfl, rfl⟩
  go_wp2_with fail
  refine (HS.out _).mono ?_
  rintro e w3 ⟨rfl, rfl⟩
  cases te2 with
  | true =>
    rw [if_pos rfl] at HR
    by_cases hch : lo = chName
    · subst hch
      unfold chName at HLo
      cases cl2 with
      | true =>
        obtain rfl : bad = r := by rw [← HR.out, if_neg (by simp)]
        clear HR
        go_wp2_with fail
        refine (HLo.out _).mono ?_
        rintro e w3 ⟨rfl, hb3⟩
        have HB3 := Num.hide hb3
        clear hb3
        go_wp2
        go_ret3
        exact ⟨rfl, HB3.out⟩
      | false =>
        obtain rfl : un = r := by rw [← HR.out, if_pos ⟨rfl, rfl⟩]
        clear HR
        go_wp2_with fail
        refine (HLo.out _).mono ?_
        rintro e w3 ⟨rfl, hb3⟩
        have HB3 := Num.hide hb3
        clear hb3
        go_wp2_with fail
        refine (HU.out _).mono ?_
        rintro e w4 ⟨rfl, rfl⟩
        go_wp2
        go_ret3
        exact ⟨rfl, HB3.out⟩
    · obtain rfl : bad = r := by rw [← HR.out, if_neg (fun h => hch h.1)]
      have dq : (lo.toList == [99, 104, 117, 110, 107, 101, 100]) = false := by
        rw [beq_eq_false_iff_ne, ByteArray.toList_eq]
        intro e
        exact hch (ByteArray.ext (Array.toList_inj.1 e))
      clear HR hch
      go_wp2_with fail
      refine (HLo.out _).mono ?_
      rintro e w3 ⟨rfl, hb3⟩
      have HB3 := Num.hide hb3
      clear hb3
      go_wp2
      go_ret3
      exact ⟨rfl, HB3.out⟩
  | false =>
    rw [if_neg (by simp)] at HR
    cases cl2 with
    | true =>
      rw [if_pos rfl] at HR
      cases is with
      | false =>
        obtain rfl : bad = r := by rw [← HR.out, if_pos (.inl rfl)]
        clear HR
        go_wp2
        go_ret3
        exact ⟨rfl, Below.refl _ _⟩
      | true =>
        by_cases h60 : 60 < n
        · obtain rfl : bad = r := by rw [← HR.out, if_pos (.inr h60)]
          clear HR
          go_wp2
          go_ret3
          exact ⟨rfl, Below.refl _ _⟩
        · have d60 : decide (60 < n) = false := by rw [decide_eq_false_iff_not]; exact h60
          by_cases hsn : (s.size : Int) < n
          · obtain rfl : more = r := by rw [← HR.out, if_neg (by simp; omega), if_pos hsn]
            clear HR
            go_wp2
            go_ret3
            exact ⟨rfl, Below.refl _ _⟩
          · have dsn : decide ((s.size : Int) < n) = false := by rw [decide_eq_false_iff_not]; exact hsn
            obtain rfl : (s.extract 0 n.toNat, n, 0) = r := by rw [← HR.out, if_neg (by simp; omega), if_neg hsn]
            clear HR
            go_wp2
            go_ret3
            exact ⟨rfl, Below.refl _ _⟩
    | false =>
      rw [if_neg (by simp)] at HR
      cases c with
      | true =>
        rw [if_pos rfl] at HR
        by_cases h60 : (60 : Int) < (s.size : Int)
        · obtain rfl : bad = r := by rw [← HR.out, if_pos (by omega)]
          clear HR
          go_wp2
          go_ret3
          exact ⟨rfl, Below.refl _ _⟩
        · have d60 : decide ((60 : Int) < (s.size : Int)) = false := by rw [decide_eq_false_iff_not]; exact h60
          obtain rfl : (s, (s.size : Int), 0) = r := by rw [← HR.out, if_neg (by omega)]
          clear HR
          go_wp2
          go_ret3
          exact ⟨rfl, Below.refl _ _⟩
      | false =>
        obtain rfl : (⟨#[]⟩, 0, 0) = r := by rw [← HR.out, if_neg (by simp)]
        clear HR
        go_wp2
        go_ret3
        exact ⟨rfl, Below.refl _ _⟩
end Body
end Go.Proofs.YtkenmilglfnmbaaDoor
