/-
  UnchunkSpec: Unchunk of the specification: a body in pieces, read.
-/
import Derived.Test.YtkenmilglfnmbaaDoorPad
import Derived.Test.YtkenmilglfnmbaaDoorPag
import Derived.Test.YtkenmilglfnmbaaDoorPah
namespace Go.Proofs.YtkenmilglfnmbaaDoor
open Go.RowKit
set_option linter.unusedVariables false
namespace Body
open Line (byteAt byteAt_eq)

set_option maxRecDepth 100000 in
set_option maxHeartbeats 4000000 in
theorem unchunk_spec (s : ByteArray) (w : World) (hs : s.size ≤ 1099511627776) :
    Calls Tryd.prog 5 #[.string s] w fun e w' => e = .returned (.tuple #[.string (unchunk s).1, .int .i64 (unchunk s).2.1, .int .i64 (unchunk s).2.2]) ∧ w = w' := by
  obtain ⟨r, hr⟩ : ∃ r, unchunk s = r := ⟨_, rfl⟩
  rw [hr]
  have HR := Num.hide hr
  clear hr
  go_enter Tryd.func5, Tryd.ntmps5
  go_wp2
  go_loop [5, 6] (fun ov av => ∃ (a : Nat) (out : ByteArray), av = .int .i64 (a : Int) ∧ ov = .string out ∧ Hid (UnAt s a out)) (fun _ av => s.size - (intOf av).toNat)
  case atStart => exact ⟨0, ⟨#[]⟩, rfl, rfl, un_start s⟩
  case round =>
    obtain ⟨a, out, rfl, rfl, HA⟩ := hrel
    have hle := HA.out.le
    have hos := HA.out.small
    have HL := Num.hide (Line.line_spec s a w (by omega) hle)
    cases he : Line.eol s a with
    | none =>
      have hl : Line.lineOf s a = (⟨#[]⟩, -1) := by unfold Line.lineOf; rw [he]
      rw [hl] at HL
      by_cases h8 : (8 : Int) < (s.size : Int) - (a : Int)
      · obtain rfl : r = bad := by rw [← HR.out]; exact un_long HA.out he (by omega)
        clear hl he HR HA
        go_wp2_with fail
        refine HL.out.mono ?_
        rintro e w1 ⟨rfl, rfl⟩
        go_wp2
        go_ret3
        exact ⟨rfl, rfl⟩
      · have d8 : decide ((8 : Int) < (s.size : Int) - (a : Int)) = false := by rw [decide_eq_false_iff_not]; exact h8
        obtain rfl : r = more := by rw [← HR.out]; exact un_more HA.out he (by omega)
        clear hl he HR HA
        go_wp2_with fail
        refine HL.out.mono ?_
        rintro e w1 ⟨rfl, rfl⟩
        go_wp2
        go_ret3
        exact ⟨rfl, rfl⟩
    | some i =>
      obtain ⟨hin1, hin2⟩ := Line.eol_in he
      have hl : Line.lineOf s a = (s.extract a i, (i : Int) + 2) := by unfold Line.lineOf; rw [he]
      rw [hl] at HL
      clear hl
      have HX := Num.hide (readHex_spec (s.extract a i) w (by unfold maxLen; rw [ByteArray.size_extract]; omega))
      cases hx : readHex (s.extract a i) with
      | none =>
        obtain ⟨e1, e2⟩ := rh_none hx
        rw [e1, e2] at HX
        obtain rfl : r = bad := by rw [← HR.out]; exact un_nohex HA.out he hx
        clear e1 e2 hx he HR HA
        generalize s.extract a i = t at HL HX
        go_wp2_with fail
        refine HL.out.mono ?_
        rintro e w1 ⟨rfl, rfl⟩
        go_wp2_with fail
        refine HX.out.mono ?_
        rintro e w1 ⟨rfl, rfl⟩
        go_wp2
        go_ret3
        exact ⟨rfl, rfl⟩
      | some n0 =>
        have hnb := readHex_bd hx
        obtain ⟨n, rfl⟩ := Int.eq_ofNat_of_zero_le hnb.1
        obtain ⟨e1, e2⟩ := rh_some hx
        rw [e1, e2] at HX
        have hnn : ((n : Int)).toNat = n := rfl
        by_cases h60 : (60 : Int) < (out.size : Int) + (n : Int)
        · obtain rfl : r = bad := by rw [← HR.out]; exact un_great HA.out he hx (by omega)
          clear e1 e2 hx he HR HA hnn
          generalize s.extract a i = t at HL HX
          go_wp2_with fail
          refine HL.out.mono ?_
          rintro e w1 ⟨rfl, rfl⟩
          go_wp2_with fail
          refine HX.out.mono ?_
          rintro e w1 ⟨rfl, rfl⟩
          go_wp2
          go_ret3
          exact ⟨rfl, rfl⟩
        · have d60 : decide ((60 : Int) < (out.size : Int) + (n : Int)) = false := by rw [decide_eq_false_iff_not]; exact h60
          by_cases hsh : (s.size : Int) < (i : Int) + 2 + (n : Int) + 2
          · obtain rfl : r = more := by rw [← HR.out]; exact un_short HA.out he hx (by omega) (by omega)
            clear e1 e2 hx he HR HA hnn
            generalize s.extract a i = t at HL HX
            go_wp2_with fail
            refine HL.out.mono ?_
            rintro e w1 ⟨rfl, rfl⟩
            go_wp2_with fail
            refine HX.out.mono ?_
            rintro e w1 ⟨rfl, rfl⟩
            go_wp2
            go_ret3
            exact ⟨rfl, rfl⟩
          · have dsh : decide ((s.size : Int) < (i : Int) + 2 + (n : Int) + 2) = false := by rw [decide_eq_false_iff_not]; exact hsh
            have q1 : i + 2 + n < s.size := by omega
            have q2 : i + 2 + n + 1 < s.size := by omega
            have b1 := byteAt_eq s (i + 2 + n) q1
            have b2 := byteAt_eq s (i + 2 + n + 1) q2
            have HBt := Num.hide (fun (h : ¬ (byteAt s (i + 2 + n) = 13 ∧ byteAt s (i + 2 + n + 1) = 10)) => un_noend HA.out he hx (by omega) (by omega) h)
            have HDn : Hid ((byteAt s (i + 2 + n) = 13 ∧ byteAt s (i + 2 + n + 1) = 10) → n = 0 → unchunk s = (out ++ s.extract (i + 2) (i + 2 + n), ((i + 2 + n + 2 : Nat) : Int), 0)) := fun h h0 => by subst h0; exact un_done HA.out he hx (by omega) (by omega) h
            have HNx := Num.hide (fun (h : byteAt s (i + 2 + n) = 13 ∧ byteAt s (i + 2 + n + 1) = 10) (h0 : ¬ (n : Int) = 0) => un_next HA.out he hx (by omega) (by omega) h h0)
            rw [b1, b2] at HBt HDn HNx
            clear e1 e2 hx he HA hnn b1 b2
            generalize s.extract a i = t at HL HX
            go_wp2_with fail
            refine HL.out.mono ?_
            rintro e w1 ⟨rfl, rfl⟩
            go_wp2_with fail
            refine HX.out.mono ?_
            rintro e w1 ⟨rfl, rfl⟩
            have hi1 : ((i : Int) + 2 + (n : Int)).toNat = i + 2 + n := by omega
            have hi2 : ((i : Int) + 2 + (n : Int) + 1).toNat = i + 2 + n + 1 := by omega
            have hi3 : ((i : Int) + 2).toNat = i + 2 := by omega
            have l1 : (0 : Int) ≤ (i : Int) + 2 := by omega
            have l2 : (i : Int) + 2 ≤ (i : Int) + 2 + (n : Int) := by omega
            have l3 : (i : Int) + 2 + (n : Int) ≤ (s.size : Int) := by omega
            by_cases c1 : (s[i + 2 + n]).toNat = 13
            · have f1 : (((s[i + 2 + n]).toNat : Int) != 13) = false := by rw [bne_eq_false_iff_eq]; omega
              by_cases c2 : (s[i + 2 + n + 1]).toNat = 10
              · have f2 : (((s[i + 2 + n + 1]).toNat : Int) != 10) = false := by rw [bne_eq_false_iff_eq]; omega
                have hxs : (s.extract (i + 2) (i + 2 + n)).size = n := by rw [ByteArray.size_extract]; omega
                by_cases h0 : n = 0
                · have hr := HDn.out ⟨c1, c2⟩ h0
                  rw [HR.out] at hr
                  subst hr
                  have d0 : ((n : Int) == 0) = true := by rw [beq_iff_eq]; omega
                  clear HBt HDn HNx HR c1 c2 h0
                  go_wp2
                  go_ret3
                  exact ⟨by simp, rfl⟩
                · have d0 : ((n : Int) == 0) = false := by rw [beq_eq_false_iff_ne]; omega
                  have HA2 := Num.hide (HNx.out ⟨c1, c2⟩ (by omega))
                  clear HBt HDn HNx c1 c2
                  go_wp2
                  go_round
                  case rel => exact ⟨i + 2 + n + 2, _, by go_num, rfl, HA2⟩
                  case measure => simp [intOf]; omega
              · have f2 : (((s[i + 2 + n + 1]).toNat : Int) != 10) = true := by rw [bne_iff_ne]; omega
                obtain rfl : r = bad := by rw [← HR.out]; exact HBt.out (fun h => c2 h.2)
                clear HBt HDn HNx HR c1 c2
                go_wp2
                go_ret3
                exact ⟨rfl, rfl⟩
            · have f1 : (((s[i + 2 + n]).toNat : Int) != 13) = true := by rw [bne_iff_ne]; omega
              obtain rfl : r = bad := by rw [← HR.out]; exact HBt.out (fun h => c1 h.1)
              clear HBt HDn HNx HR c1
              go_wp2
              go_ret3
              exact ⟨rfl, rfl⟩
theorem unchunk_spec_b (s : ByteArray) (w : World) (hs : s.size ≤ 1099511627776) :
    Calls Tryd.prog 5 #[.string s] w fun e w' => e = .returned (.tuple #[.string (unchunk s).1, .int .i64 (unchunk s).2.1, .int .i64 (unchunk s).2.2]) ∧ Below w.heap.size w w' :=
  (unchunk_spec s w hs).mono fun e w' ⟨h1, h2⟩ => ⟨h1, by subst h2; exact Below.refl _ _⟩
end Body
end Go.Proofs.YtkenmilglfnmbaaDoor
