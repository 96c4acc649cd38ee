/-
  DateImpl: ShowDate of the program: the text of a date; what was there stays.
-/
import Derived.Test.YtihiljickefanaaDoorQbj
import Derived.Test.YtihiljickefanaaDoorQan
import Derived.Test.YtihiljickefanaaDoorQbk
import Derived.Test.YtihiljickefanaaDoorQbl
import Derived.Laws.Pointers
import Derived.Laws.Entries
namespace Go.Proofs.YtihiljickefanaaDoor
open Go.RowKit
set_option linter.unusedVariables false
namespace Date

/-- a box of three numbers, of the call's own; the library's table lies as it is laid; what was there stays -/
abbrev Box (w : World) (b : Nat) (x y z : Int) (W : World) : Prop :=
  W.cell? ⟨b, 0, none⟩ = some (.int .i64 x) ∧ W.cell? ⟨b, 1, none⟩ = some (.int .i64 y) ∧ W.cell? ⟨b, 2, none⟩ = some (.int .i64 z) ∧ Below w.heap.size w W ∧ Dec.Tab W
theorem Box.step {w : World} {b : Nat} {x y z : Int} {W W' : World} (h : Box w b x y z W) (hb : Below W.heap.size W W') : Box w b x y z W' := by
  obtain ⟨h0, h1, h2, h3, h4⟩ := h
  have hlt : b < W.heap.size := Dec.lt_of_cell h0
  exact ⟨(hb.cell (p := ⟨b, 0, none⟩) hlt).trans h0, (hb.cell (p := ⟨b, 1, none⟩) hlt).trans h1, (hb.cell (p := ⟨b, 2, none⟩) hlt).trans h2, h3.trans (hb.mono h3.size), h4.below hb⟩
theorem Box.first {w W : World} {x y z : Int} (hb : Below w.heap.size w W) (ht : Dec.Tab w) : Box w W.heap.size x y z (W.alloc (.cells #[.int .i64 x, .int .i64 y, .int .i64 z] 79)).drew := by
  have hb2 : Below w.heap.size w (W.alloc (.cells #[.int .i64 x, .int .i64 y, .int .i64 z] 79)).drew := (hb.alloc hb.size _).drew
  exact ⟨by simp, by simp, by simp, hb2, ht.below hb2⟩
theorem nameAt_b (t : ByteArray) (i : Nat) (w : World) (hi : (i + 1) * 3 ≤ t.size) (hs : t.size ≤ 100) : Calls Tryd.prog 57 #[.string t, .int .i64 i] w fun e w' => e = .returned (.string (t.extract (i * 3) ((i + 1) * 3))) ∧ Below w.heap.size w w' :=
  (nameAt_impl t i w hi hs).mono fun e w' ⟨h1, h2⟩ => ⟨h1, by subst h2; exact Below.refl _ _⟩
set_option maxRecDepth 100000 in
set_option maxHeartbeats 8000000 in
theorem date_impl (n : Int) (w : World) (ht : Dec.Tab w) : Calls Tryd.prog 41 #[.int .i64 n] w fun e w' => e = .returned (.string (shown n)) ∧ Below w.heap.size w w' := by
  by_cases h1 : 0 ≤ n ∧ n ≤ 2000000000
  · have hsh : shown n = text n := if_pos h1
    rw [hsh]
    obtain ⟨r, hr⟩ : ∃ r, text n = r := ⟨_, rfl⟩
    rw [hr]
    have HR := Num.hide hr
    have HT := Num.hide ht
    have HD := Num.hide (fun W => dateOf_impl (n / 86400) W (by omega) (by have := ysum_bd 68; omega))
    have f1 : decide (n < 0) = false := by rw [decide_eq_false_iff_not]; omega
    have f2 : decide (2000000000 < n) = false := by rw [decide_eq_false_iff_not]; omega
    obtain ⟨h1a, h1b⟩ := h1
    clear hr ht hsh
    go_enter Tryd.func41, Tryd.ntmps41
    go_wp2_with fail
    refine (HD.out _).mono ?_
    rintro e W1 ⟨j, k, d, rfl, hp, hb⟩
    have HP := Num.hide hp
    have HB1 := Num.hide hb
    clear hb hp HD
    unfold arr
    have HW := Num.hide (fun W => nameAt_impl wnames ((3 + n / 86400) % 7).toNat W (by show _ ≤ 21; omega) (by decide))
    rw [week_cut _ (by omega)] at HW
    rw [show ((((3 + n / 86400) % 7).toNat : Nat) : Int) = (3 + n / 86400) % 7 by omega] at HW
    unfold wnames at HW
    go_wp2_with fail
    refine (HW.out _).mono ?_
    rintro e W2 ⟨rfl, rfl⟩
    clear HW
    have hk := HP.out.hk
    have hj := HP.out.hj
    have hd0 := HP.out.h0
    have hd1 := HP.out.h1
    have hml := mlen_bd (1970 + (j : Int)) k (by omega)
    have HA := Num.hide (fun W h => two_impl (d + 1) W (by omega) (by omega) h)
    have HN := Num.hide (fun W => nameAt_b mnames k W (by show _ ≤ 36; omega) (by decide))
    rw [name_cut k (by omega)] at HN
    unfold mnames at HN
    have HY : Hid (∀ W, Dec.Tab W → Calls Tryd.prog 59 #[.int .i64 (1970 + (j : Int))] W fun e w' => e = .returned (.string (dec (1970 + (j : Int)))) ∧ Below W.heap.size W w') := fun W h => Dec.impl_any (1970 + (j : Int)) W (by omega) (by omega) h
    have HF := Num.hide (Box.first (x := 1970 + (j : Int)) (y := (k : Int) + 1) (z := d + 1) HB1.out HT.out)
    have sn := name_size k (by omega)
    have st := size_two (d + 1)
    have sd : (dec (1970 + (j : Int))).size = 4 := by rw [dec_four j hj]; rfl
    clear hd1
    go_wp2_with fail
    refine wp_region_held_drew (S := Box w W1.heap.size (1970 + (j : Int)) ((k : Int) + 1) (d + 1)) (by kernel_rfl) HF.out (fun hHeld => ?_)
    refine Reg.take (i := 0) (d := 24) (v := ?_) rfl rfl (by kernel_rfl) (by kernel_rfl) (by kernel_rfl) (fun _ _ _ h => h) (by rfl) ?_ hHeld ?_
    rotate_left
    · rintro W ⟨g0, g1, g2, g3, g4⟩
      first | (go_simp; done) | (go_simp; with_reducible rfl)
    simp only [Act.put, List.setIfInBounds_toArray, List.set_cons_zero, List.set_cons_succ]
    refine Reg.take (i := 1) (d := 25) (v := ?_) rfl rfl (by kernel_rfl) (by kernel_rfl) (by kernel_rfl) (fun _ _ _ h => h) (by rfl) ?_ hHeld ?_
    rotate_left
    · rintro W ⟨g0, g1, g2, g3, g4⟩
      first | (go_simp; done) | (go_simp; with_reducible rfl)
    simp only [Act.put, List.setIfInBounds_toArray, List.set_cons_zero, List.set_cons_succ]
    refine Reg.take (i := 4) (d := 28) (v := ?_) rfl rfl (by kernel_rfl) (by kernel_rfl) (by kernel_rfl) (fun _ _ _ h => h) (by rfl) ?_ hHeld ?_
    rotate_left
    · rintro W ⟨g0, g1, g2, g3, g4⟩
      first | (go_simp; done) | (go_simp; with_reducible rfl)
    simp only [Act.put, List.setIfInBounds_toArray, List.set_cons_zero, List.set_cons_succ]
    refine Reg.take (i := 5) (d := 29) (v := ?_) rfl rfl (by kernel_rfl) (by kernel_rfl) (by kernel_rfl) (fun _ _ _ h => h) (by rfl) ?_ hHeld ?_
    rotate_left
    · rintro W ⟨g0, g1, g2, g3, g4⟩
      first | (go_simp; done) | (go_simp; with_reducible rfl)
    simp only [Act.put, List.setIfInBounds_toArray, List.set_cons_zero, List.set_cons_succ]
    refine Reg.take (i := 6) (d := 30) (v := ?_) rfl rfl (by kernel_rfl) (by kernel_rfl) (by kernel_rfl) (fun _ _ _ h => h) (by rfl) ?_ hHeld ?_
    rotate_left
    · rintro W ⟨g0, g1, g2, g3, g4⟩
      first | (go_simp; done) | (go_simp; with_reducible rfl)
    simp only [Act.put, List.setIfInBounds_toArray, List.set_cons_zero, List.set_cons_succ]
    refine Reg.take (i := 10) (d := 34) (v := ?_) rfl rfl (by kernel_rfl) (by kernel_rfl) (by kernel_rfl) (fun _ _ _ h => h) (by rfl) ?_ hHeld ?_
    rotate_left
    · rintro W ⟨g0, g1, g2, g3, g4⟩
      first | (go_simp; done) | (go_simp; with_reducible rfl)
    simp only [Act.put, List.setIfInBounds_toArray, List.set_cons_zero, List.set_cons_succ]
    refine Reg.take (i := 11) (d := 35) (v := ?_) rfl rfl (by kernel_rfl) (by kernel_rfl) (by kernel_rfl) (fun _ _ _ h => h) (by rfl) ?_ hHeld ?_
    rotate_left
    · rintro W ⟨g0, g1, g2, g3, g4⟩
      first | (go_simp; done) | (go_simp; with_reducible rfl)
    simp only [Act.put, List.setIfInBounds_toArray, List.set_cons_zero, List.set_cons_succ]
    refine Reg.call (i := 2) rfl (by kernel_rfl) (by rfl) (fun K hK => ?_)
    go_wp2_with (first | (go_at_call 58; refine (HA.out _ hHeld.2.2.2.2).mono ?_; rintro e W3 ⟨rfl, hb3⟩))
    refine hK.out _ _ ?_ (fun hHeld2 => ?_)
    · exact Box.step hHeld hb3
    clear hK K
    replace hHeld := hHeld2
    clear hHeld2
    refine Reg.take (i := 3) (d := 27) (v := ?_) rfl rfl (by kernel_rfl) (by kernel_rfl) (by kernel_rfl) (fun _ _ _ h => h) (by rfl) ?_ hHeld ?_
    rotate_left
    · rintro W ⟨g0, g1, g2, g3, g4⟩
      first | (go_simp; done) | (go_simp; with_reducible rfl)
    simp only [Act.put, List.setIfInBounds_toArray, List.set_cons_zero, List.set_cons_succ]
    refine Reg.call (i := 7) rfl (by kernel_rfl) (by rfl) (fun K hK => ?_)
    go_wp2_with (first | (go_at_call 57; refine (HN.out _).mono ?_; rintro e W4 ⟨rfl, hb4⟩))
    refine hK.out _ _ ?_ (fun hHeld2 => ?_)
    · exact Box.step hHeld hb4
    clear hK K
    replace hHeld := hHeld2
    clear hHeld2
    refine Reg.take (i := 8) (d := 32) (v := ?_) rfl rfl (by kernel_rfl) (by kernel_rfl) (by kernel_rfl) (fun _ _ _ h => h) (by rfl) ?_ hHeld ?_
    rotate_left
    · rintro W ⟨g0, g1, g2, g3, g4⟩
      first | (go_simp; done) | (go_simp; with_reducible rfl)
    simp only [Act.put, List.setIfInBounds_toArray, List.set_cons_zero, List.set_cons_succ]
    refine Reg.take (i := 9) (d := 33) (v := ?_) rfl rfl (by kernel_rfl) (by kernel_rfl) (by kernel_rfl) (fun _ _ _ h => h) (by rfl) ?_ hHeld ?_
    rotate_left
    · rintro W ⟨g0, g1, g2, g3, g4⟩
      first | (go_simp; done) | (go_simp; with_reducible rfl)
    simp only [Act.put, List.setIfInBounds_toArray, List.set_cons_zero, List.set_cons_succ]
    refine Reg.call (i := 12) rfl (by kernel_rfl) (by rfl) (fun K hK => ?_)
    go_wp2_with (first | (go_at_call 59; refine (HY.out _ hHeld.2.2.2.2).mono ?_; rintro e W5 ⟨rfl, hb5⟩))
    refine hK.out _ _ ?_ (fun hHeld2 => ?_)
    · exact Box.step hHeld hb5
    clear hK K
    replace hHeld := hHeld2
    clear hHeld2
    refine Reg.take (i := 13) (d := 37) (v := ?_) rfl rfl (by kernel_rfl) (by kernel_rfl) (by kernel_rfl) (fun _ _ _ h => h) (by rfl) ?_ hHeld ?_
    rotate_left
    · rintro W ⟨g0, g1, g2, g3, g4⟩
      first | (go_simp; done) | (go_simp; with_reducible rfl)
    simp only [Act.put, List.setIfInBounds_toArray, List.set_cons_zero, List.set_cons_succ]
    refine Reg.take (i := 14) (d := 7) (v := ?_) rfl rfl (by kernel_rfl) (by kernel_rfl) (by kernel_rfl) (fun _ _ _ h => h) (by rfl) ?_ hHeld ?_
    rotate_left
    · rintro W ⟨g0, g1, g2, g3, g4⟩
      first | (go_simp; done) | (go_simp; with_reducible rfl)
    simp only [Act.put, List.setIfInBounds_toArray, List.set_cons_zero, List.set_cons_succ]
    refine wpAnyH_done (by kernel_rfl) ?_ _
    have hr : week (n / 86400 % 7).toNat ++ ⟨#[44, 32]⟩ ++ (two (d + 1) ++ ⟨#[32]⟩ ++ name k ++ ⟨#[32]⟩ ++ dec (1970 + (j : Int))) ++ ⟨#[32]⟩ ++ (two (n % 86400 / 3600) ++ ⟨#[58]⟩ ++ two (n % 86400 % 3600 / 60) ++ ⟨#[58]⟩ ++ two (n % 86400 % 60)) ++ ⟨#[32, 71, 77, 84]⟩ = r := by
      rw [← HR.out]
      obtain ⟨e1, e2, e3⟩ := HP.out.one (parts_of (n / 86400) (by omega) (by omega))
      unfold text
      rw [← e1, ← e2, ← e3, show n % 86400 / 3600 = n / 3600 % 24 by omega, show n % 86400 % 3600 / 60 = n / 60 % 60 by omega, show n % 86400 % 60 = n % 60 by omega]
      simp only [ByteArray.append_assoc]
    have HTm := Num.hide (fun W h => time_impl (n % 86400) W (by omega) (by omega) h)
    have sw := week_size (n / 86400 % 7).toNat (by omega)
    have sT : (two (n % 86400 / 3600) ++ ⟨#[58]⟩ ++ two (n % 86400 % 3600 / 60) ++ ⟨#[58]⟩ ++ two (n % 86400 % 60)).size = 8 := rfl
    generalize two (n % 86400 / 3600) ++ ⟨#[58]⟩ ++ two (n % 86400 % 3600 / 60) ++ ⟨#[58]⟩ ++ two (n % 86400 % 60) = TM at HTm sT hr
    have HR2 := Num.hide hr
    have HH := Num.hide hHeld
    clear hr HR HA HN HY HF hHeld
    go_wp2_with fail
    refine (HTm.out _ HH.out.2.2.2.2).mono ?_
    rintro e W6 ⟨rfl, hb6⟩
    have HB6 := Num.hide (HH.out.2.2.2.1.trans (hb6.mono HH.out.2.2.2.1.size))
    clear hb6
    have hr := HR2.out
    subst hr
    go_wp2
    go_ret
    exact ⟨rfl, HB6.out⟩
  · have hsh : shown n = ⟨#[]⟩ := if_neg h1
    rw [hsh]
    clear hsh ht
    by_cases h2 : n < 0
    · have f1 : decide (n < 0) = true := decide_eq_true h2
      go_enter Tryd.func41, Tryd.ntmps41
      go_wp2
      go_ret
      exact ⟨rfl, Below.refl _ _⟩
    · have f1 : decide (n < 0) = false := decide_eq_false h2
      have f2 : decide (2000000000 < n) = true := decide_eq_true (by omega)
      go_enter Tryd.func41, Tryd.ntmps41
      go_wp2
      go_ret
      exact ⟨rfl, Below.refl _ _⟩
end Date
end Go.Proofs.YtihiljickefanaaDoor
