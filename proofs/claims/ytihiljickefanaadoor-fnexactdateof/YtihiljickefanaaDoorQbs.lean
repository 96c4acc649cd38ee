/-
  DateReadImpl: digitsOf and ReadDate of the program: a date off its text; what was there stays.
-/
import Derived.Test.YtihiljickefanaaDoorQbm
import Derived.Test.YtihiljickefanaaDoorQbo
import Derived.Test.YtihiljickefanaaDoorQbq
import Derived.Test.YtihiljickefanaaDoorQbr
import Derived.Lib.IndexBytes
import Derived.Lib.IndexMore
import Derived.Laws.Strings2
namespace Go.Proofs.YtihiljickefanaaDoor
open Go.RowKit
set_option linter.unusedVariables false
namespace Date

/-- the library's variable holds some number -/
def Lim (w : World) : Prop := ∃ m, w.cell? ⟨0, 0, none⟩ = some (.int .i64 m)
theorem lim_of {w : World} (h : w.ShapedOpen Tryd.prog) : Lim w := Shelf.laysM143.s1_3 w h
theorem Lim.lt {w : World} (h : Lim w) : 0 < w.heap.size := by obtain ⟨m, hm⟩ := h; exact Dec.lt_of_cell hm
theorem Lim.below {w w' : World} (h : Lim w) (hb : Below w.heap.size w w') : Lim w' := by
  have hl := h.lt
  obtain ⟨m, hm⟩ := h
  exact ⟨m, (hb.cell (p := ⟨0, 0, none⟩) hl).trans hm⟩
theorem secs_two (x y : Int) (h0 : 0 ≤ x) (h1 : x ≤ 9) (h2 : 0 ≤ y) (h3 : y ≤ 9) : (Sign.secs ⟨#[Num.byte (48 + x), Num.byte (48 + y)]⟩).1 = 10 * x + y := by
  have e1 := dig_val x h0 h1
  have e2 := dig_val y h2 h3
  unfold Sign.secs
  rw [if_pos ⟨(by show 0 < 2; decide), by simp [Sign.dig, e1, e2]; omega⟩]
  simp only [Sign.sec, List.foldl_cons, List.foldl_nil, e1, e2]
  omega
theorem secs_four (x y z u : Int) (h0 : 0 ≤ x) (h1 : x ≤ 9) (h2 : 0 ≤ y) (h3 : y ≤ 9) (h4 : 0 ≤ z) (h5 : z ≤ 9) (h6 : 0 ≤ u) (h7 : u ≤ 9) : (Sign.secs ⟨#[Num.byte (48 + x), Num.byte (48 + y), Num.byte (48 + z), Num.byte (48 + u)]⟩).1 = 1000 * x + 100 * y + 10 * z + u := by
  have e1 := dig_val x h0 h1
  have e2 := dig_val y h2 h3
  have e3 := dig_val z h4 h5
  have e4 := dig_val u h6 h7
  unfold Sign.secs
  rw [if_pos ⟨(by show 0 < 4; decide), by simp [Sign.dig, e1, e2, e3, e4]; omega⟩]
  simp only [Sign.sec, List.foldl_cons, List.foldl_nil, e1, e2, e3, e4]
  omega
theorem secs_bd (t : ByteArray) : 0 ≤ (Sign.secs t).1 ∧ (Sign.secs t).1 ≤ 2147483648 := by
  unfold Sign.secs
  split
  · next h => exact Sign.sec_bd _ h.2
  · exact ⟨by decide, by decide⟩
/-- what the program reckons off a text -/
def dg (s : ByteArray) (a b : Nat) : Int := (Sign.secs (s.extract a b)).1
def midx (s : ByteArray) : Int := Lib.index mnames.data.toList (s.extract 8 11).data.toList
def dayI (s : ByteArray) : Int := days (dg s 12 16) ((midx s).tdiv 3 + 1) (dg s 5 7)
def secI (s : ByteArray) : Int := dayI s * 86400 + dg s 17 19 * 3600 + dg s 20 22 * 60 + dg s 23 25
theorem midx_bd (s : ByteArray) : -1 ≤ midx s ∧ midx s ≤ 36 := ⟨Lib.index_ge _ _, Lib.index_le _ _⟩
theorem index_name (k : Nat) (h : k < 12) : Lib.index mnames.data.toList (name k).data.toList = 3 * (k : Int) := by
  have key : ∀ k : Nat, k < 12 → Lib.index mnames.data.toList (name k).data.toList = 3 * (k : Int) := by decide +kernel
  exact key k h
theorem secI_text (n : Int) (h0 : 0 ≤ n) (h1 : n ≤ 2000000000) : secI (text n) = n := by
  obtain ⟨p1, p2, p3, p4, p5, p6⟩ := parts_in (n / 86400) (by omega) (by omega)
  have hml := mlen_bd (1970 + (yr (n / 86400) : Int)) (mo (n / 86400)) (by omega)
  obtain ⟨a, b, c, p, q, r, hn, ht⟩ := text_form n h0 h1
  have ed : dg (text n) 5 7 = dy (n / 86400) + 1 := by
    have e : (text n).extract 5 7 = ⟨#[Num.byte (48 + (dy (n / 86400) + 1) / 10 % 10), Num.byte (48 + (dy (n / 86400) + 1) % 10)]⟩ := by rw [ht]; rfl
    unfold dg
    rw [e, secs_two _ _ (by omega) (by omega) (by omega) (by omega)]
    omega
  have ey : dg (text n) 12 16 = 1970 + (yr (n / 86400) : Int) := by
    have e : (text n).extract 12 16 = ⟨#[Num.byte (48 + (1970 + (yr (n / 86400) : Int)) / 1000 % 10), Num.byte (48 + (1970 + (yr (n / 86400) : Int)) / 100 % 10), Num.byte (48 + (1970 + (yr (n / 86400) : Int)) / 10 % 10), Num.byte (48 + (1970 + (yr (n / 86400) : Int)) % 10)]⟩ := by rw [ht]; rfl
    unfold dg
    rw [e, secs_four _ _ _ _ (by omega) (by omega) (by omega) (by omega) (by omega) (by omega) (by omega) (by omega)]
    omega
  have eh : dg (text n) 17 19 = n / 3600 % 24 := by
    have e : (text n).extract 17 19 = ⟨#[Num.byte (48 + n / 3600 % 24 / 10 % 10), Num.byte (48 + n / 3600 % 24 % 10)]⟩ := by rw [ht]; rfl
    unfold dg
    rw [e, secs_two _ _ (by omega) (by omega) (by omega) (by omega)]
    omega
  have em : dg (text n) 20 22 = n / 60 % 60 := by
    have e : (text n).extract 20 22 = ⟨#[Num.byte (48 + n / 60 % 60 / 10 % 10), Num.byte (48 + n / 60 % 60 % 10)]⟩ := by rw [ht]; rfl
    unfold dg
    rw [e, secs_two _ _ (by omega) (by omega) (by omega) (by omega)]
    omega
  have es : dg (text n) 23 25 = n % 60 := by
    have e : (text n).extract 23 25 = ⟨#[Num.byte (48 + n % 60 / 10 % 10), Num.byte (48 + n % 60 % 10)]⟩ := by rw [ht]; rfl
    unfold dg
    rw [e, secs_two _ _ (by omega) (by omega) (by omega) (by omega)]
    omega
  have eo : midx (text n) = 3 * (mo (n / 86400) : Int) := by
    have e : (text n).extract 8 11 = name (mo (n / 86400)) := by rw [ht, hn]; rfl
    unfold midx
    rw [e, index_name _ (by omega)]
  have et : (3 * (mo (n / 86400) : Int)).tdiv 3 = (mo (n / 86400) : Int) := by
    rw [Int.tdiv_eq_ediv_of_nonneg (by omega)]; omega
  unfold secI dayI
  rw [ed, ey, eh, em, es, eo, et, days_parts _ _ _ (by omega) (by omega) p3 p4]
  unfold dy
  omega
theorem read_alt (s : ByteArray) (h : s.size = 29) : read s = if shown (secI s) = s then some (secI s) else none := by
  by_cases hs : shown (secI s) = s
  · rw [if_pos hs, read_iff]
    unfold shown at hs
    split at hs
    · next hr => exact ⟨hr, hs⟩
    · rw [← hs] at h; cases h
  · rw [if_neg hs]
    cases hr : read s with
    | none => rfl
    | some n =>
      exfalso
      obtain ⟨⟨h0, h1⟩, ht⟩ := (read_iff s n).1 hr
      apply hs
      rw [← ht, secI_text n h0 h1]
      exact if_pos ⟨h0, h1⟩
set_option maxRecDepth 100000 in
set_option maxHeartbeats 1000000 in
theorem digits_impl (t : ByteArray) (w : World) (hs : t.size ≤ 4) : Calls Tryd.prog 40 #[.string t] w fun e w' => e = .returned (.int .i64 (Sign.secs t).1) ∧ w = w' := by
  have HS := Num.hide (fun W => Sign.seconds_impl t W (by unfold maxLen; omega))
  generalize Sign.secs t = r at HS ⊢
  obtain ⟨x, b⟩ := r
  go_enter Tryd.func40, Tryd.ntmps40
  go_wp2_with fail
  refine (HS.out _).mono ?_
  rintro e w1 ⟨rfl, rfl⟩
  go_wp2
  go_ret
  exact ⟨rfl, rfl⟩
/-- what was there stays; the library's variables lie as they are laid -/
def Keep (w : World) (W : World) : Prop := Below w.heap.size w W ∧ Dec.Tab W ∧ Lim W
theorem Keep.step {w W W' : World} (h : Keep w W) (hb : Below W.heap.size W W') : Keep w W' := ⟨h.1.trans (hb.mono h.1.size), h.2.1.below hb, h.2.2.below hb⟩
theorem Keep.drew {w W : World} (h : Keep w W) : Keep w W.drew := h.step (Below.refl _ _).drew
set_option maxRecDepth 100000 in
set_option maxHeartbeats 8000000 in
theorem read_impl (s : ByteArray) (w : World) (hs : s.size ≤ 4194304) (ht : Dec.Tab w) (hm : Lim w) : Calls Tryd.prog 23 #[.string s] w fun e w' => e = .returned (.tuple #[.int .i64 (readN s), .bool (readB s)]) ∧ Below w.heap.size w w' := by
  by_cases h29 : s.size = 29
  · obtain ⟨N, hN⟩ : ∃ N, readN s = N := ⟨_, rfl⟩
    obtain ⟨b, hb⟩ : ∃ b, readB s = b := ⟨_, rfl⟩
    rw [hN, hb]
    have hra := read_alt s h29
    have HN := Num.hide hN
    have HBb := Num.hide hb
    have HK0 : Hid (Keep w w) := ⟨Below.refl _ _, ht, hm⟩
    have d29 : ((s.size : Int) != 29) = false := by rw [bne_eq_false_iff_eq]; omega
    have h8 : (11 : Int) ≤ (s.size : Int) := by omega
    have h12 : (16 : Int) ≤ (s.size : Int) := by omega
    have h5 : (7 : Int) ≤ (s.size : Int) := by omega
    have h17 : (19 : Int) ≤ (s.size : Int) := by omega
    have h20 : (22 : Int) ≤ (s.size : Int) := by omega
    have h23 : (25 : Int) ≤ (s.size : Int) := by omega
    have hex : ∀ a b : Nat, b ≤ a + 4 → (s.extract a b).size ≤ 4 := fun a b h => by rw [ByteArray.size_extract]; omega
    have HI : Hid (∀ W, Lim W → Calls Tryd.prog 38 #[.string mnames, .string (s.extract 8 11)] W fun e w' => e = .returned (.int .i64 (midx s)) ∧ W = w') := fun W h => by
      obtain ⟨m, h⟩ := h
      exact (Shelf.strings_Index mnames (s.extract 8 11) m W (by decide) h).mono fun e w' ⟨h1, h2⟩ => ⟨h1, h2.symm⟩
    have H1 : Hid (∀ W, Calls Tryd.prog 40 #[.string (s.extract 12 16)] W fun e w' => e = .returned (.int .i64 (dg s 12 16)) ∧ W = w') := fun W => digits_impl _ W (hex _ _ (by omega))
    have H2 : Hid (∀ W, Calls Tryd.prog 40 #[.string (s.extract 5 7)] W fun e w' => e = .returned (.int .i64 (dg s 5 7)) ∧ W = w') := fun W => digits_impl _ W (hex _ _ (by omega))
    have H3 : Hid (∀ W, Calls Tryd.prog 40 #[.string (s.extract 17 19)] W fun e w' => e = .returned (.int .i64 (dg s 17 19)) ∧ W = w') := fun W => digits_impl _ W (hex _ _ (by omega))
    have H4 : Hid (∀ W, Calls Tryd.prog 40 #[.string (s.extract 20 22)] W fun e w' => e = .returned (.int .i64 (dg s 20 22)) ∧ W = w') := fun W => digits_impl _ W (hex _ _ (by omega))
    have H5 : Hid (∀ W, Calls Tryd.prog 40 #[.string (s.extract 23 25)] W fun e w' => e = .returned (.int .i64 (dg s 23 25)) ∧ W = w') := fun W => digits_impl _ W (hex _ _ (by omega))
    have HD : Hid (∀ W, Calls Tryd.prog 39 #[.int .i64 (dg s 12 16), .int .i64 ((midx s).tdiv 3 + 1), .int .i64 (dg s 5 7)] W fun e w' => e = .returned (.int .i64 (dayI s)) ∧ Below W.heap.size W w') := fun W => days_impl _ _ _ W
    have bd := days_bd (dg s 12 16) ((midx s).tdiv 3 + 1) (dg s 5 7)
    change -1 ≤ dayI s ∧ dayI s ≤ 100000 at bd
    have bi := midx_bd s
    have bq : -1 ≤ (midx s).tdiv 3 ∧ (midx s).tdiv 3 ≤ 36 := by
      by_cases e : midx s = -1
      · rw [e]; decide
      · rw [Int.tdiv_eq_ediv_of_nonneg (by omega)]; omega
    have b1 := secs_bd (s.extract 17 19)
    have b2 := secs_bd (s.extract 20 22)
    have b3 := secs_bd (s.extract 23 25)
    change 0 ≤ dg s 17 19 ∧ dg s 17 19 ≤ _ at b1
    change 0 ≤ dg s 20 22 ∧ dg s 20 22 ≤ _ at b2
    change 0 ≤ dg s 23 25 ∧ dg s 23 25 ≤ _ at b3
    have hsec : secI s = dayI s * 86400 + dg s 17 19 * 3600 + dg s 20 22 * 60 + dg s 23 25 := rfl
    have HSh := Num.hide (fun W h => date_impl (secI s) W h)
    rw [hsec] at hra HSh
    clear hN hb hsec ht hm hex
    generalize dayI s = D at HD bd hra HSh
    generalize dg s 12 16 = y at H1 HD
    generalize dg s 5 7 = dd at H2 HD
    generalize dg s 17 19 = hh at H3 b1 hra HSh
    generalize dg s 20 22 = mm at H4 b2 hra HSh
    generalize dg s 23 25 = xx at H5 b3 hra HSh
    generalize midx s = mi at HI HD bi bq
    generalize shown (D * 86400 + hh * 3600 + mm * 60 + xx) = t at hra HSh
    have HRd := Num.hide hra
    clear hra
    unfold mnames at HI
    have v1 : IntKind.i64.wrap (D * 86400) = D * 86400 := by rw [IntKind.wrap_i64]; omega
    have v2 : IntKind.i64.wrap (hh * 3600) = hh * 3600 := by rw [IntKind.wrap_i64]; omega
    have v3 : IntKind.i64.wrap (D * 86400 + hh * 3600) = D * 86400 + hh * 3600 := by rw [IntKind.wrap_i64]; omega
    have v4 : IntKind.i64.wrap (mm * 60) = mm * 60 := by rw [IntKind.wrap_i64]; omega
    have v5 : IntKind.i64.wrap (D * 86400 + hh * 3600 + mm * 60) = D * 86400 + hh * 3600 + mm * 60 := by rw [IntKind.wrap_i64]; omega
    have v6 : IntKind.i64.wrap (D * 86400 + hh * 3600 + mm * 60 + xx) = D * 86400 + hh * 3600 + mm * 60 + xx := by rw [IntKind.wrap_i64]; omega
    go_enter Tryd.func23, Tryd.ntmps23
    go_wp2_with fail
    refine (HI.out _ HK0.out.2.2).mono ?_
    rintro e W1 ⟨rfl, rfl⟩
    clear HI
    go_wp2_with fail
    refine wp_region_held_drew (S := Keep w) (by kernel_rfl) HK0.out.drew (fun hHeld => ?_)
    refine Reg.take (i := 0) (d := 15) (v := ?_) rfl rfl (by kernel_rfl) (by kernel_rfl) (by kernel_rfl) (fun _ _ _ h => h) (by rfl) ?_ hHeld ?_
    rotate_left
    · rintro W ⟨g0, g1, g2⟩
      first | (go_simp; done) | (go_simp; with_reducible rfl)
    simp only [Act.put, List.setIfInBounds_toArray, List.set_cons_zero, List.set_cons_succ]
    refine Reg.take (i := 1) (d := 16) (v := ?_) rfl rfl (by kernel_rfl) (by kernel_rfl) (by kernel_rfl) (fun _ _ _ h => h) (by rfl) ?_ hHeld ?_
    rotate_left
    · rintro W ⟨g0, g1, g2⟩
      first | (go_simp; done) | (go_simp; with_reducible rfl)
    simp only [Act.put, List.setIfInBounds_toArray, List.set_cons_zero, List.set_cons_succ]
    refine Reg.take (i := 3) (d := 18) (v := ?_) rfl rfl (by kernel_rfl) (by kernel_rfl) (by kernel_rfl) (fun _ _ _ h => h) (by rfl) ?_ hHeld ?_
    rotate_left
    · rintro W ⟨g0, g1, g2⟩
      first | (go_simp; done) | (go_simp; with_reducible rfl)
    simp only [Act.put, List.setIfInBounds_toArray, List.set_cons_zero, List.set_cons_succ]
    refine Reg.take (i := 4) (d := 19) (v := ?_) rfl rfl (by kernel_rfl) (by kernel_rfl) (by kernel_rfl) (fun _ _ _ h => h) (by rfl) ?_ hHeld ?_
    rotate_left
    · rintro W ⟨g0, g1, g2⟩
      first | (go_simp; done) | (go_simp; with_reducible rfl)
    simp only [Act.put, List.setIfInBounds_toArray, List.set_cons_zero, List.set_cons_succ]
    refine Reg.take (i := 5) (d := 20) (v := ?_) rfl rfl (by kernel_rfl) (by kernel_rfl) (by kernel_rfl) (fun _ _ _ h => h) (by rfl) ?_ hHeld ?_
    rotate_left
    · rintro W ⟨g0, g1, g2⟩
      first | (go_simp; done) | (go_simp; with_reducible rfl)
    simp only [Act.put, List.setIfInBounds_toArray, List.set_cons_zero, List.set_cons_succ]
    refine Reg.call (i := 2) rfl (by kernel_rfl) (by rfl) (fun K hK => ?_)
    go_wp2_with (first | (go_at_call 40; refine (H1.out _).mono ?_; rintro e W2 ⟨rfl, rfl⟩))
    refine hK.out _ _ ?_ (fun hHeld2 => ?_)
    · exact hHeld
    clear hK K
    replace hHeld := hHeld2
    clear hHeld2
    refine Reg.call (i := 6) rfl (by kernel_rfl) (by rfl) (fun K hK => ?_)
    go_wp2_with (first | (go_at_call 40; refine (H2.out _).mono ?_; rintro e W3 ⟨rfl, rfl⟩))
    refine hK.out _ _ ?_ (fun hHeld2 => ?_)
    · exact hHeld
    clear hK K
    replace hHeld := hHeld2
    clear hHeld2
    refine Reg.call (i := 7) rfl (by kernel_rfl) (by rfl) (fun K hK => ?_)
    go_wp2_with (first | (go_at_call 39; refine (HD.out _).mono ?_; rintro e W4 ⟨rfl, hb4⟩))
    refine hK.out _ _ ?_ (fun hHeld2 => ?_)
    · exact Keep.step hHeld hb4
    clear hK K
    replace hHeld := hHeld2
    clear hHeld2
    refine Reg.take (i := 8) (d := 5) (v := ?_) rfl rfl (by kernel_rfl) (by kernel_rfl) (by kernel_rfl) (fun _ _ _ h => h) (by rfl) ?_ hHeld ?_
    rotate_left
    · rintro W ⟨g0, g1, g2⟩
      first | (go_simp; done) | (go_simp; with_reducible rfl)
    simp only [Act.put, List.setIfInBounds_toArray, List.set_cons_zero, List.set_cons_succ]
    refine wpAnyH_done (by kernel_rfl) ?_ _
    have HK1 := Num.hide hHeld
    clear hHeld H1 H2 HD
    go_wp2_with fail
    refine wp_region_held_drew (S := Keep w) (by kernel_rfl) HK1.out.drew (fun hHeld => ?_)
    refine Reg.take (i := 0) (d := 23) (v := ?_) rfl rfl (by kernel_rfl) (by kernel_rfl) (by kernel_rfl) (fun _ _ _ h => h) (by rfl) ?_ hHeld ?_
    rotate_left
    · rintro W ⟨g0, g1, g2⟩
      first | (go_simp; done) | (go_simp; with_reducible rfl)
    simp only [Act.put, List.setIfInBounds_toArray, List.set_cons_zero, List.set_cons_succ]
    refine Reg.take (i := 1) (d := 24) (v := ?_) rfl rfl (by kernel_rfl) (by kernel_rfl) (by kernel_rfl) (fun _ _ _ h => h) (by rfl) ?_ hHeld ?_
    rotate_left
    · rintro W ⟨g0, g1, g2⟩
      first | (go_simp; done) | (go_simp; with_reducible rfl)
    simp only [Act.put, List.setIfInBounds_toArray, List.set_cons_zero, List.set_cons_succ]
    refine Reg.take (i := 2) (d := 25) (v := ?_) rfl rfl (by kernel_rfl) (by kernel_rfl) (by kernel_rfl) (fun _ _ _ h => h) (by rfl) ?_ hHeld ?_
    rotate_left
    · rintro W ⟨g0, g1, g2⟩
      first | (go_simp; done) | (go_simp; with_reducible rfl)
    simp only [Act.put, List.setIfInBounds_toArray, List.set_cons_zero, List.set_cons_succ]
    refine Reg.take (i := 3) (d := 26) (v := ?_) rfl rfl (by kernel_rfl) (by kernel_rfl) (by kernel_rfl) (fun _ _ _ h => h) (by rfl) ?_ hHeld ?_
    rotate_left
    · rintro W ⟨g0, g1, g2⟩
      first | (go_simp; done) | (go_simp; with_reducible rfl)
    simp only [Act.put, List.setIfInBounds_toArray, List.set_cons_zero, List.set_cons_succ]
    refine Reg.take (i := 7) (d := 30) (v := ?_) rfl rfl (by kernel_rfl) (by kernel_rfl) (by kernel_rfl) (fun _ _ _ h => h) (by rfl) ?_ hHeld ?_
    rotate_left
    · rintro W ⟨g0, g1, g2⟩
      first | (go_simp; done) | (go_simp; with_reducible rfl)
    simp only [Act.put, List.setIfInBounds_toArray, List.set_cons_zero, List.set_cons_succ]
    refine Reg.take (i := 8) (d := 31) (v := ?_) rfl rfl (by kernel_rfl) (by kernel_rfl) (by kernel_rfl) (fun _ _ _ h => h) (by rfl) ?_ hHeld ?_
    rotate_left
    · rintro W ⟨g0, g1, g2⟩
      first | (go_simp; done) | (go_simp; with_reducible rfl)
    simp only [Act.put, List.setIfInBounds_toArray, List.set_cons_zero, List.set_cons_succ]
    refine Reg.take (i := 12) (d := 35) (v := ?_) rfl rfl (by kernel_rfl) (by kernel_rfl) (by kernel_rfl) (fun _ _ _ h => h) (by rfl) ?_ hHeld ?_
    rotate_left
    · rintro W ⟨g0, g1, g2⟩
      first | (go_simp; done) | (go_simp; with_reducible rfl)
    simp only [Act.put, List.setIfInBounds_toArray, List.set_cons_zero, List.set_cons_succ]
    refine Reg.take (i := 13) (d := 36) (v := ?_) rfl rfl (by kernel_rfl) (by kernel_rfl) (by kernel_rfl) (fun _ _ _ h => h) (by rfl) ?_ hHeld ?_
    rotate_left
    · rintro W ⟨g0, g1, g2⟩
      first | (go_simp; done) | (go_simp; with_reducible rfl)
    simp only [Act.put, List.setIfInBounds_toArray, List.set_cons_zero, List.set_cons_succ]
    refine Reg.call (i := 4) rfl (by kernel_rfl) (by rfl) (fun K hK => ?_)
    go_wp2_with (first | (go_at_call 40; refine (H3.out _).mono ?_; rintro e W5 ⟨rfl, rfl⟩))
    refine hK.out _ _ ?_ (fun hHeld2 => ?_)
    · exact hHeld
    clear hK K
    replace hHeld := hHeld2
    clear hHeld2
    refine Reg.take (i := 5) (d := 28) (v := ?_) rfl rfl (by kernel_rfl) (by kernel_rfl) (by kernel_rfl) (fun _ _ _ h => h) (by rfl) ?_ hHeld ?_
    rotate_left
    · rintro W ⟨g0, g1, g2⟩
      first | (go_simp; done) | (go_simp; with_reducible rfl)
    simp only [Act.put, List.setIfInBounds_toArray, List.set_cons_zero, List.set_cons_succ]
    refine Reg.take (i := 6) (d := 29) (v := ?_) rfl rfl (by kernel_rfl) (by kernel_rfl) (by kernel_rfl) (fun _ _ _ h => h) (by rfl) ?_ hHeld ?_
    rotate_left
    · rintro W ⟨g0, g1, g2⟩
      first | (go_simp; done) | (go_simp; with_reducible rfl)
    simp only [Act.put, List.setIfInBounds_toArray, List.set_cons_zero, List.set_cons_succ]
    refine Reg.call (i := 9) rfl (by kernel_rfl) (by rfl) (fun K hK => ?_)
    go_wp2_with (first | (go_at_call 40; refine (H4.out _).mono ?_; rintro e W6 ⟨rfl, rfl⟩))
    refine hK.out _ _ ?_ (fun hHeld2 => ?_)
    · exact hHeld
    clear hK K
    replace hHeld := hHeld2
    clear hHeld2
    refine Reg.take (i := 10) (d := 33) (v := ?_) rfl rfl (by kernel_rfl) (by kernel_rfl) (by kernel_rfl) (fun _ _ _ h => h) (by rfl) ?_ hHeld ?_
    rotate_left
    · rintro W ⟨g0, g1, g2⟩
      first | (go_simp; done) | (go_simp; with_reducible rfl)
    simp only [Act.put, List.setIfInBounds_toArray, List.set_cons_zero, List.set_cons_succ]
    refine Reg.take (i := 11) (d := 34) (v := ?_) rfl rfl (by kernel_rfl) (by kernel_rfl) (by kernel_rfl) (fun _ _ _ h => h) (by rfl) ?_ hHeld ?_
    rotate_left
    · rintro W ⟨g0, g1, g2⟩
      first | (go_simp; done) | (go_simp; with_reducible rfl)
    simp only [Act.put, List.setIfInBounds_toArray, List.set_cons_zero, List.set_cons_succ]
    refine Reg.call (i := 14) rfl (by kernel_rfl) (by rfl) (fun K hK => ?_)
    go_wp2_with (first | (go_at_call 40; refine (H5.out _).mono ?_; rintro e W7 ⟨rfl, rfl⟩))
    refine hK.out _ _ ?_ (fun hHeld2 => ?_)
    · exact hHeld
    clear hK K
    replace hHeld := hHeld2
    clear hHeld2
    refine Reg.take (i := 15) (d := 38) (v := ?_) rfl rfl (by kernel_rfl) (by kernel_rfl) (by kernel_rfl) (fun _ _ _ h => h) (by rfl) ?_ hHeld ?_
    rotate_left
    · rintro W ⟨g0, g1, g2⟩
      first | (go_simp; done) | (go_simp; with_reducible rfl)
    simp only [Act.put, List.setIfInBounds_toArray, List.set_cons_zero, List.set_cons_succ]
    refine Reg.take (i := 16) (d := 6) (v := ?_) rfl rfl (by kernel_rfl) (by kernel_rfl) (by kernel_rfl) (fun _ _ _ h => h) (by rfl) ?_ hHeld ?_
    rotate_left
    · rintro W ⟨g0, g1, g2⟩
      first | (go_simp; done) | (go_simp; with_reducible rfl)
    simp only [Act.put, List.setIfInBounds_toArray, List.set_cons_zero, List.set_cons_succ]
    refine wpAnyH_done (by kernel_rfl) ?_ _
    have HK2 := Num.hide hHeld
    clear hHeld H3 H4 H5
    by_cases g5 : t = s
    · have hr := HRd.out
      rw [if_pos g5] at hr
      subst g5
      obtain rfl : N = D * 86400 + hh * 3600 + mm * 60 + xx := by rw [← HN.out]; unfold readN; rw [hr]; rfl
      obtain rfl : b = true := by rw [← HBb.out]; unfold readB; rw [hr]; rfl
      clear hr HRd HN HBb
      go_wp2_with fail
      refine (HSh.out _ HK2.out.2.1).mono ?_
      rintro e w3 ⟨rfl, hb3⟩
      have HB3 := Num.hide (HK2.out.1.trans (hb3.mono HK2.out.1.size))
      clear hb3
      go_wp2
      go_ret2
      exact ⟨rfl, HB3.out⟩
    · have hr := HRd.out
      rw [if_neg g5] at hr
      have hq : (t.toList == s.toList) = false := by
        rw [beq_eq_false_iff_ne, ByteArray.toList_eq, ByteArray.toList_eq]
        intro e; exact g5 (ByteArray.ext (Array.toList_inj.1 e))
      have hq2 : (t.toList != s.toList) = true := by rw [bne, hq]; rfl
      obtain rfl : N = 0 := by rw [← HN.out]; unfold readN; rw [hr]; rfl
      obtain rfl : b = false := by rw [← HBb.out]; unfold readB; rw [hr]; rfl
      clear hr HRd HN HBb g5
      go_wp2_with fail
      refine (HSh.out _ HK2.out.2.1).mono ?_
      rintro e w3 ⟨rfl, hb3⟩
      have HB3 := Num.hide (HK2.out.1.trans (hb3.mono HK2.out.1.size))
      clear hb3
      go_wp2
      go_ret2
      exact ⟨rfl, HB3.out⟩
  · have hr : read s = none := by unfold read; rw [if_neg h29]
    have hN : readN s = 0 := by unfold readN; rw [hr]; rfl
    have hb : readB s = false := by unfold readB; rw [hr]; rfl
    rw [hN, hb]
    have d29 : ((s.size : Int) != 29) = true := by rw [bne_iff_ne]; omega
    clear hr hN hb h29 ht hm
    go_enter Tryd.func23, Tryd.ntmps23
    go_wp2
    go_ret2
    exact ⟨rfl, Below.refl _ _⟩
end Date
end Go.Proofs.YtihiljickefanaaDoor
