/-
  AgeAtSpec: AgeAt of the specification.
  FreshSpec: IsFresh of the specification.
  FreshLaw: FnExactIsFresh, whatever the program's IsFresh keeps to: it answers as the specification's and leaves its argument as it was.
-/
import Derived.Test.YtihiljickefanaaGreatDoorPah
import Derived.Test.YtihiljickefanaaGreatDoorPam
import Derived.Test.YtihiljickefanaaGreatDoorPao
import Derived.Test.YtihiljickefanaaGreatDoorPan
import Derived.Deep.Cut
namespace Go.Proofs.YtihiljickefanaaGreatDoor
open Go.RowKit
set_option linter.unusedVariables false
namespace Age
open Flds (Fld ret_int)

set_option maxRecDepth 100000 in
set_option maxHeartbeats 2000000 in
theorem ageAt_spec (st : Int) (v : Value) (l : List Fld) (b : ByteArray) (asked came now : Int) (w : World) (h : Flds.Is w v l) (hl : Flds.bulk l ≤ 1048576) (hcm : came ≤ 9223372036854775807) (hnw : now ≤ 9223372036854775807) :
    Calls Tryz.prog 35 #[Resp.val st v b, .int .i64 asked, .int .i64 came, .int .i64 now] w fun e w' => e = .returned (.int .i64 (ageAt l asked came now)) ∧ Below w.heap.size w w' := by
  have hb0 : Below w.heap.size w (w.alloc (.cells #[.int .i64 st, v, .string b] 26)) := (Below.refl _ _).alloc (Nat.le_refl _) _
  have HV0 := Num.hide (Recs.is_below h hb0)
  obtain ⟨av, cv, rfl, _⟩ := Flds.is_form h
  have HX0 : Hid ((w.alloc (.cells #[.int .i64 st, .slice av l.length cv, .string b] 26)).heap[w.heap.size]? = some (.cells #[.int .i64 st, .slice av l.length cv, .string b] 26)) := heap_alloc_new w _
  have HB0 := Num.hide hb0
  have HF := Num.hide (firstAge_spec st _ l b asked came _ HV0.out hl hcm)
  obtain ⟨r, hr⟩ : ∃ r, ageAt l asked came now = r := ⟨_, rfl⟩
  rw [hr]
  unfold ageAt at hr
  obtain ⟨Hr, hHr⟩ : ∃ Hr, here came now = Hr := ⟨_, rfl⟩
  rw [hHr] at hr
  unfold here at hHr
  generalize firstAge l asked came = A at HF hr
  have HS := Num.hide (fun W => satAdd_spec A Hr W)
  rw [hr] at HS
  have HH := Num.hide hHr
  unfold Resp.val at HF ⊢
  clear h hb0 hr hHr HV0
  go_enter Tryz.func35, Tryz.ntmps35
  go_upto_region 2 with fail
  obtain ⟨Q, hQ⟩ : ∃ Q, (decide (came < now) && decide (0 ≤ came)) = Q := ⟨_, rfl⟩
  have HQ := Num.hide hQ
  have HQf : Hid (Q = false → Hr = 0) := fun h => by
    rw [← HH.out, if_neg]
    rintro ⟨e1, e2⟩
    rw [← hQ, decide_eq_true e1, decide_eq_true e2] at h; cases h
  have HQt : Hid (Q = true → came < now ∧ 0 ≤ came ∧ Hr = now - came) := fun h => by
    rw [← hQ, Bool.and_eq_true, decide_eq_true_iff, decide_eq_true_iff] at h
    exact ⟨h.1, h.2, by rw [← HH.out, if_pos h]⟩
  clear hQ HH
  generalize hW : w.alloc (.cells #[.int .i64 st, .slice av l.length cv, .string b] 26) = w1 at HX0 HB0 HF ⊢
  clear hW
  go_cut [16] from 10 (fun v wx => v = .bool Q ∧ wx = w1)
  case first =>
    by_cases h1 : came < now
    · have d1 : decide (came < now) = true := decide_eq_true h1
      by_cases h2 : 0 ≤ came
      · have d2 : decide (0 ≤ came) = true := decide_eq_true h2
        obtain rfl : Q = true := by rw [← HQ.out, d1, d2]; rfl
        clear HQ HQf HQt
        go_wp2
        go_meet
        case rel => exact ⟨rfl, rfl⟩
      · have d2 : decide (0 ≤ came) = false := decide_eq_false h2
        obtain rfl : Q = false := by rw [← HQ.out, d1, d2]; rfl
        clear HQ HQf HQt
        go_wp2
        go_meet
        case rel => exact ⟨rfl, rfl⟩
    · have d1 : decide (came < now) = false := decide_eq_false h1
      obtain rfl : Q = false := by rw [← HQ.out, d1]; rfl
      clear HQ HQf HQt
      go_wp2
      go_meet
      case rel => exact ⟨rfl, rfl⟩
  case rest =>
  obtain ⟨rfl, rfl⟩ := hcut
  clear HQ
  go_upto_if 16 with fail
  go_cut [9] from 10 (fun v wx => v = .int .i64 Hr ∧ wx = wc)
  case first =>
    cases Q with
    | false =>
      obtain rfl := HQf.out rfl
      clear HQf HQt HS
      go_wp2
      go_meet
      case rel => exact ⟨rfl, rfl⟩
    | true =>
      obtain ⟨h1, h2, rfl⟩ := HQt.out rfl
      clear HQf HQt HS
      go_wp2
      go_meet
      case rel => exact ⟨rfl, rfl⟩
  case rest =>
  obtain ⟨rfl, rfl⟩ := hcut
  clear HQf HQt
  have c0 := Recs.box_cell HX0.out 0
  have c1 := Recs.box_cell HX0.out 1
  have c2 := Recs.box_cell HX0.out 2
  simp only [List.getElem?_toArray, List.getElem?_cons_succ, List.getElem?_cons_zero] at c0 c1 c2
  go_wp2_with fail
  refine HF.out.mono ?_
  rintro e w2 ⟨rfl, hb⟩
  have HB2 := Num.hide (HB0.out.trans (hb.mono HB0.out.size))
  clear hb c0 c1 c2 HX0 HB0 HF
  go_wp2_with fail
  refine (HS.out _).mono ?_
  rintro e w3 ⟨rfl, rfl⟩
  go_wp2
  go_ret
  exact ⟨rfl, HB2.out⟩
end Age
end Go.Proofs.YtihiljickefanaaGreatDoor
namespace Go.Proofs.YtihiljickefanaaGreatDoor
open Go.RowKit
set_option linter.unusedVariables false
set_option linter.unusedSimpArgs false
namespace Age
open Flds (Fld ret_int)

/-- the answer's box, cell by cell -/
abbrev FAt (w : World) (st : Int) (v : Value) (l : List Fld) (b : ByteArray) (W : World) : Prop :=
  W.cell? ⟨w.heap.size, 0, none⟩ = some (.int .i64 st) ∧ W.cell? ⟨w.heap.size, 1, none⟩ = some v ∧ W.cell? ⟨w.heap.size, 2, none⟩ = some (.string b) ∧ Flds.Is W v l ∧ Below w.heap.size w W
theorem FAt.step {w : World} {st : Int} {v : Value} {l : List Fld} {b : ByteArray} {W W' : World} (h : FAt w st v l b W) (hb : Below W.heap.size W W') : FAt w st v l b W' := by
  obtain ⟨h0, h1, h2, h3, h4⟩ := h
  have hlt : w.heap.size < W.heap.size := Recs.lt_of_cell h0
  exact ⟨(hb.cell (p := ⟨w.heap.size, 0, none⟩) hlt).trans h0, (hb.cell (p := ⟨w.heap.size, 1, none⟩) hlt).trans h1, (hb.cell (p := ⟨w.heap.size, 2, none⟩) hlt).trans h2, Recs.is_below h3 hb, h4.trans (hb.mono h4.size)⟩
theorem fat_first (w : World) (st : Int) (v : Value) (l : List Fld) (b : ByteArray) (h : Flds.Is w v l) : FAt w st v l b (w.alloc (.cells #[.int .i64 st, v, .string b] 26)) := by
  have hb0 : Below w.heap.size w (w.alloc (.cells #[.int .i64 st, v, .string b] 26)) := (Below.refl _ _).alloc (Nat.le_refl _) _
  have x0 := heap_alloc_new w (.cells #[.int .i64 st, v, .string b] 26)
  exact ⟨by rw [cell_of_row _ _ _ _ _ _ x0]; rfl, by rw [cell_of_row _ _ _ _ _ _ x0]; rfl, by rw [cell_of_row _ _ _ _ _ _ x0]; rfl, Recs.is_below h hb0, hb0⟩
set_option maxRecDepth 100000 in
set_option maxHeartbeats 4000000 in
theorem isFresh_spec (st : Int) (v : Value) (l : List Fld) (b : ByteArray) (asked came now : Int) (w : World) (h : Flds.Is w v l) (hl : Flds.bulk l ≤ 1048576) (hcm : came ≤ 9223372036854775807) (hnw : now ≤ 9223372036854775807) :
    Calls Tryz.prog 19 #[Resp.val st v b, .int .i64 asked, .int .i64 came, .int .i64 now] w fun e w' => e = .returned (.bool (isFresh l asked came now)) ∧ Below w.heap.size w w' := by
  have HF0 := Num.hide (fat_first w st v l b h)
  have HLf := Num.hide (fun W h => lifetime_spec st v l b W h hl)
  have HAg := Num.hide (fun W h => ageAt_spec st v l b asked came now W h hl hcm hnw)
  obtain ⟨av, cv, rfl, _⟩ := Flds.is_form h
  obtain ⟨r, hr⟩ : ∃ r, isFresh l asked came now = r := ⟨_, rfl⟩
  rw [hr]
  unfold isFresh at hr
  generalize lifetime l = L at HLf hr
  generalize ageAt l asked came now = A at HAg hr
  have HR := Num.hide hr
  unfold Resp.val at HLf HAg ⊢
  clear h hr
  go_enter Tryz.func19, Tryz.ntmps19
  go_upto_region 1 with fail
  generalize w.alloc (.cells #[.int .i64 st, .slice av l.length cv, .string b] 26) = w0 at HF0 ⊢
  have HF1 := Num.hide (HF0.out.step (Below.refl w0.heap.size w0).drew)
  clear HF0
  go_wp2
  refine wp_region_held_drew (S := FAt w st (.slice av l.length cv) l b) (by kernel_rfl) HF1.out (fun hHeld => ?_)
  refine Reg.take (i := 0) (d := 9) (v := ?_) rfl rfl (by kernel_rfl) (by kernel_rfl) (by kernel_rfl) (fun _ _ _ h => h) (by rfl) ?_ hHeld ?_
  rotate_left
  · rintro W ⟨h1, h2, h3, h4, h5⟩
    first | (go_simp; done) | (go_simp; with_reducible rfl)
  simp only [Act.put, List.setIfInBounds_toArray, List.set_cons_zero, List.set_cons_succ]
  refine Reg.take (i := 2) (d := 11) (v := ?_) rfl rfl (by kernel_rfl) (by kernel_rfl) (by kernel_rfl) (fun _ _ _ h => h) (by rfl) ?_ hHeld ?_
  rotate_left
  · rintro W ⟨h1, h2, h3, h4, h5⟩
    first | (go_simp; done) | (go_simp; with_reducible rfl)
  simp only [Act.put, List.setIfInBounds_toArray, List.set_cons_zero, List.set_cons_succ]
  refine Reg.take (i := 3) (d := 12) (v := ?_) rfl rfl (by kernel_rfl) (by kernel_rfl) (by kernel_rfl) (fun _ _ _ h => h) (by rfl) ?_ hHeld ?_
  rotate_left
  · rintro W ⟨h1, h2, h3, h4, h5⟩
    first | (go_simp; done) | (go_simp; with_reducible rfl)
  simp only [Act.put, List.setIfInBounds_toArray, List.set_cons_zero, List.set_cons_succ]
  refine Reg.take (i := 4) (d := 13) (v := ?_) rfl rfl (by kernel_rfl) (by kernel_rfl) (by kernel_rfl) (fun _ _ _ h => h) (by rfl) ?_ hHeld ?_
  rotate_left
  · rintro W ⟨h1, h2, h3, h4, h5⟩
    first | (go_simp; done) | (go_simp; with_reducible rfl)
  simp only [Act.put, List.setIfInBounds_toArray, List.set_cons_zero, List.set_cons_succ]
  refine Reg.take (i := 5) (d := 14) (v := ?_) rfl rfl (by kernel_rfl) (by kernel_rfl) (by kernel_rfl) (fun _ _ _ h => h) (by rfl) ?_ hHeld ?_
  rotate_left
  · rintro W ⟨h1, h2, h3, h4, h5⟩
    first | (go_simp; done) | (go_simp; with_reducible rfl)
  simp only [Act.put, List.setIfInBounds_toArray, List.set_cons_zero, List.set_cons_succ]
  refine Reg.call (i := 1) rfl (by kernel_rfl) (by rfl) (fun K hK => ?_)
  go_wp2_with (first | (go_at_call 16; refine (HLf.out _ hHeld.2.2.2.1).mono ?_; rintro e w2 ⟨rfl, hb2⟩))
  refine hK.out _ _ ?_ (fun hHeld2 => ?_)
  · exact hHeld.step hb2
  clear hK K
  replace hHeld := hHeld2
  clear hHeld2
  refine Reg.call (i := 6) rfl (by kernel_rfl) (by rfl) (fun K hK => ?_)
  go_wp2_with (first | (go_at_call 35; refine (HAg.out _ hHeld.2.2.2.1).mono ?_; rintro e w3 ⟨rfl, hb3⟩))
  refine hK.out _ _ ?_ (fun hHeld2 => ?_)
  · exact hHeld.step hb3
  clear hK K
  replace hHeld := hHeld2
  clear hHeld2
  refine Reg.take (i := 7) (d := 16) (v := ?_) rfl rfl (by kernel_rfl) (by kernel_rfl) (by kernel_rfl) (fun _ _ _ h => h) (by rfl) ?_ hHeld ?_
  rotate_left
  · rintro W ⟨h1, h2, h3, h4, h5⟩
    first | (go_simp; done) | (go_simp; with_reducible rfl)
  simp only [Act.put, List.setIfInBounds_toArray, List.set_cons_zero, List.set_cons_succ]
  refine Reg.take (i := 8) (d := 8) (v := ?_) rfl rfl (by kernel_rfl) (by kernel_rfl) (by kernel_rfl) (fun _ _ _ h => h) (by rfl) ?_ hHeld ?_
  rotate_left
  · rintro W ⟨h1, h2, h3, h4, h5⟩
    first | (go_simp; done) | (go_simp; with_reducible rfl)
  simp only [Act.put, List.setIfInBounds_toArray, List.set_cons_zero, List.set_cons_succ]
  refine wpAnyH_done (by kernel_rfl) ?_ _
  have HB := Num.hide hHeld.2.2.2.2
  clear hHeld HF1
  go_wp2
  go_ret
  exact ⟨by rw [← HR.out]; rfl, HB.out⟩
end Age
end Go.Proofs.YtihiljickefanaaGreatDoor
namespace Go.Proofs.YtihiljickefanaaGreatDoor
open Go.RowKit
set_option linter.unusedVariables false
set_option linter.unusedSimpArgs false
namespace Age

/-- the two boxes that the law loads, and what they lead to -/
abbrev SisFresh (w : World) (g0 g1 : Nat) (st : Int) (a vx : Value) (l : List Flds.Fld) (b : ByteArray) (W : World) : Prop :=
  W.cell? ⟨g0, 0, none⟩ = some (.int .i64 st) ∧ W.cell? ⟨g0, 1, none⟩ = some a ∧ W.cell? ⟨g0, 2, none⟩ = some (.string b) ∧ W.cell? ⟨g1, 0, none⟩ = some (.int .i64 st) ∧ W.cell? ⟨g1, 1, none⟩ = some vx ∧ W.cell? ⟨g1, 2, none⟩ = some (.string b) ∧ Flds.Arg W a l ∧ Flds.Is W vx l ∧ Below w.heap.size w W
theorem SisFresh.step {w : World} {g0 g1 : Nat} {st : Int} {a vx : Value} {l : List Flds.Fld} {b : ByteArray} {W W' : World} (h : SisFresh w g0 g1 st a vx l b W) (hb : Below W.heap.size W W') : SisFresh w g0 g1 st a vx l b W' := by
  obtain ⟨h0, h1, h2, h3, h4, h5, h6, h7, h8⟩ := h
  have l0 : g0 < W.heap.size := Recs.lt_of_cell h0
  have l1 : g1 < W.heap.size := Recs.lt_of_cell h3
  exact ⟨(hb.cell (p := ⟨g0, 0, none⟩) l0).trans h0, (hb.cell (p := ⟨g0, 1, none⟩) l0).trans h1, (hb.cell (p := ⟨g0, 2, none⟩) l0).trans h2, (hb.cell (p := ⟨g1, 0, none⟩) l1).trans h3, (hb.cell (p := ⟨g1, 1, none⟩) l1).trans h4, (hb.cell (p := ⟨g1, 2, none⟩) l1).trans h5, Flds.arg_stay h6 (Nat.le_refl _) hb, Recs.is_below h7 hb, h8.trans (hb.mono h8.size)⟩
set_option maxRecDepth 100000 in
set_option maxHeartbeats 8000000 in
theorem isFresh_law (asked came now : Int) (hx_asked : asked ≤ 9223372036854775807) (hx_came : came ≤ 9223372036854775807) (hx_now : now ≤ 9223372036854775807) (G : World → Prop) (hG : ∀ W W', G W → Below W.heap.size W W' → G W')
    (hi : ∀ (st : Int) (v : Value) (l : List Flds.Fld) (b : ByteArray) W, Flds.Is W v l → Flds.bulk l ≤ 1048576 → b.size ≤ 1048576 → G W → Calls Tryz.prog 12 #[Resp.val st v b, .int .i64 asked, .int .i64 came, .int .i64 now] W fun e w' => e = .returned (.bool (isFresh l asked came now)) ∧ Below W.heap.size W w')
    (st : Int) (a : Value) (l : List Flds.Fld) (b : ByteArray) (w : World) (ha : Flds.Arg w a l) (hb : b.size ≤ maxLen) (hg : G w) :
    Calls Tryz.prog 5 #[Resp.val st a b, .int .i64 asked, .int .i64 came, .int .i64 now] w fun e w' => e = .returned (.bool true) ∧ Below w.heap.size w w' := by
  have HZ := Num.hide (fun W h => Resp.sz_any st a l b 1048576 W h hb (by omega) (by omega))
  have HA := Num.hide ha
  obtain ⟨aa, ca, rfl, _⟩ := Flds.is_form ha.1
  have hb0 : Below w.heap.size w (w.alloc (.cells #[.int .i64 st, (.slice aa l.length ca), .string b] 39)) := (Below.refl _ w).alloc (Nat.le_refl _) _
  have B0 := Num.hide hb0
  have A0 := Num.hide (Flds.arg_stay HA.out (Nat.le_refl _) hb0)
  have X0 := Num.hide (heap_alloc_new w (.cells #[.int .i64 st, (.slice aa l.length ca), .string b] 39))
  have hz0 : w.heap.size < (w.alloc (.cells #[.int .i64 st, (.slice aa l.length ca), .string b] 39)).heap.size := by simp
  clear ha hb0
  unfold Resp.val at HZ ⊢
  by_cases hbk : ¬ (Resp.bulk l b : Int) ≤ 1048576
  · rw [Flds.left_no hbk] at HZ
    clear hi hG hg
    go_enter Tryz.func5, Tryz.ntmps5
    go_wp2_with fail
    refine (HZ.out _ A0.out).mono ?_
    rintro e W1 ⟨rfl, hb1⟩
    have B1 := Num.hide (B0.out.trans (hb1.mono B0.out.size))
    clear hb1
    go_wp2
    go_ret
    exact ⟨rfl, B1.out⟩
  · have hbb := Decidable.not_not.1 hbk
    rw [Flds.left_yes hbb] at HZ
    unfold Resp.bulk at hbb HZ
    have hlen : l.length ≤ 1048576 := by have := Flds.len_le l; omega
    have HTo := Num.hide (fun W h => Resp.to_any st (.slice aa l.length ca) l b W h hlen)
    have HS := Num.hide (fun v W h => isFresh_spec st v l b asked came now W h (by omega) hx_came hx_now)
    have HI := Num.hide (fun v W h (hb : Below w.heap.size w W) => hi st v l b W h (by omega) (by omega) (hG w W hg hb))
    have HEq := Num.hide (fun v1 v2 W h1 h2 => Resp.eq_any st st v1 v2 l l b b W h1 h2 (by omega))
    rw [decide_eq_true ⟨rfl, rfl, rfl⟩] at HEq
    unfold Resp.val at HTo HS HI HEq
    generalize isFresh l asked came now = r at HS HI
    have dz : decide ((1048576 : Int) - ((Flds.bulk l + b.size : Nat) : Int) < 0) = false := by simp; omega
    clear hi hG hg hbk
    go_enter Tryz.func5, Tryz.ntmps5
    go_wp2_with fail
    refine (HZ.out _ A0.out).mono ?_
    rintro e W1 ⟨rfl, hb1⟩
    have A1 := Num.hide (Flds.arg_stay A0.out (Nat.le_refl _) hb1)
    have B1 := Num.hide (B0.out.trans (hb1.mono B0.out.size))
    have X1 := Num.hide ((hb1.block w.heap.size hz0).trans X0.out)
    have z1 := hb1.size
    clear hb1 HZ A0 B0 X0
    obtain ⟨p0, p1, p2⟩ := (⟨Recs.box_cell X1.out 0, Recs.box_cell X1.out 1, Recs.box_cell X1.out 2⟩ : W1.cell? ⟨w.heap.size, 0, none⟩ = some (.int .i64 st) ∧ W1.cell? ⟨w.heap.size, 1, none⟩ = some (.slice aa l.length ca) ∧ W1.cell? ⟨w.heap.size, 2, none⟩ = some (.string b))
    go_wp2_with fail
    refine (HTo.out _ A1.out.1).mono ?_
    rintro e W2 ⟨v2, rfl, ho2, hb2⟩
    obtain ⟨a2, c2, hv2⟩ := Recs.own_len ho2
    subst hv2
    have I2 := Num.hide (Recs.own_is Flds.cells_len ho2)
    have A2 := Num.hide (Flds.arg_stay A1.out (Nat.le_refl _) hb2)
    have B2 := Num.hide (B1.out.trans (hb2.mono B1.out.size))
    have X2 := Num.hide ((hb2.block w.heap.size (by omega)).trans X1.out)
    have z2 := hb2.size
    clear ho2 hb2 A1 B1 X1 p0 p1 p2
    go_wp2_with fail
    refine (HS.out _ _ I2.out).mono ?_
    rintro e W3 ⟨rfl, hb3⟩
    have A3 := Num.hide (Flds.arg_stay A2.out (Nat.le_refl _) hb3)
    have B3 := Num.hide (B2.out.trans (hb3.mono B2.out.size))
    have X3 := Num.hide ((hb3.block w.heap.size (by omega)).trans X2.out)
    have z3 := hb3.size
    clear hb3 A2 B2 X2 I2 HS
    obtain ⟨p0, p1, p2⟩ := (⟨Recs.box_cell X3.out 0, Recs.box_cell X3.out 1, Recs.box_cell X3.out 2⟩ : W3.cell? ⟨w.heap.size, 0, none⟩ = some (.int .i64 st) ∧ W3.cell? ⟨w.heap.size, 1, none⟩ = some (.slice aa l.length ca) ∧ W3.cell? ⟨w.heap.size, 2, none⟩ = some (.string b))
    go_wp2_with fail
    refine (HTo.out _ A3.out.1).mono ?_
    rintro e W4 ⟨v4, rfl, ho4, hb4⟩
    obtain ⟨ax, cx, hv4⟩ := Recs.own_len ho4
    subst hv4
    have I4 := Num.hide (Recs.is_below (Recs.own_is Flds.cells_len ho4) ((Below.refl W4.heap.size W4).alloc (Nat.le_refl _) (.cells #[.int .i64 st, (.slice ax l.length cx), .string b] 26)))
    have A4 := Num.hide (Flds.arg_stay (Flds.arg_stay A3.out (Nat.le_refl _) hb4) (Nat.le_refl _) ((Below.refl W4.heap.size W4).alloc (Nat.le_refl _) (.cells #[.int .i64 st, (.slice ax l.length cx), .string b] 26)))
    have B4 := Num.hide ((B3.out.trans (hb4.mono B3.out.size)).alloc (Nat.le_trans B3.out.size hb4.size) (.cells #[.int .i64 st, (.slice ax l.length cx), .string b] 26))
    have X4 := Num.hide ((((Below.refl W4.heap.size W4).alloc (Nat.le_refl _) (.cells #[.int .i64 st, (.slice ax l.length cx), .string b] 26)).block w.heap.size (by have := hb4.size; omega)).trans ((hb4.block w.heap.size (by omega)).trans X3.out))
    have Y4 := Num.hide (heap_alloc_new W4 (.cells #[.int .i64 st, (.slice ax l.length cx), .string b] 26))
    clear ho4 hb4 A3 B3 X3 p0 p1 p2
    go_upto_region 7 with fail
    generalize W4.alloc (.cells #[.int .i64 st, (.slice ax l.length cx), .string b] 26) = V4 at I4 A4 B4 X4 Y4 ⊢
    generalize W4.heap.size = g1 at Y4 ⊢
    obtain ⟨q0, q1, q2⟩ := (⟨Recs.box_cell Y4.out 0, Recs.box_cell Y4.out 1, Recs.box_cell Y4.out 2⟩ : V4.cell? ⟨g1, 0, none⟩ = some (.int .i64 st) ∧ V4.cell? ⟨g1, 1, none⟩ = some (.slice ax l.length cx) ∧ V4.cell? ⟨g1, 2, none⟩ = some (.string b))
    go_wp2_with fail
    refine (HI.out _ _ I4.out B4.out).mono ?_
    rintro e W5 ⟨rfl, hb5⟩
    have HK : Hid (SisFresh w w.heap.size g1 st (.slice aa l.length ca) (.slice ax l.length cx) l b V4) := ⟨Recs.box_cell X4.out 0, Recs.box_cell X4.out 1, Recs.box_cell X4.out 2, Recs.box_cell Y4.out 0, Recs.box_cell Y4.out 1, Recs.box_cell Y4.out 2, A4.out, I4.out, B4.out⟩
    have HK5 := Num.hide (SisFresh.step HK.out hb5)
    clear hb5 A4 B4 X4 Y4 I4 HK HI q0 q1 q2
    go_wp2_with fail
    refine wp_region_held_drew (S := SisFresh w w.heap.size g1 st (.slice aa l.length ca) (.slice ax l.length cx) l b) (by kernel_rfl) (SisFresh.step HK5.out (Below.refl _ _).drew) (fun hHeld => ?_)
    refine Reg.take (i := 0) (d := 34) (v := ?_) rfl rfl (by kernel_rfl) (by kernel_rfl) (by kernel_rfl) (fun _ _ _ h => h) (by rfl) ?_ hHeld ?_
    rotate_left
    · rintro W ⟨k0, k1, k2, k3, k4, k5, k6, k7, k8⟩
      first | (go_simp; done) | (go_simp; with_reducible rfl)
    simp only [Act.put, List.setIfInBounds_toArray, List.set_cons_zero, List.set_cons_succ]
    refine Reg.take (i := 1) (d := 35) (v := ?_) rfl rfl (by kernel_rfl) (by kernel_rfl) (by kernel_rfl) (fun _ _ _ h => h) (by rfl) ?_ hHeld ?_
    rotate_left
    · rintro W ⟨k0, k1, k2, k3, k4, k5, k6, k7, k8⟩
      first | (go_simp; done) | (go_simp; with_reducible rfl)
    simp only [Act.put, List.setIfInBounds_toArray, List.set_cons_zero, List.set_cons_succ]
    refine Reg.call (i := 2) rfl (by kernel_rfl) (by rfl) (fun K hK => ?_)
    go_wp2_with (first | (go_at_call 17; refine (HTo.out _ hHeld.2.2.2.2.2.2.1.1).mono ?_; rintro e W9 ⟨vy, rfl, ho9, hb9⟩))
    obtain ⟨ay, cy, hvy⟩ := Recs.own_len ho9
    subst hvy
    have HO9 := Num.hide ho9
    have HB9 := Num.hide hb9
    clear ho9 hb9
    refine hK.out _ _ ?_ (fun hHeld2 => ?_)
    · exact SisFresh.step hHeld HB9.out
    clear hK K
    replace hHeld := hHeld2
    clear hHeld2
    refine Reg.call (i := 3) rfl (by kernel_rfl) (by rfl) (fun K hK => ?_)
    go_wp2_with (first | (go_at_call 18; refine (HEq.out _ _ _ hHeld.2.2.2.2.2.2.2.1 (Recs.own_is Flds.cells_len HO9.out)).mono ?_; rintro e W10 ⟨rfl, hb10⟩))
    have HB10 := Num.hide hb10
    clear hb10
    refine hK.out _ _ ?_ (fun hHeld2 => ?_)
    · exact SisFresh.step hHeld HB10.out
    clear hK K
    replace hHeld := hHeld2
    clear hHeld2
    refine Reg.take (i := 4) (d := 38) (v := ?_) rfl rfl (by kernel_rfl) (by kernel_rfl) (by kernel_rfl) (fun _ _ _ h => h) (by rfl) ?_ hHeld ?_
    rotate_left
    · rintro W ⟨k0, k1, k2, k3, k4, k5, k6, k7, k8⟩
      first | (go_simp; done) | (go_simp; with_reducible rfl)
    simp only [Act.put, List.setIfInBounds_toArray, List.set_cons_zero, List.set_cons_succ]
    refine wpAnyH_done (by kernel_rfl) ?_ _
    have HH := Num.hide hHeld.2.2.2.2.2.2.2.2
    go_wp2
    go_ret
    exact ⟨rfl, HH.out⟩
end Age
end Go.Proofs.YtihiljickefanaaGreatDoor
