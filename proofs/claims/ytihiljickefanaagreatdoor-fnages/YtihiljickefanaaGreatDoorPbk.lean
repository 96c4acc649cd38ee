/-
  DrawAge: DrawAgeAt and DrawSatAdd of the specification: bounds alone; what was there stays.
  AtZero: at of the laws: a byte of the code, or none.
-/
import Derived.Test.YtihiljickefanaaGreatDoorPbj
import Derived.Test.YtihiljickefanaaGreatDoorPbe
namespace Go.Proofs.YtihiljickefanaaGreatDoor
open Go.RowKit
set_option linter.unusedVariables false
set_option linter.unusedSimpArgs false
namespace Draw

/-- an answer that is drawn: its box, and the box of what is told -/
structure AgAt (w : World) (C gq : Nat) (st : Int) (v : Value) (l : List Flds.Fld) (b : ByteArray) (X : World) : Prop where
  below : Below w.heap.size w X
  res : X.heap[w.heap.size]? = some zResp
  box : X.heap[gq]? = some (.cells #[.int .i64 st, v, .string b] 26)
  own : Flds.Own (C + 1) X v l
theorem AgAt.step {w : World} {C gq : Nat} {st : Int} {v : Value} {l : List Flds.Fld} {b : ByteArray} {X X' : World} (h : AgAt w C gq st v l b X) (hl : Live w.heap.size C X') (ho : Only C X X') (hC : w.heap.size < C ∧ C < X.heap.size) (hg : C < gq) : AgAt w C gq st v l b X' := by
  have hx : gq < X.heap.size := (Array.getElem?_eq_some_iff.1 h.box).1
  exact ⟨h.below.trans (ho.below (by omega) hC.2), (ho.block _ (by omega) (by omega)).trans h.res, (ho.block _ hx (by omega)).trans h.box, own_only h.own ho (by omega)⟩
theorem agt_end {w : World} {C gq : Nat} {st : Int} {v : Value} {l : List Flds.Fld} {b : ByteArray} {X : World} (h : AgAt w C gq st v l b X) (hC : w.heap.size < C) :
    Flds.Own w.heap.size (((X.setCell ⟨w.heap.size, 0, none⟩ (.int .i64 st)).setCell ⟨w.heap.size, 1, none⟩ v).setCell ⟨w.heap.size, 2, none⟩ (.string b)) v l ∧ Below w.heap.size w (((X.setCell ⟨w.heap.size, 0, none⟩ (.int .i64 st)).setCell ⟨w.heap.size, 1, none⟩ v).setCell ⟨w.heap.size, 2, none⟩ (.string b)) := by
  have n0 : ∀ j, v.ownBlock = some j → j ≠ w.heap.size := fun j hj => by have := (Recs.own_lt h.own j hj).1; omega
  have o1 := Recs.own_set h.own w.heap.size 0 (.int .i64 st) n0
  have o2 := Recs.own_set o1 w.heap.size 1 v n0
  have o3 := Recs.own_set o2 w.heap.size 2 (.string b) n0
  exact ⟨Recs.own_mono o3 (by omega), ((h.below.setCell (p := ⟨w.heap.size, 0, none⟩) (Nat.le_refl _) _).setCell (p := ⟨w.heap.size, 1, none⟩) (Nat.le_refl _) _).setCell (p := ⟨w.heap.size, 2, none⟩) (Nat.le_refl _) _⟩
set_option maxRecDepth 100000 in
set_option maxHeartbeats 4000000 in
theorem drawAgeAt (cap : Nat) (a : Option Addr) (l0 : List Int) (w : World) (hcode : CodeAt w.heap.size w a l0) (hl0 : l0.length ≤ 1048576) :
    Calls Tryz.prog 7 #[.slice a l0.length cap] w fun e w' => ∃ st v l b asked came now, e = .returned (.tuple #[Resp.val st v b, .int .i64 asked, .int .i64 came, .int .i64 now]) ∧ Flds.Own w.heap.size w' v l ∧ Few 6 l ∧ b.size ≤ 64 ∧ 0 ≤ asked ∧ asked ≤ 79 ∧ 0 ≤ came ∧ came ≤ 84 ∧ -2 ≤ now ∧ now ≤ 2000000084 ∧ Below w.heap.size w w' := by
  have hb0 : Below w.heap.size w (w.alloc zResp) := (Below.refl _ _).alloc (Nat.le_refl _) _
  have HC := Num.hide (hcode.below hb0)
  have HZ0 : Hid ((w.alloc zResp).heap[w.heap.size]? = some zResp) := heap_alloc_new w _
  have hz0 : (w.alloc zResp).heap.size = w.heap.size + 1 := by rw [World.size_alloc]
  have HB0 := Num.hide hb0
  clear hcode hb0
  go_enter Tryz.func7, Tryz.ntmps7
  go_wp2_with fail
  refine (new_at w.heap.size cap a l0 _ (by rw [World.size_alloc]; omega) HC.out hl0).mono ?_
  rintro e w1 ⟨C, rfl, hC, h1, b1⟩
  have HL : Hid (Live w.heap.size C w1) := ⟨_, _, _, _, h1⟩
  have hCl := h1.lt
  have hCr : w.heap.size < C := by omega
  have HB1 := Num.hide (HB0.out.trans (b1.mono (by omega)))
  have HZ1 : Hid (w1.heap[w.heap.size]? = some zResp) := (b1.block _ (by omega)).trans HZ0.out
  clear h1 b1 HC HB0 HZ0
  go_wp2_with fail
  refine (l8_live _ C _ HL.out).mono ?_
  rintro e w2 ⟨st, v, l, b, rfl, hv, hf, hb, hl, ho⟩
  have HF := Num.hide hf
  have hz2 := ho.size
  obtain ⟨av, cv, hvv⟩ := Recs.own_len hv
  subst hvv
  have hal : Below w2.heap.size w2 (w2.alloc (.cells #[.int .i64 st, .slice av l.length cv, .string b] 26)) := (Below.refl _ _).alloc (Nat.le_refl _) _
  have HA : Hid (AgAt w C w2.heap.size st (.slice av l.length cv) l b (w2.alloc (.cells #[.int .i64 st, .slice av l.length cv, .string b] 26))) :=
    ⟨(HB1.out.trans (ho.below (by omega) hCl)).trans (hal.mono (by omega)), (heap_alloc_old _ _ (by omega)).trans ((ho.block _ (by omega) (by omega)).trans HZ1.out), heap_alloc_new w2 _, Recs.own_mono (Recs.own_below hv hal) (by omega)⟩
  have HLa := Num.hide (hl.below hal)
  have hCg : C < w2.heap.size := by omega
  unfold Resp.val
  clear hv hf hl ho hal HB1 HZ1 HL
  go_upto_region 3 with fail
  generalize w2.alloc (.cells #[.int .i64 st, .slice av l.length cv, .string b] 26) = w3 at HA HLa ⊢
  generalize w2.heap.size = gq at HA hCg hz2 ⊢
  go_wp2_with fail
  refine (below_live _ C 80 _ HLa.out (by omega) (by omega)).mono ?_
  rintro e w4 ⟨a1, rfl, ha0, ha1, hl, ho⟩
  have HA3 := Num.hide (HA.out.step hl ho ⟨hCr, HLa.out.lt⟩ hCg)
  have HL3 := Num.hide hl
  clear hl ho HA HLa
  go_wp2_with fail
  refine (below_live _ C 6 _ HL3.out (by omega) (by omega)).mono ?_
  rintro e w5 ⟨a2, rfl, hb0, hb1, hl, ho⟩
  have hld := hl.below (Below.refl w5.heap.size w5).drew
  have HA4 := Num.hide ((HA3.out.step hl ho ⟨hCr, HL3.out.lt⟩ hCg).step hld (Only.refl C w5).drew ⟨hCr, hl.lt⟩ hCg)
  have HL4 := Num.hide hld
  clear hl ho hld HA3 HL3
  go_wp2
  refine wp_region_held_drew (S := fun _ => True) (by kernel_rfl) trivial (fun hHeld => ?_)
  generalize w5.drew = wd at HA4 HL4 ⊢
  have hC : w.heap.size < C ∧ C < wd.heap.size := ⟨hCr, HL4.out.lt⟩
  refine Reg.take (i := 1) (d := 21) (v := ?_) rfl rfl (by kernel_rfl) (by kernel_rfl) (by kernel_rfl) (fun _ _ _ h => h) (by rfl) ?_ hHeld ?_
  rotate_left
  · rintro X hX
    first | (go_simp; done) | (go_simp; with_reducible rfl)
  simp only [Act.put, List.setIfInBounds_toArray, List.set_cons_zero, List.set_cons_succ]
  refine Reg.take (i := 2) (d := 22) (v := ?_) rfl rfl (by kernel_rfl) (by kernel_rfl) (by kernel_rfl) (fun _ _ _ h => h) (by rfl) ?_ hHeld ?_
  rotate_left
  · rintro X hX
    first | (go_simp; done) | (go_simp; with_reducible rfl)
  simp only [Act.put, List.setIfInBounds_toArray, List.set_cons_zero, List.set_cons_succ]
  refine Reg.take (i := 3) (d := 23) (v := ?_) rfl rfl (by kernel_rfl) (by kernel_rfl) (by kernel_rfl) (fun _ _ _ h => h) (by rfl) ?_ hHeld ?_
  rotate_left
  · rintro X hX
    first | (go_simp; done) | (go_simp; with_reducible rfl)
  simp only [Act.put, List.setIfInBounds_toArray, List.set_cons_zero, List.set_cons_succ]
  refine Reg.take (i := 4) (d := 24) (v := ?_) rfl rfl (by kernel_rfl) (by kernel_rfl) (by kernel_rfl) (fun _ _ _ h => h) (by rfl) ?_ hHeld ?_
  rotate_left
  · rintro X hX
    first | (go_simp; done) | (go_simp; with_reducible rfl)
  simp only [Act.put, List.setIfInBounds_toArray, List.set_cons_zero, List.set_cons_succ]
  refine Reg.two (i := 0) (j := 5) rfl rfl (by kernel_rfl) (by rfl) (by rfl) (fun K hK => ?_) (fun K hK => ?_)
  · have c0 := Recs.box_cell HA4.out.box 0
    have c1 := Recs.box_cell HA4.out.box 1
    have c2 := Recs.box_cell HA4.out.box 2
    simp only [List.getElem?_toArray, List.getElem?_cons_succ, List.getElem?_cons_zero] at c0 c1 c2
    go_wp2
    clear c0 c1 c2
    refine hK.out _ _ trivial (fun _ => ?_)
    clear hK K
    refine Reg.call (i := 5) rfl (by kernel_rfl) (by rfl) (fun K hK => ?_)
    have HAm := Num.hide (HA4.out.step (HL4.out.alloc (.cells #[.int .i64 0, .int .i64 1, .int .i64 5, .int .i64 30, .int .i64 (-2), .int .i64 2000000000] 3)) ((Only.refl C wd).alloc (.cells #[.int .i64 0, .int .i64 1, .int .i64 5, .int .i64 30, .int .i64 (-2), .int .i64 2000000000] 3)) hC hCg)
    have HLm := Num.hide (HL4.out.alloc (.cells #[.int .i64 0, .int .i64 1, .int .i64 5, .int .i64 30, .int .i64 (-2), .int .i64 2000000000] 3))
    go_wp2
    refine hK.out _ _ trivial (fun _ => ?_)
    clear hK K
    refine Reg.call (i := 6) rfl (by kernel_rfl) (by rfl) (fun K hK => ?_)
    go_wp2_with (first | (go_at_call 23; refine (pickInt_live w.heap.size C wd.heap.size (-2) 2000000000 _ 6 _ HLm.out (by have := HL4.out.lt; omega) (heap_alloc_new wd _) rfl (by omega) (by omega) (by simp only [IntsIn, and_true]; omega)).mono ?_; rintro e wa ⟨z, rfl, hz0, hz1, hl, ho⟩))
    have HAa := Num.hide (HAm.out.step hl ho ⟨hCr, HLm.out.lt⟩ hCg)
    clear hl ho
    refine hK.out _ _ trivial (fun _ => ?_)
    clear hK K
    refine Reg.take (i := 7) (d := 27) (v := ?_) rfl rfl (by kernel_rfl) (by kernel_rfl) (by kernel_rfl) (fun _ _ _ h => h) (by rfl) ?_ hHeld ?_
    rotate_left
    · rintro X hX
      first | (go_simp; done) | (go_simp; with_reducible rfl)
    simp only [Act.put, List.setIfInBounds_toArray, List.set_cons_zero, List.set_cons_succ]
    rw [show IntKind.i64.wrap (a1 + a2 + z) = a1 + a2 + z by rw [IntKind.wrap_i64]; omega]
    refine Reg.call (i := 8) rfl (by kernel_rfl) (by rfl) (fun K hK => ?_)
    have HE := Num.hide (agt_end HAa.out hCr)
    have o0 := Recs.box_cell HAa.out.res 0
    have o1 := Recs.box_cell HAa.out.res 1
    have o2 := Recs.box_cell HAa.out.res 2
    have y0 := Recs.box_thaw HAa.out.res 0
    have y1 := Recs.box_thaw HAa.out.res 1
    have y2 := Recs.box_thaw HAa.out.res 2
    simp only [List.getElem?_toArray, List.getElem?_cons_succ, List.getElem?_cons_zero] at o0 o1 o2
    obtain ⟨r, hr⟩ : ∃ r, w.heap.size = r := ⟨_, rfl⟩
    rw [hr] at HE o0 o1 o2 y0 y1 y2 ⊢
    go_wp2
    refine hK.out _ _ trivial (fun _ => ?_)
    clear hK K
    refine Reg.take (i := 9) (d := 3) (v := ?_) rfl rfl (by kernel_rfl) (by kernel_rfl) (by kernel_rfl) (fun _ _ _ h => h) (by rfl) ?_ hHeld ?_
    rotate_left
    · rintro X hX
      first | (go_simp; done) | (go_simp; with_reducible rfl)
    simp only [Act.put, List.setIfInBounds_toArray, List.set_cons_zero, List.set_cons_succ]
    refine Reg.take (i := 10) (d := 4) (v := ?_) rfl rfl (by kernel_rfl) (by kernel_rfl) (by kernel_rfl) (fun _ _ _ h => h) (by rfl) ?_ hHeld ?_
    rotate_left
    · rintro X hX
      first | (go_simp; done) | (go_simp; with_reducible rfl)
    simp only [Act.put, List.setIfInBounds_toArray, List.set_cons_zero, List.set_cons_succ]
    refine Reg.take (i := 11) (d := 5) (v := ?_) rfl rfl (by kernel_rfl) (by kernel_rfl) (by kernel_rfl) (fun _ _ _ h => h) (by rfl) ?_ hHeld ?_
    rotate_left
    · rintro X hX
      first | (go_simp; done) | (go_simp; with_reducible rfl)
    simp only [Act.put, List.setIfInBounds_toArray, List.set_cons_zero, List.set_cons_succ]
    refine wpAnyH_done (by kernel_rfl) ?_ _
    go_wp2
    exact bodyPost_ret (v := .tuple #[.agg #[.int .i64 st, .slice av l.length cv, .string b], .int .i64 a1, .int .i64 (a1 + a2), .int .i64 (a1 + a2 + z)]) (by simp [results, Tryz.results7, go_sem, *]) rfl ⟨st, _, l, b, a1, a1 + a2, a1 + a2 + z, rfl, hr ▸ HE.out.1, HF.out, hb, by omega, by omega, by omega, by omega, by omega, by omega, hr ▸ HE.out.2⟩
  · have HAm := Num.hide (HA4.out.step (HL4.out.alloc (.cells #[.int .i64 0, .int .i64 1, .int .i64 5, .int .i64 30, .int .i64 (-2), .int .i64 2000000000] 3)) ((Only.refl C wd).alloc (.cells #[.int .i64 0, .int .i64 1, .int .i64 5, .int .i64 30, .int .i64 (-2), .int .i64 2000000000] 3)) hC hCg)
    have HLm := Num.hide (HL4.out.alloc (.cells #[.int .i64 0, .int .i64 1, .int .i64 5, .int .i64 30, .int .i64 (-2), .int .i64 2000000000] 3))
    go_wp2
    refine hK.out _ _ trivial (fun _ => ?_)
    clear hK K
    refine Reg.two (i := 0) (j := 6) rfl rfl (by kernel_rfl) (by rfl) (by rfl) (fun K hK => ?_) (fun K hK => ?_)
    · have c0 := Recs.box_cell HAm.out.box 0
      have c1 := Recs.box_cell HAm.out.box 1
      have c2 := Recs.box_cell HAm.out.box 2
      simp only [List.getElem?_toArray, List.getElem?_cons_succ, List.getElem?_cons_zero] at c0 c1 c2
      go_wp2
      clear c0 c1 c2
      refine hK.out _ _ trivial (fun _ => ?_)
      clear hK K
      refine Reg.call (i := 6) rfl (by kernel_rfl) (by rfl) (fun K hK => ?_)
      go_wp2_with (first | (go_at_call 23; refine (pickInt_live w.heap.size C wd.heap.size (-2) 2000000000 _ 6 _ HLm.out (by have := HL4.out.lt; omega) (heap_alloc_new wd _) rfl (by omega) (by omega) (by simp only [IntsIn, and_true]; omega)).mono ?_; rintro e wa ⟨z, rfl, hz0, hz1, hl, ho⟩))
      have HAa := Num.hide (HAm.out.step hl ho ⟨hCr, HLm.out.lt⟩ hCg)
      clear hl ho
      refine hK.out _ _ trivial (fun _ => ?_)
      clear hK K
      refine Reg.take (i := 7) (d := 27) (v := ?_) rfl rfl (by kernel_rfl) (by kernel_rfl) (by kernel_rfl) (fun _ _ _ h => h) (by rfl) ?_ hHeld ?_
      rotate_left
      · rintro X hX
        first | (go_simp; done) | (go_simp; with_reducible rfl)
      simp only [Act.put, List.setIfInBounds_toArray, List.set_cons_zero, List.set_cons_succ]
      rw [show IntKind.i64.wrap (a1 + a2 + z) = a1 + a2 + z by rw [IntKind.wrap_i64]; omega]
      refine Reg.call (i := 8) rfl (by kernel_rfl) (by rfl) (fun K hK => ?_)
      have HE := Num.hide (agt_end HAa.out hCr)
      have o0 := Recs.box_cell HAa.out.res 0
      have o1 := Recs.box_cell HAa.out.res 1
      have o2 := Recs.box_cell HAa.out.res 2
      have y0 := Recs.box_thaw HAa.out.res 0
      have y1 := Recs.box_thaw HAa.out.res 1
      have y2 := Recs.box_thaw HAa.out.res 2
      simp only [List.getElem?_toArray, List.getElem?_cons_succ, List.getElem?_cons_zero] at o0 o1 o2
      obtain ⟨r, hr⟩ : ∃ r, w.heap.size = r := ⟨_, rfl⟩
      rw [hr] at HE o0 o1 o2 y0 y1 y2 ⊢
      go_wp2
      refine hK.out _ _ trivial (fun _ => ?_)
      clear hK K
      refine Reg.take (i := 9) (d := 3) (v := ?_) rfl rfl (by kernel_rfl) (by kernel_rfl) (by kernel_rfl) (fun _ _ _ h => h) (by rfl) ?_ hHeld ?_
      rotate_left
      · rintro X hX
        first | (go_simp; done) | (go_simp; with_reducible rfl)
      simp only [Act.put, List.setIfInBounds_toArray, List.set_cons_zero, List.set_cons_succ]
      refine Reg.take (i := 10) (d := 4) (v := ?_) rfl rfl (by kernel_rfl) (by kernel_rfl) (by kernel_rfl) (fun _ _ _ h => h) (by rfl) ?_ hHeld ?_
      rotate_left
      · rintro X hX
        first | (go_simp; done) | (go_simp; with_reducible rfl)
      simp only [Act.put, List.setIfInBounds_toArray, List.set_cons_zero, List.set_cons_succ]
      refine Reg.take (i := 11) (d := 5) (v := ?_) rfl rfl (by kernel_rfl) (by kernel_rfl) (by kernel_rfl) (fun _ _ _ h => h) (by rfl) ?_ hHeld ?_
      rotate_left
      · rintro X hX
        first | (go_simp; done) | (go_simp; with_reducible rfl)
      simp only [Act.put, List.setIfInBounds_toArray, List.set_cons_zero, List.set_cons_succ]
      refine wpAnyH_done (by kernel_rfl) ?_ _
      go_wp2
      exact bodyPost_ret (v := .tuple #[.agg #[.int .i64 st, .slice av l.length cv, .string b], .int .i64 a1, .int .i64 (a1 + a2), .int .i64 (a1 + a2 + z)]) (by simp [results, Tryz.results7, go_sem, *]) rfl ⟨st, _, l, b, a1, a1 + a2, a1 + a2 + z, rfl, hr ▸ HE.out.1, HF.out, hb, by omega, by omega, by omega, by omega, by omega, by omega, hr ▸ HE.out.2⟩
    · go_wp2_with (first | (go_at_call 23; refine (pickInt_live w.heap.size C wd.heap.size (-2) 2000000000 _ 6 _ HLm.out (by have := HL4.out.lt; omega) (heap_alloc_new wd _) rfl (by omega) (by omega) (by simp only [IntsIn, and_true]; omega)).mono ?_; rintro e wa ⟨z, rfl, hz0, hz1, hl, ho⟩))
      have HAa := Num.hide (HAm.out.step hl ho ⟨hCr, HLm.out.lt⟩ hCg)
      clear hl ho
      refine hK.out _ _ trivial (fun _ => ?_)
      clear hK K
      refine Reg.take (i := 7) (d := 27) (v := ?_) rfl rfl (by kernel_rfl) (by kernel_rfl) (by kernel_rfl) (fun _ _ _ h => h) (by rfl) ?_ hHeld ?_
      rotate_left
      · rintro X hX
        first | (go_simp; done) | (go_simp; with_reducible rfl)
      simp only [Act.put, List.setIfInBounds_toArray, List.set_cons_zero, List.set_cons_succ]
      rw [show IntKind.i64.wrap (a1 + a2 + z) = a1 + a2 + z by rw [IntKind.wrap_i64]; omega]
      refine Reg.call (i := 0) rfl (by kernel_rfl) (by rfl) (fun K hK => ?_)
      have c0 := Recs.box_cell HAa.out.box 0
      have c1 := Recs.box_cell HAa.out.box 1
      have c2 := Recs.box_cell HAa.out.box 2
      simp only [List.getElem?_toArray, List.getElem?_cons_succ, List.getElem?_cons_zero] at c0 c1 c2
      go_wp2
      clear c0 c1 c2
      refine hK.out _ _ trivial (fun _ => ?_)
      clear hK K
      refine Reg.call (i := 8) rfl (by kernel_rfl) (by rfl) (fun K hK => ?_)
      have HE := Num.hide (agt_end HAa.out hCr)
      have o0 := Recs.box_cell HAa.out.res 0
      have o1 := Recs.box_cell HAa.out.res 1
      have o2 := Recs.box_cell HAa.out.res 2
      have y0 := Recs.box_thaw HAa.out.res 0
      have y1 := Recs.box_thaw HAa.out.res 1
      have y2 := Recs.box_thaw HAa.out.res 2
      simp only [List.getElem?_toArray, List.getElem?_cons_succ, List.getElem?_cons_zero] at o0 o1 o2
      obtain ⟨r, hr⟩ : ∃ r, w.heap.size = r := ⟨_, rfl⟩
      rw [hr] at HE o0 o1 o2 y0 y1 y2 ⊢
      go_wp2
      refine hK.out _ _ trivial (fun _ => ?_)
      clear hK K
      refine Reg.take (i := 9) (d := 3) (v := ?_) rfl rfl (by kernel_rfl) (by kernel_rfl) (by kernel_rfl) (fun _ _ _ h => h) (by rfl) ?_ hHeld ?_
      rotate_left
      · rintro X hX
        first | (go_simp; done) | (go_simp; with_reducible rfl)
      simp only [Act.put, List.setIfInBounds_toArray, List.set_cons_zero, List.set_cons_succ]
      refine Reg.take (i := 10) (d := 4) (v := ?_) rfl rfl (by kernel_rfl) (by kernel_rfl) (by kernel_rfl) (fun _ _ _ h => h) (by rfl) ?_ hHeld ?_
      rotate_left
      · rintro X hX
        first | (go_simp; done) | (go_simp; with_reducible rfl)
      simp only [Act.put, List.setIfInBounds_toArray, List.set_cons_zero, List.set_cons_succ]
      refine Reg.take (i := 11) (d := 5) (v := ?_) rfl rfl (by kernel_rfl) (by kernel_rfl) (by kernel_rfl) (fun _ _ _ h => h) (by rfl) ?_ hHeld ?_
      rotate_left
      · rintro X hX
        first | (go_simp; done) | (go_simp; with_reducible rfl)
      simp only [Act.put, List.setIfInBounds_toArray, List.set_cons_zero, List.set_cons_succ]
      refine wpAnyH_done (by kernel_rfl) ?_ _
      go_wp2
      exact bodyPost_ret (v := .tuple #[.agg #[.int .i64 st, .slice av l.length cv, .string b], .int .i64 a1, .int .i64 (a1 + a2), .int .i64 (a1 + a2 + z)]) (by simp [results, Tryz.results7, go_sem, *]) rfl ⟨st, _, l, b, a1, a1 + a2, a1 + a2 + z, rfl, hr ▸ HE.out.1, HF.out, hb, by omega, by omega, by omega, by omega, by omega, by omega, hr ▸ HE.out.2⟩
set_option maxRecDepth 100000 in
set_option maxHeartbeats 2000000 in
theorem drawSat (cap : Nat) (a : Option Addr) (l0 : List Int) (w : World) (hcode : CodeAt w.heap.size w a l0) (hl0 : l0.length ≤ 1048576) :
    Calls Tryz.prog 13 #[.slice a l0.length cap] w fun e w' => ∃ x y, e = .returned (.tuple #[.int .i64 x, .int .i64 y]) ∧ (-9223372036854775807 ≤ x ∧ x ≤ 9223372036854775807) ∧ (-9223372036854775807 ≤ y ∧ y ≤ 9223372036854775807) ∧ Below w.heap.size w w' := by
  have HC := Num.hide hcode
  clear hcode
  go_enter Tryz.func13, Tryz.ntmps13
  go_wp2_with fail
  refine (new_at w.heap.size cap a l0 _ (Nat.le_refl _) HC.out hl0).mono ?_
  rintro e w1 ⟨C, rfl, hC, h1, b1⟩
  have HL : Hid (Live w.heap.size C w1) := ⟨_, _, _, _, h1⟩
  have HB1 := Num.hide b1
  have hCl := h1.lt
  clear h1 b1
  go_wp2_with fail
  refine (pickInt_live w.heap.size C w1.heap.size (-9223372036854775807) 9223372036854775807 _ 7 _ (HL.out.alloc _) (by omega) (heap_alloc_new w1 _) rfl (by omega) (by omega) (by simp only [IntsIn, and_true]; omega)).mono ?_
  rintro e w2 ⟨x, rfl, hx0, hx1, hl2, hn2⟩
  have HB2 := Num.hide ((HB1.out.alloc HB1.out.size _).trans (hn2.below hC (by simp; omega)))
  have HL2 := Num.hide hl2
  have hs2 := hn2.size
  clear hl2 hn2 HL
  go_wp2_with fail
  refine (pickInt_live w.heap.size C w2.heap.size (-9223372036854775807) 9223372036854775807 _ 6 _ (HL2.out.alloc _) (by have := HL2.out.lt; omega) (heap_alloc_new w2 _) rfl (by omega) (by omega) (by simp only [IntsIn, and_true]; omega)).mono ?_
  rintro e w3 ⟨y, rfl, hy0, hy1, hl3, hn3⟩
  have HB3 := Num.hide ((HB2.out.alloc HB2.out.size _).trans (hn3.below hC (by have := HL2.out.lt; simp; omega)))
  clear hl3 hn3
  go_wp2
  go_ret2
  exact ⟨_, _, rfl, ⟨hx0, hx1⟩, ⟨hy0, hy1⟩, HB3.out⟩
end Draw
end Go.Proofs.YtihiljickefanaaGreatDoor
namespace Go.Proofs.YtihiljickefanaaGreatDoor
open Go.RowKit
set_option linter.unusedVariables false
namespace Draw

set_option maxRecDepth 100000 in
set_option maxHeartbeats 1000000 in
theorem at_zero (B cap : Nat) (a : Option Addr) (l : List Int) (w : World) (hcode : CodeAt B w a l) (hl : l.length ≤ 1048576) :
    Calls Tryz.prog 9 #[.slice a l.length cap, .int .i64 0] w fun e w' => ∃ z : Int, e = .returned (.int .i64 z) ∧ 0 ≤ z ∧ z ≤ 255 ∧ w = w' := by
  by_cases h0 : (0 : Int) < (l.length : Int)
  · rcases hcode.2 with hn | ⟨b, off, rfl, hbB, hc⟩
    · rw [hn] at h0; simp at h0
    · have hz := hcode.1 0 (by omega)
      have hck := hc 0 (by omega)
      rw [Nat.add_zero] at hck
      generalize l[0]'(by omega) = z at hz hck
      have HC := Num.hide hcode
      clear hcode hc HC
      go_enter Tryz.func9, Tryz.ntmps9
      go_wp2
      go_ret
      exact ⟨z, rfl, hz.1, hz.2, rfl⟩
  · have d0 : decide ((0 : Int) < (l.length : Int)) = false := by rw [decide_eq_false_iff_not]; exact h0
    clear hcode
    go_enter Tryz.func9, Tryz.ntmps9
    go_wp2
    go_ret
    exact ⟨_, rfl, by omega, by omega, rfl⟩
end Draw
end Go.Proofs.YtihiljickefanaaGreatDoor
