/-
  DrawMust: DrawMustCheck of the specification: bounds alone, and that the quotes end in what is said of caching; what was there stays.
  PutAll: append of one list of fields behind another, in a row of the call's own: as one step of a walk, whether the second is nil or not.
  StrictMid: What a list of fields with one more behind it leaves, made by a call of its own and stored in a box of its own; and the boxes of a request, an answer and two fields.
-/
import Derived.Test.YtjeokackmkfooaaGreatDoorPbc
import Derived.Test.YtjeokackmkfooaaGreatDoorPae
import Derived.Laws.OwnMore
import Derived.Laws.AppendOwn
import Derived.Test.YtjeokackmkfooaaGreatDoorPag
namespace Go.Proofs.YtjeokackmkfooaaGreatDoor
open Go.RowKit
set_option linter.unusedVariables false
set_option linter.unusedSimpArgs false
namespace Draw

/-- a request and an answer that are drawn: their boxes, and the boxes of what is told -/
structure MgAt (w : World) (C gq gr : Nat) (m u : ByteArray) (v1 : Value) (l1 : List Flds.Fld) (b1 : ByteArray) (st : Int) (v2 : Value) (l2 : List Flds.Fld) (b2 : ByteArray) (X : World) : Prop where
  below : Below w.heap.size w X
  rq : X.heap[w.heap.size]? = some zReq
  rr : X.heap[w.heap.size + 1]? = some zResp
  bq : X.heap[gq]? = some (.cells #[.string m, .string u, v1, .string b1] 26)
  br : X.heap[gr]? = some (.cells #[.int .i64 st, v2, .string b2] 28)
  o1 : Flds.Own (C + 1) X v1 l1
  o2 : Flds.Own (C + 1) X v2 l2
theorem MgAt.step {w : World} {C gq gr : Nat} {m u : ByteArray} {v1 : Value} {l1 : List Flds.Fld} {b1 : ByteArray} {st : Int} {v2 : Value} {l2 : List Flds.Fld} {b2 : ByteArray} {X X' : World} (h : MgAt w C gq gr m u v1 l1 b1 st v2 l2 b2 X) (hl : Live w.heap.size C X') (ho : Only C X X') (hC : w.heap.size + 1 < C ∧ C < X.heap.size) (hgq : C < gq) (hgr : C < gr) : MgAt w C gq gr m u v1 l1 b1 st v2 l2 b2 X' := by
  have hx : gq < X.heap.size := (Array.getElem?_eq_some_iff.1 h.bq).1
  have hy : gr < X.heap.size := (Array.getElem?_eq_some_iff.1 h.br).1
  exact ⟨h.below.trans (ho.below (by omega) hC.2), (ho.block _ (by omega) (by omega)).trans h.rq, (ho.block _ (by omega) (by omega)).trans h.rr, (ho.block _ hx (by omega)).trans h.bq, (ho.block _ hy (by omega)).trans h.br, own_only h.o1 ho (by omega), own_only h.o2 ho (by omega)⟩
theorem mgt_end {w : World} {C gq gr : Nat} {m u : ByteArray} {v1 : Value} {l1 : List Flds.Fld} {b1 : ByteArray} {st : Int} {v2 : Value} {l2 : List Flds.Fld} {b2 : ByteArray} {X : World} (h : MgAt w C gq gr m u v1 l1 b1 st v2 l2 b2 X) (hC : w.heap.size + 1 < C) :
    Flds.Own w.heap.size (((((((X.setCell ⟨w.heap.size, 0, none⟩ (.string m)).setCell ⟨w.heap.size, 1, none⟩ (.string u)).setCell ⟨w.heap.size, 2, none⟩ v1).setCell ⟨w.heap.size, 3, none⟩ (.string b1)).setCell ⟨w.heap.size + 1, 0, none⟩ (.int .i64 st)).setCell ⟨w.heap.size + 1, 1, none⟩ v2).setCell ⟨w.heap.size + 1, 2, none⟩ (.string b2)) v1 l1 ∧ Flds.Own w.heap.size (((((((X.setCell ⟨w.heap.size, 0, none⟩ (.string m)).setCell ⟨w.heap.size, 1, none⟩ (.string u)).setCell ⟨w.heap.size, 2, none⟩ v1).setCell ⟨w.heap.size, 3, none⟩ (.string b1)).setCell ⟨w.heap.size + 1, 0, none⟩ (.int .i64 st)).setCell ⟨w.heap.size + 1, 1, none⟩ v2).setCell ⟨w.heap.size + 1, 2, none⟩ (.string b2)) v2 l2 ∧ Below w.heap.size w (((((((X.setCell ⟨w.heap.size, 0, none⟩ (.string m)).setCell ⟨w.heap.size, 1, none⟩ (.string u)).setCell ⟨w.heap.size, 2, none⟩ v1).setCell ⟨w.heap.size, 3, none⟩ (.string b1)).setCell ⟨w.heap.size + 1, 0, none⟩ (.int .i64 st)).setCell ⟨w.heap.size + 1, 1, none⟩ v2).setCell ⟨w.heap.size + 1, 2, none⟩ (.string b2)) := by
  have n01 : ∀ j, v1.ownBlock = some j → j ≠ w.heap.size := fun j hj => by have := (Recs.own_lt h.o1 j hj).1; omega
  have n11 : ∀ j, v1.ownBlock = some j → j ≠ w.heap.size + 1 := fun j hj => by have := (Recs.own_lt h.o1 j hj).1; omega
  have n02 : ∀ j, v2.ownBlock = some j → j ≠ w.heap.size := fun j hj => by have := (Recs.own_lt h.o2 j hj).1; omega
  have n12 : ∀ j, v2.ownBlock = some j → j ≠ w.heap.size + 1 := fun j hj => by have := (Recs.own_lt h.o2 j hj).1; omega
  exact ⟨Recs.own_mono (Recs.own_set (Recs.own_set (Recs.own_set (Recs.own_set (Recs.own_set (Recs.own_set (Recs.own_set h.o1 w.heap.size 0 (.string m) n01) w.heap.size 1 (.string u) n01) w.heap.size 2 v1 n01) w.heap.size 3 (.string b1) n01) (w.heap.size + 1) 0 (.int .i64 st) n11) (w.heap.size + 1) 1 v2 n11) (w.heap.size + 1) 2 (.string b2) n11) (by omega), Recs.own_mono (Recs.own_set (Recs.own_set (Recs.own_set (Recs.own_set (Recs.own_set (Recs.own_set (Recs.own_set h.o2 w.heap.size 0 (.string m) n02) w.heap.size 1 (.string u) n02) w.heap.size 2 v1 n02) w.heap.size 3 (.string b1) n02) (w.heap.size + 1) 0 (.int .i64 st) n12) (w.heap.size + 1) 1 v2 n12) (w.heap.size + 1) 2 (.string b2) n12) (by omega), (((((((h.below.setCell (p := ⟨w.heap.size, 0, none⟩) (by show w.heap.size ≤ w.heap.size; omega) (.string m)).setCell (p := ⟨w.heap.size, 1, none⟩) (by show w.heap.size ≤ w.heap.size; omega) (.string u)).setCell (p := ⟨w.heap.size, 2, none⟩) (by show w.heap.size ≤ w.heap.size; omega) v1).setCell (p := ⟨w.heap.size, 3, none⟩) (by show w.heap.size ≤ w.heap.size; omega) (.string b1)).setCell (p := ⟨(w.heap.size + 1), 0, none⟩) (by show w.heap.size ≤ (w.heap.size + 1); omega) (.int .i64 st)).setCell (p := ⟨(w.heap.size + 1), 1, none⟩) (by show w.heap.size ≤ (w.heap.size + 1); omega) v2).setCell (p := ⟨(w.heap.size + 1), 2, none⟩) (by show w.heap.size ≤ (w.heap.size + 1); omega) (.string b2))⟩
set_option maxRecDepth 100000 in
set_option maxHeartbeats 8000000 in
theorem drawMust (cap : Nat) (a : Option Addr) (l0 : List Int) (w : World) (hcode : CodeAt w.heap.size w a l0) (hl0 : l0.length ≤ 1048576) :
    Calls Tryz.prog 7 #[.slice a l0.length cap] w fun e w' => ∃ m u v1 l1 b1 st v2 l2 b2 asked came now, e = .returned (.tuple #[Req.val m u v1 b1, Resp.val st v2 b2, .int .i64 asked, .int .i64 came, .int .i64 now]) ∧ Flds.Own w.heap.size w' v1 l1 ∧ Flds.Own w.heap.size w' v2 l2 ∧ (Few 2 l1 ∧ AllSaid l1) ∧ (Few 6 l2 ∧ AllSaid l2) ∧ (m.size ≤ 64 ∧ u.size ≤ 64 ∧ b1.size ≤ 64 ∧ b2.size ≤ 64) ∧ 0 ≤ asked ∧ asked ≤ 59 ∧ 0 ≤ came ∧ came ≤ 63 ∧ 0 ≤ now ∧ now ≤ 77 ∧ Below w.heap.size w w' := by
  have e0 : (w.alloc zReq).heap.size = w.heap.size + 1 := by rw [World.size_alloc]
  have hb0 : Below w.heap.size w ((w.alloc zReq).alloc zResp) := ((Below.refl _ _).alloc (Nat.le_refl _) _).alloc (by omega) _
  have HC := Num.hide (hcode.below hb0)
  have HZ0 : Hid (((w.alloc zReq).alloc zResp).heap[w.heap.size]? = some zReq) := (heap_alloc_old _ _ (by omega)).trans (heap_alloc_new w _)
  have HY0 : Hid (((w.alloc zReq).alloc zResp).heap[w.heap.size + 1]? = some zResp) := by
    have := heap_alloc_new (w.alloc zReq) zResp
    rw [e0] at this
    exact this
  have hz0 : ((w.alloc zReq).alloc zResp).heap.size = w.heap.size + 2 := by rw [World.size_alloc, e0]
  have HB0 := Num.hide hb0
  clear hcode hb0 e0
  go_enter Tryz.func7, Tryz.ntmps7
  go_wp2_with fail
  refine (new_at w.heap.size cap a l0 _ (by omega) HC.out hl0).mono ?_
  rintro e w1 ⟨C, rfl, hC, h1, b1'⟩
  have HL : Hid (Live w.heap.size C w1) := ⟨_, _, _, _, h1⟩
  have hCl := h1.lt
  have hCr : w.heap.size + 1 < C := by omega
  have HB1 := Num.hide (HB0.out.trans (b1'.mono (by omega)))
  have HZ1 : Hid (w1.heap[w.heap.size]? = some zReq) := (b1'.block _ (by omega)).trans HZ0.out
  have HY1 : Hid (w1.heap[w.heap.size + 1]? = some zResp) := (b1'.block _ (by omega)).trans HY0.out
  clear h1 b1' HC HB0 HZ0 HY0
  go_wp2_with fail
  refine (req_q _ C _ HL.out).mono ?_
  rintro e w2 ⟨m, u, v1, l1, b1, rfl, hm, hu, hv1, hf1, hs1, hb1, hl, ho⟩
  have HF1 : Hid (Few 2 l1 ∧ AllSaid l1) := ⟨hf1, hs1⟩
  have hz2 := ho.size
  obtain ⟨av1, cv1, hvv⟩ := Recs.own_len hv1
  subst hvv
  have hal : Below w2.heap.size w2 (w2.alloc (.cells #[.string m, .string u, .slice av1 l1.length cv1, .string b1] 26)) := (Below.refl _ _).alloc (Nat.le_refl _) _
  have HB2 := Num.hide ((HB1.out.trans (ho.below (by omega) hCl)).trans (hal.mono (by omega)))
  have HZ2 : Hid ((w2.alloc (.cells #[.string m, .string u, .slice av1 l1.length cv1, .string b1] 26)).heap[w.heap.size]? = some zReq) := (heap_alloc_old _ _ (by omega)).trans ((ho.block _ (by omega) (by omega)).trans HZ1.out)
  have HY2 : Hid ((w2.alloc (.cells #[.string m, .string u, .slice av1 l1.length cv1, .string b1] 26)).heap[w.heap.size + 1]? = some zResp) := (heap_alloc_old _ _ (by omega)).trans ((ho.block _ (by omega) (by omega)).trans HY1.out)
  have HQ2 : Hid ((w2.alloc (.cells #[.string m, .string u, .slice av1 l1.length cv1, .string b1] 26)).heap[w2.heap.size]? = some (.cells #[.string m, .string u, .slice av1 l1.length cv1, .string b1] 26)) := heap_alloc_new w2 _
  have HO2 := Num.hide (Recs.own_mono (Recs.own_below hv1 hal) (by omega : C + 1 ≤ w1.heap.size))
  have HL2 := Num.hide (hl.below hal)
  have hgq : C < w2.heap.size := by omega
  have hz3 : (w2.alloc (.cells #[.string m, .string u, .slice av1 l1.length cv1, .string b1] 26)).heap.size = w2.heap.size + 1 := by rw [World.size_alloc]
  unfold Req.val
  clear hv1 hf1 hs1 hl ho hal HB1 HZ1 HY1 HL
  go_upto_region 3 with fail
  generalize w2.alloc (.cells #[.string m, .string u, .slice av1 l1.length cv1, .string b1] 26) = w3 at HB2 HZ2 HY2 HQ2 HO2 HL2 hz3 ⊢
  generalize w2.heap.size = gq at HQ2 hgq hz2 hz3 ⊢
  go_wp2_with fail
  refine (l8_q _ C _ HL2.out).mono ?_
  rintro e w4 ⟨st, v2, l2, b2, rfl, hv2, hf2, hs2, hb2, hl, ho⟩
  have HF2 : Hid (Few 6 l2 ∧ AllSaid l2) := ⟨hf2, hs2⟩
  have hsz : m.size ≤ 64 ∧ u.size ≤ 64 ∧ b1.size ≤ 64 ∧ b2.size ≤ 64 := ⟨hm, hu, hb1, hb2⟩
  have hz4 := ho.size
  obtain ⟨av2, cv2, hvv⟩ := Recs.own_len hv2
  subst hvv
  have hal : Below w4.heap.size w4 (w4.alloc (.cells #[.int .i64 st, .slice av2 l2.length cv2, .string b2] 28)) := (Below.refl _ _).alloc (Nat.le_refl _) _
  have HA : Hid (MgAt w C gq w4.heap.size m u (.slice av1 l1.length cv1) l1 b1 st (.slice av2 l2.length cv2) l2 b2 (w4.alloc (.cells #[.int .i64 st, .slice av2 l2.length cv2, .string b2] 28))) :=
    ⟨(HB2.out.trans (ho.below (by omega) HL2.out.lt)).trans (hal.mono (by omega)), (heap_alloc_old _ _ (by omega)).trans ((ho.block _ (by omega) (by omega)).trans HZ2.out), (heap_alloc_old _ _ (by omega)).trans ((ho.block _ (by omega) (by omega)).trans HY2.out),
      (heap_alloc_old _ _ (by omega)).trans ((ho.block _ (by omega) (by omega)).trans HQ2.out), heap_alloc_new w4 _, Recs.own_below (own_only HO2.out ho (by omega)) hal, Recs.own_mono (Recs.own_below hv2 hal) (by omega)⟩
  have HLa := Num.hide (hl.below hal)
  have hgr : C < w4.heap.size := by omega
  unfold Resp.val
  clear hv2 hf2 hs2 hl ho hal HB2 HZ2 HY2 HQ2 HO2 HL2 hm hu hb1 hb2
  go_upto_region 4 with fail
  generalize w4.alloc (.cells #[.int .i64 st, .slice av2 l2.length cv2, .string b2] 28) = w5 at HA HLa ⊢
  generalize w4.heap.size = gr at HA hgr hz4 ⊢
  go_wp2_with fail
  refine (below_live _ C 60 _ HLa.out (by omega) (by omega)).mono ?_
  rintro e w6 ⟨a1, rfl, ha0, ha1, hl, ho⟩
  have HA3 := Num.hide (HA.out.step hl ho ⟨hCr, HLa.out.lt⟩ hgq hgr)
  have HL3 := Num.hide hl
  clear hl ho HA HLa
  go_wp2_with fail
  refine (below_live _ C 5 _ HL3.out (by omega) (by omega)).mono ?_
  rintro e w7 ⟨a2, rfl, hb0, hb1, hl, ho⟩
  have hld := hl.below (Below.refl w7.heap.size w7).drew
  have HA4 := Num.hide ((HA3.out.step hl ho ⟨hCr, HL3.out.lt⟩ hgq hgr).step hld (Only.refl C w7).drew ⟨hCr, hl.lt⟩ hgq hgr)
  have HL4 := Num.hide hld
  clear hl ho hld HA3 HL3
  go_wp2
  refine wp_region_held_drew (S := fun _ => True) (by kernel_rfl) trivial (fun hHeld => ?_)
  generalize w7.drew = wd at HA4 HL4 ⊢
  refine Reg.take (i := 2) (d := 26) (v := ?_) rfl rfl (by kernel_rfl) (by kernel_rfl) (by kernel_rfl) (fun _ _ _ h => h) (by rfl) ?_ hHeld ?_
  rotate_left
  · rintro X hX
    first | (go_simp; done) | (go_simp; with_reducible rfl)
  simp only [Act.put, List.setIfInBounds_toArray, List.set_cons_zero, List.set_cons_succ]
  refine Reg.take (i := 3) (d := 27) (v := ?_) rfl rfl (by kernel_rfl) (by kernel_rfl) (by kernel_rfl) (fun _ _ _ h => h) (by rfl) ?_ hHeld ?_
  rotate_left
  · rintro X hX
    first | (go_simp; done) | (go_simp; with_reducible rfl)
  simp only [Act.put, List.setIfInBounds_toArray, List.set_cons_zero, List.set_cons_succ]
  refine Reg.take (i := 4) (d := 28) (v := ?_) rfl rfl (by kernel_rfl) (by kernel_rfl) (by kernel_rfl) (fun _ _ _ h => h) (by rfl) ?_ hHeld ?_
  rotate_left
  · rintro X hX
    first | (go_simp; done) | (go_simp; with_reducible rfl)
  simp only [Act.put, List.setIfInBounds_toArray, List.set_cons_zero, List.set_cons_succ]
  refine Reg.take (i := 5) (d := 29) (v := ?_) rfl rfl (by kernel_rfl) (by kernel_rfl) (by kernel_rfl) (fun _ _ _ h => h) (by rfl) ?_ hHeld ?_
  rotate_left
  · rintro X hX
    first | (go_simp; done) | (go_simp; with_reducible rfl)
  simp only [Act.put, List.setIfInBounds_toArray, List.set_cons_zero, List.set_cons_succ]
  refine Reg.three (i := 0) (j := 1) (k := 6) rfl rfl rfl (by kernel_rfl) (by rfl) (by rfl) (by rfl) (fun K hK => ?_) (fun K hK => ?_) (fun K hK => ?_)
  · have c0 := Recs.box_cell HA4.out.bq 0
    have c1 := Recs.box_cell HA4.out.bq 1
    have c2 := Recs.box_cell HA4.out.bq 2
    have c3 := Recs.box_cell HA4.out.bq 3
    simp only [List.getElem?_toArray, List.getElem?_cons_succ, List.getElem?_cons_zero] at c0 c1 c2 c3
    go_wp2
    clear c0 c1 c2 c3
    refine hK.out _ _ trivial (fun _ => ?_)
    clear hK K
    refine Reg.two (i := 1) (j := 6) rfl rfl (by kernel_rfl) (by rfl) (by rfl) (fun K hK => ?_) (fun K hK => ?_)
    · have c0 := Recs.box_cell HA4.out.br 0
      have c1 := Recs.box_cell HA4.out.br 1
      have c2 := Recs.box_cell HA4.out.br 2
      simp only [List.getElem?_toArray, List.getElem?_cons_succ, List.getElem?_cons_zero] at c0 c1 c2
      go_wp2
      clear c0 c1 c2
      refine hK.out _ _ trivial (fun _ => ?_)
      clear hK K
      refine Reg.call (i := 6) rfl (by kernel_rfl) (by rfl) (fun K hK => ?_)
      go_wp2_with (first | (go_at_call 24; refine (below_live w.heap.size C 15 _ HL4.out (by omega) (by omega)).mono ?_; rintro e wa ⟨z, rfl, hz0, hz1, hl, ho⟩))
      have HAa := Num.hide (HA4.out.step hl ho ⟨hCr, HL4.out.lt⟩ hgq hgr)
      clear hl ho
      refine hK.out _ _ trivial (fun _ => ?_)
      clear hK K
      refine Reg.take (i := 7) (d := 31) (v := ?_) rfl rfl (by kernel_rfl) (by kernel_rfl) (by kernel_rfl) (fun _ _ _ h => h) (by rfl) ?_ hHeld ?_
      rotate_left
      · rintro X hX
        first | (go_simp; done) | (go_simp; with_reducible rfl)
      simp only [Act.put, List.setIfInBounds_toArray, List.set_cons_zero, List.set_cons_succ]
      rw [show IntKind.i64.wrap (a1 + a2 + z) = a1 + a2 + z by rw [IntKind.wrap_i64]; omega]
      have HE := Num.hide (mgt_end HAa.out hCr)
      have o0 := Recs.box_cell HAa.out.rq 0
      have y0 := Recs.box_thaw HAa.out.rq 0
      have o1 := Recs.box_cell HAa.out.rq 1
      have y1 := Recs.box_thaw HAa.out.rq 1
      have o2 := Recs.box_cell HAa.out.rq 2
      have y2 := Recs.box_thaw HAa.out.rq 2
      have o3 := Recs.box_cell HAa.out.rq 3
      have y3 := Recs.box_thaw HAa.out.rq 3
      have p0 := Recs.box_cell HAa.out.rr 0
      have z0 := Recs.box_thaw HAa.out.rr 0
      have p1 := Recs.box_cell HAa.out.rr 1
      have z1 := Recs.box_thaw HAa.out.rr 1
      have p2 := Recs.box_cell HAa.out.rr 2
      have z2 := Recs.box_thaw HAa.out.rr 2
      simp only [List.getElem?_toArray, List.getElem?_cons_succ, List.getElem?_cons_zero] at o0 o1 o2 o3 p0 p1 p2
      have e2 : ¬ w.heap.size + 1 = w.heap.size := by omega
      have e3 : ¬ w.heap.size = w.heap.size + 1 := by omega
      obtain ⟨r, hr⟩ : ∃ r, w.heap.size = r := ⟨_, rfl⟩
      rw [hr] at HE o0 o1 o2 o3 y0 y1 y2 y3 p0 p1 p2 z0 z1 z2 e2 e3 ⊢
      clear HAa HA4
      refine Reg.call (i := 8) rfl (by kernel_rfl) (by rfl) (fun K hK => ?_)
      go_wp2
      refine hK.out _ _ trivial (fun _ => ?_)
      clear hK K
      refine Reg.call (i := 9) rfl (by kernel_rfl) (by rfl) (fun K hK => ?_)
      go_wp2
      refine hK.out _ _ trivial (fun _ => ?_)
      clear hK K
      refine Reg.take (i := 10) (d := 4) (v := ?_) rfl rfl (by kernel_rfl) (by kernel_rfl) (by kernel_rfl) (fun _ _ _ h => h) (by rfl) ?_ hHeld ?_
      rotate_left
      · rintro X hX
        first | (go_simp; done) | (go_simp; with_reducible rfl)
      simp only [Act.put, List.setIfInBounds_toArray, List.set_cons_zero, List.set_cons_succ]
      refine Reg.take (i := 11) (d := 5) (v := ?_) rfl rfl (by kernel_rfl) (by kernel_rfl) (by kernel_rfl) (fun _ _ _ h => h) (by rfl) ?_ hHeld ?_
      rotate_left
      · rintro X hX
        first | (go_simp; done) | (go_simp; with_reducible rfl)
      simp only [Act.put, List.setIfInBounds_toArray, List.set_cons_zero, List.set_cons_succ]
      refine Reg.take (i := 12) (d := 6) (v := ?_) rfl rfl (by kernel_rfl) (by kernel_rfl) (by kernel_rfl) (fun _ _ _ h => h) (by rfl) ?_ hHeld ?_
      rotate_left
      · rintro X hX
        first | (go_simp; done) | (go_simp; with_reducible rfl)
      simp only [Act.put, List.setIfInBounds_toArray, List.set_cons_zero, List.set_cons_succ]
      refine wpAnyH_done (by kernel_rfl) ?_ _
      go_wp2
      refine bodyPost_ret (v := .tuple #[.agg #[.string m, .string u, .slice av1 l1.length cv1, .string b1], .agg #[.int .i64 st, .slice av2 l2.length cv2, .string b2], .int .i64 a1, .int .i64 (a1 + a2), .int .i64 (a1 + a2 + z)]) (by simp [results, Tryz.results7, go_sem, *]) rfl ?_
      subst hr
      exact ⟨m, u, _, l1, b1, st, _, l2, b2, a1, a1 + a2, a1 + a2 + z, rfl, HE.out.1, HE.out.2.1, HF1.out, HF2.out, hsz, by omega, by omega, by omega, by omega, by omega, by omega, HE.out.2.2⟩
    · go_wp2_with (first | (go_at_call 24; refine (below_live w.heap.size C 15 _ HL4.out (by omega) (by omega)).mono ?_; rintro e wa ⟨z, rfl, hz0, hz1, hl, ho⟩))
      have HAa := Num.hide (HA4.out.step hl ho ⟨hCr, HL4.out.lt⟩ hgq hgr)
      clear hl ho
      refine hK.out _ _ trivial (fun _ => ?_)
      clear hK K
      refine Reg.take (i := 7) (d := 31) (v := ?_) rfl rfl (by kernel_rfl) (by kernel_rfl) (by kernel_rfl) (fun _ _ _ h => h) (by rfl) ?_ hHeld ?_
      rotate_left
      · rintro X hX
        first | (go_simp; done) | (go_simp; with_reducible rfl)
      simp only [Act.put, List.setIfInBounds_toArray, List.set_cons_zero, List.set_cons_succ]
      rw [show IntKind.i64.wrap (a1 + a2 + z) = a1 + a2 + z by rw [IntKind.wrap_i64]; omega]
      refine Reg.two (i := 1) (j := 8) rfl rfl (by kernel_rfl) (by rfl) (by rfl) (fun K hK => ?_) (fun K hK => ?_)
      · have c0 := Recs.box_cell HAa.out.br 0
        have c1 := Recs.box_cell HAa.out.br 1
        have c2 := Recs.box_cell HAa.out.br 2
        simp only [List.getElem?_toArray, List.getElem?_cons_succ, List.getElem?_cons_zero] at c0 c1 c2
        go_wp2
        clear c0 c1 c2
        refine hK.out _ _ trivial (fun _ => ?_)
        clear hK K
        have HE := Num.hide (mgt_end HAa.out hCr)
        have o0 := Recs.box_cell HAa.out.rq 0
        have y0 := Recs.box_thaw HAa.out.rq 0
        have o1 := Recs.box_cell HAa.out.rq 1
        have y1 := Recs.box_thaw HAa.out.rq 1
        have o2 := Recs.box_cell HAa.out.rq 2
        have y2 := Recs.box_thaw HAa.out.rq 2
        have o3 := Recs.box_cell HAa.out.rq 3
        have y3 := Recs.box_thaw HAa.out.rq 3
        have p0 := Recs.box_cell HAa.out.rr 0
        have z0 := Recs.box_thaw HAa.out.rr 0
        have p1 := Recs.box_cell HAa.out.rr 1
        have z1 := Recs.box_thaw HAa.out.rr 1
        have p2 := Recs.box_cell HAa.out.rr 2
        have z2 := Recs.box_thaw HAa.out.rr 2
        simp only [List.getElem?_toArray, List.getElem?_cons_succ, List.getElem?_cons_zero] at o0 o1 o2 o3 p0 p1 p2
        have e2 : ¬ w.heap.size + 1 = w.heap.size := by omega
        have e3 : ¬ w.heap.size = w.heap.size + 1 := by omega
        obtain ⟨r, hr⟩ : ∃ r, w.heap.size = r := ⟨_, rfl⟩
        rw [hr] at HE o0 o1 o2 o3 y0 y1 y2 y3 p0 p1 p2 z0 z1 z2 e2 e3 ⊢
        clear HAa HA4
        refine Reg.call (i := 8) rfl (by kernel_rfl) (by rfl) (fun K hK => ?_)
        go_wp2
        refine hK.out _ _ trivial (fun _ => ?_)
        clear hK K
        refine Reg.call (i := 9) rfl (by kernel_rfl) (by rfl) (fun K hK => ?_)
        go_wp2
        refine hK.out _ _ trivial (fun _ => ?_)
        clear hK K
        refine Reg.take (i := 10) (d := 4) (v := ?_) rfl rfl (by kernel_rfl) (by kernel_rfl) (by kernel_rfl) (fun _ _ _ h => h) (by rfl) ?_ hHeld ?_
        rotate_left
        · rintro X hX
          first | (go_simp; done) | (go_simp; with_reducible rfl)
        simp only [Act.put, List.setIfInBounds_toArray, List.set_cons_zero, List.set_cons_succ]
        refine Reg.take (i := 11) (d := 5) (v := ?_) rfl rfl (by kernel_rfl) (by kernel_rfl) (by kernel_rfl) (fun _ _ _ h => h) (by rfl) ?_ hHeld ?_
        rotate_left
        · rintro X hX
          first | (go_simp; done) | (go_simp; with_reducible rfl)
        simp only [Act.put, List.setIfInBounds_toArray, List.set_cons_zero, List.set_cons_succ]
        refine Reg.take (i := 12) (d := 6) (v := ?_) rfl rfl (by kernel_rfl) (by kernel_rfl) (by kernel_rfl) (fun _ _ _ h => h) (by rfl) ?_ hHeld ?_
        rotate_left
        · rintro X hX
          first | (go_simp; done) | (go_simp; with_reducible rfl)
        simp only [Act.put, List.setIfInBounds_toArray, List.set_cons_zero, List.set_cons_succ]
        refine wpAnyH_done (by kernel_rfl) ?_ _
        go_wp2
        refine bodyPost_ret (v := .tuple #[.agg #[.string m, .string u, .slice av1 l1.length cv1, .string b1], .agg #[.int .i64 st, .slice av2 l2.length cv2, .string b2], .int .i64 a1, .int .i64 (a1 + a2), .int .i64 (a1 + a2 + z)]) (by simp [results, Tryz.results7, go_sem, *]) rfl ?_
        subst hr
        exact ⟨m, u, _, l1, b1, st, _, l2, b2, a1, a1 + a2, a1 + a2 + z, rfl, HE.out.1, HE.out.2.1, HF1.out, HF2.out, hsz, by omega, by omega, by omega, by omega, by omega, by omega, HE.out.2.2⟩
      · have HE := Num.hide (mgt_end HAa.out hCr)
        have o0 := Recs.box_cell HAa.out.rq 0
        have y0 := Recs.box_thaw HAa.out.rq 0
        have o1 := Recs.box_cell HAa.out.rq 1
        have y1 := Recs.box_thaw HAa.out.rq 1
        have o2 := Recs.box_cell HAa.out.rq 2
        have y2 := Recs.box_thaw HAa.out.rq 2
        have o3 := Recs.box_cell HAa.out.rq 3
        have y3 := Recs.box_thaw HAa.out.rq 3
        have p0 := Recs.box_cell HAa.out.rr 0
        have z0 := Recs.box_thaw HAa.out.rr 0
        have p1 := Recs.box_cell HAa.out.rr 1
        have z1 := Recs.box_thaw HAa.out.rr 1
        have p2 := Recs.box_cell HAa.out.rr 2
        have z2 := Recs.box_thaw HAa.out.rr 2
        have HG := Num.hide (show ((((wa.setCell ⟨w.heap.size, 0, none⟩ (.string m)).setCell ⟨w.heap.size, 1, none⟩ (.string u)).setCell ⟨w.heap.size, 2, none⟩ (.slice av1 l1.length cv1)).setCell ⟨w.heap.size, 3, none⟩ (.string b1)).heap[gr]? = _ from Recs.box_far (Recs.box_far (Recs.box_far (Recs.box_far HAa.out.br _ (by omega)) _ (by omega)) _ (by omega)) _ (by omega))
        simp only [List.getElem?_toArray, List.getElem?_cons_succ, List.getElem?_cons_zero] at o0 o1 o2 o3 p0 p1 p2
        have e2 : ¬ w.heap.size + 1 = w.heap.size := by omega
        have e3 : ¬ w.heap.size = w.heap.size + 1 := by omega
        obtain ⟨r, hr⟩ : ∃ r, w.heap.size = r := ⟨_, rfl⟩
        rw [hr] at HE o0 o1 o2 o3 y0 y1 y2 y3 p0 p1 p2 z0 z1 z2 e2 e3 HG ⊢
        clear HAa HA4
        go_wp2
        refine hK.out _ _ trivial (fun _ => ?_)
        clear hK K
        refine Reg.call (i := 1) rfl (by kernel_rfl) (by rfl) (fun K hK => ?_)
        have c0 := Recs.box_cell HG.out 0
        have c1 := Recs.box_cell HG.out 1
        have c2 := Recs.box_cell HG.out 2
        simp only [List.getElem?_toArray, List.getElem?_cons_succ, List.getElem?_cons_zero] at c0 c1 c2
        go_wp2
        clear c0 c1 c2 HG
        refine hK.out _ _ trivial (fun _ => ?_)
        clear hK K
        refine Reg.call (i := 9) rfl (by kernel_rfl) (by rfl) (fun K hK => ?_)
        go_wp2
        refine hK.out _ _ trivial (fun _ => ?_)
        clear hK K
        refine Reg.take (i := 10) (d := 4) (v := ?_) rfl rfl (by kernel_rfl) (by kernel_rfl) (by kernel_rfl) (fun _ _ _ h => h) (by rfl) ?_ hHeld ?_
        rotate_left
        · rintro X hX
          first | (go_simp; done) | (go_simp; with_reducible rfl)
        simp only [Act.put, List.setIfInBounds_toArray, List.set_cons_zero, List.set_cons_succ]
        refine Reg.take (i := 11) (d := 5) (v := ?_) rfl rfl (by kernel_rfl) (by kernel_rfl) (by kernel_rfl) (fun _ _ _ h => h) (by rfl) ?_ hHeld ?_
        rotate_left
        · rintro X hX
          first | (go_simp; done) | (go_simp; with_reducible rfl)
        simp only [Act.put, List.setIfInBounds_toArray, List.set_cons_zero, List.set_cons_succ]
        refine Reg.take (i := 12) (d := 6) (v := ?_) rfl rfl (by kernel_rfl) (by kernel_rfl) (by kernel_rfl) (fun _ _ _ h => h) (by rfl) ?_ hHeld ?_
        rotate_left
        · rintro X hX
          first | (go_simp; done) | (go_simp; with_reducible rfl)
        simp only [Act.put, List.setIfInBounds_toArray, List.set_cons_zero, List.set_cons_succ]
        refine wpAnyH_done (by kernel_rfl) ?_ _
        go_wp2
        refine bodyPost_ret (v := .tuple #[.agg #[.string m, .string u, .slice av1 l1.length cv1, .string b1], .agg #[.int .i64 st, .slice av2 l2.length cv2, .string b2], .int .i64 a1, .int .i64 (a1 + a2), .int .i64 (a1 + a2 + z)]) (by simp [results, Tryz.results7, go_sem, *]) rfl ?_
        subst hr
        exact ⟨m, u, _, l1, b1, st, _, l2, b2, a1, a1 + a2, a1 + a2 + z, rfl, HE.out.1, HE.out.2.1, HF1.out, HF2.out, hsz, by omega, by omega, by omega, by omega, by omega, by omega, HE.out.2.2⟩
  · have c0 := Recs.box_cell HA4.out.br 0
    have c1 := Recs.box_cell HA4.out.br 1
    have c2 := Recs.box_cell HA4.out.br 2
    simp only [List.getElem?_toArray, List.getElem?_cons_succ, List.getElem?_cons_zero] at c0 c1 c2
    go_wp2
    clear c0 c1 c2
    refine hK.out _ _ trivial (fun _ => ?_)
    clear hK K
    refine Reg.two (i := 0) (j := 6) rfl rfl (by kernel_rfl) (by rfl) (by rfl) (fun K hK => ?_) (fun K hK => ?_)
    · have c0 := Recs.box_cell HA4.out.bq 0
      have c1 := Recs.box_cell HA4.out.bq 1
      have c2 := Recs.box_cell HA4.out.bq 2
      have c3 := Recs.box_cell HA4.out.bq 3
      simp only [List.getElem?_toArray, List.getElem?_cons_succ, List.getElem?_cons_zero] at c0 c1 c2 c3
      go_wp2
      clear c0 c1 c2 c3
      refine hK.out _ _ trivial (fun _ => ?_)
      clear hK K
      refine Reg.call (i := 6) rfl (by kernel_rfl) (by rfl) (fun K hK => ?_)
      go_wp2_with (first | (go_at_call 24; refine (below_live w.heap.size C 15 _ HL4.out (by omega) (by omega)).mono ?_; rintro e wa ⟨z, rfl, hz0, hz1, hl, ho⟩))
      have HAa := Num.hide (HA4.out.step hl ho ⟨hCr, HL4.out.lt⟩ hgq hgr)
      clear hl ho
      refine hK.out _ _ trivial (fun _ => ?_)
      clear hK K
      refine Reg.take (i := 7) (d := 31) (v := ?_) rfl rfl (by kernel_rfl) (by kernel_rfl) (by kernel_rfl) (fun _ _ _ h => h) (by rfl) ?_ hHeld ?_
      rotate_left
      · rintro X hX
        first | (go_simp; done) | (go_simp; with_reducible rfl)
      simp only [Act.put, List.setIfInBounds_toArray, List.set_cons_zero, List.set_cons_succ]
      rw [show IntKind.i64.wrap (a1 + a2 + z) = a1 + a2 + z by rw [IntKind.wrap_i64]; omega]
      have HE := Num.hide (mgt_end HAa.out hCr)
      have o0 := Recs.box_cell HAa.out.rq 0
      have y0 := Recs.box_thaw HAa.out.rq 0
      have o1 := Recs.box_cell HAa.out.rq 1
      have y1 := Recs.box_thaw HAa.out.rq 1
      have o2 := Recs.box_cell HAa.out.rq 2
      have y2 := Recs.box_thaw HAa.out.rq 2
      have o3 := Recs.box_cell HAa.out.rq 3
      have y3 := Recs.box_thaw HAa.out.rq 3
      have p0 := Recs.box_cell HAa.out.rr 0
      have z0 := Recs.box_thaw HAa.out.rr 0
      have p1 := Recs.box_cell HAa.out.rr 1
      have z1 := Recs.box_thaw HAa.out.rr 1
      have p2 := Recs.box_cell HAa.out.rr 2
      have z2 := Recs.box_thaw HAa.out.rr 2
      simp only [List.getElem?_toArray, List.getElem?_cons_succ, List.getElem?_cons_zero] at o0 o1 o2 o3 p0 p1 p2
      have e2 : ¬ w.heap.size + 1 = w.heap.size := by omega
      have e3 : ¬ w.heap.size = w.heap.size + 1 := by omega
      obtain ⟨r, hr⟩ : ∃ r, w.heap.size = r := ⟨_, rfl⟩
      rw [hr] at HE o0 o1 o2 o3 y0 y1 y2 y3 p0 p1 p2 z0 z1 z2 e2 e3 ⊢
      clear HAa HA4
      refine Reg.call (i := 8) rfl (by kernel_rfl) (by rfl) (fun K hK => ?_)
      go_wp2
      refine hK.out _ _ trivial (fun _ => ?_)
      clear hK K
      refine Reg.call (i := 9) rfl (by kernel_rfl) (by rfl) (fun K hK => ?_)
      go_wp2
      refine hK.out _ _ trivial (fun _ => ?_)
      clear hK K
      refine Reg.take (i := 10) (d := 4) (v := ?_) rfl rfl (by kernel_rfl) (by kernel_rfl) (by kernel_rfl) (fun _ _ _ h => h) (by rfl) ?_ hHeld ?_
      rotate_left
      · rintro X hX
        first | (go_simp; done) | (go_simp; with_reducible rfl)
      simp only [Act.put, List.setIfInBounds_toArray, List.set_cons_zero, List.set_cons_succ]
      refine Reg.take (i := 11) (d := 5) (v := ?_) rfl rfl (by kernel_rfl) (by kernel_rfl) (by kernel_rfl) (fun _ _ _ h => h) (by rfl) ?_ hHeld ?_
      rotate_left
      · rintro X hX
        first | (go_simp; done) | (go_simp; with_reducible rfl)
      simp only [Act.put, List.setIfInBounds_toArray, List.set_cons_zero, List.set_cons_succ]
      refine Reg.take (i := 12) (d := 6) (v := ?_) rfl rfl (by kernel_rfl) (by kernel_rfl) (by kernel_rfl) (fun _ _ _ h => h) (by rfl) ?_ hHeld ?_
      rotate_left
      · rintro X hX
        first | (go_simp; done) | (go_simp; with_reducible rfl)
      simp only [Act.put, List.setIfInBounds_toArray, List.set_cons_zero, List.set_cons_succ]
      refine wpAnyH_done (by kernel_rfl) ?_ _
      go_wp2
      refine bodyPost_ret (v := .tuple #[.agg #[.string m, .string u, .slice av1 l1.length cv1, .string b1], .agg #[.int .i64 st, .slice av2 l2.length cv2, .string b2], .int .i64 a1, .int .i64 (a1 + a2), .int .i64 (a1 + a2 + z)]) (by simp [results, Tryz.results7, go_sem, *]) rfl ?_
      subst hr
      exact ⟨m, u, _, l1, b1, st, _, l2, b2, a1, a1 + a2, a1 + a2 + z, rfl, HE.out.1, HE.out.2.1, HF1.out, HF2.out, hsz, by omega, by omega, by omega, by omega, by omega, by omega, HE.out.2.2⟩
    · go_wp2_with (first | (go_at_call 24; refine (below_live w.heap.size C 15 _ HL4.out (by omega) (by omega)).mono ?_; rintro e wa ⟨z, rfl, hz0, hz1, hl, ho⟩))
      have HAa := Num.hide (HA4.out.step hl ho ⟨hCr, HL4.out.lt⟩ hgq hgr)
      clear hl ho
      refine hK.out _ _ trivial (fun _ => ?_)
      clear hK K
      refine Reg.take (i := 7) (d := 31) (v := ?_) rfl rfl (by kernel_rfl) (by kernel_rfl) (by kernel_rfl) (fun _ _ _ h => h) (by rfl) ?_ hHeld ?_
      rotate_left
      · rintro X hX
        first | (go_simp; done) | (go_simp; with_reducible rfl)
      simp only [Act.put, List.setIfInBounds_toArray, List.set_cons_zero, List.set_cons_succ]
      rw [show IntKind.i64.wrap (a1 + a2 + z) = a1 + a2 + z by rw [IntKind.wrap_i64]; omega]
      refine Reg.call (i := 0) rfl (by kernel_rfl) (by rfl) (fun K hK => ?_)
      have c0 := Recs.box_cell HAa.out.bq 0
      have c1 := Recs.box_cell HAa.out.bq 1
      have c2 := Recs.box_cell HAa.out.bq 2
      have c3 := Recs.box_cell HAa.out.bq 3
      simp only [List.getElem?_toArray, List.getElem?_cons_succ, List.getElem?_cons_zero] at c0 c1 c2 c3
      go_wp2
      clear c0 c1 c2 c3
      refine hK.out _ _ trivial (fun _ => ?_)
      clear hK K
      have HE := Num.hide (mgt_end HAa.out hCr)
      have o0 := Recs.box_cell HAa.out.rq 0
      have y0 := Recs.box_thaw HAa.out.rq 0
      have o1 := Recs.box_cell HAa.out.rq 1
      have y1 := Recs.box_thaw HAa.out.rq 1
      have o2 := Recs.box_cell HAa.out.rq 2
      have y2 := Recs.box_thaw HAa.out.rq 2
      have o3 := Recs.box_cell HAa.out.rq 3
      have y3 := Recs.box_thaw HAa.out.rq 3
      have p0 := Recs.box_cell HAa.out.rr 0
      have z0 := Recs.box_thaw HAa.out.rr 0
      have p1 := Recs.box_cell HAa.out.rr 1
      have z1 := Recs.box_thaw HAa.out.rr 1
      have p2 := Recs.box_cell HAa.out.rr 2
      have z2 := Recs.box_thaw HAa.out.rr 2
      simp only [List.getElem?_toArray, List.getElem?_cons_succ, List.getElem?_cons_zero] at o0 o1 o2 o3 p0 p1 p2
      have e2 : ¬ w.heap.size + 1 = w.heap.size := by omega
      have e3 : ¬ w.heap.size = w.heap.size + 1 := by omega
      obtain ⟨r, hr⟩ : ∃ r, w.heap.size = r := ⟨_, rfl⟩
      rw [hr] at HE o0 o1 o2 o3 y0 y1 y2 y3 p0 p1 p2 z0 z1 z2 e2 e3 ⊢
      clear HAa HA4
      refine Reg.call (i := 8) rfl (by kernel_rfl) (by rfl) (fun K hK => ?_)
      go_wp2
      refine hK.out _ _ trivial (fun _ => ?_)
      clear hK K
      refine Reg.call (i := 9) rfl (by kernel_rfl) (by rfl) (fun K hK => ?_)
      go_wp2
      refine hK.out _ _ trivial (fun _ => ?_)
      clear hK K
      refine Reg.take (i := 10) (d := 4) (v := ?_) rfl rfl (by kernel_rfl) (by kernel_rfl) (by kernel_rfl) (fun _ _ _ h => h) (by rfl) ?_ hHeld ?_
      rotate_left
      · rintro X hX
        first | (go_simp; done) | (go_simp; with_reducible rfl)
      simp only [Act.put, List.setIfInBounds_toArray, List.set_cons_zero, List.set_cons_succ]
      refine Reg.take (i := 11) (d := 5) (v := ?_) rfl rfl (by kernel_rfl) (by kernel_rfl) (by kernel_rfl) (fun _ _ _ h => h) (by rfl) ?_ hHeld ?_
      rotate_left
      · rintro X hX
        first | (go_simp; done) | (go_simp; with_reducible rfl)
      simp only [Act.put, List.setIfInBounds_toArray, List.set_cons_zero, List.set_cons_succ]
      refine Reg.take (i := 12) (d := 6) (v := ?_) rfl rfl (by kernel_rfl) (by kernel_rfl) (by kernel_rfl) (fun _ _ _ h => h) (by rfl) ?_ hHeld ?_
      rotate_left
      · rintro X hX
        first | (go_simp; done) | (go_simp; with_reducible rfl)
      simp only [Act.put, List.setIfInBounds_toArray, List.set_cons_zero, List.set_cons_succ]
      refine wpAnyH_done (by kernel_rfl) ?_ _
      go_wp2
      refine bodyPost_ret (v := .tuple #[.agg #[.string m, .string u, .slice av1 l1.length cv1, .string b1], .agg #[.int .i64 st, .slice av2 l2.length cv2, .string b2], .int .i64 a1, .int .i64 (a1 + a2), .int .i64 (a1 + a2 + z)]) (by simp [results, Tryz.results7, go_sem, *]) rfl ?_
      subst hr
      exact ⟨m, u, _, l1, b1, st, _, l2, b2, a1, a1 + a2, a1 + a2 + z, rfl, HE.out.1, HE.out.2.1, HF1.out, HF2.out, hsz, by omega, by omega, by omega, by omega, by omega, by omega, HE.out.2.2⟩
  · go_wp2_with (first | (go_at_call 24; refine (below_live w.heap.size C 15 _ HL4.out (by omega) (by omega)).mono ?_; rintro e wa ⟨z, rfl, hz0, hz1, hl, ho⟩))
    have HAa := Num.hide (HA4.out.step hl ho ⟨hCr, HL4.out.lt⟩ hgq hgr)
    clear hl ho
    refine hK.out _ _ trivial (fun _ => ?_)
    clear hK K
    refine Reg.take (i := 7) (d := 31) (v := ?_) rfl rfl (by kernel_rfl) (by kernel_rfl) (by kernel_rfl) (fun _ _ _ h => h) (by rfl) ?_ hHeld ?_
    rotate_left
    · rintro X hX
      first | (go_simp; done) | (go_simp; with_reducible rfl)
    simp only [Act.put, List.setIfInBounds_toArray, List.set_cons_zero, List.set_cons_succ]
    rw [show IntKind.i64.wrap (a1 + a2 + z) = a1 + a2 + z by rw [IntKind.wrap_i64]; omega]
    refine Reg.two (i := 0) (j := 1) rfl rfl (by kernel_rfl) (by rfl) (by rfl) (fun K hK => ?_) (fun K hK => ?_)
    · have c0 := Recs.box_cell HAa.out.bq 0
      have c1 := Recs.box_cell HAa.out.bq 1
      have c2 := Recs.box_cell HAa.out.bq 2
      have c3 := Recs.box_cell HAa.out.bq 3
      simp only [List.getElem?_toArray, List.getElem?_cons_succ, List.getElem?_cons_zero] at c0 c1 c2 c3
      go_wp2
      clear c0 c1 c2 c3
      refine hK.out _ _ trivial (fun _ => ?_)
      clear hK K
      refine Reg.two (i := 1) (j := 8) rfl rfl (by kernel_rfl) (by rfl) (by rfl) (fun K hK => ?_) (fun K hK => ?_)
      · have c0 := Recs.box_cell HAa.out.br 0
        have c1 := Recs.box_cell HAa.out.br 1
        have c2 := Recs.box_cell HAa.out.br 2
        simp only [List.getElem?_toArray, List.getElem?_cons_succ, List.getElem?_cons_zero] at c0 c1 c2
        go_wp2
        clear c0 c1 c2
        refine hK.out _ _ trivial (fun _ => ?_)
        clear hK K
        have HE := Num.hide (mgt_end HAa.out hCr)
        have o0 := Recs.box_cell HAa.out.rq 0
        have y0 := Recs.box_thaw HAa.out.rq 0
        have o1 := Recs.box_cell HAa.out.rq 1
        have y1 := Recs.box_thaw HAa.out.rq 1
        have o2 := Recs.box_cell HAa.out.rq 2
        have y2 := Recs.box_thaw HAa.out.rq 2
        have o3 := Recs.box_cell HAa.out.rq 3
        have y3 := Recs.box_thaw HAa.out.rq 3
        have p0 := Recs.box_cell HAa.out.rr 0
        have z0 := Recs.box_thaw HAa.out.rr 0
        have p1 := Recs.box_cell HAa.out.rr 1
        have z1 := Recs.box_thaw HAa.out.rr 1
        have p2 := Recs.box_cell HAa.out.rr 2
        have z2 := Recs.box_thaw HAa.out.rr 2
        simp only [List.getElem?_toArray, List.getElem?_cons_succ, List.getElem?_cons_zero] at o0 o1 o2 o3 p0 p1 p2
        have e2 : ¬ w.heap.size + 1 = w.heap.size := by omega
        have e3 : ¬ w.heap.size = w.heap.size + 1 := by omega
        obtain ⟨r, hr⟩ : ∃ r, w.heap.size = r := ⟨_, rfl⟩
        rw [hr] at HE o0 o1 o2 o3 y0 y1 y2 y3 p0 p1 p2 z0 z1 z2 e2 e3 ⊢
        clear HAa HA4
        refine Reg.call (i := 8) rfl (by kernel_rfl) (by rfl) (fun K hK => ?_)
        go_wp2
        refine hK.out _ _ trivial (fun _ => ?_)
        clear hK K
        refine Reg.call (i := 9) rfl (by kernel_rfl) (by rfl) (fun K hK => ?_)
        go_wp2
        refine hK.out _ _ trivial (fun _ => ?_)
        clear hK K
        refine Reg.take (i := 10) (d := 4) (v := ?_) rfl rfl (by kernel_rfl) (by kernel_rfl) (by kernel_rfl) (fun _ _ _ h => h) (by rfl) ?_ hHeld ?_
        rotate_left
        · rintro X hX
          first | (go_simp; done) | (go_simp; with_reducible rfl)
        simp only [Act.put, List.setIfInBounds_toArray, List.set_cons_zero, List.set_cons_succ]
        refine Reg.take (i := 11) (d := 5) (v := ?_) rfl rfl (by kernel_rfl) (by kernel_rfl) (by kernel_rfl) (fun _ _ _ h => h) (by rfl) ?_ hHeld ?_
        rotate_left
        · rintro X hX
          first | (go_simp; done) | (go_simp; with_reducible rfl)
        simp only [Act.put, List.setIfInBounds_toArray, List.set_cons_zero, List.set_cons_succ]
        refine Reg.take (i := 12) (d := 6) (v := ?_) rfl rfl (by kernel_rfl) (by kernel_rfl) (by kernel_rfl) (fun _ _ _ h => h) (by rfl) ?_ hHeld ?_
        rotate_left
        · rintro X hX
          first | (go_simp; done) | (go_simp; with_reducible rfl)
        simp only [Act.put, List.setIfInBounds_toArray, List.set_cons_zero, List.set_cons_succ]
        refine wpAnyH_done (by kernel_rfl) ?_ _
        go_wp2
        refine bodyPost_ret (v := .tuple #[.agg #[.string m, .string u, .slice av1 l1.length cv1, .string b1], .agg #[.int .i64 st, .slice av2 l2.length cv2, .string b2], .int .i64 a1, .int .i64 (a1 + a2), .int .i64 (a1 + a2 + z)]) (by simp [results, Tryz.results7, go_sem, *]) rfl ?_
        subst hr
        exact ⟨m, u, _, l1, b1, st, _, l2, b2, a1, a1 + a2, a1 + a2 + z, rfl, HE.out.1, HE.out.2.1, HF1.out, HF2.out, hsz, by omega, by omega, by omega, by omega, by omega, by omega, HE.out.2.2⟩
      · have HE := Num.hide (mgt_end HAa.out hCr)
        have o0 := Recs.box_cell HAa.out.rq 0
        have y0 := Recs.box_thaw HAa.out.rq 0
        have o1 := Recs.box_cell HAa.out.rq 1
        have y1 := Recs.box_thaw HAa.out.rq 1
        have o2 := Recs.box_cell HAa.out.rq 2
        have y2 := Recs.box_thaw HAa.out.rq 2
        have o3 := Recs.box_cell HAa.out.rq 3
        have y3 := Recs.box_thaw HAa.out.rq 3
        have p0 := Recs.box_cell HAa.out.rr 0
        have z0 := Recs.box_thaw HAa.out.rr 0
        have p1 := Recs.box_cell HAa.out.rr 1
        have z1 := Recs.box_thaw HAa.out.rr 1
        have p2 := Recs.box_cell HAa.out.rr 2
        have z2 := Recs.box_thaw HAa.out.rr 2
        have HG := Num.hide (show ((((wa.setCell ⟨w.heap.size, 0, none⟩ (.string m)).setCell ⟨w.heap.size, 1, none⟩ (.string u)).setCell ⟨w.heap.size, 2, none⟩ (.slice av1 l1.length cv1)).setCell ⟨w.heap.size, 3, none⟩ (.string b1)).heap[gr]? = _ from Recs.box_far (Recs.box_far (Recs.box_far (Recs.box_far HAa.out.br _ (by omega)) _ (by omega)) _ (by omega)) _ (by omega))
        simp only [List.getElem?_toArray, List.getElem?_cons_succ, List.getElem?_cons_zero] at o0 o1 o2 o3 p0 p1 p2
        have e2 : ¬ w.heap.size + 1 = w.heap.size := by omega
        have e3 : ¬ w.heap.size = w.heap.size + 1 := by omega
        obtain ⟨r, hr⟩ : ∃ r, w.heap.size = r := ⟨_, rfl⟩
        rw [hr] at HE o0 o1 o2 o3 y0 y1 y2 y3 p0 p1 p2 z0 z1 z2 e2 e3 HG ⊢
        clear HAa HA4
        go_wp2
        refine hK.out _ _ trivial (fun _ => ?_)
        clear hK K
        refine Reg.call (i := 1) rfl (by kernel_rfl) (by rfl) (fun K hK => ?_)
        have c0 := Recs.box_cell HG.out 0
        have c1 := Recs.box_cell HG.out 1
        have c2 := Recs.box_cell HG.out 2
        simp only [List.getElem?_toArray, List.getElem?_cons_succ, List.getElem?_cons_zero] at c0 c1 c2
        go_wp2
        clear c0 c1 c2 HG
        refine hK.out _ _ trivial (fun _ => ?_)
        clear hK K
        refine Reg.call (i := 9) rfl (by kernel_rfl) (by rfl) (fun K hK => ?_)
        go_wp2
        refine hK.out _ _ trivial (fun _ => ?_)
        clear hK K
        refine Reg.take (i := 10) (d := 4) (v := ?_) rfl rfl (by kernel_rfl) (by kernel_rfl) (by kernel_rfl) (fun _ _ _ h => h) (by rfl) ?_ hHeld ?_
        rotate_left
        · rintro X hX
          first | (go_simp; done) | (go_simp; with_reducible rfl)
        simp only [Act.put, List.setIfInBounds_toArray, List.set_cons_zero, List.set_cons_succ]
        refine Reg.take (i := 11) (d := 5) (v := ?_) rfl rfl (by kernel_rfl) (by kernel_rfl) (by kernel_rfl) (fun _ _ _ h => h) (by rfl) ?_ hHeld ?_
        rotate_left
        · rintro X hX
          first | (go_simp; done) | (go_simp; with_reducible rfl)
        simp only [Act.put, List.setIfInBounds_toArray, List.set_cons_zero, List.set_cons_succ]
        refine Reg.take (i := 12) (d := 6) (v := ?_) rfl rfl (by kernel_rfl) (by kernel_rfl) (by kernel_rfl) (fun _ _ _ h => h) (by rfl) ?_ hHeld ?_
        rotate_left
        · rintro X hX
          first | (go_simp; done) | (go_simp; with_reducible rfl)
        simp only [Act.put, List.setIfInBounds_toArray, List.set_cons_zero, List.set_cons_succ]
        refine wpAnyH_done (by kernel_rfl) ?_ _
        go_wp2
        refine bodyPost_ret (v := .tuple #[.agg #[.string m, .string u, .slice av1 l1.length cv1, .string b1], .agg #[.int .i64 st, .slice av2 l2.length cv2, .string b2], .int .i64 a1, .int .i64 (a1 + a2), .int .i64 (a1 + a2 + z)]) (by simp [results, Tryz.results7, go_sem, *]) rfl ?_
        subst hr
        exact ⟨m, u, _, l1, b1, st, _, l2, b2, a1, a1 + a2, a1 + a2 + z, rfl, HE.out.1, HE.out.2.1, HF1.out, HF2.out, hsz, by omega, by omega, by omega, by omega, by omega, by omega, HE.out.2.2⟩
    · have c0 := Recs.box_cell HAa.out.br 0
      have c1 := Recs.box_cell HAa.out.br 1
      have c2 := Recs.box_cell HAa.out.br 2
      simp only [List.getElem?_toArray, List.getElem?_cons_succ, List.getElem?_cons_zero] at c0 c1 c2
      go_wp2
      clear c0 c1 c2
      refine hK.out _ _ trivial (fun _ => ?_)
      clear hK K
      refine Reg.call (i := 0) rfl (by kernel_rfl) (by rfl) (fun K hK => ?_)
      have c0 := Recs.box_cell HAa.out.bq 0
      have c1 := Recs.box_cell HAa.out.bq 1
      have c2 := Recs.box_cell HAa.out.bq 2
      have c3 := Recs.box_cell HAa.out.bq 3
      simp only [List.getElem?_toArray, List.getElem?_cons_succ, List.getElem?_cons_zero] at c0 c1 c2 c3
      go_wp2
      clear c0 c1 c2 c3
      refine hK.out _ _ trivial (fun _ => ?_)
      clear hK K
      have HE := Num.hide (mgt_end HAa.out hCr)
      have o0 := Recs.box_cell HAa.out.rq 0
      have y0 := Recs.box_thaw HAa.out.rq 0
      have o1 := Recs.box_cell HAa.out.rq 1
      have y1 := Recs.box_thaw HAa.out.rq 1
      have o2 := Recs.box_cell HAa.out.rq 2
      have y2 := Recs.box_thaw HAa.out.rq 2
      have o3 := Recs.box_cell HAa.out.rq 3
      have y3 := Recs.box_thaw HAa.out.rq 3
      have p0 := Recs.box_cell HAa.out.rr 0
      have z0 := Recs.box_thaw HAa.out.rr 0
      have p1 := Recs.box_cell HAa.out.rr 1
      have z1 := Recs.box_thaw HAa.out.rr 1
      have p2 := Recs.box_cell HAa.out.rr 2
      have z2 := Recs.box_thaw HAa.out.rr 2
      simp only [List.getElem?_toArray, List.getElem?_cons_succ, List.getElem?_cons_zero] at o0 o1 o2 o3 p0 p1 p2
      have e2 : ¬ w.heap.size + 1 = w.heap.size := by omega
      have e3 : ¬ w.heap.size = w.heap.size + 1 := by omega
      obtain ⟨r, hr⟩ : ∃ r, w.heap.size = r := ⟨_, rfl⟩
      rw [hr] at HE o0 o1 o2 o3 y0 y1 y2 y3 p0 p1 p2 z0 z1 z2 e2 e3 ⊢
      clear HAa HA4
      refine Reg.call (i := 8) rfl (by kernel_rfl) (by rfl) (fun K hK => ?_)
      go_wp2
      refine hK.out _ _ trivial (fun _ => ?_)
      clear hK K
      refine Reg.call (i := 9) rfl (by kernel_rfl) (by rfl) (fun K hK => ?_)
      go_wp2
      refine hK.out _ _ trivial (fun _ => ?_)
      clear hK K
      refine Reg.take (i := 10) (d := 4) (v := ?_) rfl rfl (by kernel_rfl) (by kernel_rfl) (by kernel_rfl) (fun _ _ _ h => h) (by rfl) ?_ hHeld ?_
      rotate_left
      · rintro X hX
        first | (go_simp; done) | (go_simp; with_reducible rfl)
      simp only [Act.put, List.setIfInBounds_toArray, List.set_cons_zero, List.set_cons_succ]
      refine Reg.take (i := 11) (d := 5) (v := ?_) rfl rfl (by kernel_rfl) (by kernel_rfl) (by kernel_rfl) (fun _ _ _ h => h) (by rfl) ?_ hHeld ?_
      rotate_left
      · rintro X hX
        first | (go_simp; done) | (go_simp; with_reducible rfl)
      simp only [Act.put, List.setIfInBounds_toArray, List.set_cons_zero, List.set_cons_succ]
      refine Reg.take (i := 12) (d := 6) (v := ?_) rfl rfl (by kernel_rfl) (by kernel_rfl) (by kernel_rfl) (fun _ _ _ h => h) (by rfl) ?_ hHeld ?_
      rotate_left
      · rintro X hX
        first | (go_simp; done) | (go_simp; with_reducible rfl)
      simp only [Act.put, List.setIfInBounds_toArray, List.set_cons_zero, List.set_cons_succ]
      refine wpAnyH_done (by kernel_rfl) ?_ _
      go_wp2
      refine bodyPost_ret (v := .tuple #[.agg #[.string m, .string u, .slice av1 l1.length cv1, .string b1], .agg #[.int .i64 st, .slice av2 l2.length cv2, .string b2], .int .i64 a1, .int .i64 (a1 + a2), .int .i64 (a1 + a2 + z)]) (by simp [results, Tryz.results7, go_sem, *]) rfl ?_
      subst hr
      exact ⟨m, u, _, l1, b1, st, _, l2, b2, a1, a1 + a2, a1 + a2 + z, rfl, HE.out.1, HE.out.2.1, HF1.out, HF2.out, hsz, by omega, by omega, by omega, by omega, by omega, by omega, HE.out.2.2⟩
end Draw
end Go.Proofs.YtjeokackmkfooaaGreatDoor
namespace Go.Proofs.YtjeokackmkfooaaGreatDoor
open Go.RowKit
set_option linter.unusedVariables false
namespace Flds

theorem texts_ok (l : List Fld) : ∀ u ∈ l.flatMap cells, u.oneCell' = true := by
  intro u hu
  obtain ⟨f, _, hf⟩ := List.mem_flatMap.1 hu
  unfold cells at hf
  simp at hf
  rcases hf with rfl | rfl <;> rfl
theorem wp_put_all {o : Oper} {a : Act} {w : World} {K : Act → World → Prop} {Q : Exit → Act → World → Prop} (s x : Operand)
    (ho : o.op = .call { callee := .builtin .append, args := #[s, x], argTypes := #[24, 24] })
    (base B : Nat) (v : Value) (pre : List Fld) (hs : a.eval s = v) (hown : Own base w v pre) (vx : Value) (l : List Fld) (hx : a.eval x = vx) (hI : Own B w vx l)
    (hz : pre.length + l.length ≤ 4194304) (hbase : base ≤ w.heap.size)
    (h : ∀ v' w', Own base w' v' (pre ++ l) → w.grownBy w' v.ownBlock → K (a.put o.dst v') w') : o.wp Tryz.prog a w K Q := by
  obtain ⟨i0, hi0, hz0, hz1, hz2⟩ := info_parts infoF
  rcases hI.2 with ⟨h1, h2⟩ | ⟨g, cap, cur, h1, hB, hg, hc, hm, hsz, htake⟩
  · subst h1
    obtain rfl : l = [] := List.eq_nil_of_length_eq_zero h2
    rw [List.append_nil] at h
    have hrun := run_append_owned_none (P := Tryz.prog) (w := w) base 24 o.type 32 i0 2 Tryz.underlying24 hi0 v pre.length (pre.flatMap cells) hown
    unfold Oper.wp
    simp [execOp, ho, resolve, invoke, builtin, hs, hx, hrun, Result.andThen]
    exact h _ _ hown (Recs.grown_refl _ _)
  · subst h1
    refine wp_append_own w s x 24 ho base 32 i0 _ 2 32 Tryz.underlying24 hi0 hz0 hz1 hz2 rfl (by decide) v pre.length (pre.flatMap cells) hs hown ⟨g, 0, none⟩ l.length cap (l.flatMap cells) hx (by rw [Recs.flat_length cells_len]) (World.ownsRow.cells hI (g := g) rfl) (texts_ok l) (by unfold maxLen; omega) (by omega) hbase ?_
    intro v' w' ho' hg' _
    refine h v' w' ?_ hg'
    unfold Own Recs.Own
    rw [List.length_append, List.flatMap_append]
    exact ho'
end Flds
end Go.Proofs.YtjeokackmkfooaaGreatDoor
namespace Go.Proofs.YtjeokackmkfooaaGreatDoor
open Go.RowKit
set_option linter.unusedVariables false
namespace Strict
open Flds (Fld)

/-- what was there stays; a box was laid behind it -/
structure Mid (wj : World) (C : Array Value) (T : TypeId) (X : World) : Prop where
  below : Below wj.heap.size wj X
  box : X.heap[wj.heap.size]? = some (.cells C T (0, 0))
theorem Mid.lt {wj : World} {C : Array Value} {T : TypeId} {X : World} (h : Mid wj C T X) : wj.heap.size < X.heap.size := (Array.getElem?_eq_some_iff.1 h.box).1
theorem mid_first (wj : World) (C : Array Value) (T : TypeId) : Mid wj C T (wj.alloc (.cells C T)) := ⟨(Below.refl _ _).alloc (Nat.le_refl _) _, heap_alloc_new wj _⟩
theorem Mid.step {wj : World} {C : Array Value} {T : TypeId} {X X' : World} (h : Mid wj C T X) (hb : Below X.heap.size X X') : Mid wj C T X' :=
  ⟨h.below.trans (hb.mono h.below.size), (hb.block _ h.lt).trans h.box⟩
theorem Mid.grown {wj : World} {C : Array Value} {T : TypeId} {X X' : World} {r : Option Nat} (h : Mid wj C T X) (hg : X.grownBy X' r) (hv : ∀ j, r = some j → wj.heap.size + 1 ≤ j) : Mid wj C T X' :=
  ⟨h.below.grown hg h.below.size (fun j hj => by have := hv j hj; omega), (hg.block _ h.lt (fun e => by have := hv _ e.symm; omega)).trans h.box⟩
/-- what every step of a region keeps: what was there, and that a box lies behind it -/
def SM (wj : World) (T : TypeId) (X : World) : Prop := Below wj.heap.size wj X ∧ wj.heap.size < X.heap.size
theorem Mid.mid {wj : World} {C : Array Value} {T : TypeId} {X : World} (h : Mid wj C T X) : SM wj T X := ⟨h.below, h.lt⟩
/-- the box with its new list -/
structure Got (wj : World) (C : Array Value) (k : Nat) (T : TypeId) (l : List Fld) (v : Value) (X : World) : Prop where
  below : Below wj.heap.size wj X
  box : X.heap[wj.heap.size]? = some (.cells (C.setIfInBounds k v) T (0, 0))
  is : Flds.Is X v l
theorem Got.mid {wj : World} {C : Array Value} {k : Nat} {T : TypeId} {l : List Fld} {v : Value} {X : World} (h : Got wj C k T l v X) : SM wj T X := ⟨h.below, (Array.getElem?_eq_some_iff.1 h.box).1⟩
theorem Got.mk' {wj : World} {C : Array Value} {T : TypeId} {X : World} {l : List Fld} {v : Value} (h : Mid wj C T X) (k : Nat) (ho : Flds.Own (wj.heap.size + 1) X v l) : Got wj C k T l v (X.setCell ⟨wj.heap.size, k, none⟩ v) :=
  ⟨h.below.setCell (p := ⟨wj.heap.size, k, none⟩) (Nat.le_refl _) v, Recs.box_set h.box k v, Recs.own_is Flds.cells_len (Recs.own_set ho wj.heap.size k v (fun j hj => by have := (Recs.own_lt ho j hj).1; omega))⟩
/-- the boxes of the law: the request, the answer, the two fields -/
structure Base (G : World → Prop) (w : World) (gq : Nat) (q r no look : Array Value) (v1 v2 : Value) (l1 l2 : List Fld) (W : World) : Prop where
  q : W.heap[gq]? = some (.cells q 26 (0, 0))
  r : W.heap[gq + 1]? = some (.cells r 28 (0, 0))
  no : W.heap[gq + 1 + 1]? = some (.cells no 32 (0, 0))
  look : W.heap[gq + 1 + 1 + 1]? = some (.cells look 32 (0, 0))
  o1 : Flds.Own w.heap.size W v1 l1
  o2 : Flds.Own w.heap.size W v2 l2
  g : G W
  below : Below w.heap.size w W
theorem lt_of_row {W : World} {g : Nat} {o : Obj} (h : W.heap[g]? = some o) : g < W.heap.size := (Array.getElem?_eq_some_iff.1 h).1
theorem row_below {W W' : World} {g : Nat} {o : Obj} (h : W.heap[g]? = some o) (hb : Below W.heap.size W W') : W'.heap[g]? = some o := (hb.block g (lt_of_row h)).trans h
section
variable {G : World → Prop} {w : World} {gq : Nat} {q r no look : Array Value} {v1 v2 : Value} {l1 l2 : List Fld} {W W' : World}
theorem Base.ltq (h : Base G w gq q r no look v1 v2 l1 l2 W) : gq < W.heap.size := lt_of_row h.q
theorem Base.ltr (h : Base G w gq q r no look v1 v2 l1 l2 W) : gq + 1 < W.heap.size := lt_of_row h.r
theorem Base.ltno (h : Base G w gq q r no look v1 v2 l1 l2 W) : gq + 1 + 1 < W.heap.size := lt_of_row h.no
theorem Base.ltlook (h : Base G w gq q r no look v1 v2 l1 l2 W) : gq + 1 + 1 + 1 < W.heap.size := lt_of_row h.look
theorem Base.step (HG : ∀ W W', G W → Below W.heap.size W W' → G W') (h : Base G w gq q r no look v1 v2 l1 l2 W) (hb : Below W.heap.size W W') : Base G w gq q r no look v1 v2 l1 l2 W' :=
  ⟨row_below h.q hb, row_below h.r hb, row_below h.no hb, row_below h.look hb, Recs.own_below h.o1 hb, Recs.own_below h.o2 hb, HG _ _ h.g hb, h.below.trans (hb.mono h.below.size)⟩
end
/-- a box and the list that it leads to -/
structure Bx (g : Nat) (C : Array Value) (T : TypeId) (l : List Fld) (v : Value) (X : World) : Prop where
  box : X.heap[g]? = some (.cells C T (0, 0))
  is : Flds.Is X v l
theorem Bx.step {g : Nat} {C : Array Value} {T : TypeId} {l : List Fld} {v : Value} {X X' : World} (h : Bx g C T l v X) (hb : Below X.heap.size X X') : Bx g C T l v X' := ⟨row_below h.box hb, Recs.is_below h.is hb⟩
theorem Got.bx {wj : World} {C : Array Value} {k : Nat} {T : TypeId} {l : List Fld} {v : Value} {X : World} (h : Got wj C k T l v X) : Bx wj.heap.size (C.setIfInBounds k v) T l v X := ⟨h.box, h.is⟩
/-- all that the law's tests read -/
structure All (G : World → Prop) (w : World) (gq : Nat) (q r no look : Array Value) (v1 v2 : Value) (l1 l2 : List Fld) (ga gb gc gd : Nat) (a b c d : Array Value) (va vb vc vd : Value) (la lb lc ld : List Fld) (W : World) : Prop where
  base : Base G w gq q r no look v1 v2 l1 l2 W
  a : Bx ga a 26 la va W
  b : Bx gb b 28 lb vb W
  c : Bx gc c 26 lc vc W
  d : Bx gd d 28 ld vd W
theorem All.step {G : World → Prop} {w : World} {gq : Nat} {q r no look : Array Value} {v1 v2 : Value} {l1 l2 : List Fld} {ga gb gc gd : Nat} {a b c d : Array Value} {va vb vc vd : Value} {la lb lc ld : List Fld} {W W' : World}
    (HG : ∀ W W', G W → Below W.heap.size W W' → G W') (h : All G w gq q r no look v1 v2 l1 l2 ga gb gc gd a b c d va vb vc vd la lb lc ld W) (hb : Below W.heap.size W W') : All G w gq q r no look v1 v2 l1 l2 ga gb gc gd a b c d va vb vc vd la lb lc ld W' :=
  ⟨h.base.step HG hb, h.a.step hb, h.b.step hb, h.c.step hb, h.d.step hb⟩
/-- what the last test reads, cell by cell -/
abbrev Fin (G : World → Prop) (w : World) (gq : Nat) (m u : ByteArray) (v1 : Value) (l1 : List Fld) (b1 : ByteArray) (st : Int) (v2 : Value) (l2 : List Fld) (b2 : ByteArray) (W : World) : Prop :=
  W.cell? ⟨gq, 0, none⟩ = some (.string m) ∧ W.cell? ⟨gq, 1, none⟩ = some (.string u) ∧ W.cell? ⟨gq, 2, none⟩ = some v1 ∧ W.cell? ⟨gq, 3, none⟩ = some (.string b1) ∧
  W.cell? ⟨gq + 1, 0, none⟩ = some (.int .i64 st) ∧ W.cell? ⟨gq + 1, 1, none⟩ = some v2 ∧ W.cell? ⟨gq + 1, 2, none⟩ = some (.string b2) ∧ Flds.Is W v1 l1 ∧ Flds.Is W v2 l2 ∧ G W ∧ Below w.heap.size w W
theorem Fin.step {G : World → Prop} {w : World} {gq : Nat} {m u : ByteArray} {v1 : Value} {l1 : List Fld} {b1 : ByteArray} {st : Int} {v2 : Value} {l2 : List Fld} {b2 : ByteArray} {W W' : World} (HG : ∀ W W', G W → Below W.heap.size W W' → G W')
    (h : Fin G w gq m u v1 l1 b1 st v2 l2 b2 W) (hb : Below W.heap.size W W') : Fin G w gq m u v1 l1 b1 st v2 l2 b2 W' := by
  obtain ⟨h0, h1, h2, h3, h4, h5, h6, h7, h8, h9, h10⟩ := h
  have l0 : gq < W.heap.size := Recs.lt_of_cell h0
  have l1 : gq + 1 < W.heap.size := Recs.lt_of_cell h4
  exact ⟨(hb.cell (p := ⟨gq, 0, none⟩) l0).trans h0, (hb.cell (p := ⟨gq, 1, none⟩) l0).trans h1, (hb.cell (p := ⟨gq, 2, none⟩) l0).trans h2, (hb.cell (p := ⟨gq, 3, none⟩) l0).trans h3, (hb.cell (p := ⟨gq + 1, 0, none⟩) l1).trans h4, (hb.cell (p := ⟨gq + 1, 1, none⟩) l1).trans h5, (hb.cell (p := ⟨gq + 1, 2, none⟩) l1).trans h6, Recs.is_below h7 hb, Recs.is_below h8 hb, HG _ _ h9 hb, h10.trans (hb.mono h10.size)⟩
end Strict
end Go.Proofs.YtjeokackmkfooaaGreatDoor
