/-
  DrawVary: The specification's draw of an answer that hangs on something: bounds, and its fields as they are drawn.
  DrawUri: The specification's draws of a target, of a cursor in whatever state: bounds alone.
-/
import Derived.Test.YtkogcbnbmdeolaaDoorPau
import Derived.Test.YtkogcbnbmdeolaaDoorPas
import Derived.Test.YtkogcbnbmdeolaaDoorPat
import Derived.Test.YtkogcbnbmdeolaaDoorPac
import Derived.Test.YtkogcbnbmdeolaaDoorPam
import Derived.Test.YtkogcbnbmdeolaaDoorPad
import Derived.Deep.Cut
namespace Go.Proofs.YtkogcbnbmdeolaaDoor
open Go.RowKit
set_option linter.unusedVariables false
set_option linter.unusedSimpArgs false
namespace Draw

/-- an answer that is drawn: its box, the box of what is told, and the cursor that was laid behind it -/
structure VnAt (w : World) (C gr : Nat) (st : Int) (v : Value) (l : List Flds.Fld) (b : ByteArray) (n : Nat) (X : World) : Prop where
  below : Below w.heap.size w X
  live : Live w.heap.size C X
  res : X.heap[w.heap.size]? = some zResp
  box : X.heap[gr]? = some (.cells #[.int .i64 st, v, .string b] 34)
  own : Flds.Own (C + 1) X v l
  few : Few n l
  said : AllSaid l
theorem VnAt.lt {w : World} {C gr : Nat} {st : Int} {v : Value} {l : List Flds.Fld} {b : ByteArray} {n : Nat} {X : World} (h : VnAt w C gr st v l b n X) : gr < X.heap.size := (Array.getElem?_eq_some_iff.1 h.box).1
theorem VnAt.step {w : World} {C gr : Nat} {st : Int} {v : Value} {l : List Flds.Fld} {b : ByteArray} {n : Nat} {X X' : World} (h : VnAt w C gr st v l b n X) (ho : Only C X X') (hl : Live w.heap.size C X') (hC : w.heap.size < C) (hg : C < gr) : VnAt w C gr st v l b n X' := by
  have hx := h.lt
  exact ⟨h.below.trans (ho.below (by omega) (by omega)), hl, (ho.block _ (by omega) (by omega)).trans h.res, (ho.block _ hx (by omega)).trans h.box, own_only h.own ho (by omega), h.few, h.said⟩
theorem VnAt.more {w : World} {C gr : Nat} {st : Int} {v : Value} {l : List Flds.Fld} {b : ByteArray} {n m : Nat} {X : World} (h : VnAt w C gr st v l b n X) (hnm : n ≤ m) : VnAt w C gr st v l b m X := ⟨h.below, h.live, h.res, h.box, h.own, h.few.mono hnm, h.said⟩
set_option maxRecDepth 100000 in
set_option maxHeartbeats 8000000 in
theorem drawNames (cap : Nat) (a : Option Addr) (l0 : List Int) (w : World) (hcode : CodeAt w.heap.size w a l0) (hl0 : l0.length ≤ 1048576) :
    Calls Tryd.prog 58 #[.slice a l0.length cap] w fun e w' => ∃ st v l b, e = .returned (Resp.val st v b) ∧ Flds.Own w.heap.size w' v l ∧ Few 7 l ∧ AllSaid l ∧ b.size ≤ 64 ∧ Below w.heap.size w w' := by
  obtain ⟨i0, hi0, hzz0, hzz1, hzz2⟩ := info_parts Flds.infoF
  have hb0 : Below w.heap.size w (w.alloc zResp) := (Below.refl _ _).alloc (Nat.le_refl _) _
  have HC := Num.hide (hcode.below hb0)
  have HZ0 : Hid ((w.alloc zResp).heap[w.heap.size]? = some zResp) := heap_alloc_new w _
  have hz0 : (w.alloc zResp).heap.size = w.heap.size + 1 := by rw [World.size_alloc]
  have HB0 := Num.hide hb0
  clear hcode hb0
  go_enter Tryd.func58, Tryd.ntmps58
  go_wp2_with fail
  refine (new_at w.heap.size cap a l0 _ (by omega) HC.out hl0).mono ?_
  rintro e w1 ⟨C, rfl, hCC, h1, b1'⟩
  have HL : Hid (Live w.heap.size C w1) := ⟨_, _, _, _, h1⟩
  have hCl := h1.lt
  have hC : w.heap.size < C := by omega
  have HB1 := Num.hide (HB0.out.trans (b1'.mono (by omega)))
  have HZ1 : Hid (w1.heap[w.heap.size]? = some zResp) := (b1'.block _ (by omega)).trans HZ0.out
  clear h1 b1' HC HB0 HZ0
  go_wp2_with fail
  refine (l8_q _ C _ HL.out).mono ?_
  rintro e w2 ⟨st, v, l, b, rfl, hv, hf, hsd, hb, hl, ho⟩
  have hz2 := ho.size
  obtain ⟨av, cv, hvv⟩ := Recs.own_len hv
  subst hvv
  have hal : Below w2.heap.size w2 (w2.alloc (.cells #[.int .i64 st, .slice av l.length cv, .string b] 34)) := (Below.refl _ _).alloc (Nat.le_refl _) _
  have HA : Hid (VnAt w C w2.heap.size st (.slice av l.length cv) l b 6 (w2.alloc (.cells #[.int .i64 st, .slice av l.length cv, .string b] 34))) :=
    ⟨(HB1.out.trans (ho.below (by omega) hCl)).trans (hal.mono (by omega)), hl.below hal, (heap_alloc_old _ _ (by omega)).trans ((ho.block _ (by omega) (by omega)).trans HZ1.out), heap_alloc_new w2 _, Recs.own_mono (Recs.own_below hv hal) (by omega), hf, hsd⟩
  have hCg : C < w2.heap.size := by omega
  unfold Resp.val
  clear hv hf hsd hl ho hal HB1 HZ1 HL
  go_upto_region 3 with fail
  generalize w2.alloc (.cells #[.int .i64 st, .slice av l.length cv, .string b] 34) = w3 at HA ⊢
  generalize w2.heap.size = gr at HA hCg hz2 ⊢
  go_wp2_with fail
  refine (once_live w.heap.size C 2 _ HA.out.live (by omega)).mono ?_
  rintro e w4 ⟨t, rfl, hl, ho⟩
  have HA3 := Num.hide (HA.out.step ho hl hC hCg)
  clear hl ho HA
  go_upto_if 10 with fail
  go_cut [] from 5 (fun wx => ∃ (v : Value) (l : List Flds.Fld), Hid (VnAt w C gr st v l b (6 + 1) wx))
  case first =>
    cases t with
    | false =>
      have HA4 := Num.hide (HA3.out.more (by omega : 6 ≤ 6 + 1))
      go_wp2
      go_meet
      case rel => exact ⟨_, _, HA4⟩
    | true =>
      have HA4 := Num.hide (HA3.out.step (Only.refl C w4).drew (HA3.out.live.below (Below.refl _ _).drew) hC hCg)
      clear HA3
      go_wp2
      refine wp_region_held_drew (S := fun _ => True) (by kernel_rfl) trivial (fun hHeld => ?_)
      generalize w4.drew = wd at HA4 ⊢
      refine Reg.take (i := 0) (d := 11) (v := ?_) rfl rfl (by kernel_rfl) (by kernel_rfl) (by kernel_rfl) (fun _ _ _ h => h) (by rfl) ?_ hHeld ?_
      rotate_left
      · rintro X hX
        first | (go_simp; done) | (go_simp; with_reducible rfl)
      simp only [Act.put, List.setIfInBounds_toArray, List.set_cons_zero, List.set_cons_succ]
      refine Reg.take (i := 2) (d := 13) (v := ?_) rfl rfl (by kernel_rfl) (by kernel_rfl) (by kernel_rfl) (fun _ _ _ h => h) (by rfl) ?_ hHeld ?_
      rotate_left
      · rintro X hX
        first | (go_simp; done) | (go_simp; with_reducible rfl)
      simp only [Act.put, List.setIfInBounds_toArray, List.set_cons_zero, List.set_cons_succ]
      refine Reg.two (i := 1) (j := 3) rfl rfl (by kernel_rfl) (by rfl) (by rfl) (fun K hK => ?_) (fun K hK => ?_)
      · have c1 := Recs.box_cell HA4.out.box 1
        simp only [List.getElem?_toArray, List.getElem?_cons_succ, List.getElem?_cons_zero] at c1
        go_wp2
        clear c1
        refine hK.out _ _ trivial (fun _ => ?_)
        clear hK K
        refine Reg.call (i := 3) rfl (by kernel_rfl) (by rfl) (fun K hK => ?_)
        have HAm := Num.hide (HA4.out.step ((Only.refl C wd).alloc (.cells #[.string ⟨#[65, 99, 99, 101, 112, 116, 44, 97, 99, 99, 101, 112, 116]⟩, .string ⟨#[88, 45, 65, 32, 44, 32, 120, 45, 98]⟩, .string ⟨#[]⟩, .string ⟨#[44]⟩] 9)) (HA4.out.live.alloc (.cells #[.string ⟨#[65, 99, 99, 101, 112, 116, 44, 97, 99, 99, 101, 112, 116]⟩, .string ⟨#[88, 45, 65, 32, 44, 32, 120, 45, 98]⟩, .string ⟨#[]⟩, .string ⟨#[44]⟩] 9)) hC hCg)
        go_wp2
        refine hK.out _ _ trivial (fun _ => ?_)
        clear hK K
        refine Reg.call (i := 4) rfl (by kernel_rfl) (by rfl) (fun K hK => ?_)
        go_wp2_with (first | (go_at_call 45; refine (pick_q (oneOf varyVals) w.heap.size C wd.heap.size _ 4 _ (HA4.out.live.alloc _) (by have := HA4.out.live.lt; omega) (heap_alloc_new wd _) rfl (by omega) (by omega) (by kernel_rfl)).mono ?_; rintro e wa ⟨y, rfl, hy, hq, hl, ho⟩))
        have HAa := Num.hide (HAm.out.step ho hl hC hCg)
        have HSd := Num.hide (Drawn.vary hq)
        clear hl ho hq
        refine hK.out _ _ trivial (fun _ => ?_)
        clear hK K
        refine Reg.take (i := 5) (d := 16) (v := ?_) rfl rfl (by kernel_rfl) (by kernel_rfl) (by kernel_rfl) (fun _ _ _ h => h) (by rfl) ?_ hHeld ?_
        rotate_left
        · rintro X hX
          first | (go_simp; done) | (go_simp; with_reducible rfl)
        simp only [Act.put, List.setIfInBounds_toArray, List.set_cons_zero, List.set_cons_succ]
        refine Reg.call (i := 6) rfl (by kernel_rfl) (by rfl) (fun K hK => ?_)
        have HAb := Num.hide (HAa.out.step ((Only.refl C wa).alloc (.cells #[.string ⟨#[118, 97, 114, 121]⟩, .string y] 40)) (HAa.out.live.alloc (.cells #[.string ⟨#[118, 97, 114, 121]⟩, .string y] 40)) hC hCg)
        go_wp2
        refine hK.out _ _ trivial (fun _ => ?_)
        clear hK K
        refine Reg.call (i := 7) rfl (by kernel_rfl) (by rfl) (fun K hK => ?_)
        have hg5 := HAa.out.lt
        have hlen := HAa.out.few.len
        have hsa : C + 1 ≤ wa.heap.size := by omega
        refine wp_append_own _ _ _ 30 rfl (C + 1) 40 i0 _ 2 32 Tryd.underlying30 hi0 hzz0 hzz1 hzz2 rfl (by decide) (.slice av l.length cv) l.length (l.flatMap Flds.cells) rfl (World.ownsRow.alloc HAa.out.own _) ⟨wa.heap.size, 0, none⟩ 1 1 [.string ⟨#[118, 97, 114, 121]⟩, .string y] rfl rfl (Flds.cells_two wa ⟨#[118, 97, 114, 121]⟩ y) (Flds.two_ok ⟨#[118, 97, 114, 121]⟩ y) (by unfold maxLen; omega) (by omega) ?c9 ?_
        case c9 => first | omega | (simp; omega)
        intro v' w6 ho6 hg6 _
        have hgr := Recs.grown_trans (World.grownBy_alloc wa (.cells #[.string ⟨#[118, 97, 114, 121]⟩, .string y] 40) (Value.slice av l.length cv).ownBlock) hg6
        obtain ⟨hp1, hp2⟩ := Flds.put_more hsa HAa.out.own (Below.refl (C + 1) wa) ho6 hg6
        have hn2 := own_notS HAa.out.own HAa.out.box
        have hb6 : w6.heap[gr]? = some (.cells #[.int .i64 st, .slice av l.length cv, .string b] 34 (0, 0)) := (hgr.block gr hg5 (fun e => hn2 gr e.symm rfl)).trans HAa.out.box
        have hn3 := own_notS HAa.out.own HAa.out.res
        have hr6 : w6.heap[w.heap.size]? = some zResp := (hgr.block _ (by omega) (fun e => hn3 _ e.symm rfl)).trans HAa.out.res
        have hn6 := own_notS hp1 hb6
        have HR : Hid (VnAt w C gr st v' (l ++ [(⟨#[118, 97, 114, 121]⟩, y)]) b (6 + 1) (w6.setCell ⟨gr, 1, none⟩ v')) :=
          ⟨(HAa.out.below.trans (hp2.mono (by omega))).setCell (p := ⟨gr, 1, none⟩) (by show w.heap.size ≤ gr; omega) v', live_set (HAa.out.live.under hp2 (by omega)) gr 1 _ hCg, Recs.box_far hr6 _ (by omega), Recs.box_set hb6 1 v', Recs.own_set hp1 gr 1 v' hn6, HAa.out.few.more (by decide) hy, HAa.out.said.more HSd.out⟩
        have k1 := Recs.box_cell hb6 1
        have z1 := Recs.box_thaw hb6 1
        simp only [List.getElem?_toArray, List.getElem?_cons_succ, List.getElem?_cons_zero] at k1
        clear ho6 hg6 hp1 hp2 hb6 hr6 hn6 hn2 hn3 HAa HAb hlen hg5 hgr hsa
        refine hK.out _ _ trivial (fun _ => ?_)
        clear hK K
        refine Reg.take (i := 8) (d := 19) (v := ?_) rfl rfl (by kernel_rfl) (by kernel_rfl) (by kernel_rfl) (fun _ _ _ h => h) (by rfl) ?_ hHeld ?_
        rotate_left
        · rintro X hX
          first | (go_simp; done) | (go_simp; with_reducible rfl)
        simp only [Act.put, List.setIfInBounds_toArray, List.set_cons_zero, List.set_cons_succ]
        refine Reg.call (i := 9) rfl (by kernel_rfl) (by rfl) (fun K hK => ?_)
        obtain ⟨a6, q6, hv6⟩ := Recs.own_len HR.out.own
        subst hv6
        rw [List.length_append, List.length_singleton] at HR
        go_wp2
        refine hK.out _ _ trivial (fun _ => ?_)
        clear hK K
        refine wpAnyH_done (by kernel_rfl) ?_ _
        clear k1 z1
        go_wp2
        go_meet
        case rel => exact ⟨_, _, HR⟩
      · have HAm := Num.hide (HA4.out.step ((Only.refl C wd).alloc (.cells #[.string ⟨#[65, 99, 99, 101, 112, 116, 44, 97, 99, 99, 101, 112, 116]⟩, .string ⟨#[88, 45, 65, 32, 44, 32, 120, 45, 98]⟩, .string ⟨#[]⟩, .string ⟨#[44]⟩] 9)) (HA4.out.live.alloc (.cells #[.string ⟨#[65, 99, 99, 101, 112, 116, 44, 97, 99, 99, 101, 112, 116]⟩, .string ⟨#[88, 45, 65, 32, 44, 32, 120, 45, 98]⟩, .string ⟨#[]⟩, .string ⟨#[44]⟩] 9)) hC hCg)
        go_wp2
        refine hK.out _ _ trivial (fun _ => ?_)
        clear hK K
        refine Reg.two (i := 1) (j := 4) rfl rfl (by kernel_rfl) (by rfl) (by rfl) (fun K hK => ?_) (fun K hK => ?_)
        · have c1 := Recs.box_cell HAm.out.box 1
          simp only [List.getElem?_toArray, List.getElem?_cons_succ, List.getElem?_cons_zero] at c1
          go_wp2
          clear c1
          refine hK.out _ _ trivial (fun _ => ?_)
          clear hK K
          refine Reg.call (i := 4) rfl (by kernel_rfl) (by rfl) (fun K hK => ?_)
          go_wp2_with (first | (go_at_call 45; refine (pick_q (oneOf varyVals) w.heap.size C wd.heap.size _ 4 _ (HA4.out.live.alloc _) (by have := HA4.out.live.lt; omega) (heap_alloc_new wd _) rfl (by omega) (by omega) (by kernel_rfl)).mono ?_; rintro e wa ⟨y, rfl, hy, hq, hl, ho⟩))
          have HAa := Num.hide (HAm.out.step ho hl hC hCg)
          have HSd := Num.hide (Drawn.vary hq)
          clear hl ho hq
          refine hK.out _ _ trivial (fun _ => ?_)
          clear hK K
          refine Reg.take (i := 5) (d := 16) (v := ?_) rfl rfl (by kernel_rfl) (by kernel_rfl) (by kernel_rfl) (fun _ _ _ h => h) (by rfl) ?_ hHeld ?_
          rotate_left
          · rintro X hX
            first | (go_simp; done) | (go_simp; with_reducible rfl)
          simp only [Act.put, List.setIfInBounds_toArray, List.set_cons_zero, List.set_cons_succ]
          refine Reg.call (i := 6) rfl (by kernel_rfl) (by rfl) (fun K hK => ?_)
          have HAb := Num.hide (HAa.out.step ((Only.refl C wa).alloc (.cells #[.string ⟨#[118, 97, 114, 121]⟩, .string y] 40)) (HAa.out.live.alloc (.cells #[.string ⟨#[118, 97, 114, 121]⟩, .string y] 40)) hC hCg)
          go_wp2
          refine hK.out _ _ trivial (fun _ => ?_)
          clear hK K
          refine Reg.call (i := 7) rfl (by kernel_rfl) (by rfl) (fun K hK => ?_)
          have hg5 := HAa.out.lt
          have hlen := HAa.out.few.len
          have hsa : C + 1 ≤ wa.heap.size := by omega
          refine wp_append_own _ _ _ 30 rfl (C + 1) 40 i0 _ 2 32 Tryd.underlying30 hi0 hzz0 hzz1 hzz2 rfl (by decide) (.slice av l.length cv) l.length (l.flatMap Flds.cells) rfl (World.ownsRow.alloc HAa.out.own _) ⟨wa.heap.size, 0, none⟩ 1 1 [.string ⟨#[118, 97, 114, 121]⟩, .string y] rfl rfl (Flds.cells_two wa ⟨#[118, 97, 114, 121]⟩ y) (Flds.two_ok ⟨#[118, 97, 114, 121]⟩ y) (by unfold maxLen; omega) (by omega) ?c9 ?_
          case c9 => first | omega | (simp; omega)
          intro v' w6 ho6 hg6 _
          have hgr := Recs.grown_trans (World.grownBy_alloc wa (.cells #[.string ⟨#[118, 97, 114, 121]⟩, .string y] 40) (Value.slice av l.length cv).ownBlock) hg6
          obtain ⟨hp1, hp2⟩ := Flds.put_more hsa HAa.out.own (Below.refl (C + 1) wa) ho6 hg6
          have hn2 := own_notS HAa.out.own HAa.out.box
          have hb6 : w6.heap[gr]? = some (.cells #[.int .i64 st, .slice av l.length cv, .string b] 34 (0, 0)) := (hgr.block gr hg5 (fun e => hn2 gr e.symm rfl)).trans HAa.out.box
          have hn3 := own_notS HAa.out.own HAa.out.res
          have hr6 : w6.heap[w.heap.size]? = some zResp := (hgr.block _ (by omega) (fun e => hn3 _ e.symm rfl)).trans HAa.out.res
          have hn6 := own_notS hp1 hb6
          have HR : Hid (VnAt w C gr st v' (l ++ [(⟨#[118, 97, 114, 121]⟩, y)]) b (6 + 1) (w6.setCell ⟨gr, 1, none⟩ v')) :=
            ⟨(HAa.out.below.trans (hp2.mono (by omega))).setCell (p := ⟨gr, 1, none⟩) (by show w.heap.size ≤ gr; omega) v', live_set (HAa.out.live.under hp2 (by omega)) gr 1 _ hCg, Recs.box_far hr6 _ (by omega), Recs.box_set hb6 1 v', Recs.own_set hp1 gr 1 v' hn6, HAa.out.few.more (by decide) hy, HAa.out.said.more HSd.out⟩
          have k1 := Recs.box_cell hb6 1
          have z1 := Recs.box_thaw hb6 1
          simp only [List.getElem?_toArray, List.getElem?_cons_succ, List.getElem?_cons_zero] at k1
          clear ho6 hg6 hp1 hp2 hb6 hr6 hn6 hn2 hn3 HAa HAb hlen hg5 hgr hsa
          refine hK.out _ _ trivial (fun _ => ?_)
          clear hK K
          refine Reg.take (i := 8) (d := 19) (v := ?_) rfl rfl (by kernel_rfl) (by kernel_rfl) (by kernel_rfl) (fun _ _ _ h => h) (by rfl) ?_ hHeld ?_
          rotate_left
          · rintro X hX
            first | (go_simp; done) | (go_simp; with_reducible rfl)
          simp only [Act.put, List.setIfInBounds_toArray, List.set_cons_zero, List.set_cons_succ]
          refine Reg.call (i := 9) rfl (by kernel_rfl) (by rfl) (fun K hK => ?_)
          obtain ⟨a6, q6, hv6⟩ := Recs.own_len HR.out.own
          subst hv6
          rw [List.length_append, List.length_singleton] at HR
          go_wp2
          refine hK.out _ _ trivial (fun _ => ?_)
          clear hK K
          refine wpAnyH_done (by kernel_rfl) ?_ _
          clear k1 z1
          go_wp2
          go_meet
          case rel => exact ⟨_, _, HR⟩
        · go_wp2_with (first | (go_at_call 45; refine (pick_q (oneOf varyVals) w.heap.size C wd.heap.size _ 4 _ (HA4.out.live.alloc _) (by have := HA4.out.live.lt; omega) (heap_alloc_new wd _) rfl (by omega) (by omega) (by kernel_rfl)).mono ?_; rintro e wa ⟨y, rfl, hy, hq, hl, ho⟩))
          have HAa := Num.hide (HAm.out.step ho hl hC hCg)
          have HSd := Num.hide (Drawn.vary hq)
          clear hl ho hq
          refine hK.out _ _ trivial (fun _ => ?_)
          clear hK K
          refine Reg.take (i := 5) (d := 16) (v := ?_) rfl rfl (by kernel_rfl) (by kernel_rfl) (by kernel_rfl) (fun _ _ _ h => h) (by rfl) ?_ hHeld ?_
          rotate_left
          · rintro X hX
            first | (go_simp; done) | (go_simp; with_reducible rfl)
          simp only [Act.put, List.setIfInBounds_toArray, List.set_cons_zero, List.set_cons_succ]
          refine Reg.two (i := 1) (j := 6) rfl rfl (by kernel_rfl) (by rfl) (by rfl) (fun K hK => ?_) (fun K hK => ?_)
          · have c1 := Recs.box_cell HAa.out.box 1
            simp only [List.getElem?_toArray, List.getElem?_cons_succ, List.getElem?_cons_zero] at c1
            go_wp2
            clear c1
            refine hK.out _ _ trivial (fun _ => ?_)
            clear hK K
            refine Reg.call (i := 6) rfl (by kernel_rfl) (by rfl) (fun K hK => ?_)
            have HAb := Num.hide (HAa.out.step ((Only.refl C wa).alloc (.cells #[.string ⟨#[118, 97, 114, 121]⟩, .string y] 40)) (HAa.out.live.alloc (.cells #[.string ⟨#[118, 97, 114, 121]⟩, .string y] 40)) hC hCg)
            go_wp2
            refine hK.out _ _ trivial (fun _ => ?_)
            clear hK K
            refine Reg.call (i := 7) rfl (by kernel_rfl) (by rfl) (fun K hK => ?_)
            have hg5 := HAa.out.lt
            have hlen := HAa.out.few.len
            have hsa : C + 1 ≤ wa.heap.size := by omega
            refine wp_append_own _ _ _ 30 rfl (C + 1) 40 i0 _ 2 32 Tryd.underlying30 hi0 hzz0 hzz1 hzz2 rfl (by decide) (.slice av l.length cv) l.length (l.flatMap Flds.cells) rfl (World.ownsRow.alloc HAa.out.own _) ⟨wa.heap.size, 0, none⟩ 1 1 [.string ⟨#[118, 97, 114, 121]⟩, .string y] rfl rfl (Flds.cells_two wa ⟨#[118, 97, 114, 121]⟩ y) (Flds.two_ok ⟨#[118, 97, 114, 121]⟩ y) (by unfold maxLen; omega) (by omega) ?c9 ?_
            case c9 => first | omega | (simp; omega)
            intro v' w6 ho6 hg6 _
            have hgr := Recs.grown_trans (World.grownBy_alloc wa (.cells #[.string ⟨#[118, 97, 114, 121]⟩, .string y] 40) (Value.slice av l.length cv).ownBlock) hg6
            obtain ⟨hp1, hp2⟩ := Flds.put_more hsa HAa.out.own (Below.refl (C + 1) wa) ho6 hg6
            have hn2 := own_notS HAa.out.own HAa.out.box
            have hb6 : w6.heap[gr]? = some (.cells #[.int .i64 st, .slice av l.length cv, .string b] 34 (0, 0)) := (hgr.block gr hg5 (fun e => hn2 gr e.symm rfl)).trans HAa.out.box
            have hn3 := own_notS HAa.out.own HAa.out.res
            have hr6 : w6.heap[w.heap.size]? = some zResp := (hgr.block _ (by omega) (fun e => hn3 _ e.symm rfl)).trans HAa.out.res
            have hn6 := own_notS hp1 hb6
            have HR : Hid (VnAt w C gr st v' (l ++ [(⟨#[118, 97, 114, 121]⟩, y)]) b (6 + 1) (w6.setCell ⟨gr, 1, none⟩ v')) :=
              ⟨(HAa.out.below.trans (hp2.mono (by omega))).setCell (p := ⟨gr, 1, none⟩) (by show w.heap.size ≤ gr; omega) v', live_set (HAa.out.live.under hp2 (by omega)) gr 1 _ hCg, Recs.box_far hr6 _ (by omega), Recs.box_set hb6 1 v', Recs.own_set hp1 gr 1 v' hn6, HAa.out.few.more (by decide) hy, HAa.out.said.more HSd.out⟩
            have k1 := Recs.box_cell hb6 1
            have z1 := Recs.box_thaw hb6 1
            simp only [List.getElem?_toArray, List.getElem?_cons_succ, List.getElem?_cons_zero] at k1
            clear ho6 hg6 hp1 hp2 hb6 hr6 hn6 hn2 hn3 HAa HAb hlen hg5 hgr hsa
            refine hK.out _ _ trivial (fun _ => ?_)
            clear hK K
            refine Reg.take (i := 8) (d := 19) (v := ?_) rfl rfl (by kernel_rfl) (by kernel_rfl) (by kernel_rfl) (fun _ _ _ h => h) (by rfl) ?_ hHeld ?_
            rotate_left
            · rintro X hX
              first | (go_simp; done) | (go_simp; with_reducible rfl)
            simp only [Act.put, List.setIfInBounds_toArray, List.set_cons_zero, List.set_cons_succ]
            refine Reg.call (i := 9) rfl (by kernel_rfl) (by rfl) (fun K hK => ?_)
            obtain ⟨a6, q6, hv6⟩ := Recs.own_len HR.out.own
            subst hv6
            rw [List.length_append, List.length_singleton] at HR
            go_wp2
            refine hK.out _ _ trivial (fun _ => ?_)
            clear hK K
            refine wpAnyH_done (by kernel_rfl) ?_ _
            clear k1 z1
            go_wp2
            go_meet
            case rel => exact ⟨_, _, HR⟩
          · have HAb := Num.hide (HAa.out.step ((Only.refl C wa).alloc (.cells #[.string ⟨#[118, 97, 114, 121]⟩, .string y] 40)) (HAa.out.live.alloc (.cells #[.string ⟨#[118, 97, 114, 121]⟩, .string y] 40)) hC hCg)
            go_wp2
            refine hK.out _ _ trivial (fun _ => ?_)
            clear hK K
            refine Reg.call (i := 1) rfl (by kernel_rfl) (by rfl) (fun K hK => ?_)
            have c1 := Recs.box_cell HAb.out.box 1
            simp only [List.getElem?_toArray, List.getElem?_cons_succ, List.getElem?_cons_zero] at c1
            go_wp2
            clear c1
            refine hK.out _ _ trivial (fun _ => ?_)
            clear hK K
            refine Reg.call (i := 7) rfl (by kernel_rfl) (by rfl) (fun K hK => ?_)
            have hg5 := HAa.out.lt
            have hlen := HAa.out.few.len
            have hsa : C + 1 ≤ wa.heap.size := by omega
            refine wp_append_own _ _ _ 30 rfl (C + 1) 40 i0 _ 2 32 Tryd.underlying30 hi0 hzz0 hzz1 hzz2 rfl (by decide) (.slice av l.length cv) l.length (l.flatMap Flds.cells) rfl (World.ownsRow.alloc HAa.out.own _) ⟨wa.heap.size, 0, none⟩ 1 1 [.string ⟨#[118, 97, 114, 121]⟩, .string y] rfl rfl (Flds.cells_two wa ⟨#[118, 97, 114, 121]⟩ y) (Flds.two_ok ⟨#[118, 97, 114, 121]⟩ y) (by unfold maxLen; omega) (by omega) ?c9 ?_
            case c9 => first | omega | (simp; omega)
            intro v' w6 ho6 hg6 _
            have hgr := Recs.grown_trans (World.grownBy_alloc wa (.cells #[.string ⟨#[118, 97, 114, 121]⟩, .string y] 40) (Value.slice av l.length cv).ownBlock) hg6
            obtain ⟨hp1, hp2⟩ := Flds.put_more hsa HAa.out.own (Below.refl (C + 1) wa) ho6 hg6
            have hn2 := own_notS HAa.out.own HAa.out.box
            have hb6 : w6.heap[gr]? = some (.cells #[.int .i64 st, .slice av l.length cv, .string b] 34 (0, 0)) := (hgr.block gr hg5 (fun e => hn2 gr e.symm rfl)).trans HAa.out.box
            have hn3 := own_notS HAa.out.own HAa.out.res
            have hr6 : w6.heap[w.heap.size]? = some zResp := (hgr.block _ (by omega) (fun e => hn3 _ e.symm rfl)).trans HAa.out.res
            have hn6 := own_notS hp1 hb6
            have HR : Hid (VnAt w C gr st v' (l ++ [(⟨#[118, 97, 114, 121]⟩, y)]) b (6 + 1) (w6.setCell ⟨gr, 1, none⟩ v')) :=
              ⟨(HAa.out.below.trans (hp2.mono (by omega))).setCell (p := ⟨gr, 1, none⟩) (by show w.heap.size ≤ gr; omega) v', live_set (HAa.out.live.under hp2 (by omega)) gr 1 _ hCg, Recs.box_far hr6 _ (by omega), Recs.box_set hb6 1 v', Recs.own_set hp1 gr 1 v' hn6, HAa.out.few.more (by decide) hy, HAa.out.said.more HSd.out⟩
            have k1 := Recs.box_cell hb6 1
            have z1 := Recs.box_thaw hb6 1
            simp only [List.getElem?_toArray, List.getElem?_cons_succ, List.getElem?_cons_zero] at k1
            clear ho6 hg6 hp1 hp2 hb6 hr6 hn6 hn2 hn3 HAa HAb hlen hg5 hgr hsa
            refine hK.out _ _ trivial (fun _ => ?_)
            clear hK K
            refine Reg.take (i := 8) (d := 19) (v := ?_) rfl rfl (by kernel_rfl) (by kernel_rfl) (by kernel_rfl) (fun _ _ _ h => h) (by rfl) ?_ hHeld ?_
            rotate_left
            · rintro X hX
              first | (go_simp; done) | (go_simp; with_reducible rfl)
            simp only [Act.put, List.setIfInBounds_toArray, List.set_cons_zero, List.set_cons_succ]
            refine Reg.call (i := 9) rfl (by kernel_rfl) (by rfl) (fun K hK => ?_)
            obtain ⟨a6, q6, hv6⟩ := Recs.own_len HR.out.own
            subst hv6
            rw [List.length_append, List.length_singleton] at HR
            go_wp2
            refine hK.out _ _ trivial (fun _ => ?_)
            clear hK K
            refine wpAnyH_done (by kernel_rfl) ?_ _
            clear k1 z1
            go_wp2
            go_meet
            case rel => exact ⟨_, _, HR⟩
  case rest =>
  clear HA3
  obtain ⟨v, l, HA⟩ := hcut
  obtain ⟨av, cv, hvv⟩ := Recs.own_len HA.out.own
  subst hvv
  have n0 := own_notS HA.out.own HA.out.res
  have HE : Hid (Flds.Own w.heap.size (((wc.setCell ⟨w.heap.size, 0, none⟩ (.int .i64 st)).setCell ⟨w.heap.size, 1, none⟩ (.slice av l.length cv)).setCell ⟨w.heap.size, 2, none⟩ (.string b)) (.slice av l.length cv) l ∧ Below w.heap.size w (((wc.setCell ⟨w.heap.size, 0, none⟩ (.int .i64 st)).setCell ⟨w.heap.size, 1, none⟩ (.slice av l.length cv)).setCell ⟨w.heap.size, 2, none⟩ (.string b))) := by
    have o2 := Recs.own_set HA.out.own w.heap.size 0 (.int .i64 st) n0
    have o3 := Recs.own_set o2 w.heap.size 1 (.slice av l.length cv) n0
    have o4 := Recs.own_set o3 w.heap.size 2 (.string b) n0
    refine ⟨Recs.own_mono o4 (by omega), ?_⟩
    exact ((HA.out.below.setCell (p := ⟨w.heap.size, 0, none⟩) (Nat.le_refl _) _).setCell (p := ⟨w.heap.size, 1, none⟩) (Nat.le_refl _) _).setCell (p := ⟨w.heap.size, 2, none⟩) (Nat.le_refl _) _
  have HF := Num.hide HA.out.few
  have HSa := Num.hide HA.out.said
  have k0 := Recs.box_cell HA.out.box 0
  have k1 := Recs.box_cell HA.out.box 1
  have k2 := Recs.box_cell HA.out.box 2
  have o0 := Recs.box_cell HA.out.res 0
  have o1 := Recs.box_cell HA.out.res 1
  have o2 := Recs.box_cell HA.out.res 2
  have y0 := Recs.box_thaw HA.out.res 0
  have y1 := Recs.box_thaw HA.out.res 1
  have y2 := Recs.box_thaw HA.out.res 2
  simp only [List.getElem?_toArray, List.getElem?_cons_succ, List.getElem?_cons_zero] at k0 k1 k2 o0 o1 o2
  have hq1 : ¬ gr = w.heap.size := by omega
  have hq2 : ¬ w.heap.size = gr := by omega
  clear HA n0
  obtain ⟨r, hr⟩ : ∃ r, w.heap.size = r := ⟨_, rfl⟩
  rw [hr] at HE o0 o1 o2 y0 y1 y2 hq1 hq2
  rw [hr]
  go_wp2
  exact bodyPost_ret (v := .agg #[.int .i64 st, .slice av l.length cv, .string b]) (by simp [results, Tryd.results58, go_sem, *]) rfl ⟨st, _, l, b, rfl, (by rw [hr]; exact HE.out.1), HF.out, HSa.out, hb, (by rw [hr]; exact HE.out.2)⟩
end Draw
end Go.Proofs.YtkogcbnbmdeolaaDoor
namespace Go.Proofs.YtkogcbnbmdeolaaDoor
open Go.RowKit
set_option linter.unusedVariables false
set_option linter.unusedSimpArgs false
namespace Draw

theorem uri_live (B C : Nat) (w : World) (h : Live B C w) :
    Calls Tryd.prog 84 #[.pointer (some ⟨C, 0, none⟩)] w fun e w' => ∃ x, e = .returned (.string x) ∧ x.size ≤ 64 ∧ Live B C w' ∧ Only C w w' := by
  have HL := Num.hide h
  have hC := h.lt
  clear h
  go_enter Tryd.func84, Tryd.ntmps84
  go_wp2_with fail
  refine (pick_live B C w.heap.size _ 4 _ (HL.out.alloc _) (by omega) (heap_alloc_new w _) rfl (by omega) (by omega) (by decide)).mono ?_
  rintro e w3 ⟨x, rfl, hx, hl3, hn3⟩
  have HL3 := Num.hide hl3
  have HN3 := Num.hide (((Only.refl C w).alloc _).trans hn3)
  clear hl3 hn3
  go_wp2
  go_ret
  exact ⟨x, rfl, hx, HL3.out, HN3.out⟩
end Draw
end Go.Proofs.YtkogcbnbmdeolaaDoor
