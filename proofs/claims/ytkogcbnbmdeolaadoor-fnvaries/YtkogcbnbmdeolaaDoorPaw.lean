/-
  DrawReq: The specification's draws of a request, of a cursor in whatever state: bounds alone.
  PutAll: append of one list of fields behind another, in a row of the call's own: as one step of a walk, whether the second is nil or not.
-/
import Derived.Test.YtkogcbnbmdeolaaDoorPat
import Derived.Test.YtkogcbnbmdeolaaDoorPav
import Derived.Test.YtkogcbnbmdeolaaDoorPau
import Derived.Test.YtkogcbnbmdeolaaDoorFldPut
import Derived.Laws.AppendOwn
import Derived.Laws.OwnMore
namespace Go.Proofs.YtkogcbnbmdeolaaDoor
open Go.RowKit
set_option linter.unusedVariables false
set_option linter.unusedSimpArgs false
namespace Draw

def zReq : Obj := .cells #[.string ⟨#[]⟩, .string ⟨#[]⟩, .slice none 0 0, .string ⟨#[]⟩] 32
/-- a request that is drawn: its box, the box of the answer, and the cursor -/
structure RqAt (B C : Nat) (w : World) (gq : Nat) (m u : ByteArray) (v : Value) (l : List Flds.Fld) (n : Nat) (X : World) : Prop where
  live : Live B C X
  only : Only C w X
  res : X.heap[w.heap.size]? = some zReq
  box : X.heap[gq]? = some (.cells #[.string m, .string u, v, .string ⟨#[]⟩] 32)
  own : Flds.Own (gq + 1) X v l
  few : Few n l
  said : AllSaid l
theorem RqAt.lt {B C : Nat} {w : World} {gq : Nat} {m u : ByteArray} {v : Value} {l : List Flds.Fld} {n : Nat} {X : World} (h : RqAt B C w gq m u v l n X) : gq < X.heap.size := (Array.getElem?_eq_some_iff.1 h.box).1
theorem RqAt.step {B C : Nat} {w : World} {gq : Nat} {m u : ByteArray} {v : Value} {l : List Flds.Fld} {n : Nat} {X X' : World} (h : RqAt B C w gq m u v l n X) (ho : Only C X X') (hl : Live B C X') (hC : C < w.heap.size) (hg : w.heap.size < gq) : RqAt B C w gq m u v l n X' := by
  have hx := h.lt
  have hw := h.only.size
  exact ⟨hl, h.only.trans ho, (ho.block _ (by omega) (by omega)).trans h.res, (ho.block _ hx (by omega)).trans h.box, own_only h.own ho (by omega), h.few, h.said⟩
set_option maxRecDepth 100000 in
set_option maxHeartbeats 4000000 in
theorem req_q (B C : Nat) (w : World) (h : Live B C w) :
    Calls Tryd.prog 56 #[.pointer (some ⟨C, 0, none⟩)] w fun e w' => ∃ m u v l b, e = .returned (Req.val m u v b) ∧ m.size ≤ 64 ∧ u.size ≤ 64 ∧ Flds.Own w.heap.size w' v l ∧ Few 2 l ∧ AllSaid l ∧ b.size ≤ 64 ∧ Live B C w' ∧ Only C w w' := by
  have hC := h.lt
  obtain ⟨i0, hi0, hzz0, hzz1, hzz2⟩ := info_parts Flds.infoF
  have HL0 := Num.hide (h.alloc zReq)
  have HO0 := Num.hide ((Only.refl C w).alloc zReq)
  have HZ0 : Hid ((w.alloc zReq).heap[w.heap.size]? = some zReq) := heap_alloc_new w _
  have hz0 : (w.alloc zReq).heap.size = w.heap.size + 1 := by rw [World.size_alloc]
  clear h
  go_enter Tryd.func56, Tryd.ntmps56
  go_wp2_with fail
  refine (pick_live B C (w.heap.size + 1) _ 7 _ (HL0.out.alloc _) (by omega) (hz0 ▸ heap_alloc_new (w.alloc zReq) _) rfl (by omega) (by omega) (by decide)).mono ?_
  rintro e w1 ⟨m, rfl, hm, hl, ho⟩
  have HL1 := Num.hide hl
  have HO1 := Num.hide ((HO0.out.alloc _).trans ho)
  have HZ1 : Hid (w1.heap[w.heap.size]? = some zReq) := (ho.block _ (by rw [World.size_alloc]; omega) (by omega)).trans ((heap_alloc_old _ _ (by omega)).trans HZ0.out)
  have hz1 : w.heap.size + 1 < w1.heap.size := by have := ho.size; rw [World.size_alloc] at this; omega
  clear hl ho HL0 HO0 HZ0
  go_wp2_with fail
  refine (uri_live B C _ HL1.out).mono ?_
  rintro e w2 ⟨u, rfl, hu, hl, ho⟩
  have hz2 := ho.size
  have hal : Below w2.heap.size w2 (w2.alloc (.cells #[.string m, .string u, .slice none 0 0, .string ⟨#[]⟩] 32)) := (Below.refl _ _).alloc (Nat.le_refl _) _
  have HA : Hid (RqAt B C w w2.heap.size m u (.slice none 0 0) [] 0 (w2.alloc (.cells #[.string m, .string u, .slice none 0 0, .string ⟨#[]⟩] 32))) :=
    ⟨hl.below hal, (HO1.out.trans ho).alloc _, (heap_alloc_old _ _ (by omega)).trans ((ho.block _ (by omega) (by omega)).trans HZ1.out), heap_alloc_new w2 _, Recs.own_nil _ _, ⟨Nat.le_refl _, fun f hf => by cases hf⟩, fun f hf => by cases hf⟩
  have hgq : w.heap.size < w2.heap.size := by omega
  clear hl ho hal HL1 HO1 HZ1
  go_upto_region 2 with fail
  generalize w2.alloc (.cells #[.string m, .string u, .slice none 0 0, .string ⟨#[]⟩] 32) = w3 at HA ⊢
  generalize w2.heap.size = gq at HA hgq hz2 ⊢
  go_wp2_with fail
  refine (below_live B C 3 _ HA.out.live (by omega) (by omega)).mono ?_
  rintro e w4 ⟨z, rfl, hz0', hz1', hl, ho⟩
  obtain ⟨k0, rfl⟩ := Int.eq_ofNat_of_zero_le hz0'
  have HA4 := Num.hide (HA.out.step ho hl hC hgq)
  clear hl ho HA
  go_wp2
  go_loopw [4] (fun nv wr => ∃ (k : Nat) (v : Value) (l : List Flds.Fld), nv = .int .i64 (k : Int) ∧ k ≤ 2 ∧ Hid (RqAt B C w gq m u v l (2 - k) wr)) (fun nv _ => (intOf nv).toNat)
  case atStart => exact ⟨k0, .slice none 0 0, [], rfl, by omega, ⟨HA4.out.live, HA4.out.only, HA4.out.res, HA4.out.box, HA4.out.own, HA4.out.few.mono (by omega), HA4.out.said⟩⟩
  case round =>
    clear HA4
    obtain ⟨k, v, l, rfl, hk, HA⟩ := hrel
    obtain ⟨av, cv, hvv⟩ := Recs.own_len HA.out.own
    subst hvv
    by_cases h0 : 0 < (k : Int)
    · go_wp2
      have HA1 := Num.hide (HA.out.step (Only.refl C wr).drew (HA.out.live.below (Below.refl _ _).drew) hC hgq)
      clear HA
      refine wp_region_held_drew (S := fun _ => True) (by kernel_rfl) trivial (fun hHeld => ?_)
      refine Reg.take (i := 0) (d := 17) (v := ?_) rfl rfl (by kernel_rfl) (by kernel_rfl) (by kernel_rfl) (fun _ _ _ h => h) (by rfl) ?_ hHeld ?_
      rotate_left
      · rintro X hX
        first | (go_simp; done) | (go_simp; with_reducible rfl)
      simp only [Act.put, List.setIfInBounds_toArray, List.set_cons_zero, List.set_cons_succ]
      refine Reg.take (i := 2) (d := 19) (v := ?_) rfl rfl (by kernel_rfl) (by kernel_rfl) (by kernel_rfl) (fun _ _ _ h => h) (by rfl) ?_ hHeld ?_
      rotate_left
      · rintro X hX
        first | (go_simp; done) | (go_simp; with_reducible rfl)
      simp only [Act.put, List.setIfInBounds_toArray, List.set_cons_zero, List.set_cons_succ]
      refine Reg.two (i := 1) (j := 3) rfl rfl (by kernel_rfl) (by rfl) (by rfl) (fun K hK => ?_) (fun K hK => ?_)
      · have c2 := Recs.box_cell HA1.out.box 2
        simp only [List.getElem?_toArray, List.getElem?_cons_succ, List.getElem?_cons_zero] at c2
        go_wp2
        clear c2
        refine hK.out _ _ trivial (fun _ => ?_)
        clear hK K
        refine Reg.call (i := 3) rfl (by kernel_rfl) (by rfl) (fun K hK => ?_)
        go_wp2_with (first | (go_at_call 85; refine (field_q B C _ HA1.out.live).mono ?_; rintro e w5 ⟨x, y, rfl, hx, hy, hsd, hl, ho⟩))
        have HA5 := Num.hide (HA1.out.step ho hl hC hgq)
        have HSd := Num.hide hsd
        clear hsd hl ho HA1
        refine hK.out _ _ trivial (fun _ => ?_)
        clear hK K
        refine Reg.call (i := 4) rfl (by kernel_rfl) (by rfl) (fun K hK => ?_)
        go_wp2
        refine hK.out _ _ trivial (fun _ => ?_)
        clear hK K
        refine Reg.call (i := 5) rfl (by kernel_rfl) (by rfl) (fun K hK => ?_)
        have hg5 := HA5.out.lt
        have hlen := HA5.out.few.len
        refine wp_append_own _ _ _ 30 rfl (gq + 1) 40 i0 _ 2 32 Tryd.underlying30 hi0 hzz0 hzz1 hzz2 rfl (by decide) _ _ _ rfl (World.ownsRow.alloc HA5.out.own _) ⟨w5.heap.size, 0, none⟩ 1 1 [.string x, .string y] rfl rfl (Flds.cells_two w5 x y) (Flds.two_ok x y) (by unfold maxLen; omega) (by omega) ?c9 ?_
        case c9 => first | omega | (simp; omega)
        intro v' w6 ho6 hg6 _
        obtain ⟨hp1, hp2⟩ := Flds.put_more (by omega : gq + 1 ≤ w5.heap.size) HA5.out.own (Below.refl (gq + 1) w5) ho6 hg6
        have hb6 : w6.heap[gq]? = some (.cells #[.string m, .string u, .slice av l.length cv, .string ⟨#[]⟩] 32 (0, 0)) := (hp2.block gq (by omega)).trans HA5.out.box
        have hr6 : w6.heap[w.heap.size]? = some zReq := (hp2.block _ (by omega)).trans HA5.out.res
        have hn6 : ∀ j, v'.ownBlock = some j → j ≠ gq := fun j hj => by have := (Recs.own_lt hp1 j hj).1; omega
        have HF : Hid (RqAt B C w gq m u v' (l ++ [(x, y)]) (2 - (k - 1)) (w6.setCell ⟨gq, 2, none⟩ v')) :=
          ⟨live_set (HA5.out.live.under hp2 (by omega)) gq 2 _ (by omega), only_set (HA5.out.only.of_below (hp2.mono (by omega))) gq 2 _ (by omega), Recs.box_far hr6 _ (by omega), Recs.box_set hb6 2 v', Recs.own_set hp1 gq 2 v' hn6, (HA5.out.few.more hx hy).mono (by omega), HA5.out.said.more HSd.out⟩
        have c2 := Recs.box_cell hb6 2
        have z2 := Recs.box_thaw hb6 2
        simp only [List.getElem?_toArray, List.getElem?_cons_succ, List.getElem?_cons_zero] at c2
        clear ho6 hg6 hp1 hp2 hb6 hr6 hn6 HA5 hlen hg5
        refine hK.out _ _ trivial (fun _ => ?_)
        clear hK K
        refine Reg.take (i := 6) (d := 23) (v := ?_) rfl rfl (by kernel_rfl) (by kernel_rfl) (by kernel_rfl) (fun _ _ _ h => h) (by rfl) ?_ hHeld ?_
        rotate_left
        · rintro X hX
          first | (go_simp; done) | (go_simp; with_reducible rfl)
        simp only [Act.put, List.setIfInBounds_toArray, List.set_cons_zero, List.set_cons_succ]
        refine Reg.call (i := 7) rfl (by kernel_rfl) (by rfl) (fun K hK => ?_)
        obtain ⟨a6, q6, hv6⟩ := Recs.own_len HF.out.own
        subst hv6
        rw [List.length_append, List.length_singleton] at HF
        go_wp2
        refine hK.out _ _ trivial (fun _ => ?_)
        clear hK K
        refine wpAnyH_done (by kernel_rfl) ?_ _
        clear c2 z2
        go_wp2
        go_roundw
        case rel => exact ⟨k - 1, _, _, by go_num, by omega, HF⟩
        case measure => simp [intOf]; omega
      · go_wp2_with (first | (go_at_call 85; refine (field_q B C _ HA1.out.live).mono ?_; rintro e w5 ⟨x, y, rfl, hx, hy, hsd, hl, ho⟩))
        have HA5 := Num.hide (HA1.out.step ho hl hC hgq)
        have HSd := Num.hide hsd
        clear hsd hl ho HA1
        refine hK.out _ _ trivial (fun _ => ?_)
        clear hK K
        refine Reg.two (i := 1) (j := 4) rfl rfl (by kernel_rfl) (by rfl) (by rfl) (fun K hK => ?_) (fun K hK => ?_)
        · have c2 := Recs.box_cell HA5.out.box 2
          simp only [List.getElem?_toArray, List.getElem?_cons_succ, List.getElem?_cons_zero] at c2
          go_wp2
          clear c2
          refine hK.out _ _ trivial (fun _ => ?_)
          clear hK K
          refine Reg.call (i := 4) rfl (by kernel_rfl) (by rfl) (fun K hK => ?_)
          go_wp2
          refine hK.out _ _ trivial (fun _ => ?_)
          clear hK K
          refine Reg.call (i := 5) rfl (by kernel_rfl) (by rfl) (fun K hK => ?_)
          have hg5 := HA5.out.lt
          have hlen := HA5.out.few.len
          refine wp_append_own _ _ _ 30 rfl (gq + 1) 40 i0 _ 2 32 Tryd.underlying30 hi0 hzz0 hzz1 hzz2 rfl (by decide) _ _ _ rfl (World.ownsRow.alloc HA5.out.own _) ⟨w5.heap.size, 0, none⟩ 1 1 [.string x, .string y] rfl rfl (Flds.cells_two w5 x y) (Flds.two_ok x y) (by unfold maxLen; omega) (by omega) ?c9 ?_
          case c9 => first | omega | (simp; omega)
          intro v' w6 ho6 hg6 _
          obtain ⟨hp1, hp2⟩ := Flds.put_more (by omega : gq + 1 ≤ w5.heap.size) HA5.out.own (Below.refl (gq + 1) w5) ho6 hg6
          have hb6 : w6.heap[gq]? = some (.cells #[.string m, .string u, .slice av l.length cv, .string ⟨#[]⟩] 32 (0, 0)) := (hp2.block gq (by omega)).trans HA5.out.box
          have hr6 : w6.heap[w.heap.size]? = some zReq := (hp2.block _ (by omega)).trans HA5.out.res
          have hn6 : ∀ j, v'.ownBlock = some j → j ≠ gq := fun j hj => by have := (Recs.own_lt hp1 j hj).1; omega
          have HF : Hid (RqAt B C w gq m u v' (l ++ [(x, y)]) (2 - (k - 1)) (w6.setCell ⟨gq, 2, none⟩ v')) :=
            ⟨live_set (HA5.out.live.under hp2 (by omega)) gq 2 _ (by omega), only_set (HA5.out.only.of_below (hp2.mono (by omega))) gq 2 _ (by omega), Recs.box_far hr6 _ (by omega), Recs.box_set hb6 2 v', Recs.own_set hp1 gq 2 v' hn6, (HA5.out.few.more hx hy).mono (by omega), HA5.out.said.more HSd.out⟩
          have c2 := Recs.box_cell hb6 2
          have z2 := Recs.box_thaw hb6 2
          simp only [List.getElem?_toArray, List.getElem?_cons_succ, List.getElem?_cons_zero] at c2
          clear ho6 hg6 hp1 hp2 hb6 hr6 hn6 HA5 hlen hg5
          refine hK.out _ _ trivial (fun _ => ?_)
          clear hK K
          refine Reg.take (i := 6) (d := 23) (v := ?_) rfl rfl (by kernel_rfl) (by kernel_rfl) (by kernel_rfl) (fun _ _ _ h => h) (by rfl) ?_ hHeld ?_
          rotate_left
          · rintro X hX
            first | (go_simp; done) | (go_simp; with_reducible rfl)
          simp only [Act.put, List.setIfInBounds_toArray, List.set_cons_zero, List.set_cons_succ]
          refine Reg.call (i := 7) rfl (by kernel_rfl) (by rfl) (fun K hK => ?_)
          obtain ⟨a6, q6, hv6⟩ := Recs.own_len HF.out.own
          subst hv6
          rw [List.length_append, List.length_singleton] at HF
          go_wp2
          refine hK.out _ _ trivial (fun _ => ?_)
          clear hK K
          refine wpAnyH_done (by kernel_rfl) ?_ _
          clear c2 z2
          go_wp2
          go_roundw
          case rel => exact ⟨k - 1, _, _, by go_num, by omega, HF⟩
          case measure => simp [intOf]; omega
        · go_wp2
          refine hK.out _ _ trivial (fun _ => ?_)
          clear hK K
          refine Reg.call (i := 1) rfl (by kernel_rfl) (by rfl) (fun K hK => ?_)
          have hbx := (heap_alloc_old w5 (.cells #[.string x, .string y] 40) HA5.out.lt).trans HA5.out.box
          have c2 := Recs.box_cell hbx 2
          simp only [List.getElem?_toArray, List.getElem?_cons_succ, List.getElem?_cons_zero] at c2
          go_wp2
          clear c2 hbx
          refine hK.out _ _ trivial (fun _ => ?_)
          clear hK K
          refine Reg.call (i := 5) rfl (by kernel_rfl) (by rfl) (fun K hK => ?_)
          have hg5 := HA5.out.lt
          have hlen := HA5.out.few.len
          refine wp_append_own _ _ _ 30 rfl (gq + 1) 40 i0 _ 2 32 Tryd.underlying30 hi0 hzz0 hzz1 hzz2 rfl (by decide) _ _ _ rfl (World.ownsRow.alloc HA5.out.own _) ⟨w5.heap.size, 0, none⟩ 1 1 [.string x, .string y] rfl rfl (Flds.cells_two w5 x y) (Flds.two_ok x y) (by unfold maxLen; omega) (by omega) ?c9 ?_
          case c9 => first | omega | (simp; omega)
          intro v' w6 ho6 hg6 _
          obtain ⟨hp1, hp2⟩ := Flds.put_more (by omega : gq + 1 ≤ w5.heap.size) HA5.out.own (Below.refl (gq + 1) w5) ho6 hg6
          have hb6 : w6.heap[gq]? = some (.cells #[.string m, .string u, .slice av l.length cv, .string ⟨#[]⟩] 32 (0, 0)) := (hp2.block gq (by omega)).trans HA5.out.box
          have hr6 : w6.heap[w.heap.size]? = some zReq := (hp2.block _ (by omega)).trans HA5.out.res
          have hn6 : ∀ j, v'.ownBlock = some j → j ≠ gq := fun j hj => by have := (Recs.own_lt hp1 j hj).1; omega
          have HF : Hid (RqAt B C w gq m u v' (l ++ [(x, y)]) (2 - (k - 1)) (w6.setCell ⟨gq, 2, none⟩ v')) :=
            ⟨live_set (HA5.out.live.under hp2 (by omega)) gq 2 _ (by omega), only_set (HA5.out.only.of_below (hp2.mono (by omega))) gq 2 _ (by omega), Recs.box_far hr6 _ (by omega), Recs.box_set hb6 2 v', Recs.own_set hp1 gq 2 v' hn6, (HA5.out.few.more hx hy).mono (by omega), HA5.out.said.more HSd.out⟩
          have c2 := Recs.box_cell hb6 2
          have z2 := Recs.box_thaw hb6 2
          simp only [List.getElem?_toArray, List.getElem?_cons_succ, List.getElem?_cons_zero] at c2
          clear ho6 hg6 hp1 hp2 hb6 hr6 hn6 HA5 hlen hg5
          refine hK.out _ _ trivial (fun _ => ?_)
          clear hK K
          refine Reg.take (i := 6) (d := 23) (v := ?_) rfl rfl (by kernel_rfl) (by kernel_rfl) (by kernel_rfl) (fun _ _ _ h => h) (by rfl) ?_ hHeld ?_
          rotate_left
          · rintro X hX
            first | (go_simp; done) | (go_simp; with_reducible rfl)
          simp only [Act.put, List.setIfInBounds_toArray, List.set_cons_zero, List.set_cons_succ]
          refine Reg.call (i := 7) rfl (by kernel_rfl) (by rfl) (fun K hK => ?_)
          obtain ⟨a6, q6, hv6⟩ := Recs.own_len HF.out.own
          subst hv6
          rw [List.length_append, List.length_singleton] at HF
          go_wp2
          refine hK.out _ _ trivial (fun _ => ?_)
          clear hK K
          refine wpAnyH_done (by kernel_rfl) ?_ _
          clear c2 z2
          go_wp2
          go_roundw
          case rel => exact ⟨k - 1, _, _, by go_num, by omega, HF⟩
          case measure => simp [intOf]; omega
    · have hgl := HA.out.lt
      have n0 : ∀ j, (Value.slice av l.length cv).ownBlock = some j → j ≠ w.heap.size := fun j hj => by have := (Recs.own_lt HA.out.own j hj).1; omega
      have n1 : ∀ j, (Value.slice av l.length cv).ownBlock = some j → j ≠ gq := fun j hj => by have := (Recs.own_lt HA.out.own j hj).1; omega
      have hq1 : ¬ gq = w.heap.size := by omega
      have hq2 : ¬ w.heap.size = gq := by omega
      have HF2 := Num.hide (HA.out.few.mono (by omega : 2 - k ≤ 2))
      have HSa := Num.hide HA.out.said
      cases hb : (m.toList == [71, 69, 84]) with
      | true =>
      have hb2 : (m.toList != [71, 69, 84]) = false := by rw [bne, hb]; rfl
      have HE : Hid (Flds.Own w.heap.size ((((wr.setCell ⟨w.heap.size, 0, none⟩ (.string m)).setCell ⟨w.heap.size, 1, none⟩ (.string u)).setCell ⟨w.heap.size, 2, none⟩ (.slice av l.length cv)).setCell ⟨w.heap.size, 3, none⟩ (.string ⟨#[]⟩)) (.slice av l.length cv) l ∧ Live B C ((((wr.setCell ⟨w.heap.size, 0, none⟩ (.string m)).setCell ⟨w.heap.size, 1, none⟩ (.string u)).setCell ⟨w.heap.size, 2, none⟩ (.slice av l.length cv)).setCell ⟨w.heap.size, 3, none⟩ (.string ⟨#[]⟩)) ∧ Only C w ((((wr.setCell ⟨w.heap.size, 0, none⟩ (.string m)).setCell ⟨w.heap.size, 1, none⟩ (.string u)).setCell ⟨w.heap.size, 2, none⟩ (.slice av l.length cv)).setCell ⟨w.heap.size, 3, none⟩ (.string ⟨#[]⟩))) := by
        have o1 := Recs.own_set (HA.out.own) w.heap.size 0 (.string m) n0
        have o2 := Recs.own_set o1 w.heap.size 1 (.string u) n0
        have o3 := Recs.own_set o2 w.heap.size 2 (.slice av l.length cv) n0
        have o4 := Recs.own_set o3 w.heap.size 3 (.string ⟨#[]⟩) n0
        refine ⟨Recs.own_mono o4 (by omega), ?_, ?_⟩
        · exact live_set (live_set (live_set (live_set (HA.out.live) _ 0 _ hC) _ 1 _ hC) _ 2 _ hC) _ 3 _ hC
        · exact only_set (only_set (only_set (only_set (HA.out.only) _ 0 _ (Nat.le_refl _)) _ 1 _ (Nat.le_refl _)) _ 2 _ (Nat.le_refl _)) _ 3 _ (Nat.le_refl _)
      have k0 := Recs.box_cell (HA.out.box) 0
      have k1 := Recs.box_cell (HA.out.box) 1
      have k2 := Recs.box_cell (HA.out.box) 2
      have k3 := Recs.box_cell (HA.out.box) 3
      have z3 := Recs.box_thaw (HA.out.box) 3
      have o0 := Recs.box_cell (HA.out.res) 0
      have y0 := Recs.box_thaw (HA.out.res) 0
      have o1 := Recs.box_cell (HA.out.res) 1
      have y1 := Recs.box_thaw (HA.out.res) 1
      have o2 := Recs.box_cell (HA.out.res) 2
      have y2 := Recs.box_thaw (HA.out.res) 2
      have o3 := Recs.box_cell (HA.out.res) 3
      have y3 := Recs.box_thaw (HA.out.res) 3
      simp only [List.getElem?_toArray, List.getElem?_cons_succ, List.getElem?_cons_zero] at k0 k1 k2 k3 o0 o1 o2 o3
      clear HA
      obtain ⟨r, hr⟩ : ∃ r, w.heap.size = r := ⟨_, rfl⟩
      rw [hr] at HE o0 o1 o2 o3 y0 y1 y2 y3 hq1 hq2 ⊢
      clear n0 n1
      go_wp2
      exact bodyPost_ret (v := .agg #[.string m, .string u, .slice av l.length cv, .string ⟨#[]⟩]) (by simp [results, Tryd.results56, go_sem, *]) rfl ⟨m, u, _, l, ⟨#[]⟩, rfl, hm, hu, hr ▸ HE.out.1, HF2.out, HSa.out, by decide, HE.out.2.1, HE.out.2.2⟩
      | false =>
      have hb2 : (m.toList != [71, 69, 84]) = true := by rw [bne, hb]; rfl
      have k0 := Recs.box_cell HA.out.box 0
      simp only [List.getElem?_toArray, List.getElem?_cons_succ, List.getElem?_cons_zero] at k0
      go_wp2_with fail
      refine (text_live B C 6 _ HA.out.live (by omega)).mono ?_
      rintro e w7 ⟨t, rfl, ht, hl, ho⟩
      have HA7 := Num.hide (HA.out.step ho hl hC hgq)
      clear hl ho k0 HA
      have HE : Hid (Flds.Own w.heap.size (((((w7.setCell ⟨gq, 3, none⟩ (.string t)).setCell ⟨w.heap.size, 0, none⟩ (.string m)).setCell ⟨w.heap.size, 1, none⟩ (.string u)).setCell ⟨w.heap.size, 2, none⟩ (.slice av l.length cv)).setCell ⟨w.heap.size, 3, none⟩ (.string t)) (.slice av l.length cv) l ∧ Live B C (((((w7.setCell ⟨gq, 3, none⟩ (.string t)).setCell ⟨w.heap.size, 0, none⟩ (.string m)).setCell ⟨w.heap.size, 1, none⟩ (.string u)).setCell ⟨w.heap.size, 2, none⟩ (.slice av l.length cv)).setCell ⟨w.heap.size, 3, none⟩ (.string t)) ∧ Only C w (((((w7.setCell ⟨gq, 3, none⟩ (.string t)).setCell ⟨w.heap.size, 0, none⟩ (.string m)).setCell ⟨w.heap.size, 1, none⟩ (.string u)).setCell ⟨w.heap.size, 2, none⟩ (.slice av l.length cv)).setCell ⟨w.heap.size, 3, none⟩ (.string t))) := by
        have o1 := Recs.own_set (Recs.own_set HA7.out.own gq 3 (.string t) n1) w.heap.size 0 (.string m) n0
        have o2 := Recs.own_set o1 w.heap.size 1 (.string u) n0
        have o3 := Recs.own_set o2 w.heap.size 2 (.slice av l.length cv) n0
        have o4 := Recs.own_set o3 w.heap.size 3 (.string t) n0
        refine ⟨Recs.own_mono o4 (by omega), ?_, ?_⟩
        · exact live_set (live_set (live_set (live_set (live_set HA7.out.live gq 3 _ (by omega)) _ 0 _ hC) _ 1 _ hC) _ 2 _ hC) _ 3 _ hC
        · exact only_set (only_set (only_set (only_set (only_set HA7.out.only gq 3 _ (by omega)) _ 0 _ (Nat.le_refl _)) _ 1 _ (Nat.le_refl _)) _ 2 _ (Nat.le_refl _)) _ 3 _ (Nat.le_refl _)
      have k0 := Recs.box_cell (HA7.out.box) 0
      have k1 := Recs.box_cell (HA7.out.box) 1
      have k2 := Recs.box_cell (HA7.out.box) 2
      have k3 := Recs.box_cell (HA7.out.box) 3
      have z3 := Recs.box_thaw (HA7.out.box) 3
      have o0 := Recs.box_cell (HA7.out.res) 0
      have y0 := Recs.box_thaw (HA7.out.res) 0
      have o1 := Recs.box_cell (HA7.out.res) 1
      have y1 := Recs.box_thaw (HA7.out.res) 1
      have o2 := Recs.box_cell (HA7.out.res) 2
      have y2 := Recs.box_thaw (HA7.out.res) 2
      have o3 := Recs.box_cell (HA7.out.res) 3
      have y3 := Recs.box_thaw (HA7.out.res) 3
      simp only [List.getElem?_toArray, List.getElem?_cons_succ, List.getElem?_cons_zero] at k0 k1 k2 k3 o0 o1 o2 o3
      clear HA7
      obtain ⟨r, hr⟩ : ∃ r, w.heap.size = r := ⟨_, rfl⟩
      rw [hr] at HE o0 o1 o2 o3 y0 y1 y2 y3 hq1 hq2 ⊢
      clear n0 n1
      go_wp2
      exact bodyPost_ret (v := .agg #[.string m, .string u, .slice av l.length cv, .string t]) (by simp [results, Tryd.results56, go_sem, *]) rfl ⟨m, u, _, l, t, rfl, hm, hu, hr ▸ HE.out.1, HF2.out, HSa.out, by omega, HE.out.2.1, HE.out.2.2⟩
theorem req_live (B C : Nat) (w : World) (h : Live B C w) :
    Calls Tryd.prog 56 #[.pointer (some ⟨C, 0, none⟩)] w fun e w' => ∃ m u v l b, e = .returned (Req.val m u v b) ∧ m.size ≤ 64 ∧ u.size ≤ 64 ∧ Flds.Own w.heap.size w' v l ∧ Few 2 l ∧ b.size ≤ 64 ∧ Live B C w' ∧ Only C w w' :=
  (req_q B C w h).mono fun e w' ⟨m, u, v, l, b, h1, h2, h3, h4, h5, _, h6, h7, h8⟩ => ⟨m, u, v, l, b, h1, h2, h3, h4, h5, h6, h7, h8⟩
end Draw
end Go.Proofs.YtkogcbnbmdeolaaDoor
namespace Go.Proofs.YtkogcbnbmdeolaaDoor
open Go.RowKit
set_option linter.unusedVariables false
namespace Flds

theorem texts_ok (l : List Fld) : ∀ u ∈ l.flatMap cells, u.oneCell' = true := by
  intro u hu
  obtain ⟨f, _, hf⟩ := List.mem_flatMap.1 hu
  unfold cells at hf
  simp at hf
  rcases hf with rfl | rfl <;> rfl
theorem wp_put_all {o : Oper} {a : Act} {w : World} {K : Act → World → Prop} {Q : Exit → Act → World → Prop} (s x : Operand)
    (ho : o.op = .call { callee := .builtin .append, args := #[s, x], argTypes := #[30, 30] })
    (base B : Nat) (v : Value) (pre : List Fld) (hs : a.eval s = v) (hown : Own base w v pre) (vx : Value) (l : List Fld) (hx : a.eval x = vx) (hI : Own B w vx l)
    (hz : pre.length + l.length ≤ 4194304) (hbase : base ≤ w.heap.size)
    (h : ∀ v' w', Own base w' v' (pre ++ l) → w.grownBy w' v.ownBlock → K (a.put o.dst v') w') : o.wp Tryd.prog a w K Q := by
  obtain ⟨i0, hi0, hz0, hz1, hz2⟩ := info_parts infoF
  rcases hI.2 with ⟨h1, h2⟩ | ⟨g, cap, cur, h1, hB, hg, hc, hm, hsz, htake⟩
  · subst h1
    obtain rfl : l = [] := List.eq_nil_of_length_eq_zero h2
    rw [List.append_nil] at h
    have hrun := run_append_owned_none (P := Tryd.prog) (w := w) base 30 o.type 40 i0 2 Tryd.underlying30 hi0 v pre.length (pre.flatMap cells) hown
    unfold Oper.wp
    simp [execOp, ho, resolve, invoke, builtin, hs, hx, hrun, Result.andThen]
    exact h _ _ hown (Recs.grown_refl _ _)
  · subst h1
    refine wp_append_own w s x 30 ho base 40 i0 _ 2 32 Tryd.underlying30 hi0 hz0 hz1 hz2 rfl (by decide) v pre.length (pre.flatMap cells) hs hown ⟨g, 0, none⟩ l.length cap (l.flatMap cells) hx (by rw [Recs.flat_length cells_len]) (World.ownsRow.cells hI (g := g) rfl) (texts_ok l) (by unfold maxLen; omega) (by omega) hbase ?_
    intro v' w' ho' hg' _
    refine h v' w' ?_ hg'
    unfold Own Recs.Own
    rw [List.length_append, List.flatMap_append]
    exact ho'
theorem wpList_put_all {ops : Array Oper} {rest : List Oper} {o : Oper} {a : Act} {w : World} {Q : Exit → Act → World → Prop} (hgd : o.guard = none) (s x : Operand)
    (ho : o.op = .call { callee := .builtin .append, args := #[s, x], argTypes := #[30, 30] })
    (base B : Nat) (v : Value) (pre : List Fld) (hs : a.eval s = v) (hown : Own base w v pre) (vx : Value) (l : List Fld) (hx : a.eval x = vx) (hI : Own B w vx l)
    (hz : pre.length + l.length ≤ 4194304) (hbase : base ≤ w.heap.size)
    (h : ∀ v' w', Own base w' v' (pre ++ l) → w.grownBy w' v.ownBlock → wpList Tryd.prog ops Q rest (a.put o.dst v') w') : wpList Tryd.prog ops Q (o :: rest) a w :=
  wpList_plain hgd fun _ hK => wp_put_all s x ho base B v pre hs hown vx l hx hI hz hbase fun v' w' h1 h2 => hK _ _ (h v' w' h1 h2)
end Flds
end Go.Proofs.YtkogcbnbmdeolaaDoor
