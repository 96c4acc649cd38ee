/-
  DrawReq: The specification's draws of a request, of a cursor in whatever state: bounds alone.
  RegThree: One step through a region that draws its order: three operations that come up together.
  DrawMust: DrawMustCheck of the specification: bounds alone, and that the quotes end in what is said of caching; what was there stays.
-/
import Derived.Test.YtbcjpjhpobmpbaaGreatDoorPaw
import Derived.Test.YtbcjpjhpobmpbaaGreatDoorPax
import Derived.Test.YtbcjpjhpobmpbaaGreatDoorPae
import Derived.Laws.AppendOwn
namespace Go.Proofs.YtbcjpjhpobmpbaaGreatDoor
open Go.RowKit
set_option linter.unusedVariables false
set_option linter.unusedSimpArgs false
namespace Draw

def zReq : Obj := .cells #[.string ⟨#[]⟩, .string ⟨#[]⟩, .slice none 0 0, .string ⟨#[]⟩] 32
/-- a request that is drawn: its box, the box of the answer, and the cursor -/
structure RqAt (B C : Nat) (w : World) (gq : Nat) (m u : ByteArray) (v : Value) (l : List Flds.Fld) (n : Nat) (X : World) : Prop where
  live : Live B C X
  only : Only C w X
  res : X.heap[w.heap.size]? = some zReq
  box : X.heap[gq]? = some (.cells #[.string m, .string u, v, .string ⟨#[]⟩] 32)
  own : Flds.Own (gq + 1) X v l
  few : Few n l
  said : AllSaid l
theorem RqAt.lt {B C : Nat} {w : World} {gq : Nat} {m u : ByteArray} {v : Value} {l : List Flds.Fld} {n : Nat} {X : World} (h : RqAt B C w gq m u v l n X) : gq < X.heap.size := (Array.getElem?_eq_some_iff.1 h.box).1
theorem RqAt.step {B C : Nat} {w : World} {gq : Nat} {m u : ByteArray} {v : Value} {l : List Flds.Fld} {n : Nat} {X X' : World} (h : RqAt B C w gq m u v l n X) (ho : Only C X X') (hl : Live B C X') (hC : C < w.heap.size) (hg : w.heap.size < gq) : RqAt B C w gq m u v l n X' := by
  have hx := h.lt
  have hw := h.only.size
  exact ⟨hl, h.only.trans ho, (ho.block _ (by omega) (by omega)).trans h.res, (ho.block _ hx (by omega)).trans h.box, own_only h.own ho (by omega), h.few, h.said⟩
set_option maxRecDepth 100000 in
set_option maxHeartbeats 4000000 in
theorem req_q (B C : Nat) (w : World) (h : Live B C w) :
    Calls Tryz.prog 37 #[.pointer (some ⟨C, 0, none⟩)] w fun e w' => ∃ m u v l b, e = .returned (Req.val m u v b) ∧ m.size ≤ 64 ∧ u.size ≤ 64 ∧ Flds.Own w.heap.size w' v l ∧ Few 2 l ∧ AllSaid l ∧ b.size ≤ 64 ∧ Live B C w' ∧ Only C w w' := by
  have hC := h.lt
  obtain ⟨i0, hi0, hzz0, hzz1, hzz2⟩ := info_parts Flds.infoF
  have HL0 := Num.hide (h.alloc zReq)
  have HO0 := Num.hide ((Only.refl C w).alloc zReq)
  have HZ0 : Hid ((w.alloc zReq).heap[w.heap.size]? = some zReq) := heap_alloc_new w _
  have hz0 : (w.alloc zReq).heap.size = w.heap.size + 1 := by rw [World.size_alloc]
  clear h
  go_enter Tryz.func37, Tryz.ntmps37
  go_wp2_with fail
  refine (pick_live B C (w.heap.size + 1) _ 7 _ (HL0.out.alloc _) (by omega) (hz0 ▸ heap_alloc_new (w.alloc zReq) _) rfl (by omega) (by omega) (by decide)).mono ?_
  rintro e w1 ⟨m, rfl, hm, hl, ho⟩
  have HL1 := Num.hide hl
  have HO1 := Num.hide ((HO0.out.alloc _).trans ho)
  have HZ1 : Hid (w1.heap[w.heap.size]? = some zReq) := (ho.block _ (by rw [World.size_alloc]; omega) (by omega)).trans ((heap_alloc_old _ _ (by omega)).trans HZ0.out)
  have hz1 : w.heap.size + 1 < w1.heap.size := by have := ho.size; rw [World.size_alloc] at this; omega
  clear hl ho HL0 HO0 HZ0
  go_wp2_with fail
  refine (uri_live B C _ HL1.out).mono ?_
  rintro e w2 ⟨u, rfl, hu, hl, ho⟩
  have hz2 := ho.size
  have hal : Below w2.heap.size w2 (w2.alloc (.cells #[.string m, .string u, .slice none 0 0, .string ⟨#[]⟩] 32)) := (Below.refl _ _).alloc (Nat.le_refl _) _
  have HA : Hid (RqAt B C w w2.heap.size m u (.slice none 0 0) [] 0 (w2.alloc (.cells #[.string m, .string u, .slice none 0 0, .string ⟨#[]⟩] 32))) :=
    ⟨hl.below hal, (HO1.out.trans ho).alloc _, (heap_alloc_old _ _ (by omega)).trans ((ho.block _ (by omega) (by omega)).trans HZ1.out), heap_alloc_new w2 _, Recs.own_nil _ _, ⟨Nat.le_refl _, fun f hf => by cases hf⟩, fun f hf => by cases hf⟩
  have hgq : w.heap.size < w2.heap.size := by omega
  clear hl ho hal HL1 HO1 HZ1
  go_upto_region 2 with fail
  generalize w2.alloc (.cells #[.string m, .string u, .slice none 0 0, .string ⟨#[]⟩] 32) = w3 at HA ⊢
  generalize w2.heap.size = gq at HA hgq hz2 ⊢
  go_wp2_with fail
  refine (below_live B C 3 _ HA.out.live (by omega) (by omega)).mono ?_
  rintro e w4 ⟨z, rfl, hz0', hz1', hl, ho⟩
  obtain ⟨k0, rfl⟩ := Int.eq_ofNat_of_zero_le hz0'
  have HA4 := Num.hide (HA.out.step ho hl hC hgq)
  clear hl ho HA
  go_wp2
  go_loopw [4] (fun nv wr => ∃ (k : Nat) (v : Value) (l : List Flds.Fld), nv = .int .i64 (k : Int) ∧ k ≤ 2 ∧ Hid (RqAt B C w gq m u v l (2 - k) wr)) (fun nv _ => (intOf nv).toNat)
  case atStart => exact ⟨k0, .slice none 0 0, [], rfl, by omega, ⟨HA4.out.live, HA4.out.only, HA4.out.res, HA4.out.box, HA4.out.own, HA4.out.few.mono (by omega), HA4.out.said⟩⟩
  case round =>
    clear HA4
    obtain ⟨k, v, l, rfl, hk, HA⟩ := hrel
    obtain ⟨av, cv, hvv⟩ := Recs.own_len HA.out.own
    subst hvv
    by_cases h0 : 0 < (k : Int)
    · go_wp2
      have HA1 := Num.hide (HA.out.step (Only.refl C wr).drew (HA.out.live.below (Below.refl _ _).drew) hC hgq)
      clear HA
      refine wp_region_held_drew (S := fun _ => True) (by kernel_rfl) trivial (fun hHeld => ?_)
      refine Reg.take (i := 0) (d := 17) (v := ?_) rfl rfl (by kernel_rfl) (by kernel_rfl) (by kernel_rfl) (fun _ _ _ h => h) (by rfl) ?_ hHeld ?_
      rotate_left
      · rintro X hX
        first | (go_simp; done) | (go_simp; with_reducible rfl)
      simp only [Act.put, List.setIfInBounds_toArray, List.set_cons_zero, List.set_cons_succ]
      refine Reg.take (i := 2) (d := 19) (v := ?_) rfl rfl (by kernel_rfl) (by kernel_rfl) (by kernel_rfl) (fun _ _ _ h => h) (by rfl) ?_ hHeld ?_
      rotate_left
      · rintro X hX
        first | (go_simp; done) | (go_simp; with_reducible rfl)
      simp only [Act.put, List.setIfInBounds_toArray, List.set_cons_zero, List.set_cons_succ]
      refine Reg.two (i := 1) (j := 3) rfl rfl (by kernel_rfl) (by rfl) (by rfl) (fun K hK => ?_) (fun K hK => ?_)
      · have c2 := Recs.box_cell HA1.out.box 2
        simp only [List.getElem?_toArray, List.getElem?_cons_succ, List.getElem?_cons_zero] at c2
        go_wp2
        clear c2
        refine hK.out _ _ trivial (fun _ => ?_)
        clear hK K
        refine Reg.call (i := 3) rfl (by kernel_rfl) (by rfl) (fun K hK => ?_)
        go_wp2_with (first | (go_at_call 77; refine (field_q B C _ HA1.out.live).mono ?_; rintro e w5 ⟨x, y, rfl, hx, hy, hsd, hl, ho⟩))
        have HA5 := Num.hide (HA1.out.step ho hl hC hgq)
        have HSd := Num.hide hsd
        clear hsd hl ho HA1
        refine hK.out _ _ trivial (fun _ => ?_)
        clear hK K
        refine Reg.call (i := 4) rfl (by kernel_rfl) (by rfl) (fun K hK => ?_)
        go_wp2
        refine hK.out _ _ trivial (fun _ => ?_)
        clear hK K
        refine Reg.call (i := 5) rfl (by kernel_rfl) (by rfl) (fun K hK => ?_)
        have hg5 := HA5.out.lt
        have hlen := HA5.out.few.len
        refine wp_append_own _ _ _ 30 rfl (gq + 1) 47 i0 _ 2 32 Tryz.underlying30 hi0 hzz0 hzz1 hzz2 rfl (by decide) _ _ _ rfl (World.ownsRow.alloc HA5.out.own _) ⟨w5.heap.size, 0, none⟩ 1 1 [.string x, .string y] rfl rfl (Flds.cells_two w5 x y) (Flds.two_ok x y) (by unfold maxLen; omega) (by omega) ?c9 ?_
        case c9 => first | omega | (simp; omega)
        intro v' w6 ho6 hg6 _
        obtain ⟨hp1, hp2⟩ := Flds.put_more (by omega : gq + 1 ≤ w5.heap.size) HA5.out.own (Below.refl (gq + 1) w5) ho6 hg6
        have hb6 : w6.heap[gq]? = some (.cells #[.string m, .string u, .slice av l.length cv, .string ⟨#[]⟩] 32 (0, 0)) := (hp2.block gq (by omega)).trans HA5.out.box
        have hr6 : w6.heap[w.heap.size]? = some zReq := (hp2.block _ (by omega)).trans HA5.out.res
        have hn6 : ∀ j, v'.ownBlock = some j → j ≠ gq := fun j hj => by have := (Recs.own_lt hp1 j hj).1; omega
        have HF : Hid (RqAt B C w gq m u v' (l ++ [(x, y)]) (2 - (k - 1)) (w6.setCell ⟨gq, 2, none⟩ v')) :=
          ⟨live_set (HA5.out.live.under hp2 (by omega)) gq 2 _ (by omega), only_set (HA5.out.only.of_below (hp2.mono (by omega))) gq 2 _ (by omega), Recs.box_far hr6 _ (by omega), Recs.box_set hb6 2 v', Recs.own_set hp1 gq 2 v' hn6, (HA5.out.few.more hx hy).mono (by omega), HA5.out.said.more HSd.out⟩
        have c2 := Recs.box_cell hb6 2
        have z2 := Recs.box_thaw hb6 2
        simp only [List.getElem?_toArray, List.getElem?_cons_succ, List.getElem?_cons_zero] at c2
        clear ho6 hg6 hp1 hp2 hb6 hr6 hn6 HA5 hlen hg5
        refine hK.out _ _ trivial (fun _ => ?_)
        clear hK K
        refine Reg.take (i := 6) (d := 23) (v := ?_) rfl rfl (by kernel_rfl) (by kernel_rfl) (by kernel_rfl) (fun _ _ _ h => h) (by rfl) ?_ hHeld ?_
        rotate_left
        · rintro X hX
          first | (go_simp; done) | (go_simp; with_reducible rfl)
        simp only [Act.put, List.setIfInBounds_toArray, List.set_cons_zero, List.set_cons_succ]
        refine Reg.call (i := 7) rfl (by kernel_rfl) (by rfl) (fun K hK => ?_)
        obtain ⟨a6, q6, hv6⟩ := Recs.own_len HF.out.own
        subst hv6
        rw [List.length_append, List.length_singleton] at HF
        go_wp2
        refine hK.out _ _ trivial (fun _ => ?_)
        clear hK K
        refine wpAnyH_done (by kernel_rfl) ?_ _
        clear c2 z2
        go_wp2
        go_roundw
        case rel => exact ⟨k - 1, _, _, by go_num, by omega, HF⟩
        case measure => simp [intOf]; omega
      · go_wp2_with (first | (go_at_call 77; refine (field_q B C _ HA1.out.live).mono ?_; rintro e w5 ⟨x, y, rfl, hx, hy, hsd, hl, ho⟩))
        have HA5 := Num.hide (HA1.out.step ho hl hC hgq)
        have HSd := Num.hide hsd
        clear hsd hl ho HA1
        refine hK.out _ _ trivial (fun _ => ?_)
        clear hK K
        refine Reg.two (i := 1) (j := 4) rfl rfl (by kernel_rfl) (by rfl) (by rfl) (fun K hK => ?_) (fun K hK => ?_)
        · have c2 := Recs.box_cell HA5.out.box 2
          simp only [List.getElem?_toArray, List.getElem?_cons_succ, List.getElem?_cons_zero] at c2
          go_wp2
          clear c2
          refine hK.out _ _ trivial (fun _ => ?_)
          clear hK K
          refine Reg.call (i := 4) rfl (by kernel_rfl) (by rfl) (fun K hK => ?_)
          go_wp2
          refine hK.out _ _ trivial (fun _ => ?_)
          clear hK K
          refine Reg.call (i := 5) rfl (by kernel_rfl) (by rfl) (fun K hK => ?_)
          have hg5 := HA5.out.lt
          have hlen := HA5.out.few.len
          refine wp_append_own _ _ _ 30 rfl (gq + 1) 47 i0 _ 2 32 Tryz.underlying30 hi0 hzz0 hzz1 hzz2 rfl (by decide) _ _ _ rfl (World.ownsRow.alloc HA5.out.own _) ⟨w5.heap.size, 0, none⟩ 1 1 [.string x, .string y] rfl rfl (Flds.cells_two w5 x y) (Flds.two_ok x y) (by unfold maxLen; omega) (by omega) ?c9 ?_
          case c9 => first | omega | (simp; omega)
          intro v' w6 ho6 hg6 _
          obtain ⟨hp1, hp2⟩ := Flds.put_more (by omega : gq + 1 ≤ w5.heap.size) HA5.out.own (Below.refl (gq + 1) w5) ho6 hg6
          have hb6 : w6.heap[gq]? = some (.cells #[.string m, .string u, .slice av l.length cv, .string ⟨#[]⟩] 32 (0, 0)) := (hp2.block gq (by omega)).trans HA5.out.box
          have hr6 : w6.heap[w.heap.size]? = some zReq := (hp2.block _ (by omega)).trans HA5.out.res
          have hn6 : ∀ j, v'.ownBlock = some j → j ≠ gq := fun j hj => by have := (Recs.own_lt hp1 j hj).1; omega
          have HF : Hid (RqAt B C w gq m u v' (l ++ [(x, y)]) (2 - (k - 1)) (w6.setCell ⟨gq, 2, none⟩ v')) :=
            ⟨live_set (HA5.out.live.under hp2 (by omega)) gq 2 _ (by omega), only_set (HA5.out.only.of_below (hp2.mono (by omega))) gq 2 _ (by omega), Recs.box_far hr6 _ (by omega), Recs.box_set hb6 2 v', Recs.own_set hp1 gq 2 v' hn6, (HA5.out.few.more hx hy).mono (by omega), HA5.out.said.more HSd.out⟩
          have c2 := Recs.box_cell hb6 2
          have z2 := Recs.box_thaw hb6 2
          simp only [List.getElem?_toArray, List.getElem?_cons_succ, List.getElem?_cons_zero] at c2
          clear ho6 hg6 hp1 hp2 hb6 hr6 hn6 HA5 hlen hg5
          refine hK.out _ _ trivial (fun _ => ?_)
          clear hK K
          refine Reg.take (i := 6) (d := 23) (v := ?_) rfl rfl (by kernel_rfl) (by kernel_rfl) (by kernel_rfl) (fun _ _ _ h => h) (by rfl) ?_ hHeld ?_
          rotate_left
          · rintro X hX
            first | (go_simp; done) | (go_simp; with_reducible rfl)
          simp only [Act.put, List.setIfInBounds_toArray, List.set_cons_zero, List.set_cons_succ]
          refine Reg.call (i := 7) rfl (by kernel_rfl) (by rfl) (fun K hK => ?_)
          obtain ⟨a6, q6, hv6⟩ := Recs.own_len HF.out.own
          subst hv6
          rw [List.length_append, List.length_singleton] at HF
          go_wp2
          refine hK.out _ _ trivial (fun _ => ?_)
          clear hK K
          refine wpAnyH_done (by kernel_rfl) ?_ _
          clear c2 z2
          go_wp2
          go_roundw
          case rel => exact ⟨k - 1, _, _, by go_num, by omega, HF⟩
          case measure => simp [intOf]; omega
        · go_wp2
          refine hK.out _ _ trivial (fun _ => ?_)
          clear hK K
          refine Reg.call (i := 1) rfl (by kernel_rfl) (by rfl) (fun K hK => ?_)
          have hbx := (heap_alloc_old w5 (.cells #[.string x, .string y] 47) HA5.out.lt).trans HA5.out.box
          have c2 := Recs.box_cell hbx 2
          simp only [List.getElem?_toArray, List.getElem?_cons_succ, List.getElem?_cons_zero] at c2
          go_wp2
          clear c2 hbx
          refine hK.out _ _ trivial (fun _ => ?_)
          clear hK K
          refine Reg.call (i := 5) rfl (by kernel_rfl) (by rfl) (fun K hK => ?_)
          have hg5 := HA5.out.lt
          have hlen := HA5.out.few.len
          refine wp_append_own _ _ _ 30 rfl (gq + 1) 47 i0 _ 2 32 Tryz.underlying30 hi0 hzz0 hzz1 hzz2 rfl (by decide) _ _ _ rfl (World.ownsRow.alloc HA5.out.own _) ⟨w5.heap.size, 0, none⟩ 1 1 [.string x, .string y] rfl rfl (Flds.cells_two w5 x y) (Flds.two_ok x y) (by unfold maxLen; omega) (by omega) ?c9 ?_
          case c9 => first | omega | (simp; omega)
          intro v' w6 ho6 hg6 _
          obtain ⟨hp1, hp2⟩ := Flds.put_more (by omega : gq + 1 ≤ w5.heap.size) HA5.out.own (Below.refl (gq + 1) w5) ho6 hg6
          have hb6 : w6.heap[gq]? = some (.cells #[.string m, .string u, .slice av l.length cv, .string ⟨#[]⟩] 32 (0, 0)) := (hp2.block gq (by omega)).trans HA5.out.box
          have hr6 : w6.heap[w.heap.size]? = some zReq := (hp2.block _ (by omega)).trans HA5.out.res
          have hn6 : ∀ j, v'.ownBlock = some j → j ≠ gq := fun j hj => by have := (Recs.own_lt hp1 j hj).1; omega
          have HF : Hid (RqAt B C w gq m u v' (l ++ [(x, y)]) (2 - (k - 1)) (w6.setCell ⟨gq, 2, none⟩ v')) :=
            ⟨live_set (HA5.out.live.under hp2 (by omega)) gq 2 _ (by omega), only_set (HA5.out.only.of_below (hp2.mono (by omega))) gq 2 _ (by omega), Recs.box_far hr6 _ (by omega), Recs.box_set hb6 2 v', Recs.own_set hp1 gq 2 v' hn6, (HA5.out.few.more hx hy).mono (by omega), HA5.out.said.more HSd.out⟩
          have c2 := Recs.box_cell hb6 2
          have z2 := Recs.box_thaw hb6 2
          simp only [List.getElem?_toArray, List.getElem?_cons_succ, List.getElem?_cons_zero] at c2
          clear ho6 hg6 hp1 hp2 hb6 hr6 hn6 HA5 hlen hg5
          refine hK.out _ _ trivial (fun _ => ?_)
          clear hK K
          refine Reg.take (i := 6) (d := 23) (v := ?_) rfl rfl (by kernel_rfl) (by kernel_rfl) (by kernel_rfl) (fun _ _ _ h => h) (by rfl) ?_ hHeld ?_
          rotate_left
          · rintro X hX
            first | (go_simp; done) | (go_simp; with_reducible rfl)
          simp only [Act.put, List.setIfInBounds_toArray, List.set_cons_zero, List.set_cons_succ]
          refine Reg.call (i := 7) rfl (by kernel_rfl) (by rfl) (fun K hK => ?_)
          obtain ⟨a6, q6, hv6⟩ := Recs.own_len HF.out.own
          subst hv6
          rw [List.length_append, List.length_singleton] at HF
          go_wp2
          refine hK.out _ _ trivial (fun _ => ?_)
          clear hK K
          refine wpAnyH_done (by kernel_rfl) ?_ _
          clear c2 z2
          go_wp2
          go_roundw
          case rel => exact ⟨k - 1, _, _, by go_num, by omega, HF⟩
          case measure => simp [intOf]; omega
    · have hgl := HA.out.lt
      have n0 : ∀ j, (Value.slice av l.length cv).ownBlock = some j → j ≠ w.heap.size := fun j hj => by have := (Recs.own_lt HA.out.own j hj).1; omega
      have n1 : ∀ j, (Value.slice av l.length cv).ownBlock = some j → j ≠ gq := fun j hj => by have := (Recs.own_lt HA.out.own j hj).1; omega
      have hq1 : ¬ gq = w.heap.size := by omega
      have hq2 : ¬ w.heap.size = gq := by omega
      have HF2 := Num.hide (HA.out.few.mono (by omega : 2 - k ≤ 2))
      have HSa := Num.hide HA.out.said
      cases hb : (m.toList == [71, 69, 84]) with
      | true =>
      have hb2 : (m.toList != [71, 69, 84]) = false := by rw [bne, hb]; rfl
      have HE : Hid (Flds.Own w.heap.size ((((wr.setCell ⟨w.heap.size, 0, none⟩ (.string m)).setCell ⟨w.heap.size, 1, none⟩ (.string u)).setCell ⟨w.heap.size, 2, none⟩ (.slice av l.length cv)).setCell ⟨w.heap.size, 3, none⟩ (.string ⟨#[]⟩)) (.slice av l.length cv) l ∧ Live B C ((((wr.setCell ⟨w.heap.size, 0, none⟩ (.string m)).setCell ⟨w.heap.size, 1, none⟩ (.string u)).setCell ⟨w.heap.size, 2, none⟩ (.slice av l.length cv)).setCell ⟨w.heap.size, 3, none⟩ (.string ⟨#[]⟩)) ∧ Only C w ((((wr.setCell ⟨w.heap.size, 0, none⟩ (.string m)).setCell ⟨w.heap.size, 1, none⟩ (.string u)).setCell ⟨w.heap.size, 2, none⟩ (.slice av l.length cv)).setCell ⟨w.heap.size, 3, none⟩ (.string ⟨#[]⟩))) := by
        have o1 := Recs.own_set (HA.out.own) w.heap.size 0 (.string m) n0
        have o2 := Recs.own_set o1 w.heap.size 1 (.string u) n0
        have o3 := Recs.own_set o2 w.heap.size 2 (.slice av l.length cv) n0
        have o4 := Recs.own_set o3 w.heap.size 3 (.string ⟨#[]⟩) n0
        refine ⟨Recs.own_mono o4 (by omega), ?_, ?_⟩
        · exact live_set (live_set (live_set (live_set (HA.out.live) _ 0 _ hC) _ 1 _ hC) _ 2 _ hC) _ 3 _ hC
        · exact only_set (only_set (only_set (only_set (HA.out.only) _ 0 _ (Nat.le_refl _)) _ 1 _ (Nat.le_refl _)) _ 2 _ (Nat.le_refl _)) _ 3 _ (Nat.le_refl _)
      have k0 := Recs.box_cell (HA.out.box) 0
      have k1 := Recs.box_cell (HA.out.box) 1
      have k2 := Recs.box_cell (HA.out.box) 2
      have k3 := Recs.box_cell (HA.out.box) 3
      have z3 := Recs.box_thaw (HA.out.box) 3
      have o0 := Recs.box_cell (HA.out.res) 0
      have y0 := Recs.box_thaw (HA.out.res) 0
      have o1 := Recs.box_cell (HA.out.res) 1
      have y1 := Recs.box_thaw (HA.out.res) 1
      have o2 := Recs.box_cell (HA.out.res) 2
      have y2 := Recs.box_thaw (HA.out.res) 2
      have o3 := Recs.box_cell (HA.out.res) 3
      have y3 := Recs.box_thaw (HA.out.res) 3
      simp only [List.getElem?_toArray, List.getElem?_cons_succ, List.getElem?_cons_zero] at k0 k1 k2 k3 o0 o1 o2 o3
      clear HA
      obtain ⟨r, hr⟩ : ∃ r, w.heap.size = r := ⟨_, rfl⟩
      rw [hr] at HE o0 o1 o2 o3 y0 y1 y2 y3 hq1 hq2 ⊢
      clear n0 n1
      go_wp2
      exact bodyPost_ret (v := .agg #[.string m, .string u, .slice av l.length cv, .string ⟨#[]⟩]) (by simp [results, Tryz.results37, go_sem, *]) rfl ⟨m, u, _, l, ⟨#[]⟩, rfl, hm, hu, hr ▸ HE.out.1, HF2.out, HSa.out, by decide, HE.out.2.1, HE.out.2.2⟩
      | false =>
      have hb2 : (m.toList != [71, 69, 84]) = true := by rw [bne, hb]; rfl
      have k0 := Recs.box_cell HA.out.box 0
      simp only [List.getElem?_toArray, List.getElem?_cons_succ, List.getElem?_cons_zero] at k0
      go_wp2_with fail
      refine (text_live B C 6 _ HA.out.live (by omega)).mono ?_
      rintro e w7 ⟨t, rfl, ht, hl, ho⟩
      have HA7 := Num.hide (HA.out.step ho hl hC hgq)
      clear hl ho k0 HA
      have HE : Hid (Flds.Own w.heap.size (((((w7.setCell ⟨gq, 3, none⟩ (.string t)).setCell ⟨w.heap.size, 0, none⟩ (.string m)).setCell ⟨w.heap.size, 1, none⟩ (.string u)).setCell ⟨w.heap.size, 2, none⟩ (.slice av l.length cv)).setCell ⟨w.heap.size, 3, none⟩ (.string t)) (.slice av l.length cv) l ∧ Live B C (((((w7.setCell ⟨gq, 3, none⟩ (.string t)).setCell ⟨w.heap.size, 0, none⟩ (.string m)).setCell ⟨w.heap.size, 1, none⟩ (.string u)).setCell ⟨w.heap.size, 2, none⟩ (.slice av l.length cv)).setCell ⟨w.heap.size, 3, none⟩ (.string t)) ∧ Only C w (((((w7.setCell ⟨gq, 3, none⟩ (.string t)).setCell ⟨w.heap.size, 0, none⟩ (.string m)).setCell ⟨w.heap.size, 1, none⟩ (.string u)).setCell ⟨w.heap.size, 2, none⟩ (.slice av l.length cv)).setCell ⟨w.heap.size, 3, none⟩ (.string t))) := by
        have o1 := Recs.own_set (Recs.own_set HA7.out.own gq 3 (.string t) n1) w.heap.size 0 (.string m) n0
        have o2 := Recs.own_set o1 w.heap.size 1 (.string u) n0
        have o3 := Recs.own_set o2 w.heap.size 2 (.slice av l.length cv) n0
        have o4 := Recs.own_set o3 w.heap.size 3 (.string t) n0
        refine ⟨Recs.own_mono o4 (by omega), ?_, ?_⟩
        · exact live_set (live_set (live_set (live_set (live_set HA7.out.live gq 3 _ (by omega)) _ 0 _ hC) _ 1 _ hC) _ 2 _ hC) _ 3 _ hC
        · exact only_set (only_set (only_set (only_set (only_set HA7.out.only gq 3 _ (by omega)) _ 0 _ (Nat.le_refl _)) _ 1 _ (Nat.le_refl _)) _ 2 _ (Nat.le_refl _)) _ 3 _ (Nat.le_refl _)
      have k0 := Recs.box_cell (HA7.out.box) 0
      have k1 := Recs.box_cell (HA7.out.box) 1
      have k2 := Recs.box_cell (HA7.out.box) 2
      have k3 := Recs.box_cell (HA7.out.box) 3
      have z3 := Recs.box_thaw (HA7.out.box) 3
      have o0 := Recs.box_cell (HA7.out.res) 0
      have y0 := Recs.box_thaw (HA7.out.res) 0
      have o1 := Recs.box_cell (HA7.out.res) 1
      have y1 := Recs.box_thaw (HA7.out.res) 1
      have o2 := Recs.box_cell (HA7.out.res) 2
      have y2 := Recs.box_thaw (HA7.out.res) 2
      have o3 := Recs.box_cell (HA7.out.res) 3
      have y3 := Recs.box_thaw (HA7.out.res) 3
      simp only [List.getElem?_toArray, List.getElem?_cons_succ, List.getElem?_cons_zero] at k0 k1 k2 k3 o0 o1 o2 o3
      clear HA7
      obtain ⟨r, hr⟩ : ∃ r, w.heap.size = r := ⟨_, rfl⟩
      rw [hr] at HE o0 o1 o2 o3 y0 y1 y2 y3 hq1 hq2 ⊢
      clear n0 n1
      go_wp2
      exact bodyPost_ret (v := .agg #[.string m, .string u, .slice av l.length cv, .string t]) (by simp [results, Tryz.results37, go_sem, *]) rfl ⟨m, u, _, l, t, rfl, hm, hu, hr ▸ HE.out.1, HF2.out, HSa.out, by omega, HE.out.2.1, HE.out.2.2⟩
theorem req_live (B C : Nat) (w : World) (h : Live B C w) :
    Calls Tryz.prog 37 #[.pointer (some ⟨C, 0, none⟩)] w fun e w' => ∃ m u v l b, e = .returned (Req.val m u v b) ∧ m.size ≤ 64 ∧ u.size ≤ 64 ∧ Flds.Own w.heap.size w' v l ∧ Few 2 l ∧ b.size ≤ 64 ∧ Live B C w' ∧ Only C w w' :=
  (req_q B C w h).mono fun e w' ⟨m, u, v, l, b, h1, h2, h3, h4, h5, _, h6, h7, h8⟩ => ⟨m, u, v, l, b, h1, h2, h3, h4, h5, h6, h7, h8⟩
end Draw
end Go.Proofs.YtbcjpjhpobmpbaaGreatDoor
namespace Go.Proofs.YtbcjpjhpobmpbaaGreatDoor
open Go.RowKit
set_option linter.unusedVariables false
namespace Reg

variable {P : Program} {ops : Array Oper} {Q : Exit → Act → World → Prop} {md : Region.Mode} {S : World → Prop}
theorem three {i j k : Nat} {o p q : Oper} {fuel : Nat} {listed : Array Bool} {a : Act} {w : World} (hi : ops.toList[i]? = some o) (hj : ops.toList[j]? = some p) (hk : ops.toList[k]? = some q) (hr : Region.ready md ops listed = [i, j, k])
    (hwi : Region.wanted o (yielded ops a.tmps) = true) (hwj : Region.wanted p (yielded ops a.tmps) = true) (hwk : Region.wanted q (yielded ops a.tmps) = true)
    (h1 : ∀ K' : Act → World → Prop, Shut (∀ a w, S w → (S w → wpAnyH P md ops Q S fuel (listed.setIfInBounds i true) a w) → K' a w) → Oper.wp P o a w K' Q)
    (h2 : ∀ K' : Act → World → Prop, Shut (∀ a w, S w → (S w → wpAnyH P md ops Q S fuel (listed.setIfInBounds j true) a w) → K' a w) → Oper.wp P p a w K' Q)
    (h3 : ∀ K' : Act → World → Prop, Shut (∀ a w, S w → (S w → wpAnyH P md ops Q S fuel (listed.setIfInBounds k true) a w) → K' a w) → Oper.wp P q a w K' Q) : wpAnyH P md ops Q S (fuel + 1) listed a w :=
  wpAnyH_ready hr (by simp) (AllReadyH.cons (at_ hi) (fun K hK => by rw [if_pos hwi]; exact h1 K hK) (AllReadyH.cons (at_ hj) (fun K hK => by rw [if_pos hwj]; exact h2 K hK) (AllReadyH.cons (at_ hk) (fun K hK => by rw [if_pos hwk]; exact h3 K hK) AllReadyH.nil)))
end Reg
end Go.Proofs.YtbcjpjhpobmpbaaGreatDoor
namespace Go.Proofs.YtbcjpjhpobmpbaaGreatDoor
open Go.RowKit
set_option linter.unusedVariables false
set_option linter.unusedSimpArgs false
namespace Draw

/-- a request and an answer that are drawn: their boxes, and the boxes of what is told -/
structure MgAt (w : World) (C gq gr : Nat) (m u : ByteArray) (v1 : Value) (l1 : List Flds.Fld) (b1 : ByteArray) (st : Int) (v2 : Value) (l2 : List Flds.Fld) (b2 : ByteArray) (X : World) : Prop where
  below : Below w.heap.size w X
  rq : X.heap[w.heap.size]? = some zReq
  rr : X.heap[w.heap.size + 1]? = some zResp
  bq : X.heap[gq]? = some (.cells #[.string m, .string u, v1, .string b1] 32)
  br : X.heap[gr]? = some (.cells #[.int .i64 st, v2, .string b2] 35)
  o1 : Flds.Own (C + 1) X v1 l1
  o2 : Flds.Own (C + 1) X v2 l2
theorem MgAt.step {w : World} {C gq gr : Nat} {m u : ByteArray} {v1 : Value} {l1 : List Flds.Fld} {b1 : ByteArray} {st : Int} {v2 : Value} {l2 : List Flds.Fld} {b2 : ByteArray} {X X' : World} (h : MgAt w C gq gr m u v1 l1 b1 st v2 l2 b2 X) (hl : Live w.heap.size C X') (ho : Only C X X') (hC : w.heap.size + 1 < C ∧ C < X.heap.size) (hgq : C < gq) (hgr : C < gr) : MgAt w C gq gr m u v1 l1 b1 st v2 l2 b2 X' := by
  have hx : gq < X.heap.size := (Array.getElem?_eq_some_iff.1 h.bq).1
  have hy : gr < X.heap.size := (Array.getElem?_eq_some_iff.1 h.br).1
  exact ⟨h.below.trans (ho.below (by omega) hC.2), (ho.block _ (by omega) (by omega)).trans h.rq, (ho.block _ (by omega) (by omega)).trans h.rr, (ho.block _ hx (by omega)).trans h.bq, (ho.block _ hy (by omega)).trans h.br, own_only h.o1 ho (by omega), own_only h.o2 ho (by omega)⟩
theorem mgt_end {w : World} {C gq gr : Nat} {m u : ByteArray} {v1 : Value} {l1 : List Flds.Fld} {b1 : ByteArray} {st : Int} {v2 : Value} {l2 : List Flds.Fld} {b2 : ByteArray} {X : World} (h : MgAt w C gq gr m u v1 l1 b1 st v2 l2 b2 X) (hC : w.heap.size + 1 < C) :
    Flds.Own w.heap.size (((((((X.setCell ⟨w.heap.size, 0, none⟩ (.string m)).setCell ⟨w.heap.size, 1, none⟩ (.string u)).setCell ⟨w.heap.size, 2, none⟩ v1).setCell ⟨w.heap.size, 3, none⟩ (.string b1)).setCell ⟨w.heap.size + 1, 0, none⟩ (.int .i64 st)).setCell ⟨w.heap.size + 1, 1, none⟩ v2).setCell ⟨w.heap.size + 1, 2, none⟩ (.string b2)) v1 l1 ∧ Flds.Own w.heap.size (((((((X.setCell ⟨w.heap.size, 0, none⟩ (.string m)).setCell ⟨w.heap.size, 1, none⟩ (.string u)).setCell ⟨w.heap.size, 2, none⟩ v1).setCell ⟨w.heap.size, 3, none⟩ (.string b1)).setCell ⟨w.heap.size + 1, 0, none⟩ (.int .i64 st)).setCell ⟨w.heap.size + 1, 1, none⟩ v2).setCell ⟨w.heap.size + 1, 2, none⟩ (.string b2)) v2 l2 ∧ Below w.heap.size w (((((((X.setCell ⟨w.heap.size, 0, none⟩ (.string m)).setCell ⟨w.heap.size, 1, none⟩ (.string u)).setCell ⟨w.heap.size, 2, none⟩ v1).setCell ⟨w.heap.size, 3, none⟩ (.string b1)).setCell ⟨w.heap.size + 1, 0, none⟩ (.int .i64 st)).setCell ⟨w.heap.size + 1, 1, none⟩ v2).setCell ⟨w.heap.size + 1, 2, none⟩ (.string b2)) := by
  have n01 : ∀ j, v1.ownBlock = some j → j ≠ w.heap.size := fun j hj => by have := (Recs.own_lt h.o1 j hj).1; omega
  have n11 : ∀ j, v1.ownBlock = some j → j ≠ w.heap.size + 1 := fun j hj => by have := (Recs.own_lt h.o1 j hj).1; omega
  have n02 : ∀ j, v2.ownBlock = some j → j ≠ w.heap.size := fun j hj => by have := (Recs.own_lt h.o2 j hj).1; omega
  have n12 : ∀ j, v2.ownBlock = some j → j ≠ w.heap.size + 1 := fun j hj => by have := (Recs.own_lt h.o2 j hj).1; omega
  exact ⟨Recs.own_mono (Recs.own_set (Recs.own_set (Recs.own_set (Recs.own_set (Recs.own_set (Recs.own_set (Recs.own_set h.o1 w.heap.size 0 (.string m) n01) w.heap.size 1 (.string u) n01) w.heap.size 2 v1 n01) w.heap.size 3 (.string b1) n01) (w.heap.size + 1) 0 (.int .i64 st) n11) (w.heap.size + 1) 1 v2 n11) (w.heap.size + 1) 2 (.string b2) n11) (by omega), Recs.own_mono (Recs.own_set (Recs.own_set (Recs.own_set (Recs.own_set (Recs.own_set (Recs.own_set (Recs.own_set h.o2 w.heap.size 0 (.string m) n02) w.heap.size 1 (.string u) n02) w.heap.size 2 v1 n02) w.heap.size 3 (.string b1) n02) (w.heap.size + 1) 0 (.int .i64 st) n12) (w.heap.size + 1) 1 v2 n12) (w.heap.size + 1) 2 (.string b2) n12) (by omega), (((((((h.below.setCell (p := ⟨w.heap.size, 0, none⟩) (by show w.heap.size ≤ w.heap.size; omega) (.string m)).setCell (p := ⟨w.heap.size, 1, none⟩) (by show w.heap.size ≤ w.heap.size; omega) (.string u)).setCell (p := ⟨w.heap.size, 2, none⟩) (by show w.heap.size ≤ w.heap.size; omega) v1).setCell (p := ⟨w.heap.size, 3, none⟩) (by show w.heap.size ≤ w.heap.size; omega) (.string b1)).setCell (p := ⟨(w.heap.size + 1), 0, none⟩) (by show w.heap.size ≤ (w.heap.size + 1); omega) (.int .i64 st)).setCell (p := ⟨(w.heap.size + 1), 1, none⟩) (by show w.heap.size ≤ (w.heap.size + 1); omega) v2).setCell (p := ⟨(w.heap.size + 1), 2, none⟩) (by show w.heap.size ≤ (w.heap.size + 1); omega) (.string b2))⟩
set_option maxRecDepth 100000 in
set_option maxHeartbeats 8000000 in
theorem drawMust (cap : Nat) (a : Option Addr) (l0 : List Int) (w : World) (hcode : CodeAt w.heap.size w a l0) (hl0 : l0.length ≤ 1048576) :
    Calls Tryz.prog 17 #[.slice a l0.length cap] w fun e w' => ∃ m u v1 l1 b1 st v2 l2 b2 asked came now, e = .returned (.tuple #[Req.val m u v1 b1, Resp.val st v2 b2, .int .i64 asked, .int .i64 came, .int .i64 now]) ∧ Flds.Own w.heap.size w' v1 l1 ∧ Flds.Own w.heap.size w' v2 l2 ∧ (Few 2 l1 ∧ AllSaid l1) ∧ (Few 6 l2 ∧ AllSaid l2) ∧ (m.size ≤ 64 ∧ u.size ≤ 64 ∧ b1.size ≤ 64 ∧ b2.size ≤ 64) ∧ 0 ≤ asked ∧ asked ≤ 59 ∧ 0 ≤ came ∧ came ≤ 63 ∧ 0 ≤ now ∧ now ≤ 77 ∧ Below w.heap.size w w' := by
  have e0 : (w.alloc zReq).heap.size = w.heap.size + 1 := by rw [World.size_alloc]
  have hb0 : Below w.heap.size w ((w.alloc zReq).alloc zResp) := ((Below.refl _ _).alloc (Nat.le_refl _) _).alloc (by omega) _
  have HC := Num.hide (hcode.below hb0)
  have HZ0 : Hid (((w.alloc zReq).alloc zResp).heap[w.heap.size]? = some zReq) := (heap_alloc_old _ _ (by omega)).trans (heap_alloc_new w _)
  have HY0 : Hid (((w.alloc zReq).alloc zResp).heap[w.heap.size + 1]? = some zResp) := by
    have := heap_alloc_new (w.alloc zReq) zResp
    rw [e0] at this
    exact this
  have hz0 : ((w.alloc zReq).alloc zResp).heap.size = w.heap.size + 2 := by rw [World.size_alloc, e0]
  have HB0 := Num.hide hb0
  clear hcode hb0 e0
  go_enter Tryz.func17, Tryz.ntmps17
  go_wp2_with fail
  refine (new_at w.heap.size cap a l0 _ (by omega) HC.out hl0).mono ?_
  rintro e w1 ⟨C, rfl, hC, h1, b1'⟩
  have HL : Hid (Live w.heap.size C w1) := ⟨_, _, _, _, h1⟩
  have hCl := h1.lt
  have hCr : w.heap.size + 1 < C := by omega
  have HB1 := Num.hide (HB0.out.trans (b1'.mono (by omega)))
  have HZ1 : Hid (w1.heap[w.heap.size]? = some zReq) := (b1'.block _ (by omega)).trans HZ0.out
  have HY1 : Hid (w1.heap[w.heap.size + 1]? = some zResp) := (b1'.block _ (by omega)).trans HY0.out
  clear h1 b1' HC HB0 HZ0 HY0
  go_wp2_with fail
  refine (req_q _ C _ HL.out).mono ?_
  rintro e w2 ⟨m, u, v1, l1, b1, rfl, hm, hu, hv1, hf1, hs1, hb1, hl, ho⟩
  have HF1 : Hid (Few 2 l1 ∧ AllSaid l1) := ⟨hf1, hs1⟩
  have hz2 := ho.size
  obtain ⟨av1, cv1, hvv⟩ := Recs.own_len hv1
  subst hvv
  have hal : Below w2.heap.size w2 (w2.alloc (.cells #[.string m, .string u, .slice av1 l1.length cv1, .string b1] 32)) := (Below.refl _ _).alloc (Nat.le_refl _) _
  have HB2 := Num.hide ((HB1.out.trans (ho.below (by omega) hCl)).trans (hal.mono (by omega)))
  have HZ2 : Hid ((w2.alloc (.cells #[.string m, .string u, .slice av1 l1.length cv1, .string b1] 32)).heap[w.heap.size]? = some zReq) := (heap_alloc_old _ _ (by omega)).trans ((ho.block _ (by omega) (by omega)).trans HZ1.out)
  have HY2 : Hid ((w2.alloc (.cells #[.string m, .string u, .slice av1 l1.length cv1, .string b1] 32)).heap[w.heap.size + 1]? = some zResp) := (heap_alloc_old _ _ (by omega)).trans ((ho.block _ (by omega) (by omega)).trans HY1.out)
  have HQ2 : Hid ((w2.alloc (.cells #[.string m, .string u, .slice av1 l1.length cv1, .string b1] 32)).heap[w2.heap.size]? = some (.cells #[.string m, .string u, .slice av1 l1.length cv1, .string b1] 32)) := heap_alloc_new w2 _
  have HO2 := Num.hide (Recs.own_mono (Recs.own_below hv1 hal) (by omega : C + 1 ≤ w1.heap.size))
  have HL2 := Num.hide (hl.below hal)
  have hgq : C < w2.heap.size := by omega
  have hz3 : (w2.alloc (.cells #[.string m, .string u, .slice av1 l1.length cv1, .string b1] 32)).heap.size = w2.heap.size + 1 := by rw [World.size_alloc]
  unfold Req.val
  clear hv1 hf1 hs1 hl ho hal HB1 HZ1 HY1 HL
  go_upto_region 3 with fail
  generalize w2.alloc (.cells #[.string m, .string u, .slice av1 l1.length cv1, .string b1] 32) = w3 at HB2 HZ2 HY2 HQ2 HO2 HL2 hz3 ⊢
  generalize w2.heap.size = gq at HQ2 hgq hz2 hz3 ⊢
  go_wp2_with fail
  refine (l8_q _ C _ HL2.out).mono ?_
  rintro e w4 ⟨st, v2, l2, b2, rfl, hv2, hf2, hs2, hb2, hl, ho⟩
  have HF2 : Hid (Few 6 l2 ∧ AllSaid l2) := ⟨hf2, hs2⟩
  have hsz : m.size ≤ 64 ∧ u.size ≤ 64 ∧ b1.size ≤ 64 ∧ b2.size ≤ 64 := ⟨hm, hu, hb1, hb2⟩
  have hz4 := ho.size
  obtain ⟨av2, cv2, hvv⟩ := Recs.own_len hv2
  subst hvv
  have hal : Below w4.heap.size w4 (w4.alloc (.cells #[.int .i64 st, .slice av2 l2.length cv2, .string b2] 35)) := (Below.refl _ _).alloc (Nat.le_refl _) _
  have HA : Hid (MgAt w C gq w4.heap.size m u (.slice av1 l1.length cv1) l1 b1 st (.slice av2 l2.length cv2) l2 b2 (w4.alloc (.cells #[.int .i64 st, .slice av2 l2.length cv2, .string b2] 35))) :=
    ⟨(HB2.out.trans (ho.below (by omega) HL2.out.lt)).trans (hal.mono (by omega)), (heap_alloc_old _ _ (by omega)).trans ((ho.block _ (by omega) (by omega)).trans HZ2.out), (heap_alloc_old _ _ (by omega)).trans ((ho.block _ (by omega) (by omega)).trans HY2.out),
      (heap_alloc_old _ _ (by omega)).trans ((ho.block _ (by omega) (by omega)).trans HQ2.out), heap_alloc_new w4 _, Recs.own_below (own_only HO2.out ho (by omega)) hal, Recs.own_mono (Recs.own_below hv2 hal) (by omega)⟩
  have HLa := Num.hide (hl.below hal)
  have hgr : C < w4.heap.size := by omega
  unfold Resp.val
  clear hv2 hf2 hs2 hl ho hal HB2 HZ2 HY2 HQ2 HO2 HL2 hm hu hb1 hb2
  go_upto_region 4 with fail
  generalize w4.alloc (.cells #[.int .i64 st, .slice av2 l2.length cv2, .string b2] 35) = w5 at HA HLa ⊢
  generalize w4.heap.size = gr at HA hgr hz4 ⊢
  go_wp2_with fail
  refine (below_live _ C 60 _ HLa.out (by omega) (by omega)).mono ?_
  rintro e w6 ⟨a1, rfl, ha0, ha1, hl, ho⟩
  have HA3 := Num.hide (HA.out.step hl ho ⟨hCr, HLa.out.lt⟩ hgq hgr)
  have HL3 := Num.hide hl
  clear hl ho HA HLa
  go_wp2_with fail
  refine (below_live _ C 5 _ HL3.out (by omega) (by omega)).mono ?_
  rintro e w7 ⟨a2, rfl, hb0, hb1, hl, ho⟩
  have hld := hl.below (Below.refl w7.heap.size w7).drew
  have HA4 := Num.hide ((HA3.out.step hl ho ⟨hCr, HL3.out.lt⟩ hgq hgr).step hld (Only.refl C w7).drew ⟨hCr, hl.lt⟩ hgq hgr)
  have HL4 := Num.hide hld
  clear hl ho hld HA3 HL3
  go_wp2
  refine wp_region_held_drew (S := fun _ => True) (by kernel_rfl) trivial (fun hHeld => ?_)
  generalize w7.drew = wd at HA4 HL4 ⊢
  refine Reg.take (i := 2) (d := 26) (v := ?_) rfl rfl (by kernel_rfl) (by kernel_rfl) (by kernel_rfl) (fun _ _ _ h => h) (by rfl) ?_ hHeld ?_
  rotate_left
  · rintro X hX
    first | (go_simp; done) | (go_simp; with_reducible rfl)
  simp only [Act.put, List.setIfInBounds_toArray, List.set_cons_zero, List.set_cons_succ]
  refine Reg.take (i := 3) (d := 27) (v := ?_) rfl rfl (by kernel_rfl) (by kernel_rfl) (by kernel_rfl) (fun _ _ _ h => h) (by rfl) ?_ hHeld ?_
  rotate_left
  · rintro X hX
    first | (go_simp; done) | (go_simp; with_reducible rfl)
  simp only [Act.put, List.setIfInBounds_toArray, List.set_cons_zero, List.set_cons_succ]
  refine Reg.take (i := 4) (d := 28) (v := ?_) rfl rfl (by kernel_rfl) (by kernel_rfl) (by kernel_rfl) (fun _ _ _ h => h) (by rfl) ?_ hHeld ?_
  rotate_left
  · rintro X hX
    first | (go_simp; done) | (go_simp; with_reducible rfl)
  simp only [Act.put, List.setIfInBounds_toArray, List.set_cons_zero, List.set_cons_succ]
  refine Reg.take (i := 5) (d := 29) (v := ?_) rfl rfl (by kernel_rfl) (by kernel_rfl) (by kernel_rfl) (fun _ _ _ h => h) (by rfl) ?_ hHeld ?_
  rotate_left
  · rintro X hX
    first | (go_simp; done) | (go_simp; with_reducible rfl)
  simp only [Act.put, List.setIfInBounds_toArray, List.set_cons_zero, List.set_cons_succ]
  refine Reg.three (i := 0) (j := 1) (k := 6) rfl rfl rfl (by kernel_rfl) (by rfl) (by rfl) (by rfl) (fun K hK => ?_) (fun K hK => ?_) (fun K hK => ?_)
  · have c0 := Recs.box_cell HA4.out.bq 0
    have c1 := Recs.box_cell HA4.out.bq 1
    have c2 := Recs.box_cell HA4.out.bq 2
    have c3 := Recs.box_cell HA4.out.bq 3
    simp only [List.getElem?_toArray, List.getElem?_cons_succ, List.getElem?_cons_zero] at c0 c1 c2 c3
    go_wp2
    clear c0 c1 c2 c3
    refine hK.out _ _ trivial (fun _ => ?_)
    clear hK K
    refine Reg.two (i := 1) (j := 6) rfl rfl (by kernel_rfl) (by rfl) (by rfl) (fun K hK => ?_) (fun K hK => ?_)
    · have c0 := Recs.box_cell HA4.out.br 0
      have c1 := Recs.box_cell HA4.out.br 1
      have c2 := Recs.box_cell HA4.out.br 2
      simp only [List.getElem?_toArray, List.getElem?_cons_succ, List.getElem?_cons_zero] at c0 c1 c2
      go_wp2
      clear c0 c1 c2
      refine hK.out _ _ trivial (fun _ => ?_)
      clear hK K
      refine Reg.call (i := 6) rfl (by kernel_rfl) (by rfl) (fun K hK => ?_)
      go_wp2_with (first | (go_at_call 39; refine (below_live w.heap.size C 15 _ HL4.out (by omega) (by omega)).mono ?_; rintro e wa ⟨z, rfl, hz0, hz1, hl, ho⟩))
      have HAa := Num.hide (HA4.out.step hl ho ⟨hCr, HL4.out.lt⟩ hgq hgr)
      clear hl ho
      refine hK.out _ _ trivial (fun _ => ?_)
      clear hK K
      refine Reg.take (i := 7) (d := 31) (v := ?_) rfl rfl (by kernel_rfl) (by kernel_rfl) (by kernel_rfl) (fun _ _ _ h => h) (by rfl) ?_ hHeld ?_
      rotate_left
      · rintro X hX
        first | (go_simp; done) | (go_simp; with_reducible rfl)
      simp only [Act.put, List.setIfInBounds_toArray, List.set_cons_zero, List.set_cons_succ]
      rw [show IntKind.i64.wrap (a1 + a2 + z) = a1 + a2 + z by rw [IntKind.wrap_i64]; omega]
      have HE := Num.hide (mgt_end HAa.out hCr)
      have o0 := Recs.box_cell HAa.out.rq 0
      have y0 := Recs.box_thaw HAa.out.rq 0
      have o1 := Recs.box_cell HAa.out.rq 1
      have y1 := Recs.box_thaw HAa.out.rq 1
      have o2 := Recs.box_cell HAa.out.rq 2
      have y2 := Recs.box_thaw HAa.out.rq 2
      have o3 := Recs.box_cell HAa.out.rq 3
      have y3 := Recs.box_thaw HAa.out.rq 3
      have p0 := Recs.box_cell HAa.out.rr 0
      have z0 := Recs.box_thaw HAa.out.rr 0
      have p1 := Recs.box_cell HAa.out.rr 1
      have z1 := Recs.box_thaw HAa.out.rr 1
      have p2 := Recs.box_cell HAa.out.rr 2
      have z2 := Recs.box_thaw HAa.out.rr 2
      simp only [List.getElem?_toArray, List.getElem?_cons_succ, List.getElem?_cons_zero] at o0 o1 o2 o3 p0 p1 p2
      have e2 : ¬ w.heap.size + 1 = w.heap.size := by omega
      have e3 : ¬ w.heap.size = w.heap.size + 1 := by omega
      obtain ⟨r, hr⟩ : ∃ r, w.heap.size = r := ⟨_, rfl⟩
      rw [hr] at HE o0 o1 o2 o3 y0 y1 y2 y3 p0 p1 p2 z0 z1 z2 e2 e3 ⊢
      clear HAa HA4
      refine Reg.call (i := 8) rfl (by kernel_rfl) (by rfl) (fun K hK => ?_)
      go_wp2
      refine hK.out _ _ trivial (fun _ => ?_)
      clear hK K
      refine Reg.call (i := 9) rfl (by kernel_rfl) (by rfl) (fun K hK => ?_)
      go_wp2
      refine hK.out _ _ trivial (fun _ => ?_)
      clear hK K
      refine Reg.take (i := 10) (d := 4) (v := ?_) rfl rfl (by kernel_rfl) (by kernel_rfl) (by kernel_rfl) (fun _ _ _ h => h) (by rfl) ?_ hHeld ?_
      rotate_left
      · rintro X hX
        first | (go_simp; done) | (go_simp; with_reducible rfl)
      simp only [Act.put, List.setIfInBounds_toArray, List.set_cons_zero, List.set_cons_succ]
      refine Reg.take (i := 11) (d := 5) (v := ?_) rfl rfl (by kernel_rfl) (by kernel_rfl) (by kernel_rfl) (fun _ _ _ h => h) (by rfl) ?_ hHeld ?_
      rotate_left
      · rintro X hX
        first | (go_simp; done) | (go_simp; with_reducible rfl)
      simp only [Act.put, List.setIfInBounds_toArray, List.set_cons_zero, List.set_cons_succ]
      refine Reg.take (i := 12) (d := 6) (v := ?_) rfl rfl (by kernel_rfl) (by kernel_rfl) (by kernel_rfl) (fun _ _ _ h => h) (by rfl) ?_ hHeld ?_
      rotate_left
      · rintro X hX
        first | (go_simp; done) | (go_simp; with_reducible rfl)
      simp only [Act.put, List.setIfInBounds_toArray, List.set_cons_zero, List.set_cons_succ]
      refine wpAnyH_done (by kernel_rfl) ?_ _
      go_wp2
      refine bodyPost_ret (v := .tuple #[.agg #[.string m, .string u, .slice av1 l1.length cv1, .string b1], .agg #[.int .i64 st, .slice av2 l2.length cv2, .string b2], .int .i64 a1, .int .i64 (a1 + a2), .int .i64 (a1 + a2 + z)]) (by simp [results, Tryz.results17, go_sem, *]) rfl ?_
      subst hr
      exact ⟨m, u, _, l1, b1, st, _, l2, b2, a1, a1 + a2, a1 + a2 + z, rfl, HE.out.1, HE.out.2.1, HF1.out, HF2.out, hsz, by omega, by omega, by omega, by omega, by omega, by omega, HE.out.2.2⟩
    · go_wp2_with (first | (go_at_call 39; refine (below_live w.heap.size C 15 _ HL4.out (by omega) (by omega)).mono ?_; rintro e wa ⟨z, rfl, hz0, hz1, hl, ho⟩))
      have HAa := Num.hide (HA4.out.step hl ho ⟨hCr, HL4.out.lt⟩ hgq hgr)
      clear hl ho
      refine hK.out _ _ trivial (fun _ => ?_)
      clear hK K
      refine Reg.take (i := 7) (d := 31) (v := ?_) rfl rfl (by kernel_rfl) (by kernel_rfl) (by kernel_rfl) (fun _ _ _ h => h) (by rfl) ?_ hHeld ?_
      rotate_left
      · rintro X hX
        first | (go_simp; done) | (go_simp; with_reducible rfl)
      simp only [Act.put, List.setIfInBounds_toArray, List.set_cons_zero, List.set_cons_succ]
      rw [show IntKind.i64.wrap (a1 + a2 + z) = a1 + a2 + z by rw [IntKind.wrap_i64]; omega]
      refine Reg.two (i := 1) (j := 8) rfl rfl (by kernel_rfl) (by rfl) (by rfl) (fun K hK => ?_) (fun K hK => ?_)
      · have c0 := Recs.box_cell HAa.out.br 0
        have c1 := Recs.box_cell HAa.out.br 1
        have c2 := Recs.box_cell HAa.out.br 2
        simp only [List.getElem?_toArray, List.getElem?_cons_succ, List.getElem?_cons_zero] at c0 c1 c2
        go_wp2
        clear c0 c1 c2
        refine hK.out _ _ trivial (fun _ => ?_)
        clear hK K
        have HE := Num.hide (mgt_end HAa.out hCr)
        have o0 := Recs.box_cell HAa.out.rq 0
        have y0 := Recs.box_thaw HAa.out.rq 0
        have o1 := Recs.box_cell HAa.out.rq 1
        have y1 := Recs.box_thaw HAa.out.rq 1
        have o2 := Recs.box_cell HAa.out.rq 2
        have y2 := Recs.box_thaw HAa.out.rq 2
        have o3 := Recs.box_cell HAa.out.rq 3
        have y3 := Recs.box_thaw HAa.out.rq 3
        have p0 := Recs.box_cell HAa.out.rr 0
        have z0 := Recs.box_thaw HAa.out.rr 0
        have p1 := Recs.box_cell HAa.out.rr 1
        have z1 := Recs.box_thaw HAa.out.rr 1
        have p2 := Recs.box_cell HAa.out.rr 2
        have z2 := Recs.box_thaw HAa.out.rr 2
        simp only [List.getElem?_toArray, List.getElem?_cons_succ, List.getElem?_cons_zero] at o0 o1 o2 o3 p0 p1 p2
        have e2 : ¬ w.heap.size + 1 = w.heap.size := by omega
        have e3 : ¬ w.heap.size = w.heap.size + 1 := by omega
        obtain ⟨r, hr⟩ : ∃ r, w.heap.size = r := ⟨_, rfl⟩
        rw [hr] at HE o0 o1 o2 o3 y0 y1 y2 y3 p0 p1 p2 z0 z1 z2 e2 e3 ⊢
        clear HAa HA4
        refine Reg.call (i := 8) rfl (by kernel_rfl) (by rfl) (fun K hK => ?_)
        go_wp2
        refine hK.out _ _ trivial (fun _ => ?_)
        clear hK K
        refine Reg.call (i := 9) rfl (by kernel_rfl) (by rfl) (fun K hK => ?_)
        go_wp2
        refine hK.out _ _ trivial (fun _ => ?_)
        clear hK K
        refine Reg.take (i := 10) (d := 4) (v := ?_) rfl rfl (by kernel_rfl) (by kernel_rfl) (by kernel_rfl) (fun _ _ _ h => h) (by rfl) ?_ hHeld ?_
        rotate_left
        · rintro X hX
          first | (go_simp; done) | (go_simp; with_reducible rfl)
        simp only [Act.put, List.setIfInBounds_toArray, List.set_cons_zero, List.set_cons_succ]
        refine Reg.take (i := 11) (d := 5) (v := ?_) rfl rfl (by kernel_rfl) (by kernel_rfl) (by kernel_rfl) (fun _ _ _ h => h) (by rfl) ?_ hHeld ?_
        rotate_left
        · rintro X hX
          first | (go_simp; done) | (go_simp; with_reducible rfl)
        simp only [Act.put, List.setIfInBounds_toArray, List.set_cons_zero, List.set_cons_succ]
        refine Reg.take (i := 12) (d := 6) (v := ?_) rfl rfl (by kernel_rfl) (by kernel_rfl) (by kernel_rfl) (fun _ _ _ h => h) (by rfl) ?_ hHeld ?_
        rotate_left
        · rintro X hX
          first | (go_simp; done) | (go_simp; with_reducible rfl)
        simp only [Act.put, List.setIfInBounds_toArray, List.set_cons_zero, List.set_cons_succ]
        refine wpAnyH_done (by kernel_rfl) ?_ _
        go_wp2
        refine bodyPost_ret (v := .tuple #[.agg #[.string m, .string u, .slice av1 l1.length cv1, .string b1], .agg #[.int .i64 st, .slice av2 l2.length cv2, .string b2], .int .i64 a1, .int .i64 (a1 + a2), .int .i64 (a1 + a2 + z)]) (by simp [results, Tryz.results17, go_sem, *]) rfl ?_
        subst hr
        exact ⟨m, u, _, l1, b1, st, _, l2, b2, a1, a1 + a2, a1 + a2 + z, rfl, HE.out.1, HE.out.2.1, HF1.out, HF2.out, hsz, by omega, by omega, by omega, by omega, by omega, by omega, HE.out.2.2⟩
      · have HE := Num.hide (mgt_end HAa.out hCr)
        have o0 := Recs.box_cell HAa.out.rq 0
        have y0 := Recs.box_thaw HAa.out.rq 0
        have o1 := Recs.box_cell HAa.out.rq 1
        have y1 := Recs.box_thaw HAa.out.rq 1
        have o2 := Recs.box_cell HAa.out.rq 2
        have y2 := Recs.box_thaw HAa.out.rq 2
        have o3 := Recs.box_cell HAa.out.rq 3
        have y3 := Recs.box_thaw HAa.out.rq 3
        have p0 := Recs.box_cell HAa.out.rr 0
        have z0 := Recs.box_thaw HAa.out.rr 0
        have p1 := Recs.box_cell HAa.out.rr 1
        have z1 := Recs.box_thaw HAa.out.rr 1
        have p2 := Recs.box_cell HAa.out.rr 2
        have z2 := Recs.box_thaw HAa.out.rr 2
        have HG := Num.hide (show ((((wa.setCell ⟨w.heap.size, 0, none⟩ (.string m)).setCell ⟨w.heap.size, 1, none⟩ (.string u)).setCell ⟨w.heap.size, 2, none⟩ (.slice av1 l1.length cv1)).setCell ⟨w.heap.size, 3, none⟩ (.string b1)).heap[gr]? = _ from Recs.box_far (Recs.box_far (Recs.box_far (Recs.box_far HAa.out.br _ (by omega)) _ (by omega)) _ (by omega)) _ (by omega))
        simp only [List.getElem?_toArray, List.getElem?_cons_succ, List.getElem?_cons_zero] at o0 o1 o2 o3 p0 p1 p2
        have e2 : ¬ w.heap.size + 1 = w.heap.size := by omega
        have e3 : ¬ w.heap.size = w.heap.size + 1 := by omega
        obtain ⟨r, hr⟩ : ∃ r, w.heap.size = r := ⟨_, rfl⟩
        rw [hr] at HE o0 o1 o2 o3 y0 y1 y2 y3 p0 p1 p2 z0 z1 z2 e2 e3 HG ⊢
        clear HAa HA4
        go_wp2
        refine hK.out _ _ trivial (fun _ => ?_)
        clear hK K
        refine Reg.call (i := 1) rfl (by kernel_rfl) (by rfl) (fun K hK => ?_)
        have c0 := Recs.box_cell HG.out 0
        have c1 := Recs.box_cell HG.out 1
        have c2 := Recs.box_cell HG.out 2
        simp only [List.getElem?_toArray, List.getElem?_cons_succ, List.getElem?_cons_zero] at c0 c1 c2
        go_wp2
        clear c0 c1 c2 HG
        refine hK.out _ _ trivial (fun _ => ?_)
        clear hK K
        refine Reg.call (i := 9) rfl (by kernel_rfl) (by rfl) (fun K hK => ?_)
        go_wp2
        refine hK.out _ _ trivial (fun _ => ?_)
        clear hK K
        refine Reg.take (i := 10) (d := 4) (v := ?_) rfl rfl (by kernel_rfl) (by kernel_rfl) (by kernel_rfl) (fun _ _ _ h => h) (by rfl) ?_ hHeld ?_
        rotate_left
        · rintro X hX
          first | (go_simp; done) | (go_simp; with_reducible rfl)
        simp only [Act.put, List.setIfInBounds_toArray, List.set_cons_zero, List.set_cons_succ]
        refine Reg.take (i := 11) (d := 5) (v := ?_) rfl rfl (by kernel_rfl) (by kernel_rfl) (by kernel_rfl) (fun _ _ _ h => h) (by rfl) ?_ hHeld ?_
        rotate_left
        · rintro X hX
          first | (go_simp; done) | (go_simp; with_reducible rfl)
        simp only [Act.put, List.setIfInBounds_toArray, List.set_cons_zero, List.set_cons_succ]
        refine Reg.take (i := 12) (d := 6) (v := ?_) rfl rfl (by kernel_rfl) (by kernel_rfl) (by kernel_rfl) (fun _ _ _ h => h) (by rfl) ?_ hHeld ?_
        rotate_left
        · rintro X hX
          first | (go_simp; done) | (go_simp; with_reducible rfl)
        simp only [Act.put, List.setIfInBounds_toArray, List.set_cons_zero, List.set_cons_succ]
        refine wpAnyH_done (by kernel_rfl) ?_ _
        go_wp2
        refine bodyPost_ret (v := .tuple #[.agg #[.string m, .string u, .slice av1 l1.length cv1, .string b1], .agg #[.int .i64 st, .slice av2 l2.length cv2, .string b2], .int .i64 a1, .int .i64 (a1 + a2), .int .i64 (a1 + a2 + z)]) (by simp [results, Tryz.results17, go_sem, *]) rfl ?_
        subst hr
        exact ⟨m, u, _, l1, b1, st, _, l2, b2, a1, a1 + a2, a1 + a2 + z, rfl, HE.out.1, HE.out.2.1, HF1.out, HF2.out, hsz, by omega, by omega, by omega, by omega, by omega, by omega, HE.out.2.2⟩
  · have c0 := Recs.box_cell HA4.out.br 0
    have c1 := Recs.box_cell HA4.out.br 1
    have c2 := Recs.box_cell HA4.out.br 2
    simp only [List.getElem?_toArray, List.getElem?_cons_succ, List.getElem?_cons_zero] at c0 c1 c2
    go_wp2
    clear c0 c1 c2
    refine hK.out _ _ trivial (fun _ => ?_)
    clear hK K
    refine Reg.two (i := 0) (j := 6) rfl rfl (by kernel_rfl) (by rfl) (by rfl) (fun K hK => ?_) (fun K hK => ?_)
    · have c0 := Recs.box_cell HA4.out.bq 0
      have c1 := Recs.box_cell HA4.out.bq 1
      have c2 := Recs.box_cell HA4.out.bq 2
      have c3 := Recs.box_cell HA4.out.bq 3
      simp only [List.getElem?_toArray, List.getElem?_cons_succ, List.getElem?_cons_zero] at c0 c1 c2 c3
      go_wp2
      clear c0 c1 c2 c3
      refine hK.out _ _ trivial (fun _ => ?_)
      clear hK K
      refine Reg.call (i := 6) rfl (by kernel_rfl) (by rfl) (fun K hK => ?_)
      go_wp2_with (first | (go_at_call 39; refine (below_live w.heap.size C 15 _ HL4.out (by omega) (by omega)).mono ?_; rintro e wa ⟨z, rfl, hz0, hz1, hl, ho⟩))
      have HAa := Num.hide (HA4.out.step hl ho ⟨hCr, HL4.out.lt⟩ hgq hgr)
      clear hl ho
      refine hK.out _ _ trivial (fun _ => ?_)
      clear hK K
      refine Reg.take (i := 7) (d := 31) (v := ?_) rfl rfl (by kernel_rfl) (by kernel_rfl) (by kernel_rfl) (fun _ _ _ h => h) (by rfl) ?_ hHeld ?_
      rotate_left
      · rintro X hX
        first | (go_simp; done) | (go_simp; with_reducible rfl)
      simp only [Act.put, List.setIfInBounds_toArray, List.set_cons_zero, List.set_cons_succ]
      rw [show IntKind.i64.wrap (a1 + a2 + z) = a1 + a2 + z by rw [IntKind.wrap_i64]; omega]
      have HE := Num.hide (mgt_end HAa.out hCr)
      have o0 := Recs.box_cell HAa.out.rq 0
      have y0 := Recs.box_thaw HAa.out.rq 0
      have o1 := Recs.box_cell HAa.out.rq 1
      have y1 := Recs.box_thaw HAa.out.rq 1
      have o2 := Recs.box_cell HAa.out.rq 2
      have y2 := Recs.box_thaw HAa.out.rq 2
      have o3 := Recs.box_cell HAa.out.rq 3
      have y3 := Recs.box_thaw HAa.out.rq 3
      have p0 := Recs.box_cell HAa.out.rr 0
      have z0 := Recs.box_thaw HAa.out.rr 0
      have p1 := Recs.box_cell HAa.out.rr 1
      have z1 := Recs.box_thaw HAa.out.rr 1
      have p2 := Recs.box_cell HAa.out.rr 2
      have z2 := Recs.box_thaw HAa.out.rr 2
      simp only [List.getElem?_toArray, List.getElem?_cons_succ, List.getElem?_cons_zero] at o0 o1 o2 o3 p0 p1 p2
      have e2 : ¬ w.heap.size + 1 = w.heap.size := by omega
      have e3 : ¬ w.heap.size = w.heap.size + 1 := by omega
      obtain ⟨r, hr⟩ : ∃ r, w.heap.size = r := ⟨_, rfl⟩
      rw [hr] at HE o0 o1 o2 o3 y0 y1 y2 y3 p0 p1 p2 z0 z1 z2 e2 e3 ⊢
      clear HAa HA4
      refine Reg.call (i := 8) rfl (by kernel_rfl) (by rfl) (fun K hK => ?_)
      go_wp2
      refine hK.out _ _ trivial (fun _ => ?_)
      clear hK K
      refine Reg.call (i := 9) rfl (by kernel_rfl) (by rfl) (fun K hK => ?_)
      go_wp2
      refine hK.out _ _ trivial (fun _ => ?_)
      clear hK K
      refine Reg.take (i := 10) (d := 4) (v := ?_) rfl rfl (by kernel_rfl) (by kernel_rfl) (by kernel_rfl) (fun _ _ _ h => h) (by rfl) ?_ hHeld ?_
      rotate_left
      · rintro X hX
        first | (go_simp; done) | (go_simp; with_reducible rfl)
      simp only [Act.put, List.setIfInBounds_toArray, List.set_cons_zero, List.set_cons_succ]
      refine Reg.take (i := 11) (d := 5) (v := ?_) rfl rfl (by kernel_rfl) (by kernel_rfl) (by kernel_rfl) (fun _ _ _ h => h) (by rfl) ?_ hHeld ?_
      rotate_left
      · rintro X hX
        first | (go_simp; done) | (go_simp; with_reducible rfl)
      simp only [Act.put, List.setIfInBounds_toArray, List.set_cons_zero, List.set_cons_succ]
      refine Reg.take (i := 12) (d := 6) (v := ?_) rfl rfl (by kernel_rfl) (by kernel_rfl) (by kernel_rfl) (fun _ _ _ h => h) (by rfl) ?_ hHeld ?_
      rotate_left
      · rintro X hX
        first | (go_simp; done) | (go_simp; with_reducible rfl)
      simp only [Act.put, List.setIfInBounds_toArray, List.set_cons_zero, List.set_cons_succ]
      refine wpAnyH_done (by kernel_rfl) ?_ _
      go_wp2
      refine bodyPost_ret (v := .tuple #[.agg #[.string m, .string u, .slice av1 l1.length cv1, .string b1], .agg #[.int .i64 st, .slice av2 l2.length cv2, .string b2], .int .i64 a1, .int .i64 (a1 + a2), .int .i64 (a1 + a2 + z)]) (by simp [results, Tryz.results17, go_sem, *]) rfl ?_
      subst hr
      exact ⟨m, u, _, l1, b1, st, _, l2, b2, a1, a1 + a2, a1 + a2 + z, rfl, HE.out.1, HE.out.2.1, HF1.out, HF2.out, hsz, by omega, by omega, by omega, by omega, by omega, by omega, HE.out.2.2⟩
    · go_wp2_with (first | (go_at_call 39; refine (below_live w.heap.size C 15 _ HL4.out (by omega) (by omega)).mono ?_; rintro e wa ⟨z, rfl, hz0, hz1, hl, ho⟩))
      have HAa := Num.hide (HA4.out.step hl ho ⟨hCr, HL4.out.lt⟩ hgq hgr)
      clear hl ho
      refine hK.out _ _ trivial (fun _ => ?_)
      clear hK K
      refine Reg.take (i := 7) (d := 31) (v := ?_) rfl rfl (by kernel_rfl) (by kernel_rfl) (by kernel_rfl) (fun _ _ _ h => h) (by rfl) ?_ hHeld ?_
      rotate_left
      · rintro X hX
        first | (go_simp; done) | (go_simp; with_reducible rfl)
      simp only [Act.put, List.setIfInBounds_toArray, List.set_cons_zero, List.set_cons_succ]
      rw [show IntKind.i64.wrap (a1 + a2 + z) = a1 + a2 + z by rw [IntKind.wrap_i64]; omega]
      refine Reg.call (i := 0) rfl (by kernel_rfl) (by rfl) (fun K hK => ?_)
      have c0 := Recs.box_cell HAa.out.bq 0
      have c1 := Recs.box_cell HAa.out.bq 1
      have c2 := Recs.box_cell HAa.out.bq 2
      have c3 := Recs.box_cell HAa.out.bq 3
      simp only [List.getElem?_toArray, List.getElem?_cons_succ, List.getElem?_cons_zero] at c0 c1 c2 c3
      go_wp2
      clear c0 c1 c2 c3
      refine hK.out _ _ trivial (fun _ => ?_)
      clear hK K
      have HE := Num.hide (mgt_end HAa.out hCr)
      have o0 := Recs.box_cell HAa.out.rq 0
      have y0 := Recs.box_thaw HAa.out.rq 0
      have o1 := Recs.box_cell HAa.out.rq 1
      have y1 := Recs.box_thaw HAa.out.rq 1
      have o2 := Recs.box_cell HAa.out.rq 2
      have y2 := Recs.box_thaw HAa.out.rq 2
      have o3 := Recs.box_cell HAa.out.rq 3
      have y3 := Recs.box_thaw HAa.out.rq 3
      have p0 := Recs.box_cell HAa.out.rr 0
      have z0 := Recs.box_thaw HAa.out.rr 0
      have p1 := Recs.box_cell HAa.out.rr 1
      have z1 := Recs.box_thaw HAa.out.rr 1
      have p2 := Recs.box_cell HAa.out.rr 2
      have z2 := Recs.box_thaw HAa.out.rr 2
      simp only [List.getElem?_toArray, List.getElem?_cons_succ, List.getElem?_cons_zero] at o0 o1 o2 o3 p0 p1 p2
      have e2 : ¬ w.heap.size + 1 = w.heap.size := by omega
      have e3 : ¬ w.heap.size = w.heap.size + 1 := by omega
      obtain ⟨r, hr⟩ : ∃ r, w.heap.size = r := ⟨_, rfl⟩
      rw [hr] at HE o0 o1 o2 o3 y0 y1 y2 y3 p0 p1 p2 z0 z1 z2 e2 e3 ⊢
      clear HAa HA4
      refine Reg.call (i := 8) rfl (by kernel_rfl) (by rfl) (fun K hK => ?_)
      go_wp2
      refine hK.out _ _ trivial (fun _ => ?_)
      clear hK K
      refine Reg.call (i := 9) rfl (by kernel_rfl) (by rfl) (fun K hK => ?_)
      go_wp2
      refine hK.out _ _ trivial (fun _ => ?_)
      clear hK K
      refine Reg.take (i := 10) (d := 4) (v := ?_) rfl rfl (by kernel_rfl) (by kernel_rfl) (by kernel_rfl) (fun _ _ _ h => h) (by rfl) ?_ hHeld ?_
      rotate_left
      · rintro X hX
        first | (go_simp; done) | (go_simp; with_reducible rfl)
      simp only [Act.put, List.setIfInBounds_toArray, List.set_cons_zero, List.set_cons_succ]
      refine Reg.take (i := 11) (d := 5) (v := ?_) rfl rfl (by kernel_rfl) (by kernel_rfl) (by kernel_rfl) (fun _ _ _ h => h) (by rfl) ?_ hHeld ?_
      rotate_left
      · rintro X hX
        first | (go_simp; done) | (go_simp; with_reducible rfl)
      simp only [Act.put, List.setIfInBounds_toArray, List.set_cons_zero, List.set_cons_succ]
      refine Reg.take (i := 12) (d := 6) (v := ?_) rfl rfl (by kernel_rfl) (by kernel_rfl) (by kernel_rfl) (fun _ _ _ h => h) (by rfl) ?_ hHeld ?_
      rotate_left
      · rintro X hX
        first | (go_simp; done) | (go_simp; with_reducible rfl)
      simp only [Act.put, List.setIfInBounds_toArray, List.set_cons_zero, List.set_cons_succ]
      refine wpAnyH_done (by kernel_rfl) ?_ _
      go_wp2
      refine bodyPost_ret (v := .tuple #[.agg #[.string m, .string u, .slice av1 l1.length cv1, .string b1], .agg #[.int .i64 st, .slice av2 l2.length cv2, .string b2], .int .i64 a1, .int .i64 (a1 + a2), .int .i64 (a1 + a2 + z)]) (by simp [results, Tryz.results17, go_sem, *]) rfl ?_
      subst hr
      exact ⟨m, u, _, l1, b1, st, _, l2, b2, a1, a1 + a2, a1 + a2 + z, rfl, HE.out.1, HE.out.2.1, HF1.out, HF2.out, hsz, by omega, by omega, by omega, by omega, by omega, by omega, HE.out.2.2⟩
  · go_wp2_with (first | (go_at_call 39; refine (below_live w.heap.size C 15 _ HL4.out (by omega) (by omega)).mono ?_; rintro e wa ⟨z, rfl, hz0, hz1, hl, ho⟩))
    have HAa := Num.hide (HA4.out.step hl ho ⟨hCr, HL4.out.lt⟩ hgq hgr)
    clear hl ho
    refine hK.out _ _ trivial (fun _ => ?_)
    clear hK K
    refine Reg.take (i := 7) (d := 31) (v := ?_) rfl rfl (by kernel_rfl) (by kernel_rfl) (by kernel_rfl) (fun _ _ _ h => h) (by rfl) ?_ hHeld ?_
    rotate_left
    · rintro X hX
      first | (go_simp; done) | (go_simp; with_reducible rfl)
    simp only [Act.put, List.setIfInBounds_toArray, List.set_cons_zero, List.set_cons_succ]
    rw [show IntKind.i64.wrap (a1 + a2 + z) = a1 + a2 + z by rw [IntKind.wrap_i64]; omega]
    refine Reg.two (i := 0) (j := 1) rfl rfl (by kernel_rfl) (by rfl) (by rfl) (fun K hK => ?_) (fun K hK => ?_)
    · have c0 := Recs.box_cell HAa.out.bq 0
      have c1 := Recs.box_cell HAa.out.bq 1
      have c2 := Recs.box_cell HAa.out.bq 2
      have c3 := Recs.box_cell HAa.out.bq 3
      simp only [List.getElem?_toArray, List.getElem?_cons_succ, List.getElem?_cons_zero] at c0 c1 c2 c3
      go_wp2
      clear c0 c1 c2 c3
      refine hK.out _ _ trivial (fun _ => ?_)
      clear hK K
      refine Reg.two (i := 1) (j := 8) rfl rfl (by kernel_rfl) (by rfl) (by rfl) (fun K hK => ?_) (fun K hK => ?_)
      · have c0 := Recs.box_cell HAa.out.br 0
        have c1 := Recs.box_cell HAa.out.br 1
        have c2 := Recs.box_cell HAa.out.br 2
        simp only [List.getElem?_toArray, List.getElem?_cons_succ, List.getElem?_cons_zero] at c0 c1 c2
        go_wp2
        clear c0 c1 c2
        refine hK.out _ _ trivial (fun _ => ?_)
        clear hK K
        have HE := Num.hide (mgt_end HAa.out hCr)
        have o0 := Recs.box_cell HAa.out.rq 0
        have y0 := Recs.box_thaw HAa.out.rq 0
        have o1 := Recs.box_cell HAa.out.rq 1
        have y1 := Recs.box_thaw HAa.out.rq 1
        have o2 := Recs.box_cell HAa.out.rq 2
        have y2 := Recs.box_thaw HAa.out.rq 2
        have o3 := Recs.box_cell HAa.out.rq 3
        have y3 := Recs.box_thaw HAa.out.rq 3
        have p0 := Recs.box_cell HAa.out.rr 0
        have z0 := Recs.box_thaw HAa.out.rr 0
        have p1 := Recs.box_cell HAa.out.rr 1
        have z1 := Recs.box_thaw HAa.out.rr 1
        have p2 := Recs.box_cell HAa.out.rr 2
        have z2 := Recs.box_thaw HAa.out.rr 2
        simp only [List.getElem?_toArray, List.getElem?_cons_succ, List.getElem?_cons_zero] at o0 o1 o2 o3 p0 p1 p2
        have e2 : ¬ w.heap.size + 1 = w.heap.size := by omega
        have e3 : ¬ w.heap.size = w.heap.size + 1 := by omega
        obtain ⟨r, hr⟩ : ∃ r, w.heap.size = r := ⟨_, rfl⟩
        rw [hr] at HE o0 o1 o2 o3 y0 y1 y2 y3 p0 p1 p2 z0 z1 z2 e2 e3 ⊢
        clear HAa HA4
        refine Reg.call (i := 8) rfl (by kernel_rfl) (by rfl) (fun K hK => ?_)
        go_wp2
        refine hK.out _ _ trivial (fun _ => ?_)
        clear hK K
        refine Reg.call (i := 9) rfl (by kernel_rfl) (by rfl) (fun K hK => ?_)
        go_wp2
        refine hK.out _ _ trivial (fun _ => ?_)
        clear hK K
        refine Reg.take (i := 10) (d := 4) (v := ?_) rfl rfl (by kernel_rfl) (by kernel_rfl) (by kernel_rfl) (fun _ _ _ h => h) (by rfl) ?_ hHeld ?_
        rotate_left
        · rintro X hX
          first | (go_simp; done) | (go_simp; with_reducible rfl)
        simp only [Act.put, List.setIfInBounds_toArray, List.set_cons_zero, List.set_cons_succ]
        refine Reg.take (i := 11) (d := 5) (v := ?_) rfl rfl (by kernel_rfl) (by kernel_rfl) (by kernel_rfl) (fun _ _ _ h => h) (by rfl) ?_ hHeld ?_
        rotate_left
        · rintro X hX
          first | (go_simp; done) | (go_simp; with_reducible rfl)
        simp only [Act.put, List.setIfInBounds_toArray, List.set_cons_zero, List.set_cons_succ]
        refine Reg.take (i := 12) (d := 6) (v := ?_) rfl rfl (by kernel_rfl) (by kernel_rfl) (by kernel_rfl) (fun _ _ _ h => h) (by rfl) ?_ hHeld ?_
        rotate_left
        · rintro X hX
          first | (go_simp; done) | (go_simp; with_reducible rfl)
        simp only [Act.put, List.setIfInBounds_toArray, List.set_cons_zero, List.set_cons_succ]
        refine wpAnyH_done (by kernel_rfl) ?_ _
        go_wp2
        refine bodyPost_ret (v := .tuple #[.agg #[.string m, .string u, .slice av1 l1.length cv1, .string b1], .agg #[.int .i64 st, .slice av2 l2.length cv2, .string b2], .int .i64 a1, .int .i64 (a1 + a2), .int .i64 (a1 + a2 + z)]) (by simp [results, Tryz.results17, go_sem, *]) rfl ?_
        subst hr
        exact ⟨m, u, _, l1, b1, st, _, l2, b2, a1, a1 + a2, a1 + a2 + z, rfl, HE.out.1, HE.out.2.1, HF1.out, HF2.out, hsz, by omega, by omega, by omega, by omega, by omega, by omega, HE.out.2.2⟩
      · have HE := Num.hide (mgt_end HAa.out hCr)
        have o0 := Recs.box_cell HAa.out.rq 0
        have y0 := Recs.box_thaw HAa.out.rq 0
        have o1 := Recs.box_cell HAa.out.rq 1
        have y1 := Recs.box_thaw HAa.out.rq 1
        have o2 := Recs.box_cell HAa.out.rq 2
        have y2 := Recs.box_thaw HAa.out.rq 2
        have o3 := Recs.box_cell HAa.out.rq 3
        have y3 := Recs.box_thaw HAa.out.rq 3
        have p0 := Recs.box_cell HAa.out.rr 0
        have z0 := Recs.box_thaw HAa.out.rr 0
        have p1 := Recs.box_cell HAa.out.rr 1
        have z1 := Recs.box_thaw HAa.out.rr 1
        have p2 := Recs.box_cell HAa.out.rr 2
        have z2 := Recs.box_thaw HAa.out.rr 2
        have HG := Num.hide (show ((((wa.setCell ⟨w.heap.size, 0, none⟩ (.string m)).setCell ⟨w.heap.size, 1, none⟩ (.string u)).setCell ⟨w.heap.size, 2, none⟩ (.slice av1 l1.length cv1)).setCell ⟨w.heap.size, 3, none⟩ (.string b1)).heap[gr]? = _ from Recs.box_far (Recs.box_far (Recs.box_far (Recs.box_far HAa.out.br _ (by omega)) _ (by omega)) _ (by omega)) _ (by omega))
        simp only [List.getElem?_toArray, List.getElem?_cons_succ, List.getElem?_cons_zero] at o0 o1 o2 o3 p0 p1 p2
        have e2 : ¬ w.heap.size + 1 = w.heap.size := by omega
        have e3 : ¬ w.heap.size = w.heap.size + 1 := by omega
        obtain ⟨r, hr⟩ : ∃ r, w.heap.size = r := ⟨_, rfl⟩
        rw [hr] at HE o0 o1 o2 o3 y0 y1 y2 y3 p0 p1 p2 z0 z1 z2 e2 e3 HG ⊢
        clear HAa HA4
        go_wp2
        refine hK.out _ _ trivial (fun _ => ?_)
        clear hK K
        refine Reg.call (i := 1) rfl (by kernel_rfl) (by rfl) (fun K hK => ?_)
        have c0 := Recs.box_cell HG.out 0
        have c1 := Recs.box_cell HG.out 1
        have c2 := Recs.box_cell HG.out 2
        simp only [List.getElem?_toArray, List.getElem?_cons_succ, List.getElem?_cons_zero] at c0 c1 c2
        go_wp2
        clear c0 c1 c2 HG
        refine hK.out _ _ trivial (fun _ => ?_)
        clear hK K
        refine Reg.call (i := 9) rfl (by kernel_rfl) (by rfl) (fun K hK => ?_)
        go_wp2
        refine hK.out _ _ trivial (fun _ => ?_)
        clear hK K
        refine Reg.take (i := 10) (d := 4) (v := ?_) rfl rfl (by kernel_rfl) (by kernel_rfl) (by kernel_rfl) (fun _ _ _ h => h) (by rfl) ?_ hHeld ?_
        rotate_left
        · rintro X hX
          first | (go_simp; done) | (go_simp; with_reducible rfl)
        simp only [Act.put, List.setIfInBounds_toArray, List.set_cons_zero, List.set_cons_succ]
        refine Reg.take (i := 11) (d := 5) (v := ?_) rfl rfl (by kernel_rfl) (by kernel_rfl) (by kernel_rfl) (fun _ _ _ h => h) (by rfl) ?_ hHeld ?_
        rotate_left
        · rintro X hX
          first | (go_simp; done) | (go_simp; with_reducible rfl)
        simp only [Act.put, List.setIfInBounds_toArray, List.set_cons_zero, List.set_cons_succ]
        refine Reg.take (i := 12) (d := 6) (v := ?_) rfl rfl (by kernel_rfl) (by kernel_rfl) (by kernel_rfl) (fun _ _ _ h => h) (by rfl) ?_ hHeld ?_
        rotate_left
        · rintro X hX
          first | (go_simp; done) | (go_simp; with_reducible rfl)
        simp only [Act.put, List.setIfInBounds_toArray, List.set_cons_zero, List.set_cons_succ]
        refine wpAnyH_done (by kernel_rfl) ?_ _
        go_wp2
        refine bodyPost_ret (v := .tuple #[.agg #[.string m, .string u, .slice av1 l1.length cv1, .string b1], .agg #[.int .i64 st, .slice av2 l2.length cv2, .string b2], .int .i64 a1, .int .i64 (a1 + a2), .int .i64 (a1 + a2 + z)]) (by simp [results, Tryz.results17, go_sem, *]) rfl ?_
        subst hr
        exact ⟨m, u, _, l1, b1, st, _, l2, b2, a1, a1 + a2, a1 + a2 + z, rfl, HE.out.1, HE.out.2.1, HF1.out, HF2.out, hsz, by omega, by omega, by omega, by omega, by omega, by omega, HE.out.2.2⟩
    · have c0 := Recs.box_cell HAa.out.br 0
      have c1 := Recs.box_cell HAa.out.br 1
      have c2 := Recs.box_cell HAa.out.br 2
      simp only [List.getElem?_toArray, List.getElem?_cons_succ, List.getElem?_cons_zero] at c0 c1 c2
      go_wp2
      clear c0 c1 c2
      refine hK.out _ _ trivial (fun _ => ?_)
      clear hK K
      refine Reg.call (i := 0) rfl (by kernel_rfl) (by rfl) (fun K hK => ?_)
      have c0 := Recs.box_cell HAa.out.bq 0
      have c1 := Recs.box_cell HAa.out.bq 1
      have c2 := Recs.box_cell HAa.out.bq 2
      have c3 := Recs.box_cell HAa.out.bq 3
      simp only [List.getElem?_toArray, List.getElem?_cons_succ, List.getElem?_cons_zero] at c0 c1 c2 c3
      go_wp2
      clear c0 c1 c2 c3
      refine hK.out _ _ trivial (fun _ => ?_)
      clear hK K
      have HE := Num.hide (mgt_end HAa.out hCr)
      have o0 := Recs.box_cell HAa.out.rq 0
      have y0 := Recs.box_thaw HAa.out.rq 0
      have o1 := Recs.box_cell HAa.out.rq 1
      have y1 := Recs.box_thaw HAa.out.rq 1
      have o2 := Recs.box_cell HAa.out.rq 2
      have y2 := Recs.box_thaw HAa.out.rq 2
      have o3 := Recs.box_cell HAa.out.rq 3
      have y3 := Recs.box_thaw HAa.out.rq 3
      have p0 := Recs.box_cell HAa.out.rr 0
      have z0 := Recs.box_thaw HAa.out.rr 0
      have p1 := Recs.box_cell HAa.out.rr 1
      have z1 := Recs.box_thaw HAa.out.rr 1
      have p2 := Recs.box_cell HAa.out.rr 2
      have z2 := Recs.box_thaw HAa.out.rr 2
      simp only [List.getElem?_toArray, List.getElem?_cons_succ, List.getElem?_cons_zero] at o0 o1 o2 o3 p0 p1 p2
      have e2 : ¬ w.heap.size + 1 = w.heap.size := by omega
      have e3 : ¬ w.heap.size = w.heap.size + 1 := by omega
      obtain ⟨r, hr⟩ : ∃ r, w.heap.size = r := ⟨_, rfl⟩
      rw [hr] at HE o0 o1 o2 o3 y0 y1 y2 y3 p0 p1 p2 z0 z1 z2 e2 e3 ⊢
      clear HAa HA4
      refine Reg.call (i := 8) rfl (by kernel_rfl) (by rfl) (fun K hK => ?_)
      go_wp2
      refine hK.out _ _ trivial (fun _ => ?_)
      clear hK K
      refine Reg.call (i := 9) rfl (by kernel_rfl) (by rfl) (fun K hK => ?_)
      go_wp2
      refine hK.out _ _ trivial (fun _ => ?_)
      clear hK K
      refine Reg.take (i := 10) (d := 4) (v := ?_) rfl rfl (by kernel_rfl) (by kernel_rfl) (by kernel_rfl) (fun _ _ _ h => h) (by rfl) ?_ hHeld ?_
      rotate_left
      · rintro X hX
        first | (go_simp; done) | (go_simp; with_reducible rfl)
      simp only [Act.put, List.setIfInBounds_toArray, List.set_cons_zero, List.set_cons_succ]
      refine Reg.take (i := 11) (d := 5) (v := ?_) rfl rfl (by kernel_rfl) (by kernel_rfl) (by kernel_rfl) (fun _ _ _ h => h) (by rfl) ?_ hHeld ?_
      rotate_left
      · rintro X hX
        first | (go_simp; done) | (go_simp; with_reducible rfl)
      simp only [Act.put, List.setIfInBounds_toArray, List.set_cons_zero, List.set_cons_succ]
      refine Reg.take (i := 12) (d := 6) (v := ?_) rfl rfl (by kernel_rfl) (by kernel_rfl) (by kernel_rfl) (fun _ _ _ h => h) (by rfl) ?_ hHeld ?_
      rotate_left
      · rintro X hX
        first | (go_simp; done) | (go_simp; with_reducible rfl)
      simp only [Act.put, List.setIfInBounds_toArray, List.set_cons_zero, List.set_cons_succ]
      refine wpAnyH_done (by kernel_rfl) ?_ _
      go_wp2
      refine bodyPost_ret (v := .tuple #[.agg #[.string m, .string u, .slice av1 l1.length cv1, .string b1], .agg #[.int .i64 st, .slice av2 l2.length cv2, .string b2], .int .i64 a1, .int .i64 (a1 + a2), .int .i64 (a1 + a2 + z)]) (by simp [results, Tryz.results17, go_sem, *]) rfl ?_
      subst hr
      exact ⟨m, u, _, l1, b1, st, _, l2, b2, a1, a1 + a2, a1 + a2 + z, rfl, HE.out.1, HE.out.2.1, HF1.out, HF2.out, hsz, by omega, by omega, by omega, by omega, by omega, by omega, HE.out.2.2⟩
end Draw
end Go.Proofs.YtbcjpjhpobmpbaaGreatDoor
