/-
  RegTwo: One step through a region that draws its order: two operations that come up together.
  DrawL8: The specification's draw of an answer for the ages, of a cursor in whatever state: bounds alone.
  DrawUri: The specification's draws of a target, of a cursor in whatever state: bounds alone.
-/
import Derived.Test.YtbcjpjhpobmpbaaGreatDoorRegLaw
import Derived.Test.YtbcjpjhpobmpbaaGreatDoorPaw
import Derived.Test.YtbcjpjhpobmpbaaGreatDoorPae
import Derived.Test.YtbcjpjhpobmpbaaGreatDoorPac
import Derived.Laws.AppendOwn
import Derived.Deep.Cut
import Derived.Test.YtbcjpjhpobmpbaaGreatDoorPav
import Derived.Test.YtbcjpjhpobmpbaaGreatDoorPah
namespace Go.Proofs.YtbcjpjhpobmpbaaGreatDoor
open Go.RowKit
set_option linter.unusedVariables false
namespace Reg

variable {P : Program} {ops : Array Oper} {Q : Exit → Act → World → Prop} {md : Region.Mode} {S : World → Prop}
theorem two {i j : Nat} {o p : Oper} {fuel : Nat} {listed : Array Bool} {a : Act} {w : World} (hi : ops.toList[i]? = some o) (hj : ops.toList[j]? = some p) (hr : Region.ready md ops listed = [i, j])
    (hwi : Region.wanted o (yielded ops a.tmps) = true) (hwj : Region.wanted p (yielded ops a.tmps) = true)
    (h1 : ∀ K' : Act → World → Prop, Shut (∀ a w, S w → (S w → wpAnyH P md ops Q S fuel (listed.setIfInBounds i true) a w) → K' a w) → Oper.wp P o a w K' Q)
    (h2 : ∀ K' : Act → World → Prop, Shut (∀ a w, S w → (S w → wpAnyH P md ops Q S fuel (listed.setIfInBounds j true) a w) → K' a w) → Oper.wp P p a w K' Q) : wpAnyH P md ops Q S (fuel + 1) listed a w :=
  wpAnyH_ready hr (by simp) (AllReadyH.cons (at_ hi) (fun K hK => by rw [if_pos hwi]; exact h1 K hK) (AllReadyH.cons (at_ hj) (fun K hK => by rw [if_pos hwj]; exact h2 K hK) AllReadyH.nil))
end Reg
end Go.Proofs.YtbcjpjhpobmpbaaGreatDoor
namespace Go.Proofs.YtbcjpjhpobmpbaaGreatDoor
open Go.RowKit
set_option linter.unusedVariables false
set_option linter.unusedSimpArgs false
namespace Draw

/-- an answer that is drawn: its box, the box of what is told, and the cursor -/
structure R8At (B C : Nat) (w : World) (gq : Nat) (st : Int) (v : Value) (l : List Flds.Fld) (b : ByteArray) (n : Nat) (X : World) : Prop where
  live : Live B C X
  only : Only C w X
  res : X.heap[w.heap.size]? = some zResp
  box : X.heap[gq]? = some (.cells #[.int .i64 st, v, .string b] 35)
  own : Flds.Own w.heap.size X v l
  few : Few n l
  said : AllSaid l
theorem R8At.lt {B C : Nat} {w : World} {gq : Nat} {st : Int} {v : Value} {l : List Flds.Fld} {b : ByteArray} {n : Nat} {X : World} (h : R8At B C w gq st v l b n X) : gq < X.heap.size := (Array.getElem?_eq_some_iff.1 h.box).1
theorem R8At.step {B C : Nat} {w : World} {gq : Nat} {st : Int} {v : Value} {l : List Flds.Fld} {b : ByteArray} {n : Nat} {X X' : World} (h : R8At B C w gq st v l b n X) (ho : Only C X X') (hl : Live B C X') (hC : C < w.heap.size) (hg : w.heap.size < gq) : R8At B C w gq st v l b n X' := by
  have hx := h.lt
  exact ⟨hl, h.only.trans ho, (ho.block _ (by omega) (by omega)).trans h.res, (ho.block _ hx (by omega)).trans h.box, own_only h.own ho (by omega), h.few, h.said⟩
theorem R8At.more {B C : Nat} {w : World} {gq : Nat} {st : Int} {v : Value} {l : List Flds.Fld} {b : ByteArray} {n m : Nat} {X : World} (h : R8At B C w gq st v l b n X) (hnm : n ≤ m) : R8At B C w gq st v l b m X := ⟨h.live, h.only, h.res, h.box, h.own, h.few.mono hnm, h.said⟩
theorem own_notS {B : Nat} {X : World} {v : Value} {l : List Flds.Fld} (h : Flds.Own B X v l) {g : Nat} {cs : Array Value} (hb : X.heap[g]? = some (.cells cs 35 (0, 0))) : ∀ j, v.ownBlock = some j → j ≠ g := by
  intro j hj e
  subst e
  rcases h.2 with ⟨h1, _⟩ | ⟨k, cap, cur, h1, _, hk, _⟩
  · rw [h1] at hj; cases hj
  · rw [h1] at hj
    have e2 : k = j := Option.some.inj hj
    rw [e2, hb] at hk
    have e3 := Option.some.inj hk
    injection e3 with _ ht _
    exact absurd ht (by decide)
theorem date_small (z : Int) (h0 : 0 ≤ z) (h1 : z < 90) : (Date.shown z).size ≤ 64 := by
  have e : Date.shown z = Date.text z := if_pos ⟨h0, by omega⟩
  rw [e, Date.text_size z h0 (by omega)]
  omega
set_option maxRecDepth 100000 in
set_option maxHeartbeats 8000000 in
theorem l8_q (B C : Nat) (w : World) (h : Live B C w) :
    Calls Tryz.prog 38 #[.pointer (some ⟨C, 0, none⟩)] w fun e w' => ∃ st v l b, e = .returned (Resp.val st v b) ∧ Flds.Own w.heap.size w' v l ∧ Few 6 l ∧ AllSaid l ∧ b.size ≤ 64 ∧ Live B C w' ∧ Only C w w' := by
  obtain ⟨i0, hi0, hzz0, hzz1, hzz2⟩ := info_parts Flds.infoF
  have hC := h.lt
  have HL0 := Num.hide (h.alloc zResp)
  have HO0 := Num.hide ((Only.refl C w).alloc zResp)
  have HZ0 : Hid ((w.alloc zResp).heap[w.heap.size]? = some zResp) := heap_alloc_new w _
  have hz0 : (w.alloc zResp).heap.size = w.heap.size + 1 := by rw [World.size_alloc]
  clear h
  go_enter Tryz.func38, Tryz.ntmps38
  go_wp2_with fail
  refine (resp_q B C _ HL0.out).mono ?_
  rintro e w1 ⟨st, v, l, b, rfl, hs0, hs1, hv, hf, hsd, hb, hl, ho⟩
  have hz1 := ho.size
  obtain ⟨av, cv, hvv⟩ := Recs.own_len hv
  subst hvv
  have hal : Below w1.heap.size w1 (w1.alloc (.cells #[.int .i64 st, .slice av l.length cv, .string b] 35)) := (Below.refl _ _).alloc (Nat.le_refl _) _
  have HA : Hid (R8At B C w w1.heap.size st (.slice av l.length cv) l b 4 (w1.alloc (.cells #[.int .i64 st, .slice av l.length cv, .string b] 35))) :=
    ⟨hl.below hal, (HO0.out.trans ho).alloc _, (heap_alloc_old _ _ (by omega)).trans ((ho.block _ (by omega) (by omega)).trans HZ0.out), heap_alloc_new w1 _, Recs.own_mono (Recs.own_below hv hal) (by omega), hf, hsd⟩
  have hCg : w.heap.size < w1.heap.size := by omega
  unfold Resp.val
  clear hv hf hsd hl ho hal HL0 HO0 HZ0
  go_upto_region 2 with fail
  generalize w1.alloc (.cells #[.int .i64 st, .slice av l.length cv, .string b] 35) = w2 at HA ⊢
  generalize w1.heap.size = gq at HA hCg hz1 ⊢
  have hCq : C < gq := by omega
  go_wp2_with fail
  refine (once_live B C 2 _ HA.out.live (by omega)).mono ?_
  rintro e w3 ⟨t, rfl, hl, ho⟩
  have HA3 := Num.hide (HA.out.step ho hl hC hCg)
  clear hl ho HA
  go_upto_if 7 with fail
  go_cut [] from 4 (fun wx => ∃ (v : Value) (l : List Flds.Fld), Hid (R8At B C w gq st v l b (4 + 1) wx))
  case first =>
    cases t with
    | false =>
      have HA4 := Num.hide (HA3.out.more (by omega : 4 ≤ 4 + 1))
      go_wp2
      go_meet
      case rel => exact ⟨_, _, HA4⟩
    | true =>
      have HA4 := Num.hide (HA3.out.step (Only.refl C w3).drew (HA3.out.live.below (Below.refl _ _).drew) hC hCg)
      clear HA3
      go_wp2
      refine wp_region_held_drew (S := fun _ => True) (by kernel_rfl) trivial (fun hHeld => ?_)
      generalize w3.drew = wd at HA4 ⊢
      refine Reg.take (i := 0) (d := 8) (v := ?_) rfl rfl (by kernel_rfl) (by kernel_rfl) (by kernel_rfl) (fun _ _ _ h => h) (by rfl) ?_ hHeld ?_
      rotate_left
      · rintro X hX
        first | (go_simp; done) | (go_simp; with_reducible rfl)
      simp only [Act.put, List.setIfInBounds_toArray, List.set_cons_zero, List.set_cons_succ]
      refine Reg.take (i := 2) (d := 10) (v := ?_) rfl rfl (by kernel_rfl) (by kernel_rfl) (by kernel_rfl) (fun _ _ _ h => h) (by rfl) ?_ hHeld ?_
      rotate_left
      · rintro X hX
        first | (go_simp; done) | (go_simp; with_reducible rfl)
      simp only [Act.put, List.setIfInBounds_toArray, List.set_cons_zero, List.set_cons_succ]
      refine Reg.two (i := 1) (j := 3) rfl rfl (by kernel_rfl) (by rfl) (by rfl) (fun K hK => ?_) (fun K hK => ?_)
      · have c1 := Recs.box_cell HA4.out.box 1
        simp only [List.getElem?_toArray, List.getElem?_cons_succ, List.getElem?_cons_zero] at c1
        go_wp2
        clear c1
        refine hK.out _ _ trivial (fun _ => ?_)
        clear hK K
        refine Reg.call (i := 3) rfl (by kernel_rfl) (by rfl) (fun K hK => ?_)
        go_wp2_with (first | (go_at_call 77; refine (field_q B C _ HA4.out.live).mono ?_; rintro e wa ⟨x, y, rfl, hx, hy, hsd, hl, ho⟩))
        have HAa := Num.hide (HA4.out.step ho hl hC hCg)
        have HSd := Num.hide hsd
        clear hl ho hsd
        refine hK.out _ _ trivial (fun _ => ?_)
        clear hK K
        refine Reg.call (i := 4) rfl (by kernel_rfl) (by rfl) (fun K hK => ?_)
        have HAb := Num.hide (HAa.out.step ((Only.refl C wa).alloc (.cells #[.string x, .string y] 47)) (HAa.out.live.alloc (.cells #[.string x, .string y] 47)) hC hCg)
        go_wp2
        refine hK.out _ _ trivial (fun _ => ?_)
        clear hK K
        refine Reg.call (i := 5) rfl (by kernel_rfl) (by rfl) (fun K hK => ?_)
        have hg5 := HAa.out.lt
        have hlen := HAa.out.few.len
        have hsa := HAa.out.only.size
        refine wp_append_own _ _ _ 30 rfl w.heap.size 47 i0 _ 2 32 Tryz.underlying30 hi0 hzz0 hzz1 hzz2 rfl (by decide) (.slice av l.length cv) l.length (l.flatMap Flds.cells) rfl (World.ownsRow.alloc HAa.out.own _) ⟨wa.heap.size, 0, none⟩ 1 1 [.string x, .string y] rfl rfl (Flds.cells_two wa x y) (Flds.two_ok x y) (by unfold maxLen; omega) (by omega) ?c9 ?_
        case c9 => first | omega | (simp; omega)
        intro v' w6 ho6 hg6 _
        have hC5 : w.heap.size ≤ wa.heap.size := hsa
        have hgr := Recs.grown_trans (World.grownBy_alloc wa (.cells #[.string x, .string y] 47) (Value.slice av l.length cv).ownBlock) hg6
        obtain ⟨hp1, hp2⟩ := Flds.put_more hC5 HAa.out.own (Below.refl w.heap.size wa) ho6 hg6
        have hn2 := own_notS HAa.out.own HAa.out.box
        have hb6 : w6.heap[gq]? = some (.cells #[.int .i64 st, .slice av l.length cv, .string b] 35 (0, 0)) := (hgr.block gq hg5 (fun e => hn2 gq e.symm rfl)).trans HAa.out.box
        have hn3 := own_notS HAa.out.own HAa.out.res
        have hr6 : w6.heap[w.heap.size]? = some zResp := (hgr.block _ (by omega) (fun e => hn3 _ e.symm rfl)).trans HAa.out.res
        have hn6 := own_notS hp1 hb6
        have HR : Hid (R8At B C w gq st v' (l ++ [(x, y)]) b (4 + 1) (w6.setCell ⟨gq, 1, none⟩ v')) :=
          ⟨live_set (HAa.out.live.under hp2 hC) gq 1 _ hCq, only_set (HAa.out.only.of_below hp2) gq 1 _ (by omega), Recs.box_far hr6 _ (by omega), Recs.box_set hb6 1 v', Recs.own_set hp1 gq 1 v' hn6, HAa.out.few.more hx hy, HAa.out.said.more HSd.out⟩
        have k1 := Recs.box_cell hb6 1
        have z1 := Recs.box_thaw hb6 1
        simp only [List.getElem?_toArray, List.getElem?_cons_succ, List.getElem?_cons_zero] at k1
        clear ho6 hg6 hp1 hp2 hb6 hr6 hn6 hn2 hn3 HAa HAb hlen hg5 hgr hC5 hsa
        refine hK.out _ _ trivial (fun _ => ?_)
        clear hK K
        refine Reg.take (i := 6) (d := 14) (v := ?_) rfl rfl (by kernel_rfl) (by kernel_rfl) (by kernel_rfl) (fun _ _ _ h => h) (by rfl) ?_ hHeld ?_
        rotate_left
        · rintro X hX
          first | (go_simp; done) | (go_simp; with_reducible rfl)
        simp only [Act.put, List.setIfInBounds_toArray, List.set_cons_zero, List.set_cons_succ]
        refine Reg.call (i := 7) rfl (by kernel_rfl) (by rfl) (fun K hK => ?_)
        obtain ⟨a6, q6, hv6⟩ := Recs.own_len HR.out.own
        subst hv6
        rw [List.length_append, List.length_singleton] at HR
        go_wp2
        refine hK.out _ _ trivial (fun _ => ?_)
        clear hK K
        refine wpAnyH_done (by kernel_rfl) ?_ _
        clear k1 z1
        go_wp2
        go_meet
        case rel => exact ⟨_, _, HR⟩
      · go_wp2_with (first | (go_at_call 77; refine (field_q B C _ HA4.out.live).mono ?_; rintro e wa ⟨x, y, rfl, hx, hy, hsd, hl, ho⟩))
        have HAa := Num.hide (HA4.out.step ho hl hC hCg)
        have HSd := Num.hide hsd
        clear hl ho hsd
        refine hK.out _ _ trivial (fun _ => ?_)
        clear hK K
        refine Reg.two (i := 1) (j := 4) rfl rfl (by kernel_rfl) (by rfl) (by rfl) (fun K hK => ?_) (fun K hK => ?_)
        · have c1 := Recs.box_cell HAa.out.box 1
          simp only [List.getElem?_toArray, List.getElem?_cons_succ, List.getElem?_cons_zero] at c1
          go_wp2
          clear c1
          refine hK.out _ _ trivial (fun _ => ?_)
          clear hK K
          refine Reg.call (i := 4) rfl (by kernel_rfl) (by rfl) (fun K hK => ?_)
          have HAb := Num.hide (HAa.out.step ((Only.refl C wa).alloc (.cells #[.string x, .string y] 47)) (HAa.out.live.alloc (.cells #[.string x, .string y] 47)) hC hCg)
          go_wp2
          refine hK.out _ _ trivial (fun _ => ?_)
          clear hK K
          refine Reg.call (i := 5) rfl (by kernel_rfl) (by rfl) (fun K hK => ?_)
          have hg5 := HAa.out.lt
          have hlen := HAa.out.few.len
          have hsa := HAa.out.only.size
          refine wp_append_own _ _ _ 30 rfl w.heap.size 47 i0 _ 2 32 Tryz.underlying30 hi0 hzz0 hzz1 hzz2 rfl (by decide) (.slice av l.length cv) l.length (l.flatMap Flds.cells) rfl (World.ownsRow.alloc HAa.out.own _) ⟨wa.heap.size, 0, none⟩ 1 1 [.string x, .string y] rfl rfl (Flds.cells_two wa x y) (Flds.two_ok x y) (by unfold maxLen; omega) (by omega) ?c9 ?_
          case c9 => first | omega | (simp; omega)
          intro v' w6 ho6 hg6 _
          have hC5 : w.heap.size ≤ wa.heap.size := hsa
          have hgr := Recs.grown_trans (World.grownBy_alloc wa (.cells #[.string x, .string y] 47) (Value.slice av l.length cv).ownBlock) hg6
          obtain ⟨hp1, hp2⟩ := Flds.put_more hC5 HAa.out.own (Below.refl w.heap.size wa) ho6 hg6
          have hn2 := own_notS HAa.out.own HAa.out.box
          have hb6 : w6.heap[gq]? = some (.cells #[.int .i64 st, .slice av l.length cv, .string b] 35 (0, 0)) := (hgr.block gq hg5 (fun e => hn2 gq e.symm rfl)).trans HAa.out.box
          have hn3 := own_notS HAa.out.own HAa.out.res
          have hr6 : w6.heap[w.heap.size]? = some zResp := (hgr.block _ (by omega) (fun e => hn3 _ e.symm rfl)).trans HAa.out.res
          have hn6 := own_notS hp1 hb6
          have HR : Hid (R8At B C w gq st v' (l ++ [(x, y)]) b (4 + 1) (w6.setCell ⟨gq, 1, none⟩ v')) :=
            ⟨live_set (HAa.out.live.under hp2 hC) gq 1 _ hCq, only_set (HAa.out.only.of_below hp2) gq 1 _ (by omega), Recs.box_far hr6 _ (by omega), Recs.box_set hb6 1 v', Recs.own_set hp1 gq 1 v' hn6, HAa.out.few.more hx hy, HAa.out.said.more HSd.out⟩
          have k1 := Recs.box_cell hb6 1
          have z1 := Recs.box_thaw hb6 1
          simp only [List.getElem?_toArray, List.getElem?_cons_succ, List.getElem?_cons_zero] at k1
          clear ho6 hg6 hp1 hp2 hb6 hr6 hn6 hn2 hn3 HAa HAb hlen hg5 hgr hC5 hsa
          refine hK.out _ _ trivial (fun _ => ?_)
          clear hK K
          refine Reg.take (i := 6) (d := 14) (v := ?_) rfl rfl (by kernel_rfl) (by kernel_rfl) (by kernel_rfl) (fun _ _ _ h => h) (by rfl) ?_ hHeld ?_
          rotate_left
          · rintro X hX
            first | (go_simp; done) | (go_simp; with_reducible rfl)
          simp only [Act.put, List.setIfInBounds_toArray, List.set_cons_zero, List.set_cons_succ]
          refine Reg.call (i := 7) rfl (by kernel_rfl) (by rfl) (fun K hK => ?_)
          obtain ⟨a6, q6, hv6⟩ := Recs.own_len HR.out.own
          subst hv6
          rw [List.length_append, List.length_singleton] at HR
          go_wp2
          refine hK.out _ _ trivial (fun _ => ?_)
          clear hK K
          refine wpAnyH_done (by kernel_rfl) ?_ _
          clear k1 z1
          go_wp2
          go_meet
          case rel => exact ⟨_, _, HR⟩
        · have HAb := Num.hide (HAa.out.step ((Only.refl C wa).alloc (.cells #[.string x, .string y] 47)) (HAa.out.live.alloc (.cells #[.string x, .string y] 47)) hC hCg)
          go_wp2
          refine hK.out _ _ trivial (fun _ => ?_)
          clear hK K
          refine Reg.call (i := 1) rfl (by kernel_rfl) (by rfl) (fun K hK => ?_)
          have c1 := Recs.box_cell HAb.out.box 1
          simp only [List.getElem?_toArray, List.getElem?_cons_succ, List.getElem?_cons_zero] at c1
          go_wp2
          clear c1
          refine hK.out _ _ trivial (fun _ => ?_)
          clear hK K
          refine Reg.call (i := 5) rfl (by kernel_rfl) (by rfl) (fun K hK => ?_)
          have hg5 := HAa.out.lt
          have hlen := HAa.out.few.len
          have hsa := HAa.out.only.size
          refine wp_append_own _ _ _ 30 rfl w.heap.size 47 i0 _ 2 32 Tryz.underlying30 hi0 hzz0 hzz1 hzz2 rfl (by decide) (.slice av l.length cv) l.length (l.flatMap Flds.cells) rfl (World.ownsRow.alloc HAa.out.own _) ⟨wa.heap.size, 0, none⟩ 1 1 [.string x, .string y] rfl rfl (Flds.cells_two wa x y) (Flds.two_ok x y) (by unfold maxLen; omega) (by omega) ?c9 ?_
          case c9 => first | omega | (simp; omega)
          intro v' w6 ho6 hg6 _
          have hC5 : w.heap.size ≤ wa.heap.size := hsa
          have hgr := Recs.grown_trans (World.grownBy_alloc wa (.cells #[.string x, .string y] 47) (Value.slice av l.length cv).ownBlock) hg6
          obtain ⟨hp1, hp2⟩ := Flds.put_more hC5 HAa.out.own (Below.refl w.heap.size wa) ho6 hg6
          have hn2 := own_notS HAa.out.own HAa.out.box
          have hb6 : w6.heap[gq]? = some (.cells #[.int .i64 st, .slice av l.length cv, .string b] 35 (0, 0)) := (hgr.block gq hg5 (fun e => hn2 gq e.symm rfl)).trans HAa.out.box
          have hn3 := own_notS HAa.out.own HAa.out.res
          have hr6 : w6.heap[w.heap.size]? = some zResp := (hgr.block _ (by omega) (fun e => hn3 _ e.symm rfl)).trans HAa.out.res
          have hn6 := own_notS hp1 hb6
          have HR : Hid (R8At B C w gq st v' (l ++ [(x, y)]) b (4 + 1) (w6.setCell ⟨gq, 1, none⟩ v')) :=
            ⟨live_set (HAa.out.live.under hp2 hC) gq 1 _ hCq, only_set (HAa.out.only.of_below hp2) gq 1 _ (by omega), Recs.box_far hr6 _ (by omega), Recs.box_set hb6 1 v', Recs.own_set hp1 gq 1 v' hn6, HAa.out.few.more hx hy, HAa.out.said.more HSd.out⟩
          have k1 := Recs.box_cell hb6 1
          have z1 := Recs.box_thaw hb6 1
          simp only [List.getElem?_toArray, List.getElem?_cons_succ, List.getElem?_cons_zero] at k1
          clear ho6 hg6 hp1 hp2 hb6 hr6 hn6 hn2 hn3 HAa HAb hlen hg5 hgr hC5 hsa
          refine hK.out _ _ trivial (fun _ => ?_)
          clear hK K
          refine Reg.take (i := 6) (d := 14) (v := ?_) rfl rfl (by kernel_rfl) (by kernel_rfl) (by kernel_rfl) (fun _ _ _ h => h) (by rfl) ?_ hHeld ?_
          rotate_left
          · rintro X hX
            first | (go_simp; done) | (go_simp; with_reducible rfl)
          simp only [Act.put, List.setIfInBounds_toArray, List.set_cons_zero, List.set_cons_succ]
          refine Reg.call (i := 7) rfl (by kernel_rfl) (by rfl) (fun K hK => ?_)
          obtain ⟨a6, q6, hv6⟩ := Recs.own_len HR.out.own
          subst hv6
          rw [List.length_append, List.length_singleton] at HR
          go_wp2
          refine hK.out _ _ trivial (fun _ => ?_)
          clear hK K
          refine wpAnyH_done (by kernel_rfl) ?_ _
          clear k1 z1
          go_wp2
          go_meet
          case rel => exact ⟨_, _, HR⟩
  case rest =>
  clear HA3
  obtain ⟨v, l, HA⟩ := hcut
  obtain ⟨av, cv, hvv⟩ := Recs.own_len HA.out.own
  subst hvv
  go_wp2_with fail
  refine (once_live B C 2 _ HA.out.live (by omega)).mono ?_
  rintro e w3 ⟨t, rfl, hl, ho⟩
  have HA3 := Num.hide (HA.out.step ho hl hC hCg)
  clear hl ho HA
  go_upto_if 16 with fail
  go_cut [] from 4 (fun wx => ∃ (v : Value) (l : List Flds.Fld), Hid (R8At B C w gq st v l b (5 + 1) wx))
  case first =>
    cases t with
    | false =>
      have HA4 := Num.hide (HA3.out.more (by omega : 4 + 1 ≤ 5 + 1))
      go_wp2
      go_meet
      case rel => exact ⟨_, _, HA4⟩
    | true =>
      have HA4 := Num.hide (HA3.out.step (Only.refl C w3).drew (HA3.out.live.below (Below.refl _ _).drew) hC hCg)
      clear HA3
      go_wp2
      refine wp_region_held_drew (S := fun _ => True) (by kernel_rfl) trivial (fun hHeld => ?_)
      generalize w3.drew = wd at HA4 ⊢
      refine Reg.take (i := 0) (d := 17) (v := ?_) rfl rfl (by kernel_rfl) (by kernel_rfl) (by kernel_rfl) (fun _ _ _ h => h) (by rfl) ?_ hHeld ?_
      rotate_left
      · rintro X hX
        first | (go_simp; done) | (go_simp; with_reducible rfl)
      simp only [Act.put, List.setIfInBounds_toArray, List.set_cons_zero, List.set_cons_succ]
      refine Reg.take (i := 2) (d := 19) (v := ?_) rfl rfl (by kernel_rfl) (by kernel_rfl) (by kernel_rfl) (fun _ _ _ h => h) (by rfl) ?_ hHeld ?_
      rotate_left
      · rintro X hX
        first | (go_simp; done) | (go_simp; with_reducible rfl)
      simp only [Act.put, List.setIfInBounds_toArray, List.set_cons_zero, List.set_cons_succ]
      refine Reg.take (i := 5) (d := 22) (v := ?_) rfl rfl (by kernel_rfl) (by kernel_rfl) (by kernel_rfl) (fun _ _ _ h => h) (by rfl) ?_ hHeld ?_
      rotate_left
      · rintro X hX
        first | (go_simp; done) | (go_simp; with_reducible rfl)
      simp only [Act.put, List.setIfInBounds_toArray, List.set_cons_zero, List.set_cons_succ]
      refine Reg.two (i := 1) (j := 3) rfl rfl (by kernel_rfl) (by rfl) (by rfl) (fun K hK => ?_) (fun K hK => ?_)
      · have c1 := Recs.box_cell HA4.out.box 1
        simp only [List.getElem?_toArray, List.getElem?_cons_succ, List.getElem?_cons_zero] at c1
        go_wp2
        clear c1
        refine hK.out _ _ trivial (fun _ => ?_)
        clear hK K
        refine Reg.call (i := 3) rfl (by kernel_rfl) (by rfl) (fun K hK => ?_)
        have HAm := Num.hide (HA4.out.step ((Only.refl C wd).alloc (.cells #[.string ⟨#[100, 97, 116, 101]⟩, .string ⟨#[101, 120, 112, 105, 114, 101, 115]⟩, .string ⟨#[108, 97, 115, 116, 45, 109, 111, 100, 105, 102, 105, 101, 100]⟩] 9)) (HA4.out.live.alloc (.cells #[.string ⟨#[100, 97, 116, 101]⟩, .string ⟨#[101, 120, 112, 105, 114, 101, 115]⟩, .string ⟨#[108, 97, 115, 116, 45, 109, 111, 100, 105, 102, 105, 101, 100]⟩] 9)) hC hCg)
        go_wp2
        refine hK.out _ _ trivial (fun _ => ?_)
        clear hK K
        refine Reg.call (i := 4) rfl (by kernel_rfl) (by rfl) (fun K hK => ?_)
        go_wp2_with (first | (go_at_call 75; refine (pick_q (oneOf dateNames) B C wd.heap.size _ 3 _ (HA4.out.live.alloc _) (by have := HA4.out.live.lt; omega) (heap_alloc_new wd _) rfl (by omega) (by omega) (by kernel_rfl)).mono ?_; rintro e wp ⟨x, rfl, hx, hq, hl, ho⟩))
        have HAp := Num.hide (HAm.out.step ho hl hC hCg)
        have HSx := Num.hide hq
        clear hl ho hq
        refine hK.out _ _ trivial (fun _ => ?_)
        clear hK K
        refine Reg.call (i := 6) rfl (by kernel_rfl) (by rfl) (fun K hK => ?_)
        go_wp2_with (first | (go_at_call 39; refine (below_live B C 90 _ HAp.out.live (by omega) (by omega)).mono ?_; rintro e wq ⟨z, rfl, hz0, hz1, hl, ho⟩))
        have HAq := Num.hide (HAp.out.step ho hl hC hCg)
        clear hl ho
        refine hK.out _ _ trivial (fun _ => ?_)
        clear hK K
        refine Reg.call (i := 7) rfl (by kernel_rfl) (by rfl) (fun K hK => ?_)
        have hy := date_small z hz0 hz1
        have HSd := Num.hide (Drawn.date (x := x) HSx.out hz0 hz1)
        have HDt := Num.hide (fun W => Date.date_spec z W)
        generalize Date.shown z = y at hy HDt HSd
        clear HSx
        go_wp2_with (first | (go_at_call 81; refine (HDt.out _).mono ?_; rintro e wa ⟨rfl, hbd⟩))
        have HAa := Num.hide (HAq.out.step ((Only.refl C wq).of_below hbd) (HAq.out.live.below hbd) hC hCg)
        clear hbd
        refine hK.out _ _ trivial (fun _ => ?_)
        clear hK K
        refine Reg.take (i := 8) (d := 25) (v := ?_) rfl rfl (by kernel_rfl) (by kernel_rfl) (by kernel_rfl) (fun _ _ _ h => h) (by rfl) ?_ hHeld ?_
        rotate_left
        · rintro X hX
          first | (go_simp; done) | (go_simp; with_reducible rfl)
        simp only [Act.put, List.setIfInBounds_toArray, List.set_cons_zero, List.set_cons_succ]
        refine Reg.call (i := 9) rfl (by kernel_rfl) (by rfl) (fun K hK => ?_)
        have HAb := Num.hide (HAa.out.step ((Only.refl C wa).alloc (.cells #[.string x, .string y] 47)) (HAa.out.live.alloc (.cells #[.string x, .string y] 47)) hC hCg)
        go_wp2
        refine hK.out _ _ trivial (fun _ => ?_)
        clear hK K
        refine Reg.call (i := 10) rfl (by kernel_rfl) (by rfl) (fun K hK => ?_)
        have hg5 := HAa.out.lt
        have hlen := HAa.out.few.len
        have hsa := HAa.out.only.size
        refine wp_append_own _ _ _ 30 rfl w.heap.size 47 i0 _ 2 32 Tryz.underlying30 hi0 hzz0 hzz1 hzz2 rfl (by decide) (.slice av l.length cv) l.length (l.flatMap Flds.cells) rfl (World.ownsRow.alloc HAa.out.own _) ⟨wa.heap.size, 0, none⟩ 1 1 [.string x, .string y] rfl rfl (Flds.cells_two wa x y) (Flds.two_ok x y) (by unfold maxLen; omega) (by omega) ?c9 ?_
        case c9 => first | omega | (simp; omega)
        intro v' w6 ho6 hg6 _
        have hC5 : w.heap.size ≤ wa.heap.size := hsa
        have hgr := Recs.grown_trans (World.grownBy_alloc wa (.cells #[.string x, .string y] 47) (Value.slice av l.length cv).ownBlock) hg6
        obtain ⟨hp1, hp2⟩ := Flds.put_more hC5 HAa.out.own (Below.refl w.heap.size wa) ho6 hg6
        have hn2 := own_notS HAa.out.own HAa.out.box
        have hb6 : w6.heap[gq]? = some (.cells #[.int .i64 st, .slice av l.length cv, .string b] 35 (0, 0)) := (hgr.block gq hg5 (fun e => hn2 gq e.symm rfl)).trans HAa.out.box
        have hn3 := own_notS HAa.out.own HAa.out.res
        have hr6 : w6.heap[w.heap.size]? = some zResp := (hgr.block _ (by omega) (fun e => hn3 _ e.symm rfl)).trans HAa.out.res
        have hn6 := own_notS hp1 hb6
        have HR : Hid (R8At B C w gq st v' (l ++ [(x, y)]) b ((4 + 1) + 1) (w6.setCell ⟨gq, 1, none⟩ v')) :=
          ⟨live_set (HAa.out.live.under hp2 hC) gq 1 _ hCq, only_set (HAa.out.only.of_below hp2) gq 1 _ (by omega), Recs.box_far hr6 _ (by omega), Recs.box_set hb6 1 v', Recs.own_set hp1 gq 1 v' hn6, HAa.out.few.more hx hy, HAa.out.said.more HSd.out⟩
        have k1 := Recs.box_cell hb6 1
        have z1 := Recs.box_thaw hb6 1
        simp only [List.getElem?_toArray, List.getElem?_cons_succ, List.getElem?_cons_zero] at k1
        clear ho6 hg6 hp1 hp2 hb6 hr6 hn6 hn2 hn3 HAa HAb hlen hg5 hgr hC5 hsa
        refine hK.out _ _ trivial (fun _ => ?_)
        clear hK K
        refine Reg.take (i := 11) (d := 28) (v := ?_) rfl rfl (by kernel_rfl) (by kernel_rfl) (by kernel_rfl) (fun _ _ _ h => h) (by rfl) ?_ hHeld ?_
        rotate_left
        · rintro X hX
          first | (go_simp; done) | (go_simp; with_reducible rfl)
        simp only [Act.put, List.setIfInBounds_toArray, List.set_cons_zero, List.set_cons_succ]
        refine Reg.call (i := 12) rfl (by kernel_rfl) (by rfl) (fun K hK => ?_)
        obtain ⟨a6, q6, hv6⟩ := Recs.own_len HR.out.own
        subst hv6
        rw [List.length_append, List.length_singleton] at HR
        go_wp2
        refine hK.out _ _ trivial (fun _ => ?_)
        clear hK K
        refine wpAnyH_done (by kernel_rfl) ?_ _
        clear k1 z1
        go_wp2
        go_meet
        case rel => exact ⟨_, _, HR⟩
      · have HAm := Num.hide (HA4.out.step ((Only.refl C wd).alloc (.cells #[.string ⟨#[100, 97, 116, 101]⟩, .string ⟨#[101, 120, 112, 105, 114, 101, 115]⟩, .string ⟨#[108, 97, 115, 116, 45, 109, 111, 100, 105, 102, 105, 101, 100]⟩] 9)) (HA4.out.live.alloc (.cells #[.string ⟨#[100, 97, 116, 101]⟩, .string ⟨#[101, 120, 112, 105, 114, 101, 115]⟩, .string ⟨#[108, 97, 115, 116, 45, 109, 111, 100, 105, 102, 105, 101, 100]⟩] 9)) hC hCg)
        go_wp2
        refine hK.out _ _ trivial (fun _ => ?_)
        clear hK K
        refine Reg.two (i := 1) (j := 4) rfl rfl (by kernel_rfl) (by rfl) (by rfl) (fun K hK => ?_) (fun K hK => ?_)
        · have c1 := Recs.box_cell HAm.out.box 1
          simp only [List.getElem?_toArray, List.getElem?_cons_succ, List.getElem?_cons_zero] at c1
          go_wp2
          clear c1
          refine hK.out _ _ trivial (fun _ => ?_)
          clear hK K
          refine Reg.call (i := 4) rfl (by kernel_rfl) (by rfl) (fun K hK => ?_)
          go_wp2_with (first | (go_at_call 75; refine (pick_q (oneOf dateNames) B C wd.heap.size _ 3 _ (HA4.out.live.alloc _) (by have := HA4.out.live.lt; omega) (heap_alloc_new wd _) rfl (by omega) (by omega) (by kernel_rfl)).mono ?_; rintro e wp ⟨x, rfl, hx, hq, hl, ho⟩))
          have HAp := Num.hide (HAm.out.step ho hl hC hCg)
          have HSx := Num.hide hq
          clear hl ho hq
          refine hK.out _ _ trivial (fun _ => ?_)
          clear hK K
          refine Reg.call (i := 6) rfl (by kernel_rfl) (by rfl) (fun K hK => ?_)
          go_wp2_with (first | (go_at_call 39; refine (below_live B C 90 _ HAp.out.live (by omega) (by omega)).mono ?_; rintro e wq ⟨z, rfl, hz0, hz1, hl, ho⟩))
          have HAq := Num.hide (HAp.out.step ho hl hC hCg)
          clear hl ho
          refine hK.out _ _ trivial (fun _ => ?_)
          clear hK K
          refine Reg.call (i := 7) rfl (by kernel_rfl) (by rfl) (fun K hK => ?_)
          have hy := date_small z hz0 hz1
          have HSd := Num.hide (Drawn.date (x := x) HSx.out hz0 hz1)
          have HDt := Num.hide (fun W => Date.date_spec z W)
          generalize Date.shown z = y at hy HDt HSd
          clear HSx
          go_wp2_with (first | (go_at_call 81; refine (HDt.out _).mono ?_; rintro e wa ⟨rfl, hbd⟩))
          have HAa := Num.hide (HAq.out.step ((Only.refl C wq).of_below hbd) (HAq.out.live.below hbd) hC hCg)
          clear hbd
          refine hK.out _ _ trivial (fun _ => ?_)
          clear hK K
          refine Reg.take (i := 8) (d := 25) (v := ?_) rfl rfl (by kernel_rfl) (by kernel_rfl) (by kernel_rfl) (fun _ _ _ h => h) (by rfl) ?_ hHeld ?_
          rotate_left
          · rintro X hX
            first | (go_simp; done) | (go_simp; with_reducible rfl)
          simp only [Act.put, List.setIfInBounds_toArray, List.set_cons_zero, List.set_cons_succ]
          refine Reg.call (i := 9) rfl (by kernel_rfl) (by rfl) (fun K hK => ?_)
          have HAb := Num.hide (HAa.out.step ((Only.refl C wa).alloc (.cells #[.string x, .string y] 47)) (HAa.out.live.alloc (.cells #[.string x, .string y] 47)) hC hCg)
          go_wp2
          refine hK.out _ _ trivial (fun _ => ?_)
          clear hK K
          refine Reg.call (i := 10) rfl (by kernel_rfl) (by rfl) (fun K hK => ?_)
          have hg5 := HAa.out.lt
          have hlen := HAa.out.few.len
          have hsa := HAa.out.only.size
          refine wp_append_own _ _ _ 30 rfl w.heap.size 47 i0 _ 2 32 Tryz.underlying30 hi0 hzz0 hzz1 hzz2 rfl (by decide) (.slice av l.length cv) l.length (l.flatMap Flds.cells) rfl (World.ownsRow.alloc HAa.out.own _) ⟨wa.heap.size, 0, none⟩ 1 1 [.string x, .string y] rfl rfl (Flds.cells_two wa x y) (Flds.two_ok x y) (by unfold maxLen; omega) (by omega) ?c9 ?_
          case c9 => first | omega | (simp; omega)
          intro v' w6 ho6 hg6 _
          have hC5 : w.heap.size ≤ wa.heap.size := hsa
          have hgr := Recs.grown_trans (World.grownBy_alloc wa (.cells #[.string x, .string y] 47) (Value.slice av l.length cv).ownBlock) hg6
          obtain ⟨hp1, hp2⟩ := Flds.put_more hC5 HAa.out.own (Below.refl w.heap.size wa) ho6 hg6
          have hn2 := own_notS HAa.out.own HAa.out.box
          have hb6 : w6.heap[gq]? = some (.cells #[.int .i64 st, .slice av l.length cv, .string b] 35 (0, 0)) := (hgr.block gq hg5 (fun e => hn2 gq e.symm rfl)).trans HAa.out.box
          have hn3 := own_notS HAa.out.own HAa.out.res
          have hr6 : w6.heap[w.heap.size]? = some zResp := (hgr.block _ (by omega) (fun e => hn3 _ e.symm rfl)).trans HAa.out.res
          have hn6 := own_notS hp1 hb6
          have HR : Hid (R8At B C w gq st v' (l ++ [(x, y)]) b ((4 + 1) + 1) (w6.setCell ⟨gq, 1, none⟩ v')) :=
            ⟨live_set (HAa.out.live.under hp2 hC) gq 1 _ hCq, only_set (HAa.out.only.of_below hp2) gq 1 _ (by omega), Recs.box_far hr6 _ (by omega), Recs.box_set hb6 1 v', Recs.own_set hp1 gq 1 v' hn6, HAa.out.few.more hx hy, HAa.out.said.more HSd.out⟩
          have k1 := Recs.box_cell hb6 1
          have z1 := Recs.box_thaw hb6 1
          simp only [List.getElem?_toArray, List.getElem?_cons_succ, List.getElem?_cons_zero] at k1
          clear ho6 hg6 hp1 hp2 hb6 hr6 hn6 hn2 hn3 HAa HAb hlen hg5 hgr hC5 hsa
          refine hK.out _ _ trivial (fun _ => ?_)
          clear hK K
          refine Reg.take (i := 11) (d := 28) (v := ?_) rfl rfl (by kernel_rfl) (by kernel_rfl) (by kernel_rfl) (fun _ _ _ h => h) (by rfl) ?_ hHeld ?_
          rotate_left
          · rintro X hX
            first | (go_simp; done) | (go_simp; with_reducible rfl)
          simp only [Act.put, List.setIfInBounds_toArray, List.set_cons_zero, List.set_cons_succ]
          refine Reg.call (i := 12) rfl (by kernel_rfl) (by rfl) (fun K hK => ?_)
          obtain ⟨a6, q6, hv6⟩ := Recs.own_len HR.out.own
          subst hv6
          rw [List.length_append, List.length_singleton] at HR
          go_wp2
          refine hK.out _ _ trivial (fun _ => ?_)
          clear hK K
          refine wpAnyH_done (by kernel_rfl) ?_ _
          clear k1 z1
          go_wp2
          go_meet
          case rel => exact ⟨_, _, HR⟩
        · go_wp2_with (first | (go_at_call 75; refine (pick_q (oneOf dateNames) B C wd.heap.size _ 3 _ (HA4.out.live.alloc _) (by have := HA4.out.live.lt; omega) (heap_alloc_new wd _) rfl (by omega) (by omega) (by kernel_rfl)).mono ?_; rintro e wp ⟨x, rfl, hx, hq, hl, ho⟩))
          have HAp := Num.hide (HAm.out.step ho hl hC hCg)
          have HSx := Num.hide hq
          clear hl ho hq
          refine hK.out _ _ trivial (fun _ => ?_)
          clear hK K
          refine Reg.two (i := 1) (j := 6) rfl rfl (by kernel_rfl) (by rfl) (by rfl) (fun K hK => ?_) (fun K hK => ?_)
          · have c1 := Recs.box_cell HAp.out.box 1
            simp only [List.getElem?_toArray, List.getElem?_cons_succ, List.getElem?_cons_zero] at c1
            go_wp2
            clear c1
            refine hK.out _ _ trivial (fun _ => ?_)
            clear hK K
            refine Reg.call (i := 6) rfl (by kernel_rfl) (by rfl) (fun K hK => ?_)
            go_wp2_with (first | (go_at_call 39; refine (below_live B C 90 _ HAp.out.live (by omega) (by omega)).mono ?_; rintro e wq ⟨z, rfl, hz0, hz1, hl, ho⟩))
            have HAq := Num.hide (HAp.out.step ho hl hC hCg)
            clear hl ho
            refine hK.out _ _ trivial (fun _ => ?_)
            clear hK K
            refine Reg.call (i := 7) rfl (by kernel_rfl) (by rfl) (fun K hK => ?_)
            have hy := date_small z hz0 hz1
            have HSd := Num.hide (Drawn.date (x := x) HSx.out hz0 hz1)
            have HDt := Num.hide (fun W => Date.date_spec z W)
            generalize Date.shown z = y at hy HDt HSd
            clear HSx
            go_wp2_with (first | (go_at_call 81; refine (HDt.out _).mono ?_; rintro e wa ⟨rfl, hbd⟩))
            have HAa := Num.hide (HAq.out.step ((Only.refl C wq).of_below hbd) (HAq.out.live.below hbd) hC hCg)
            clear hbd
            refine hK.out _ _ trivial (fun _ => ?_)
            clear hK K
            refine Reg.take (i := 8) (d := 25) (v := ?_) rfl rfl (by kernel_rfl) (by kernel_rfl) (by kernel_rfl) (fun _ _ _ h => h) (by rfl) ?_ hHeld ?_
            rotate_left
            · rintro X hX
              first | (go_simp; done) | (go_simp; with_reducible rfl)
            simp only [Act.put, List.setIfInBounds_toArray, List.set_cons_zero, List.set_cons_succ]
            refine Reg.call (i := 9) rfl (by kernel_rfl) (by rfl) (fun K hK => ?_)
            have HAb := Num.hide (HAa.out.step ((Only.refl C wa).alloc (.cells #[.string x, .string y] 47)) (HAa.out.live.alloc (.cells #[.string x, .string y] 47)) hC hCg)
            go_wp2
            refine hK.out _ _ trivial (fun _ => ?_)
            clear hK K
            refine Reg.call (i := 10) rfl (by kernel_rfl) (by rfl) (fun K hK => ?_)
            have hg5 := HAa.out.lt
            have hlen := HAa.out.few.len
            have hsa := HAa.out.only.size
            refine wp_append_own _ _ _ 30 rfl w.heap.size 47 i0 _ 2 32 Tryz.underlying30 hi0 hzz0 hzz1 hzz2 rfl (by decide) (.slice av l.length cv) l.length (l.flatMap Flds.cells) rfl (World.ownsRow.alloc HAa.out.own _) ⟨wa.heap.size, 0, none⟩ 1 1 [.string x, .string y] rfl rfl (Flds.cells_two wa x y) (Flds.two_ok x y) (by unfold maxLen; omega) (by omega) ?c9 ?_
            case c9 => first | omega | (simp; omega)
            intro v' w6 ho6 hg6 _
            have hC5 : w.heap.size ≤ wa.heap.size := hsa
            have hgr := Recs.grown_trans (World.grownBy_alloc wa (.cells #[.string x, .string y] 47) (Value.slice av l.length cv).ownBlock) hg6
            obtain ⟨hp1, hp2⟩ := Flds.put_more hC5 HAa.out.own (Below.refl w.heap.size wa) ho6 hg6
            have hn2 := own_notS HAa.out.own HAa.out.box
            have hb6 : w6.heap[gq]? = some (.cells #[.int .i64 st, .slice av l.length cv, .string b] 35 (0, 0)) := (hgr.block gq hg5 (fun e => hn2 gq e.symm rfl)).trans HAa.out.box
            have hn3 := own_notS HAa.out.own HAa.out.res
            have hr6 : w6.heap[w.heap.size]? = some zResp := (hgr.block _ (by omega) (fun e => hn3 _ e.symm rfl)).trans HAa.out.res
            have hn6 := own_notS hp1 hb6
            have HR : Hid (R8At B C w gq st v' (l ++ [(x, y)]) b ((4 + 1) + 1) (w6.setCell ⟨gq, 1, none⟩ v')) :=
              ⟨live_set (HAa.out.live.under hp2 hC) gq 1 _ hCq, only_set (HAa.out.only.of_below hp2) gq 1 _ (by omega), Recs.box_far hr6 _ (by omega), Recs.box_set hb6 1 v', Recs.own_set hp1 gq 1 v' hn6, HAa.out.few.more hx hy, HAa.out.said.more HSd.out⟩
            have k1 := Recs.box_cell hb6 1
            have z1 := Recs.box_thaw hb6 1
            simp only [List.getElem?_toArray, List.getElem?_cons_succ, List.getElem?_cons_zero] at k1
            clear ho6 hg6 hp1 hp2 hb6 hr6 hn6 hn2 hn3 HAa HAb hlen hg5 hgr hC5 hsa
            refine hK.out _ _ trivial (fun _ => ?_)
            clear hK K
            refine Reg.take (i := 11) (d := 28) (v := ?_) rfl rfl (by kernel_rfl) (by kernel_rfl) (by kernel_rfl) (fun _ _ _ h => h) (by rfl) ?_ hHeld ?_
            rotate_left
            · rintro X hX
              first | (go_simp; done) | (go_simp; with_reducible rfl)
            simp only [Act.put, List.setIfInBounds_toArray, List.set_cons_zero, List.set_cons_succ]
            refine Reg.call (i := 12) rfl (by kernel_rfl) (by rfl) (fun K hK => ?_)
            obtain ⟨a6, q6, hv6⟩ := Recs.own_len HR.out.own
            subst hv6
            rw [List.length_append, List.length_singleton] at HR
            go_wp2
            refine hK.out _ _ trivial (fun _ => ?_)
            clear hK K
            refine wpAnyH_done (by kernel_rfl) ?_ _
            clear k1 z1
            go_wp2
            go_meet
            case rel => exact ⟨_, _, HR⟩
          · go_wp2_with (first | (go_at_call 39; refine (below_live B C 90 _ HAp.out.live (by omega) (by omega)).mono ?_; rintro e wq ⟨z, rfl, hz0, hz1, hl, ho⟩))
            have HAq := Num.hide (HAp.out.step ho hl hC hCg)
            clear hl ho
            refine hK.out _ _ trivial (fun _ => ?_)
            clear hK K
            refine Reg.two (i := 1) (j := 7) rfl rfl (by kernel_rfl) (by rfl) (by rfl) (fun K hK => ?_) (fun K hK => ?_)
            · have c1 := Recs.box_cell HAq.out.box 1
              simp only [List.getElem?_toArray, List.getElem?_cons_succ, List.getElem?_cons_zero] at c1
              go_wp2
              clear c1
              refine hK.out _ _ trivial (fun _ => ?_)
              clear hK K
              refine Reg.call (i := 7) rfl (by kernel_rfl) (by rfl) (fun K hK => ?_)
              have hy := date_small z hz0 hz1
              have HSd := Num.hide (Drawn.date (x := x) HSx.out hz0 hz1)
              have HDt := Num.hide (fun W => Date.date_spec z W)
              generalize Date.shown z = y at hy HDt HSd
              clear HSx
              go_wp2_with (first | (go_at_call 81; refine (HDt.out _).mono ?_; rintro e wa ⟨rfl, hbd⟩))
              have HAa := Num.hide (HAq.out.step ((Only.refl C wq).of_below hbd) (HAq.out.live.below hbd) hC hCg)
              clear hbd
              refine hK.out _ _ trivial (fun _ => ?_)
              clear hK K
              refine Reg.take (i := 8) (d := 25) (v := ?_) rfl rfl (by kernel_rfl) (by kernel_rfl) (by kernel_rfl) (fun _ _ _ h => h) (by rfl) ?_ hHeld ?_
              rotate_left
              · rintro X hX
                first | (go_simp; done) | (go_simp; with_reducible rfl)
              simp only [Act.put, List.setIfInBounds_toArray, List.set_cons_zero, List.set_cons_succ]
              refine Reg.call (i := 9) rfl (by kernel_rfl) (by rfl) (fun K hK => ?_)
              have HAb := Num.hide (HAa.out.step ((Only.refl C wa).alloc (.cells #[.string x, .string y] 47)) (HAa.out.live.alloc (.cells #[.string x, .string y] 47)) hC hCg)
              go_wp2
              refine hK.out _ _ trivial (fun _ => ?_)
              clear hK K
              refine Reg.call (i := 10) rfl (by kernel_rfl) (by rfl) (fun K hK => ?_)
              have hg5 := HAa.out.lt
              have hlen := HAa.out.few.len
              have hsa := HAa.out.only.size
              refine wp_append_own _ _ _ 30 rfl w.heap.size 47 i0 _ 2 32 Tryz.underlying30 hi0 hzz0 hzz1 hzz2 rfl (by decide) (.slice av l.length cv) l.length (l.flatMap Flds.cells) rfl (World.ownsRow.alloc HAa.out.own _) ⟨wa.heap.size, 0, none⟩ 1 1 [.string x, .string y] rfl rfl (Flds.cells_two wa x y) (Flds.two_ok x y) (by unfold maxLen; omega) (by omega) ?c9 ?_
              case c9 => first | omega | (simp; omega)
              intro v' w6 ho6 hg6 _
              have hC5 : w.heap.size ≤ wa.heap.size := hsa
              have hgr := Recs.grown_trans (World.grownBy_alloc wa (.cells #[.string x, .string y] 47) (Value.slice av l.length cv).ownBlock) hg6
              obtain ⟨hp1, hp2⟩ := Flds.put_more hC5 HAa.out.own (Below.refl w.heap.size wa) ho6 hg6
              have hn2 := own_notS HAa.out.own HAa.out.box
              have hb6 : w6.heap[gq]? = some (.cells #[.int .i64 st, .slice av l.length cv, .string b] 35 (0, 0)) := (hgr.block gq hg5 (fun e => hn2 gq e.symm rfl)).trans HAa.out.box
              have hn3 := own_notS HAa.out.own HAa.out.res
              have hr6 : w6.heap[w.heap.size]? = some zResp := (hgr.block _ (by omega) (fun e => hn3 _ e.symm rfl)).trans HAa.out.res
              have hn6 := own_notS hp1 hb6
              have HR : Hid (R8At B C w gq st v' (l ++ [(x, y)]) b ((4 + 1) + 1) (w6.setCell ⟨gq, 1, none⟩ v')) :=
                ⟨live_set (HAa.out.live.under hp2 hC) gq 1 _ hCq, only_set (HAa.out.only.of_below hp2) gq 1 _ (by omega), Recs.box_far hr6 _ (by omega), Recs.box_set hb6 1 v', Recs.own_set hp1 gq 1 v' hn6, HAa.out.few.more hx hy, HAa.out.said.more HSd.out⟩
              have k1 := Recs.box_cell hb6 1
              have z1 := Recs.box_thaw hb6 1
              simp only [List.getElem?_toArray, List.getElem?_cons_succ, List.getElem?_cons_zero] at k1
              clear ho6 hg6 hp1 hp2 hb6 hr6 hn6 hn2 hn3 HAa HAb hlen hg5 hgr hC5 hsa
              refine hK.out _ _ trivial (fun _ => ?_)
              clear hK K
              refine Reg.take (i := 11) (d := 28) (v := ?_) rfl rfl (by kernel_rfl) (by kernel_rfl) (by kernel_rfl) (fun _ _ _ h => h) (by rfl) ?_ hHeld ?_
              rotate_left
              · rintro X hX
                first | (go_simp; done) | (go_simp; with_reducible rfl)
              simp only [Act.put, List.setIfInBounds_toArray, List.set_cons_zero, List.set_cons_succ]
              refine Reg.call (i := 12) rfl (by kernel_rfl) (by rfl) (fun K hK => ?_)
              obtain ⟨a6, q6, hv6⟩ := Recs.own_len HR.out.own
              subst hv6
              rw [List.length_append, List.length_singleton] at HR
              go_wp2
              refine hK.out _ _ trivial (fun _ => ?_)
              clear hK K
              refine wpAnyH_done (by kernel_rfl) ?_ _
              clear k1 z1
              go_wp2
              go_meet
              case rel => exact ⟨_, _, HR⟩
            · have hy := date_small z hz0 hz1
              have HSd := Num.hide (Drawn.date (x := x) HSx.out hz0 hz1)
              have HDt := Num.hide (fun W => Date.date_spec z W)
              generalize Date.shown z = y at hy HDt HSd
              clear HSx
              go_wp2_with (first | (go_at_call 81; refine (HDt.out _).mono ?_; rintro e wa ⟨rfl, hbd⟩))
              have HAa := Num.hide (HAq.out.step ((Only.refl C wq).of_below hbd) (HAq.out.live.below hbd) hC hCg)
              clear hbd
              refine hK.out _ _ trivial (fun _ => ?_)
              clear hK K
              refine Reg.take (i := 8) (d := 25) (v := ?_) rfl rfl (by kernel_rfl) (by kernel_rfl) (by kernel_rfl) (fun _ _ _ h => h) (by rfl) ?_ hHeld ?_
              rotate_left
              · rintro X hX
                first | (go_simp; done) | (go_simp; with_reducible rfl)
              simp only [Act.put, List.setIfInBounds_toArray, List.set_cons_zero, List.set_cons_succ]
              refine Reg.two (i := 1) (j := 9) rfl rfl (by kernel_rfl) (by rfl) (by rfl) (fun K hK => ?_) (fun K hK => ?_)
              · have c1 := Recs.box_cell HAa.out.box 1
                simp only [List.getElem?_toArray, List.getElem?_cons_succ, List.getElem?_cons_zero] at c1
                go_wp2
                clear c1
                refine hK.out _ _ trivial (fun _ => ?_)
                clear hK K
                refine Reg.call (i := 9) rfl (by kernel_rfl) (by rfl) (fun K hK => ?_)
                have HAb := Num.hide (HAa.out.step ((Only.refl C wa).alloc (.cells #[.string x, .string y] 47)) (HAa.out.live.alloc (.cells #[.string x, .string y] 47)) hC hCg)
                go_wp2
                refine hK.out _ _ trivial (fun _ => ?_)
                clear hK K
                refine Reg.call (i := 10) rfl (by kernel_rfl) (by rfl) (fun K hK => ?_)
                have hg5 := HAa.out.lt
                have hlen := HAa.out.few.len
                have hsa := HAa.out.only.size
                refine wp_append_own _ _ _ 30 rfl w.heap.size 47 i0 _ 2 32 Tryz.underlying30 hi0 hzz0 hzz1 hzz2 rfl (by decide) (.slice av l.length cv) l.length (l.flatMap Flds.cells) rfl (World.ownsRow.alloc HAa.out.own _) ⟨wa.heap.size, 0, none⟩ 1 1 [.string x, .string y] rfl rfl (Flds.cells_two wa x y) (Flds.two_ok x y) (by unfold maxLen; omega) (by omega) ?c9 ?_
                case c9 => first | omega | (simp; omega)
                intro v' w6 ho6 hg6 _
                have hC5 : w.heap.size ≤ wa.heap.size := hsa
                have hgr := Recs.grown_trans (World.grownBy_alloc wa (.cells #[.string x, .string y] 47) (Value.slice av l.length cv).ownBlock) hg6
                obtain ⟨hp1, hp2⟩ := Flds.put_more hC5 HAa.out.own (Below.refl w.heap.size wa) ho6 hg6
                have hn2 := own_notS HAa.out.own HAa.out.box
                have hb6 : w6.heap[gq]? = some (.cells #[.int .i64 st, .slice av l.length cv, .string b] 35 (0, 0)) := (hgr.block gq hg5 (fun e => hn2 gq e.symm rfl)).trans HAa.out.box
                have hn3 := own_notS HAa.out.own HAa.out.res
                have hr6 : w6.heap[w.heap.size]? = some zResp := (hgr.block _ (by omega) (fun e => hn3 _ e.symm rfl)).trans HAa.out.res
                have hn6 := own_notS hp1 hb6
                have HR : Hid (R8At B C w gq st v' (l ++ [(x, y)]) b ((4 + 1) + 1) (w6.setCell ⟨gq, 1, none⟩ v')) :=
                  ⟨live_set (HAa.out.live.under hp2 hC) gq 1 _ hCq, only_set (HAa.out.only.of_below hp2) gq 1 _ (by omega), Recs.box_far hr6 _ (by omega), Recs.box_set hb6 1 v', Recs.own_set hp1 gq 1 v' hn6, HAa.out.few.more hx hy, HAa.out.said.more HSd.out⟩
                have k1 := Recs.box_cell hb6 1
                have z1 := Recs.box_thaw hb6 1
                simp only [List.getElem?_toArray, List.getElem?_cons_succ, List.getElem?_cons_zero] at k1
                clear ho6 hg6 hp1 hp2 hb6 hr6 hn6 hn2 hn3 HAa HAb hlen hg5 hgr hC5 hsa
                refine hK.out _ _ trivial (fun _ => ?_)
                clear hK K
                refine Reg.take (i := 11) (d := 28) (v := ?_) rfl rfl (by kernel_rfl) (by kernel_rfl) (by kernel_rfl) (fun _ _ _ h => h) (by rfl) ?_ hHeld ?_
                rotate_left
                · rintro X hX
                  first | (go_simp; done) | (go_simp; with_reducible rfl)
                simp only [Act.put, List.setIfInBounds_toArray, List.set_cons_zero, List.set_cons_succ]
                refine Reg.call (i := 12) rfl (by kernel_rfl) (by rfl) (fun K hK => ?_)
                obtain ⟨a6, q6, hv6⟩ := Recs.own_len HR.out.own
                subst hv6
                rw [List.length_append, List.length_singleton] at HR
                go_wp2
                refine hK.out _ _ trivial (fun _ => ?_)
                clear hK K
                refine wpAnyH_done (by kernel_rfl) ?_ _
                clear k1 z1
                go_wp2
                go_meet
                case rel => exact ⟨_, _, HR⟩
              · have HAb := Num.hide (HAa.out.step ((Only.refl C wa).alloc (.cells #[.string x, .string y] 47)) (HAa.out.live.alloc (.cells #[.string x, .string y] 47)) hC hCg)
                go_wp2
                refine hK.out _ _ trivial (fun _ => ?_)
                clear hK K
                refine Reg.call (i := 1) rfl (by kernel_rfl) (by rfl) (fun K hK => ?_)
                have c1 := Recs.box_cell HAb.out.box 1
                simp only [List.getElem?_toArray, List.getElem?_cons_succ, List.getElem?_cons_zero] at c1
                go_wp2
                clear c1
                refine hK.out _ _ trivial (fun _ => ?_)
                clear hK K
                refine Reg.call (i := 10) rfl (by kernel_rfl) (by rfl) (fun K hK => ?_)
                have hg5 := HAa.out.lt
                have hlen := HAa.out.few.len
                have hsa := HAa.out.only.size
                refine wp_append_own _ _ _ 30 rfl w.heap.size 47 i0 _ 2 32 Tryz.underlying30 hi0 hzz0 hzz1 hzz2 rfl (by decide) (.slice av l.length cv) l.length (l.flatMap Flds.cells) rfl (World.ownsRow.alloc HAa.out.own _) ⟨wa.heap.size, 0, none⟩ 1 1 [.string x, .string y] rfl rfl (Flds.cells_two wa x y) (Flds.two_ok x y) (by unfold maxLen; omega) (by omega) ?c9 ?_
                case c9 => first | omega | (simp; omega)
                intro v' w6 ho6 hg6 _
                have hC5 : w.heap.size ≤ wa.heap.size := hsa
                have hgr := Recs.grown_trans (World.grownBy_alloc wa (.cells #[.string x, .string y] 47) (Value.slice av l.length cv).ownBlock) hg6
                obtain ⟨hp1, hp2⟩ := Flds.put_more hC5 HAa.out.own (Below.refl w.heap.size wa) ho6 hg6
                have hn2 := own_notS HAa.out.own HAa.out.box
                have hb6 : w6.heap[gq]? = some (.cells #[.int .i64 st, .slice av l.length cv, .string b] 35 (0, 0)) := (hgr.block gq hg5 (fun e => hn2 gq e.symm rfl)).trans HAa.out.box
                have hn3 := own_notS HAa.out.own HAa.out.res
                have hr6 : w6.heap[w.heap.size]? = some zResp := (hgr.block _ (by omega) (fun e => hn3 _ e.symm rfl)).trans HAa.out.res
                have hn6 := own_notS hp1 hb6
                have HR : Hid (R8At B C w gq st v' (l ++ [(x, y)]) b ((4 + 1) + 1) (w6.setCell ⟨gq, 1, none⟩ v')) :=
                  ⟨live_set (HAa.out.live.under hp2 hC) gq 1 _ hCq, only_set (HAa.out.only.of_below hp2) gq 1 _ (by omega), Recs.box_far hr6 _ (by omega), Recs.box_set hb6 1 v', Recs.own_set hp1 gq 1 v' hn6, HAa.out.few.more hx hy, HAa.out.said.more HSd.out⟩
                have k1 := Recs.box_cell hb6 1
                have z1 := Recs.box_thaw hb6 1
                simp only [List.getElem?_toArray, List.getElem?_cons_succ, List.getElem?_cons_zero] at k1
                clear ho6 hg6 hp1 hp2 hb6 hr6 hn6 hn2 hn3 HAa HAb hlen hg5 hgr hC5 hsa
                refine hK.out _ _ trivial (fun _ => ?_)
                clear hK K
                refine Reg.take (i := 11) (d := 28) (v := ?_) rfl rfl (by kernel_rfl) (by kernel_rfl) (by kernel_rfl) (fun _ _ _ h => h) (by rfl) ?_ hHeld ?_
                rotate_left
                · rintro X hX
                  first | (go_simp; done) | (go_simp; with_reducible rfl)
                simp only [Act.put, List.setIfInBounds_toArray, List.set_cons_zero, List.set_cons_succ]
                refine Reg.call (i := 12) rfl (by kernel_rfl) (by rfl) (fun K hK => ?_)
                obtain ⟨a6, q6, hv6⟩ := Recs.own_len HR.out.own
                subst hv6
                rw [List.length_append, List.length_singleton] at HR
                go_wp2
                refine hK.out _ _ trivial (fun _ => ?_)
                clear hK K
                refine wpAnyH_done (by kernel_rfl) ?_ _
                clear k1 z1
                go_wp2
                go_meet
                case rel => exact ⟨_, _, HR⟩
  case rest =>
  clear HA3
  obtain ⟨v, l, HA⟩ := hcut
  obtain ⟨av, cv, hvv⟩ := Recs.own_len HA.out.own
  subst hvv
  have n0 := own_notS HA.out.own HA.out.res
  have HE : Hid (Flds.Own w.heap.size (((wc.setCell ⟨w.heap.size, 0, none⟩ (.int .i64 st)).setCell ⟨w.heap.size, 1, none⟩ (.slice av l.length cv)).setCell ⟨w.heap.size, 2, none⟩ (.string b)) (.slice av l.length cv) l ∧ Live B C (((wc.setCell ⟨w.heap.size, 0, none⟩ (.int .i64 st)).setCell ⟨w.heap.size, 1, none⟩ (.slice av l.length cv)).setCell ⟨w.heap.size, 2, none⟩ (.string b)) ∧ Only C w (((wc.setCell ⟨w.heap.size, 0, none⟩ (.int .i64 st)).setCell ⟨w.heap.size, 1, none⟩ (.slice av l.length cv)).setCell ⟨w.heap.size, 2, none⟩ (.string b))) := by
    have o2 := Recs.own_set HA.out.own w.heap.size 0 (.int .i64 st) n0
    have o3 := Recs.own_set o2 w.heap.size 1 (.slice av l.length cv) n0
    have o4 := Recs.own_set o3 w.heap.size 2 (.string b) n0
    refine ⟨o4, ?_, ?_⟩
    · exact live_set (live_set (live_set HA.out.live _ 0 _ hC) _ 1 _ hC) _ 2 _ hC
    · exact only_set (only_set (only_set HA.out.only _ 0 _ (Nat.le_refl _)) _ 1 _ (Nat.le_refl _)) _ 2 _ (Nat.le_refl _)
  have HF := Num.hide HA.out.few
  have HSa := Num.hide HA.out.said
  have k0 := Recs.box_cell HA.out.box 0
  have k1 := Recs.box_cell HA.out.box 1
  have k2 := Recs.box_cell HA.out.box 2
  have o0 := Recs.box_cell HA.out.res 0
  have o1 := Recs.box_cell HA.out.res 1
  have o2 := Recs.box_cell HA.out.res 2
  have y0 := Recs.box_thaw HA.out.res 0
  have y1 := Recs.box_thaw HA.out.res 1
  have y2 := Recs.box_thaw HA.out.res 2
  simp only [List.getElem?_toArray, List.getElem?_cons_succ, List.getElem?_cons_zero] at k0 k1 k2 o0 o1 o2
  have hq1 : ¬ gq = w.heap.size := by omega
  have hq2 : ¬ w.heap.size = gq := by omega
  clear HA n0
  obtain ⟨r, hr⟩ : ∃ r, w.heap.size = r := ⟨_, rfl⟩
  rw [hr] at HE o0 o1 o2 y0 y1 y2 hq1 hq2 ⊢
  go_wp2
  exact bodyPost_ret (v := .agg #[.int .i64 st, .slice av l.length cv, .string b]) (by simp [results, Tryz.results38, go_sem, *]) rfl ⟨st, _, l, b, rfl, hr ▸ HE.out.1, HF.out, HSa.out, hb, HE.out.2.1, HE.out.2.2⟩
theorem l8_live (B C : Nat) (w : World) (h : Live B C w) :
    Calls Tryz.prog 38 #[.pointer (some ⟨C, 0, none⟩)] w fun e w' => ∃ st v l b, e = .returned (Resp.val st v b) ∧ Flds.Own w.heap.size w' v l ∧ Few 6 l ∧ b.size ≤ 64 ∧ Live B C w' ∧ Only C w w' :=
  (l8_q B C w h).mono fun e w' ⟨st, v, l, b, h1, h2, h3, _, h4, h5, h6⟩ => ⟨st, v, l, b, h1, h2, h3, h4, h5, h6⟩
end Draw
end Go.Proofs.YtbcjpjhpobmpbaaGreatDoor
namespace Go.Proofs.YtbcjpjhpobmpbaaGreatDoor
open Go.RowKit
set_option linter.unusedVariables false
set_option linter.unusedSimpArgs false
namespace Draw

theorem uri_live (B C : Nat) (w : World) (h : Live B C w) :
    Calls Tryz.prog 76 #[.pointer (some ⟨C, 0, none⟩)] w fun e w' => ∃ x, e = .returned (.string x) ∧ x.size ≤ 64 ∧ Live B C w' ∧ Only C w w' := by
  have HL := Num.hide h
  have hC := h.lt
  clear h
  go_enter Tryz.func76, Tryz.ntmps76
  go_wp2_with fail
  refine (pick_live B C w.heap.size _ 4 _ (HL.out.alloc _) (by omega) (heap_alloc_new w _) rfl (by omega) (by omega) (by decide)).mono ?_
  rintro e w3 ⟨x, rfl, hx, hl3, hn3⟩
  have HL3 := Num.hide hl3
  have HN3 := Num.hide (((Only.refl C w).alloc _).trans hn3)
  clear hl3 hn3
  go_wp2
  go_ret
  exact ⟨x, rfl, hx, HL3.out, HN3.out⟩
end Draw
end Go.Proofs.YtbcjpjhpobmpbaaGreatDoor
