/-
  DrawPicked: The specification's draw of a request and of an answer that hangs on something: bounds, and their fields as they are drawn.
  FldSets: What it is to drop a name of a list of fields, and to set one.
  FldKeep: Plain facts on fields: what is set is there once, what is dropped is not, the rest stays.
-/
import Derived.Test.YtkogcbnbmdeolaaDoorPav
import Derived.Test.YtkogcbnbmdeolaaDoorPaw
import Derived.Test.YtkogcbnbmdeolaaDoorFldPut
import Derived.Test.YtkogcbnbmdeolaaDoorPab
namespace Go.Proofs.YtkogcbnbmdeolaaDoor
open Go.RowKit
set_option linter.unusedVariables false
set_option linter.unusedSimpArgs false
namespace Draw

theorem code_up {w W : World} {a : Option Addr} {l : List Int} (h : CodeAt w.heap.size w a l) (hb : Below w.heap.size w W) : CodeAt W.heap.size W a l := by
  have h2 := h.below hb
  refine ⟨h2.1, ?_⟩
  rcases h2.2 with h3 | ⟨x, y, h3, h4, h5⟩
  · exact .inl h3
  · exact .inr ⟨x, y, h3, Nat.lt_of_lt_of_le h4 hb.size, h5⟩
theorem few_app {n k : Nat} {l m : List Flds.Fld} (h : Few n l) (g : Few k m) : Few (n + k) (l ++ m) :=
  ⟨by rw [List.length_append]; have := h.len; have := g.len; omega, fun f hf => by
    rcases List.mem_append.1 hf with h1 | h1
    · exact h.small f h1
    · exact g.small f h1⟩
theorem said_app {l m : List Flds.Fld} (h : AllSaid l) (g : AllSaid m) : AllSaid (l ++ m) := fun f hf => by
  rcases List.mem_append.1 hf with h1 | h1
  · exact h f h1
  · exact g f h1
theorem own_notQ {B : Nat} {X : World} {v : Value} {l : List Flds.Fld} (h : Flds.Own B X v l) {g : Nat} {cs : Array Value} (hb : X.heap[g]? = some (.cells cs 32 (0, 0))) : ∀ j, v.ownBlock = some j → j ≠ g := by
  intro j hj e
  subst e
  rcases h.2 with ⟨h1, _⟩ | ⟨k, cap, cur, h1, _, hk, _⟩
  · rw [h1] at hj; cases hj
  · rw [h1] at hj
    have e2 : k = j := Option.some.inj hj
    rw [e2, hb] at hk
    have e3 := Option.some.inj hk
    injection e3 with _ ht _
    exact absurd ht (by decide)
/-- a request that is drawn: its box, the two boxes of what is told, and the cursor -/
structure PkAt (w : World) (C gq : Nat) (m u : ByteArray) (v : Value) (l : List Flds.Fld) (b : ByteArray) (n : Nat) (X : World) : Prop where
  below : Below w.heap.size w X
  live : Live w.heap.size C X
  rq : X.heap[w.heap.size]? = some zReq
  rr : X.heap[w.heap.size + 1]? = some zResp
  bq : X.heap[gq]? = some (.cells #[.string m, .string u, v, .string b] 32)
  own : Flds.Own (C + 1) X v l
  few : Few n l
  said : AllSaid l
theorem PkAt.lt {w : World} {C gq : Nat} {m u : ByteArray} {v : Value} {l : List Flds.Fld} {b : ByteArray} {n : Nat} {X : World} (h : PkAt w C gq m u v l b n X) : gq < X.heap.size := (Array.getElem?_eq_some_iff.1 h.bq).1
theorem PkAt.step {w : World} {C gq : Nat} {m u : ByteArray} {v : Value} {l : List Flds.Fld} {b : ByteArray} {n : Nat} {X X' : World} (h : PkAt w C gq m u v l b n X) (ho : Only C X X') (hl : Live w.heap.size C X') (hC : w.heap.size + 1 < C) (hg : C < gq) : PkAt w C gq m u v l b n X' := by
  have hx := h.lt
  exact ⟨h.below.trans (ho.below (by omega) (by omega)), hl, (ho.block _ (by omega) (by omega)).trans h.rq, (ho.block _ (by omega) (by omega)).trans h.rr, (ho.block _ hx (by omega)).trans h.bq, own_only h.own ho (by omega), h.few, h.said⟩
theorem PkAt.under {w : World} {C gq : Nat} {m u : ByteArray} {v : Value} {l : List Flds.Fld} {b : ByteArray} {n : Nat} {X X' : World} (h : PkAt w C gq m u v l b n X) (hb : Below X.heap.size X X') : PkAt w C gq m u v l b n X' :=
  ⟨h.below.trans (hb.mono h.below.size), h.live.below hb, (hb.block _ (Array.getElem?_eq_some_iff.1 h.rq).1).trans h.rq, (hb.block _ (Array.getElem?_eq_some_iff.1 h.rr).1).trans h.rr, (hb.block _ h.lt).trans h.bq, Recs.own_below h.own hb, h.few, h.said⟩
/-- the request is told -/
structure PkAt2 (w : World) (C gq : Nat) (m u : ByteArray) (v : Value) (l : List Flds.Fld) (b : ByteArray) (X : World) : Prop where
  below : Below w.heap.size w X
  rq : X.heap[w.heap.size]? = some (.cells #[.string m, .string u, v, .string b] 32)
  rr : X.heap[w.heap.size + 1]? = some zResp
  bq : X.heap[gq]? = some (.cells #[.string m, .string u, v, .string b] 32)
  own : Flds.Own (C + 1) X v l
theorem PkAt2.first {w : World} {C gq : Nat} {m u : ByteArray} {v : Value} {l : List Flds.Fld} {b : ByteArray} {n : Nat} {X : World} (h : PkAt w C gq m u v l b n X) (hC : w.heap.size + 1 < C) (hg : C < gq) : PkAt2 w C gq m u v l b ((((X.setCell ⟨w.heap.size, 0, none⟩ (.string m)).setCell ⟨w.heap.size, 1, none⟩ (.string u)).setCell ⟨w.heap.size, 2, none⟩ v).setCell ⟨w.heap.size, 3, none⟩ (.string b)) := by
  have n1 : ∀ j, v.ownBlock = some j → j ≠ w.heap.size := fun j hj => by have := (Recs.own_lt h.own j hj).1; omega
  exact ⟨(((h.below.setCell (p := ⟨w.heap.size, 0, none⟩) (Nat.le_refl _) _).setCell (p := ⟨w.heap.size, 1, none⟩) (Nat.le_refl _) _).setCell (p := ⟨w.heap.size, 2, none⟩) (Nat.le_refl _) _).setCell (p := ⟨w.heap.size, 3, none⟩) (Nat.le_refl _) _,
    Recs.box_set (Recs.box_set (Recs.box_set (Recs.box_set h.rq 0 _) 1 _) 2 _) 3 _,
    Recs.box_far (Recs.box_far (Recs.box_far (Recs.box_far h.rr _ (by omega)) _ (by omega)) _ (by omega)) _ (by omega),
    Recs.box_far (Recs.box_far (Recs.box_far (Recs.box_far h.bq _ (by omega)) _ (by omega)) _ (by omega)) _ (by omega),
    Recs.own_set (Recs.own_set (Recs.own_set (Recs.own_set h.own w.heap.size 0 _ n1) w.heap.size 1 _ n1) w.heap.size 2 _ n1) w.heap.size 3 _ n1⟩
set_option maxRecDepth 100000 in
set_option maxHeartbeats 16000000 in
theorem drawPicked (cap : Nat) (a : Option Addr) (l0 : List Int) (w : World) (hcode : CodeAt w.heap.size w a l0) (hl0 : l0.length ≤ 1048576) :
    Calls Tryd.prog 19 #[.slice a l0.length cap] w fun e w' => ∃ m u v1 l1 b1 st v2 l2 b2, e = .returned (.tuple #[Req.val m u v1 b1, Resp.val st v2 b2]) ∧ Flds.Own w.heap.size w' v1 l1 ∧ Flds.Own w.heap.size w' v2 l2 ∧ (Few 6 l1 ∧ AllSaid l1) ∧ (Few 7 l2 ∧ AllSaid l2) ∧ (m.size ≤ 64 ∧ u.size ≤ 64 ∧ b1.size ≤ 64 ∧ b2.size ≤ 64) ∧ Below w.heap.size w w' := by
  have e0 : (w.alloc zReq).heap.size = w.heap.size + 1 := by rw [World.size_alloc]
  have hb0 : Below w.heap.size w ((w.alloc zReq).alloc zResp) := ((Below.refl _ _).alloc (Nat.le_refl _) _).alloc (by omega) _
  have HC := Num.hide hcode
  have HC0 := Num.hide (hcode.below hb0)
  have HZ0 : Hid (((w.alloc zReq).alloc zResp).heap[w.heap.size]? = some zReq) := (heap_alloc_old _ _ (by omega)).trans (heap_alloc_new w _)
  have HY0 : Hid (((w.alloc zReq).alloc zResp).heap[w.heap.size + 1]? = some zResp) := by
    have := heap_alloc_new (w.alloc zReq) zResp
    rw [e0] at this
    exact this
  have hz0 : ((w.alloc zReq).alloc zResp).heap.size = w.heap.size + 2 := by rw [World.size_alloc, e0]
  have HB0 := Num.hide hb0
  clear hcode hb0 e0
  go_enter Tryd.func19, Tryd.ntmps19
  go_wp2_with fail
  refine (new_at w.heap.size cap a l0 _ (by omega) HC0.out hl0).mono ?_
  rintro e w1 ⟨C, rfl, hCC, h1, b1'⟩
  have HL : Hid (Live w.heap.size C w1) := ⟨_, _, _, _, h1⟩
  have hCl := h1.lt
  have hC : w.heap.size + 1 < C := by omega
  have HB1 := Num.hide (HB0.out.trans (b1'.mono (by omega)))
  have HZ1 : Hid (w1.heap[w.heap.size]? = some zReq) := (b1'.block _ (by omega)).trans HZ0.out
  have HY1 : Hid (w1.heap[w.heap.size + 1]? = some zResp) := (b1'.block _ (by omega)).trans HY0.out
  clear h1 b1' HC0 HB0 HZ0 HY0
  go_wp2_with fail
  refine (req_q _ C _ HL.out).mono ?_
  rintro e w2 ⟨m, u, v, l, b, rfl, hm, hu, hv, hf, hsd, hbb, hl, ho⟩
  have hz2 := ho.size
  obtain ⟨av, cv, hvv⟩ := Recs.own_len hv
  subst hvv
  have hal : Below w2.heap.size w2 (w2.alloc (.cells #[.string m, .string u, .slice av l.length cv, .string b] 32)) := (Below.refl _ _).alloc (Nat.le_refl _) _
  have HA : Hid (PkAt w C w2.heap.size m u (.slice av l.length cv) l b 2 (w2.alloc (.cells #[.string m, .string u, .slice av l.length cv, .string b] 32))) :=
    ⟨(HB1.out.trans (ho.below (by omega) hCl)).trans (hal.mono (by omega)), hl.below hal, (heap_alloc_old _ _ (by omega)).trans ((ho.block _ (by omega) (by omega)).trans HZ1.out), (heap_alloc_old _ _ (by omega)).trans ((ho.block _ (by omega) (by omega)).trans HY1.out), heap_alloc_new w2 _, Recs.own_mono (Recs.own_below hv hal) (by omega), hf, hsd⟩
  have hCg : C < w2.heap.size := by omega
  unfold Req.val
  clear hv hf hsd hl ho hal HB1 HZ1 HY1 HL
  go_upto_region 3 with fail
  generalize w2.alloc (.cells #[.string m, .string u, .slice av l.length cv, .string b] 32) = w3 at HA ⊢
  generalize w2.heap.size = gq at HA hCg hz2 ⊢
  go_cut [] from 6 (fun wx => ∃ (v : Value) (l : List Flds.Fld), Hid (PkAt w C gq m u v l b (2 + 4) wx))
  case first =>
    have HA4 := Num.hide (HA.out.step (Only.refl C w3).drew (HA.out.live.below (Below.refl _ _).drew) hC hCg)
    clear HA
    go_wp2
    refine wp_region_held_drew (S := fun _ => True) (by kernel_rfl) trivial (fun hHeld => ?_)
    generalize w3.drew = wd at HA4 ⊢
    have hsa := HA4.out.lt
    refine Reg.take (i := 0) (d := 10) (v := ?_) rfl rfl (by kernel_rfl) (by kernel_rfl) (by kernel_rfl) (fun _ _ _ h => h) (by rfl) ?_ hHeld ?_
    rotate_left
    · rintro X hX
      first | (go_simp; done) | (go_simp; with_reducible rfl)
    simp only [Act.put, List.setIfInBounds_toArray, List.set_cons_zero, List.set_cons_succ]
    refine Reg.take (i := 2) (d := 12) (v := ?_) rfl rfl (by kernel_rfl) (by kernel_rfl) (by kernel_rfl) (fun _ _ _ h => h) (by rfl) ?_ hHeld ?_
    rotate_left
    · rintro X hX
      first | (go_simp; done) | (go_simp; with_reducible rfl)
    simp only [Act.put, List.setIfInBounds_toArray, List.set_cons_zero, List.set_cons_succ]
    refine Reg.two (i := 1) (j := 3) rfl rfl (by kernel_rfl) (by rfl) (by rfl) (fun K hK => ?_) (fun K hK => ?_)
    · have c1 := Recs.box_cell HA4.out.bq 2
      simp only [List.getElem?_toArray, List.getElem?_cons_succ, List.getElem?_cons_zero] at c1
      go_wp2
      clear c1
      refine hK.out _ _ trivial (fun _ => ?_)
      clear hK K
      refine Reg.call (i := 3) rfl (by kernel_rfl) (by rfl) (fun K hK => ?_)
      go_wp2_with (first | (go_at_call 57; refine (fields_q _ C _ HA4.out.live).mono ?_; rintro e wa ⟨vx, lx, rfl, hvx, hfx, hsx, -, hl, ho⟩))
      have hza := ho.size
      obtain ⟨ax, cx, hvv⟩ := Recs.own_len hvx
      subst hvv
      have HAa := Num.hide (HA4.out.step ho hl hC hCg)
      have HX : Hid (Flds.Own wd.heap.size wa (.slice ax lx.length cx) lx ∧ Few 4 lx ∧ AllSaid lx) := ⟨hvx, hfx, hsx⟩
      clear hl ho hvx hfx hsx
      refine hK.out _ _ trivial (fun _ => ?_)
      clear hK K
      refine Reg.call (i := 4) rfl (by kernel_rfl) (by rfl) (fun K hK => ?_)
      have hlq := HAa.out.few.len
      have hlx := HX.out.2.1.len
      refine Flds.wp_put_all _ _ rfl (C + 1) wd.heap.size (.slice av l.length cv) l rfl HAa.out.own (.slice ax lx.length cx) lx rfl HX.out.1 (by omega) (by omega) ?_
      intro v' w6 ho6 hg6
      have hg5 := HAa.out.lt
      have nb := own_notQ HAa.out.own HAa.out.bq
      have hr := (HAa.out.below)
      have nlt := fun j hj => (Recs.own_lt HAa.out.own j hj).1
      have hb6 : w6.heap[gq]? = some (.cells #[.string m, .string u, .slice av l.length cv, .string b] 32) := (hg6.block gq hg5 (fun e => nb gq e.symm rfl)).trans HAa.out.bq
      have hq6 : w6.heap[w.heap.size]? = some zReq := (hg6.block _ (by omega) (fun e => by have := nlt _ e.symm; omega)).trans HAa.out.rq
      have hr6 : w6.heap[w.heap.size + 1]? = some zResp := (hg6.block _ (by omega) (fun e => by have := nlt _ e.symm; omega)).trans HAa.out.rr
      have hp2 : Below (C + 1) wa w6 := (Below.refl (C + 1) wa).grown hg6 (by omega) (fun j hj => nlt j hj)
      have n6 := own_notQ ho6 hb6
      have HR : Hid (PkAt w C gq m u v' (l ++ lx) b (2 + 4) (w6.setCell ⟨gq, 2, none⟩ v')) :=
        ⟨(HAa.out.below.trans (hp2.mono (by omega))).setCell (p := ⟨gq, 2, none⟩) (by show w.heap.size ≤ gq; omega) v', live_set (HAa.out.live.under hp2 (by omega)) gq 2 _ hCg, Recs.box_far hq6 _ (by omega), Recs.box_far hr6 _ (by omega), Recs.box_set hb6 2 v', Recs.own_set ho6 gq 2 v' n6, few_app HAa.out.few HX.out.2.1, said_app HAa.out.said HX.out.2.2⟩
      have k2 := Recs.box_cell hb6 2
      have z2 := Recs.box_thaw hb6 2
      simp only [List.getElem?_toArray, List.getElem?_cons_succ, List.getElem?_cons_zero] at k2
      clear ho6 hg6 hp2 hb6 hr6 hq6 n6 nb nlt hr HAa HX hg5
      refine hK.out _ _ trivial (fun _ => ?_)
      clear hK K
      refine Reg.take (i := 5) (d := 15) (v := ?_) rfl rfl (by kernel_rfl) (by kernel_rfl) (by kernel_rfl) (fun _ _ _ h => h) (by rfl) ?_ hHeld ?_
      rotate_left
      · rintro X hX
        first | (go_simp; done) | (go_simp; with_reducible rfl)
      simp only [Act.put, List.setIfInBounds_toArray, List.set_cons_zero, List.set_cons_succ]
      refine Reg.call (i := 6) rfl (by kernel_rfl) (by rfl) (fun K hK => ?_)
      obtain ⟨a6, q6, hv6⟩ := Recs.own_len HR.out.own
      subst hv6
      rw [List.length_append] at HR
      go_wp2
      refine hK.out _ _ trivial (fun _ => ?_)
      clear hK K
      refine wpAnyH_done (by kernel_rfl) ?_ _
      clear k2 z2
      go_wp2
      go_meet
      case rel => exact ⟨_, _, HR⟩
    · go_wp2_with (first | (go_at_call 57; refine (fields_q _ C _ HA4.out.live).mono ?_; rintro e wa ⟨vx, lx, rfl, hvx, hfx, hsx, -, hl, ho⟩))
      have hza := ho.size
      obtain ⟨ax, cx, hvv⟩ := Recs.own_len hvx
      subst hvv
      have HAa := Num.hide (HA4.out.step ho hl hC hCg)
      have HX : Hid (Flds.Own wd.heap.size wa (.slice ax lx.length cx) lx ∧ Few 4 lx ∧ AllSaid lx) := ⟨hvx, hfx, hsx⟩
      clear hl ho hvx hfx hsx
      refine hK.out _ _ trivial (fun _ => ?_)
      clear hK K
      refine Reg.call (i := 1) rfl (by kernel_rfl) (by rfl) (fun K hK => ?_)
      have c1 := Recs.box_cell HAa.out.bq 2
      simp only [List.getElem?_toArray, List.getElem?_cons_succ, List.getElem?_cons_zero] at c1
      go_wp2
      clear c1
      refine hK.out _ _ trivial (fun _ => ?_)
      clear hK K
      refine Reg.call (i := 4) rfl (by kernel_rfl) (by rfl) (fun K hK => ?_)
      have hlq := HAa.out.few.len
      have hlx := HX.out.2.1.len
      refine Flds.wp_put_all _ _ rfl (C + 1) wd.heap.size (.slice av l.length cv) l rfl HAa.out.own (.slice ax lx.length cx) lx rfl HX.out.1 (by omega) (by omega) ?_
      intro v' w6 ho6 hg6
      have hg5 := HAa.out.lt
      have nb := own_notQ HAa.out.own HAa.out.bq
      have hr := (HAa.out.below)
      have nlt := fun j hj => (Recs.own_lt HAa.out.own j hj).1
      have hb6 : w6.heap[gq]? = some (.cells #[.string m, .string u, .slice av l.length cv, .string b] 32) := (hg6.block gq hg5 (fun e => nb gq e.symm rfl)).trans HAa.out.bq
      have hq6 : w6.heap[w.heap.size]? = some zReq := (hg6.block _ (by omega) (fun e => by have := nlt _ e.symm; omega)).trans HAa.out.rq
      have hr6 : w6.heap[w.heap.size + 1]? = some zResp := (hg6.block _ (by omega) (fun e => by have := nlt _ e.symm; omega)).trans HAa.out.rr
      have hp2 : Below (C + 1) wa w6 := (Below.refl (C + 1) wa).grown hg6 (by omega) (fun j hj => nlt j hj)
      have n6 := own_notQ ho6 hb6
      have HR : Hid (PkAt w C gq m u v' (l ++ lx) b (2 + 4) (w6.setCell ⟨gq, 2, none⟩ v')) :=
        ⟨(HAa.out.below.trans (hp2.mono (by omega))).setCell (p := ⟨gq, 2, none⟩) (by show w.heap.size ≤ gq; omega) v', live_set (HAa.out.live.under hp2 (by omega)) gq 2 _ hCg, Recs.box_far hq6 _ (by omega), Recs.box_far hr6 _ (by omega), Recs.box_set hb6 2 v', Recs.own_set ho6 gq 2 v' n6, few_app HAa.out.few HX.out.2.1, said_app HAa.out.said HX.out.2.2⟩
      have k2 := Recs.box_cell hb6 2
      have z2 := Recs.box_thaw hb6 2
      simp only [List.getElem?_toArray, List.getElem?_cons_succ, List.getElem?_cons_zero] at k2
      clear ho6 hg6 hp2 hb6 hr6 hq6 n6 nb nlt hr HAa HX hg5
      refine hK.out _ _ trivial (fun _ => ?_)
      clear hK K
      refine Reg.take (i := 5) (d := 15) (v := ?_) rfl rfl (by kernel_rfl) (by kernel_rfl) (by kernel_rfl) (fun _ _ _ h => h) (by rfl) ?_ hHeld ?_
      rotate_left
      · rintro X hX
        first | (go_simp; done) | (go_simp; with_reducible rfl)
      simp only [Act.put, List.setIfInBounds_toArray, List.set_cons_zero, List.set_cons_succ]
      refine Reg.call (i := 6) rfl (by kernel_rfl) (by rfl) (fun K hK => ?_)
      obtain ⟨a6, q6, hv6⟩ := Recs.own_len HR.out.own
      subst hv6
      rw [List.length_append] at HR
      go_wp2
      refine hK.out _ _ trivial (fun _ => ?_)
      clear hK K
      refine wpAnyH_done (by kernel_rfl) ?_ _
      clear k2 z2
      go_wp2
      go_meet
      case rel => exact ⟨_, _, HR⟩
  case rest =>
  clear HA
  obtain ⟨v, l, HA⟩ := hcut
  obtain ⟨av, cv, hvv⟩ := Recs.own_len HA.out.own
  subst hvv
  have HA7 := Num.hide (HA.out.under (Below.refl wc.heap.size wc).drew)
  clear HA
  go_wp2_with fail
  refine wp_region_held_drew (S := fun X => X.cell? ⟨gq, 0, none⟩ = some (.string m) ∧ X.cell? ⟨gq, 1, none⟩ = some (.string u) ∧ X.cell? ⟨gq, 2, none⟩ = some (.slice av l.length cv) ∧ X.cell? ⟨gq, 3, none⟩ = some (.string b)) (by kernel_rfl) ⟨Recs.box_cell HA7.out.bq 0, Recs.box_cell HA7.out.bq 1, Recs.box_cell HA7.out.bq 2, Recs.box_cell HA7.out.bq 3⟩ (fun hHeld => ?_)
  generalize wc.drew = w7 at HA7 hHeld ⊢
  have HA := Num.hide HA7.out
  clear HA7
  refine Reg.take (i := 0) (d := 16) (v := ?_) rfl rfl (by kernel_rfl) (by kernel_rfl) (by kernel_rfl) (fun _ _ _ h => h) (by rfl) ?_ hHeld ?_
  rotate_left
  · rintro X ⟨h0, h1, h2, h3⟩
    first | (go_simp; done) | (go_simp; with_reducible rfl)
  simp only [Act.put, List.setIfInBounds_toArray, List.set_cons_zero, List.set_cons_succ]
  refine Reg.take (i := 1) (d := 17) (v := ?_) rfl rfl (by kernel_rfl) (by kernel_rfl) (by kernel_rfl) (fun _ _ _ h => h) (by rfl) ?_ hHeld ?_
  rotate_left
  · rintro X hX
    first | (go_simp; done) | (go_simp; with_reducible rfl)
  simp only [Act.put, List.setIfInBounds_toArray, List.set_cons_zero, List.set_cons_succ]
  refine Reg.call (i := 2) rfl (by kernel_rfl) (by rfl) (fun K hK => ?_)
  have HD := Num.hide (drawNames cap a l0 w7 (code_up HC.out HA.out.below) hl0)
  unfold Resp.val at HD
  go_wp2_with (first | (go_at_call 58; refine HD.out.mono ?_; rintro e w8 ⟨st, v2, l2, b2, rfl, hv2, hf2, hs2, hb2, hb⟩))
  have hz8 := hb.size
  obtain ⟨a2, c2, hvv⟩ := Recs.own_len hv2
  subst hvv
  have HA8 := Num.hide (HA.out.under hb)
  have H2 : Hid (Flds.Own w7.heap.size w8 (.slice a2 l2.length c2) l2 ∧ Few 7 l2 ∧ AllSaid l2 ∧ b2.size ≤ 64) := ⟨hv2, hf2, hs2, hb2⟩
  have h7 := HA.out.lt
  clear hv2 hf2 hs2 hb2 hb
  refine hK.out _ _ ⟨Recs.box_cell HA8.out.bq 0, Recs.box_cell HA8.out.bq 1, Recs.box_cell HA8.out.bq 2, Recs.box_cell HA8.out.bq 3⟩ (fun hHeld2 => ?_)
  clear hK K HA
  replace hHeld := hHeld2
  clear hHeld2
  refine Reg.call (i := 3) rfl (by kernel_rfl) (by rfl) (fun K hK => ?_)
  have n1 := fun j hj => (Recs.own_lt HA8.out.own j hj).1
  have n2 := fun j hj => (Recs.own_lt H2.out.1 j hj).1
  have HA9 : Hid (PkAt2 w C gq m u (.slice av l.length cv) l b ((((w8.setCell ⟨w.heap.size, 0, none⟩ (.string m)).setCell ⟨w.heap.size, 1, none⟩ (.string u)).setCell ⟨w.heap.size, 2, none⟩ (.slice av l.length cv)).setCell ⟨w.heap.size, 3, none⟩ (.string b))) := PkAt2.first HA8.out (by omega) (by omega)
  have HO9 : Hid (Flds.Own w7.heap.size ((((w8.setCell ⟨w.heap.size, 0, none⟩ (.string m)).setCell ⟨w.heap.size, 1, none⟩ (.string u)).setCell ⟨w.heap.size, 2, none⟩ (.slice av l.length cv)).setCell ⟨w.heap.size, 3, none⟩ (.string b)) (.slice a2 l2.length c2) l2) := Recs.own_set (Recs.own_set (Recs.own_set (Recs.own_set H2.out.1 w.heap.size 0 _ (fun j hj => by have := n2 j hj; omega)) w.heap.size 1 _ (fun j hj => by have := n2 j hj; omega)) w.heap.size 2 _ (fun j hj => by have := n2 j hj; omega)) w.heap.size 3 _ (fun j hj => by have := n2 j hj; omega)
  have o0 := Recs.box_cell HA8.out.rq 0
  have o1 := Recs.box_cell HA8.out.rq 1
  have o2 := Recs.box_cell HA8.out.rq 2
  have o3 := Recs.box_cell HA8.out.rq 3
  have y0 := Recs.box_thaw HA8.out.rq 0
  have y1 := Recs.box_thaw HA8.out.rq 1
  have y2 := Recs.box_thaw HA8.out.rq 2
  have y3 := Recs.box_thaw HA8.out.rq 3
  simp only [List.getElem?_toArray, List.getElem?_cons_succ, List.getElem?_cons_zero] at o0 o1 o2 o3
  clear n1 n2
  go_wp2
  clear o0 o1 o2 o3 y0 y1 y2 y3
  generalize ((((w8.setCell ⟨w.heap.size, 0, none⟩ (.string m)).setCell ⟨w.heap.size, 1, none⟩ (.string u)).setCell ⟨w.heap.size, 2, none⟩ (.slice av l.length cv)).setCell ⟨w.heap.size, 3, none⟩ (.string b)) = w9 at HA9 HO9 ⊢
  refine hK.out _ _ ⟨Recs.box_cell HA9.out.bq 0, Recs.box_cell HA9.out.bq 1, Recs.box_cell HA9.out.bq 2, Recs.box_cell HA9.out.bq 3⟩ (fun hHeld2 => ?_)
  clear hK K
  replace hHeld := hHeld2
  clear hHeld2
  refine Reg.call (i := 4) rfl (by kernel_rfl) (by rfl) (fun K hK => ?_)
  have n1 := fun j hj => (Recs.own_lt HA9.out.own j hj).1
  have n2 := fun j hj => (Recs.own_lt HO9.out j hj).1
  have HE : Hid (Flds.Own (C + 1) (((w9.setCell ⟨w.heap.size + 1, 0, none⟩ (.int .i64 st)).setCell ⟨w.heap.size + 1, 1, none⟩ (.slice a2 l2.length c2)).setCell ⟨w.heap.size + 1, 2, none⟩ (.string b2)) (.slice av l.length cv) l ∧ Flds.Own w7.heap.size (((w9.setCell ⟨w.heap.size + 1, 0, none⟩ (.int .i64 st)).setCell ⟨w.heap.size + 1, 1, none⟩ (.slice a2 l2.length c2)).setCell ⟨w.heap.size + 1, 2, none⟩ (.string b2)) (.slice a2 l2.length c2) l2 ∧ (((w9.setCell ⟨w.heap.size + 1, 0, none⟩ (.int .i64 st)).setCell ⟨w.heap.size + 1, 1, none⟩ (.slice a2 l2.length c2)).setCell ⟨w.heap.size + 1, 2, none⟩ (.string b2)).heap[w.heap.size]? = some (.cells #[.string m, .string u, .slice av l.length cv, .string b] 32) ∧ (((w9.setCell ⟨w.heap.size + 1, 0, none⟩ (.int .i64 st)).setCell ⟨w.heap.size + 1, 1, none⟩ (.slice a2 l2.length c2)).setCell ⟨w.heap.size + 1, 2, none⟩ (.string b2)).heap[w.heap.size + 1]? = some (.cells #[.int .i64 st, .slice a2 l2.length c2, .string b2] 34) ∧ (((w9.setCell ⟨w.heap.size + 1, 0, none⟩ (.int .i64 st)).setCell ⟨w.heap.size + 1, 1, none⟩ (.slice a2 l2.length c2)).setCell ⟨w.heap.size + 1, 2, none⟩ (.string b2)).heap[gq]? = some (.cells #[.string m, .string u, .slice av l.length cv, .string b] 32) ∧ Below w.heap.size w (((w9.setCell ⟨w.heap.size + 1, 0, none⟩ (.int .i64 st)).setCell ⟨w.heap.size + 1, 1, none⟩ (.slice a2 l2.length c2)).setCell ⟨w.heap.size + 1, 2, none⟩ (.string b2))) :=
    ⟨Recs.own_set (Recs.own_set (Recs.own_set HA9.out.own (w.heap.size + 1) 0 _ (fun j hj => by have := n1 j hj; omega)) (w.heap.size + 1) 1 _ (fun j hj => by have := n1 j hj; omega)) (w.heap.size + 1) 2 _ (fun j hj => by have := n1 j hj; omega),
     Recs.own_set (Recs.own_set (Recs.own_set HO9.out (w.heap.size + 1) 0 _ (fun j hj => by have := n2 j hj; omega)) (w.heap.size + 1) 1 _ (fun j hj => by have := n2 j hj; omega)) (w.heap.size + 1) 2 _ (fun j hj => by have := n2 j hj; omega),
     Recs.box_far (Recs.box_far (Recs.box_far HA9.out.rq _ (by omega)) _ (by omega)) _ (by omega),
     Recs.box_set (Recs.box_set (Recs.box_set HA9.out.rr 0 _) 1 _) 2 _,
     Recs.box_far (Recs.box_far (Recs.box_far HA9.out.bq _ (by omega)) _ (by omega)) _ (by omega),
     ((HA9.out.below.setCell (p := ⟨w.heap.size + 1, 0, none⟩) (by show w.heap.size ≤ w.heap.size + 1; omega) _).setCell (p := ⟨w.heap.size + 1, 1, none⟩) (by show w.heap.size ≤ w.heap.size + 1; omega) _).setCell (p := ⟨w.heap.size + 1, 2, none⟩) (by show w.heap.size ≤ w.heap.size + 1; omega) _⟩
  have o0 := Recs.box_cell HA9.out.rr 0
  have o1 := Recs.box_cell HA9.out.rr 1
  have o2 := Recs.box_cell HA9.out.rr 2
  have y0 := Recs.box_thaw HA9.out.rr 0
  have y1 := Recs.box_thaw HA9.out.rr 1
  have y2 := Recs.box_thaw HA9.out.rr 2
  simp only [List.getElem?_toArray, List.getElem?_cons_succ, List.getElem?_cons_zero] at o0 o1 o2
  have HF := Num.hide HA8.out.few
  have HSa := Num.hide HA8.out.said
  clear n1 n2
  go_wp2
  clear o0 o1 o2 y0 y1 y2
  generalize (((w9.setCell ⟨w.heap.size + 1, 0, none⟩ (.int .i64 st)).setCell ⟨w.heap.size + 1, 1, none⟩ (.slice a2 l2.length c2)).setCell ⟨w.heap.size + 1, 2, none⟩ (.string b2)) = w10 at HE ⊢
  refine hK.out _ _ ⟨Recs.box_cell HE.out.2.2.2.2.1 0, Recs.box_cell HE.out.2.2.2.2.1 1, Recs.box_cell HE.out.2.2.2.2.1 2, Recs.box_cell HE.out.2.2.2.2.1 3⟩ (fun hHeld2 => ?_)
  clear hK K hHeld2
  refine wpAnyH_done (by kernel_rfl) ?_ _
  clear hHeld HA9 HO9 HA8
  have e0 := Recs.box_cell HE.out.2.2.1 0
  have e1 := Recs.box_cell HE.out.2.2.1 1
  have e2 := Recs.box_cell HE.out.2.2.1 2
  have e3 := Recs.box_cell HE.out.2.2.1 3
  have f0 := Recs.box_cell HE.out.2.2.2.1 0
  have f1 := Recs.box_cell HE.out.2.2.2.1 1
  have f2 := Recs.box_cell HE.out.2.2.2.1 2
  simp only [List.getElem?_toArray, List.getElem?_cons_succ, List.getElem?_cons_zero] at e0 e1 e2 e3 f0 f1 f2
  go_wp2
  exact bodyPost_ret (v := .tuple #[.agg #[.string m, .string u, .slice av l.length cv, .string b], .agg #[.int .i64 st, .slice a2 l2.length c2, .string b2]]) (by simp [results, Tryd.results19, go_sem, *]) rfl ⟨m, u, _, l, b, st, _, l2, b2, rfl, Recs.own_mono HE.out.1 (by omega), Recs.own_mono HE.out.2.1 (by omega), ⟨HF.out, HSa.out⟩, ⟨H2.out.2.1, H2.out.2.2.1⟩, ⟨hm, hu, hbb, H2.out.2.2.2⟩, HE.out.2.2.2.2.2⟩
end Draw
end Go.Proofs.YtkogcbnbmdeolaaDoor
namespace Go.Proofs.YtkogcbnbmdeolaaDoor
open Go.RowKit
set_option linter.unusedVariables false
namespace Flds

/-- those of another name -/
def drop (l : List Fld) (name : ByteArray) : List Fld := l.filter fun f => decide (¬ f.1 = name)
theorem drop_take (l : List Fld) (name : ByteArray) (k : Nat) (h : k < l.length) : drop (l.take (k + 1)) name = drop (l.take k) name ++ (if l[k].1 = name then [] else [l[k]]) := by
  unfold drop
  rw [List.take_succ_eq_append_getElem h, List.filter_append]
  by_cases e : l[k].1 = name
  · rw [if_pos e]; simp [e]
  · rw [if_neg e]; simp [e]
theorem drop_length (l : List Fld) (name : ByteArray) : (drop l name).length ≤ l.length := List.length_filter_le _ _
/-- one field more, as it is set -/
def setStep (name value : ByteArray) (r : List Fld × Bool) (f : Fld) : List Fld × Bool :=
  if f.1 = name then (if r.2 = true then r else (r.1 ++ [(name, value)], true)) else (r.1 ++ [f], r.2)
def setGo (l : List Fld) (name value : ByteArray) : List Fld × Bool := l.foldl (setStep name value) ([], false)
/-- the first of that name has the value, others of it are gone; else it is put behind all -/
def set (l : List Fld) (name value : ByteArray) : List Fld := if (setGo l name value).2 = true then (setGo l name value).1 else (setGo l name value).1 ++ [(name, value)]
theorem setGo_take (l : List Fld) (name value : ByteArray) (k : Nat) (h : k < l.length) : setGo (l.take (k + 1)) name value = setStep name value (setGo (l.take k) name value) l[k] := by
  unfold setGo
  rw [List.take_succ_eq_append_getElem h, List.foldl_append]; rfl
theorem setGo_length (l : List Fld) (name value : ByteArray) : (setGo l name value).1.length ≤ l.length := by
  refine Num.snoc_ind (P := fun l => (setGo l name value).1.length ≤ l.length) (by simp [setGo]) ?_ l
  intro l f ih
  have e : setGo (l ++ [f]) name value = setStep name value (setGo l name value) f := by unfold setGo; rw [List.foldl_append]; rfl
  rw [e, List.length_append]
  unfold setStep
  split
  · split
    · simp; omega
    · simp; omega
  · simp; omega
theorem set_length (l : List Fld) (name value : ByteArray) : (set l name value).length ≤ l.length + 1 := by
  have := setGo_length l name value
  unfold set
  split
  · omega
  · rw [List.length_append]; simp; omega
end Flds
end Go.Proofs.YtkogcbnbmdeolaaDoor
namespace Go.Proofs.YtkogcbnbmdeolaaDoor
open Go.RowKit
set_option linter.unusedVariables false
namespace Flds

theorem get_snoc (l : List Fld) (f : Fld) (name : ByteArray) : get (l ++ [f]) name = getStep name (get l name) f := by unfold get; rw [List.foldl_append]; rfl
theorem drop_snoc (l : List Fld) (f : Fld) (name : ByteArray) : drop (l ++ [f]) name = drop l name ++ (if f.1 = name then [] else [f]) := by
  unfold drop
  rw [List.filter_append]
  by_cases e : f.1 = name
  · rw [if_pos e]; simp [e]
  · rw [if_neg e]; simp [e]
theorem setGo_snoc (l : List Fld) (f : Fld) (name value : ByteArray) : setGo (l ++ [f]) name value = setStep name value (setGo l name value) f := by unfold setGo; rw [List.foldl_append]; rfl
theorem get_none (l : List Fld) (name : ByteArray) (h : ∀ f ∈ l, ¬ f.1 = name) : get l name = (⟨#[]⟩, false) := by
  revert h
  refine Num.snoc_ind (P := fun l => (∀ f ∈ l, ¬ f.1 = name) → get l name = (⟨#[]⟩, false)) (fun _ => rfl) ?_ l
  intro l f ih h
  rw [get_snoc, ih (fun g hg => h g (List.mem_append_left _ hg))]
  unfold getStep
  rw [if_neg (h f (by simp))]
theorem get_drop (l : List Fld) (name : ByteArray) : get (drop l name) name = (⟨#[]⟩, false) := by
  apply get_none
  intro f hf
  unfold drop at hf
  have := (List.mem_filter.1 hf).2
  simpa using this
theorem get_drop_other (l : List Fld) (name other : ByteArray) (h : ¬ other = name) : get (drop l name) other = get l other := by
  refine Num.snoc_ind (P := fun l => get (drop l name) other = get l other) rfl ?_ l
  intro l f ih
  rw [drop_snoc, get_snoc]
  by_cases e : f.1 = name
  · rw [if_pos e, List.append_nil, ih]
    unfold getStep
    rw [if_neg (by rw [e]; exact fun h2 => h h2.symm)]
  · rw [if_neg e, get_snoc, ih]
theorem get_is (l : List Fld) (i : Nat) (h : i < l.length) : (get l l[i].1).2 = true := by
  have key : ∀ (l : List Fld) (name : ByteArray), (∃ f ∈ l, f.1 = name) → (get l name).2 = true := by
    intro l name
    refine Num.snoc_ind (P := fun l => (∃ f ∈ l, f.1 = name) → (get l name).2 = true) (fun ⟨f, hf, _⟩ => by cases hf) ?_ l
    intro l f ih hx
    rw [get_snoc]
    unfold getStep
    by_cases e : f.1 = name
    · rw [if_pos e]
    · rw [if_neg e]
      obtain ⟨g, hg, he⟩ := hx
      rcases List.mem_append.1 hg with h1 | h1
      · exact ih ⟨g, h1, he⟩
      · exact absurd he (by rw [List.mem_singleton.1 h1]; exact e)
  exact key l l[i].1 ⟨l[i], List.getElem_mem h, rfl⟩
/-- what has been gone through of a list, and what is set of it -/
theorem empty_app (v : ByteArray) : (⟨#[]⟩ : ByteArray) ++ v = v := by apply ByteArray.ext; simp
theorem setGo_spec (l : List Fld) (name value : ByteArray) :
    ((setGo l name value).2 = false → (setGo l name value).1 = drop l name) ∧
    ((setGo l name value).2 = true → drop (setGo l name value).1 name = drop l name ∧ get (setGo l name value).1 name = (value, true) ∧ (setGo l name value).1.length = (drop l name).length + 1) := by
  refine Num.snoc_ind (P := fun l => ((setGo l name value).2 = false → (setGo l name value).1 = drop l name) ∧
    ((setGo l name value).2 = true → drop (setGo l name value).1 name = drop l name ∧ get (setGo l name value).1 name = (value, true) ∧ (setGo l name value).1.length = (drop l name).length + 1)) ⟨fun _ => rfl, fun h => by cases h⟩ ?_ l
  intro l f ih
  rw [setGo_snoc, drop_snoc]
  generalize setGo l name value = r at ih
  obtain ⟨m, b⟩ := r
  simp only at ih
  unfold setStep
  by_cases e : f.1 = name
  · rw [if_pos e, if_pos e, List.append_nil]
    cases b with
    | true =>
      rw [if_pos rfl]
      exact ih
    | false =>
      rw [if_neg (by simp)]
      obtain ⟨h1, _⟩ := ih
      have h1 := h1 rfl
      subst h1
      refine ⟨(fun h => by cases h), fun _ => ⟨?_, ?_, ?_⟩⟩
      · rw [drop_snoc, if_pos rfl, List.append_nil]
        unfold drop
        rw [List.filter_filter]; simp
      · rw [get_snoc, get_drop]
        unfold getStep
        rw [if_pos rfl, if_neg (by simp), empty_app]
      · simp
  · rw [if_neg e, if_neg e]
    refine ⟨fun h => ?_, fun h => ?_⟩
    · simp only at h ⊢
      rw [ih.1 h]
    · simp only at h ⊢
      obtain ⟨h1, h2, h3⟩ := ih.2 h
      refine ⟨?_, ?_, ?_⟩
      · rw [drop_snoc, if_neg e, h1]
      · rw [get_snoc, h2]
        unfold getStep
        rw [if_neg e]
      · rw [List.length_append, List.length_append, h3]; simp
theorem set_spec_all (l : List Fld) (name value : ByteArray) : drop (set l name value) name = drop l name ∧ get (set l name value) name = (value, true) ∧ (set l name value).length = (drop l name).length + 1 := by
  have h := setGo_spec l name value
  unfold set
  cases hb : (setGo l name value).2 with
  | true => rw [if_pos rfl]; exact h.2 hb
  | false =>
    rw [if_neg (by simp), h.1 hb]
    refine ⟨?_, ?_, ?_⟩
    · rw [drop_snoc, if_pos rfl, List.append_nil]
      unfold drop
      rw [List.filter_filter]; simp
    · rw [get_snoc, get_drop]
      unfold getStep
      rw [if_pos rfl, if_neg (by simp), empty_app]
    · simp
end Flds
end Go.Proofs.YtkogcbnbmdeolaaDoor
