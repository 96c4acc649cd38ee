/-
  DrawResp: The specification's draws of a target and of an answer, of a cursor in whatever state: bounds alone.
  RegTwo: One step through a region that draws its order: two operations that come up together.
  DrawReq: The specification's draws of a request, of a cursor in whatever state: bounds alone.
  DrawReqOk: The specification's draws of requests for the laws: bounds alone; what was there stays.
-/
import Derived.Test.YtbajfklnekfeoaaGreatDoorPac
import Derived.Deep.Cut
import Derived.Test.YtbajfklnekfeoaaGreatDoorRegLaw
import Derived.Test.YtbajfklnekfeoaaGreatDoorPab
import Derived.Laws.AppendOwn
import Derived.Deep.CutBlock
namespace Go.Proofs.YtbajfklnekfeoaaGreatDoor
open Go.RowKit
set_option linter.unusedVariables false
set_option linter.unusedSimpArgs false
namespace Draw

theorem uri_live (B C : Nat) (w : World) (h : Live B C w) :
    Calls Tryz.prog 116 #[.pointer (some ⟨C, 0, none⟩)] w fun e w' => ∃ x, e = .returned (.string x) ∧ x.size ≤ 64 ∧ Live B C w' ∧ Only C w w' := by
  have HL := Num.hide h
  have hC := h.lt
  clear h
  go_enter Tryz.func116, Tryz.ntmps116
  go_wp2_with fail
  refine (pick_live B C w.heap.size _ 4 _ (HL.out.alloc _) (by omega) (heap_alloc_new w _) rfl (by omega) (by omega) (by decide)).mono ?_
  rintro e w3 ⟨x, rfl, hx, hl3, hn3⟩
  have HL3 := Num.hide hl3
  have HN3 := Num.hide (((Only.refl C w).alloc _).trans hn3)
  clear hl3 hn3
  go_wp2
  go_ret
  exact ⟨x, rfl, hx, HL3.out, HN3.out⟩
def zResp : Obj := .cells #[.int .i64 0, .slice none 0 0, .string ⟨#[]⟩] 47
theorem only_set {C : Nat} {a w : World} (h : Only C a w) (g i : Nat) (u : Value) (hg : a.heap.size ≤ g) : Only C a (w.setCell ⟨g, i, none⟩ u) :=
  h.of_below ((Below.refl _ _).setCell (p := ⟨g, i, none⟩) hg u)
theorem live_set {B C : Nat} {w : World} (h : Live B C w) (g i : Nat) (u : Value) (hg : C < g) : Live B C (w.setCell ⟨g, i, none⟩ u) :=
  h.under ((Below.refl g w).setCell (p := ⟨g, i, none⟩) (Nat.le_refl _) u) hg
set_option maxRecDepth 100000 in
set_option maxHeartbeats 4000000 in
theorem resp_live (B C : Nat) (w : World) (h : Live B C w) :
    Calls Tryz.prog 112 #[.pointer (some ⟨C, 0, none⟩)] w fun e w' => ∃ st v l b, e = .returned (Resp.val st v b) ∧ 200 ≤ st ∧ st ≤ 500 ∧ Flds.Own w.heap.size w' v l ∧ Few 4 l ∧ b.size ≤ 64 ∧ Live B C w' ∧ Only C w w' := by
  have hC := h.lt
  have HL0 := Num.hide (h.alloc zResp)
  have HO0 := Num.hide ((Only.refl C w).alloc zResp)
  have HZ0 : Hid ((w.alloc zResp).heap[w.heap.size]? = some zResp) := heap_alloc_new w _
  have hz0 : (w.alloc zResp).heap.size = w.heap.size + 1 := by rw [World.size_alloc]
  clear h
  go_enter Tryz.func112, Tryz.ntmps112
  go_wp2_with fail
  refine (pickInt_live B C (w.heap.size + 1) 200 500 _ 10 _ (HL0.out.alloc _) (by omega) (hz0 ▸ heap_alloc_new (w.alloc zResp) _) rfl (by omega) (by omega) (by simp only [IntsIn, and_true]; omega)).mono ?_
  rintro e w1 ⟨st, rfl, hs0, hs1, hl, ho⟩
  have HL1 := Num.hide hl
  have HO1 := Num.hide ((HO0.out.alloc _).trans ho)
  have HZ1 : Hid (w1.heap[w.heap.size]? = some zResp) := (ho.block _ (by rw [World.size_alloc]; omega) (by omega)).trans ((heap_alloc_old _ _ (by omega)).trans HZ0.out)
  have hz1 : w.heap.size + 1 < w1.heap.size := by have := ho.size; rw [World.size_alloc] at this; omega
  clear hl ho HL0 HO0 HZ0
  go_wp2_with fail
  refine (fields_live B C _ HL1.out).mono ?_
  rintro e w2 ⟨v, l, rfl, hv, hf, hl, ho⟩
  have HF := Num.hide hf
  have hz2 := ho.size
  obtain ⟨av, cv, hvv⟩ := Recs.own_len hv
  subst hvv
  have hal : Below w2.heap.size w2 (w2.alloc (.cells #[.int .i64 st, .slice av l.length cv, .string ⟨#[]⟩] 47)) := (Below.refl _ _).alloc (Nat.le_refl _) _
  have HL2 := Num.hide (hl.below hal)
  have HO2 := Num.hide ((HO1.out.trans ho).alloc (.cells #[.int .i64 st, .slice av l.length cv, .string ⟨#[]⟩] 47))
  have HZ2 : Hid ((w2.alloc (.cells #[.int .i64 st, .slice av l.length cv, .string ⟨#[]⟩] 47)).heap[w.heap.size]? = some zResp) := (heap_alloc_old _ _ (by omega)).trans ((ho.block _ (by omega) (by omega)).trans HZ1.out)
  have HQ2 : Hid ((w2.alloc (.cells #[.int .i64 st, .slice av l.length cv, .string ⟨#[]⟩] 47)).heap[w2.heap.size]? = some (.cells #[.int .i64 st, .slice av l.length cv, .string ⟨#[]⟩] 47)) := heap_alloc_new w2 _
  have HV2 := Num.hide (Recs.own_below hv hal)
  have hvb : ∀ j, (Value.slice av l.length cv).ownBlock = some j → w.heap.size < j ∧ j < w2.heap.size := fun j hj => by have := Recs.own_lt hv j hj; omega
  have hz3 : (w2.alloc (.cells #[.int .i64 st, .slice av l.length cv, .string ⟨#[]⟩] 47)).heap.size = w2.heap.size + 1 := by rw [World.size_alloc]
  clear hl ho hv hf hal HL1 HO1 HZ1
  go_upto_region 2 with fail
  generalize w2.alloc (.cells #[.int .i64 st, .slice av l.length cv, .string ⟨#[]⟩] 47) = w3 at HL2 HO2 HZ2 HQ2 HV2 hz3 ⊢
  obtain ⟨gq, hgq⟩ : ∃ gq, w2.heap.size = gq := ⟨_, rfl⟩
  rw [hgq] at HQ2 hz2 hvb hz3 ⊢
  have n0 : ∀ j, (Value.slice av l.length cv).ownBlock = some j → j ≠ w.heap.size := fun j hj => by have := hvb j hj; omega
  have n1 : ∀ j, (Value.slice av l.length cv).ownBlock = some j → j ≠ gq := fun j hj => by have := hvb j hj; omega
  have k0 := Recs.box_cell HQ2.out 0
  have k1 := Recs.box_cell HQ2.out 1
  have k2 := Recs.box_cell HQ2.out 2
  simp only [List.getElem?_toArray, List.getElem?_cons_succ, List.getElem?_cons_zero] at k0 k1 k2
  have hq1 : ¬ gq = w.heap.size := by omega
  have hq2 : ¬ w.heap.size = gq := by omega
  by_cases h24 : st ≠ 204 ∧ st ≠ 304
  · have d1 : (st != 204) = true := by rw [bne_iff_ne]; exact h24.1
    have d2 : (st != 304) = true := by rw [bne_iff_ne]; exact h24.2
    clear hvb
    go_wp2_with fail
    refine (text_live B C 8 _ HL2.out (by omega)).mono ?_
    rintro e w4 ⟨t, rfl, ht, hl, ho⟩
    have HQ4 : Hid (w4.heap[gq]? = some (.cells #[.int .i64 st, .slice av l.length cv, .string ⟨#[]⟩] 47)) := (ho.block _ (by omega) (by omega)).trans HQ2.out
    have HZ4 : Hid (w4.heap[w.heap.size]? = some zResp) := (ho.block _ (by omega) (by omega)).trans HZ2.out
    have HE : Hid (Flds.Own w.heap.size ((((w4.setCell ⟨gq, 2, none⟩ (.string t)).setCell ⟨w.heap.size, 0, none⟩ (.int .i64 st)).setCell ⟨w.heap.size, 1, none⟩ (.slice av l.length cv)).setCell ⟨w.heap.size, 2, none⟩ (.string t)) (.slice av l.length cv) l ∧ Live B C ((((w4.setCell ⟨gq, 2, none⟩ (.string t)).setCell ⟨w.heap.size, 0, none⟩ (.int .i64 st)).setCell ⟨w.heap.size, 1, none⟩ (.slice av l.length cv)).setCell ⟨w.heap.size, 2, none⟩ (.string t)) ∧ Only C w ((((w4.setCell ⟨gq, 2, none⟩ (.string t)).setCell ⟨w.heap.size, 0, none⟩ (.int .i64 st)).setCell ⟨w.heap.size, 1, none⟩ (.slice av l.length cv)).setCell ⟨w.heap.size, 2, none⟩ (.string t))) := by
      have o0 := own_only HV2.out ho (by omega)
      have o1 := Recs.own_set o0 gq 2 (.string t) n1
      have o2 := Recs.own_set o1 w.heap.size 0 (.int .i64 st) n0
      have o3 := Recs.own_set o2 w.heap.size 1 (.slice av l.length cv) n0
      have o4 := Recs.own_set o3 w.heap.size 2 (.string t) n0
      refine ⟨Recs.own_mono o4 (by omega), ?_, ?_⟩
      · exact live_set (live_set (live_set (live_set hl gq 2 _ (by omega)) _ 0 _ hC) _ 1 _ hC) _ 2 _ hC
      · exact only_set (only_set (only_set (only_set (HO2.out.trans ho) gq 2 _ (by omega)) _ 0 _ (Nat.le_refl _)) _ 1 _ (Nat.le_refl _)) _ 2 _ (Nat.le_refl _)
    clear hl ho k0 k1 k2
    have k0 := Recs.box_cell HQ4.out 0
    have k1 := Recs.box_cell HQ4.out 1
    have k2 := Recs.box_cell HQ4.out 2
    have z2 := Recs.box_thaw HQ4.out 2
    have o0 := Recs.box_cell HZ4.out 0
    have o1 := Recs.box_cell HZ4.out 1
    have o2 := Recs.box_cell HZ4.out 2
    have y0 := Recs.box_thaw HZ4.out 0
    have y1 := Recs.box_thaw HZ4.out 1
    have y2 := Recs.box_thaw HZ4.out 2
    simp only [List.getElem?_toArray, List.getElem?_cons_succ, List.getElem?_cons_zero] at k0 k1 k2 o0 o1 o2
    clear HL2 HO2 HZ2 HQ2 HV2 HQ4 HZ4 n0 n1
    obtain ⟨r, hr⟩ : ∃ r, w.heap.size = r := ⟨_, rfl⟩
    rw [hr] at HE o0 o1 o2 y0 y1 y2 hq1 hq2 ⊢
    go_wp2
    exact bodyPost_ret (v := .agg #[.int .i64 st, .slice av l.length cv, .string t]) (by simp [results, Tryz.results112, go_sem, *]) rfl ⟨st, _, l, t, rfl, hs0, hs1, hr ▸ HE.out.1, HF.out, by omega, HE.out.2.1, HE.out.2.2⟩
  · have h24b : st = 204 ∨ st = 304 := by omega
    clear hvb h24
    have HE : Hid (Flds.Own w.heap.size (((w3.setCell ⟨w.heap.size, 0, none⟩ (.int .i64 st)).setCell ⟨w.heap.size, 1, none⟩ (.slice av l.length cv)).setCell ⟨w.heap.size, 2, none⟩ (.string ⟨#[]⟩)) (.slice av l.length cv) l ∧ Live B C (((w3.setCell ⟨w.heap.size, 0, none⟩ (.int .i64 st)).setCell ⟨w.heap.size, 1, none⟩ (.slice av l.length cv)).setCell ⟨w.heap.size, 2, none⟩ (.string ⟨#[]⟩)) ∧ Only C w (((w3.setCell ⟨w.heap.size, 0, none⟩ (.int .i64 st)).setCell ⟨w.heap.size, 1, none⟩ (.slice av l.length cv)).setCell ⟨w.heap.size, 2, none⟩ (.string ⟨#[]⟩))) := by
      have o2 := Recs.own_set HV2.out w.heap.size 0 (.int .i64 st) n0
      have o3 := Recs.own_set o2 w.heap.size 1 (.slice av l.length cv) n0
      have o4 := Recs.own_set o3 w.heap.size 2 (.string ⟨#[]⟩) n0
      refine ⟨Recs.own_mono o4 (by omega), ?_, ?_⟩
      · exact live_set (live_set (live_set HL2.out _ 0 _ hC) _ 1 _ hC) _ 2 _ hC
      · exact only_set (only_set (only_set HO2.out _ 0 _ (Nat.le_refl _)) _ 1 _ (Nat.le_refl _)) _ 2 _ (Nat.le_refl _)
    have o0 := Recs.box_cell HZ2.out 0
    have o1 := Recs.box_cell HZ2.out 1
    have o2 := Recs.box_cell HZ2.out 2
    have y0 := Recs.box_thaw HZ2.out 0
    have y1 := Recs.box_thaw HZ2.out 1
    have y2 := Recs.box_thaw HZ2.out 2
    simp only [List.getElem?_toArray, List.getElem?_cons_succ, List.getElem?_cons_zero] at o0 o1 o2
    clear HL2 HO2 HZ2 HQ2 HV2 n0 n1
    obtain ⟨r, hr⟩ : ∃ r, w.heap.size = r := ⟨_, rfl⟩
    rw [hr] at HE o0 o1 o2 y0 y1 y2 hq1 hq2 ⊢
    rcases h24b with rfl | rfl
    · go_wp2
      exact bodyPost_ret (v := .agg #[.int .i64 204, .slice av l.length cv, .string ⟨#[]⟩]) (by simp [results, Tryz.results112, go_sem, *]) rfl ⟨204, _, l, ⟨#[]⟩, rfl, hs0, hs1, hr ▸ HE.out.1, HF.out, by decide, HE.out.2.1, HE.out.2.2⟩
    · go_wp2
      exact bodyPost_ret (v := .agg #[.int .i64 304, .slice av l.length cv, .string ⟨#[]⟩]) (by simp [results, Tryz.results112, go_sem, *]) rfl ⟨304, _, l, ⟨#[]⟩, rfl, hs0, hs1, hr ▸ HE.out.1, HF.out, by decide, HE.out.2.1, HE.out.2.2⟩
end Draw
end Go.Proofs.YtbajfklnekfeoaaGreatDoor
namespace Go.Proofs.YtbajfklnekfeoaaGreatDoor
open Go.RowKit
set_option linter.unusedVariables false
namespace Reg

variable {P : Program} {ops : Array Oper} {Q : Exit → Act → World → Prop} {md : Region.Mode} {S : World → Prop}
theorem two {i j : Nat} {o p : Oper} {fuel : Nat} {listed : Array Bool} {a : Act} {w : World} (hi : ops.toList[i]? = some o) (hj : ops.toList[j]? = some p) (hr : Region.ready md ops listed = [i, j])
    (hwi : Region.wanted o (yielded ops a.tmps) = true) (hwj : Region.wanted p (yielded ops a.tmps) = true)
    (h1 : ∀ K' : Act → World → Prop, Shut (∀ a w, S w → (S w → wpAnyH P md ops Q S fuel (listed.setIfInBounds i true) a w) → K' a w) → Oper.wp P o a w K' Q)
    (h2 : ∀ K' : Act → World → Prop, Shut (∀ a w, S w → (S w → wpAnyH P md ops Q S fuel (listed.setIfInBounds j true) a w) → K' a w) → Oper.wp P p a w K' Q) : wpAnyH P md ops Q S (fuel + 1) listed a w :=
  wpAnyH_ready hr (by simp) (AllReadyH.cons (at_ hi) (fun K hK => by rw [if_pos hwi]; exact h1 K hK) (AllReadyH.cons (at_ hj) (fun K hK => by rw [if_pos hwj]; exact h2 K hK) AllReadyH.nil))
end Reg
end Go.Proofs.YtbajfklnekfeoaaGreatDoor
namespace Go.Proofs.YtbajfklnekfeoaaGreatDoor
open Go.RowKit
set_option linter.unusedVariables false
set_option linter.unusedSimpArgs false
namespace Draw

def zReq : Obj := .cells #[.string ⟨#[]⟩, .string ⟨#[]⟩, .slice none 0 0, .string ⟨#[]⟩] 39
/-- a request that is drawn: its box, the box of the answer, and the cursor -/
structure RqAt (B C : Nat) (w : World) (gq : Nat) (m u : ByteArray) (v : Value) (l : List Flds.Fld) (n : Nat) (X : World) : Prop where
  live : Live B C X
  only : Only C w X
  res : X.heap[w.heap.size]? = some zReq
  box : X.heap[gq]? = some (.cells #[.string m, .string u, v, .string ⟨#[]⟩] 39)
  own : Flds.Own (gq + 1) X v l
  few : Few n l
theorem RqAt.lt {B C : Nat} {w : World} {gq : Nat} {m u : ByteArray} {v : Value} {l : List Flds.Fld} {n : Nat} {X : World} (h : RqAt B C w gq m u v l n X) : gq < X.heap.size := (Array.getElem?_eq_some_iff.1 h.box).1
theorem RqAt.step {B C : Nat} {w : World} {gq : Nat} {m u : ByteArray} {v : Value} {l : List Flds.Fld} {n : Nat} {X X' : World} (h : RqAt B C w gq m u v l n X) (ho : Only C X X') (hl : Live B C X') (hC : C < w.heap.size) (hg : w.heap.size < gq) : RqAt B C w gq m u v l n X' := by
  have hx := h.lt
  have hw := h.only.size
  exact ⟨hl, h.only.trans ho, (ho.block _ (by omega) (by omega)).trans h.res, (ho.block _ hx (by omega)).trans h.box, own_only h.own ho (by omega), h.few⟩
set_option maxRecDepth 100000 in
set_option maxHeartbeats 4000000 in
theorem req_live (B C : Nat) (w : World) (h : Live B C w) :
    Calls Tryz.prog 66 #[.pointer (some ⟨C, 0, none⟩)] w fun e w' => ∃ m u v l b, e = .returned (Req.val m u v b) ∧ m.size ≤ 64 ∧ u.size ≤ 64 ∧ Flds.Own w.heap.size w' v l ∧ Few 2 l ∧ b.size ≤ 64 ∧ Live B C w' ∧ Only C w w' := by
  have hC := h.lt
  obtain ⟨i0, hi0, hzz0, hzz1, hzz2⟩ := info_parts Flds.infoF
  have HL0 := Num.hide (h.alloc zReq)
  have HO0 := Num.hide ((Only.refl C w).alloc zReq)
  have HZ0 : Hid ((w.alloc zReq).heap[w.heap.size]? = some zReq) := heap_alloc_new w _
  have hz0 : (w.alloc zReq).heap.size = w.heap.size + 1 := by rw [World.size_alloc]
  clear h
  go_enter Tryz.func66, Tryz.ntmps66
  go_wp2_with fail
  refine (pick_live B C (w.heap.size + 1) _ 7 _ (HL0.out.alloc _) (by omega) (hz0 ▸ heap_alloc_new (w.alloc zReq) _) rfl (by omega) (by omega) (by decide)).mono ?_
  rintro e w1 ⟨m, rfl, hm, hl, ho⟩
  have HL1 := Num.hide hl
  have HO1 := Num.hide ((HO0.out.alloc _).trans ho)
  have HZ1 : Hid (w1.heap[w.heap.size]? = some zReq) := (ho.block _ (by rw [World.size_alloc]; omega) (by omega)).trans ((heap_alloc_old _ _ (by omega)).trans HZ0.out)
  have hz1 : w.heap.size + 1 < w1.heap.size := by have := ho.size; rw [World.size_alloc] at this; omega
  clear hl ho HL0 HO0 HZ0
  go_wp2_with fail
  refine (uri_live B C _ HL1.out).mono ?_
  rintro e w2 ⟨u, rfl, hu, hl, ho⟩
  have hz2 := ho.size
  have hal : Below w2.heap.size w2 (w2.alloc (.cells #[.string m, .string u, .slice none 0 0, .string ⟨#[]⟩] 39)) := (Below.refl _ _).alloc (Nat.le_refl _) _
  have HA : Hid (RqAt B C w w2.heap.size m u (.slice none 0 0) [] 0 (w2.alloc (.cells #[.string m, .string u, .slice none 0 0, .string ⟨#[]⟩] 39))) :=
    ⟨hl.below hal, (HO1.out.trans ho).alloc _, (heap_alloc_old _ _ (by omega)).trans ((ho.block _ (by omega) (by omega)).trans HZ1.out), heap_alloc_new w2 _, Recs.own_nil _ _, ⟨Nat.le_refl _, fun f hf => by cases hf⟩⟩
  have hgq : w.heap.size < w2.heap.size := by omega
  clear hl ho hal HL1 HO1 HZ1
  go_upto_region 2 with fail
  generalize w2.alloc (.cells #[.string m, .string u, .slice none 0 0, .string ⟨#[]⟩] 39) = w3 at HA ⊢
  generalize w2.heap.size = gq at HA hgq hz2 ⊢
  go_wp2_with fail
  refine (below_live B C 3 _ HA.out.live (by omega) (by omega)).mono ?_
  rintro e w4 ⟨z, rfl, hz0', hz1', hl, ho⟩
  obtain ⟨k0, rfl⟩ := Int.eq_ofNat_of_zero_le hz0'
  have HA4 := Num.hide (HA.out.step ho hl hC hgq)
  clear hl ho HA
  go_wp2
  go_loopw [4] (fun nv wr => ∃ (k : Nat) (v : Value) (l : List Flds.Fld), nv = .int .i64 (k : Int) ∧ k ≤ 2 ∧ Hid (RqAt B C w gq m u v l (2 - k) wr)) (fun nv _ => (intOf nv).toNat)
  case atStart => exact ⟨k0, .slice none 0 0, [], rfl, by omega, ⟨HA4.out.live, HA4.out.only, HA4.out.res, HA4.out.box, HA4.out.own, HA4.out.few.mono (by omega)⟩⟩
  case round =>
    clear HA4
    obtain ⟨k, v, l, rfl, hk, HA⟩ := hrel
    obtain ⟨av, cv, hvv⟩ := Recs.own_len HA.out.own
    subst hvv
    by_cases h0 : 0 < (k : Int)
    · go_wp2
      have HA1 := Num.hide (HA.out.step (Only.refl C wr).drew (HA.out.live.below (Below.refl _ _).drew) hC hgq)
      clear HA
      refine wp_region_held_drew (S := fun _ => True) (by kernel_rfl) trivial (fun hHeld => ?_)
      refine Reg.take (i := 0) (d := 17) (v := ?_) rfl rfl (by kernel_rfl) (by kernel_rfl) (by kernel_rfl) (fun _ _ _ h => h) (by rfl) ?_ hHeld ?_
      rotate_left
      · rintro X hX
        first | (go_simp; done) | (go_simp; with_reducible rfl)
      simp only [Act.put, List.setIfInBounds_toArray, List.set_cons_zero, List.set_cons_succ]
      refine Reg.take (i := 2) (d := 19) (v := ?_) rfl rfl (by kernel_rfl) (by kernel_rfl) (by kernel_rfl) (fun _ _ _ h => h) (by rfl) ?_ hHeld ?_
      rotate_left
      · rintro X hX
        first | (go_simp; done) | (go_simp; with_reducible rfl)
      simp only [Act.put, List.setIfInBounds_toArray, List.set_cons_zero, List.set_cons_succ]
      refine Reg.two (i := 1) (j := 3) rfl rfl (by kernel_rfl) (by rfl) (by rfl) (fun K hK => ?_) (fun K hK => ?_)
      · have c2 := Recs.box_cell HA1.out.box 2
        simp only [List.getElem?_toArray, List.getElem?_cons_succ, List.getElem?_cons_zero] at c2
        go_wp2
        clear c2
        refine hK.out _ _ trivial (fun _ => ?_)
        clear hK K
        refine Reg.call (i := 3) rfl (by kernel_rfl) (by rfl) (fun K hK => ?_)
        go_wp2_with (first | (go_at_call 117; refine (field_live B C _ HA1.out.live).mono ?_; rintro e w5 ⟨x, y, rfl, hx, hy, hl, ho⟩))
        have HA5 := Num.hide (HA1.out.step ho hl hC hgq)
        clear hl ho HA1
        refine hK.out _ _ trivial (fun _ => ?_)
        clear hK K
        refine Reg.call (i := 4) rfl (by kernel_rfl) (by rfl) (fun K hK => ?_)
        go_wp2
        refine hK.out _ _ trivial (fun _ => ?_)
        clear hK K
        refine Reg.call (i := 5) rfl (by kernel_rfl) (by rfl) (fun K hK => ?_)
        have hg5 := HA5.out.lt
        have hlen := HA5.out.few.len
        refine wp_append_own _ _ _ 37 rfl (gq + 1) 36 i0 _ 2 32 Tryz.underlying37 hi0 hzz0 hzz1 hzz2 rfl (by decide) _ _ _ rfl (World.ownsRow.alloc HA5.out.own _) ⟨w5.heap.size, 0, none⟩ 1 1 [.string x, .string y] rfl rfl (Flds.cells_two w5 x y) (Flds.two_ok x y) (by unfold maxLen; omega) (by omega) ?c9 ?_
        case c9 => first | omega | (simp; omega)
        intro v' w6 ho6 hg6 _
        obtain ⟨hp1, hp2⟩ := Flds.put_more (by omega : gq + 1 ≤ w5.heap.size) HA5.out.own (Below.refl (gq + 1) w5) ho6 hg6
        have hb6 : w6.heap[gq]? = some (.cells #[.string m, .string u, .slice av l.length cv, .string ⟨#[]⟩] 39 (0, 0)) := (hp2.block gq (by omega)).trans HA5.out.box
        have hr6 : w6.heap[w.heap.size]? = some zReq := (hp2.block _ (by omega)).trans HA5.out.res
        have hn6 : ∀ j, v'.ownBlock = some j → j ≠ gq := fun j hj => by have := (Recs.own_lt hp1 j hj).1; omega
        have HF : Hid (RqAt B C w gq m u v' (l ++ [(x, y)]) (2 - (k - 1)) (w6.setCell ⟨gq, 2, none⟩ v')) :=
          ⟨live_set (HA5.out.live.under hp2 (by omega)) gq 2 _ (by omega), only_set (HA5.out.only.of_below (hp2.mono (by omega))) gq 2 _ (by omega), Recs.box_far hr6 _ (by omega), Recs.box_set hb6 2 v', Recs.own_set hp1 gq 2 v' hn6, (HA5.out.few.more hx hy).mono (by omega)⟩
        have c2 := Recs.box_cell hb6 2
        have z2 := Recs.box_thaw hb6 2
        simp only [List.getElem?_toArray, List.getElem?_cons_succ, List.getElem?_cons_zero] at c2
        clear ho6 hg6 hp1 hp2 hb6 hr6 hn6 HA5 hlen hg5
        refine hK.out _ _ trivial (fun _ => ?_)
        clear hK K
        refine Reg.take (i := 6) (d := 23) (v := ?_) rfl rfl (by kernel_rfl) (by kernel_rfl) (by kernel_rfl) (fun _ _ _ h => h) (by rfl) ?_ hHeld ?_
        rotate_left
        · rintro X hX
          first | (go_simp; done) | (go_simp; with_reducible rfl)
        simp only [Act.put, List.setIfInBounds_toArray, List.set_cons_zero, List.set_cons_succ]
        refine Reg.call (i := 7) rfl (by kernel_rfl) (by rfl) (fun K hK => ?_)
        obtain ⟨a6, q6, hv6⟩ := Recs.own_len HF.out.own
        subst hv6
        rw [List.length_append, List.length_singleton] at HF
        go_wp2
        refine hK.out _ _ trivial (fun _ => ?_)
        clear hK K
        refine wpAnyH_done (by kernel_rfl) ?_ _
        clear c2 z2
        go_wp2
        go_roundw
        case rel => exact ⟨k - 1, _, _, by go_num, by omega, HF⟩
        case measure => simp [intOf]; omega
      · go_wp2_with (first | (go_at_call 117; refine (field_live B C _ HA1.out.live).mono ?_; rintro e w5 ⟨x, y, rfl, hx, hy, hl, ho⟩))
        have HA5 := Num.hide (HA1.out.step ho hl hC hgq)
        clear hl ho HA1
        refine hK.out _ _ trivial (fun _ => ?_)
        clear hK K
        refine Reg.two (i := 1) (j := 4) rfl rfl (by kernel_rfl) (by rfl) (by rfl) (fun K hK => ?_) (fun K hK => ?_)
        · have c2 := Recs.box_cell HA5.out.box 2
          simp only [List.getElem?_toArray, List.getElem?_cons_succ, List.getElem?_cons_zero] at c2
          go_wp2
          clear c2
          refine hK.out _ _ trivial (fun _ => ?_)
          clear hK K
          refine Reg.call (i := 4) rfl (by kernel_rfl) (by rfl) (fun K hK => ?_)
          go_wp2
          refine hK.out _ _ trivial (fun _ => ?_)
          clear hK K
          refine Reg.call (i := 5) rfl (by kernel_rfl) (by rfl) (fun K hK => ?_)
          have hg5 := HA5.out.lt
          have hlen := HA5.out.few.len
          refine wp_append_own _ _ _ 37 rfl (gq + 1) 36 i0 _ 2 32 Tryz.underlying37 hi0 hzz0 hzz1 hzz2 rfl (by decide) _ _ _ rfl (World.ownsRow.alloc HA5.out.own _) ⟨w5.heap.size, 0, none⟩ 1 1 [.string x, .string y] rfl rfl (Flds.cells_two w5 x y) (Flds.two_ok x y) (by unfold maxLen; omega) (by omega) ?c9 ?_
          case c9 => first | omega | (simp; omega)
          intro v' w6 ho6 hg6 _
          obtain ⟨hp1, hp2⟩ := Flds.put_more (by omega : gq + 1 ≤ w5.heap.size) HA5.out.own (Below.refl (gq + 1) w5) ho6 hg6
          have hb6 : w6.heap[gq]? = some (.cells #[.string m, .string u, .slice av l.length cv, .string ⟨#[]⟩] 39 (0, 0)) := (hp2.block gq (by omega)).trans HA5.out.box
          have hr6 : w6.heap[w.heap.size]? = some zReq := (hp2.block _ (by omega)).trans HA5.out.res
          have hn6 : ∀ j, v'.ownBlock = some j → j ≠ gq := fun j hj => by have := (Recs.own_lt hp1 j hj).1; omega
          have HF : Hid (RqAt B C w gq m u v' (l ++ [(x, y)]) (2 - (k - 1)) (w6.setCell ⟨gq, 2, none⟩ v')) :=
            ⟨live_set (HA5.out.live.under hp2 (by omega)) gq 2 _ (by omega), only_set (HA5.out.only.of_below (hp2.mono (by omega))) gq 2 _ (by omega), Recs.box_far hr6 _ (by omega), Recs.box_set hb6 2 v', Recs.own_set hp1 gq 2 v' hn6, (HA5.out.few.more hx hy).mono (by omega)⟩
          have c2 := Recs.box_cell hb6 2
          have z2 := Recs.box_thaw hb6 2
          simp only [List.getElem?_toArray, List.getElem?_cons_succ, List.getElem?_cons_zero] at c2
          clear ho6 hg6 hp1 hp2 hb6 hr6 hn6 HA5 hlen hg5
          refine hK.out _ _ trivial (fun _ => ?_)
          clear hK K
          refine Reg.take (i := 6) (d := 23) (v := ?_) rfl rfl (by kernel_rfl) (by kernel_rfl) (by kernel_rfl) (fun _ _ _ h => h) (by rfl) ?_ hHeld ?_
          rotate_left
          · rintro X hX
            first | (go_simp; done) | (go_simp; with_reducible rfl)
          simp only [Act.put, List.setIfInBounds_toArray, List.set_cons_zero, List.set_cons_succ]
          refine Reg.call (i := 7) rfl (by kernel_rfl) (by rfl) (fun K hK => ?_)
          obtain ⟨a6, q6, hv6⟩ := Recs.own_len HF.out.own
          subst hv6
          rw [List.length_append, List.length_singleton] at HF
          go_wp2
          refine hK.out _ _ trivial (fun _ => ?_)
          clear hK K
          refine wpAnyH_done (by kernel_rfl) ?_ _
          clear c2 z2
          go_wp2
          go_roundw
          case rel => exact ⟨k - 1, _, _, by go_num, by omega, HF⟩
          case measure => simp [intOf]; omega
        · go_wp2
          refine hK.out _ _ trivial (fun _ => ?_)
          clear hK K
          refine Reg.call (i := 1) rfl (by kernel_rfl) (by rfl) (fun K hK => ?_)
          have hbx := (heap_alloc_old w5 (.cells #[.string x, .string y] 36) HA5.out.lt).trans HA5.out.box
          have c2 := Recs.box_cell hbx 2
          simp only [List.getElem?_toArray, List.getElem?_cons_succ, List.getElem?_cons_zero] at c2
          go_wp2
          clear c2 hbx
          refine hK.out _ _ trivial (fun _ => ?_)
          clear hK K
          refine Reg.call (i := 5) rfl (by kernel_rfl) (by rfl) (fun K hK => ?_)
          have hg5 := HA5.out.lt
          have hlen := HA5.out.few.len
          refine wp_append_own _ _ _ 37 rfl (gq + 1) 36 i0 _ 2 32 Tryz.underlying37 hi0 hzz0 hzz1 hzz2 rfl (by decide) _ _ _ rfl (World.ownsRow.alloc HA5.out.own _) ⟨w5.heap.size, 0, none⟩ 1 1 [.string x, .string y] rfl rfl (Flds.cells_two w5 x y) (Flds.two_ok x y) (by unfold maxLen; omega) (by omega) ?c9 ?_
          case c9 => first | omega | (simp; omega)
          intro v' w6 ho6 hg6 _
          obtain ⟨hp1, hp2⟩ := Flds.put_more (by omega : gq + 1 ≤ w5.heap.size) HA5.out.own (Below.refl (gq + 1) w5) ho6 hg6
          have hb6 : w6.heap[gq]? = some (.cells #[.string m, .string u, .slice av l.length cv, .string ⟨#[]⟩] 39 (0, 0)) := (hp2.block gq (by omega)).trans HA5.out.box
          have hr6 : w6.heap[w.heap.size]? = some zReq := (hp2.block _ (by omega)).trans HA5.out.res
          have hn6 : ∀ j, v'.ownBlock = some j → j ≠ gq := fun j hj => by have := (Recs.own_lt hp1 j hj).1; omega
          have HF : Hid (RqAt B C w gq m u v' (l ++ [(x, y)]) (2 - (k - 1)) (w6.setCell ⟨gq, 2, none⟩ v')) :=
            ⟨live_set (HA5.out.live.under hp2 (by omega)) gq 2 _ (by omega), only_set (HA5.out.only.of_below (hp2.mono (by omega))) gq 2 _ (by omega), Recs.box_far hr6 _ (by omega), Recs.box_set hb6 2 v', Recs.own_set hp1 gq 2 v' hn6, (HA5.out.few.more hx hy).mono (by omega)⟩
          have c2 := Recs.box_cell hb6 2
          have z2 := Recs.box_thaw hb6 2
          simp only [List.getElem?_toArray, List.getElem?_cons_succ, List.getElem?_cons_zero] at c2
          clear ho6 hg6 hp1 hp2 hb6 hr6 hn6 HA5 hlen hg5
          refine hK.out _ _ trivial (fun _ => ?_)
          clear hK K
          refine Reg.take (i := 6) (d := 23) (v := ?_) rfl rfl (by kernel_rfl) (by kernel_rfl) (by kernel_rfl) (fun _ _ _ h => h) (by rfl) ?_ hHeld ?_
          rotate_left
          · rintro X hX
            first | (go_simp; done) | (go_simp; with_reducible rfl)
          simp only [Act.put, List.setIfInBounds_toArray, List.set_cons_zero, List.set_cons_succ]
          refine Reg.call (i := 7) rfl (by kernel_rfl) (by rfl) (fun K hK => ?_)
          obtain ⟨a6, q6, hv6⟩ := Recs.own_len HF.out.own
          subst hv6
          rw [List.length_append, List.length_singleton] at HF
          go_wp2
          refine hK.out _ _ trivial (fun _ => ?_)
          clear hK K
          refine wpAnyH_done (by kernel_rfl) ?_ _
          clear c2 z2
          go_wp2
          go_roundw
          case rel => exact ⟨k - 1, _, _, by go_num, by omega, HF⟩
          case measure => simp [intOf]; omega
    · have hgl := HA.out.lt
      have n0 : ∀ j, (Value.slice av l.length cv).ownBlock = some j → j ≠ w.heap.size := fun j hj => by have := (Recs.own_lt HA.out.own j hj).1; omega
      have n1 : ∀ j, (Value.slice av l.length cv).ownBlock = some j → j ≠ gq := fun j hj => by have := (Recs.own_lt HA.out.own j hj).1; omega
      have hq1 : ¬ gq = w.heap.size := by omega
      have hq2 : ¬ w.heap.size = gq := by omega
      have HF2 := Num.hide (HA.out.few.mono (by omega : 2 - k ≤ 2))
      cases hb : (m.toList == [71, 69, 84]) with
      | true =>
      have hb2 : (m.toList != [71, 69, 84]) = false := by rw [bne, hb]; rfl
      have HE : Hid (Flds.Own w.heap.size ((((wr.setCell ⟨w.heap.size, 0, none⟩ (.string m)).setCell ⟨w.heap.size, 1, none⟩ (.string u)).setCell ⟨w.heap.size, 2, none⟩ (.slice av l.length cv)).setCell ⟨w.heap.size, 3, none⟩ (.string ⟨#[]⟩)) (.slice av l.length cv) l ∧ Live B C ((((wr.setCell ⟨w.heap.size, 0, none⟩ (.string m)).setCell ⟨w.heap.size, 1, none⟩ (.string u)).setCell ⟨w.heap.size, 2, none⟩ (.slice av l.length cv)).setCell ⟨w.heap.size, 3, none⟩ (.string ⟨#[]⟩)) ∧ Only C w ((((wr.setCell ⟨w.heap.size, 0, none⟩ (.string m)).setCell ⟨w.heap.size, 1, none⟩ (.string u)).setCell ⟨w.heap.size, 2, none⟩ (.slice av l.length cv)).setCell ⟨w.heap.size, 3, none⟩ (.string ⟨#[]⟩))) := by
        have o1 := Recs.own_set (HA.out.own) w.heap.size 0 (.string m) n0
        have o2 := Recs.own_set o1 w.heap.size 1 (.string u) n0
        have o3 := Recs.own_set o2 w.heap.size 2 (.slice av l.length cv) n0
        have o4 := Recs.own_set o3 w.heap.size 3 (.string ⟨#[]⟩) n0
        refine ⟨Recs.own_mono o4 (by omega), ?_, ?_⟩
        · exact live_set (live_set (live_set (live_set (HA.out.live) _ 0 _ hC) _ 1 _ hC) _ 2 _ hC) _ 3 _ hC
        · exact only_set (only_set (only_set (only_set (HA.out.only) _ 0 _ (Nat.le_refl _)) _ 1 _ (Nat.le_refl _)) _ 2 _ (Nat.le_refl _)) _ 3 _ (Nat.le_refl _)
      have k0 := Recs.box_cell (HA.out.box) 0
      have k1 := Recs.box_cell (HA.out.box) 1
      have k2 := Recs.box_cell (HA.out.box) 2
      have k3 := Recs.box_cell (HA.out.box) 3
      have z3 := Recs.box_thaw (HA.out.box) 3
      have o0 := Recs.box_cell (HA.out.res) 0
      have y0 := Recs.box_thaw (HA.out.res) 0
      have o1 := Recs.box_cell (HA.out.res) 1
      have y1 := Recs.box_thaw (HA.out.res) 1
      have o2 := Recs.box_cell (HA.out.res) 2
      have y2 := Recs.box_thaw (HA.out.res) 2
      have o3 := Recs.box_cell (HA.out.res) 3
      have y3 := Recs.box_thaw (HA.out.res) 3
      simp only [List.getElem?_toArray, List.getElem?_cons_succ, List.getElem?_cons_zero] at k0 k1 k2 k3 o0 o1 o2 o3
      clear HA
      obtain ⟨r, hr⟩ : ∃ r, w.heap.size = r := ⟨_, rfl⟩
      rw [hr] at HE o0 o1 o2 o3 y0 y1 y2 y3 hq1 hq2 ⊢
      clear n0 n1
      go_wp2
      exact bodyPost_ret (v := .agg #[.string m, .string u, .slice av l.length cv, .string ⟨#[]⟩]) (by simp [results, Tryz.results66, go_sem, *]) rfl ⟨m, u, _, l, ⟨#[]⟩, rfl, hm, hu, hr ▸ HE.out.1, HF2.out, by decide, HE.out.2.1, HE.out.2.2⟩
      | false =>
      have hb2 : (m.toList != [71, 69, 84]) = true := by rw [bne, hb]; rfl
      have k0 := Recs.box_cell HA.out.box 0
      simp only [List.getElem?_toArray, List.getElem?_cons_succ, List.getElem?_cons_zero] at k0
      go_wp2_with fail
      refine (text_live B C 6 _ HA.out.live (by omega)).mono ?_
      rintro e w7 ⟨t, rfl, ht, hl, ho⟩
      have HA7 := Num.hide (HA.out.step ho hl hC hgq)
      clear hl ho k0 HA
      have HE : Hid (Flds.Own w.heap.size (((((w7.setCell ⟨gq, 3, none⟩ (.string t)).setCell ⟨w.heap.size, 0, none⟩ (.string m)).setCell ⟨w.heap.size, 1, none⟩ (.string u)).setCell ⟨w.heap.size, 2, none⟩ (.slice av l.length cv)).setCell ⟨w.heap.size, 3, none⟩ (.string t)) (.slice av l.length cv) l ∧ Live B C (((((w7.setCell ⟨gq, 3, none⟩ (.string t)).setCell ⟨w.heap.size, 0, none⟩ (.string m)).setCell ⟨w.heap.size, 1, none⟩ (.string u)).setCell ⟨w.heap.size, 2, none⟩ (.slice av l.length cv)).setCell ⟨w.heap.size, 3, none⟩ (.string t)) ∧ Only C w (((((w7.setCell ⟨gq, 3, none⟩ (.string t)).setCell ⟨w.heap.size, 0, none⟩ (.string m)).setCell ⟨w.heap.size, 1, none⟩ (.string u)).setCell ⟨w.heap.size, 2, none⟩ (.slice av l.length cv)).setCell ⟨w.heap.size, 3, none⟩ (.string t))) := by
        have o1 := Recs.own_set (Recs.own_set HA7.out.own gq 3 (.string t) n1) w.heap.size 0 (.string m) n0
        have o2 := Recs.own_set o1 w.heap.size 1 (.string u) n0
        have o3 := Recs.own_set o2 w.heap.size 2 (.slice av l.length cv) n0
        have o4 := Recs.own_set o3 w.heap.size 3 (.string t) n0
        refine ⟨Recs.own_mono o4 (by omega), ?_, ?_⟩
        · exact live_set (live_set (live_set (live_set (live_set HA7.out.live gq 3 _ (by omega)) _ 0 _ hC) _ 1 _ hC) _ 2 _ hC) _ 3 _ hC
        · exact only_set (only_set (only_set (only_set (only_set HA7.out.only gq 3 _ (by omega)) _ 0 _ (Nat.le_refl _)) _ 1 _ (Nat.le_refl _)) _ 2 _ (Nat.le_refl _)) _ 3 _ (Nat.le_refl _)
      have k0 := Recs.box_cell (HA7.out.box) 0
      have k1 := Recs.box_cell (HA7.out.box) 1
      have k2 := Recs.box_cell (HA7.out.box) 2
      have k3 := Recs.box_cell (HA7.out.box) 3
      have z3 := Recs.box_thaw (HA7.out.box) 3
      have o0 := Recs.box_cell (HA7.out.res) 0
      have y0 := Recs.box_thaw (HA7.out.res) 0
      have o1 := Recs.box_cell (HA7.out.res) 1
      have y1 := Recs.box_thaw (HA7.out.res) 1
      have o2 := Recs.box_cell (HA7.out.res) 2
      have y2 := Recs.box_thaw (HA7.out.res) 2
      have o3 := Recs.box_cell (HA7.out.res) 3
      have y3 := Recs.box_thaw (HA7.out.res) 3
      simp only [List.getElem?_toArray, List.getElem?_cons_succ, List.getElem?_cons_zero] at k0 k1 k2 k3 o0 o1 o2 o3
      clear HA7
      obtain ⟨r, hr⟩ : ∃ r, w.heap.size = r := ⟨_, rfl⟩
      rw [hr] at HE o0 o1 o2 o3 y0 y1 y2 y3 hq1 hq2 ⊢
      clear n0 n1
      go_wp2
      exact bodyPost_ret (v := .agg #[.string m, .string u, .slice av l.length cv, .string t]) (by simp [results, Tryz.results66, go_sem, *]) rfl ⟨m, u, _, l, t, rfl, hm, hu, hr ▸ HE.out.1, HF2.out, by omega, HE.out.2.1, HE.out.2.2⟩
end Draw
end Go.Proofs.YtbajfklnekfeoaaGreatDoor
namespace Go.Proofs.YtbajfklnekfeoaaGreatDoor
open Go.RowKit
set_option linter.unusedVariables false
set_option linter.unusedSimpArgs false
namespace Draw

/-- a request that is drawn: its box, the box of what is told, and the cursor -/
structure RpAt (w : World) (C gq : Nat) (m u : ByteArray) (v : Value) (l : List Flds.Fld) (b : ByteArray) (X : World) : Prop where
  live : Live w.heap.size C X
  below : Below w.heap.size w X
  res : X.heap[w.heap.size]? = some zReq
  box : X.heap[gq]? = some (.cells #[.string m, .string u, v, .string b] 39)
  own : Flds.Own (C + 1) X v l
theorem RpAt.step {w : World} {C gq : Nat} {m u : ByteArray} {v : Value} {l : List Flds.Fld} {b : ByteArray} {X X' : World} (h : RpAt w C gq m u v l b X) (ho : Only C X X') (hl : Live w.heap.size C X') (hC : w.heap.size < C) (hg : C < gq) : RpAt w C gq m u v l b X' := by
  have hx : gq < X.heap.size := (Array.getElem?_eq_some_iff.1 h.box).1
  exact ⟨hl, h.below.trans (ho.below (by omega) h.live.lt), (ho.block _ (by omega) (by omega)).trans h.res, (ho.block _ hx (by omega)).trans h.box, own_only h.own ho (by omega)⟩
theorem rp_end {w : World} {C : Nat} {m u : ByteArray} {v : Value} {l : List Flds.Fld} {b : ByteArray} {X : World} (hb : Below w.heap.size w X) (ho : Flds.Own (C + 1) X v l) (hC : w.heap.size < C) :
    Flds.Own w.heap.size ((((X.setCell ⟨w.heap.size, 0, none⟩ (.string m)).setCell ⟨w.heap.size, 1, none⟩ (.string u)).setCell ⟨w.heap.size, 2, none⟩ v).setCell ⟨w.heap.size, 3, none⟩ (.string b)) v l ∧ Below w.heap.size w ((((X.setCell ⟨w.heap.size, 0, none⟩ (.string m)).setCell ⟨w.heap.size, 1, none⟩ (.string u)).setCell ⟨w.heap.size, 2, none⟩ v).setCell ⟨w.heap.size, 3, none⟩ (.string b)) := by
  have n0 : ∀ j, v.ownBlock = some j → j ≠ w.heap.size := fun j hj => by have := (Recs.own_lt ho j hj).1; omega
  have o1 := Recs.own_set ho w.heap.size 0 (.string m) n0
  have o2 := Recs.own_set o1 w.heap.size 1 (.string u) n0
  have o3 := Recs.own_set o2 w.heap.size 2 v n0
  have o4 := Recs.own_set o3 w.heap.size 3 (.string b) n0
  exact ⟨Recs.own_mono o4 (by omega), (((hb.setCell (p := ⟨w.heap.size, 0, none⟩) (Nat.le_refl _) _).setCell (p := ⟨w.heap.size, 1, none⟩) (Nat.le_refl _) _).setCell (p := ⟨w.heap.size, 2, none⟩) (Nat.le_refl _) _).setCell (p := ⟨w.heap.size, 3, none⟩) (Nat.le_refl _) _⟩
theorem RpAt.lt {w : World} {C gq : Nat} {m u : ByteArray} {v : Value} {l : List Flds.Fld} {b : ByteArray} {X : World} (h : RpAt w C gq m u v l b X) : gq < X.heap.size := (Array.getElem?_eq_some_iff.1 h.box).1
/-- how long the body in the box is -/
def lenAt (gq : Nat) (X : World) : Nat := match X.cell? ⟨gq, 3, none⟩ with | some (.string b) => b.size | _ => 0
theorem len_at {w : World} {C gq : Nat} {m u : ByteArray} {v : Value} {l : List Flds.Fld} {b : ByteArray} {X : World} (h : RpAt w C gq m u v l b X) : lenAt gq X = b.size := by
  have c := Recs.box_cell h.box 3
  simp only [List.getElem?_toArray, List.getElem?_cons_succ, List.getElem?_cons_zero] at c
  unfold lenAt
  rw [c]
/-- a row of fields is no box of a request -/
theorem own_not {B : Nat} {X : World} {v : Value} {l : List Flds.Fld} (h : Flds.Own B X v l) {g : Nat} {cs : Array Value} (hb : X.heap[g]? = some (.cells cs 39 (0, 0))) : ∀ j, v.ownBlock = some j → j ≠ g := by
  intro j hj e
  subst e
  rcases h.2 with ⟨h1, _⟩ | ⟨k, cap, cur, h1, _, hk, _⟩
  · rw [h1] at hj; cases hj
  · rw [h1] at hj
    have e2 : k = j := Option.some.inj hj
    rw [e2, hb] at hk
    have e3 := Option.some.inj hk
    injection e3 with _ ht _
    exact absurd ht (by decide)
set_option maxRecDepth 100000 in
set_option maxHeartbeats 4000000 in
theorem drawReqOk (cap : Nat) (a : Option Addr) (l0 : List Int) (w : World) (hcode : CodeAt w.heap.size w a l0) (hl0 : l0.length ≤ 1048576) :
    Calls Tryz.prog 49 #[.slice a l0.length cap] w fun e w' => ∃ m u v l b, e = .returned (Req.val m u v b) ∧ m.size ≤ 64 ∧ u.size ≤ 64 ∧ Flds.Own w.heap.size w' v l ∧ Few 13 l ∧ b.size ≤ 64 ∧ Below w.heap.size w w' := by
  obtain ⟨i0, hi0, hzz0, hzz1, hzz2⟩ := info_parts Flds.infoF
  have hb0 : Below w.heap.size w (w.alloc zReq) := (Below.refl _ _).alloc (Nat.le_refl _) _
  have HC := Num.hide (hcode.below hb0)
  have HZ0 : Hid ((w.alloc zReq).heap[w.heap.size]? = some zReq) := heap_alloc_new w _
  have hz0 : (w.alloc zReq).heap.size = w.heap.size + 1 := by rw [World.size_alloc]
  have HB0 := Num.hide hb0
  clear hcode hb0
  go_enter Tryz.func49, Tryz.ntmps49
  go_wp2_with fail
  refine (new_at w.heap.size cap a l0 _ (by rw [World.size_alloc]; omega) HC.out hl0).mono ?_
  rintro e w1 ⟨C, rfl, hC, h1, b1⟩
  have HL : Hid (Live w.heap.size C w1) := ⟨_, _, _, _, h1⟩
  have hCl := h1.lt
  have hCw : w.heap.size < C := by omega
  have HB1 := Num.hide (HB0.out.trans (b1.mono (by omega)))
  have HZ1 : Hid (w1.heap[w.heap.size]? = some zReq) := (b1.block _ (by omega)).trans HZ0.out
  clear h1 b1 HC HB0 HZ0
  go_wp2_with fail
  refine (req_live _ C _ HL.out).mono ?_
  rintro e w2 ⟨m, u, v, l, b, rfl, hm, hu, hv, hf, hb, hl, ho⟩
  have HF := Num.hide hf
  have hz2 := ho.size
  obtain ⟨av, cv, hvv⟩ := Recs.own_len hv
  subst hvv
  have hal : Below w2.heap.size w2 (w2.alloc (.cells #[.string m, .string u, .slice av l.length cv, .string b] 39)) := (Below.refl _ _).alloc (Nat.le_refl _) _
  have HA : Hid (RpAt w C w2.heap.size m u (.slice av l.length cv) l b (w2.alloc (.cells #[.string m, .string u, .slice av l.length cv, .string b] 39))) :=
    ⟨hl.below hal, (HB1.out.trans (ho.below (by omega) hCl)).trans (hal.mono (by omega)), (heap_alloc_old _ _ (by omega)).trans ((ho.block _ (by omega) (by omega)).trans HZ1.out), heap_alloc_new w2 _, Recs.own_mono (Recs.own_below hv hal) (by omega)⟩
  have hn2 : ∀ j, (Value.slice av l.length cv).ownBlock = some j → j ≠ w2.heap.size := fun j hj => by have := (Recs.own_lt hv j hj).2; omega
  have hgq : C < w2.heap.size := by omega
  unfold Req.val
  clear hv hf hl ho hal HB1 HZ1 HL
  go_upto_region 3 with fail
  generalize w2.alloc (.cells #[.string m, .string u, .slice av l.length cv, .string b] 39) = w3 at HA ⊢
  generalize w2.heap.size = gq at HA hgq hn2 hz2 ⊢
  go_wp2_with fail
  refine (below_live _ C 10 _ HA.out.live (by omega) (by omega)).mono ?_
  rintro e w4 ⟨z, rfl, hz0', hz1', hl, ho⟩
  have HA4 := Num.hide (HA.out.step ho hl hCw hgq)
  clear hl ho HA
  -- branches
  go_upto_block 0 with fail
  go_cut [] from 11 (fun wx => ∃ (m u : ByteArray) (v : Value) (l : List Flds.Fld) (b : ByteArray), m.size ≤ 64 ∧ u.size ≤ 64 ∧ b.size ≤ 64 ∧ Few 13 l ∧ Hid (RpAt w C gq m u v l b wx))
  case first =>
    by_cases c0 : z = 0
    · subst c0
      go_wp2_with fail
      refine (pick_live _ C w4.heap.size _ 3 _ (HA4.out.live.alloc _) (by have := HA4.out.live.lt; omega) (heap_alloc_new w4 _) rfl (by omega) (by omega) (by decide)).mono ?_
      rintro e w5 ⟨mx, rfl, hmx, hl, ho⟩
      have HA5 := Num.hide (HA4.out.step (((Only.refl C w4).alloc _).trans ho) hl hCw hgq)
      clear hl ho HA4
      have HR : Hid (RpAt w C gq mx u (.slice av l.length cv) l b (w5.setCell ⟨gq, 0, none⟩ (.string mx))) := ⟨live_set HA5.out.live gq 0 _ hgq, HA5.out.below.setCell (p := ⟨gq, 0, none⟩) (by show w.heap.size ≤ gq; omega) (.string mx), Recs.box_far HA5.out.res _ (by omega), Recs.box_set HA5.out.box 0 (.string mx), Recs.own_set HA5.out.own gq 0 _ hn2⟩
      have k0 := Recs.box_cell HA5.out.box 0
      have z0 := Recs.box_thaw HA5.out.box 0
      simp only [List.getElem?_toArray, List.getElem?_cons_succ, List.getElem?_cons_zero] at k0
      clear HA5
      go_wp2
      go_meet
      case rel => exact ⟨mx, u, .slice av l.length cv, l, b, hmx, hu, hb, HF.out.mono (by omega), HR⟩
    · have d0 : (z == 0) = false := by rw [beq_eq_false_iff_ne]; exact c0
      by_cases c1 : z = 1
      · subst c1
        have HR : Hid (RpAt w C gq m ⟨#[120]⟩ (.slice av l.length cv) l b (w4.setCell ⟨gq, 1, none⟩ (.string ⟨#[120]⟩))) := ⟨live_set HA4.out.live gq 1 _ hgq, HA4.out.below.setCell (p := ⟨gq, 1, none⟩) (by show w.heap.size ≤ gq; omega) (.string ⟨#[120]⟩), Recs.box_far HA4.out.res _ (by omega), Recs.box_set HA4.out.box 1 (.string ⟨#[120]⟩), Recs.own_set HA4.out.own gq 1 _ hn2⟩
        have k1 := Recs.box_cell HA4.out.box 1
        have z1 := Recs.box_thaw HA4.out.box 1
        simp only [List.getElem?_toArray, List.getElem?_cons_succ, List.getElem?_cons_zero] at k1
        clear HA4
        go_wp2
        go_meet
        case rel => exact ⟨m, ⟨#[120]⟩, .slice av l.length cv, l, b, hm, by decide, hb, HF.out.mono (by omega), HR⟩
      · have d1 : (z == 1) = false := by rw [beq_eq_false_iff_ne]; exact c1
        by_cases c2 : z = 2
        · subst c2
          go_wp2_with fail
          refine (any_live _ C _ HA4.out.live).mono ?_
          rintro e w5 ⟨v5, l5, rfl, hv5, hf5, hl, ho⟩
          have hCl4 := HA4.out.live.lt
          have HA5 := Num.hide (HA4.out.step ho hl hCw hgq)
          have hg4 : gq < w4.heap.size := (Array.getElem?_eq_some_iff.1 HA4.out.box).1
          have HF5 := Num.hide hf5
          have hn5 : ∀ j, v5.ownBlock = some j → j ≠ gq := fun j hj => by have := (Recs.own_lt hv5 j hj).1; omega
          have HR : Hid (RpAt w C gq m u v5 l5 b (w5.setCell ⟨gq, 2, none⟩ v5)) := ⟨live_set HA5.out.live gq 2 _ hgq, HA5.out.below.setCell (p := ⟨gq, 2, none⟩) (by show w.heap.size ≤ gq; omega) v5, Recs.box_far HA5.out.res _ (by omega), Recs.box_set HA5.out.box 2 v5, Recs.own_set (Recs.own_mono hv5 (by omega : C + 1 ≤ w4.heap.size)) gq 2 _ hn5⟩
          obtain ⟨a5, q5, hv6⟩ := Recs.own_len hv5
          subst hv6
          clear hl ho HA4 hv5 hf5 hn5
          have k2 := Recs.box_cell HA5.out.box 2
          have z2 := Recs.box_thaw HA5.out.box 2
          simp only [List.getElem?_toArray, List.getElem?_cons_succ, List.getElem?_cons_zero] at k2
          clear HA5
          go_wp2
          go_meet
          case rel => exact ⟨m, u, .slice a5 l5.length q5, l5, b, hm, hu, hb, HF5.out, HR⟩
        · have d2 : (z == 2) = false := by rw [beq_eq_false_iff_ne]; exact c2
          by_cases c3 : z = 3
          · subst c3
            have HA1 := Num.hide (HA4.out.step (Only.refl C w4).drew (HA4.out.live.below (Below.refl _ _).drew) hCw hgq)
            clear HA4
            go_wp2
            refine wp_region_held_drew (S := fun _ => True) (by kernel_rfl) trivial (fun hHeld => ?_)
            refine Reg.take (i := 0) (d := 27) (v := ?_) rfl rfl (by kernel_rfl) (by kernel_rfl) (by kernel_rfl) (fun _ _ _ h => h) (by rfl) ?_ hHeld ?_
            rotate_left
            · rintro X hX
              first | (go_simp; done) | (go_simp; with_reducible rfl)
            simp only [Act.put, List.setIfInBounds_toArray, List.set_cons_zero, List.set_cons_succ]
            refine Reg.take (i := 2) (d := 29) (v := ?_) rfl rfl (by kernel_rfl) (by kernel_rfl) (by kernel_rfl) (fun _ _ _ h => h) (by rfl) ?_ hHeld ?_
            rotate_left
            · rintro X hX
              first | (go_simp; done) | (go_simp; with_reducible rfl)
            simp only [Act.put, List.setIfInBounds_toArray, List.set_cons_zero, List.set_cons_succ]
            refine Reg.two (i := 1) (j := 3) rfl rfl (by kernel_rfl) (by rfl) (by rfl) (fun K hK => ?_) (fun K hK => ?_)
            · have c2 := Recs.box_cell HA1.out.box 2
              simp only [List.getElem?_toArray, List.getElem?_cons_succ, List.getElem?_cons_zero] at c2
              go_wp2
              clear c2
              refine hK.out _ _ trivial (fun _ => ?_)
              clear hK K
              refine Reg.call (i := 3) rfl (by kernel_rfl) (by rfl) (fun K hK => ?_)
              go_wp2
              refine hK.out _ _ trivial (fun _ => ?_)
              clear hK K
              refine Reg.call (i := 4) rfl (by kernel_rfl) (by rfl) (fun K hK => ?_)
              go_wp2_with (first | (go_at_call 70; refine (pick_live _ C w4.drew.heap.size _ 2 _ (HA1.out.live.alloc _) (by have := HA1.out.live.lt; omega) (heap_alloc_new w4.drew _) rfl (by omega) (by omega) (by decide)).mono ?_; rintro e w5 ⟨x, rfl, hx, hl, ho⟩))
              have HA5 := Num.hide (HA1.out.step (((Only.refl C w4.drew).alloc _).trans ho) hl hCw hgq)
              clear hl ho HA1
              refine hK.out _ _ trivial (fun _ => ?_)
              clear hK K
              refine Reg.take (i := 5) (d := 32) (v := ?_) rfl rfl (by kernel_rfl) (by kernel_rfl) (by kernel_rfl) (fun _ _ _ h => h) (by rfl) ?_ hHeld ?_
              rotate_left
              · rintro X hX
                first | (go_simp; done) | (go_simp; with_reducible rfl)
              simp only [Act.put, List.setIfInBounds_toArray, List.set_cons_zero, List.set_cons_succ]
              refine Reg.call (i := 6) rfl (by kernel_rfl) (by rfl) (fun K hK => ?_)
              go_wp2
              refine hK.out _ _ trivial (fun _ => ?_)
              clear hK K
              refine Reg.call (i := 7) rfl (by kernel_rfl) (by rfl) (fun K hK => ?_)
              have hg5 := HA5.out.lt
              have hlen := HF.out.len
              refine wp_append_own _ _ _ 37 rfl (C + 1) 36 i0 _ 2 32 Tryz.underlying37 hi0 hzz0 hzz1 hzz2 rfl (by decide) (.slice av l.length cv) l.length (l.flatMap Flds.cells) rfl (World.ownsRow.alloc HA5.out.own _) ⟨w5.heap.size, 0, none⟩ 1 1 [.string x, .string ⟨#[53]⟩] rfl rfl (Flds.cells_two w5 x ⟨#[53]⟩) (Flds.two_ok x ⟨#[53]⟩) (by unfold maxLen; omega) (by omega) ?c9 ?_
              case c9 => first | omega | (simp; omega)
              intro v' w6 ho6 hg6 _
              have hC5 : C + 1 ≤ w5.heap.size := by omega
              have hgr := Recs.grown_trans (World.grownBy_alloc w5 (.cells #[.string x, .string ⟨#[53]⟩] 36) (Value.slice av l.length cv).ownBlock) hg6
              obtain ⟨hp1, hp2⟩ := Flds.put_more hC5 HA5.out.own (Below.refl (C + 1) w5) ho6 hg6
              have hb6 : w6.heap[gq]? = some (.cells #[.string m, .string u, .slice av l.length cv, .string b] 39 (0, 0)) := (hgr.block gq hg5 (fun e => hn2 gq e.symm rfl)).trans HA5.out.box
              have hr6 : w6.heap[w.heap.size]? = some zReq := (hp2.block _ (by omega)).trans HA5.out.res
              have hn6 := own_not hp1 hb6
              have HR : Hid (RpAt w C gq m u v' (l ++ [(x, ⟨#[53]⟩)]) b (w6.setCell ⟨gq, 2, none⟩ v')) :=
                ⟨live_set (HA5.out.live.under hp2 (by omega)) gq 2 _ hgq, (HA5.out.below.trans (hp2.mono (by omega))).setCell (p := ⟨gq, 2, none⟩) (by show w.heap.size ≤ gq; omega) v', Recs.box_far hr6 _ (by omega), Recs.box_set hb6 2 v', Recs.own_set hp1 gq 2 v' hn6⟩
              have HF6 := Num.hide ((HF.out.more hx (by decide : (⟨#[53]⟩ : ByteArray).size ≤ 64)).mono (by omega : _ ≤ 13))
              have k2 := Recs.box_cell hb6 2
              have z2 := Recs.box_thaw hb6 2
              simp only [List.getElem?_toArray, List.getElem?_cons_succ, List.getElem?_cons_zero] at k2
              clear ho6 hg6 hp1 hp2 hb6 hr6 hn6 HA5 hlen hg5 hgr hC5
              refine hK.out _ _ trivial (fun _ => ?_)
              clear hK K
              refine Reg.take (i := 8) (d := 35) (v := ?_) rfl rfl (by kernel_rfl) (by kernel_rfl) (by kernel_rfl) (fun _ _ _ h => h) (by rfl) ?_ hHeld ?_
              rotate_left
              · rintro X hX
                first | (go_simp; done) | (go_simp; with_reducible rfl)
              simp only [Act.put, List.setIfInBounds_toArray, List.set_cons_zero, List.set_cons_succ]
              refine Reg.call (i := 9) rfl (by kernel_rfl) (by rfl) (fun K hK => ?_)
              obtain ⟨a6, q6, hv6⟩ := Recs.own_len HR.out.own
              subst hv6
              rw [List.length_append, List.length_singleton] at HR
              go_wp2
              refine hK.out _ _ trivial (fun _ => ?_)
              clear hK K
              refine wpAnyH_done (by kernel_rfl) ?_ _
              clear k2 z2
              go_wp2
              go_meet
              case rel => exact ⟨m, u, _, _, b, hm, hu, hb, HF6.out, HR⟩
            · go_wp2
              refine hK.out _ _ trivial (fun _ => ?_)
              clear hK K
              refine Reg.two (i := 1) (j := 4) rfl rfl (by kernel_rfl) (by rfl) (by rfl) (fun K hK => ?_) (fun K hK => ?_)
              · have c2 := Recs.box_cell ((heap_alloc_old w4.drew (.cells #[.string ⟨#[99, 111, 110, 116, 101, 110, 116, 45, 108, 101, 110, 103, 116, 104]⟩, .string ⟨#[116, 114, 97, 110, 115, 102, 101, 114, 45, 101, 110, 99, 111, 100, 105, 110, 103]⟩] 9) HA1.out.lt).trans HA1.out.box) 2
                simp only [List.getElem?_toArray, List.getElem?_cons_succ, List.getElem?_cons_zero] at c2
                have c2b : (w4.alloc (.cells #[.string ⟨#[99, 111, 110, 116, 101, 110, 116, 45, 108, 101, 110, 103, 116, 104]⟩, .string ⟨#[116, 114, 97, 110, 115, 102, 101, 114, 45, 101, 110, 99, 111, 100, 105, 110, 103]⟩] 9)).cell? ⟨gq, 2, none⟩ = some (.slice av l.length cv) := c2
                go_wp2
                clear c2 c2b
                refine hK.out _ _ trivial (fun _ => ?_)
                clear hK K
                refine Reg.call (i := 4) rfl (by kernel_rfl) (by rfl) (fun K hK => ?_)
                go_wp2_with (first | (go_at_call 70; refine (pick_live _ C w4.drew.heap.size _ 2 _ (HA1.out.live.alloc _) (by have := HA1.out.live.lt; omega) (heap_alloc_new w4.drew _) rfl (by omega) (by omega) (by decide)).mono ?_; rintro e w5 ⟨x, rfl, hx, hl, ho⟩))
                have HA5 := Num.hide (HA1.out.step (((Only.refl C w4.drew).alloc _).trans ho) hl hCw hgq)
                clear hl ho HA1
                refine hK.out _ _ trivial (fun _ => ?_)
                clear hK K
                refine Reg.take (i := 5) (d := 32) (v := ?_) rfl rfl (by kernel_rfl) (by kernel_rfl) (by kernel_rfl) (fun _ _ _ h => h) (by rfl) ?_ hHeld ?_
                rotate_left
                · rintro X hX
                  first | (go_simp; done) | (go_simp; with_reducible rfl)
                simp only [Act.put, List.setIfInBounds_toArray, List.set_cons_zero, List.set_cons_succ]
                refine Reg.call (i := 6) rfl (by kernel_rfl) (by rfl) (fun K hK => ?_)
                go_wp2
                refine hK.out _ _ trivial (fun _ => ?_)
                clear hK K
                refine Reg.call (i := 7) rfl (by kernel_rfl) (by rfl) (fun K hK => ?_)
                have hg5 := HA5.out.lt
                have hlen := HF.out.len
                refine wp_append_own _ _ _ 37 rfl (C + 1) 36 i0 _ 2 32 Tryz.underlying37 hi0 hzz0 hzz1 hzz2 rfl (by decide) (.slice av l.length cv) l.length (l.flatMap Flds.cells) rfl (World.ownsRow.alloc HA5.out.own _) ⟨w5.heap.size, 0, none⟩ 1 1 [.string x, .string ⟨#[53]⟩] rfl rfl (Flds.cells_two w5 x ⟨#[53]⟩) (Flds.two_ok x ⟨#[53]⟩) (by unfold maxLen; omega) (by omega) ?c9 ?_
                case c9 => first | omega | (simp; omega)
                intro v' w6 ho6 hg6 _
                have hC5 : C + 1 ≤ w5.heap.size := by omega
                have hgr := Recs.grown_trans (World.grownBy_alloc w5 (.cells #[.string x, .string ⟨#[53]⟩] 36) (Value.slice av l.length cv).ownBlock) hg6
                obtain ⟨hp1, hp2⟩ := Flds.put_more hC5 HA5.out.own (Below.refl (C + 1) w5) ho6 hg6
                have hb6 : w6.heap[gq]? = some (.cells #[.string m, .string u, .slice av l.length cv, .string b] 39 (0, 0)) := (hgr.block gq hg5 (fun e => hn2 gq e.symm rfl)).trans HA5.out.box
                have hr6 : w6.heap[w.heap.size]? = some zReq := (hp2.block _ (by omega)).trans HA5.out.res
                have hn6 := own_not hp1 hb6
                have HR : Hid (RpAt w C gq m u v' (l ++ [(x, ⟨#[53]⟩)]) b (w6.setCell ⟨gq, 2, none⟩ v')) :=
                  ⟨live_set (HA5.out.live.under hp2 (by omega)) gq 2 _ hgq, (HA5.out.below.trans (hp2.mono (by omega))).setCell (p := ⟨gq, 2, none⟩) (by show w.heap.size ≤ gq; omega) v', Recs.box_far hr6 _ (by omega), Recs.box_set hb6 2 v', Recs.own_set hp1 gq 2 v' hn6⟩
                have HF6 := Num.hide ((HF.out.more hx (by decide : (⟨#[53]⟩ : ByteArray).size ≤ 64)).mono (by omega : _ ≤ 13))
                have k2 := Recs.box_cell hb6 2
                have z2 := Recs.box_thaw hb6 2
                simp only [List.getElem?_toArray, List.getElem?_cons_succ, List.getElem?_cons_zero] at k2
                clear ho6 hg6 hp1 hp2 hb6 hr6 hn6 HA5 hlen hg5 hgr hC5
                refine hK.out _ _ trivial (fun _ => ?_)
                clear hK K
                refine Reg.take (i := 8) (d := 35) (v := ?_) rfl rfl (by kernel_rfl) (by kernel_rfl) (by kernel_rfl) (fun _ _ _ h => h) (by rfl) ?_ hHeld ?_
                rotate_left
                · rintro X hX
                  first | (go_simp; done) | (go_simp; with_reducible rfl)
                simp only [Act.put, List.setIfInBounds_toArray, List.set_cons_zero, List.set_cons_succ]
                refine Reg.call (i := 9) rfl (by kernel_rfl) (by rfl) (fun K hK => ?_)
                obtain ⟨a6, q6, hv6⟩ := Recs.own_len HR.out.own
                subst hv6
                rw [List.length_append, List.length_singleton] at HR
                go_wp2
                refine hK.out _ _ trivial (fun _ => ?_)
                clear hK K
                refine wpAnyH_done (by kernel_rfl) ?_ _
                clear k2 z2
                go_wp2
                go_meet
                case rel => exact ⟨m, u, _, _, b, hm, hu, hb, HF6.out, HR⟩
              · go_wp2_with (first | (go_at_call 70; refine (pick_live _ C w4.drew.heap.size _ 2 _ (HA1.out.live.alloc _) (by have := HA1.out.live.lt; omega) (heap_alloc_new w4.drew _) rfl (by omega) (by omega) (by decide)).mono ?_; rintro e w5 ⟨x, rfl, hx, hl, ho⟩))
                have HA5 := Num.hide (HA1.out.step (((Only.refl C w4.drew).alloc _).trans ho) hl hCw hgq)
                clear hl ho HA1
                refine hK.out _ _ trivial (fun _ => ?_)
                clear hK K
                refine Reg.take (i := 5) (d := 32) (v := ?_) rfl rfl (by kernel_rfl) (by kernel_rfl) (by kernel_rfl) (fun _ _ _ h => h) (by rfl) ?_ hHeld ?_
                rotate_left
                · rintro X hX
                  first | (go_simp; done) | (go_simp; with_reducible rfl)
                simp only [Act.put, List.setIfInBounds_toArray, List.set_cons_zero, List.set_cons_succ]
                refine Reg.two (i := 1) (j := 6) rfl rfl (by kernel_rfl) (by rfl) (by rfl) (fun K hK => ?_) (fun K hK => ?_)
                · have c2 := Recs.box_cell HA5.out.box 2
                  simp only [List.getElem?_toArray, List.getElem?_cons_succ, List.getElem?_cons_zero] at c2
                  go_wp2
                  clear c2
                  refine hK.out _ _ trivial (fun _ => ?_)
                  clear hK K
                  refine Reg.call (i := 6) rfl (by kernel_rfl) (by rfl) (fun K hK => ?_)
                  go_wp2
                  refine hK.out _ _ trivial (fun _ => ?_)
                  clear hK K
                  refine Reg.call (i := 7) rfl (by kernel_rfl) (by rfl) (fun K hK => ?_)
                  have hg5 := HA5.out.lt
                  have hlen := HF.out.len
                  refine wp_append_own _ _ _ 37 rfl (C + 1) 36 i0 _ 2 32 Tryz.underlying37 hi0 hzz0 hzz1 hzz2 rfl (by decide) (.slice av l.length cv) l.length (l.flatMap Flds.cells) rfl (World.ownsRow.alloc HA5.out.own _) ⟨w5.heap.size, 0, none⟩ 1 1 [.string x, .string ⟨#[53]⟩] rfl rfl (Flds.cells_two w5 x ⟨#[53]⟩) (Flds.two_ok x ⟨#[53]⟩) (by unfold maxLen; omega) (by omega) ?c9 ?_
                  case c9 => first | omega | (simp; omega)
                  intro v' w6 ho6 hg6 _
                  have hC5 : C + 1 ≤ w5.heap.size := by omega
                  have hgr := Recs.grown_trans (World.grownBy_alloc w5 (.cells #[.string x, .string ⟨#[53]⟩] 36) (Value.slice av l.length cv).ownBlock) hg6
                  obtain ⟨hp1, hp2⟩ := Flds.put_more hC5 HA5.out.own (Below.refl (C + 1) w5) ho6 hg6
                  have hb6 : w6.heap[gq]? = some (.cells #[.string m, .string u, .slice av l.length cv, .string b] 39 (0, 0)) := (hgr.block gq hg5 (fun e => hn2 gq e.symm rfl)).trans HA5.out.box
                  have hr6 : w6.heap[w.heap.size]? = some zReq := (hp2.block _ (by omega)).trans HA5.out.res
                  have hn6 := own_not hp1 hb6
                  have HR : Hid (RpAt w C gq m u v' (l ++ [(x, ⟨#[53]⟩)]) b (w6.setCell ⟨gq, 2, none⟩ v')) :=
                    ⟨live_set (HA5.out.live.under hp2 (by omega)) gq 2 _ hgq, (HA5.out.below.trans (hp2.mono (by omega))).setCell (p := ⟨gq, 2, none⟩) (by show w.heap.size ≤ gq; omega) v', Recs.box_far hr6 _ (by omega), Recs.box_set hb6 2 v', Recs.own_set hp1 gq 2 v' hn6⟩
                  have HF6 := Num.hide ((HF.out.more hx (by decide : (⟨#[53]⟩ : ByteArray).size ≤ 64)).mono (by omega : _ ≤ 13))
                  have k2 := Recs.box_cell hb6 2
                  have z2 := Recs.box_thaw hb6 2
                  simp only [List.getElem?_toArray, List.getElem?_cons_succ, List.getElem?_cons_zero] at k2
                  clear ho6 hg6 hp1 hp2 hb6 hr6 hn6 HA5 hlen hg5 hgr hC5
                  refine hK.out _ _ trivial (fun _ => ?_)
                  clear hK K
                  refine Reg.take (i := 8) (d := 35) (v := ?_) rfl rfl (by kernel_rfl) (by kernel_rfl) (by kernel_rfl) (fun _ _ _ h => h) (by rfl) ?_ hHeld ?_
                  rotate_left
                  · rintro X hX
                    first | (go_simp; done) | (go_simp; with_reducible rfl)
                  simp only [Act.put, List.setIfInBounds_toArray, List.set_cons_zero, List.set_cons_succ]
                  refine Reg.call (i := 9) rfl (by kernel_rfl) (by rfl) (fun K hK => ?_)
                  obtain ⟨a6, q6, hv6⟩ := Recs.own_len HR.out.own
                  subst hv6
                  rw [List.length_append, List.length_singleton] at HR
                  go_wp2
                  refine hK.out _ _ trivial (fun _ => ?_)
                  clear hK K
                  refine wpAnyH_done (by kernel_rfl) ?_ _
                  clear k2 z2
                  go_wp2
                  go_meet
                  case rel => exact ⟨m, u, _, _, b, hm, hu, hb, HF6.out, HR⟩
                · go_wp2
                  refine hK.out _ _ trivial (fun _ => ?_)
                  clear hK K
                  refine Reg.call (i := 1) rfl (by kernel_rfl) (by rfl) (fun K hK => ?_)
                  have c2 := Recs.box_cell ((heap_alloc_old w5 (.cells #[.string x, .string ⟨#[53]⟩] 36) HA5.out.lt).trans HA5.out.box) 2
                  simp only [List.getElem?_toArray, List.getElem?_cons_succ, List.getElem?_cons_zero] at c2
                  go_wp2
                  clear c2
                  refine hK.out _ _ trivial (fun _ => ?_)
                  clear hK K
                  refine Reg.call (i := 7) rfl (by kernel_rfl) (by rfl) (fun K hK => ?_)
                  have hg5 := HA5.out.lt
                  have hlen := HF.out.len
                  refine wp_append_own _ _ _ 37 rfl (C + 1) 36 i0 _ 2 32 Tryz.underlying37 hi0 hzz0 hzz1 hzz2 rfl (by decide) (.slice av l.length cv) l.length (l.flatMap Flds.cells) rfl (World.ownsRow.alloc HA5.out.own _) ⟨w5.heap.size, 0, none⟩ 1 1 [.string x, .string ⟨#[53]⟩] rfl rfl (Flds.cells_two w5 x ⟨#[53]⟩) (Flds.two_ok x ⟨#[53]⟩) (by unfold maxLen; omega) (by omega) ?c9 ?_
                  case c9 => first | omega | (simp; omega)
                  intro v' w6 ho6 hg6 _
                  have hC5 : C + 1 ≤ w5.heap.size := by omega
                  have hgr := Recs.grown_trans (World.grownBy_alloc w5 (.cells #[.string x, .string ⟨#[53]⟩] 36) (Value.slice av l.length cv).ownBlock) hg6
                  obtain ⟨hp1, hp2⟩ := Flds.put_more hC5 HA5.out.own (Below.refl (C + 1) w5) ho6 hg6
                  have hb6 : w6.heap[gq]? = some (.cells #[.string m, .string u, .slice av l.length cv, .string b] 39 (0, 0)) := (hgr.block gq hg5 (fun e => hn2 gq e.symm rfl)).trans HA5.out.box
                  have hr6 : w6.heap[w.heap.size]? = some zReq := (hp2.block _ (by omega)).trans HA5.out.res
                  have hn6 := own_not hp1 hb6
                  have HR : Hid (RpAt w C gq m u v' (l ++ [(x, ⟨#[53]⟩)]) b (w6.setCell ⟨gq, 2, none⟩ v')) :=
                    ⟨live_set (HA5.out.live.under hp2 (by omega)) gq 2 _ hgq, (HA5.out.below.trans (hp2.mono (by omega))).setCell (p := ⟨gq, 2, none⟩) (by show w.heap.size ≤ gq; omega) v', Recs.box_far hr6 _ (by omega), Recs.box_set hb6 2 v', Recs.own_set hp1 gq 2 v' hn6⟩
                  have HF6 := Num.hide ((HF.out.more hx (by decide : (⟨#[53]⟩ : ByteArray).size ≤ 64)).mono (by omega : _ ≤ 13))
                  have k2 := Recs.box_cell hb6 2
                  have z2 := Recs.box_thaw hb6 2
                  simp only [List.getElem?_toArray, List.getElem?_cons_succ, List.getElem?_cons_zero] at k2
                  clear ho6 hg6 hp1 hp2 hb6 hr6 hn6 HA5 hlen hg5 hgr hC5
                  refine hK.out _ _ trivial (fun _ => ?_)
                  clear hK K
                  refine Reg.take (i := 8) (d := 35) (v := ?_) rfl rfl (by kernel_rfl) (by kernel_rfl) (by kernel_rfl) (fun _ _ _ h => h) (by rfl) ?_ hHeld ?_
                  rotate_left
                  · rintro X hX
                    first | (go_simp; done) | (go_simp; with_reducible rfl)
                  simp only [Act.put, List.setIfInBounds_toArray, List.set_cons_zero, List.set_cons_succ]
                  refine Reg.call (i := 9) rfl (by kernel_rfl) (by rfl) (fun K hK => ?_)
                  obtain ⟨a6, q6, hv6⟩ := Recs.own_len HR.out.own
                  subst hv6
                  rw [List.length_append, List.length_singleton] at HR
                  go_wp2
                  refine hK.out _ _ trivial (fun _ => ?_)
                  clear hK K
                  refine wpAnyH_done (by kernel_rfl) ?_ _
                  clear k2 z2
                  go_wp2
                  go_meet
                  case rel => exact ⟨m, u, _, _, b, hm, hu, hb, HF6.out, HR⟩
          · have d3 : (z == 3) = false := by rw [beq_eq_false_iff_ne]; exact c3
            by_cases c4 : z = 4
            · subst c4
              go_wp2
              go_loopw [] (fun wr => ∃ (b2 : ByteArray), b2.size ≤ 64 ∧ Hid (RpAt w C gq m u (.slice av l.length cv) l b2 wr)) (fun wr => 65 - lenAt gq wr)
              case atStart => exact ⟨b, hb, HA4⟩
              case round =>
                clear HA4
                obtain ⟨b2, hb2, HA⟩ := hrel
                have HA1 := Num.hide (HA.out.step (Only.refl C wr).drew (HA.out.live.below (Below.refl _ _).drew) hCw hgq)
                have HM0 := Num.hide (len_at HA.out)
                clear HA
                go_wp2
                refine wp_region_held_drew (S := fun _ => True) (by kernel_rfl) trivial (fun hHeld => ?_)
                refine Reg.take (i := 0) (d := 38) (v := ?_) rfl rfl (by kernel_rfl) (by kernel_rfl) (by kernel_rfl) (fun _ _ _ h => h) (by rfl) ?_ hHeld ?_
                rotate_left
                · rintro X hX
                  first | (go_simp; done) | (go_simp; with_reducible rfl)
                simp only [Act.put, List.setIfInBounds_toArray, List.set_cons_zero, List.set_cons_succ]
                refine Reg.take (i := 3) (d := 41) (v := ?_) rfl rfl (by kernel_rfl) (by kernel_rfl) (by kernel_rfl) (fun _ _ _ h => h) (by rfl) ?_ hHeld ?_
                rotate_left
                · rintro X hX
                  first | (go_simp; done) | (go_simp; with_reducible rfl)
                simp only [Act.put, List.setIfInBounds_toArray, List.set_cons_zero, List.set_cons_succ]
                refine Reg.two (i := 1) (j := 4) rfl rfl (by kernel_rfl) (by rfl) (by rfl) (fun K hK => ?_) (fun K hK => ?_)
                · have c3 := Recs.box_cell HA1.out.box 3
                  simp only [List.getElem?_toArray, List.getElem?_cons_succ, List.getElem?_cons_zero] at c3
                  go_wp2
                  clear c3
                  refine hK.out _ _ trivial (fun _ => ?_)
                  clear hK K
                  refine Reg.take (i := 2) (d := 40) (v := ?_) rfl rfl (by kernel_rfl) (by kernel_rfl) (by kernel_rfl) (fun _ _ _ h => h) (by rfl) ?_ hHeld ?_
                  rotate_left
                  · rintro X hX
                    first | (go_simp; done) | (go_simp; with_reducible rfl)
                  simp only [Act.put, List.setIfInBounds_toArray, List.set_cons_zero, List.set_cons_succ]
                  refine Reg.call (i := 4) rfl (by kernel_rfl) (by rfl) (fun K hK => ?_)
                  go_wp2_with (first | (go_at_call 45; refine (below_live _ C 2 _ HA1.out.live (by omega) (by omega)).mono ?_; rintro e w5 ⟨zz, rfl, hzl, hzh, hl, ho⟩))
                  have HA5 := Num.hide (HA1.out.step ho hl hCw hgq)
                  clear hl ho HA1
                  refine hK.out _ _ trivial (fun _ => ?_)
                  clear hK K
                  refine Reg.take (i := 5) (d := 43) (v := ?_) rfl rfl (by kernel_rfl) (by kernel_rfl) (by kernel_rfl) (fun _ _ _ h => h) (by rfl) ?_ hHeld ?_
                  rotate_left
                  · rintro X hX
                    first | (go_simp; done) | (go_simp; with_reducible rfl)
                  simp only [Act.put, List.setIfInBounds_toArray, List.set_cons_zero, List.set_cons_succ]
                  refine Reg.take (i := 6) (d := 44) (v := ?_) rfl rfl (by kernel_rfl) (by kernel_rfl) (by kernel_rfl) (fun _ _ _ h => h) (by rfl) ?_ hHeld ?_
                  rotate_left
                  · rintro X hX
                    first | (go_simp; done) | (go_simp; with_reducible rfl)
                  simp only [Act.put, List.setIfInBounds_toArray, List.set_cons_zero, List.set_cons_succ]
                  refine wpAnyH_done (by kernel_rfl) ?_ _
                  by_cases hlt : (b2.size : Int) < 60 + zz
                  · rw [show IntKind.i64.wrap (60 + zz) = 60 + zz by rw [IntKind.wrap_i64]; omega, decide_eq_true hlt]
                    have c3 := Recs.box_cell HA5.out.box 3
                    have z3 := Recs.box_thaw HA5.out.box 3
                    simp only [List.getElem?_toArray, List.getElem?_cons_succ, List.getElem?_cons_zero] at c3
                    have hov : ¬ 9223372036854775807 < b2.size + 1 := by omega
                    have hz1 : (b2 ++ ⟨#[120]⟩ : ByteArray).size = b2.size + 1 := by rw [ByteArray.size_append]; rfl
                    have HR : Hid (RpAt w C gq m u (.slice av l.length cv) l (b2 ++ ⟨#[120]⟩) (w5.setCell ⟨gq, 3, none⟩ (.string (b2 ++ ⟨#[120]⟩)))) := ⟨live_set HA5.out.live gq 3 _ hgq, HA5.out.below.setCell (p := ⟨gq, 3, none⟩) (by show w.heap.size ≤ gq; omega) (.string (b2 ++ ⟨#[120]⟩)), Recs.box_far HA5.out.res _ (by omega), Recs.box_set HA5.out.box 3 (.string (b2 ++ ⟨#[120]⟩)), Recs.own_set HA5.out.own gq 3 _ hn2⟩
                    have HM5 : Hid (lenAt gq (w5.setCell ⟨gq, 3, none⟩ (.string (b2 ++ ⟨#[120]⟩))) = b2.size + 1) := by show _ = _; rw [len_at HR.out, hz1]
                    have HB2 : Hid ((b2 ++ ⟨#[120]⟩ : ByteArray).size ≤ 64) := by show _ ≤ _; omega
                    clear HA5 hz1
                    go_wp2
                    go_roundw
                    case rel => exact ⟨_, HB2.out, HR⟩
                    case measure => have e1 := HM0.out; have e2 := HM5.out; omega
                  · rw [show IntKind.i64.wrap (60 + zz) = 60 + zz by rw [IntKind.wrap_i64]; omega, decide_eq_false hlt]
                    go_wp2
                    go_meet
                    case rel => exact ⟨m, u, _, l, b2, hm, hu, hb2, HF.out.mono (by omega), HA5⟩
                · go_wp2_with (first | (go_at_call 45; refine (below_live _ C 2 _ HA1.out.live (by omega) (by omega)).mono ?_; rintro e w5 ⟨zz, rfl, hzl, hzh, hl, ho⟩))
                  have HA5 := Num.hide (HA1.out.step ho hl hCw hgq)
                  clear hl ho HA1
                  refine hK.out _ _ trivial (fun _ => ?_)
                  clear hK K
                  refine Reg.take (i := 5) (d := 43) (v := ?_) rfl rfl (by kernel_rfl) (by kernel_rfl) (by kernel_rfl) (fun _ _ _ h => h) (by rfl) ?_ hHeld ?_
                  rotate_left
                  · rintro X hX
                    first | (go_simp; done) | (go_simp; with_reducible rfl)
                  simp only [Act.put, List.setIfInBounds_toArray, List.set_cons_zero, List.set_cons_succ]
                  refine Reg.call (i := 1) rfl (by kernel_rfl) (by rfl) (fun K hK => ?_)
                  have c3 := Recs.box_cell HA5.out.box 3
                  simp only [List.getElem?_toArray, List.getElem?_cons_succ, List.getElem?_cons_zero] at c3
                  go_wp2
                  clear c3
                  refine hK.out _ _ trivial (fun _ => ?_)
                  clear hK K
                  refine Reg.take (i := 2) (d := 40) (v := ?_) rfl rfl (by kernel_rfl) (by kernel_rfl) (by kernel_rfl) (fun _ _ _ h => h) (by rfl) ?_ hHeld ?_
                  rotate_left
                  · rintro X hX
                    first | (go_simp; done) | (go_simp; with_reducible rfl)
                  simp only [Act.put, List.setIfInBounds_toArray, List.set_cons_zero, List.set_cons_succ]
                  refine Reg.take (i := 6) (d := 44) (v := ?_) rfl rfl (by kernel_rfl) (by kernel_rfl) (by kernel_rfl) (fun _ _ _ h => h) (by rfl) ?_ hHeld ?_
                  rotate_left
                  · rintro X hX
                    first | (go_simp; done) | (go_simp; with_reducible rfl)
                  simp only [Act.put, List.setIfInBounds_toArray, List.set_cons_zero, List.set_cons_succ]
                  refine wpAnyH_done (by kernel_rfl) ?_ _
                  by_cases hlt : (b2.size : Int) < 60 + zz
                  · rw [show IntKind.i64.wrap (60 + zz) = 60 + zz by rw [IntKind.wrap_i64]; omega, decide_eq_true hlt]
                    have c3 := Recs.box_cell HA5.out.box 3
                    have z3 := Recs.box_thaw HA5.out.box 3
                    simp only [List.getElem?_toArray, List.getElem?_cons_succ, List.getElem?_cons_zero] at c3
                    have hov : ¬ 9223372036854775807 < b2.size + 1 := by omega
                    have hz1 : (b2 ++ ⟨#[120]⟩ : ByteArray).size = b2.size + 1 := by rw [ByteArray.size_append]; rfl
                    have HR : Hid (RpAt w C gq m u (.slice av l.length cv) l (b2 ++ ⟨#[120]⟩) (w5.setCell ⟨gq, 3, none⟩ (.string (b2 ++ ⟨#[120]⟩)))) := ⟨live_set HA5.out.live gq 3 _ hgq, HA5.out.below.setCell (p := ⟨gq, 3, none⟩) (by show w.heap.size ≤ gq; omega) (.string (b2 ++ ⟨#[120]⟩)), Recs.box_far HA5.out.res _ (by omega), Recs.box_set HA5.out.box 3 (.string (b2 ++ ⟨#[120]⟩)), Recs.own_set HA5.out.own gq 3 _ hn2⟩
                    have HM5 : Hid (lenAt gq (w5.setCell ⟨gq, 3, none⟩ (.string (b2 ++ ⟨#[120]⟩))) = b2.size + 1) := by show _ = _; rw [len_at HR.out, hz1]
                    have HB2 : Hid ((b2 ++ ⟨#[120]⟩ : ByteArray).size ≤ 64) := by show _ ≤ _; omega
                    clear HA5 hz1
                    go_wp2
                    go_roundw
                    case rel => exact ⟨_, HB2.out, HR⟩
                    case measure => have e1 := HM0.out; have e2 := HM5.out; omega
                  · rw [show IntKind.i64.wrap (60 + zz) = 60 + zz by rw [IntKind.wrap_i64]; omega, decide_eq_false hlt]
                    go_wp2
                    go_meet
                    case rel => exact ⟨m, u, _, l, b2, hm, hu, hb2, HF.out.mono (by omega), HA5⟩
            · have d4 : (z == 4) = false := by rw [beq_eq_false_iff_ne]; exact c4
              have HR := HA4
              clear HA4
              go_wp2
              go_meet
              case rel => exact ⟨m, u, .slice av l.length cv, l, b, hm, hu, hb, HF.out.mono (by omega), HR⟩
  case rest =>
    clear HF HA4 hn2 hm hu hb
    obtain ⟨m, u, v, l, b, hm, hu, hb, hf, HA⟩ := hcut
    obtain ⟨a2, q2, hv2⟩ := Recs.own_len HA.out.own
    subst hv2
    have HE := Num.hide (rp_end (m := m) (u := u) (v := .slice a2 l.length q2) (l := l) (b := b) HA.out.below HA.out.own hCw)
    have HF := Num.hide hf
    have k0 := Recs.box_cell HA.out.box 0
    have o0 := Recs.box_cell HA.out.res 0
    have y0 := Recs.box_thaw HA.out.res 0
    have k1 := Recs.box_cell HA.out.box 1
    have o1 := Recs.box_cell HA.out.res 1
    have y1 := Recs.box_thaw HA.out.res 1
    have k2 := Recs.box_cell HA.out.box 2
    have o2 := Recs.box_cell HA.out.res 2
    have y2 := Recs.box_thaw HA.out.res 2
    have k3 := Recs.box_cell HA.out.box 3
    have o3 := Recs.box_cell HA.out.res 3
    have y3 := Recs.box_thaw HA.out.res 3
    simp only [List.getElem?_toArray, List.getElem?_cons_succ, List.getElem?_cons_zero] at k0 k1 k2 k3 o0 o1 o2 o3
    clear HA hf
    have n1 : ¬ gq = w.heap.size := by omega
    have n2 : ¬ w.heap.size = gq := by omega
    obtain ⟨r, hr⟩ : ∃ r, w.heap.size = r := ⟨_, rfl⟩
    rw [hr] at HE o0 o1 o2 o3 y0 y1 y2 y3 n1 n2 ⊢
    go_wp2
    exact bodyPost_ret (v := .agg #[.string m, .string u, .slice a2 l.length q2, .string b]) (by simp [results, Tryz.results49, go_sem, *]) rfl ⟨m, u, _, l, b, rfl, hm, hu, hr ▸ HE.out.1, HF.out, hb, by rw [hr]; exact HE.out.2⟩
end Draw
end Go.Proofs.YtbajfklnekfeoaaGreatDoor
