/-
  DrawResp: The specification's draws of an answer, of a cursor in whatever state: bounds alone.
  DrawOnce: l1Once of the draws.
  DrawOnceL: l1Once of the draws, of a cursor in whatever state.
  RegTwo: One step through a region that draws its order: two operations that come up together.
-/
import Derived.Test.YtjeokackmkfooaaGreatDoorPba
import Derived.Test.YtjeokackmkfooaaGreatDoorPag
import Derived.Deep.Cut
import Derived.Test.YtjeokackmkfooaaGreatDoorPaz
import Derived.Test.YtjeokackmkfooaaGreatDoorRegLaw
namespace Go.Proofs.YtjeokackmkfooaaGreatDoor
open Go.RowKit
set_option linter.unusedVariables false
set_option linter.unusedSimpArgs false
namespace Draw

def zResp : Obj := .cells #[.int .i64 0, .slice none 0 0, .string ⟨#[]⟩] 28
theorem only_set {C : Nat} {a w : World} (h : Only C a w) (g i : Nat) (u : Value) (hg : a.heap.size ≤ g) : Only C a (w.setCell ⟨g, i, none⟩ u) :=
  h.of_below ((Below.refl _ _).setCell (p := ⟨g, i, none⟩) hg u)
theorem live_set {B C : Nat} {w : World} (h : Live B C w) (g i : Nat) (u : Value) (hg : C < g) : Live B C (w.setCell ⟨g, i, none⟩ u) :=
  h.under ((Below.refl g w).setCell (p := ⟨g, i, none⟩) (Nat.le_refl _) u) hg
set_option maxRecDepth 100000 in
set_option maxHeartbeats 4000000 in
theorem resp_q (B C : Nat) (w : World) (h : Live B C w) :
    Calls Tryz.prog 46 #[.pointer (some ⟨C, 0, none⟩)] w fun e w' => ∃ st v l b, e = .returned (Resp.val st v b) ∧ 200 ≤ st ∧ st ≤ 500 ∧ Flds.Own w.heap.size w' v l ∧ Few 4 l ∧ AllSaid l ∧ b.size ≤ 64 ∧ Live B C w' ∧ Only C w w' := by
  have hC := h.lt
  have HL0 := Num.hide (h.alloc zResp)
  have HO0 := Num.hide ((Only.refl C w).alloc zResp)
  have HZ0 : Hid ((w.alloc zResp).heap[w.heap.size]? = some zResp) := heap_alloc_new w _
  have hz0 : (w.alloc zResp).heap.size = w.heap.size + 1 := by rw [World.size_alloc]
  clear h
  go_enter Tryz.func46, Tryz.ntmps46
  go_wp2_with fail
  refine (pickInt_live B C (w.heap.size + 1) 200 500 _ 10 _ (HL0.out.alloc _) (by omega) (hz0 ▸ heap_alloc_new (w.alloc zResp) _) rfl (by omega) (by omega) (by simp only [IntsIn, and_true]; omega)).mono ?_
  rintro e w1 ⟨st, rfl, hs0, hs1, hl, ho⟩
  have HL1 := Num.hide hl
  have HO1 := Num.hide ((HO0.out.alloc _).trans ho)
  have HZ1 : Hid (w1.heap[w.heap.size]? = some zResp) := (ho.block _ (by rw [World.size_alloc]; omega) (by omega)).trans ((heap_alloc_old _ _ (by omega)).trans HZ0.out)
  have hz1 : w.heap.size + 1 < w1.heap.size := by have := ho.size; rw [World.size_alloc] at this; omega
  clear hl ho HL0 HO0 HZ0
  go_wp2_with fail
  refine (fields_q B C _ HL1.out).mono ?_
  rintro e w2 ⟨v, l, rfl, hv, hf, hsd, -, hl, ho⟩
  have HF := Num.hide hf
  have HSa := Num.hide hsd
  clear hsd
  have hz2 := ho.size
  obtain ⟨av, cv, hvv⟩ := Recs.own_len hv
  subst hvv
  have hal : Below w2.heap.size w2 (w2.alloc (.cells #[.int .i64 st, .slice av l.length cv, .string ⟨#[]⟩] 28)) := (Below.refl _ _).alloc (Nat.le_refl _) _
  have HL2 := Num.hide (hl.below hal)
  have HO2 := Num.hide ((HO1.out.trans ho).alloc (.cells #[.int .i64 st, .slice av l.length cv, .string ⟨#[]⟩] 28))
  have HZ2 : Hid ((w2.alloc (.cells #[.int .i64 st, .slice av l.length cv, .string ⟨#[]⟩] 28)).heap[w.heap.size]? = some zResp) := (heap_alloc_old _ _ (by omega)).trans ((ho.block _ (by omega) (by omega)).trans HZ1.out)
  have HQ2 : Hid ((w2.alloc (.cells #[.int .i64 st, .slice av l.length cv, .string ⟨#[]⟩] 28)).heap[w2.heap.size]? = some (.cells #[.int .i64 st, .slice av l.length cv, .string ⟨#[]⟩] 28)) := heap_alloc_new w2 _
  have HV2 := Num.hide (Recs.own_below hv hal)
  have hvb : ∀ j, (Value.slice av l.length cv).ownBlock = some j → w.heap.size < j ∧ j < w2.heap.size := fun j hj => by have := Recs.own_lt hv j hj; omega
  have hz3 : (w2.alloc (.cells #[.int .i64 st, .slice av l.length cv, .string ⟨#[]⟩] 28)).heap.size = w2.heap.size + 1 := by rw [World.size_alloc]
  clear hl ho hv hf hal HL1 HO1 HZ1
  go_upto_region 2 with fail
  generalize w2.alloc (.cells #[.int .i64 st, .slice av l.length cv, .string ⟨#[]⟩] 28) = w3 at HL2 HO2 HZ2 HQ2 HV2 hz3 ⊢
  obtain ⟨gq, hgq⟩ : ∃ gq, w2.heap.size = gq := ⟨_, rfl⟩
  rw [hgq] at HQ2 hz2 hvb hz3 ⊢
  have n0 : ∀ j, (Value.slice av l.length cv).ownBlock = some j → j ≠ w.heap.size := fun j hj => by have := hvb j hj; omega
  have n1 : ∀ j, (Value.slice av l.length cv).ownBlock = some j → j ≠ gq := fun j hj => by have := hvb j hj; omega
  have k0 := Recs.box_cell HQ2.out 0
  have k1 := Recs.box_cell HQ2.out 1
  have k2 := Recs.box_cell HQ2.out 2
  simp only [List.getElem?_toArray, List.getElem?_cons_succ, List.getElem?_cons_zero] at k0 k1 k2
  have hq1 : ¬ gq = w.heap.size := by omega
  have hq2 : ¬ w.heap.size = gq := by omega
  by_cases h24 : st ≠ 204 ∧ st ≠ 304
  · have d1 : (st != 204) = true := by rw [bne_iff_ne]; exact h24.1
    have d2 : (st != 304) = true := by rw [bne_iff_ne]; exact h24.2
    clear hvb
    go_wp2_with fail
    refine (text_live B C 8 _ HL2.out (by omega)).mono ?_
    rintro e w4 ⟨t, rfl, ht, hl, ho⟩
    have HQ4 : Hid (w4.heap[gq]? = some (.cells #[.int .i64 st, .slice av l.length cv, .string ⟨#[]⟩] 28)) := (ho.block _ (by omega) (by omega)).trans HQ2.out
    have HZ4 : Hid (w4.heap[w.heap.size]? = some zResp) := (ho.block _ (by omega) (by omega)).trans HZ2.out
    have HE : Hid (Flds.Own w.heap.size ((((w4.setCell ⟨gq, 2, none⟩ (.string t)).setCell ⟨w.heap.size, 0, none⟩ (.int .i64 st)).setCell ⟨w.heap.size, 1, none⟩ (.slice av l.length cv)).setCell ⟨w.heap.size, 2, none⟩ (.string t)) (.slice av l.length cv) l ∧ Live B C ((((w4.setCell ⟨gq, 2, none⟩ (.string t)).setCell ⟨w.heap.size, 0, none⟩ (.int .i64 st)).setCell ⟨w.heap.size, 1, none⟩ (.slice av l.length cv)).setCell ⟨w.heap.size, 2, none⟩ (.string t)) ∧ Only C w ((((w4.setCell ⟨gq, 2, none⟩ (.string t)).setCell ⟨w.heap.size, 0, none⟩ (.int .i64 st)).setCell ⟨w.heap.size, 1, none⟩ (.slice av l.length cv)).setCell ⟨w.heap.size, 2, none⟩ (.string t))) := by
      have o0 := own_only HV2.out ho (by omega)
      have o1 := Recs.own_set o0 gq 2 (.string t) n1
      have o2 := Recs.own_set o1 w.heap.size 0 (.int .i64 st) n0
      have o3 := Recs.own_set o2 w.heap.size 1 (.slice av l.length cv) n0
      have o4 := Recs.own_set o3 w.heap.size 2 (.string t) n0
      refine ⟨Recs.own_mono o4 (by omega), ?_, ?_⟩
      · exact live_set (live_set (live_set (live_set hl gq 2 _ (by omega)) _ 0 _ hC) _ 1 _ hC) _ 2 _ hC
      · exact only_set (only_set (only_set (only_set (HO2.out.trans ho) gq 2 _ (by omega)) _ 0 _ (Nat.le_refl _)) _ 1 _ (Nat.le_refl _)) _ 2 _ (Nat.le_refl _)
    clear hl ho k0 k1 k2
    have k0 := Recs.box_cell HQ4.out 0
    have k1 := Recs.box_cell HQ4.out 1
    have k2 := Recs.box_cell HQ4.out 2
    have z2 := Recs.box_thaw HQ4.out 2
    have o0 := Recs.box_cell HZ4.out 0
    have o1 := Recs.box_cell HZ4.out 1
    have o2 := Recs.box_cell HZ4.out 2
    have y0 := Recs.box_thaw HZ4.out 0
    have y1 := Recs.box_thaw HZ4.out 1
    have y2 := Recs.box_thaw HZ4.out 2
    simp only [List.getElem?_toArray, List.getElem?_cons_succ, List.getElem?_cons_zero] at k0 k1 k2 o0 o1 o2
    clear HL2 HO2 HZ2 HQ2 HV2 HQ4 HZ4 n0 n1
    obtain ⟨r, hr⟩ : ∃ r, w.heap.size = r := ⟨_, rfl⟩
    rw [hr] at HE o0 o1 o2 y0 y1 y2 hq1 hq2 ⊢
    go_wp2
    exact bodyPost_ret (v := .agg #[.int .i64 st, .slice av l.length cv, .string t]) (by simp [results, Tryz.results46, go_sem, *]) rfl ⟨st, _, l, t, rfl, hs0, hs1, hr ▸ HE.out.1, HF.out, HSa.out, by omega, HE.out.2.1, HE.out.2.2⟩
  · have h24b : st = 204 ∨ st = 304 := by omega
    clear hvb h24
    have HE : Hid (Flds.Own w.heap.size (((w3.setCell ⟨w.heap.size, 0, none⟩ (.int .i64 st)).setCell ⟨w.heap.size, 1, none⟩ (.slice av l.length cv)).setCell ⟨w.heap.size, 2, none⟩ (.string ⟨#[]⟩)) (.slice av l.length cv) l ∧ Live B C (((w3.setCell ⟨w.heap.size, 0, none⟩ (.int .i64 st)).setCell ⟨w.heap.size, 1, none⟩ (.slice av l.length cv)).setCell ⟨w.heap.size, 2, none⟩ (.string ⟨#[]⟩)) ∧ Only C w (((w3.setCell ⟨w.heap.size, 0, none⟩ (.int .i64 st)).setCell ⟨w.heap.size, 1, none⟩ (.slice av l.length cv)).setCell ⟨w.heap.size, 2, none⟩ (.string ⟨#[]⟩))) := by
      have o2 := Recs.own_set HV2.out w.heap.size 0 (.int .i64 st) n0
      have o3 := Recs.own_set o2 w.heap.size 1 (.slice av l.length cv) n0
      have o4 := Recs.own_set o3 w.heap.size 2 (.string ⟨#[]⟩) n0
      refine ⟨Recs.own_mono o4 (by omega), ?_, ?_⟩
      · exact live_set (live_set (live_set HL2.out _ 0 _ hC) _ 1 _ hC) _ 2 _ hC
      · exact only_set (only_set (only_set HO2.out _ 0 _ (Nat.le_refl _)) _ 1 _ (Nat.le_refl _)) _ 2 _ (Nat.le_refl _)
    have o0 := Recs.box_cell HZ2.out 0
    have o1 := Recs.box_cell HZ2.out 1
    have o2 := Recs.box_cell HZ2.out 2
    have y0 := Recs.box_thaw HZ2.out 0
    have y1 := Recs.box_thaw HZ2.out 1
    have y2 := Recs.box_thaw HZ2.out 2
    simp only [List.getElem?_toArray, List.getElem?_cons_succ, List.getElem?_cons_zero] at o0 o1 o2
    clear HL2 HO2 HZ2 HQ2 HV2 n0 n1
    obtain ⟨r, hr⟩ : ∃ r, w.heap.size = r := ⟨_, rfl⟩
    rw [hr] at HE o0 o1 o2 y0 y1 y2 hq1 hq2 ⊢
    rcases h24b with rfl | rfl
    · go_wp2
      exact bodyPost_ret (v := .agg #[.int .i64 204, .slice av l.length cv, .string ⟨#[]⟩]) (by simp [results, Tryz.results46, go_sem, *]) rfl ⟨204, _, l, ⟨#[]⟩, rfl, hs0, hs1, hr ▸ HE.out.1, HF.out, HSa.out, by decide, HE.out.2.1, HE.out.2.2⟩
    · go_wp2
      exact bodyPost_ret (v := .agg #[.int .i64 304, .slice av l.length cv, .string ⟨#[]⟩]) (by simp [results, Tryz.results46, go_sem, *]) rfl ⟨304, _, l, ⟨#[]⟩, rfl, hs0, hs1, hr ▸ HE.out.1, HF.out, HSa.out, by decide, HE.out.2.1, HE.out.2.2⟩
theorem resp_live (B C : Nat) (w : World) (h : Live B C w) :
    Calls Tryz.prog 46 #[.pointer (some ⟨C, 0, none⟩)] w fun e w' => ∃ st v l b, e = .returned (Resp.val st v b) ∧ 200 ≤ st ∧ st ≤ 500 ∧ Flds.Own w.heap.size w' v l ∧ Few 4 l ∧ b.size ≤ 64 ∧ Live B C w' ∧ Only C w w' :=
  (resp_q B C w h).mono fun e w' ⟨st, v, l, b, h1, h2, h3, h4, h5, _, h6, h7, h8⟩ => ⟨st, v, l, b, h1, h2, h3, h4, h5, h6, h7, h8⟩
end Draw
end Go.Proofs.YtjeokackmkfooaaGreatDoor
namespace Go.Proofs.YtjeokackmkfooaaGreatDoor
open Go.RowKit
set_option linter.unusedVariables false
namespace Draw

theorem once_at (B C cap : Nat) (a : Option Addr) (l : List Int) (n : Int) (w : World) (s : Nat × Int) (h : At B C cap a l w s) (hn : n ≤ 4294967296) :
    Calls Tryz.prog 47 #[.pointer (some ⟨C, 0, none⟩), .int .i64 n] w fun e w' => e = .returned (.bool (blv l n s == 0)) ∧ At B C cap a l w' (bls l n s) ∧ Only C w w' := by
  go_enter Tryz.func47, Tryz.ntmps47
  go_wp2_with fail
  refine (below_at B C cap a l n _ s h hn).mono ?_
  rintro e w1 ⟨rfl, h1, ho⟩
  go_wp2
  go_ret
  exact ⟨rfl, h1, ho⟩
end Draw
end Go.Proofs.YtjeokackmkfooaaGreatDoor
namespace Go.Proofs.YtjeokackmkfooaaGreatDoor
open Go.RowKit
set_option linter.unusedVariables false
namespace Draw

theorem once_live (B C : Nat) (n : Int) (w : World) (h : Live B C w) (hn : n ≤ 4294967296) :
    Calls Tryz.prog 47 #[.pointer (some ⟨C, 0, none⟩), .int .i64 n] w fun e w' => ∃ b, e = .returned (.bool b) ∧ Live B C w' ∧ Only C w w' := by
  obtain ⟨cap, a, l, s, h⟩ := h
  refine (once_at B C cap a l n w s h hn).mono ?_
  rintro e w' ⟨rfl, h2, ho⟩
  exact ⟨_, rfl, ⟨_, _, _, _, h2⟩, ho⟩
end Draw
end Go.Proofs.YtjeokackmkfooaaGreatDoor
namespace Go.Proofs.YtjeokackmkfooaaGreatDoor
open Go.RowKit
set_option linter.unusedVariables false
namespace Reg

variable {P : Program} {ops : Array Oper} {Q : Exit → Act → World → Prop} {md : Region.Mode} {S : World → Prop}
theorem two {i j : Nat} {o p : Oper} {fuel : Nat} {listed : Array Bool} {a : Act} {w : World} (hi : ops.toList[i]? = some o) (hj : ops.toList[j]? = some p) (hr : Region.ready md ops listed = [i, j])
    (hwi : Region.wanted o (yielded ops a.tmps) = true) (hwj : Region.wanted p (yielded ops a.tmps) = true)
    (h1 : ∀ K' : Act → World → Prop, Shut (∀ a w, S w → (S w → wpAnyH P md ops Q S fuel (listed.setIfInBounds i true) a w) → K' a w) → Oper.wp P o a w K' Q)
    (h2 : ∀ K' : Act → World → Prop, Shut (∀ a w, S w → (S w → wpAnyH P md ops Q S fuel (listed.setIfInBounds j true) a w) → K' a w) → Oper.wp P p a w K' Q) : wpAnyH P md ops Q S (fuel + 1) listed a w :=
  wpAnyH_ready hr (by simp) (AllReadyH.cons (at_ hi) (fun K hK => by rw [if_pos hwi]; exact h1 K hK) (AllReadyH.cons (at_ hj) (fun K hK => by rw [if_pos hwj]; exact h2 K hK) AllReadyH.nil))
end Reg
end Go.Proofs.YtjeokackmkfooaaGreatDoor
