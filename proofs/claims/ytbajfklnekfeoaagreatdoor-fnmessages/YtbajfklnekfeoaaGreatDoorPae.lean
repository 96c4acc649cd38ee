/-
  DrawRespOk: The specification's draws of answers for the laws: bounds alone; what was there stays.
  DrawShowS: DrawShowResponse of the specification: bounds alone; what was there stays.
  DrawShowQ: DrawShowRequest of the specification: bounds alone; what was there stays.
  DrawBody: The specification's draws of bodies, and the code's byte.
  Code: The bytes that a law is handed, as the draws read them.
  ByteAt: The byte at a place of a text.
  LineDef: The line at a place, and the first colon, plain.
  FldReadNum: Fields read off a text, plain.
-/
import Derived.Test.YtbajfklnekfeoaaGreatDoorPac
import Derived.Test.YtbajfklnekfeoaaGreatDoorPad
import Derived.Test.YtbajfklnekfeoaaGreatDoorDrawByte
import Derived.OpenShut
import Derived.Test.YtbajfklnekfeoaaGreatDoorNum
import Derived.Test.YtbajfklnekfeoaaGreatDoorFldsOkSpec
import Derived.Test.YtbajfklnekfeoaaGreatDoorTrimSpec
namespace Go.Proofs.YtbajfklnekfeoaaGreatDoor
open Go.RowKit
set_option linter.unusedVariables false
set_option linter.unusedSimpArgs false
namespace Draw

/-- an answer that is drawn: its box, the box of what is told, and the cursor -/
structure SpAt (w : World) (C gq : Nat) (st : Int) (v : Value) (l : List Flds.Fld) (b : ByteArray) (X : World) : Prop where
  live : Live w.heap.size C X
  below : Below w.heap.size w X
  res : X.heap[w.heap.size]? = some zResp
  box : X.heap[gq]? = some (.cells #[.int .i64 st, v, .string b] 47)
  own : Flds.Own (C + 1) X v l
theorem SpAt.step {w : World} {C gq : Nat} {st : Int} {v : Value} {l : List Flds.Fld} {b : ByteArray} {X X' : World} (h : SpAt w C gq st v l b X) (ho : Only C X X') (hl : Live w.heap.size C X') (hC : w.heap.size < C) (hg : C < gq) : SpAt w C gq st v l b X' := by
  have hx : gq < X.heap.size := (Array.getElem?_eq_some_iff.1 h.box).1
  exact ⟨hl, h.below.trans (ho.below (by omega) h.live.lt), (ho.block _ (by omega) (by omega)).trans h.res, (ho.block _ hx (by omega)).trans h.box, own_only h.own ho (by omega)⟩
theorem sp_end {w : World} {C : Nat} {st : Int} {v : Value} {l : List Flds.Fld} {b : ByteArray} {X : World} (hb : Below w.heap.size w X) (ho : Flds.Own (C + 1) X v l) (hC : w.heap.size < C) :
    Flds.Own w.heap.size (((X.setCell ⟨w.heap.size, 0, none⟩ (.int .i64 st)).setCell ⟨w.heap.size, 1, none⟩ v).setCell ⟨w.heap.size, 2, none⟩ (.string b)) v l ∧ Below w.heap.size w (((X.setCell ⟨w.heap.size, 0, none⟩ (.int .i64 st)).setCell ⟨w.heap.size, 1, none⟩ v).setCell ⟨w.heap.size, 2, none⟩ (.string b)) := by
  have n0 : ∀ j, v.ownBlock = some j → j ≠ w.heap.size := fun j hj => by have := (Recs.own_lt ho j hj).1; omega
  have o1 := Recs.own_set ho w.heap.size 0 (.int .i64 st) n0
  have o2 := Recs.own_set o1 w.heap.size 1 v n0
  have o3 := Recs.own_set o2 w.heap.size 2 (.string b) n0
  exact ⟨Recs.own_mono o3 (by omega), ((hb.setCell (p := ⟨w.heap.size, 0, none⟩) (Nat.le_refl _) _).setCell (p := ⟨w.heap.size, 1, none⟩) (Nat.le_refl _) _).setCell (p := ⟨w.heap.size, 2, none⟩) (Nat.le_refl _) _⟩
set_option maxRecDepth 100000 in
set_option maxHeartbeats 4000000 in
theorem drawRespOk (cap : Nat) (a : Option Addr) (l0 : List Int) (w : World) (hcode : CodeAt w.heap.size w a l0) (hl0 : l0.length ≤ 1048576) :
    Calls Tryz.prog 58 #[.slice a l0.length cap] w fun e w' => ∃ st v l b, e = .returned (Resp.val st v b) ∧ 0 ≤ st ∧ st ≤ 1000 ∧ Flds.Own w.heap.size w' v l ∧ Few 13 l ∧ b.size ≤ 64 ∧ Below w.heap.size w w' := by
  have hb0 : Below w.heap.size w (w.alloc zResp) := (Below.refl _ _).alloc (Nat.le_refl _) _
  have HC := Num.hide (hcode.below hb0)
  have HZ0 : Hid ((w.alloc zResp).heap[w.heap.size]? = some zResp) := heap_alloc_new w _
  have hz0 : (w.alloc zResp).heap.size = w.heap.size + 1 := by rw [World.size_alloc]
  have HB0 := Num.hide hb0
  clear hcode hb0
  go_enter Tryz.func58, Tryz.ntmps58
  go_wp2_with fail
  refine (new_at w.heap.size cap a l0 _ (by rw [World.size_alloc]; omega) HC.out hl0).mono ?_
  rintro e w1 ⟨C, rfl, hC, h1, b1⟩
  have HL : Hid (Live w.heap.size C w1) := ⟨_, _, _, _, h1⟩
  have hCl := h1.lt
  have hCw : w.heap.size < C := by omega
  have HB1 := Num.hide (HB0.out.trans (b1.mono (by omega)))
  have HZ1 : Hid (w1.heap[w.heap.size]? = some zResp) := (b1.block _ (by omega)).trans HZ0.out
  clear h1 b1 HC HB0 HZ0
  go_wp2_with fail
  refine (resp_live _ C _ HL.out).mono ?_
  rintro e w2 ⟨st, v, l, b, rfl, hs0, hs1, hv, hf, hb, hl, ho⟩
  have HF := Num.hide hf
  have hz2 := ho.size
  obtain ⟨av, cv, hvv⟩ := Recs.own_len hv
  subst hvv
  have hal : Below w2.heap.size w2 (w2.alloc (.cells #[.int .i64 st, .slice av l.length cv, .string b] 47)) := (Below.refl _ _).alloc (Nat.le_refl _) _
  have HA : Hid (SpAt w C w2.heap.size st (.slice av l.length cv) l b (w2.alloc (.cells #[.int .i64 st, .slice av l.length cv, .string b] 47))) :=
    ⟨hl.below hal, (HB1.out.trans (ho.below (by omega) hCl)).trans (hal.mono (by omega)), (heap_alloc_old _ _ (by omega)).trans ((ho.block _ (by omega) (by omega)).trans HZ1.out), heap_alloc_new w2 _, Recs.own_mono (Recs.own_below hv hal) (by omega)⟩
  have hn2 : ∀ j, (Value.slice av l.length cv).ownBlock = some j → j ≠ w2.heap.size := fun j hj => by have := (Recs.own_lt hv j hj).2; omega
  have hgq : C < w2.heap.size := by omega
  unfold Resp.val
  clear hv hf hl ho hal HB1 HZ1 HL
  go_upto_region 3 with fail
  generalize w2.alloc (.cells #[.int .i64 st, .slice av l.length cv, .string b] 47) = w3 at HA ⊢
  generalize w2.heap.size = gq at HA hgq hn2 hz2 ⊢
  go_wp2_with fail
  refine (below_live _ C 8 _ HA.out.live (by omega) (by omega)).mono ?_
  rintro e w4 ⟨z, rfl, hz0', hz1', hl, ho⟩
  have HA4 := Num.hide (HA.out.step ho hl hCw hgq)
  clear hl ho HA
  by_cases c0 : z = 0
  · subst c0
    go_wp2_with fail
    refine (pickInt_live _ C w4.heap.size 0 1000 _ 4 _ (HA4.out.live.alloc _) (by have := HA4.out.live.lt; omega) (heap_alloc_new w4 _) rfl (by omega) (by omega) (by simp only [IntsIn, and_true]; omega)).mono ?_
    rintro e w5 ⟨st2, rfl, ht0, ht1, hl, ho⟩
    have HA5 := Num.hide (HA4.out.step (((Only.refl C w4).alloc _).trans ho) hl hCw hgq)
    clear hl ho HA4
    have HE := Num.hide (sp_end (st := st2) (v := .slice av l.length cv) (b := b) (HA5.out.below.setCell (p := ⟨gq, 0, none⟩) (by show w.heap.size ≤ gq; omega) (.int .i64 st2)) (Recs.own_set HA5.out.own gq 0 (.int .i64 st2) hn2) hCw)
    have k0 := Recs.box_cell HA5.out.box 0
    have z0 := Recs.box_thaw HA5.out.box 0
    have o0 := Recs.box_cell HA5.out.res 0
    have y0 := Recs.box_thaw HA5.out.res 0
    have k1 := Recs.box_cell HA5.out.box 1
    have z1 := Recs.box_thaw HA5.out.box 1
    have o1 := Recs.box_cell HA5.out.res 1
    have y1 := Recs.box_thaw HA5.out.res 1
    have k2 := Recs.box_cell HA5.out.box 2
    have z2 := Recs.box_thaw HA5.out.box 2
    have o2 := Recs.box_cell HA5.out.res 2
    have y2 := Recs.box_thaw HA5.out.res 2
    simp only [List.getElem?_toArray, List.getElem?_cons_succ, List.getElem?_cons_zero] at k0 k1 k2 o0 o1 o2
    clear HA5 hn2
    have n1 : ¬ gq = w.heap.size := by omega
    have n2 : ¬ w.heap.size = gq := by omega
    obtain ⟨r, hr⟩ : ∃ r, w.heap.size = r := ⟨_, rfl⟩
    rw [hr] at HE o0 o1 o2 y0 y1 y2 n1 n2 ⊢
    go_wp2
    exact bodyPost_ret (v := .agg #[.int .i64 st2, .slice av l.length cv, .string b]) (by simp [results, Tryz.results58, go_sem, *]) rfl ⟨st2, _, l, b, rfl, ht0, ht1, hr ▸ HE.out.1, HF.out.mono (by omega), hb, by rw [hr]; exact HE.out.2⟩
  · by_cases c1 : z = 1
    · subst c1
      go_wp2_with fail
      refine (any_live _ C _ HA4.out.live).mono ?_
      rintro e w5 ⟨v5, l5, rfl, hv5, hf5, hl, ho⟩
      have hCl4 := HA4.out.live.lt
      have HA5 := Num.hide (HA4.out.step ho hl hCw hgq)
      have hg4 : gq < w4.heap.size := (Array.getElem?_eq_some_iff.1 HA4.out.box).1
      have HF5 := Num.hide hf5
      have hn5 : ∀ j, v5.ownBlock = some j → j ≠ gq := fun j hj => by have := (Recs.own_lt hv5 j hj).1; omega
      have HE := Num.hide (sp_end (st := st) (v := v5) (l := l5) (b := b) (HA5.out.below.setCell (p := ⟨gq, 1, none⟩) (by show w.heap.size ≤ gq; omega) v5) (Recs.own_set (Recs.own_mono hv5 (by omega : C + 1 ≤ w4.heap.size)) gq 1 v5 hn5) hCw)
      obtain ⟨a5, q5, hv6⟩ := Recs.own_len hv5
      subst hv6
      clear hl ho HA4 hv5 hf5 hn5
      have k0 := Recs.box_cell HA5.out.box 0
      have z0 := Recs.box_thaw HA5.out.box 0
      have o0 := Recs.box_cell HA5.out.res 0
      have y0 := Recs.box_thaw HA5.out.res 0
      have k1 := Recs.box_cell HA5.out.box 1
      have z1 := Recs.box_thaw HA5.out.box 1
      have o1 := Recs.box_cell HA5.out.res 1
      have y1 := Recs.box_thaw HA5.out.res 1
      have k2 := Recs.box_cell HA5.out.box 2
      have z2 := Recs.box_thaw HA5.out.box 2
      have o2 := Recs.box_cell HA5.out.res 2
      have y2 := Recs.box_thaw HA5.out.res 2
      simp only [List.getElem?_toArray, List.getElem?_cons_succ, List.getElem?_cons_zero] at k0 k1 k2 o0 o1 o2
      clear HA5 hn2
      have n1 : ¬ gq = w.heap.size := by omega
      have n2 : ¬ w.heap.size = gq := by omega
      obtain ⟨r, hr⟩ : ∃ r, w.heap.size = r := ⟨_, rfl⟩
      rw [hr] at HE o0 o1 o2 y0 y1 y2 n1 n2 ⊢
      go_wp2
      exact bodyPost_ret (v := .agg #[.int .i64 st, .slice a5 l5.length q5, .string b]) (by simp [results, Tryz.results58, go_sem, *]) rfl ⟨st, _, l5, b, rfl, by omega, by omega, hr ▸ HE.out.1, HF5.out, hb, by rw [hr]; exact HE.out.2⟩
    · have d0 : (z == 0) = false := by rw [beq_eq_false_iff_ne]; exact c0
      have d1 : (z == 1) = false := by rw [beq_eq_false_iff_ne]; exact c1
      by_cases c2 : z = 2
      · subst c2
        have HE := Num.hide (sp_end (st := st) (v := .slice av l.length cv) (l := l) (b := ⟨#[120]⟩) (HA4.out.below.setCell (p := ⟨gq, 2, none⟩) (by show w.heap.size ≤ gq; omega) (.string ⟨#[120]⟩)) (Recs.own_set HA4.out.own gq 2 (.string ⟨#[120]⟩) hn2) hCw)
        have k0 := Recs.box_cell HA4.out.box 0
        have z0 := Recs.box_thaw HA4.out.box 0
        have o0 := Recs.box_cell HA4.out.res 0
        have y0 := Recs.box_thaw HA4.out.res 0
        have k1 := Recs.box_cell HA4.out.box 1
        have z1 := Recs.box_thaw HA4.out.box 1
        have o1 := Recs.box_cell HA4.out.res 1
        have y1 := Recs.box_thaw HA4.out.res 1
        have k2 := Recs.box_cell HA4.out.box 2
        have z2 := Recs.box_thaw HA4.out.box 2
        have o2 := Recs.box_cell HA4.out.res 2
        have y2 := Recs.box_thaw HA4.out.res 2
        simp only [List.getElem?_toArray, List.getElem?_cons_succ, List.getElem?_cons_zero] at k0 k1 k2 o0 o1 o2
        clear HA4 hn2
        have n1 : ¬ gq = w.heap.size := by omega
        have n2 : ¬ w.heap.size = gq := by omega
        obtain ⟨r, hr⟩ : ∃ r, w.heap.size = r := ⟨_, rfl⟩
        rw [hr] at HE o0 o1 o2 y0 y1 y2 n1 n2 ⊢
        go_wp2
        exact bodyPost_ret (v := .agg #[.int .i64 st, .slice av l.length cv, .string ⟨#[120]⟩]) (by simp [results, Tryz.results58, go_sem, *]) rfl ⟨st, _, l, ⟨#[120]⟩, rfl, by omega, by omega, hr ▸ HE.out.1, HF.out.mono (by omega), by decide, by rw [hr]; exact HE.out.2⟩
      · have d2 : (z == 2) = false := by rw [beq_eq_false_iff_ne]; exact c2
        have HE := Num.hide (sp_end (st := st) (v := .slice av l.length cv) (l := l) (b := b) HA4.out.below HA4.out.own hCw)
        have k0 := Recs.box_cell HA4.out.box 0
        have z0 := Recs.box_thaw HA4.out.box 0
        have o0 := Recs.box_cell HA4.out.res 0
        have y0 := Recs.box_thaw HA4.out.res 0
        have k1 := Recs.box_cell HA4.out.box 1
        have z1 := Recs.box_thaw HA4.out.box 1
        have o1 := Recs.box_cell HA4.out.res 1
        have y1 := Recs.box_thaw HA4.out.res 1
        have k2 := Recs.box_cell HA4.out.box 2
        have z2 := Recs.box_thaw HA4.out.box 2
        have o2 := Recs.box_cell HA4.out.res 2
        have y2 := Recs.box_thaw HA4.out.res 2
        simp only [List.getElem?_toArray, List.getElem?_cons_succ, List.getElem?_cons_zero] at k0 k1 k2 o0 o1 o2
        clear HA4 hn2
        have n1 : ¬ gq = w.heap.size := by omega
        have n2 : ¬ w.heap.size = gq := by omega
        obtain ⟨r, hr⟩ : ∃ r, w.heap.size = r := ⟨_, rfl⟩
        rw [hr] at HE o0 o1 o2 y0 y1 y2 n1 n2 ⊢
        go_wp2
        exact bodyPost_ret (v := .agg #[.int .i64 st, .slice av l.length cv, .string b]) (by simp [results, Tryz.results58, go_sem, *]) rfl ⟨st, _, l, b, rfl, by omega, by omega, hr ▸ HE.out.1, HF.out.mono (by omega), hb, by rw [hr]; exact HE.out.2⟩
end Draw
end Go.Proofs.YtbajfklnekfeoaaGreatDoor
namespace Go.Proofs.YtbajfklnekfeoaaGreatDoor
open Go.RowKit
set_option linter.unusedVariables false
set_option linter.unusedSimpArgs false
namespace Draw

theorem CodeAt.wider {B B' : Nat} {w : World} {a : Option Addr} {l : List Int} (h : CodeAt B w a l) (hB : B ≤ B') : CodeAt B' w a l := by
  refine ⟨h.1, ?_⟩
  rcases h.2 with h2 | ⟨x, y, h3, h4, h5⟩
  · exact .inl h2
  · exact .inr ⟨x, y, h3, by omega, h5⟩
set_option maxRecDepth 100000 in
set_option maxHeartbeats 2000000 in
theorem drawShowResp (cap : Nat) (a : Option Addr) (l0 : List Int) (w : World) (hcode : CodeAt w.heap.size w a l0) (hl0 : l0.length ≤ 1048576) :
    Calls Tryz.prog 22 #[.slice a l0.length cap] w fun e w' => ∃ st v l b, e = .returned (Resp.val st v b) ∧ 0 ≤ st ∧ st ≤ 1000 ∧ Flds.Own w.heap.size w' v l ∧ Few 13 l ∧ b.size ≤ 64 ∧ Below w.heap.size w w' := by
  have hb0 : Below w.heap.size w (w.alloc zResp) := (Below.refl _ _).alloc (Nat.le_refl _) _
  have hz0 : (w.alloc zResp).heap.size = w.heap.size + 1 := by rw [World.size_alloc]
  have HC := Num.hide ((hcode.below hb0).wider (by omega : w.heap.size ≤ (w.alloc zResp).heap.size))
  clear hcode
  go_enter Tryz.func22, Tryz.ntmps22
  go_wp2_with fail
  refine (drawRespOk cap a l0 _ HC.out hl0).mono ?_
  rintro e w1 ⟨st, v, l, b, rfl, hs0, hs1, hv, hf, hb, hb1⟩
  have hrow : w1.heap[w.heap.size]? = some zResp := (hb1.block _ (by omega)).trans (heap_alloc_new w _)
  have n0 : ∀ j, v.ownBlock = some j → j ≠ w.heap.size := fun j hj => by have := (Recs.own_lt hv j hj).1; omega
  have o1 := Recs.own_set hv w.heap.size 0 (.int .i64 st) n0
  have o2 := Recs.own_set o1 w.heap.size 1 v n0
  have HO := Num.hide (Recs.own_mono (Recs.own_set o2 w.heap.size 2 (.string b) n0) (by omega : w.heap.size ≤ (w.alloc zResp).heap.size))
  have hB1 := hb0.trans (hb1.mono hb0.size)
  have HB := Num.hide (((hB1.setCell (p := ⟨w.heap.size, 0, none⟩) (Nat.le_refl _) (.int .i64 st)).setCell (p := ⟨w.heap.size, 1, none⟩) (Nat.le_refl _) v).setCell (p := ⟨w.heap.size, 2, none⟩) (Nat.le_refl _) (.string b))
  have HF := Num.hide hf
  have k0 := Recs.box_cell hrow 0
  have k1 := Recs.box_cell hrow 1
  have k2 := Recs.box_cell hrow 2
  have z0 := Recs.box_thaw hrow 0
  have z1 := Recs.box_thaw hrow 1
  have z2 := Recs.box_thaw hrow 2
  simp only [List.getElem?_toArray, List.getElem?_cons_succ, List.getElem?_cons_zero] at k0 k1 k2
  obtain ⟨a2, q2, hv2⟩ := Recs.own_len hv
  subst hv2
  unfold Resp.val
  clear hv hf hb0 hb1 hrow n0 o1 o2 hB1 HC
  go_wp2
  exact bodyPost_ret (v := .agg #[.int .i64 st, .slice a2 l.length q2, .string b]) (by simp [results, Tryz.results22, go_sem, *]) rfl ⟨st, _, l, b, rfl, hs0, hs1, HO.out, HF.out, hb, HB.out⟩
end Draw
end Go.Proofs.YtbajfklnekfeoaaGreatDoor
namespace Go.Proofs.YtbajfklnekfeoaaGreatDoor
open Go.RowKit
set_option linter.unusedVariables false
set_option linter.unusedSimpArgs false
namespace Draw

set_option maxRecDepth 100000 in
set_option maxHeartbeats 2000000 in
theorem drawShowReq (cap : Nat) (a : Option Addr) (l0 : List Int) (w : World) (hcode : CodeAt w.heap.size w a l0) (hl0 : l0.length ≤ 1048576) :
    Calls Tryz.prog 17 #[.slice a l0.length cap] w fun e w' => ∃ m u v l b, e = .returned (Req.val m u v b) ∧ m.size ≤ 64 ∧ u.size ≤ 64 ∧ Flds.Own w.heap.size w' v l ∧ Few 13 l ∧ b.size ≤ 64 ∧ Below w.heap.size w w' := by
  have hb0 : Below w.heap.size w (w.alloc zReq) := (Below.refl _ _).alloc (Nat.le_refl _) _
  have hz0 : (w.alloc zReq).heap.size = w.heap.size + 1 := by rw [World.size_alloc]
  have HC := Num.hide ((hcode.below hb0).wider (by omega : w.heap.size ≤ (w.alloc zReq).heap.size))
  clear hcode
  go_enter Tryz.func17, Tryz.ntmps17
  go_wp2_with fail
  refine (drawReqOk cap a l0 _ HC.out hl0).mono ?_
  rintro e w1 ⟨m, u, v, l, b, rfl, hm, hu, hv, hf, hb, hb1⟩
  have hrow : w1.heap[w.heap.size]? = some zReq := (hb1.block _ (by omega)).trans (heap_alloc_new w _)
  have n0 : ∀ j, v.ownBlock = some j → j ≠ w.heap.size := fun j hj => by have := (Recs.own_lt hv j hj).1; omega
  have o1 := Recs.own_set hv w.heap.size 0 (.string m) n0
  have o2 := Recs.own_set o1 w.heap.size 1 (.string u) n0
  have o3 := Recs.own_set o2 w.heap.size 2 v n0
  have HO := Num.hide (Recs.own_mono (Recs.own_set o3 w.heap.size 3 (.string b) n0) (by omega : w.heap.size ≤ (w.alloc zReq).heap.size))
  have hB1 := hb0.trans (hb1.mono hb0.size)
  have HB := Num.hide ((((hB1.setCell (p := ⟨w.heap.size, 0, none⟩) (Nat.le_refl _) (.string m)).setCell (p := ⟨w.heap.size, 1, none⟩) (Nat.le_refl _) (.string u)).setCell (p := ⟨w.heap.size, 2, none⟩) (Nat.le_refl _) v).setCell (p := ⟨w.heap.size, 3, none⟩) (Nat.le_refl _) (.string b))
  have HF := Num.hide hf
  have k0 := Recs.box_cell hrow 0
  have k1 := Recs.box_cell hrow 1
  have k2 := Recs.box_cell hrow 2
  have k3 := Recs.box_cell hrow 3
  have z0 := Recs.box_thaw hrow 0
  have z1 := Recs.box_thaw hrow 1
  have z2 := Recs.box_thaw hrow 2
  have z3 := Recs.box_thaw hrow 3
  simp only [List.getElem?_toArray, List.getElem?_cons_succ, List.getElem?_cons_zero] at k0 k1 k2 k3
  obtain ⟨a2, q2, hv2⟩ := Recs.own_len hv
  subst hv2
  unfold Req.val
  clear hv hf hb0 hb1 hrow n0 o1 o2 o3 hB1 HC
  obtain ⟨r, hr⟩ : ∃ r, w.heap.size = r := ⟨_, rfl⟩
  rw [hr] at HO HB k0 k1 k2 k3 z0 z1 z2 z3 ⊢
  go_wp2
  exact bodyPost_ret (v := .agg #[.string m, .string u, .slice a2 l.length q2, .string b]) (by simp [results, Tryz.results17, go_sem, *]) rfl ⟨m, u, _, l, b, rfl, hm, hu, hr ▸ HO.out, HF.out, hb, hr ▸ HB.out⟩
end Draw
end Go.Proofs.YtbajfklnekfeoaaGreatDoor
namespace Go.Proofs.YtbajfklnekfeoaaGreatDoor
open Go.RowKit
set_option linter.unusedVariables false
namespace Draw

set_option maxRecDepth 100000 in
set_option maxHeartbeats 1000000 in
theorem drawChunk (cap : Nat) (a : Option Addr) (l : List Int) (w : World) (hcode : CodeAt w.heap.size w a l) (hl : l.length ≤ 1048576) :
    Calls Tryz.prog 8 #[.slice a l.length cap] w fun e w' => ∃ (t : ByteArray) (z : Int), e = .returned (.tuple #[.string t, .int .i64 z]) ∧ t.size ≤ 30 ∧ -1 ≤ z ∧ z ≤ 100 ∧ Below w.heap.size w w' := by
  have HC := Num.hide hcode
  clear hcode
  go_enter Tryz.func8, Tryz.ntmps8
  go_wp2_with fail
  refine (new_at w.heap.size cap a l _ (Nat.le_refl _) HC.out hl).mono ?_
  rintro e w1 ⟨C, rfl, hC, h1, b1⟩
  have HL : Hid (Live w.heap.size C w1) := ⟨_, _, _, _, h1⟩
  have HB1 := Num.hide b1
  have hCl := h1.lt
  clear h1 b1
  go_wp2_with fail
  refine (text_live w.heap.size C 30 _ HL.out (by omega)).mono ?_
  rintro e w2 ⟨t, rfl, ht, hl2, ho2⟩
  have HL2 := Num.hide hl2
  have HO2 := Num.hide ho2
  have hC2 := hl2.lt
  clear hl2 ho2 HL
  go_wp2_with fail
  refine (pickInt_live w.heap.size C w2.heap.size (-1) 100 _ 7 _ (HL2.out.alloc _) (by omega) (heap_alloc_new w2 _) rfl (by omega) (by omega) (by simp only [IntsIn, and_true]; omega)).mono ?_
  rintro e w3 ⟨z, rfl, hz0, hz1, hl3, ho3⟩
  have HB3 := Num.hide (HB1.out.trans (((HO2.out.alloc _).trans ho3).below hC hCl))
  clear hl3 ho3
  go_wp2
  go_ret2
  exact ⟨_, _, rfl, ht, hz0, hz1, HB3.out⟩
set_option maxRecDepth 100000 in
set_option maxHeartbeats 1000000 in
theorem drawHex (cap : Nat) (a : Option Addr) (l : List Int) (w : World) (hcode : CodeAt w.heap.size w a l) (hl : l.length ≤ 1048576) :
    Calls Tryz.prog 12 #[.slice a l.length cap] w fun e w' => ∃ z : Int, e = .returned (.int .i64 z) ∧ -1 ≤ z ∧ z ≤ 9223372036854775807 ∧ Below w.heap.size w w' := by
  have HC := Num.hide hcode
  clear hcode
  go_enter Tryz.func12, Tryz.ntmps12
  go_wp2_with fail
  refine (new_at w.heap.size cap a l _ (Nat.le_refl _) HC.out hl).mono ?_
  rintro e w1 ⟨C, rfl, hC, h1, b1⟩
  have HL : Hid (Live w.heap.size C w1) := ⟨_, _, _, _, h1⟩
  have HB1 := Num.hide b1
  have hCl := h1.lt
  clear h1 b1
  go_wp2_with fail
  refine (below_live w.heap.size C 5000 _ HL.out (by omega) (by omega)).mono ?_
  rintro e w2 ⟨t, rfl, ht0, ht1, hl2, ho2⟩
  have HL2 := Num.hide hl2
  have HO2 := Num.hide ho2
  have hC2 := hl2.lt
  clear hl2 ho2 HL
  go_wp2_with fail
  refine (pickInt_live w.heap.size C w2.heap.size (-1) 9223372036854775807 _ 11 _ (HL2.out.alloc _) (by omega) (heap_alloc_new w2 _) rfl (by omega) (by omega) (by simp only [IntsIn, and_true]; omega)).mono ?_
  rintro e w3 ⟨z, rfl, hz0, hz1, hl3, ho3⟩
  have HB3 := Num.hide (HB1.out.trans (((HO2.out.alloc _).trans ho3).below hC hCl))
  clear hl3 ho3
  go_wp2
  go_ret
  exact ⟨_, rfl, hz0, hz1, HB3.out⟩
set_option maxRecDepth 100000 in
set_option maxHeartbeats 1000000 in
theorem at_zero (B cap : Nat) (a : Option Addr) (l : List Int) (w : World) (hcode : CodeAt B w a l) (hl : l.length ≤ 1048576) :
    Calls Tryz.prog 11 #[.slice a l.length cap, .int .i64 0] w fun e w' => ∃ z : Int, e = .returned (.int .i64 z) ∧ 0 ≤ z ∧ z ≤ 255 ∧ w = w' := by
  by_cases h0 : (0 : Int) < (l.length : Int)
  · rcases hcode.2 with hn | ⟨b, off, rfl, hbB, hc⟩
    · rw [hn] at h0; simp at h0
    · have hz := hcode.1 0 (by omega)
      have hck := hc 0 (by omega)
      rw [Nat.add_zero] at hck
      generalize l[0]'(by omega) = z at hz hck
      have HC := Num.hide hcode
      clear hcode hc HC
      go_enter Tryz.func11, Tryz.ntmps11
      go_wp2
      go_ret
      exact ⟨z, rfl, hz.1, hz.2, rfl⟩
  · have d0 : decide ((0 : Int) < (l.length : Int)) = false := by rw [decide_eq_false_iff_not]; exact h0
    clear hcode
    go_enter Tryz.func11, Tryz.ntmps11
    go_wp2
    go_ret
    exact ⟨_, rfl, by omega, by omega, rfl⟩
end Draw
end Go.Proofs.YtbajfklnekfeoaaGreatDoor
namespace Go.Proofs.YtbajfklnekfeoaaGreatDoor
open Go.RowKit
set_option linter.unusedVariables false
namespace Draw

theorem CodeAt.mono {B B' : Nat} {w : World} {a : Option Addr} {l : List Int} (h : CodeAt B w a l) (hB : B ≤ B') : CodeAt B' w a l := by
  refine ⟨h.1, ?_⟩
  rcases h.2 with h | ⟨b, off, ha, hb, hc⟩
  · exact .inl h
  · exact .inr ⟨b, off, ha, by omega, hc⟩
theorem lt_of_cell {w : World} {a : Addr} {v : Value} (h : w.cell? a = some v) : a.block < w.heap.size := by
  apply Decidable.byContradiction
  intro hc
  have hn : w.heap[a.block]? = none := Array.getElem?_eq_none (by omega)
  simp [World.cell?, hn] at h
theorem code_of (w : World) (x : Addr) (len : Nat) (zs : List Int) (hl : len ≤ zs.length) (hcell : ∀ i, i < zs.length → w.cell? (x.add i) = some (.int .u8 (zs.getD i 0))) (hwz : ∀ n ∈ zs, (Lit.int .u8 n).wf = true) :
    (zs.take len).length = len ∧ CodeAt w.heap.size w (some x) (zs.take len) := by
  have hlen : (zs.take len).length = len := by rw [List.length_take]; omega
  refine ⟨hlen, ?_, ?_⟩
  · intro i hi
    have hm : (zs.take len)[i] ∈ zs := List.mem_of_mem_take (List.getElem_mem hi)
    have := bounds_u8 (hwz _ hm)
    omega
  · by_cases h0 : len = 0
    · left; subst h0; rfl
    · right
      obtain ⟨b, off, spot⟩ := x
      have hc := hcell 0 (by omega)
      have hspot : spot = none := by simpa [Addr.add] using World.cell?_spot hc
      subst hspot
      have hadd : ∀ i, (⟨b, off, none⟩ : Addr).add i = ⟨b, off + i, none⟩ := fun i => by unfold Addr.add; split <;> simp_all
      refine ⟨b, off, rfl, ?_, ?_⟩
      · have := lt_of_cell hc
        rw [hadd] at this
        exact this
      · intro i hi
        have h2 := hcell i (by omega)
        rw [hadd] at h2
        rw [h2, List.getElem_take, List.getD_eq_getElem?_getD, List.getElem?_eq_getElem (by omega)]
        rfl
set_option maxHeartbeats 400000 in
theorem big_any (a : Option Addr) (n cap : Nat) (w : World) (h : n ≤ 9223372036854775807) : Calls Tryz.prog 7 #[.slice a n cap] w fun e w' => e = .returned (.bool (decide (1048576 < (n : Int)))) ∧ w = w' := by
  go_enter Tryz.func7, Tryz.ntmps7
  go_wp2
  go_ret
  exact ⟨by simp, rfl⟩
end Draw
end Go.Proofs.YtbajfklnekfeoaaGreatDoor
namespace Go.Proofs.YtbajfklnekfeoaaGreatDoor
set_option linter.unusedVariables false
namespace Line

/-- the byte at a place; 256 where there is none -/
def byteAt (s : ByteArray) (i : Nat) : Nat := if h : i < s.size then s[i].toNat else 256
theorem byteAt_eq (s : ByteArray) (i : Nat) (h : i < s.size) : byteAt s i = s[i].toNat := by unfold byteAt; rw [dif_pos h]
end Line
end Go.Proofs.YtbajfklnekfeoaaGreatDoor
namespace Go.Proofs.YtbajfklnekfeoaaGreatDoor
set_option linter.unusedVariables false
namespace Line

/-- the first end of a line from i on, within n places -/
def eolGo (s : ByteArray) : Nat → Nat → Option Nat
  | 0, _ => none
  | n + 1, i => if byteAt s i = 13 ∧ byteAt s (i + 1) = 10 then some i else eolGo s n (i + 1)
/-- where the line at 'a' ends -/
def eol (s : ByteArray) (a : Nat) : Option Nat := eolGo s (s.size - a) a
theorem eolGo_in (s : ByteArray) : ∀ (n i k : Nat), eolGo s n i = some k → i ≤ k ∧ k + 1 < s.size := by
  intro n
  induction n with
  | zero => intro i k h; cases h
  | succ n ih =>
    intro i k h
    unfold eolGo at h
    split at h
    · next hc =>
      cases h
      refine ⟨Nat.le_refl _, ?_⟩
      by_cases hz : i + 1 < s.size
      · exact hz
      · exfalso; have := hc.2; unfold byteAt at this; rw [dif_neg hz] at this; omega
    · have := ih (i + 1) k h; omega
theorem eol_in {s : ByteArray} {a k : Nat} (h : eol s a = some k) : a ≤ k ∧ k + 1 < s.size := eolGo_in s _ a k h
theorem eol_hit (s : ByteArray) (i : Nat) (h : i + 1 < s.size) (h1 : (s[i]'(by omega)).toNat = 13) (h2 : (s[i + 1]).toNat = 10) : eol s i = some i := by
  unfold eol
  obtain ⟨n, hn⟩ : ∃ n, s.size - i = n + 1 := ⟨s.size - i - 1, by omega⟩
  rw [hn, eolGo, if_pos ⟨by rw [byteAt_eq s i (by omega)]; exact h1, by rw [byteAt_eq s (i + 1) h]; exact h2⟩]
theorem eol_next (s : ByteArray) (i : Nat) (h : i + 1 < s.size) (hn : ¬ ((s[i]'(by omega)).toNat = 13 ∧ (s[i + 1]).toNat = 10)) : eol s i = eol s (i + 1) := by
  unfold eol
  obtain ⟨n, e⟩ : ∃ n, s.size - i = n + 1 := ⟨s.size - i - 1, by omega⟩
  rw [e, eolGo, if_neg (by rw [byteAt_eq s i (by omega), byteAt_eq s (i + 1) h]; exact hn), show s.size - (i + 1) = n by omega]
theorem eol_end (s : ByteArray) (i : Nat) (h : s.size ≤ i + 1) : eol s i = none := by
  cases e : eol s i with
  | none => rfl
  | some k => have := eol_in e; omega
/-- what the call tells -/
def lineOf (s : ByteArray) (a : Nat) : ByteArray × Int := match eol s a with | some k => (s.extract a k, (k : Int) + 2) | none => (⟨#[]⟩, -1)
/-- the first colon from i on, within n places -/
def colonGo (s : ByteArray) : Nat → Nat → Option Nat
  | 0, _ => none
  | n + 1, i => if byteAt s i = 58 then some i else colonGo s n (i + 1)
def colon (s : ByteArray) : Option Nat := colonGo s s.size 0
theorem colonGo_in (s : ByteArray) : ∀ (n i k : Nat), colonGo s n i = some k → i ≤ k ∧ k < s.size := by
  intro n
  induction n with
  | zero => intro i k h; cases h
  | succ n ih =>
    intro i k h
    unfold colonGo at h
    split at h
    · next hc =>
      cases h
      refine ⟨Nat.le_refl _, ?_⟩
      by_cases hz : i < s.size
      · exact hz
      · exfalso; unfold byteAt at hc; rw [dif_neg hz] at hc; omega
    · have := ih (i + 1) k h; omega
theorem colon_in {s : ByteArray} {k : Nat} (h : colon s = some k) : k < s.size := (colonGo_in s _ 0 k h).2
def colonOf (s : ByteArray) : Int := match colon s with | some k => (k : Int) | none => -1
end Line
end Go.Proofs.YtbajfklnekfeoaaGreatDoor
namespace Go.Proofs.YtbajfklnekfeoaaGreatDoor
open Go.RowKit
set_option linter.unusedVariables false
set_option linter.unusedSimpArgs false
namespace Flds

/-- the field of a line, where a colon stands at k -/
def fieldOf (line : ByteArray) (k : Nat) : Fld := (Sign.lower (line.extract 0 k), Sign.trim (line.extract (k + 1) line.size))
/-- what is read from 'a' on behind the fields l, in at most so many lines: the fields and the next place -/
def readGo (s : ByteArray) : Nat → Nat → List Fld → Option (List Fld × Nat)
  | 0, _, _ => none
  | n + 1, a, l =>
    match Line.eol s a with
    | none => none
    | some i => if i = a then some (l, i + 2) else
      match Line.colon (s.extract a i) with
      | none => none
      | some k => if okF (fieldOf (s.extract a i) k) = true then readGo s n (i + 2) (l ++ [fieldOf (s.extract a i) k]) else none
/-- the fields and the place behind them -/
def read (s : ByteArray) : Option (List Fld × Nat) := readGo s 13 0 []
/-- where the reading stands -/
structure RdAt (s : ByteArray) (a : Nat) (l : List Fld) : Prop where
  le : a ≤ s.size
  len : l.length ≤ 13
  all : l.all okF = true
  same : read s = readGo s (13 - l.length) a l
  small : ∀ f ∈ l, f.1.size ≤ 60 ∧ f.2.size ≤ 60
theorem rd_start (s : ByteArray) : RdAt s 0 [] := ⟨Nat.zero_le _, Nat.zero_le _, rfl, rfl, fun f hf => by cases hf⟩
theorem okF_small {f : Fld} (h : okF f = true) : f.1.size ≤ 60 ∧ f.2.size ≤ 60 := by
  unfold okF at h
  simp only [Bool.and_eq_true, decide_eq_true_iff] at h
  omega
section
variable {s : ByteArray} {a : Nat} {l : List Fld}
theorem rd_full (h : RdAt s a l) (hl : ¬ l.length ≤ 12) : read s = none := by
  rw [h.same, show 13 - l.length = 0 by omega]; rfl
theorem rd_step (h : RdAt s a l) (hl : l.length ≤ 12) : ∃ n, 13 - l.length = n + 1 := ⟨12 - l.length, by omega⟩
theorem rd_none (h : RdAt s a l) (hl : l.length ≤ 12) (he : Line.eol s a = none) : read s = none := by
  obtain ⟨n, hn⟩ := rd_step h hl
  rw [h.same, hn, readGo, he]
theorem rd_done (h : RdAt s a l) (hl : l.length ≤ 12) (he : Line.eol s a = some a) : read s = some (l, a + 2) := by
  obtain ⟨n, hn⟩ := rd_step h hl
  rw [h.same, hn, readGo, he]; simp
theorem rd_nocolon (h : RdAt s a l) (hl : l.length ≤ 12) {i : Nat} (he : Line.eol s a = some i) (hi : i ≠ a) (hc : Line.colon (s.extract a i) = none) : read s = none := by
  obtain ⟨n, hn⟩ := rd_step h hl
  rw [h.same, hn, readGo, he]; simp only; rw [if_neg hi, hc]
theorem rd_bad (h : RdAt s a l) (hl : l.length ≤ 12) {i k : Nat} (he : Line.eol s a = some i) (hi : i ≠ a) (hc : Line.colon (s.extract a i) = some k) (hf : okF (fieldOf (s.extract a i) k) = false) : read s = none := by
  obtain ⟨n, hn⟩ := rd_step h hl
  rw [h.same, hn, readGo, he]; simp only; rw [if_neg hi, hc]; simp only; rw [if_neg (by rw [hf]; decide)]
theorem rd_more (h : RdAt s a l) (hl : l.length ≤ 12) {i k : Nat} (he : Line.eol s a = some i) (hi : i ≠ a) (hc : Line.colon (s.extract a i) = some k) (hf : okF (fieldOf (s.extract a i) k) = true) : RdAt s (i + 2) (l ++ [fieldOf (s.extract a i) k]) where
  le := by have := Line.eol_in he; omega
  len := by rw [List.length_append]; simp; omega
  all := by rw [List.all_append, h.all]; simp [hf]
  same := by
    obtain ⟨n, hn⟩ := rd_step h hl
    rw [h.same, hn, readGo, he]; simp only; rw [if_neg hi, hc]; simp only; rw [if_pos hf, List.length_append, List.length_singleton, show 13 - (l.length + 1) = n by omega]
  small := by
    intro f hf2
    rcases List.mem_append.1 hf2 with h1 | h1
    · exact h.small f h1
    · obtain rfl := List.mem_singleton.1 h1
      exact okF_small hf
theorem rd_ok (h : RdAt s a l) (hl : l.length ≤ 12) : ok l = true := by unfold ok; rw [h.all, Bool.true_and]; exact decide_eq_true hl
end
/-- what the call tells: the fields, how many bytes, and whether there were any to be read -/
def readL (s : ByteArray) : List Fld := match read s with | some (l, _) => l | none => []
def readN (s : ByteArray) : Int := match read s with | some (_, n) => (n : Int) | none => 0
def readB (s : ByteArray) : Bool := (read s).isSome
theorem told_none {s : ByteArray} (h : read s = none) : readL s = [] ∧ readN s = 0 ∧ readB s = false := by unfold readL readN readB; rw [h]; exact ⟨rfl, rfl, rfl⟩
theorem told_some {s : ByteArray} {l : List Fld} {n : Nat} (h : read s = some (l, n)) : readL s = l ∧ readN s = (n : Int) ∧ readB s = true := by unfold readL readN readB; rw [h]; exact ⟨rfl, rfl, rfl⟩
theorem readGo_length (s : ByteArray) : ∀ (n a : Nat) (l : List Fld) (p : List Fld × Nat), readGo s n a l = some p → p.1.length ≤ l.length + n := by
  intro n
  induction n with
  | zero => intro a l p h; cases h
  | succ n ih =>
    intro a l p h
    rw [readGo] at h
    cases he : Line.eol s a with
    | none => rw [he] at h; cases h
    | some i =>
      rw [he] at h
      simp only at h
      by_cases hi : i = a
      · rw [if_pos hi] at h; cases h; simp only; omega
      · rw [if_neg hi] at h
        cases hc : Line.colon (s.extract a i) with
        | none => rw [hc] at h; cases h
        | some k =>
          rw [hc] at h
          simp only at h
          by_cases hk : okF (fieldOf (s.extract a i) k) = true
          · rw [if_pos hk] at h
            have := ih _ _ _ h
            rw [List.length_append, List.length_singleton] at this
            omega
          · rw [if_neg hk] at h; cases h
theorem readL_length (s : ByteArray) : (readL s).length ≤ 13 := by
  unfold readL
  cases h : read s with
  | none => exact Nat.zero_le _
  | some p =>
    have := readGo_length s _ _ _ _ h
    rw [List.length_nil] at this
    obtain ⟨l, n⟩ := p
    simp only at this ⊢
    omega
end Flds
end Go.Proofs.YtbajfklnekfeoaaGreatDoor
