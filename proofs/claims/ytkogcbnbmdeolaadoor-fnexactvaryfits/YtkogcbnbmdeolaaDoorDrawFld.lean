/-
  The specification's draws of fields: some list of small fields; nothing but the cursor and new memory changes.
-/
import Derived.Test.YtkogcbnbmdeolaaDoorDrawPick
import Derived.Test.YtkogcbnbmdeolaaDoorDrawnNum
import Derived.Test.YtkogcbnbmdeolaaDoorDateSpec
import Derived.Test.YtkogcbnbmdeolaaDoorFldPut
namespace Go.Proofs.YtkogcbnbmdeolaaDoor
open Go.RowKit
set_option linter.unusedVariables false
namespace Draw
open Flds (two_cells box_first box_second)

theorem date_size (z : Int) (h0 : 0 ≤ z) (h1 : z < 60) : (Date.shown z).size ≤ 64 := by
  have e : Date.shown z = Date.text z := if_pos ⟨h0, by omega⟩
  rw [e]
  unfold Date.text
  have hp := Date.parts_in (z / 86400) (by omega) (by omega)
  have hw := Date.week_size (z / 86400 % 7).toNat (by omega)
  have hn := Date.name_size (Date.mo (z / 86400)) (by omega)
  have hd : (Date.dec (1970 + (Date.yr (z / 86400) : Int))).size ≤ 20 := by
    unfold Date.dec
    rw [Dec.itoa_pos _ (by omega)]
    have := Dec.length_dd (1970 + (Date.yr (z / 86400) : Int)).natAbs (by omega)
    simp only [ByteArray.size, List.size_toArray]
    exact this
  have e1 : (⟨#[44, 32]⟩ : ByteArray).size = 2 := rfl
  have e2 : (⟨#[32]⟩ : ByteArray).size = 1 := rfl
  have e3 : (⟨#[58]⟩ : ByteArray).size = 1 := rfl
  have e4 : (⟨#[32, 71, 77, 84]⟩ : ByteArray).size = 4 := rfl
  simp only [ByteArray.size_append, Date.size_two, hw, hn, e1, e2, e3, e4]
  omega
/-- the box of a field that is made: what it holds after two stores -/
theorem box_end {B C : Nat} {w w2 : World} (x y : ByteArray) (hl : Live B C w2) (ho : Only C w w2) (hC : C < w.heap.size) :
    Live B C ((w2.setCell ⟨w.heap.size, 0, none⟩ (.string x)).setCell ⟨w.heap.size, 1, none⟩ (.string y)) ∧ Only C w ((w2.setCell ⟨w.heap.size, 0, none⟩ (.string x)).setCell ⟨w.heap.size, 1, none⟩ (.string y)) := by
  have hb : Below w.heap.size w2 ((w2.setCell ⟨w.heap.size, 0, none⟩ (.string x)).setCell ⟨w.heap.size, 1, none⟩ (.string y)) :=
    ((Below.refl _ _).setCell (p := ⟨w.heap.size, 0, none⟩) (Nat.le_refl _) _).setCell (p := ⟨w.heap.size, 1, none⟩) (Nat.le_refl _) _
  exact ⟨hl.under hb hC, ho.of_below hb⟩
set_option maxRecDepth 100000 in
set_option maxHeartbeats 4000000 in
theorem field_q (B C : Nat) (w : World) (h : Live B C w) :
    Calls Tryd.prog 85 #[.pointer (some ⟨C, 0, none⟩)] w fun e w' => ∃ x y, e = .returned (.agg #[.string x, .string y]) ∧ x.size ≤ 64 ∧ y.size ≤ 64 ∧ Drawn x y ∧ Live B C w' ∧ Only C w w' := by
  have hC := h.lt
  have HL0 := Num.hide (h.alloc (.cells #[.string ⟨#[]⟩, .string ⟨#[]⟩] 40))
  have HO0 := Num.hide ((Only.refl C w).alloc (.cells #[.string ⟨#[]⟩, .string ⟨#[]⟩] 40))
  have HK0 : Hid ((w.alloc (.cells #[.string ⟨#[]⟩, .string ⟨#[]⟩] 40)).heap[w.heap.size]? = some (.cells #[.string ⟨#[]⟩, .string ⟨#[]⟩] 40)) := heap_alloc_new w _
  clear h
  go_enter Tryd.func85, Tryd.ntmps85
  go_wp2_with fail
  refine (below_live B C 10 _ HL0.out (by omega) (by omega)).mono ?_
  rintro e w1 ⟨z, rfl, hz0, hz1, hl, ho⟩
  have HL1 := Num.hide hl
  have HO1 := Num.hide (HO0.out.trans ho)
  have HK1 : Hid (w1.heap[w.heap.size]? = some (.cells #[.string ⟨#[]⟩, .string ⟨#[]⟩] 40)) := (ho.block _ (by simp) (by omega)).trans HK0.out
  have hs1 : w.heap.size < w1.heap.size := by have := ho.size; simp at this; omega
  clear hl ho HL0 HO0 HK0
  rcases (by omega : z = 0 ∨ z = 1 ∨ z = 2 ∨ z = 3 ∨ z = 4 ∨ z = 5 ∨ z = 6 ∨ z = 7 ∨ z = 8 ∨ z = 9) with rfl | rfl | rfl | rfl | rfl | rfl | rfl | rfl | rfl | rfl
  · go_wp2_with fail
    refine (pick_q (oneOf ccVals) B C w1.heap.size _ 12 _ (HL1.out.alloc _) (by omega) (heap_alloc_new w1 _) rfl (by omega) (by omega) (by kernel_rfl)).mono ?_
    rintro e w2 ⟨y, rfl, hy, hq, hl, ho⟩
    have HQ := Num.hide hq
    clear hq
    have HO2 := Num.hide ((HO1.out.alloc _).trans ho)
    have HK2 : Hid (w2.heap[w.heap.size]? = some (.cells #[.string ⟨#[]⟩, .string ⟨#[]⟩] 40)) := by
      rw [ho.block _ (by simp; omega) (by omega), heap_alloc_old w1 _ (by omega)]; exact HK1.out
    have hs2 : w.heap.size < w2.heap.size := by have := ho.size; simp at this; omega
    have HL2 := Num.hide hl
    clear hl ho HL1 HO1 HK1
    obtain ⟨k0, k1, f0, f1⟩ := two_cells HK2.out
    have r0 := Num.hide (box_first (x := ⟨#[99, 97, 99, 104, 101, 45, 99, 111, 110, 116, 114, 111, 108]⟩) (y := y) k0)
    have r1 := Num.hide (box_second (x := ⟨#[99, 97, 99, 104, 101, 45, 99, 111, 110, 116, 114, 111, 108]⟩) (y := y) k1)
    have HE := Num.hide (box_end (⟨#[99, 97, 99, 104, 101, 45, 99, 111, 110, 116, 114, 111, 108]⟩) (y) HL2.out HO2.out hC)
    clear HL2 HO2 HK2
    go_wp2
    generalize ((w2.setCell ⟨w.heap.size, 0, none⟩ (.string (⟨#[99, 97, 99, 104, 101, 45, 99, 111, 110, 116, 114, 111, 108]⟩))).setCell ⟨w.heap.size, 1, none⟩ (.string y)) = w9 at r0 r1 HE ⊢
    have r0 := r0.out
    have r1 := r1.out
    exact bodyPost_ret (v := .agg #[.string (⟨#[99, 97, 99, 104, 101, 45, 99, 111, 110, 116, 114, 111, 108]⟩), .string y]) (by simp [results, Tryd.results85, go_sem, r0, r1]) rfl ⟨_, _, rfl, (by decide), hy, Drawn.cc HQ.out, HE.out.1, HE.out.2⟩
  · go_wp2_with fail
    refine (pick_q (oneOf ccVals) B C w1.heap.size _ 12 _ (HL1.out.alloc _) (by omega) (heap_alloc_new w1 _) rfl (by omega) (by omega) (by kernel_rfl)).mono ?_
    rintro e w2 ⟨y, rfl, hy, hq, hl, ho⟩
    have HQ := Num.hide hq
    clear hq
    have HO2 := Num.hide ((HO1.out.alloc _).trans ho)
    have HK2 : Hid (w2.heap[w.heap.size]? = some (.cells #[.string ⟨#[]⟩, .string ⟨#[]⟩] 40)) := by
      rw [ho.block _ (by simp; omega) (by omega), heap_alloc_old w1 _ (by omega)]; exact HK1.out
    have hs2 : w.heap.size < w2.heap.size := by have := ho.size; simp at this; omega
    have HL2 := Num.hide hl
    clear hl ho HL1 HO1 HK1
    obtain ⟨k0, k1, f0, f1⟩ := two_cells HK2.out
    have r0 := Num.hide (box_first (x := ⟨#[99, 97, 99, 104, 101, 45, 99, 111, 110, 116, 114, 111, 108]⟩) (y := y) k0)
    have r1 := Num.hide (box_second (x := ⟨#[99, 97, 99, 104, 101, 45, 99, 111, 110, 116, 114, 111, 108]⟩) (y := y) k1)
    have HE := Num.hide (box_end (⟨#[99, 97, 99, 104, 101, 45, 99, 111, 110, 116, 114, 111, 108]⟩) (y) HL2.out HO2.out hC)
    clear HL2 HO2 HK2
    go_wp2
    generalize ((w2.setCell ⟨w.heap.size, 0, none⟩ (.string (⟨#[99, 97, 99, 104, 101, 45, 99, 111, 110, 116, 114, 111, 108]⟩))).setCell ⟨w.heap.size, 1, none⟩ (.string y)) = w9 at r0 r1 HE ⊢
    have r0 := r0.out
    have r1 := r1.out
    exact bodyPost_ret (v := .agg #[.string (⟨#[99, 97, 99, 104, 101, 45, 99, 111, 110, 116, 114, 111, 108]⟩), .string y]) (by simp [results, Tryd.results85, go_sem, r0, r1]) rfl ⟨_, _, rfl, (by decide), hy, Drawn.cc HQ.out, HE.out.1, HE.out.2⟩
  · go_wp2_with fail
    refine (pick_q (oneOf ccVals) B C w1.heap.size _ 12 _ (HL1.out.alloc _) (by omega) (heap_alloc_new w1 _) rfl (by omega) (by omega) (by kernel_rfl)).mono ?_
    rintro e w2 ⟨y, rfl, hy, hq, hl, ho⟩
    have HQ := Num.hide hq
    clear hq
    have HO2 := Num.hide ((HO1.out.alloc _).trans ho)
    have HK2 : Hid (w2.heap[w.heap.size]? = some (.cells #[.string ⟨#[]⟩, .string ⟨#[]⟩] 40)) := by
      rw [ho.block _ (by simp; omega) (by omega), heap_alloc_old w1 _ (by omega)]; exact HK1.out
    have hs2 : w.heap.size < w2.heap.size := by have := ho.size; simp at this; omega
    have HL2 := Num.hide hl
    clear hl ho HL1 HO1 HK1
    obtain ⟨k0, k1, f0, f1⟩ := two_cells HK2.out
    have r0 := Num.hide (box_first (x := ⟨#[99, 97, 99, 104, 101, 45, 99, 111, 110, 116, 114, 111, 108]⟩) (y := y) k0)
    have r1 := Num.hide (box_second (x := ⟨#[99, 97, 99, 104, 101, 45, 99, 111, 110, 116, 114, 111, 108]⟩) (y := y) k1)
    have HE := Num.hide (box_end (⟨#[99, 97, 99, 104, 101, 45, 99, 111, 110, 116, 114, 111, 108]⟩) (y) HL2.out HO2.out hC)
    clear HL2 HO2 HK2
    go_wp2
    generalize ((w2.setCell ⟨w.heap.size, 0, none⟩ (.string (⟨#[99, 97, 99, 104, 101, 45, 99, 111, 110, 116, 114, 111, 108]⟩))).setCell ⟨w.heap.size, 1, none⟩ (.string y)) = w9 at r0 r1 HE ⊢
    have r0 := r0.out
    have r1 := r1.out
    exact bodyPost_ret (v := .agg #[.string (⟨#[99, 97, 99, 104, 101, 45, 99, 111, 110, 116, 114, 111, 108]⟩), .string y]) (by simp [results, Tryd.results85, go_sem, r0, r1]) rfl ⟨_, _, rfl, (by decide), hy, Drawn.cc HQ.out, HE.out.1, HE.out.2⟩
  · go_wp2_with fail
    refine (pick_q (oneOf varyVals) B C w1.heap.size _ 4 _ (HL1.out.alloc _) (by omega) (heap_alloc_new w1 _) rfl (by omega) (by omega) (by kernel_rfl)).mono ?_
    rintro e w2 ⟨y, rfl, hy, hqy, hl, ho⟩
    have HQy := Num.hide hqy
    clear hqy
    have HO2 := Num.hide ((HO1.out.alloc _).trans ho)
    have HK2 : Hid (w2.heap[w.heap.size]? = some (.cells #[.string ⟨#[]⟩, .string ⟨#[]⟩] 40)) := by
      rw [ho.block _ (by simp; omega) (by omega), heap_alloc_old w1 _ (by omega)]; exact HK1.out
    have hs2 : w.heap.size < w2.heap.size := by have := ho.size; simp at this; omega
    have HL2 := Num.hide hl
    clear hl ho HL1 HO1 HK1
    obtain ⟨k0, k1, f0, f1⟩ := two_cells HK2.out
    have r0 := Num.hide (box_first (x := ⟨#[118, 97, 114, 121]⟩) (y := y) k0)
    have r1 := Num.hide (box_second (x := ⟨#[118, 97, 114, 121]⟩) (y := y) k1)
    have HE := Num.hide (box_end (⟨#[118, 97, 114, 121]⟩) (y) HL2.out HO2.out hC)
    clear HL2 HO2 HK2
    go_wp2
    generalize ((w2.setCell ⟨w.heap.size, 0, none⟩ (.string (⟨#[118, 97, 114, 121]⟩))).setCell ⟨w.heap.size, 1, none⟩ (.string y)) = w9 at r0 r1 HE ⊢
    have r0 := r0.out
    have r1 := r1.out
    exact bodyPost_ret (v := .agg #[.string (⟨#[118, 97, 114, 121]⟩), .string y]) (by simp [results, Tryd.results85, go_sem, r0, r1]) rfl ⟨_, _, rfl, (by decide), hy, Drawn.vary HQy.out, HE.out.1, HE.out.2⟩
  · go_wp2_with fail
    refine (pick_q (oneOf acceptVals) B C w1.heap.size _ 4 _ (HL1.out.alloc _) (by omega) (heap_alloc_new w1 _) rfl (by omega) (by omega) (by kernel_rfl)).mono ?_
    rintro e w2 ⟨y, rfl, hy, hqy, hl, ho⟩
    have HQy := Num.hide hqy
    clear hqy
    have HO2 := Num.hide ((HO1.out.alloc _).trans ho)
    have HK2 : Hid (w2.heap[w.heap.size]? = some (.cells #[.string ⟨#[]⟩, .string ⟨#[]⟩] 40)) := by
      rw [ho.block _ (by simp; omega) (by omega), heap_alloc_old w1 _ (by omega)]; exact HK1.out
    have hs2 : w.heap.size < w2.heap.size := by have := ho.size; simp at this; omega
    have HL2 := Num.hide hl
    clear hl ho HL1 HO1 HK1
    obtain ⟨k0, k1, f0, f1⟩ := two_cells HK2.out
    have r0 := Num.hide (box_first (x := ⟨#[97, 99, 99, 101, 112, 116]⟩) (y := y) k0)
    have r1 := Num.hide (box_second (x := ⟨#[97, 99, 99, 101, 112, 116]⟩) (y := y) k1)
    have HE := Num.hide (box_end (⟨#[97, 99, 99, 101, 112, 116]⟩) (y) HL2.out HO2.out hC)
    clear HL2 HO2 HK2
    go_wp2
    generalize ((w2.setCell ⟨w.heap.size, 0, none⟩ (.string (⟨#[97, 99, 99, 101, 112, 116]⟩))).setCell ⟨w.heap.size, 1, none⟩ (.string y)) = w9 at r0 r1 HE ⊢
    have r0 := r0.out
    have r1 := r1.out
    exact bodyPost_ret (v := .agg #[.string (⟨#[97, 99, 99, 101, 112, 116]⟩), .string y]) (by simp [results, Tryd.results85, go_sem, r0, r1]) rfl ⟨_, _, rfl, (by decide), hy, Drawn.accept HQy.out, HE.out.1, HE.out.2⟩
  · go_wp2_with fail
    refine (pick_q (oneOf xaVals) B C w1.heap.size _ 2 _ (HL1.out.alloc _) (by omega) (heap_alloc_new w1 _) rfl (by omega) (by omega) (by kernel_rfl)).mono ?_
    rintro e w2 ⟨y, rfl, hy, hqy, hl, ho⟩
    have HQy := Num.hide hqy
    clear hqy
    have HO2 := Num.hide ((HO1.out.alloc _).trans ho)
    have HK2 : Hid (w2.heap[w.heap.size]? = some (.cells #[.string ⟨#[]⟩, .string ⟨#[]⟩] 40)) := by
      rw [ho.block _ (by simp; omega) (by omega), heap_alloc_old w1 _ (by omega)]; exact HK1.out
    have hs2 : w.heap.size < w2.heap.size := by have := ho.size; simp at this; omega
    have HL2 := Num.hide hl
    clear hl ho HL1 HO1 HK1
    obtain ⟨k0, k1, f0, f1⟩ := two_cells HK2.out
    have r0 := Num.hide (box_first (x := ⟨#[120, 45, 97]⟩) (y := y) k0)
    have r1 := Num.hide (box_second (x := ⟨#[120, 45, 97]⟩) (y := y) k1)
    have HE := Num.hide (box_end (⟨#[120, 45, 97]⟩) (y) HL2.out HO2.out hC)
    clear HL2 HO2 HK2
    go_wp2
    generalize ((w2.setCell ⟨w.heap.size, 0, none⟩ (.string (⟨#[120, 45, 97]⟩))).setCell ⟨w.heap.size, 1, none⟩ (.string y)) = w9 at r0 r1 HE ⊢
    have r0 := r0.out
    have r1 := r1.out
    exact bodyPost_ret (v := .agg #[.string (⟨#[120, 45, 97]⟩), .string y]) (by simp [results, Tryd.results85, go_sem, r0, r1]) rfl ⟨_, _, rfl, (by decide), hy, Drawn.xa HQy.out, HE.out.1, HE.out.2⟩
  · go_wp2_with fail
    refine (pick_q (oneOf etagVals) B C w1.heap.size _ 3 _ (HL1.out.alloc _) (by omega) (heap_alloc_new w1 _) rfl (by omega) (by omega) (by kernel_rfl)).mono ?_
    rintro e w2 ⟨y, rfl, hy, hqy, hl, ho⟩
    have HQy := Num.hide hqy
    clear hqy
    have HO2 := Num.hide ((HO1.out.alloc _).trans ho)
    have HK2 : Hid (w2.heap[w.heap.size]? = some (.cells #[.string ⟨#[]⟩, .string ⟨#[]⟩] 40)) := by
      rw [ho.block _ (by simp; omega) (by omega), heap_alloc_old w1 _ (by omega)]; exact HK1.out
    have hs2 : w.heap.size < w2.heap.size := by have := ho.size; simp at this; omega
    have HL2 := Num.hide hl
    clear hl ho HL1 HO1 HK1
    obtain ⟨k0, k1, f0, f1⟩ := two_cells HK2.out
    have r0 := Num.hide (box_first (x := ⟨#[101, 116, 97, 103]⟩) (y := y) k0)
    have r1 := Num.hide (box_second (x := ⟨#[101, 116, 97, 103]⟩) (y := y) k1)
    have HE := Num.hide (box_end (⟨#[101, 116, 97, 103]⟩) (y) HL2.out HO2.out hC)
    clear HL2 HO2 HK2
    go_wp2
    generalize ((w2.setCell ⟨w.heap.size, 0, none⟩ (.string (⟨#[101, 116, 97, 103]⟩))).setCell ⟨w.heap.size, 1, none⟩ (.string y)) = w9 at r0 r1 HE ⊢
    have r0 := r0.out
    have r1 := r1.out
    exact bodyPost_ret (v := .agg #[.string (⟨#[101, 116, 97, 103]⟩), .string y]) (by simp [results, Tryd.results85, go_sem, r0, r1]) rfl ⟨_, _, rfl, (by decide), hy, Drawn.etag HQy.out, HE.out.1, HE.out.2⟩
  · go_wp2_with fail
    refine (below_live B C 60 _ HL1.out (by omega) (by omega)).mono ?_
    rintro e w2 ⟨t, rfl, ht0, ht1, hl, ho⟩
    have HO2 := Num.hide (HO1.out.trans ho)
    have HK2 : Hid (w2.heap[w.heap.size]? = some (.cells #[.string ⟨#[]⟩, .string ⟨#[]⟩] 40)) := (ho.block _ (by omega) (by omega)).trans HK1.out
    have hs2 : w.heap.size < w2.heap.size := by have := ho.size; omega
    have HL2 := Num.hide hl
    clear hl ho HL1 HO1 HK1
    have HS := Num.hide (date_size t ht0 ht1)
    have HDr := Num.hide (Drawn.date (x := ⟨#[100, 97, 116, 101]⟩) (by decide +kernel) ht0 (by omega))
    have HT := Num.hide (fun W => Date.date_spec t W)
    generalize Date.shown t = y at HS HT HDr
    have hy := HS.out
    go_wp2_with fail
    refine (HT.out _).mono ?_
    rintro e w3 ⟨rfl, hb⟩
    have HO3 := Num.hide (HO2.out.of_below (hb.mono (by omega)))
    have HK3 : Hid (w3.heap[w.heap.size]? = some (.cells #[.string ⟨#[]⟩, .string ⟨#[]⟩] 40)) := (hb.block _ (by omega)).trans HK2.out
    have hs3 : w.heap.size < w3.heap.size := by have := hb.size; omega
    have HL3 := Num.hide (HL2.out.below hb)
    clear hb HS HT HL2 HO2 HK2
    obtain ⟨k0, k1, f0, f1⟩ := two_cells HK3.out
    have r0 := Num.hide (box_first (x := ⟨#[100, 97, 116, 101]⟩) (y := y) k0)
    have r1 := Num.hide (box_second (x := ⟨#[100, 97, 116, 101]⟩) (y := y) k1)
    have HE := Num.hide (box_end (⟨#[100, 97, 116, 101]⟩) (y) HL3.out HO3.out hC)
    clear HL3 HO3 HK3
    go_wp2
    generalize ((w3.setCell ⟨w.heap.size, 0, none⟩ (.string (⟨#[100, 97, 116, 101]⟩))).setCell ⟨w.heap.size, 1, none⟩ (.string y)) = w9 at r0 r1 HE ⊢
    have r0 := r0.out
    have r1 := r1.out
    exact bodyPost_ret (v := .agg #[.string (⟨#[100, 97, 116, 101]⟩), .string y]) (by simp [results, Tryd.results85, go_sem, r0, r1]) rfl ⟨_, _, rfl, (by decide), hy, HDr.out, HE.out.1, HE.out.2⟩
  · go_wp2_with fail
    refine (pick_q (oneOf dateNames) B C w1.heap.size _ 2 _ (HL1.out.alloc _) (by omega) (heap_alloc_new w1 _) rfl (by omega) (by omega) (by kernel_rfl)).mono ?_
    rintro e w2 ⟨x, rfl, hx, hq, hl, ho⟩
    have HQ := Num.hide hq
    clear hq
    have HO2 := Num.hide ((HO1.out.alloc _).trans ho)
    have HK2 : Hid (w2.heap[w.heap.size]? = some (.cells #[.string ⟨#[]⟩, .string ⟨#[]⟩] 40)) := by
      rw [ho.block _ (by simp; omega) (by omega), heap_alloc_old w1 _ (by omega)]; exact HK1.out
    have hs2 : w.heap.size < w2.heap.size := by have := ho.size; simp at this; omega
    have HL2 := Num.hide hl
    clear hl ho HL1 HO1 HK1
    go_wp2_with fail
    refine (below_live B C 60 _ HL2.out (by omega) (by omega)).mono ?_
    rintro e w3 ⟨t, rfl, ht0, ht1, hl, ho⟩
    have HO3 := Num.hide (HO2.out.trans ho)
    have HK3 : Hid (w3.heap[w.heap.size]? = some (.cells #[.string ⟨#[]⟩, .string ⟨#[]⟩] 40)) := (ho.block _ (by omega) (by omega)).trans HK2.out
    have hs3 : w.heap.size < w3.heap.size := by have := ho.size; omega
    have HL3 := Num.hide hl
    clear hl ho HL2 HO2 HK2
    have HS := Num.hide (date_size t ht0 ht1)
    have HDr := Num.hide (Drawn.date (x := x) HQ.out ht0 (by omega))
    have HT := Num.hide (fun W => Date.date_spec t W)
    generalize Date.shown t = y at HS HT HDr
    have hy := HS.out
    go_wp2_with fail
    refine (HT.out _).mono ?_
    rintro e w4 ⟨rfl, hb⟩
    have HO4 := Num.hide (HO3.out.of_below (hb.mono (by omega)))
    have HK4 : Hid (w4.heap[w.heap.size]? = some (.cells #[.string ⟨#[]⟩, .string ⟨#[]⟩] 40)) := (hb.block _ (by omega)).trans HK3.out
    have hs4 : w.heap.size < w4.heap.size := by have := hb.size; omega
    have HL4 := Num.hide (HL3.out.below hb)
    clear hb HS HT HL3 HO3 HK3
    obtain ⟨k0, k1, f0, f1⟩ := two_cells HK4.out
    have r0 := Num.hide (box_first (x := x) (y := y) k0)
    have r1 := Num.hide (box_second (x := x) (y := y) k1)
    have HE := Num.hide (box_end (x) (y) HL4.out HO4.out hC)
    clear HL4 HO4 HK4
    go_wp2
    generalize ((w4.setCell ⟨w.heap.size, 0, none⟩ (.string x)).setCell ⟨w.heap.size, 1, none⟩ (.string y)) = w9 at r0 r1 HE ⊢
    have r0 := r0.out
    have r1 := r1.out
    exact bodyPost_ret (v := .agg #[.string x, .string y]) (by simp [results, Tryd.results85, go_sem, r0, r1]) rfl ⟨_, _, rfl, hx, hy, HDr.out, HE.out.1, HE.out.2⟩
  · go_wp2_with fail
    refine (pick_q (oneOf ageNames) B C w1.heap.size _ 3 _ (HL1.out.alloc _) (by omega) (heap_alloc_new w1 _) rfl (by omega) (by omega) (by kernel_rfl)).mono ?_
    rintro e w2 ⟨x, rfl, hx, hq, hl, ho⟩
    have HQ := Num.hide hq
    clear hq
    have HO2 := Num.hide ((HO1.out.alloc _).trans ho)
    have HK2 : Hid (w2.heap[w.heap.size]? = some (.cells #[.string ⟨#[]⟩, .string ⟨#[]⟩] 40)) := by
      rw [ho.block _ (by simp; omega) (by omega), heap_alloc_old w1 _ (by omega)]; exact HK1.out
    have hs2 : w.heap.size < w2.heap.size := by have := ho.size; simp at this; omega
    have HL2 := Num.hide hl
    clear hl ho HL1 HO1 HK1
    go_wp2_with fail
    refine (pick_q (oneOf ageVals) B C w2.heap.size _ 4 _ (HL2.out.alloc _) (by omega) (heap_alloc_new w2 _) rfl (by omega) (by omega) (by kernel_rfl)).mono ?_
    rintro e w3 ⟨y, rfl, hy, hqy, hl, ho⟩
    have HQy := Num.hide hqy
    clear hqy
    have HO3 := Num.hide ((HO2.out.alloc _).trans ho)
    have HK3 : Hid (w3.heap[w.heap.size]? = some (.cells #[.string ⟨#[]⟩, .string ⟨#[]⟩] 40)) := by
      rw [ho.block _ (by simp; omega) (by omega), heap_alloc_old w2 _ (by omega)]; exact HK2.out
    have hs3 : w.heap.size < w3.heap.size := by have := ho.size; simp at this; omega
    have HL3 := Num.hide hl
    clear hl ho HL2 HO2 HK2
    obtain ⟨k0, k1, f0, f1⟩ := two_cells HK3.out
    have r0 := Num.hide (box_first (x := x) (y := y) k0)
    have r1 := Num.hide (box_second (x := x) (y := y) k1)
    have HE := Num.hide (box_end (x) (y) HL3.out HO3.out hC)
    clear HL3 HO3 HK3
    go_wp2
    generalize ((w3.setCell ⟨w.heap.size, 0, none⟩ (.string x)).setCell ⟨w.heap.size, 1, none⟩ (.string y)) = w9 at r0 r1 HE ⊢
    have r0 := r0.out
    have r1 := r1.out
    exact bodyPost_ret (v := .agg #[.string x, .string y]) (by simp [results, Tryd.results85, go_sem, r0, r1]) rfl ⟨_, _, rfl, hx, hy, Drawn.age HQ.out HQy.out, HE.out.1, HE.out.2⟩
theorem field_live (B C : Nat) (w : World) (h : Live B C w) :
    Calls Tryd.prog 85 #[.pointer (some ⟨C, 0, none⟩)] w fun e w' => ∃ x y, e = .returned (.agg #[.string x, .string y]) ∧ x.size ≤ 64 ∧ y.size ≤ 64 ∧ Live B C w' ∧ Only C w w' :=
  (field_q B C w h).mono fun e w' ⟨x, y, h1, h2, h3, _, h4, h5⟩ => ⟨x, y, h1, h2, h3, h4, h5⟩
end Draw
end Go.Proofs.YtkogcbnbmdeolaaDoor
