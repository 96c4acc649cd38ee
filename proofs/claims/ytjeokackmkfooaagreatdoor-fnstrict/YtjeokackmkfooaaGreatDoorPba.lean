/-
  DrawFld: The specification's draws of fields: some list of small fields; nothing but the cursor and new memory changes.
  DrawFldL: The specification's draws of lists of fields.
  DrawPickInt: l1PickInt of the draws, of a cursor in whatever state.
  LayRow: A row of the call's own into which bytes are laid one behind the other, and the text that is made of it; likewise of a slice that grows.
  DrawString: The specification's draws of texts: what each call returns is settled by the bytes of the draw alone; and how long it is.
  DrawTextLive: l1Text of the draws, of a cursor in whatever state.
-/
import Derived.Test.YtjeokackmkfooaaGreatDoorPaz
import Derived.Test.YtjeokackmkfooaaGreatDoorPac
import Derived.Test.YtjeokackmkfooaaGreatDoorPat
import Derived.Test.YtjeokackmkfooaaGreatDoorPae
import Derived.Test.YtjeokackmkfooaaGreatDoorPab
namespace Go.Proofs.YtjeokackmkfooaaGreatDoor
open Go.RowKit
set_option linter.unusedVariables false
namespace Draw
open Flds (two_cells box_first box_second)

theorem date_size (z : Int) (h0 : 0 ≤ z) (h1 : z < 60) : (Date.shown z).size ≤ 64 := by
  have e : Date.shown z = Date.text z := if_pos ⟨h0, by omega⟩
  rw [e]
  unfold Date.text
  have hp := Date.parts_in (z / 86400) (by omega) (by omega)
  have hw := Date.week_size (z / 86400 % 7).toNat (by omega)
  have hn := Date.name_size (Date.mo (z / 86400)) (by omega)
  have hd : (Date.dec (1970 + (Date.yr (z / 86400) : Int))).size ≤ 20 := by
    unfold Date.dec
    rw [Dec.itoa_pos _ (by omega)]
    have := Dec.length_dd (1970 + (Date.yr (z / 86400) : Int)).natAbs (by omega)
    simp only [ByteArray.size, List.size_toArray]
    exact this
  have e1 : (⟨#[44, 32]⟩ : ByteArray).size = 2 := rfl
  have e2 : (⟨#[32]⟩ : ByteArray).size = 1 := rfl
  have e3 : (⟨#[58]⟩ : ByteArray).size = 1 := rfl
  have e4 : (⟨#[32, 71, 77, 84]⟩ : ByteArray).size = 4 := rfl
  simp only [ByteArray.size_append, Date.size_two, hw, hn, e1, e2, e3, e4]
  omega
/-- the box of a field that is made: what it holds after two stores -/
theorem box_end {B C : Nat} {w w2 : World} (x y : ByteArray) (hl : Live B C w2) (ho : Only C w w2) (hC : C < w.heap.size) :
    Live B C ((w2.setCell ⟨w.heap.size, 0, none⟩ (.string x)).setCell ⟨w.heap.size, 1, none⟩ (.string y)) ∧ Only C w ((w2.setCell ⟨w.heap.size, 0, none⟩ (.string x)).setCell ⟨w.heap.size, 1, none⟩ (.string y)) := by
  have hb : Below w.heap.size w2 ((w2.setCell ⟨w.heap.size, 0, none⟩ (.string x)).setCell ⟨w.heap.size, 1, none⟩ (.string y)) :=
    ((Below.refl _ _).setCell (p := ⟨w.heap.size, 0, none⟩) (Nat.le_refl _) _).setCell (p := ⟨w.heap.size, 1, none⟩) (Nat.le_refl _) _
  exact ⟨hl.under hb hC, ho.of_below hb⟩
set_option maxRecDepth 100000 in
set_option maxHeartbeats 4000000 in
theorem field_q (B C : Nat) (w : World) (h : Live B C w) :
    Calls Tryz.prog 44 #[.pointer (some ⟨C, 0, none⟩)] w fun e w' => ∃ x y, e = .returned (.agg #[.string x, .string y]) ∧ x.size ≤ 64 ∧ y.size ≤ 64 ∧ Calm.Said x y ∧ Live B C w' ∧ Only C w w' := by
  have hC := h.lt
  have HL0 := Num.hide (h.alloc (.cells #[.string ⟨#[]⟩, .string ⟨#[]⟩] 32))
  have HO0 := Num.hide ((Only.refl C w).alloc (.cells #[.string ⟨#[]⟩, .string ⟨#[]⟩] 32))
  have HK0 : Hid ((w.alloc (.cells #[.string ⟨#[]⟩, .string ⟨#[]⟩] 32)).heap[w.heap.size]? = some (.cells #[.string ⟨#[]⟩, .string ⟨#[]⟩] 32)) := heap_alloc_new w _
  clear h
  go_enter Tryz.func44, Tryz.ntmps44
  go_wp2_with fail
  refine (below_live B C 10 _ HL0.out (by omega) (by omega)).mono ?_
  rintro e w1 ⟨z, rfl, hz0, hz1, hl, ho⟩
  have HL1 := Num.hide hl
  have HO1 := Num.hide (HO0.out.trans ho)
  have HK1 : Hid (w1.heap[w.heap.size]? = some (.cells #[.string ⟨#[]⟩, .string ⟨#[]⟩] 32)) := (ho.block _ (by simp) (by omega)).trans HK0.out
  have hs1 : w.heap.size < w1.heap.size := by have := ho.size; simp at this; omega
  clear hl ho HL0 HO0 HK0
  rcases (by omega : z = 0 ∨ z = 1 ∨ z = 2 ∨ z = 3 ∨ z = 4 ∨ z = 5 ∨ z = 6 ∨ z = 7 ∨ z = 8 ∨ z = 9) with rfl | rfl | rfl | rfl | rfl | rfl | rfl | rfl | rfl | rfl
  · go_wp2_with fail
    refine (pick_q Calm.calm B C w1.heap.size _ 12 _ (HL1.out.alloc _) (by omega) (heap_alloc_new w1 _) rfl (by omega) (by omega) (by kernel_rfl)).mono ?_
    rintro e w2 ⟨y, rfl, hy, hq, hl, ho⟩
    have HQ := Num.hide hq
    clear hq
    have HO2 := Num.hide ((HO1.out.alloc _).trans ho)
    have HK2 : Hid (w2.heap[w.heap.size]? = some (.cells #[.string ⟨#[]⟩, .string ⟨#[]⟩] 32)) := by
      rw [ho.block _ (by simp; omega) (by omega), heap_alloc_old w1 _ (by omega)]; exact HK1.out
    have hs2 : w.heap.size < w2.heap.size := by have := ho.size; simp at this; omega
    have HL2 := Num.hide hl
    clear hl ho HL1 HO1 HK1
    obtain ⟨k0, k1, f0, f1⟩ := two_cells HK2.out
    have r0 := Num.hide (box_first (x := ⟨#[99, 97, 99, 104, 101, 45, 99, 111, 110, 116, 114, 111, 108]⟩) (y := y) k0)
    have r1 := Num.hide (box_second (x := ⟨#[99, 97, 99, 104, 101, 45, 99, 111, 110, 116, 114, 111, 108]⟩) (y := y) k1)
    have HE := Num.hide (box_end (⟨#[99, 97, 99, 104, 101, 45, 99, 111, 110, 116, 114, 111, 108]⟩) (y) HL2.out HO2.out hC)
    clear HL2 HO2 HK2
    go_wp2
    generalize ((w2.setCell ⟨w.heap.size, 0, none⟩ (.string (⟨#[99, 97, 99, 104, 101, 45, 99, 111, 110, 116, 114, 111, 108]⟩))).setCell ⟨w.heap.size, 1, none⟩ (.string y)) = w9 at r0 r1 HE ⊢
    have r0 := r0.out
    have r1 := r1.out
    exact bodyPost_ret (v := .agg #[.string (⟨#[99, 97, 99, 104, 101, 45, 99, 111, 110, 116, 114, 111, 108]⟩), .string y]) (by simp [results, Tryz.results44, go_sem, r0, r1]) rfl ⟨_, _, rfl, (by decide), hy, fun _ => HQ.out, HE.out.1, HE.out.2⟩
  · go_wp2_with fail
    refine (pick_q Calm.calm B C w1.heap.size _ 12 _ (HL1.out.alloc _) (by omega) (heap_alloc_new w1 _) rfl (by omega) (by omega) (by kernel_rfl)).mono ?_
    rintro e w2 ⟨y, rfl, hy, hq, hl, ho⟩
    have HQ := Num.hide hq
    clear hq
    have HO2 := Num.hide ((HO1.out.alloc _).trans ho)
    have HK2 : Hid (w2.heap[w.heap.size]? = some (.cells #[.string ⟨#[]⟩, .string ⟨#[]⟩] 32)) := by
      rw [ho.block _ (by simp; omega) (by omega), heap_alloc_old w1 _ (by omega)]; exact HK1.out
    have hs2 : w.heap.size < w2.heap.size := by have := ho.size; simp at this; omega
    have HL2 := Num.hide hl
    clear hl ho HL1 HO1 HK1
    obtain ⟨k0, k1, f0, f1⟩ := two_cells HK2.out
    have r0 := Num.hide (box_first (x := ⟨#[99, 97, 99, 104, 101, 45, 99, 111, 110, 116, 114, 111, 108]⟩) (y := y) k0)
    have r1 := Num.hide (box_second (x := ⟨#[99, 97, 99, 104, 101, 45, 99, 111, 110, 116, 114, 111, 108]⟩) (y := y) k1)
    have HE := Num.hide (box_end (⟨#[99, 97, 99, 104, 101, 45, 99, 111, 110, 116, 114, 111, 108]⟩) (y) HL2.out HO2.out hC)
    clear HL2 HO2 HK2
    go_wp2
    generalize ((w2.setCell ⟨w.heap.size, 0, none⟩ (.string (⟨#[99, 97, 99, 104, 101, 45, 99, 111, 110, 116, 114, 111, 108]⟩))).setCell ⟨w.heap.size, 1, none⟩ (.string y)) = w9 at r0 r1 HE ⊢
    have r0 := r0.out
    have r1 := r1.out
    exact bodyPost_ret (v := .agg #[.string (⟨#[99, 97, 99, 104, 101, 45, 99, 111, 110, 116, 114, 111, 108]⟩), .string y]) (by simp [results, Tryz.results44, go_sem, r0, r1]) rfl ⟨_, _, rfl, (by decide), hy, fun _ => HQ.out, HE.out.1, HE.out.2⟩
  · go_wp2_with fail
    refine (pick_q Calm.calm B C w1.heap.size _ 12 _ (HL1.out.alloc _) (by omega) (heap_alloc_new w1 _) rfl (by omega) (by omega) (by kernel_rfl)).mono ?_
    rintro e w2 ⟨y, rfl, hy, hq, hl, ho⟩
    have HQ := Num.hide hq
    clear hq
    have HO2 := Num.hide ((HO1.out.alloc _).trans ho)
    have HK2 : Hid (w2.heap[w.heap.size]? = some (.cells #[.string ⟨#[]⟩, .string ⟨#[]⟩] 32)) := by
      rw [ho.block _ (by simp; omega) (by omega), heap_alloc_old w1 _ (by omega)]; exact HK1.out
    have hs2 : w.heap.size < w2.heap.size := by have := ho.size; simp at this; omega
    have HL2 := Num.hide hl
    clear hl ho HL1 HO1 HK1
    obtain ⟨k0, k1, f0, f1⟩ := two_cells HK2.out
    have r0 := Num.hide (box_first (x := ⟨#[99, 97, 99, 104, 101, 45, 99, 111, 110, 116, 114, 111, 108]⟩) (y := y) k0)
    have r1 := Num.hide (box_second (x := ⟨#[99, 97, 99, 104, 101, 45, 99, 111, 110, 116, 114, 111, 108]⟩) (y := y) k1)
    have HE := Num.hide (box_end (⟨#[99, 97, 99, 104, 101, 45, 99, 111, 110, 116, 114, 111, 108]⟩) (y) HL2.out HO2.out hC)
    clear HL2 HO2 HK2
    go_wp2
    generalize ((w2.setCell ⟨w.heap.size, 0, none⟩ (.string (⟨#[99, 97, 99, 104, 101, 45, 99, 111, 110, 116, 114, 111, 108]⟩))).setCell ⟨w.heap.size, 1, none⟩ (.string y)) = w9 at r0 r1 HE ⊢
    have r0 := r0.out
    have r1 := r1.out
    exact bodyPost_ret (v := .agg #[.string (⟨#[99, 97, 99, 104, 101, 45, 99, 111, 110, 116, 114, 111, 108]⟩), .string y]) (by simp [results, Tryz.results44, go_sem, r0, r1]) rfl ⟨_, _, rfl, (by decide), hy, fun _ => HQ.out, HE.out.1, HE.out.2⟩
  · go_wp2_with fail
    refine (pick_live B C w1.heap.size _ 4 _ (HL1.out.alloc _) (by omega) (heap_alloc_new w1 _) rfl (by omega) (by omega) (by decide)).mono ?_
    rintro e w2 ⟨y, rfl, hy, hl, ho⟩
    have HO2 := Num.hide ((HO1.out.alloc _).trans ho)
    have HK2 : Hid (w2.heap[w.heap.size]? = some (.cells #[.string ⟨#[]⟩, .string ⟨#[]⟩] 32)) := by
      rw [ho.block _ (by simp; omega) (by omega), heap_alloc_old w1 _ (by omega)]; exact HK1.out
    have hs2 : w.heap.size < w2.heap.size := by have := ho.size; simp at this; omega
    have HL2 := Num.hide hl
    clear hl ho HL1 HO1 HK1
    obtain ⟨k0, k1, f0, f1⟩ := two_cells HK2.out
    have r0 := Num.hide (box_first (x := ⟨#[118, 97, 114, 121]⟩) (y := y) k0)
    have r1 := Num.hide (box_second (x := ⟨#[118, 97, 114, 121]⟩) (y := y) k1)
    have HE := Num.hide (box_end (⟨#[118, 97, 114, 121]⟩) (y) HL2.out HO2.out hC)
    clear HL2 HO2 HK2
    go_wp2
    generalize ((w2.setCell ⟨w.heap.size, 0, none⟩ (.string (⟨#[118, 97, 114, 121]⟩))).setCell ⟨w.heap.size, 1, none⟩ (.string y)) = w9 at r0 r1 HE ⊢
    have r0 := r0.out
    have r1 := r1.out
    exact bodyPost_ret (v := .agg #[.string (⟨#[118, 97, 114, 121]⟩), .string y]) (by simp [results, Tryz.results44, go_sem, r0, r1]) rfl ⟨_, _, rfl, (by decide), hy, Calm.said_other (by decide), HE.out.1, HE.out.2⟩
  · go_wp2_with fail
    refine (pick_live B C w1.heap.size _ 4 _ (HL1.out.alloc _) (by omega) (heap_alloc_new w1 _) rfl (by omega) (by omega) (by decide)).mono ?_
    rintro e w2 ⟨y, rfl, hy, hl, ho⟩
    have HO2 := Num.hide ((HO1.out.alloc _).trans ho)
    have HK2 : Hid (w2.heap[w.heap.size]? = some (.cells #[.string ⟨#[]⟩, .string ⟨#[]⟩] 32)) := by
      rw [ho.block _ (by simp; omega) (by omega), heap_alloc_old w1 _ (by omega)]; exact HK1.out
    have hs2 : w.heap.size < w2.heap.size := by have := ho.size; simp at this; omega
    have HL2 := Num.hide hl
    clear hl ho HL1 HO1 HK1
    obtain ⟨k0, k1, f0, f1⟩ := two_cells HK2.out
    have r0 := Num.hide (box_first (x := ⟨#[97, 99, 99, 101, 112, 116]⟩) (y := y) k0)
    have r1 := Num.hide (box_second (x := ⟨#[97, 99, 99, 101, 112, 116]⟩) (y := y) k1)
    have HE := Num.hide (box_end (⟨#[97, 99, 99, 101, 112, 116]⟩) (y) HL2.out HO2.out hC)
    clear HL2 HO2 HK2
    go_wp2
    generalize ((w2.setCell ⟨w.heap.size, 0, none⟩ (.string (⟨#[97, 99, 99, 101, 112, 116]⟩))).setCell ⟨w.heap.size, 1, none⟩ (.string y)) = w9 at r0 r1 HE ⊢
    have r0 := r0.out
    have r1 := r1.out
    exact bodyPost_ret (v := .agg #[.string (⟨#[97, 99, 99, 101, 112, 116]⟩), .string y]) (by simp [results, Tryz.results44, go_sem, r0, r1]) rfl ⟨_, _, rfl, (by decide), hy, Calm.said_other (by decide), HE.out.1, HE.out.2⟩
  · go_wp2_with fail
    refine (pick_live B C w1.heap.size _ 2 _ (HL1.out.alloc _) (by omega) (heap_alloc_new w1 _) rfl (by omega) (by omega) (by decide)).mono ?_
    rintro e w2 ⟨y, rfl, hy, hl, ho⟩
    have HO2 := Num.hide ((HO1.out.alloc _).trans ho)
    have HK2 : Hid (w2.heap[w.heap.size]? = some (.cells #[.string ⟨#[]⟩, .string ⟨#[]⟩] 32)) := by
      rw [ho.block _ (by simp; omega) (by omega), heap_alloc_old w1 _ (by omega)]; exact HK1.out
    have hs2 : w.heap.size < w2.heap.size := by have := ho.size; simp at this; omega
    have HL2 := Num.hide hl
    clear hl ho HL1 HO1 HK1
    obtain ⟨k0, k1, f0, f1⟩ := two_cells HK2.out
    have r0 := Num.hide (box_first (x := ⟨#[120, 45, 97]⟩) (y := y) k0)
    have r1 := Num.hide (box_second (x := ⟨#[120, 45, 97]⟩) (y := y) k1)
    have HE := Num.hide (box_end (⟨#[120, 45, 97]⟩) (y) HL2.out HO2.out hC)
    clear HL2 HO2 HK2
    go_wp2
    generalize ((w2.setCell ⟨w.heap.size, 0, none⟩ (.string (⟨#[120, 45, 97]⟩))).setCell ⟨w.heap.size, 1, none⟩ (.string y)) = w9 at r0 r1 HE ⊢
    have r0 := r0.out
    have r1 := r1.out
    exact bodyPost_ret (v := .agg #[.string (⟨#[120, 45, 97]⟩), .string y]) (by simp [results, Tryz.results44, go_sem, r0, r1]) rfl ⟨_, _, rfl, (by decide), hy, Calm.said_other (by decide), HE.out.1, HE.out.2⟩
  · go_wp2_with fail
    refine (pick_live B C w1.heap.size _ 3 _ (HL1.out.alloc _) (by omega) (heap_alloc_new w1 _) rfl (by omega) (by omega) (by decide)).mono ?_
    rintro e w2 ⟨y, rfl, hy, hl, ho⟩
    have HO2 := Num.hide ((HO1.out.alloc _).trans ho)
    have HK2 : Hid (w2.heap[w.heap.size]? = some (.cells #[.string ⟨#[]⟩, .string ⟨#[]⟩] 32)) := by
      rw [ho.block _ (by simp; omega) (by omega), heap_alloc_old w1 _ (by omega)]; exact HK1.out
    have hs2 : w.heap.size < w2.heap.size := by have := ho.size; simp at this; omega
    have HL2 := Num.hide hl
    clear hl ho HL1 HO1 HK1
    obtain ⟨k0, k1, f0, f1⟩ := two_cells HK2.out
    have r0 := Num.hide (box_first (x := ⟨#[101, 116, 97, 103]⟩) (y := y) k0)
    have r1 := Num.hide (box_second (x := ⟨#[101, 116, 97, 103]⟩) (y := y) k1)
    have HE := Num.hide (box_end (⟨#[101, 116, 97, 103]⟩) (y) HL2.out HO2.out hC)
    clear HL2 HO2 HK2
    go_wp2
    generalize ((w2.setCell ⟨w.heap.size, 0, none⟩ (.string (⟨#[101, 116, 97, 103]⟩))).setCell ⟨w.heap.size, 1, none⟩ (.string y)) = w9 at r0 r1 HE ⊢
    have r0 := r0.out
    have r1 := r1.out
    exact bodyPost_ret (v := .agg #[.string (⟨#[101, 116, 97, 103]⟩), .string y]) (by simp [results, Tryz.results44, go_sem, r0, r1]) rfl ⟨_, _, rfl, (by decide), hy, Calm.said_other (by decide), HE.out.1, HE.out.2⟩
  · go_wp2_with fail
    refine (below_live B C 60 _ HL1.out (by omega) (by omega)).mono ?_
    rintro e w2 ⟨t, rfl, ht0, ht1, hl, ho⟩
    have HO2 := Num.hide (HO1.out.trans ho)
    have HK2 : Hid (w2.heap[w.heap.size]? = some (.cells #[.string ⟨#[]⟩, .string ⟨#[]⟩] 32)) := (ho.block _ (by omega) (by omega)).trans HK1.out
    have hs2 : w.heap.size < w2.heap.size := by have := ho.size; omega
    have HL2 := Num.hide hl
    clear hl ho HL1 HO1 HK1
    have HS := Num.hide (date_size t ht0 ht1)
    have HT := Num.hide (fun W => Date.date_spec t W)
    generalize Date.shown t = y at HS HT
    have hy := HS.out
    go_wp2_with fail
    refine (HT.out _).mono ?_
    rintro e w3 ⟨rfl, hb⟩
    have HO3 := Num.hide (HO2.out.of_below (hb.mono (by omega)))
    have HK3 : Hid (w3.heap[w.heap.size]? = some (.cells #[.string ⟨#[]⟩, .string ⟨#[]⟩] 32)) := (hb.block _ (by omega)).trans HK2.out
    have hs3 : w.heap.size < w3.heap.size := by have := hb.size; omega
    have HL3 := Num.hide (HL2.out.below hb)
    clear hb HS HT HL2 HO2 HK2
    obtain ⟨k0, k1, f0, f1⟩ := two_cells HK3.out
    have r0 := Num.hide (box_first (x := ⟨#[100, 97, 116, 101]⟩) (y := y) k0)
    have r1 := Num.hide (box_second (x := ⟨#[100, 97, 116, 101]⟩) (y := y) k1)
    have HE := Num.hide (box_end (⟨#[100, 97, 116, 101]⟩) (y) HL3.out HO3.out hC)
    clear HL3 HO3 HK3
    go_wp2
    generalize ((w3.setCell ⟨w.heap.size, 0, none⟩ (.string (⟨#[100, 97, 116, 101]⟩))).setCell ⟨w.heap.size, 1, none⟩ (.string y)) = w9 at r0 r1 HE ⊢
    have r0 := r0.out
    have r1 := r1.out
    exact bodyPost_ret (v := .agg #[.string (⟨#[100, 97, 116, 101]⟩), .string y]) (by simp [results, Tryz.results44, go_sem, r0, r1]) rfl ⟨_, _, rfl, (by decide), hy, Calm.said_other (by decide), HE.out.1, HE.out.2⟩
  · go_wp2_with fail
    refine (pick_q (fun x => decide (¬ x = Calm.cc)) B C w1.heap.size _ 2 _ (HL1.out.alloc _) (by omega) (heap_alloc_new w1 _) rfl (by omega) (by omega) (by kernel_rfl)).mono ?_
    rintro e w2 ⟨x, rfl, hx, hq, hl, ho⟩
    have HQ := Num.hide hq
    clear hq
    have HO2 := Num.hide ((HO1.out.alloc _).trans ho)
    have HK2 : Hid (w2.heap[w.heap.size]? = some (.cells #[.string ⟨#[]⟩, .string ⟨#[]⟩] 32)) := by
      rw [ho.block _ (by simp; omega) (by omega), heap_alloc_old w1 _ (by omega)]; exact HK1.out
    have hs2 : w.heap.size < w2.heap.size := by have := ho.size; simp at this; omega
    have HL2 := Num.hide hl
    clear hl ho HL1 HO1 HK1
    go_wp2_with fail
    refine (below_live B C 60 _ HL2.out (by omega) (by omega)).mono ?_
    rintro e w3 ⟨t, rfl, ht0, ht1, hl, ho⟩
    have HO3 := Num.hide (HO2.out.trans ho)
    have HK3 : Hid (w3.heap[w.heap.size]? = some (.cells #[.string ⟨#[]⟩, .string ⟨#[]⟩] 32)) := (ho.block _ (by omega) (by omega)).trans HK2.out
    have hs3 : w.heap.size < w3.heap.size := by have := ho.size; omega
    have HL3 := Num.hide hl
    clear hl ho HL2 HO2 HK2
    have HS := Num.hide (date_size t ht0 ht1)
    have HT := Num.hide (fun W => Date.date_spec t W)
    generalize Date.shown t = y at HS HT
    have hy := HS.out
    go_wp2_with fail
    refine (HT.out _).mono ?_
    rintro e w4 ⟨rfl, hb⟩
    have HO4 := Num.hide (HO3.out.of_below (hb.mono (by omega)))
    have HK4 : Hid (w4.heap[w.heap.size]? = some (.cells #[.string ⟨#[]⟩, .string ⟨#[]⟩] 32)) := (hb.block _ (by omega)).trans HK3.out
    have hs4 : w.heap.size < w4.heap.size := by have := hb.size; omega
    have HL4 := Num.hide (HL3.out.below hb)
    clear hb HS HT HL3 HO3 HK3
    obtain ⟨k0, k1, f0, f1⟩ := two_cells HK4.out
    have r0 := Num.hide (box_first (x := x) (y := y) k0)
    have r1 := Num.hide (box_second (x := x) (y := y) k1)
    have HE := Num.hide (box_end (x) (y) HL4.out HO4.out hC)
    clear HL4 HO4 HK4
    go_wp2
    generalize ((w4.setCell ⟨w.heap.size, 0, none⟩ (.string x)).setCell ⟨w.heap.size, 1, none⟩ (.string y)) = w9 at r0 r1 HE ⊢
    have r0 := r0.out
    have r1 := r1.out
    exact bodyPost_ret (v := .agg #[.string x, .string y]) (by simp [results, Tryz.results44, go_sem, r0, r1]) rfl ⟨_, _, rfl, hx, hy, Calm.said_other (of_decide_eq_true HQ.out), HE.out.1, HE.out.2⟩
  · go_wp2_with fail
    refine (pick_q (fun x => decide (¬ x = Calm.cc)) B C w1.heap.size _ 3 _ (HL1.out.alloc _) (by omega) (heap_alloc_new w1 _) rfl (by omega) (by omega) (by kernel_rfl)).mono ?_
    rintro e w2 ⟨x, rfl, hx, hq, hl, ho⟩
    have HQ := Num.hide hq
    clear hq
    have HO2 := Num.hide ((HO1.out.alloc _).trans ho)
    have HK2 : Hid (w2.heap[w.heap.size]? = some (.cells #[.string ⟨#[]⟩, .string ⟨#[]⟩] 32)) := by
      rw [ho.block _ (by simp; omega) (by omega), heap_alloc_old w1 _ (by omega)]; exact HK1.out
    have hs2 : w.heap.size < w2.heap.size := by have := ho.size; simp at this; omega
    have HL2 := Num.hide hl
    clear hl ho HL1 HO1 HK1
    go_wp2_with fail
    refine (pick_live B C w2.heap.size _ 4 _ (HL2.out.alloc _) (by omega) (heap_alloc_new w2 _) rfl (by omega) (by omega) (by decide)).mono ?_
    rintro e w3 ⟨y, rfl, hy, hl, ho⟩
    have HO3 := Num.hide ((HO2.out.alloc _).trans ho)
    have HK3 : Hid (w3.heap[w.heap.size]? = some (.cells #[.string ⟨#[]⟩, .string ⟨#[]⟩] 32)) := by
      rw [ho.block _ (by simp; omega) (by omega), heap_alloc_old w2 _ (by omega)]; exact HK2.out
    have hs3 : w.heap.size < w3.heap.size := by have := ho.size; simp at this; omega
    have HL3 := Num.hide hl
    clear hl ho HL2 HO2 HK2
    obtain ⟨k0, k1, f0, f1⟩ := two_cells HK3.out
    have r0 := Num.hide (box_first (x := x) (y := y) k0)
    have r1 := Num.hide (box_second (x := x) (y := y) k1)
    have HE := Num.hide (box_end (x) (y) HL3.out HO3.out hC)
    clear HL3 HO3 HK3
    go_wp2
    generalize ((w3.setCell ⟨w.heap.size, 0, none⟩ (.string x)).setCell ⟨w.heap.size, 1, none⟩ (.string y)) = w9 at r0 r1 HE ⊢
    have r0 := r0.out
    have r1 := r1.out
    exact bodyPost_ret (v := .agg #[.string x, .string y]) (by simp [results, Tryz.results44, go_sem, r0, r1]) rfl ⟨_, _, rfl, hx, hy, Calm.said_other (of_decide_eq_true HQ.out), HE.out.1, HE.out.2⟩
theorem field_live (B C : Nat) (w : World) (h : Live B C w) :
    Calls Tryz.prog 44 #[.pointer (some ⟨C, 0, none⟩)] w fun e w' => ∃ x y, e = .returned (.agg #[.string x, .string y]) ∧ x.size ≤ 64 ∧ y.size ≤ 64 ∧ Live B C w' ∧ Only C w w' :=
  (field_q B C w h).mono fun e w' ⟨x, y, h1, h2, h3, _, h4, h5⟩ => ⟨x, y, h1, h2, h3, h4, h5⟩
end Draw
end Go.Proofs.YtjeokackmkfooaaGreatDoor
namespace Go.Proofs.YtjeokackmkfooaaGreatDoor
open Go.RowKit
set_option linter.unusedVariables false
namespace Draw

/-- few fields, of small texts -/
structure Few (n : Nat) (l : List Flds.Fld) : Prop where
  len : l.length ≤ n
  small : ∀ f ∈ l, f.1.size ≤ 64 ∧ f.2.size ≤ 64
theorem Few.more {n : Nat} {l : List Flds.Fld} {x y : ByteArray} (h : Few n l) (hx : x.size ≤ 64) (hy : y.size ≤ 64) : Few (n + 1) (l ++ [(x, y)]) :=
  ⟨by rw [List.length_append, List.length_singleton]; have := h.len; omega, fun f hf => by
    rcases List.mem_append.1 hf with h1 | h1
    · exact h.small f h1
    · rw [List.mem_singleton.1 h1]; exact ⟨hx, hy⟩⟩
theorem Few.mono {n m : Nat} {l : List Flds.Fld} (h : Few n l) (hnm : n ≤ m) : Few m l := ⟨Nat.le_trans h.len hnm, h.small⟩
theorem Few.sum {l : List Flds.Fld} {n : Nat} (h : Few n l) : (l.map fun f => f.1.size + f.2.size).sum ≤ 128 * l.length := by
  have key : ∀ (l : List Flds.Fld), (∀ f ∈ l, f.1.size ≤ 64 ∧ f.2.size ≤ 64) → (l.map fun f => f.1.size + f.2.size).sum ≤ 128 * l.length := by
    intro l
    induction l with
    | nil => intro _; simp
    | cons f l ih =>
      intro h
      have h1 := h f (List.mem_cons_self ..)
      have h2 := ih (fun g hg => h g (List.mem_cons_of_mem _ hg))
      rw [List.map_cons, List.sum_cons, List.length_cons]
      omega
  exact key l h.small
theorem Few.bulk {l : List Flds.Fld} {n : Nat} (h : Few n l) (hn : n ≤ 100) : Flds.bulk l ≤ 100000 := by
  have key : ∀ (l : List Flds.Fld), (∀ f ∈ l, f.1.size ≤ 64 ∧ f.2.size ≤ 64) → (l.map fun f => f.1.size + f.2.size).sum ≤ 128 * l.length := by
    intro l
    induction l with
    | nil => intro _; simp
    | cons f l ih =>
      intro h
      have h1 := h f (List.mem_cons_self ..)
      have h2 := ih (fun g hg => h g (List.mem_cons_of_mem _ hg))
      rw [List.map_cons, List.sum_cons, List.length_cons]
      omega
  have h1 := key l h.small
  have h2 := h.len
  unfold Flds.bulk
  omega
/-- an owned row stays while the cursor moves -/
theorem own_only {B C : Nat} {w w' : World} {v : Value} {l : List Flds.Fld} (h : Flds.Own B w v l) (ho : Only C w w') (hC : C < B) : Flds.Own B w' v l := ho.owns hC h
/-- what is said of caching in them ends its quotes -/
def AllSaid (l : List Flds.Fld) : Prop := ∀ f ∈ l, Calm.Said f.1 f.2
theorem AllSaid.more {l : List Flds.Fld} {x y : ByteArray} (h : AllSaid l) (hs : Calm.Said x y) : AllSaid (l ++ [(x, y)]) := by
  intro f hf
  rcases List.mem_append.1 hf with h1 | h1
  · exact h f h1
  · rw [List.mem_singleton.1 h1]; exact hs
/-- such, and not nil -/
structure Laid (l : List Flds.Fld) (v : Value) : Prop where
  said : AllSaid l
  there : ¬ v = .slice none 0 0
theorem own_some {B : Nat} {w : World} {v : Value} {l : List Flds.Fld} (h : Flds.Own B w v l) (hn : ¬ v = .slice none 0 0) : ∃ g c, v = .slice (some ⟨g, 0, none⟩) l.length c := by
  rcases h.2 with ⟨h1, _⟩ | ⟨g, cap, cur, h1, _⟩
  · exact absurd h1 hn
  · exact ⟨g, cap, h1⟩
set_option maxRecDepth 100000 in
set_option maxHeartbeats 2000000 in
theorem fields_q (B C : Nat) (w : World) (h : Live B C w) :
    Calls Tryz.prog 88 #[.pointer (some ⟨C, 0, none⟩)] w fun e w' => ∃ v l, e = .returned v ∧ Flds.Own w.heap.size w' v l ∧ Few 4 l ∧ AllSaid l ∧ (∃ g c, v = .slice (some ⟨g, 0, none⟩) l.length c) ∧ Live B C w' ∧ Only C w w' := by
  have hC := h.lt
  obtain ⟨i0, hi0, hz0, hz1, hz2⟩ := info_parts Flds.infoF
  have HL0 := Num.hide (h.alloc (.cells #[] 32))
  have HO0 := Num.hide ((Only.refl C w).alloc (.cells #[] 32))
  have HD := Num.hide (Flds.made_nil w)
  clear h
  go_enter Tryz.func88, Tryz.ntmps88
  go_wp2_with fail
  refine (below_live B C 5 _ HL0.out (by omega) (by omega)).mono ?_
  rintro e w1 ⟨z, rfl, hz0', hz1', hl, ho⟩
  obtain ⟨m, rfl⟩ := Int.eq_ofNat_of_zero_le hz0'
  have HL1 := Num.hide hl
  have HO1 := Num.hide (HO0.out.trans ho)
  have HD1 := Num.hide (own_only HD.out ho hC)
  clear hl ho HL0 HO0 HD
  go_wp2
  go_loopw [3, 4] (fun ov nv wr => ∃ (k : Nat) (l : List Flds.Fld), nv = .int .i64 (k : Int) ∧ k ≤ 4 ∧ Hid (Flds.Own w.heap.size wr ov l) ∧ Hid (Few (4 - k) l) ∧ Hid (Laid l ov) ∧ Hid (Live B C wr) ∧ Hid (Only C w wr)) (fun _ nv _ => (intOf nv).toNat)
  case atStart => exact ⟨m, [], rfl, by omega, HD1, ⟨Nat.zero_le _, fun f hf => by cases hf⟩, ⟨(fun f hf => by cases hf), (by intro h; cases h)⟩, HL1, HO1⟩
  case round =>
    clear HL1 HO1 HD1
    obtain ⟨k, l, rfl, hk, HO, HF, HS, HL, HN⟩ := hrel
    have hsz := HN.out.size
    have hlen := HF.out.len
    by_cases h0 : 0 < (k : Int)
    · go_wp2_with fail
      refine (field_q B C _ HL.out).mono ?_
      rintro e w2 ⟨x, y, rfl, hx, hy, hs2, hl2, ho2⟩
      have HSd := Num.hide hs2
      clear hs2
      have hsz2 : w.heap.size ≤ w2.heap.size := Nat.le_trans hsz ho2.size
      have HO2 := Num.hide (own_only HO.out ho2 hC)
      have HN2 := Num.hide (HN.out.trans ho2)
      have HL2 := Num.hide hl2
      clear hl2 ho2 HL HN HO
      go_wp2_with (at_builtin; refine wpList_append_own _ rfl _ _ 24 rfl w.heap.size 32 i0 _ 2 32 Tryz.underlying24 hi0 hz0 hz1 hz2 rfl (by decide) _ _ _ rfl (World.ownsRow.alloc HO2.out _) ⟨w2.heap.size, 0, none⟩ 1 1 [.string x, .string y] rfl rfl (Flds.cells_two w2 x y) (Flds.two_ok x y) (by unfold maxLen; omega) (by omega) ?c9 ?_)
      case c9 => first | omega | (simp; omega)
      intro v' w3 ho3 hg3 hnil
      obtain ⟨hp1, hp2⟩ := Flds.put_more hsz2 HO2.out (Below.refl w.heap.size _) ho3 hg3
      have HP1 := Num.hide hp1
      have HP2 := Num.hide (HL2.out.under hp2 hC)
      have HP3 := Num.hide (HN2.out.of_below hp2)
      have HP4 := Num.hide ((HF.out.more hx hy).mono (by omega : 4 - k + 1 ≤ 4 - (k - 1)))
      have HS2 : Hid (Laid (l ++ [(x, y)]) v') := ⟨HS.out.said.more HSd.out, fun h => hnil h⟩
      clear ho3 hg3 hp1 hp2 hnil
      go_wp2
      go_roundw
      case rel => exact ⟨k - 1, _, by go_num, by omega, HP1, HP4, HS2, HP2, HP3⟩
      case measure => simp [intOf]; omega
    · have HF4 := Num.hide (HF.out.mono (by omega : 4 - k ≤ 4))
      have HG := Num.hide (own_some HO.out HS.out.there)
      go_wp2
      go_ret
      first | exact ⟨_, _, rfl, HO.out, HF4.out, HS.out.said, HG.out, HL.out, HN.out⟩ | exact ⟨_, rfl, _, HO.out, HF4.out, HS.out.said, HG.out, HL.out, HN.out⟩
theorem fields_live (B C : Nat) (w : World) (h : Live B C w) :
    Calls Tryz.prog 88 #[.pointer (some ⟨C, 0, none⟩)] w fun e w' => ∃ v l, e = .returned v ∧ Flds.Own w.heap.size w' v l ∧ Few 4 l ∧ Live B C w' ∧ Only C w w' :=
  (fields_q B C w h).mono fun e w' ⟨v, l, h1, h2, h3, _, _, h4, h5⟩ => ⟨v, l, h1, h2, h3, h4, h5⟩
end Draw
end Go.Proofs.YtjeokackmkfooaaGreatDoor
namespace Go.Proofs.YtjeokackmkfooaaGreatDoor
open Go.RowKit
set_option linter.unusedVariables false
namespace Draw

/-- numbers within bounds -/
def IntsIn (lo hi : Int) : List Value → Prop
  | [] => True
  | .int .i64 z :: l => (lo ≤ z ∧ z ≤ hi) ∧ IntsIn lo hi l
  | _ :: _ => False
theorem ints_at {lo hi : Int} : ∀ {l : List Value}, IntsIn lo hi l → ∀ i, i < l.length → ∃ z, l[i]? = some (.int .i64 z) ∧ lo ≤ z ∧ z ≤ hi
  | [], _, i, hi => by simp at hi
  | v :: l, h, i, hi => by
    cases v with
    | int k z =>
      cases k with
      | i64 =>
        obtain ⟨h1, h2⟩ := h
        cases i with
        | zero => exact ⟨z, rfl, h1⟩
        | succ i => exact ints_at h2 i (by simpa using hi)
      | _ => cases h
    | _ => cases h
set_option maxRecDepth 100000 in
set_option maxHeartbeats 1000000 in
theorem pickInt_live (B C R : Nat) (lo hi : Int) (cs : Array Value) (n : Nat) (w : World) (h : Live B C w) (hR : R ≠ C) (hrow : w.heap[R]? = some (.cells cs 3)) (hn : cs.size = n) (h0 : 0 < n) (h1 : n ≤ 256) (ht : IntsIn lo hi cs.toList) :
    Calls Tryz.prog 87 #[.pointer (some ⟨C, 0, none⟩), .slice (some ⟨R, 0, none⟩) n n] w fun e w' => ∃ z : Int, e = .returned (.int .i64 z) ∧ lo ≤ z ∧ z ≤ hi ∧ Live B C w' ∧ Only C w w' := by
  have HR := Num.hide hrow
  have HT := Num.hide ht
  have HN := Num.hide hn
  clear hrow ht hn
  go_enter Tryz.func87, Tryz.ntmps87
  go_wp2_with fail
  refine (below_live B C n _ h (by omega) (by omega)).mono ?_
  rintro e w1 ⟨z, rfl, hz0, hz1, hl, ho⟩
  obtain ⟨j, rfl⟩ := Int.eq_ofNat_of_zero_le hz0
  obtain ⟨x, hx, hx0, hx1⟩ := ints_at HT.out j (by have := HN.out; rw [Array.length_toList]; omega)
  have hc : w1.cell? ⟨R, j, none⟩ = some (.int .i64 x) := by
    rw [cell_of_row w1 R j _ _ _ ((ho.block R (Array.getElem?_eq_some_iff.1 (Num.unhide HR)).1 hR).trans (Num.unhide HR))]
    rw [← hx, Array.getElem?_toList]
  have HX0 := Num.hide hx0
  have HX1 := Num.hide hx1
  clear hx hx0 hx1
  have HL := Num.hide hl
  have HO := Num.hide ho
  clear hl ho
  go_wp2
  go_ret
  exact ⟨x, rfl, HX0.out, HX1.out, HL.out, HO.out⟩
end Draw
end Go.Proofs.YtjeokackmkfooaaGreatDoor
namespace Go.Proofs.YtjeokackmkfooaaGreatDoor
open Go.RowKit
set_option linter.unusedVariables false
namespace Put


def cell (b : UInt8) : Value := Value.int .u8 (b.toNat : Int)
/-- a row of N cells of which the first hold the bytes 'out', the rest zero -/
def lay (N : Nat) (out : List UInt8) : List Value := out.map cell ++ List.replicate (N - out.length) (Value.int .u8 0)
theorem length_lay (N : Nat) (out : List UInt8) (h : out.length ≤ N) : (lay N out).length = N := by simp [lay]; omega
theorem lay_nil (N : Nat) : lay N [] = List.replicate N (Value.int .u8 0) := by simp [lay]
theorem lay_put (N : Nat) (out more : List UInt8) (h : out.length + more.length ≤ N) : splice (lay N out) out.length (more.map cell) = lay N (out ++ more) := by
  have e1 : (lay N out).take out.length = out.map cell := by
    unfold lay
    rw [List.take_append_of_le_length (by simp)]
    exact List.take_of_length_le (by simp)
  have e2 : (lay N out).drop (out.length + (more.map cell).length) = List.replicate (N - (out ++ more).length) (Value.int .u8 0) := by
    unfold lay
    rw [List.drop_append, List.drop_eq_nil_of_le (by simp), List.nil_append, List.drop_replicate]
    congr 1
    simp; omega
  unfold splice
  rw [e1, e2, ← List.append_assoc, ← List.map_append]
  rfl
theorem cells_lay {w : World} {g N : Nat} {l : List UInt8} (h : w.heap[g]? = some (.cells (lay N l).toArray 5 (0, 0))) :
    ∀ j (hj : j < l.length), w.cell? ((⟨g, 0, none⟩ : Addr).add j) = some (.int .u8 (l[j].toNat : Int)) := by
  intro j hj
  have hadd : (⟨g, 0, none⟩ : Addr).add j = ⟨g, j, none⟩ := by unfold Addr.add; split <;> simp_all
  rw [hadd, cell_of_row w g j _ 5 (0, 0) h]
  simp only [lay, List.getElem?_toArray]
  rw [List.getElem?_append_left (by simpa using hj)]
  simp [hj, cell]
theorem conv_lay {w : World} {g N : Nat} {l : List UInt8} (h : w.heap[g]? = some (.cells (lay N l).toArray 5 (0, 0))) (n c : Nat) (hn : l.length = n) :
    (convert 22 9 (.slice (some ⟨g, 0, none⟩) n c)).run Tryz.prog w = .ok (.string ⟨l.toArray⟩) w := by
  subst hn
  exact run_convert_bytes_back (P := Tryz.prog) w 22 9 5 ⟨g, 0, none⟩ c l Tryz.underlying22 Tryz.underlying5 Tryz.underlying9 (cells_lay h)
theorem conv_own {w : World} {base : Nat} {v : Value} {l : List UInt8} (h : w.ownsRow base 5 1 v l.length (l.map cell)) (h0 : 0 < l.length) :
    (convert 22 9 v).run Tryz.prog w = .ok (.string ⟨l.toArray⟩) w := by
  rcases h.2 with ⟨_, h'⟩ | ⟨g, cap, cur, rfl, _, hg, hc, _, hcs, htake⟩
  · omega
  · refine run_convert_bytes_back (P := Tryz.prog) w 22 9 5 ⟨g, 0, none⟩ cap l Tryz.underlying22 Tryz.underlying5 Tryz.underlying9 ?_
    intro j hj
    have hadd : (⟨g, 0, none⟩ : Addr).add j = ⟨g, j, none⟩ := by unfold Addr.add; split <;> simp_all
    rw [hadd, cell_of_row w g j _ 5 (0, 0) hg]
    have h2 : (cur.toList.take (l.length * 1))[j]? = (l.map cell)[j]? := by rw [htake]
    rw [List.getElem?_take, if_pos (by omega)] at h2
    rw [← Array.getElem?_toList, h2]
    simp [hj, cell]
theorem cells_one (w : World) (v : Value) (t : TypeId) : ∀ j u, [v][j]? = some u → (w.alloc (.cells #[v] t)).cell? ((⟨w.heap.size, 0, none⟩ : Addr).add j) = some u := Mem.one_cell w v t
theorem cells_two (w : World) (v u : Value) (t : TypeId) : ∀ j x, [v, u][j]? = some x → (w.alloc (.cells #[v, u] t)).cell? ((⟨w.heap.size, 0, none⟩ : Addr).add j) = some x := by
  intro j x hj
  match j, hj with
  | 0, hj => simp at hj; subst hj; simp [Addr.add]
  | 1, hj => simp at hj; subst hj; simp [Addr.add]
theorem conv_nil (w : World) : (convert 22 9 (.slice none 0 0)).run Tryz.prog w = .ok (.string ⟨#[]⟩) w := by kernel_rfl
theorem conv_owned {w : World} {base : Nat} {v : Value} {l : List UInt8} (h : w.ownsRow base 5 1 v l.length (l.map Put.cell)) : (convert 22 9 v).run Tryz.prog w = .ok (.string ⟨l.toArray⟩) w := by
  by_cases h0 : 0 < l.length
  · exact Put.conv_own h h0
  · obtain rfl : l = [] := List.eq_nil_of_length_eq_zero (by omega)
    rcases h.2 with ⟨rfl, _⟩ | ⟨g, cap, cur, rfl, _⟩
    · exact conv_nil w
    · exact run_convert_bytes_back (P := Tryz.prog) w 22 9 5 ⟨g, 0, none⟩ cap [] Tryz.underlying22 Tryz.underlying5 Tryz.underlying9 (fun j hj => by simp at hj)
theorem two_ok (x y : UInt8) : ∀ u ∈ [x, y].map Put.cell, u.oneCell' = true := by
  intro v hv
  simp only [List.map_cons, List.map_nil, List.mem_cons, List.not_mem_nil, or_false] at hv
  rcases hv with rfl | rfl <;> rfl
theorem one_ok (x : Int) : ∀ u ∈ [Value.int .u8 x], u.oneCell' = true := by intro u hu; simp at hu; subst hu; rfl
theorem map_snoc (out : List UInt8) (x : Int) (h0 : 0 ≤ x) (h1 : x < 256) : out.map Put.cell ++ [Value.int .u8 x] = (out ++ [Num.byte x]).map Put.cell := by
  have e : ((Num.byte x).toNat : Int) = x := by rw [Num.byte_val]; omega
  simp [Put.cell, e]

/-- an append onto a row of the call's own, as one step of a region that draws its order -/
theorem step_append_own {P : Program} {ops : Array Oper} {o : Oper} {a : Act} {w : World} {K : Act → World → Prop} {Q : Exit → Act → World → Prop} {E : Prop} (hgd : o.guard = none) (s x : Operand) (t : TypeId)
    (ho : o.op = .call { callee := .builtin .append, args := #[s, x], argTypes := #[t, t] })
    (base : Nat) (e : TypeId) (i : TypeInfo) (z : Value) (size bytes : Nat) (ht : P.underlying t = some (.slice e)) (hi : P.info? e = some i) (hz : i.zero = some z)
    (hsize : i.size = size) (hby : i.bytes = bytes) (hzs : z.cells.size = size) (hsz : 0 < size)
    (v : Value) (n : Nat) (xs : List Value) (hs : a.eval s = v) (hown : w.ownsRow base e size v n xs)
    (ad : Addr) (m c : Nat) (news : List Value) (hx : a.eval x = .slice (some ad) m c) (hl : news.length = m * size) (hnews : ∀ j u, news[j]? = some u → w.cell? (ad.add j) = some u) (h1 : ∀ u ∈ news, u.oneCell' = true)
    (h63 : n + m ≤ maxLen) (hbytes : (n + m) * bytes ≤ 140737488355328) (hbase : base ≤ w.heap.size)
    (h : ∀ v' w', w'.ownsRow base e size v' (n + m) (xs ++ news) → w.grownBy w' v.ownBlock → K (a.put o.dst v') w') :
    if Region.wanted o (yielded ops a.tmps) = true then Oper.wp P o a w K Q else E := by
  have hw : Region.wanted o (yielded ops a.tmps) = true := by simp [Region.wanted, hgd]
  rw [if_pos hw]
  exact wp_append_own w s x t ho base e i z size bytes ht hi hz hsize hby hzs hsz v n xs hs hown ad m c news hx hl hnews h1 h63 hbytes hbase fun v' w' h2 h3 _ => h v' w' h2 h3
end Put
end Go.Proofs.YtjeokackmkfooaaGreatDoor
namespace Go.Proofs.YtjeokackmkfooaaGreatDoor
open Go.RowKit
set_option linter.unusedVariables false
namespace Draw

/-- a byte of a text of that style -/
def sb (style b : Int) : Int := if style = 1 then b % 2 else if style = 2 then 97 + b % 4 else b
theorem sb_bd (style b : Int) (h0 : 0 ≤ b) (h1 : b ≤ 255) : 0 ≤ sb style b ∧ sb style b < 256 := by
  unfold sb
  split
  · omega
  · split <;> omega
def txl (l : List Int) (style : Int) : Nat → Nat × Int → List UInt8
  | 0, _ => []
  | j + 1, s => Num.byte (sb style (bv l s)) :: txl l style j (ns l s)
def txs (l : List Int) : Nat → Nat × Int → Nat × Int
  | 0, s => s
  | j + 1, s => txs l j (ns l s)
theorem length_txl (l : List Int) (style : Int) (j : Nat) (s : Nat × Int) : (txl l style j s).length = j := by
  induction j generalizing s with
  | zero => rfl
  | succ j ih => simp [txl, ih]
/-- a text of at most so many bytes, and the state behind it -/
def txt (l : List Int) (most : Int) (s : Nat × Int) : List UInt8 := txl l (blv l 4 s) (blv l (most + 1) (bls l 4 s)).toNat (bls l (most + 1) (bls l 4 s))
def txts (l : List Int) (most : Int) (s : Nat × Int) : Nat × Int := txs l (blv l (most + 1) (bls l 4 s)).toNat (bls l (most + 1) (bls l 4 s))
theorem length_txt (l : List Int) (most : Int) (s : Nat × Int) (h0 : 0 ≤ most) : (txt l most s).length ≤ most.toNat := by
  unfold txt
  rw [length_txl]
  have := blv_bd l (most + 1) (bls l 4 s) (by omega)
  omega
set_option maxRecDepth 100000 in
set_option maxHeartbeats 1000000 in
theorem text_at (B C cap : Nat) (a : Option Addr) (l : List Int) (most : Int) (w : World) (s : Nat × Int) (h : At B C cap a l w s) (hm0 : 0 ≤ most) (hm1 : most ≤ 1000000) :
    Calls Tryz.prog 45 #[.pointer (some ⟨C, 0, none⟩), .int .i64 most] w fun e w' => e = .returned (.string ⟨(txt l most s).toArray⟩) ∧ At B C cap a l w' (txts l most s) ∧ Only C w w' := by
  have hlt := h.lt
  obtain ⟨i0, hi, hz0, hz1, hz2⟩ := info_parts Mem.info5
  go_enter Tryz.func45, Tryz.ntmps45
  go_wp2_with fail
  refine (below_at B C cap a l 4 _ s (h.alloc _) (by omega)).mono ?_
  rintro e w1 ⟨rfl, h1, o1⟩
  go_wp2_with fail
  refine (below_at B C cap a l (most + 1) _ _ h1 (by omega)).mono ?_
  rintro e w2 ⟨rfl, h2, o2⟩
  have hown0 : w2.ownsRow w.heap.size 5 1 (.slice (some ⟨w.heap.size, 0, none⟩) 0 0) 0 [] :=
    o2.owns hlt (o1.owns hlt (World.ownsRow_lit (base := w.heap.size) (e := 5) (size := 1) w #[] 0 (Nat.le_refl _) (by unfold maxLen; omega) rfl))
  have hb := blv_bd l (most + 1) (bls l 4 s) (by omega)
  have hO : Only C w w2 := ((Only.refl C w).alloc _).trans (o1.trans o2)
  have htx : Hid (txt l most s = txl l (blv l 4 s) (blv l (most + 1) (bls l 4 s)).toNat (bls l (most + 1) (bls l 4 s))) := rfl
  have hts : Hid (txts l most s = txs l (blv l (most + 1) (bls l 4 s)).toNat (bls l (most + 1) (bls l 4 s))) := rfl
  generalize blv l 4 s = style at *
  generalize blv l (most + 1) (bls l 4 s) = n at *
  generalize bls l (most + 1) (bls l 4 s) = s2 at *
  clear o1 o2 h1
  go_wp2
  go_loopw [5, 7] (fun v q wr => ∃ (j : Nat) (st : Nat × Int) (out : List UInt8), j + out.length ≤ 1000000 ∧ q = .int .i64 j ∧ Hid (txt l most s = out ++ txl l style j st) ∧ Hid (txts l most s = txs l j st) ∧ At B C cap a l wr st ∧
      wr.ownsRow w.heap.size 5 1 v out.length (out.map Put.cell) ∧ Only C w wr) (fun _ q _ => (intOf q).toNat)
  case atStart => exact ⟨n.toNat, s2, [], by simp; omega, by rw [Int.toNat_of_nonneg hb.1], htx, hts, h2, hown0, hO⟩
  case round =>
    obtain ⟨j, st, out, hj, rfl, hx, hs, hA, hown, hOn⟩ := hrel
    clear h2 hown0 hO htx hts
    cases j with
    | zero =>
      have hx2 : Hid (txt l most s = out) := by show txt l most s = out; have := hx.out; simpa [txl] using this
      have hconv := Put.conv_owned hown
      clear hown
      go_wp2
      go_ret
      exact ⟨by rw [hx2.out]; rfl, by rw [hs.out]; exact hA, hOn⟩
    | succ j =>
      have bb := bv_bd l st
      have b1 := sb_bd style (bv l st) bb.1 bb.2
      have hsb : Hid (sb style (bv l st) = if style = 1 then bv l st % 2 else if style = 2 then 97 + bv l st % 4 else bv l st) := rfl
      have hj0 : (0 : Int) < ((j + 1 : Nat) : Int) := by omega
      go_wp2_with fail
      refine (byte_at B C cap a l _ st hA).mono ?_
      rintro e w3 ⟨rfl, h3, o3⟩
      have hown3 := o3.owns hlt hown
      have hsz := Nat.le_trans hOn.size o3.size
      have fin : ∀ x v' w4, x = sb style (bv l st) → w4.ownsRow w.heap.size 5 1 v' (out.length + 1) (out.map Put.cell ++ [Value.int .u8 x]) → (w3.alloc (.cells #[.int .u8 x] 5)).grownBy w4 u5.ownBlock →
          ∃ st' out', j + out'.length ≤ 1000000 ∧ Hid (txt l most s = out' ++ txl l style j st') ∧ Hid (txts l most s = txs l j st') ∧ At B C cap a l w4 st' ∧ w4.ownsRow w.heap.size 5 1 v' out'.length (out'.map Put.cell) ∧ Only C w w4 := by
        intro x v' w4 hxe hown4 hg
        have hb4 : Below w.heap.size w3 w4 := ((Below.refl _ _).alloc hsz _).grown hg (by simp; omega) (fun k hk => (hown3.lt k hk).1)
        refine ⟨ns l st, out ++ [Num.byte x], by simp; omega, ?_, hs.out, h3.under hb4 hlt, ?_, (hOn.trans o3).of_below hb4⟩
        · show txt l most s = _
          rw [hx.out, hxe, List.append_assoc]; rfl
        · rw [← Put.map_snoc out x (by rw [hxe]; exact b1.1) (by rw [hxe]; exact b1.2)]
          simpa using hown4
      by_cases s1 : style = 1
      · have c1 : (style == 1) = true := beq_iff_eq.2 s1
        have c2 : (style == 2) = false := beq_eq_false_iff_ne.2 (by omega)
        have hxe : bv l st % 2 = sb style (bv l st) := by rw [hsb.out, if_pos s1]
        have HX := Num.hide hxe
        clear s1
        have HF := Num.hide fin
        clear hxe fin hown
        go_wp2_with (at_builtin; refine wpList_append_own _ rfl _ _ 22 rfl w.heap.size 5 i0 (.int .u8 0) 1 1 Tryz.underlying22 hi hz0 hz1 hz2 rfl (by decide) _ _ _ rfl (hown3.alloc _) ⟨w3.heap.size, 0, none⟩ 1 1 [.int .u8 (bv l st % 2)] rfl rfl (Put.cells_one w3 _ 5) (Put.one_ok _) (by unfold maxLen; omega) (by omega) ?q1 ?_)
        case q1 => simp; omega
        intro v' w4 hown4 hgrow _
        obtain ⟨st', out', f1, f2, f3, f4, f5, f6⟩ := Num.unhide HF _ v' w4 (Num.unhide HX) hown4 hgrow
        clear hown4 hgrow hown3 HF
        go_wp2
        go_roundw
        case rel => exact ⟨j, st', out', f1, by go_num, f2, f3, f4, f5, f6⟩
        case measure => simp [intOf]
      · have c1 : (style == 1) = false := beq_eq_false_iff_ne.2 s1
        by_cases s2' : style = 2
        · have c2 : (style == 2) = true := beq_iff_eq.2 s2'
          have hxe : 97 + bv l st % 4 = sb style (bv l st) := by rw [hsb.out, if_neg s1, if_pos s2']
          have HX := Num.hide hxe
          clear s1 s2'
          have HF := Num.hide fin
          clear hxe fin hown
          go_wp2_with (at_builtin; refine wpList_append_own _ rfl _ _ 22 rfl w.heap.size 5 i0 (.int .u8 0) 1 1 Tryz.underlying22 hi hz0 hz1 hz2 rfl (by decide) _ _ _ rfl (hown3.alloc _) ⟨w3.heap.size, 0, none⟩ 1 1 [.int .u8 (97 + bv l st % 4)] rfl rfl (Put.cells_one w3 _ 5) (Put.one_ok _) (by unfold maxLen; omega) (by omega) ?q2 ?_)
          case q2 => simp; omega
          intro v' w4 hown4 hgrow _
          obtain ⟨st', out', f1, f2, f3, f4, f5, f6⟩ := Num.unhide HF _ v' w4 (Num.unhide HX) hown4 hgrow
          clear hown4 hgrow hown3 HF
          go_wp2
          go_roundw
          case rel => exact ⟨j, st', out', f1, by go_num, f2, f3, f4, f5, f6⟩
          case measure => simp [intOf]
        · have c2 : (style == 2) = false := beq_eq_false_iff_ne.2 s2'
          have hxe : bv l st = sb style (bv l st) := by rw [hsb.out, if_neg s1, if_neg s2']
          have HX := Num.hide hxe
          clear s1 s2'
          have HF := Num.hide fin
          clear hxe fin hown
          go_wp2_with (at_builtin; refine wpList_append_own _ rfl _ _ 22 rfl w.heap.size 5 i0 (.int .u8 0) 1 1 Tryz.underlying22 hi hz0 hz1 hz2 rfl (by decide) _ _ _ rfl (hown3.alloc _) ⟨w3.heap.size, 0, none⟩ 1 1 [.int .u8 (bv l st)] rfl rfl (Put.cells_one w3 _ 5) (Put.one_ok _) (by unfold maxLen; omega) (by omega) ?q3 ?_)
          case q3 => simp; omega
          intro v' w4 hown4 hgrow _
          obtain ⟨st', out', f1, f2, f3, f4, f5, f6⟩ := Num.unhide HF _ v' w4 (Num.unhide HX) hown4 hgrow
          clear hown4 hgrow hown3 HF
          go_wp2
          go_roundw
          case rel => exact ⟨j, st', out', f1, by go_num, f2, f3, f4, f5, f6⟩
          case measure => simp [intOf]
end Draw
end Go.Proofs.YtjeokackmkfooaaGreatDoor
namespace Go.Proofs.YtjeokackmkfooaaGreatDoor
open Go.RowKit
set_option linter.unusedVariables false
namespace Draw

theorem text_live (B C : Nat) (most : Nat) (w : World) (h : Live B C w) (hm : most ≤ 1000000) :
    Calls Tryz.prog 45 #[.pointer (some ⟨C, 0, none⟩), .int .i64 (most : Int)] w fun e w' => ∃ t, e = .returned (.string t) ∧ t.size ≤ most ∧ Live B C w' ∧ Only C w w' := by
  obtain ⟨cap, a, l, s, h⟩ := h
  refine (text_at B C cap a l (most : Int) w s h (by omega) (by omega)).mono ?_
  rintro e w' ⟨rfl, h2, ho⟩
  have := length_txt l (most : Int) s (by omega)
  exact ⟨_, rfl, by show (txt l (most : Int) s).toArray.size ≤ most; rw [List.size_toArray]; exact this, ⟨_, _, _, _, h2⟩, ho⟩
end Draw
end Go.Proofs.YtjeokackmkfooaaGreatDoor
