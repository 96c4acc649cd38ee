/-
  pieceAhead of the program: one piece, read off a text from a place on; what was there stays.
-/
import Derived.Test.YtkenmilglfnmbaaGreatDoorPieceNum
import Derived.Test.YtkenmilglfnmbaaGreatDoorReadHexImpl
import Derived.Test.YtkenmilglfnmbaaGreatDoorShelfCut
import Derived.Test.YtkenmilglfnmbaaGreatDoorShelfPrefix
import Derived.Laws.Strings2
import Derived.RegionTactic
import Derived.BigRegion
import Derived.ChangeAlike
import Derived.RangeFuncBox
namespace Go.Proofs.YtkenmilglfnmbaaGreatDoor
open Go.RowKit
set_option linter.unusedVariables false
namespace Body
open Line (byteAt byteAt_eq)

/-- the library's variable holds some number -/
def Lim (w : World) : Prop := ∃ m, w.cell? ⟨8, 0, none⟩ = some (.int .i64 m)
theorem lim_lt {w : World} (h : Lim w) : 8 < w.heap.size := by obtain ⟨m, hm⟩ := h; exact Recs.lt_of_cell hm
theorem lim_of {w : World} (h : w.ShapedOpen Tryz.prog) : Lim w := Shelf.laysM145.s1_3 w h
theorem Lim.below {w w' : World} (h : Lim w) (hb : Below w.heap.size w w') : Lim w' := by
  have hl := lim_lt h
  obtain ⟨m, hm⟩ := h
  exact ⟨m, (hb.cell (p := ⟨8, 0, none⟩) hl).trans hm⟩
/-- the program's two errors lie at these places, which differ -/
structure Errs (m b : Addr) (w : World) : Prop where
  cm : w.cell? ⟨0, 0, none⟩ = some (.iface 199 (.pointer (some m)))
  cb : w.cell? ⟨1, 0, none⟩ = some (.iface 199 (.pointer (some b)))
  ne : m ≠ b
  rm : ∃ c t, w.heap[m.block]? = some (.cells c t (0, 0))
  rb : ∃ c t, w.heap[b.block]? = some (.cells c t (0, 0))
theorem Errs.below {m b : Addr} {w w' : World} (h : Errs m b w) (hb : Below w.heap.size w w') : Errs m b w' := by
  obtain ⟨c1, t1, h1⟩ := h.rm
  obtain ⟨c2, t2, h2⟩ := h.rb
  exact ⟨(hb.cell (p := ⟨0, 0, none⟩) (Recs.lt_of_cell h.cm)).trans h.cm, (hb.cell (p := ⟨1, 0, none⟩) (Recs.lt_of_cell h.cb)).trans h.cb, h.ne,
    ⟨c1, t1, (hb.block _ (Array.getElem?_eq_some_iff.1 h1).1).trans h1⟩, ⟨c2, t2, (hb.block _ (Array.getElem?_eq_some_iff.1 h2).1).trans h2⟩⟩
/-- the error of a code -/
def errV (m b : Addr) : Nat → Value
  | 0 => .nilIface
  | 1 => .iface 199 (.pointer (some m))
  | _ => .iface 199 (.pointer (some b))
/-- a piece as the program has it -/
def pcV (x : Pc0) : Value := .agg #[.string x.1, .int .i64 (x.2.1 : Int)]
theorem cut_at (s : ByteArray) (a : Nat) (w : World) (hs : s.size ≤ 1048576) (hm : Lim w) :
    Calls Tryz.prog 158 #[.string (s.extract a s.size), .string ⟨#[13, 10]⟩] w fun e w' => ∃ x y, e = .returned (.tuple #[.string x, .string y, .bool (Line.eol s a).isSome]) ∧ x.size ≤ 1048576 ∧ (∀ i, Line.eol s a = some i → x = s.extract a i ∧ y = s.extract (i + 2) s.size) ∧ Below w.heap.size w w' := by
  obtain ⟨m, hm⟩ := hm
  refine (Shelf.strings_Cut (s.extract a s.size) ⟨#[13, 10]⟩ m w (by rw [ByteArray.size_extract]; omega) hm).mono ?_
  rintro e w' ⟨rfl, n, rfl⟩
  have hb : Below w.heap.size w (w.drewN n) := ⟨rfl, rfl, rfl, Nat.le_refl _, fun _ _ => rfl⟩
  cases he : Line.eol s a with
  | none =>
    obtain ⟨e1, e2, e3⟩ := Line.cut_none he
    exact ⟨_, _, by rw [e1, e2, e3]; rfl, by rw [ByteArray.size_extract]; omega, (fun i h => by cases h), hb⟩
  | some i =>
    obtain ⟨e1, e3⟩ := Line.cut_some he
    exact ⟨_, _, by rw [e1, e3]; rfl, by rw [ByteArray.size_extract]; omega, (fun j h => by cases h; exact ⟨rfl, cut_rest he⟩), hb⟩
/-- a box of a piece that holds nothing yet -/
structure Box0 (b : Nat) (w : World) : Prop where
  c0 : w.cell? ⟨b, 0, none⟩ = some (.string ⟨#[]⟩)
  c1 : w.cell? ⟨b, 1, none⟩ = some (.int .i64 0)
  f0 : w.frozen? ⟨b, 0, none⟩ = false
  f1 : w.frozen? ⟨b, 1, none⟩ = false
theorem box_of {b : Nat} {w : World} (h : w.heap[b]? = some (.cells #[.string ⟨#[]⟩, .int .i64 0] 117 (0, 0))) : Box0 b w :=
  ⟨by simp [World.cell?, h], by simp [World.cell?, h], by simp [World.frozen?, h], by simp [World.frozen?, h]⟩
theorem box_put {b : Nat} {w : World} (h : Box0 b w) (u v : Value) : ((w.setCell ⟨b, 0, none⟩ u).setCell ⟨b, 1, none⟩ v).cell? ⟨b, 0, none⟩ = some u ∧ ((w.setCell ⟨b, 0, none⟩ u).setCell ⟨b, 1, none⟩ v).cell? ⟨b, 1, none⟩ = some v := by
  refine ⟨?_, ?_⟩
  · rw [World.cell?_setCell_other _ _ _ _ (by simp)]
    exact World.cell?_setCell_same' _ _ _ (by rw [h.c0]; rfl)
  · exact World.cell?_setCell_same' _ _ _ (by rw [World.cell?_setCell_other _ _ _ _ (by simp), h.c1]; rfl)
set_option maxRecDepth 100000 in
set_option maxHeartbeats 4000000 in
theorem piece_impl (s : ByteArray) (a room : Nat) (m b : Addr) (w : World) (hs : s.size ≤ 1048576) (ha : a ≤ s.size) (hr : room ≤ 60) (hm : Lim w) (hS : Syn w) (hE : Errs m b w) :
    Calls Tryz.prog 133 #[.string (s.extract a s.size), .int .i64 (room : Int)] w fun e w' => e = .returned (.tuple #[pcV (pieceAt s a room), errV m b (pieceAt s a room).2.2]) ∧ Below w.heap.size w w' := by
  have HM := Num.hide (fun W h => Lim.below (w' := W) hm h)
  have HS := Num.hide (fun W h => Syn.below (w' := W) hS h)
  have HE := Num.hide (fun W h => Errs.below (w' := W) hE h)
  have hz : (s.extract a s.size).size = s.size - a := by rw [ByteArray.size_extract]; omega
  have HC := Num.hide (fun W h => cut_at s a W hs h)
  have HR := Num.hide (fun x W hx h => readHex_impl x W hx h)
  have HP := Num.hide (fun t W => Shelf.strings_HasPrefix t ⟨#[13, 10]⟩ W)
  have hgm := Recs.lt_of_cell hE.cm
  have hgb := Recs.lt_of_cell hE.cb
  clear hm hS hE
  obtain ⟨V, hV⟩ : ∃ V, pieceAt s a room = V := ⟨_, rfl⟩
  rw [hV]
  cases he : Line.eol s a with
  | none =>
    rw [he] at HC
    by_cases hl : 8 < s.size - a
    · have hd : decide (((s.size - a : Nat) : Int) ≤ 8) = false := by simp; omega
      rw [pc_long he hl] at hV
      subst hV
      clear he
      generalize s.extract a s.size = t at HC hz
      go_enter Tryz.func133, Tryz.ntmps133
      go_wp2_with fail
      have hb1 : Below w.heap.size w (w.alloc (.cells #[.string ⟨#[]⟩, .int .i64 0] 117)) := (Below.refl _ w).alloc (Nat.le_refl _) _
      have hx1 := World.alloc_heap_new w (.cells #[.string ⟨#[]⟩, .int .i64 0] 117)
      have hz1 : (w.alloc (.cells #[.string ⟨#[]⟩, .int .i64 0] 117)).heap.size = w.heap.size + 1 := by simp
      refine (HC.out _ (HM.out _ hb1)).mono ?_
      generalize w.alloc (.cells #[.string ⟨#[]⟩, .int .i64 0] 117) = w1 at hb1 hx1 hz1
      rintro e w2 ⟨x, y, rfl, hxs, hxy, hb2⟩
      have hx2 := (hb2.block w.heap.size (by omega)).trans hx1
      have hz2 := hb2.size
      have B2 := Num.hide (hb1.trans (hb2.mono hb1.size))
      clear hb1 hb2 hx1
      go_wp2_with fail
      refine (HR.out _ _ hxs (HS.out _ B2.out)).mono ?_
      rintro e w3 ⟨rfl, hb3⟩
      have hx3 := (hb3.block w.heap.size (by omega)).trans hx2
      have B3 := Num.hide (B2.out.trans (hb3.mono B2.out.size))
      have BX := Num.hide (box_of hx3)
      obtain ⟨b0, b1, g0, g1⟩ := box_of hx3
      obtain ⟨em, eb, _, _, _⟩ := HE.out _ B3.out
      have km := (World.cell?_setCell_other w3 ⟨w.heap.size, 0, none⟩ ⟨0, 0, none⟩ (.string ⟨#[]⟩) (by simp <;> omega)).trans em
      have kb := (World.cell?_setCell_other w3 ⟨w.heap.size, 0, none⟩ ⟨1, 0, none⟩ (.string ⟨#[]⟩) (by simp <;> omega)).trans eb
      generalize rhN x = rn
      generalize rhB x = rb
      clear hxy
      clear hx2 hx3 hb3 HC HR HM HS HE
      go_wp2
      go_region
      go_wp2
      obtain ⟨r0, r1⟩ := box_put BX.out (.string ⟨#[]⟩) (.int .i64 0)
      have BF := Num.hide ((B3.out.setCell (p := ⟨w.heap.size, 0, none⟩) (Nat.le_refl _) (.string ⟨#[]⟩)).setCell (p := ⟨w.heap.size, 1, none⟩) (Nat.le_refl _) (.int .i64 0))
      have BD := Num.hide BF.out.drew
      exact bodyPost_ret (v := .tuple #[.agg #[.string ⟨#[]⟩, .int .i64 0], errV m b 2]) (by simp [results, Tryz.results133, go_sem, r0, r1, errV]) rfl ⟨rfl, BD.out⟩
    · have hd : decide (((s.size - a : Nat) : Int) ≤ 8) = true := by simp; omega
      rw [pc_more he hl] at hV
      subst hV
      clear he
      generalize s.extract a s.size = t at HC hz
      go_enter Tryz.func133, Tryz.ntmps133
      go_wp2_with fail
      have hb1 : Below w.heap.size w (w.alloc (.cells #[.string ⟨#[]⟩, .int .i64 0] 117)) := (Below.refl _ w).alloc (Nat.le_refl _) _
      have hx1 := World.alloc_heap_new w (.cells #[.string ⟨#[]⟩, .int .i64 0] 117)
      have hz1 : (w.alloc (.cells #[.string ⟨#[]⟩, .int .i64 0] 117)).heap.size = w.heap.size + 1 := by simp
      refine (HC.out _ (HM.out _ hb1)).mono ?_
      generalize w.alloc (.cells #[.string ⟨#[]⟩, .int .i64 0] 117) = w1 at hb1 hx1 hz1
      rintro e w2 ⟨x, y, rfl, hxs, hxy, hb2⟩
      have hx2 := (hb2.block w.heap.size (by omega)).trans hx1
      have hz2 := hb2.size
      have B2 := Num.hide (hb1.trans (hb2.mono hb1.size))
      clear hb1 hb2 hx1
      go_wp2_with fail
      refine (HR.out _ _ hxs (HS.out _ B2.out)).mono ?_
      rintro e w3 ⟨rfl, hb3⟩
      have hx3 := (hb3.block w.heap.size (by omega)).trans hx2
      have B3 := Num.hide (B2.out.trans (hb3.mono B2.out.size))
      have BX := Num.hide (box_of hx3)
      obtain ⟨b0, b1, g0, g1⟩ := box_of hx3
      obtain ⟨em, eb, _, _, _⟩ := HE.out _ B3.out
      have km := (World.cell?_setCell_other w3 ⟨w.heap.size, 0, none⟩ ⟨0, 0, none⟩ (.string ⟨#[]⟩) (by simp <;> omega)).trans em
      have kb := (World.cell?_setCell_other w3 ⟨w.heap.size, 0, none⟩ ⟨1, 0, none⟩ (.string ⟨#[]⟩) (by simp <;> omega)).trans eb
      generalize rhN x = rn
      generalize rhB x = rb
      clear hxy
      clear hx2 hx3 hb3 HC HR HM HS HE
      go_wp2
      go_region
      go_wp2
      obtain ⟨r0, r1⟩ := box_put BX.out (.string ⟨#[]⟩) (.int .i64 0)
      have BF := Num.hide ((B3.out.setCell (p := ⟨w.heap.size, 0, none⟩) (Nat.le_refl _) (.string ⟨#[]⟩)).setCell (p := ⟨w.heap.size, 1, none⟩) (Nat.le_refl _) (.int .i64 0))
      have BD := Num.hide BF.out.drew
      exact bodyPost_ret (v := .tuple #[.agg #[.string ⟨#[]⟩, .int .i64 0], errV m b 1]) (by simp [results, Tryz.results133, go_sem, r0, r1, errV]) rfl ⟨rfl, BD.out⟩
  | some i =>
    have hin := Line.eol_in he
    have hy : (s.extract (i + 2) s.size).size = s.size - (i + 2) := by rw [ByteArray.size_extract]; omega
    have hxz : (s.extract a i).size = i - a := by rw [ByteArray.size_extract]; omega
    rw [he] at HC
    cases hx : readHex (s.extract a i) with
    | none =>
      obtain ⟨hn1, hn2⟩ := rh_none hx
      rw [pc_nohex he hx] at hV
      subst hV
      clear he hx
      generalize s.extract a s.size = t at HC hz
      obtain ⟨yy, hyy⟩ : ∃ q, s.extract (i + 2) s.size = q := ⟨_, rfl⟩
      rw [hyy] at hy
      have HYY := Num.hide hyy
      clear hyy
      obtain ⟨xx, hxx⟩ : ∃ q, s.extract a i = q := ⟨_, rfl⟩
      rw [hxx] at hxz hn1 hn2
      have HXX := Num.hide hxx
      clear hxx
      go_enter Tryz.func133, Tryz.ntmps133
      go_wp2_with fail
      have hb1 : Below w.heap.size w (w.alloc (.cells #[.string ⟨#[]⟩, .int .i64 0] 117)) := (Below.refl _ w).alloc (Nat.le_refl _) _
      have hx1 := World.alloc_heap_new w (.cells #[.string ⟨#[]⟩, .int .i64 0] 117)
      have hz1 : (w.alloc (.cells #[.string ⟨#[]⟩, .int .i64 0] 117)).heap.size = w.heap.size + 1 := by simp
      refine (HC.out _ (HM.out _ hb1)).mono ?_
      generalize w.alloc (.cells #[.string ⟨#[]⟩, .int .i64 0] 117) = w1 at hb1 hx1 hz1
      rintro e w2 ⟨x, y, rfl, hxs, hxy, hb2⟩
      obtain ⟨hx0, hy0⟩ := hxy i rfl
      obtain rfl := hx0.trans HXX.out
      obtain rfl := hy0.trans HYY.out
      clear hxy hx0 hy0 HXX HYY
      have hx2 := (hb2.block w.heap.size (by omega)).trans hx1
      have hz2 := hb2.size
      have B2 := Num.hide (hb1.trans (hb2.mono hb1.size))
      clear hb1 hb2 hx1
      go_wp2_with fail
      refine (HR.out _ _ hxs (HS.out _ B2.out)).mono ?_
      rintro e w3 ⟨rfl, hb3⟩
      have hx3 := (hb3.block w.heap.size (by omega)).trans hx2
      have B3 := Num.hide (B2.out.trans (hb3.mono B2.out.size))
      have BX := Num.hide (box_of hx3)
      obtain ⟨b0, b1, g0, g1⟩ := box_of hx3
      obtain ⟨em, eb, _, _, _⟩ := HE.out _ B3.out
      have km := (World.cell?_setCell_other w3 ⟨w.heap.size, 0, none⟩ ⟨0, 0, none⟩ (.string ⟨#[]⟩) (by simp <;> omega)).trans em
      have kb := (World.cell?_setCell_other w3 ⟨w.heap.size, 0, none⟩ ⟨1, 0, none⟩ (.string ⟨#[]⟩) (by simp <;> omega)).trans eb
      rw [hn1, hn2]
      clear hx2 hx3 hb3 HC HR HM HS HE
      go_wp2
      go_region
      go_wp2
      obtain ⟨r0, r1⟩ := box_put BX.out (.string ⟨#[]⟩) (.int .i64 0)
      have BF := Num.hide ((B3.out.setCell (p := ⟨w.heap.size, 0, none⟩) (Nat.le_refl _) (.string ⟨#[]⟩)).setCell (p := ⟨w.heap.size, 1, none⟩) (Nat.le_refl _) (.int .i64 0))
      have BD := Num.hide BF.out.drew
      exact bodyPost_ret (v := .tuple #[.agg #[.string ⟨#[]⟩, .int .i64 0], errV m b 2]) (by simp [results, Tryz.results133, go_sem, r0, r1, errV]) rfl ⟨rfl, BD.out⟩
    | some n =>
      have hn := readHex_bd hx
      obtain ⟨hn1, hn2⟩ := rh_some hx
      obtain ⟨k, rfl⟩ : ∃ k : Nat, n = (k : Int) := ⟨n.toNat, by omega⟩
      by_cases hg : room < (k : Int).toNat
      · have q1 : decide ((room : Int) < (k : Int)) = true := by simp at hg ⊢; omega
        rw [pc_great he hx hg] at hV
        subst hV
        clear he hx
        generalize s.extract a s.size = t at HC hz
        obtain ⟨yy, hyy⟩ : ∃ q, s.extract (i + 2) s.size = q := ⟨_, rfl⟩
        rw [hyy] at hy
        have HYY := Num.hide hyy
        clear hyy
        obtain ⟨xx, hxx⟩ : ∃ q, s.extract a i = q := ⟨_, rfl⟩
        rw [hxx] at hxz hn1 hn2
        have HXX := Num.hide hxx
        clear hxx
        go_enter Tryz.func133, Tryz.ntmps133
        go_wp2_with fail
        have hb1 : Below w.heap.size w (w.alloc (.cells #[.string ⟨#[]⟩, .int .i64 0] 117)) := (Below.refl _ w).alloc (Nat.le_refl _) _
        have hx1 := World.alloc_heap_new w (.cells #[.string ⟨#[]⟩, .int .i64 0] 117)
        have hz1 : (w.alloc (.cells #[.string ⟨#[]⟩, .int .i64 0] 117)).heap.size = w.heap.size + 1 := by simp
        refine (HC.out _ (HM.out _ hb1)).mono ?_
        generalize w.alloc (.cells #[.string ⟨#[]⟩, .int .i64 0] 117) = w1 at hb1 hx1 hz1
        rintro e w2 ⟨x, y, rfl, hxs, hxy, hb2⟩
        obtain ⟨hx0, hy0⟩ := hxy i rfl
        obtain rfl := hx0.trans HXX.out
        obtain rfl := hy0.trans HYY.out
        clear hxy hx0 hy0 HXX HYY
        have hx2 := (hb2.block w.heap.size (by omega)).trans hx1
        have hz2 := hb2.size
        have B2 := Num.hide (hb1.trans (hb2.mono hb1.size))
        clear hb1 hb2 hx1
        go_wp2_with fail
        refine (HR.out _ _ hxs (HS.out _ B2.out)).mono ?_
        rintro e w3 ⟨rfl, hb3⟩
        have hx3 := (hb3.block w.heap.size (by omega)).trans hx2
        have B3 := Num.hide (B2.out.trans (hb3.mono B2.out.size))
        have BX := Num.hide (box_of hx3)
        obtain ⟨b0, b1, g0, g1⟩ := box_of hx3
        obtain ⟨em, eb, _, _, _⟩ := HE.out _ B3.out
        have km := (World.cell?_setCell_other w3 ⟨w.heap.size, 0, none⟩ ⟨0, 0, none⟩ (.string ⟨#[]⟩) (by simp <;> omega)).trans em
        have kb := (World.cell?_setCell_other w3 ⟨w.heap.size, 0, none⟩ ⟨1, 0, none⟩ (.string ⟨#[]⟩) (by simp <;> omega)).trans eb
        rw [hn1, hn2]
        clear hx2 hx3 hb3 HC HR HM HS HE
        go_wp2
        go_region
        go_wp2
        obtain ⟨r0, r1⟩ := box_put BX.out (.string ⟨#[]⟩) (.int .i64 0)
        have BF := Num.hide ((B3.out.setCell (p := ⟨w.heap.size, 0, none⟩) (Nat.le_refl _) (.string ⟨#[]⟩)).setCell (p := ⟨w.heap.size, 1, none⟩) (Nat.le_refl _) (.int .i64 0))
        have BD := Num.hide BF.out.drew
        exact bodyPost_ret (v := .tuple #[.agg #[.string ⟨#[]⟩, .int .i64 0], errV m b 2]) (by simp [results, Tryz.results133, go_sem, r0, r1, errV]) rfl ⟨rfl, BD.out⟩
      · have q1 : decide ((room : Int) < (k : Int)) = false := by simp at hg ⊢; omega
        have hk2 : (k : Int).toNat = k := by omega
        by_cases hsh : s.size < i + 2 + (k : Int).toNat + 2
        · have q2 : decide (((s.size - (i + 2) : Nat) : Int) < (k : Int) + 2) = true := by simp at hsh ⊢; omega
          rw [pc_short he hx hg hsh] at hV
          subst hV
          clear he hx
          generalize s.extract a s.size = t at HC hz
          obtain ⟨yy, hyy⟩ : ∃ q, s.extract (i + 2) s.size = q := ⟨_, rfl⟩
          rw [hyy] at hy
          have HYY := Num.hide hyy
          clear hyy
          obtain ⟨xx, hxx⟩ : ∃ q, s.extract a i = q := ⟨_, rfl⟩
          rw [hxx] at hxz hn1 hn2
          have HXX := Num.hide hxx
          clear hxx
          go_enter Tryz.func133, Tryz.ntmps133
          go_wp2_with fail
          have hb1 : Below w.heap.size w (w.alloc (.cells #[.string ⟨#[]⟩, .int .i64 0] 117)) := (Below.refl _ w).alloc (Nat.le_refl _) _
          have hx1 := World.alloc_heap_new w (.cells #[.string ⟨#[]⟩, .int .i64 0] 117)
          have hz1 : (w.alloc (.cells #[.string ⟨#[]⟩, .int .i64 0] 117)).heap.size = w.heap.size + 1 := by simp
          refine (HC.out _ (HM.out _ hb1)).mono ?_
          generalize w.alloc (.cells #[.string ⟨#[]⟩, .int .i64 0] 117) = w1 at hb1 hx1 hz1
          rintro e w2 ⟨x, y, rfl, hxs, hxy, hb2⟩
          obtain ⟨hx0, hy0⟩ := hxy i rfl
          obtain rfl := hx0.trans HXX.out
          obtain rfl := hy0.trans HYY.out
          clear hxy hx0 hy0 HXX HYY
          have hx2 := (hb2.block w.heap.size (by omega)).trans hx1
          have hz2 := hb2.size
          have B2 := Num.hide (hb1.trans (hb2.mono hb1.size))
          clear hb1 hb2 hx1
          go_wp2_with fail
          refine (HR.out _ _ hxs (HS.out _ B2.out)).mono ?_
          rintro e w3 ⟨rfl, hb3⟩
          have hx3 := (hb3.block w.heap.size (by omega)).trans hx2
          have B3 := Num.hide (B2.out.trans (hb3.mono B2.out.size))
          have BX := Num.hide (box_of hx3)
          obtain ⟨b0, b1, g0, g1⟩ := box_of hx3
          obtain ⟨em, eb, _, _, _⟩ := HE.out _ B3.out
          have km := (World.cell?_setCell_other w3 ⟨w.heap.size, 0, none⟩ ⟨0, 0, none⟩ (.string ⟨#[]⟩) (by simp <;> omega)).trans em
          have kb := (World.cell?_setCell_other w3 ⟨w.heap.size, 0, none⟩ ⟨1, 0, none⟩ (.string ⟨#[]⟩) (by simp <;> omega)).trans eb
          rw [hn1, hn2]
          clear hx2 hx3 hb3 HC HR HM HS HE
          go_wp2
          go_region
          go_wp2
          obtain ⟨r0, r1⟩ := box_put BX.out (.string ⟨#[]⟩) (.int .i64 0)
          have BF := Num.hide ((B3.out.setCell (p := ⟨w.heap.size, 0, none⟩) (Nat.le_refl _) (.string ⟨#[]⟩)).setCell (p := ⟨w.heap.size, 1, none⟩) (Nat.le_refl _) (.int .i64 0))
          have BD := Num.hide BF.out.drew
          exact bodyPost_ret (v := .tuple #[.agg #[.string ⟨#[]⟩, .int .i64 0], errV m b 1]) (by simp [results, Tryz.results133, go_sem, r0, r1, errV]) rfl ⟨rfl, BD.out⟩
        · have q2 : decide (((s.size - (i + 2) : Nat) : Int) < (k : Int) + 2) = false := by simp at hsh ⊢; omega
          have e3 : (s.extract (i + 2) s.size).extract k (s.size - (i + 2)) = s.extract (i + 2 + k) s.size := by
            rw [ByteArray.extract_extract]
            congr 1
            omega
          have e4 : (s.extract (i + 2) s.size).extract 0 k = s.extract (i + 2) (i + 2 + k) := by
            rw [ByteArray.extract_extract]
            congr 1
            omega
          have hpr := pre_two s (i + 2 + k) (by omega)
          have HPr := Num.hide (fun W => HP.out (s.extract (i + 2 + k) s.size) W)
          rw [hpr] at HPr
          clear hpr HP
          by_cases hb : byteAt s (i + 2 + (k : Int).toNat) = 13 ∧ byteAt s (i + 2 + (k : Int).toNat + 1) = 10
          · rw [pc_ok he hx hg hsh hb] at hV
            rw [hk2] at hb hV
            rw [decide_eq_true hb] at HPr
            subst hV
            clear he hx hb
            generalize s.extract a s.size = t at HC hz
            obtain ⟨yy, hyy⟩ : ∃ q, s.extract (i + 2) s.size = q := ⟨_, rfl⟩
            rw [hyy] at hy e3 e4
            have HYY := Num.hide hyy
            clear hyy
            obtain ⟨xx, hxx⟩ : ∃ q, s.extract a i = q := ⟨_, rfl⟩
            rw [hxx] at hxz hn1 hn2
            have HXX := Num.hide hxx
            clear hxx
            generalize s.extract (i + 2 + k) s.size = zz at e3 HPr
            generalize s.extract (i + 2) (i + 2 + k) = vv at e4
            go_enter Tryz.func133, Tryz.ntmps133
            go_wp2_with fail
            have hb1 : Below w.heap.size w (w.alloc (.cells #[.string ⟨#[]⟩, .int .i64 0] 117)) := (Below.refl _ w).alloc (Nat.le_refl _) _
            have hx1 := World.alloc_heap_new w (.cells #[.string ⟨#[]⟩, .int .i64 0] 117)
            have hz1 : (w.alloc (.cells #[.string ⟨#[]⟩, .int .i64 0] 117)).heap.size = w.heap.size + 1 := by simp
            refine (HC.out _ (HM.out _ hb1)).mono ?_
            generalize w.alloc (.cells #[.string ⟨#[]⟩, .int .i64 0] 117) = w1 at hb1 hx1 hz1
            rintro e w2 ⟨x, y, rfl, hxs, hxy, hb2⟩
            obtain ⟨hx0, hy0⟩ := hxy i rfl
            obtain rfl := hx0.trans HXX.out
            obtain rfl := hy0.trans HYY.out
            clear hxy hx0 hy0 HXX HYY
            have hx2 := (hb2.block w.heap.size (by omega)).trans hx1
            have hz2 := hb2.size
            have B2 := Num.hide (hb1.trans (hb2.mono hb1.size))
            clear hb1 hb2 hx1
            go_wp2_with fail
            refine (HR.out _ _ hxs (HS.out _ B2.out)).mono ?_
            rintro e w3 ⟨rfl, hb3⟩
            have hx3 := (hb3.block w.heap.size (by omega)).trans hx2
            have B3 := Num.hide (B2.out.trans (hb3.mono B2.out.size))
            have BX := Num.hide (box_of hx3)
            obtain ⟨b0, b1, g0, g1⟩ := box_of hx3
            obtain ⟨em, eb, _, _, _⟩ := HE.out _ B3.out
            have km := (World.cell?_setCell_other w3 ⟨w.heap.size, 0, none⟩ ⟨0, 0, none⟩ (.string ⟨#[]⟩) (by simp <;> omega)).trans em
            have kb := (World.cell?_setCell_other w3 ⟨w.heap.size, 0, none⟩ ⟨1, 0, none⟩ (.string ⟨#[]⟩) (by simp <;> omega)).trans eb
            rw [hn1, hn2]
            clear hx2 hx3 hb3 HC HR HM HS HE
            go_wp2_with fail
            refine (HPr.out _).mono ?_
            rintro e w4 ⟨rfl, rfl⟩
            go_wp2
            obtain ⟨r0, r1⟩ := box_put BX.out (.string vv) (.int .i64 (((i - a : Nat) : Int) + (k : Int) + 4))
            have BF := Num.hide ((B3.out.setCell (p := ⟨w.heap.size, 0, none⟩) (Nat.le_refl _) (.string vv)).setCell (p := ⟨w.heap.size, 1, none⟩) (Nat.le_refl _) (.int .i64 (((i - a : Nat) : Int) + (k : Int) + 4)))
            have BD := BF
            generalize (w4.setCell ⟨w.heap.size, 0, none⟩ (.string vv)).setCell ⟨w.heap.size, 1, none⟩ (.int .i64 (((i - a : Nat) : Int) + (k : Int) + 4)) = wf at r0 r1 BD ⊢
            exact bodyPost_ret (v := .tuple #[.agg #[.string vv, .int .i64 (((i - a : Nat) : Int) + (k : Int) + 4)], errV m b 0]) (by simp [results, Tryz.results133, go_sem, r0, r1, errV]) rfl ⟨by simp [pcV], BD.out⟩
          · rw [pc_noend he hx hg hsh hb] at hV
            rw [hk2] at hb
            rw [decide_eq_false hb] at HPr
            subst hV
            clear he hx hb
            generalize s.extract a s.size = t at HC hz
            obtain ⟨yy, hyy⟩ : ∃ q, s.extract (i + 2) s.size = q := ⟨_, rfl⟩
            rw [hyy] at hy e3 e4
            have HYY := Num.hide hyy
            clear hyy
            obtain ⟨xx, hxx⟩ : ∃ q, s.extract a i = q := ⟨_, rfl⟩
            rw [hxx] at hxz hn1 hn2
            have HXX := Num.hide hxx
            clear hxx
            generalize s.extract (i + 2 + k) s.size = zz at e3 HPr
            generalize s.extract (i + 2) (i + 2 + k) = vv at e4
            go_enter Tryz.func133, Tryz.ntmps133
            go_wp2_with fail
            have hb1 : Below w.heap.size w (w.alloc (.cells #[.string ⟨#[]⟩, .int .i64 0] 117)) := (Below.refl _ w).alloc (Nat.le_refl _) _
            have hx1 := World.alloc_heap_new w (.cells #[.string ⟨#[]⟩, .int .i64 0] 117)
            have hz1 : (w.alloc (.cells #[.string ⟨#[]⟩, .int .i64 0] 117)).heap.size = w.heap.size + 1 := by simp
            refine (HC.out _ (HM.out _ hb1)).mono ?_
            generalize w.alloc (.cells #[.string ⟨#[]⟩, .int .i64 0] 117) = w1 at hb1 hx1 hz1
            rintro e w2 ⟨x, y, rfl, hxs, hxy, hb2⟩
            obtain ⟨hx0, hy0⟩ := hxy i rfl
            obtain rfl := hx0.trans HXX.out
            obtain rfl := hy0.trans HYY.out
            clear hxy hx0 hy0 HXX HYY
            have hx2 := (hb2.block w.heap.size (by omega)).trans hx1
            have hz2 := hb2.size
            have B2 := Num.hide (hb1.trans (hb2.mono hb1.size))
            clear hb1 hb2 hx1
            go_wp2_with fail
            refine (HR.out _ _ hxs (HS.out _ B2.out)).mono ?_
            rintro e w3 ⟨rfl, hb3⟩
            have hx3 := (hb3.block w.heap.size (by omega)).trans hx2
            have B3 := Num.hide (B2.out.trans (hb3.mono B2.out.size))
            have BX := Num.hide (box_of hx3)
            obtain ⟨b0, b1, g0, g1⟩ := box_of hx3
            obtain ⟨em, eb, _, _, _⟩ := HE.out _ B3.out
            have km := (World.cell?_setCell_other w3 ⟨w.heap.size, 0, none⟩ ⟨0, 0, none⟩ (.string ⟨#[]⟩) (by simp <;> omega)).trans em
            have kb := (World.cell?_setCell_other w3 ⟨w.heap.size, 0, none⟩ ⟨1, 0, none⟩ (.string ⟨#[]⟩) (by simp <;> omega)).trans eb
            rw [hn1, hn2]
            clear hx2 hx3 hb3 HC HR HM HS HE
            go_wp2_with fail
            refine (HPr.out _).mono ?_
            rintro e w4 ⟨rfl, rfl⟩
            go_wp2
            go_region
            go_wp2
            obtain ⟨r0, r1⟩ := box_put BX.out (.string ⟨#[]⟩) (.int .i64 0)
            have BF := Num.hide ((B3.out.setCell (p := ⟨w.heap.size, 0, none⟩) (Nat.le_refl _) (.string ⟨#[]⟩)).setCell (p := ⟨w.heap.size, 1, none⟩) (Nat.le_refl _) (.int .i64 0))
            have BD := Num.hide BF.out.drew
            exact bodyPost_ret (v := .tuple #[.agg #[.string ⟨#[]⟩, .int .i64 0], errV m b 2]) (by simp [results, Tryz.results133, go_sem, r0, r1, errV]) rfl ⟨rfl, BD.out⟩
end Body
end Go.Proofs.YtkenmilglfnmbaaGreatDoor
