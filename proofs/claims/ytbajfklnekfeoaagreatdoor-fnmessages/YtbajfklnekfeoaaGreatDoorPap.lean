/-
  PieceImpl: pieceAhead of the program: one piece, read off a text from a place on; what was there stays.
  IsErr: errors.Is at this program, for errors that errors.New has made, and for none: Go's own text, walked.
  ReaderImpl: The program's reader of messages: its box, what it has ahead, what it passes; what is not right is thrown.
  WordsCut: A first line and a head's end, plain: what Cut finds at a blank, and Contains at an empty line.
  ShelfContains: Library contracts at this program: strings_Contains.
  HeadImpl: awaitHead and firstLine of the program's reader: a head is waited for; its first line is parted at two blanks.
-/
import Derived.Test.YtbajfklnekfeoaaGreatDoorPao
import Derived.Laws.Strings2
import Derived.RegionTactic
import Derived.BigRegion
import Derived.ChangeAlike
import Derived.RangeFuncBox
import Derived.Test.YtbajfklnekfeoaaGreatDoorProg
import Derived.WalkKit
import Derived.LaidEql
import Derived.Stop.Asserts
import Derived.RowKitTokens
import Derived.Test.YtbajfklnekfeoaaGreatDoorPac
import Derived.Recover
import Derived.BigQuiet
import Derived.Deep.QuietTactic
import Derived.Test.YtbajfklnekfeoaaGreatDoorPag
import Derived.Test.YtbajfklnekfeoaaGreatDoorPah
import Derived.Test.YtbajfklnekfeoaaGreatDoorPaf
import Derived.Lib.IndexMore
import Derived.Shelf.Strings.Builder1
import Derived.Shelf.Strings.Builder2
import Derived.Shelf.Strings.OnBuilder
import Derived.Shelf.Strings.Trim
import Derived.Shelf.Small.Utf8
import Derived.Shelf.Small.Strs
import Derived.Shelf.Strings.BuilderF
import Derived.Shelf.Strings.BuilderK
import Derived.Shelf.Strconv.Atoi
import Derived.Shelf.Strconv.Itoa0
import Derived.Shelf.Strconv.Itoa1
import Derived.Shelf.LaysM
import Derived.Shelf.Strconv.Itoa2
import Derived.Shelf.Strconv.Itoa3
import Derived.Shelf.Strconv.AtoiErrFast
import Derived.Shelf.Strconv.ParseIntEmpty
import Derived.Shelf.Strconv.AtoiFail
import Derived.Shelf.Strconv.Clone
import Derived.Shelf.Strconv.SyntaxError
import Derived.Shelf.LaysC
import Derived.Shelf.Strconv.ToError
import Derived.Shelf.Strconv.AtoiErr
import Derived.Shelf.Strconv.ErrVar
import Derived.Shelf.Strings.Search1
import Derived.Shelf.Strings.Search2
import Derived.Shelf.Strings.Search3
import Derived.Shelf.Strings.Cut
import Derived.Shelf.Strings.Shaped
import Derived.Shelf.Strings.Prefix
import Derived.Shelf.Unicode.Decode
import Derived.Shelf.Strings.Runes
import Derived.Shelf.Strings.AsciiSet
import Derived.Shelf.Unicode.DecodeSlow
import Derived.Shelf.Unicode.DecodeAny
import Derived.Shelf.Unicode.DecodeLast
import Derived.Test.YtbajfklnekfeoaaGreatDoorRows
namespace Go.Proofs.YtbajfklnekfeoaaGreatDoor
open Go.RowKit
set_option linter.unusedVariables false
namespace Body
open Line (byteAt byteAt_eq)

/-- the library's variable holds some number -/
def Lim (w : World) : Prop := ∃ m, w.cell? ⟨8, 0, none⟩ = some (.int .i64 m)
theorem lim_lt {w : World} (h : Lim w) : 8 < w.heap.size := by obtain ⟨m, hm⟩ := h; exact Recs.lt_of_cell hm
theorem lim_of {w : World} (h : w.ShapedOpen Tryz.prog) : Lim w := Shelf.laysM145.s1_3 w h
theorem Lim.below {w w' : World} (h : Lim w) (hb : Below w.heap.size w w') : Lim w' := by
  have hl := lim_lt h
  obtain ⟨m, hm⟩ := h
  exact ⟨m, (hb.cell (p := ⟨8, 0, none⟩) hl).trans hm⟩
/-- the program's two errors lie at these places, which differ -/
structure Errs (m b : Addr) (w : World) : Prop where
  cm : w.cell? ⟨0, 0, none⟩ = some (.iface 199 (.pointer (some m)))
  cb : w.cell? ⟨1, 0, none⟩ = some (.iface 199 (.pointer (some b)))
  ne : m ≠ b
  rm : ∃ c t, w.heap[m.block]? = some (.cells c t (0, 0))
  rb : ∃ c t, w.heap[b.block]? = some (.cells c t (0, 0))
theorem Errs.below {m b : Addr} {w w' : World} (h : Errs m b w) (hb : Below w.heap.size w w') : Errs m b w' := by
  obtain ⟨c1, t1, h1⟩ := h.rm
  obtain ⟨c2, t2, h2⟩ := h.rb
  exact ⟨(hb.cell (p := ⟨0, 0, none⟩) (Recs.lt_of_cell h.cm)).trans h.cm, (hb.cell (p := ⟨1, 0, none⟩) (Recs.lt_of_cell h.cb)).trans h.cb, h.ne,
    ⟨c1, t1, (hb.block _ (Array.getElem?_eq_some_iff.1 h1).1).trans h1⟩, ⟨c2, t2, (hb.block _ (Array.getElem?_eq_some_iff.1 h2).1).trans h2⟩⟩
/-- the error of a code -/
def errV (m b : Addr) : Nat → Value
  | 0 => .nilIface
  | 1 => .iface 199 (.pointer (some m))
  | _ => .iface 199 (.pointer (some b))
/-- a piece as the program has it -/
def pcV (x : Pc0) : Value := .agg #[.string x.1, .int .i64 (x.2.1 : Int)]
theorem cut_at (s : ByteArray) (a : Nat) (w : World) (hs : s.size ≤ 1048576) (hm : Lim w) :
    Calls Tryz.prog 158 #[.string (s.extract a s.size), .string ⟨#[13, 10]⟩] w fun e w' => ∃ x y, e = .returned (.tuple #[.string x, .string y, .bool (Line.eol s a).isSome]) ∧ x.size ≤ 1048576 ∧ (∀ i, Line.eol s a = some i → x = s.extract a i ∧ y = s.extract (i + 2) s.size) ∧ Below w.heap.size w w' := by
  obtain ⟨m, hm⟩ := hm
  refine (Shelf.strings_Cut (s.extract a s.size) ⟨#[13, 10]⟩ m w (by rw [ByteArray.size_extract]; omega) hm).mono ?_
  rintro e w' ⟨rfl, n, rfl⟩
  have hb : Below w.heap.size w (w.drewN n) := ⟨rfl, rfl, rfl, Nat.le_refl _, fun _ _ => rfl⟩
  cases he : Line.eol s a with
  | none =>
    obtain ⟨e1, e2, e3⟩ := Line.cut_none he
    exact ⟨_, _, by rw [e1, e2, e3]; rfl, by rw [ByteArray.size_extract]; omega, (fun i h => by cases h), hb⟩
  | some i =>
    obtain ⟨e1, e3⟩ := Line.cut_some he
    exact ⟨_, _, by rw [e1, e3]; rfl, by rw [ByteArray.size_extract]; omega, (fun j h => by cases h; exact ⟨rfl, cut_rest he⟩), hb⟩
/-- a box of a piece that holds nothing yet -/
structure Box0 (b : Nat) (w : World) : Prop where
  c0 : w.cell? ⟨b, 0, none⟩ = some (.string ⟨#[]⟩)
  c1 : w.cell? ⟨b, 1, none⟩ = some (.int .i64 0)
  f0 : w.frozen? ⟨b, 0, none⟩ = false
  f1 : w.frozen? ⟨b, 1, none⟩ = false
theorem box_of {b : Nat} {w : World} (h : w.heap[b]? = some (.cells #[.string ⟨#[]⟩, .int .i64 0] 117 (0, 0))) : Box0 b w :=
  ⟨by simp [World.cell?, h], by simp [World.cell?, h], by simp [World.frozen?, h], by simp [World.frozen?, h]⟩
theorem box_put {b : Nat} {w : World} (h : Box0 b w) (u v : Value) : ((w.setCell ⟨b, 0, none⟩ u).setCell ⟨b, 1, none⟩ v).cell? ⟨b, 0, none⟩ = some u ∧ ((w.setCell ⟨b, 0, none⟩ u).setCell ⟨b, 1, none⟩ v).cell? ⟨b, 1, none⟩ = some v := by
  refine ⟨?_, ?_⟩
  · rw [World.cell?_setCell_other _ _ _ _ (by simp)]
    exact World.cell?_setCell_same' _ _ _ (by rw [h.c0]; rfl)
  · exact World.cell?_setCell_same' _ _ _ (by rw [World.cell?_setCell_other _ _ _ _ (by simp), h.c1]; rfl)
set_option maxRecDepth 100000 in
set_option maxHeartbeats 4000000 in
theorem piece_impl (s : ByteArray) (a room : Nat) (m b : Addr) (w : World) (hs : s.size ≤ 1048576) (ha : a ≤ s.size) (hr : room ≤ 60) (hm : Lim w) (hS : Syn w) (hE : Errs m b w) :
    Calls Tryz.prog 133 #[.string (s.extract a s.size), .int .i64 (room : Int)] w fun e w' => e = .returned (.tuple #[pcV (pieceAt s a room), errV m b (pieceAt s a room).2.2]) ∧ Below w.heap.size w w' := by
  have HM := Num.hide (fun W h => Lim.below (w' := W) hm h)
  have HS := Num.hide (fun W h => Syn.below (w' := W) hS h)
  have HE := Num.hide (fun W h => Errs.below (w' := W) hE h)
  have hz : (s.extract a s.size).size = s.size - a := by rw [ByteArray.size_extract]; omega
  have HC := Num.hide (fun W h => cut_at s a W hs h)
  have HR := Num.hide (fun x W hx h => readHex_impl x W hx h)
  have HP := Num.hide (fun t W => Shelf.strings_HasPrefix t ⟨#[13, 10]⟩ W)
  have hgm := Recs.lt_of_cell hE.cm
  have hgb := Recs.lt_of_cell hE.cb
  clear hm hS hE
  obtain ⟨V, hV⟩ : ∃ V, pieceAt s a room = V := ⟨_, rfl⟩
  rw [hV]
  cases he : Line.eol s a with
  | none =>
    rw [he] at HC
    by_cases hl : 8 < s.size - a
    · have hd : decide (((s.size - a : Nat) : Int) ≤ 8) = false := by simp; omega
      rw [pc_long he hl] at hV
      subst hV
      clear he
      generalize s.extract a s.size = t at HC hz
      go_enter Tryz.func133, Tryz.ntmps133
      go_wp2_with fail
      have hb1 : Below w.heap.size w (w.alloc (.cells #[.string ⟨#[]⟩, .int .i64 0] 117)) := (Below.refl _ w).alloc (Nat.le_refl _) _
      have hx1 := World.alloc_heap_new w (.cells #[.string ⟨#[]⟩, .int .i64 0] 117)
      have hz1 : (w.alloc (.cells #[.string ⟨#[]⟩, .int .i64 0] 117)).heap.size = w.heap.size + 1 := by simp
      refine (HC.out _ (HM.out _ hb1)).mono ?_
      generalize w.alloc (.cells #[.string ⟨#[]⟩, .int .i64 0] 117) = w1 at hb1 hx1 hz1
      rintro e w2 ⟨x, y, rfl, hxs, hxy, hb2⟩
      have hx2 := (hb2.block w.heap.size (by omega)).trans hx1
      have hz2 := hb2.size
      have B2 := Num.hide (hb1.trans (hb2.mono hb1.size))
      clear hb1 hb2 hx1
      go_wp2_with fail
      refine (HR.out _ _ hxs (HS.out _ B2.out)).mono ?_
      rintro e w3 ⟨rfl, hb3⟩
      have hx3 := (hb3.block w.heap.size (by omega)).trans hx2
      have B3 := Num.hide (B2.out.trans (hb3.mono B2.out.size))
      have BX := Num.hide (box_of hx3)
      obtain ⟨b0, b1, g0, g1⟩ := box_of hx3
      obtain ⟨em, eb, _, _, _⟩ := HE.out _ B3.out
      have km := (World.cell?_setCell_other w3 ⟨w.heap.size, 0, none⟩ ⟨0, 0, none⟩ (.string ⟨#[]⟩) (by simp <;> omega)).trans em
      have kb := (World.cell?_setCell_other w3 ⟨w.heap.size, 0, none⟩ ⟨1, 0, none⟩ (.string ⟨#[]⟩) (by simp <;> omega)).trans eb
      generalize rhN x = rn
      generalize rhB x = rb
      clear hxy
      clear hx2 hx3 hb3 HC HR HM HS HE
      go_wp2
      go_region
      go_wp2
      obtain ⟨r0, r1⟩ := box_put BX.out (.string ⟨#[]⟩) (.int .i64 0)
      have BF := Num.hide ((B3.out.setCell (p := ⟨w.heap.size, 0, none⟩) (Nat.le_refl _) (.string ⟨#[]⟩)).setCell (p := ⟨w.heap.size, 1, none⟩) (Nat.le_refl _) (.int .i64 0))
      have BD := Num.hide BF.out.drew
      exact bodyPost_ret (v := .tuple #[.agg #[.string ⟨#[]⟩, .int .i64 0], errV m b 2]) (by simp [results, Tryz.results133, go_sem, r0, r1, errV]) rfl ⟨rfl, BD.out⟩
    · have hd : decide (((s.size - a : Nat) : Int) ≤ 8) = true := by simp; omega
      rw [pc_more he hl] at hV
      subst hV
      clear he
      generalize s.extract a s.size = t at HC hz
      go_enter Tryz.func133, Tryz.ntmps133
      go_wp2_with fail
      have hb1 : Below w.heap.size w (w.alloc (.cells #[.string ⟨#[]⟩, .int .i64 0] 117)) := (Below.refl _ w).alloc (Nat.le_refl _) _
      have hx1 := World.alloc_heap_new w (.cells #[.string ⟨#[]⟩, .int .i64 0] 117)
      have hz1 : (w.alloc (.cells #[.string ⟨#[]⟩, .int .i64 0] 117)).heap.size = w.heap.size + 1 := by simp
      refine (HC.out _ (HM.out _ hb1)).mono ?_
      generalize w.alloc (.cells #[.string ⟨#[]⟩, .int .i64 0] 117) = w1 at hb1 hx1 hz1
      rintro e w2 ⟨x, y, rfl, hxs, hxy, hb2⟩
      have hx2 := (hb2.block w.heap.size (by omega)).trans hx1
      have hz2 := hb2.size
      have B2 := Num.hide (hb1.trans (hb2.mono hb1.size))
      clear hb1 hb2 hx1
      go_wp2_with fail
      refine (HR.out _ _ hxs (HS.out _ B2.out)).mono ?_
      rintro e w3 ⟨rfl, hb3⟩
      have hx3 := (hb3.block w.heap.size (by omega)).trans hx2
      have B3 := Num.hide (B2.out.trans (hb3.mono B2.out.size))
      have BX := Num.hide (box_of hx3)
      obtain ⟨b0, b1, g0, g1⟩ := box_of hx3
      obtain ⟨em, eb, _, _, _⟩ := HE.out _ B3.out
      have km := (World.cell?_setCell_other w3 ⟨w.heap.size, 0, none⟩ ⟨0, 0, none⟩ (.string ⟨#[]⟩) (by simp <;> omega)).trans em
      have kb := (World.cell?_setCell_other w3 ⟨w.heap.size, 0, none⟩ ⟨1, 0, none⟩ (.string ⟨#[]⟩) (by simp <;> omega)).trans eb
      generalize rhN x = rn
      generalize rhB x = rb
      clear hxy
      clear hx2 hx3 hb3 HC HR HM HS HE
      go_wp2
      go_region
      go_wp2
      obtain ⟨r0, r1⟩ := box_put BX.out (.string ⟨#[]⟩) (.int .i64 0)
      have BF := Num.hide ((B3.out.setCell (p := ⟨w.heap.size, 0, none⟩) (Nat.le_refl _) (.string ⟨#[]⟩)).setCell (p := ⟨w.heap.size, 1, none⟩) (Nat.le_refl _) (.int .i64 0))
      have BD := Num.hide BF.out.drew
      exact bodyPost_ret (v := .tuple #[.agg #[.string ⟨#[]⟩, .int .i64 0], errV m b 1]) (by simp [results, Tryz.results133, go_sem, r0, r1, errV]) rfl ⟨rfl, BD.out⟩
  | some i =>
    have hin := Line.eol_in he
    have hy : (s.extract (i + 2) s.size).size = s.size - (i + 2) := by rw [ByteArray.size_extract]; omega
    have hxz : (s.extract a i).size = i - a := by rw [ByteArray.size_extract]; omega
    rw [he] at HC
    cases hx : readHex (s.extract a i) with
    | none =>
      obtain ⟨hn1, hn2⟩ := rh_none hx
      rw [pc_nohex he hx] at hV
      subst hV
      clear he hx
      generalize s.extract a s.size = t at HC hz
      obtain ⟨yy, hyy⟩ : ∃ q, s.extract (i + 2) s.size = q := ⟨_, rfl⟩
      rw [hyy] at hy
      have HYY := Num.hide hyy
      clear hyy
      obtain ⟨xx, hxx⟩ : ∃ q, s.extract a i = q := ⟨_, rfl⟩
      rw [hxx] at hxz hn1 hn2
      have HXX := Num.hide hxx
      clear hxx
      go_enter Tryz.func133, Tryz.ntmps133
      go_wp2_with fail
      have hb1 : Below w.heap.size w (w.alloc (.cells #[.string ⟨#[]⟩, .int .i64 0] 117)) := (Below.refl _ w).alloc (Nat.le_refl _) _
      have hx1 := World.alloc_heap_new w (.cells #[.string ⟨#[]⟩, .int .i64 0] 117)
      have hz1 : (w.alloc (.cells #[.string ⟨#[]⟩, .int .i64 0] 117)).heap.size = w.heap.size + 1 := by simp
      refine (HC.out _ (HM.out _ hb1)).mono ?_
      generalize w.alloc (.cells #[.string ⟨#[]⟩, .int .i64 0] 117) = w1 at hb1 hx1 hz1
      rintro e w2 ⟨x, y, rfl, hxs, hxy, hb2⟩
      obtain ⟨hx0, hy0⟩ := hxy i rfl
      obtain rfl := hx0.trans HXX.out
      obtain rfl := hy0.trans HYY.out
      clear hxy hx0 hy0 HXX HYY
      have hx2 := (hb2.block w.heap.size (by omega)).trans hx1
      have hz2 := hb2.size
      have B2 := Num.hide (hb1.trans (hb2.mono hb1.size))
      clear hb1 hb2 hx1
      go_wp2_with fail
      refine (HR.out _ _ hxs (HS.out _ B2.out)).mono ?_
      rintro e w3 ⟨rfl, hb3⟩
      have hx3 := (hb3.block w.heap.size (by omega)).trans hx2
      have B3 := Num.hide (B2.out.trans (hb3.mono B2.out.size))
      have BX := Num.hide (box_of hx3)
      obtain ⟨b0, b1, g0, g1⟩ := box_of hx3
      obtain ⟨em, eb, _, _, _⟩ := HE.out _ B3.out
      have km := (World.cell?_setCell_other w3 ⟨w.heap.size, 0, none⟩ ⟨0, 0, none⟩ (.string ⟨#[]⟩) (by simp <;> omega)).trans em
      have kb := (World.cell?_setCell_other w3 ⟨w.heap.size, 0, none⟩ ⟨1, 0, none⟩ (.string ⟨#[]⟩) (by simp <;> omega)).trans eb
      rw [hn1, hn2]
      clear hx2 hx3 hb3 HC HR HM HS HE
      go_wp2
      go_region
      go_wp2
      obtain ⟨r0, r1⟩ := box_put BX.out (.string ⟨#[]⟩) (.int .i64 0)
      have BF := Num.hide ((B3.out.setCell (p := ⟨w.heap.size, 0, none⟩) (Nat.le_refl _) (.string ⟨#[]⟩)).setCell (p := ⟨w.heap.size, 1, none⟩) (Nat.le_refl _) (.int .i64 0))
      have BD := Num.hide BF.out.drew
      exact bodyPost_ret (v := .tuple #[.agg #[.string ⟨#[]⟩, .int .i64 0], errV m b 2]) (by simp [results, Tryz.results133, go_sem, r0, r1, errV]) rfl ⟨rfl, BD.out⟩
    | some n =>
      have hn := readHex_bd hx
      obtain ⟨hn1, hn2⟩ := rh_some hx
      obtain ⟨k, rfl⟩ : ∃ k : Nat, n = (k : Int) := ⟨n.toNat, by omega⟩
      by_cases hg : room < (k : Int).toNat
      · have q1 : decide ((room : Int) < (k : Int)) = true := by simp at hg ⊢; omega
        rw [pc_great he hx hg] at hV
        subst hV
        clear he hx
        generalize s.extract a s.size = t at HC hz
        obtain ⟨yy, hyy⟩ : ∃ q, s.extract (i + 2) s.size = q := ⟨_, rfl⟩
        rw [hyy] at hy
        have HYY := Num.hide hyy
        clear hyy
        obtain ⟨xx, hxx⟩ : ∃ q, s.extract a i = q := ⟨_, rfl⟩
        rw [hxx] at hxz hn1 hn2
        have HXX := Num.hide hxx
        clear hxx
        go_enter Tryz.func133, Tryz.ntmps133
        go_wp2_with fail
        have hb1 : Below w.heap.size w (w.alloc (.cells #[.string ⟨#[]⟩, .int .i64 0] 117)) := (Below.refl _ w).alloc (Nat.le_refl _) _
        have hx1 := World.alloc_heap_new w (.cells #[.string ⟨#[]⟩, .int .i64 0] 117)
        have hz1 : (w.alloc (.cells #[.string ⟨#[]⟩, .int .i64 0] 117)).heap.size = w.heap.size + 1 := by simp
        refine (HC.out _ (HM.out _ hb1)).mono ?_
        generalize w.alloc (.cells #[.string ⟨#[]⟩, .int .i64 0] 117) = w1 at hb1 hx1 hz1
        rintro e w2 ⟨x, y, rfl, hxs, hxy, hb2⟩
        obtain ⟨hx0, hy0⟩ := hxy i rfl
        obtain rfl := hx0.trans HXX.out
        obtain rfl := hy0.trans HYY.out
        clear hxy hx0 hy0 HXX HYY
        have hx2 := (hb2.block w.heap.size (by omega)).trans hx1
        have hz2 := hb2.size
        have B2 := Num.hide (hb1.trans (hb2.mono hb1.size))
        clear hb1 hb2 hx1
        go_wp2_with fail
        refine (HR.out _ _ hxs (HS.out _ B2.out)).mono ?_
        rintro e w3 ⟨rfl, hb3⟩
        have hx3 := (hb3.block w.heap.size (by omega)).trans hx2
        have B3 := Num.hide (B2.out.trans (hb3.mono B2.out.size))
        have BX := Num.hide (box_of hx3)
        obtain ⟨b0, b1, g0, g1⟩ := box_of hx3
        obtain ⟨em, eb, _, _, _⟩ := HE.out _ B3.out
        have km := (World.cell?_setCell_other w3 ⟨w.heap.size, 0, none⟩ ⟨0, 0, none⟩ (.string ⟨#[]⟩) (by simp <;> omega)).trans em
        have kb := (World.cell?_setCell_other w3 ⟨w.heap.size, 0, none⟩ ⟨1, 0, none⟩ (.string ⟨#[]⟩) (by simp <;> omega)).trans eb
        rw [hn1, hn2]
        clear hx2 hx3 hb3 HC HR HM HS HE
        go_wp2
        go_region
        go_wp2
        obtain ⟨r0, r1⟩ := box_put BX.out (.string ⟨#[]⟩) (.int .i64 0)
        have BF := Num.hide ((B3.out.setCell (p := ⟨w.heap.size, 0, none⟩) (Nat.le_refl _) (.string ⟨#[]⟩)).setCell (p := ⟨w.heap.size, 1, none⟩) (Nat.le_refl _) (.int .i64 0))
        have BD := Num.hide BF.out.drew
        exact bodyPost_ret (v := .tuple #[.agg #[.string ⟨#[]⟩, .int .i64 0], errV m b 2]) (by simp [results, Tryz.results133, go_sem, r0, r1, errV]) rfl ⟨rfl, BD.out⟩
      · have q1 : decide ((room : Int) < (k : Int)) = false := by simp at hg ⊢; omega
        have hk2 : (k : Int).toNat = k := by omega
        by_cases hsh : s.size < i + 2 + (k : Int).toNat + 2
        · have q2 : decide (((s.size - (i + 2) : Nat) : Int) < (k : Int) + 2) = true := by simp at hsh ⊢; omega
          rw [pc_short he hx hg hsh] at hV
          subst hV
          clear he hx
          generalize s.extract a s.size = t at HC hz
          obtain ⟨yy, hyy⟩ : ∃ q, s.extract (i + 2) s.size = q := ⟨_, rfl⟩
          rw [hyy] at hy
          have HYY := Num.hide hyy
          clear hyy
          obtain ⟨xx, hxx⟩ : ∃ q, s.extract a i = q := ⟨_, rfl⟩
          rw [hxx] at hxz hn1 hn2
          have HXX := Num.hide hxx
          clear hxx
          go_enter Tryz.func133, Tryz.ntmps133
          go_wp2_with fail
          have hb1 : Below w.heap.size w (w.alloc (.cells #[.string ⟨#[]⟩, .int .i64 0] 117)) := (Below.refl _ w).alloc (Nat.le_refl _) _
          have hx1 := World.alloc_heap_new w (.cells #[.string ⟨#[]⟩, .int .i64 0] 117)
          have hz1 : (w.alloc (.cells #[.string ⟨#[]⟩, .int .i64 0] 117)).heap.size = w.heap.size + 1 := by simp
          refine (HC.out _ (HM.out _ hb1)).mono ?_
          generalize w.alloc (.cells #[.string ⟨#[]⟩, .int .i64 0] 117) = w1 at hb1 hx1 hz1
          rintro e w2 ⟨x, y, rfl, hxs, hxy, hb2⟩
          obtain ⟨hx0, hy0⟩ := hxy i rfl
          obtain rfl := hx0.trans HXX.out
          obtain rfl := hy0.trans HYY.out
          clear hxy hx0 hy0 HXX HYY
          have hx2 := (hb2.block w.heap.size (by omega)).trans hx1
          have hz2 := hb2.size
          have B2 := Num.hide (hb1.trans (hb2.mono hb1.size))
          clear hb1 hb2 hx1
          go_wp2_with fail
          refine (HR.out _ _ hxs (HS.out _ B2.out)).mono ?_
          rintro e w3 ⟨rfl, hb3⟩
          have hx3 := (hb3.block w.heap.size (by omega)).trans hx2
          have B3 := Num.hide (B2.out.trans (hb3.mono B2.out.size))
          have BX := Num.hide (box_of hx3)
          obtain ⟨b0, b1, g0, g1⟩ := box_of hx3
          obtain ⟨em, eb, _, _, _⟩ := HE.out _ B3.out
          have km := (World.cell?_setCell_other w3 ⟨w.heap.size, 0, none⟩ ⟨0, 0, none⟩ (.string ⟨#[]⟩) (by simp <;> omega)).trans em
          have kb := (World.cell?_setCell_other w3 ⟨w.heap.size, 0, none⟩ ⟨1, 0, none⟩ (.string ⟨#[]⟩) (by simp <;> omega)).trans eb
          rw [hn1, hn2]
          clear hx2 hx3 hb3 HC HR HM HS HE
          go_wp2
          go_region
          go_wp2
          obtain ⟨r0, r1⟩ := box_put BX.out (.string ⟨#[]⟩) (.int .i64 0)
          have BF := Num.hide ((B3.out.setCell (p := ⟨w.heap.size, 0, none⟩) (Nat.le_refl _) (.string ⟨#[]⟩)).setCell (p := ⟨w.heap.size, 1, none⟩) (Nat.le_refl _) (.int .i64 0))
          have BD := Num.hide BF.out.drew
          exact bodyPost_ret (v := .tuple #[.agg #[.string ⟨#[]⟩, .int .i64 0], errV m b 1]) (by simp [results, Tryz.results133, go_sem, r0, r1, errV]) rfl ⟨rfl, BD.out⟩
        · have q2 : decide (((s.size - (i + 2) : Nat) : Int) < (k : Int) + 2) = false := by simp at hsh ⊢; omega
          have e3 : (s.extract (i + 2) s.size).extract k (s.size - (i + 2)) = s.extract (i + 2 + k) s.size := by
            rw [ByteArray.extract_extract]
            congr 1
            omega
          have e4 : (s.extract (i + 2) s.size).extract 0 k = s.extract (i + 2) (i + 2 + k) := by
            rw [ByteArray.extract_extract]
            congr 1
            omega
          have hpr := pre_two s (i + 2 + k) (by omega)
          have HPr := Num.hide (fun W => HP.out (s.extract (i + 2 + k) s.size) W)
          rw [hpr] at HPr
          clear hpr HP
          by_cases hb : byteAt s (i + 2 + (k : Int).toNat) = 13 ∧ byteAt s (i + 2 + (k : Int).toNat + 1) = 10
          · rw [pc_ok he hx hg hsh hb] at hV
            rw [hk2] at hb hV
            rw [decide_eq_true hb] at HPr
            subst hV
            clear he hx hb
            generalize s.extract a s.size = t at HC hz
            obtain ⟨yy, hyy⟩ : ∃ q, s.extract (i + 2) s.size = q := ⟨_, rfl⟩
            rw [hyy] at hy e3 e4
            have HYY := Num.hide hyy
            clear hyy
            obtain ⟨xx, hxx⟩ : ∃ q, s.extract a i = q := ⟨_, rfl⟩
            rw [hxx] at hxz hn1 hn2
            have HXX := Num.hide hxx
            clear hxx
            generalize s.extract (i + 2 + k) s.size = zz at e3 HPr
            generalize s.extract (i + 2) (i + 2 + k) = vv at e4
            go_enter Tryz.func133, Tryz.ntmps133
            go_wp2_with fail
            have hb1 : Below w.heap.size w (w.alloc (.cells #[.string ⟨#[]⟩, .int .i64 0] 117)) := (Below.refl _ w).alloc (Nat.le_refl _) _
            have hx1 := World.alloc_heap_new w (.cells #[.string ⟨#[]⟩, .int .i64 0] 117)
            have hz1 : (w.alloc (.cells #[.string ⟨#[]⟩, .int .i64 0] 117)).heap.size = w.heap.size + 1 := by simp
            refine (HC.out _ (HM.out _ hb1)).mono ?_
            generalize w.alloc (.cells #[.string ⟨#[]⟩, .int .i64 0] 117) = w1 at hb1 hx1 hz1
            rintro e w2 ⟨x, y, rfl, hxs, hxy, hb2⟩
            obtain ⟨hx0, hy0⟩ := hxy i rfl
            obtain rfl := hx0.trans HXX.out
            obtain rfl := hy0.trans HYY.out
            clear hxy hx0 hy0 HXX HYY
            have hx2 := (hb2.block w.heap.size (by omega)).trans hx1
            have hz2 := hb2.size
            have B2 := Num.hide (hb1.trans (hb2.mono hb1.size))
            clear hb1 hb2 hx1
            go_wp2_with fail
            refine (HR.out _ _ hxs (HS.out _ B2.out)).mono ?_
            rintro e w3 ⟨rfl, hb3⟩
            have hx3 := (hb3.block w.heap.size (by omega)).trans hx2
            have B3 := Num.hide (B2.out.trans (hb3.mono B2.out.size))
            have BX := Num.hide (box_of hx3)
            obtain ⟨b0, b1, g0, g1⟩ := box_of hx3
            obtain ⟨em, eb, _, _, _⟩ := HE.out _ B3.out
            have km := (World.cell?_setCell_other w3 ⟨w.heap.size, 0, none⟩ ⟨0, 0, none⟩ (.string ⟨#[]⟩) (by simp <;> omega)).trans em
            have kb := (World.cell?_setCell_other w3 ⟨w.heap.size, 0, none⟩ ⟨1, 0, none⟩ (.string ⟨#[]⟩) (by simp <;> omega)).trans eb
            rw [hn1, hn2]
            clear hx2 hx3 hb3 HC HR HM HS HE
            go_wp2_with fail
            refine (HPr.out _).mono ?_
            rintro e w4 ⟨rfl, rfl⟩
            go_wp2
            obtain ⟨r0, r1⟩ := box_put BX.out (.string vv) (.int .i64 (((i - a : Nat) : Int) + (k : Int) + 4))
            have BF := Num.hide ((B3.out.setCell (p := ⟨w.heap.size, 0, none⟩) (Nat.le_refl _) (.string vv)).setCell (p := ⟨w.heap.size, 1, none⟩) (Nat.le_refl _) (.int .i64 (((i - a : Nat) : Int) + (k : Int) + 4)))
            have BD := BF
            generalize (w4.setCell ⟨w.heap.size, 0, none⟩ (.string vv)).setCell ⟨w.heap.size, 1, none⟩ (.int .i64 (((i - a : Nat) : Int) + (k : Int) + 4)) = wf at r0 r1 BD ⊢
            exact bodyPost_ret (v := .tuple #[.agg #[.string vv, .int .i64 (((i - a : Nat) : Int) + (k : Int) + 4)], errV m b 0]) (by simp [results, Tryz.results133, go_sem, r0, r1, errV]) rfl ⟨by simp [pcV], BD.out⟩
          · rw [pc_noend he hx hg hsh hb] at hV
            rw [hk2] at hb
            rw [decide_eq_false hb] at HPr
            subst hV
            clear he hx hb
            generalize s.extract a s.size = t at HC hz
            obtain ⟨yy, hyy⟩ : ∃ q, s.extract (i + 2) s.size = q := ⟨_, rfl⟩
            rw [hyy] at hy e3 e4
            have HYY := Num.hide hyy
            clear hyy
            obtain ⟨xx, hxx⟩ : ∃ q, s.extract a i = q := ⟨_, rfl⟩
            rw [hxx] at hxz hn1 hn2
            have HXX := Num.hide hxx
            clear hxx
            generalize s.extract (i + 2 + k) s.size = zz at e3 HPr
            generalize s.extract (i + 2) (i + 2 + k) = vv at e4
            go_enter Tryz.func133, Tryz.ntmps133
            go_wp2_with fail
            have hb1 : Below w.heap.size w (w.alloc (.cells #[.string ⟨#[]⟩, .int .i64 0] 117)) := (Below.refl _ w).alloc (Nat.le_refl _) _
            have hx1 := World.alloc_heap_new w (.cells #[.string ⟨#[]⟩, .int .i64 0] 117)
            have hz1 : (w.alloc (.cells #[.string ⟨#[]⟩, .int .i64 0] 117)).heap.size = w.heap.size + 1 := by simp
            refine (HC.out _ (HM.out _ hb1)).mono ?_
            generalize w.alloc (.cells #[.string ⟨#[]⟩, .int .i64 0] 117) = w1 at hb1 hx1 hz1
            rintro e w2 ⟨x, y, rfl, hxs, hxy, hb2⟩
            obtain ⟨hx0, hy0⟩ := hxy i rfl
            obtain rfl := hx0.trans HXX.out
            obtain rfl := hy0.trans HYY.out
            clear hxy hx0 hy0 HXX HYY
            have hx2 := (hb2.block w.heap.size (by omega)).trans hx1
            have hz2 := hb2.size
            have B2 := Num.hide (hb1.trans (hb2.mono hb1.size))
            clear hb1 hb2 hx1
            go_wp2_with fail
            refine (HR.out _ _ hxs (HS.out _ B2.out)).mono ?_
            rintro e w3 ⟨rfl, hb3⟩
            have hx3 := (hb3.block w.heap.size (by omega)).trans hx2
            have B3 := Num.hide (B2.out.trans (hb3.mono B2.out.size))
            have BX := Num.hide (box_of hx3)
            obtain ⟨b0, b1, g0, g1⟩ := box_of hx3
            obtain ⟨em, eb, _, _, _⟩ := HE.out _ B3.out
            have km := (World.cell?_setCell_other w3 ⟨w.heap.size, 0, none⟩ ⟨0, 0, none⟩ (.string ⟨#[]⟩) (by simp <;> omega)).trans em
            have kb := (World.cell?_setCell_other w3 ⟨w.heap.size, 0, none⟩ ⟨1, 0, none⟩ (.string ⟨#[]⟩) (by simp <;> omega)).trans eb
            rw [hn1, hn2]
            clear hx2 hx3 hb3 HC HR HM HS HE
            go_wp2_with fail
            refine (HPr.out _).mono ?_
            rintro e w4 ⟨rfl, rfl⟩
            go_wp2
            go_region
            go_wp2
            obtain ⟨r0, r1⟩ := box_put BX.out (.string ⟨#[]⟩) (.int .i64 0)
            have BF := Num.hide ((B3.out.setCell (p := ⟨w.heap.size, 0, none⟩) (Nat.le_refl _) (.string ⟨#[]⟩)).setCell (p := ⟨w.heap.size, 1, none⟩) (Nat.le_refl _) (.int .i64 0))
            have BD := Num.hide BF.out.drew
            exact bodyPost_ret (v := .tuple #[.agg #[.string ⟨#[]⟩, .int .i64 0], errV m b 2]) (by simp [results, Tryz.results133, go_sem, r0, r1, errV]) rfl ⟨rfl, BD.out⟩
end Body
end Go.Proofs.YtbajfklnekfeoaaGreatDoor
namespace Go.Proofs.YtbajfklnekfeoaaGreatDoor
open Go.RowKit Go.Extern.Stop Go.Stop Go.Extern Go.Extern.ReflectliteType
set_option linter.unusedVariables false
namespace IsErr

theorem typeOf_ (v : Value) (w : World) : (Extern.ReflectliteType.typeOf #[.iface 199 v]).run Tryz.prog w = .ok (.iface 173 (.agg #[.pointer (some ⟨11, 199, none⟩)])) w := by kernel_rfl
/-- what the library's Comparable is in the model -/
def cmpF : TypeId → Sem Value := fun t => do Extern.Rtype.noPackHeld "Comparable" t; pure (.bool (← typeInfo t).comparable)
theorem comparable_ (w : World) : (Extern.ReflectliteType.method cmpF #[.agg #[.pointer (some ⟨11, 199, none⟩)]]).run Tryz.prog w = .ok (.bool true) w := by kernel_rfl
theorem method_ (v : Value) (w : World) : (Go.method 360 173 v "Comparable").run Tryz.prog w = .ok (247, v) w := by kernel_rfl
theorem comp_ : (Tryz.prog.info? 199).map (·.comparable) = some true := by kernel_rfl
theorem size_ : (Tryz.prog.info? 201).map (·.size) = some 1 := by kernel_rfl
theorem noIs (v : Value) (xT : TypeId) (w : World) : (Instr.typeAssert (.iface 199 v) xT 175 true).run Tryz.prog w = .ok (.tuple #[.nilIface, .bool false]) w := run_typeAssert_lacksB Tryz.underlying175 (by kernel_rfl) (by kernel_rfl) v xT w
theorem noUnwrap (v : Value) (xT : TypeId) (w : World) : (Instr.typeAssert (.iface 199 v) xT 178 true).run Tryz.prog w = .ok (.tuple #[.nilIface, .bool false]) w := run_typeAssert_lacksB Tryz.underlying178 (by kernel_rfl) (by kernel_rfl) v xT w
theorem noUnwraps (v : Value) (xT : TypeId) (w : World) : (Instr.typeAssert (.iface 199 v) xT 180 true).run Tryz.prog w = .ok (.tuple #[.nilIface, .bool false]) w := run_typeAssert_lacksB Tryz.underlying180 (by kernel_rfl) (by kernel_rfl) v xT w
set_option maxRecDepth 100000 in
set_option maxHeartbeats 2000000 in
/-- errors.Is(x, x) -/
theorem is_same (a : Addr) (w : World) :
    Calls Tryz.prog 85 #[.iface 199 (.pointer (some a)), .iface 199 (.pointer (some a))] w fun e w' => e = .returned (.bool true) ∧ w = w' := by
  obtain ⟨i, hi, hcmp⟩ := Option.map_eq_some_iff.1 comp_
  obtain ⟨j, hj, hjs⟩ := Option.map_eq_some_iff.1 size_
  have h8 := @run_callFunc_extern Tryz.prog 130 _ Extern.ReflectliteType.typeOf Tryz.func130 (by kernel_rfl) (by kernel_rfl) (by kernel_rfl) (by kernel_rfl)
  have h32 := @run_callFunc_extern Tryz.prog 247 _ (Extern.ReflectliteType.method cmpF) Tryz.func247 (by kernel_rfl) (by kernel_rfl) (by kernel_rfl) (by kernel_rfl)
  have tT := typeOf_
  have cT := comparable_
  have mR := method_
  have heq := run_eql_iface_ptr_same (P := Tryz.prog) w a Tryz.underlying71 Tryz.underlying199 hi hcmp hj
  go_enter Tryz.func85, Tryz.ntmps85
  go_wp2
  refine wp_loop_rounds 1 ?_
  rw [rounds_succ]
  go_wp2
  go_ret
  exact ⟨rfl, rfl⟩
/-- errors.Is(nil, x) -/
theorem is_nil (b : Addr) (w : World) :
    Calls Tryz.prog 85 #[.nilIface, .iface 199 (.pointer (some b))] w fun e w' => e = .returned (.bool false) ∧ w = w' := by
  have hn := run_eql_iface_nil_left (P := Tryz.prog) w 199 (.pointer (some b)) Tryz.underlying71
  go_enter Tryz.func85, Tryz.ntmps85
  go_wp2
  go_ret
  exact ⟨rfl, rfl⟩
set_option maxRecDepth 100000 in
set_option maxHeartbeats 2000000 in
/-- errors.Is(x, y), two pointers that differ -/
theorem is_other (a b : Addr) (ca cb : Array Value) (ta tb : TypeId) (w : World) (hne : a ≠ b) (ha : w.heap[a.block]? = some (.cells ca ta (0, 0))) (hb : w.heap[b.block]? = some (.cells cb tb (0, 0))) :
    Calls Tryz.prog 85 #[.iface 199 (.pointer (some a)), .iface 199 (.pointer (some b))] w fun e w' => e = .returned (.bool false) ∧ w = w' := by
  obtain ⟨i, hi, hcmp⟩ := Option.map_eq_some_iff.1 comp_
  obtain ⟨j, hj, hjs⟩ := Option.map_eq_some_iff.1 size_
  have h8 := @run_callFunc_extern Tryz.prog 130 _ Extern.ReflectliteType.typeOf Tryz.func130 (by kernel_rfl) (by kernel_rfl) (by kernel_rfl) (by kernel_rfl)
  have h32 := @run_callFunc_extern Tryz.prog 247 _ (Extern.ReflectliteType.method cmpF) Tryz.func247 (by kernel_rfl) (by kernel_rfl) (by kernel_rfl) (by kernel_rfl)
  have tT := typeOf_
  have cT := comparable_
  have mR := method_
  have nE := noIs
  have uE := noUnwrap
  have vE := noUnwraps
  have heq := run_eql_iface_ptr_other (P := Tryz.prog) w Tryz.underlying71 Tryz.underlying199 hi hcmp hj (by rw [hjs]; decide) hne ha hb
  go_enter Tryz.func85, Tryz.ntmps85
  go_wp2
  refine wp_loop_rounds 1 ?_
  rw [rounds_succ]
  go_wp2
  go_ret
  exact ⟨rfl, rfl⟩
end IsErr
end Go.Proofs.YtbajfklnekfeoaaGreatDoor
namespace Go.Proofs.YtbajfklnekfeoaaGreatDoor
open Go.RowKit
set_option linter.unusedVariables false
namespace Msg

/-- the box of a reader: its text, how far it has come, the fields that it has read -/
def Rd (g : Nat) (s : ByteArray) (n : Nat) (v : Value) (W : World) : Prop := W.heap[g]? = some (.cells #[.string s, .int .i64 (n : Int), v] 129 (0, 0))
theorem Rd.lt {g : Nat} {s : ByteArray} {n : Nat} {v : Value} {W : World} (h : Rd g s n v W) : g < W.heap.size := (Array.getElem?_eq_some_iff.1 h).1
theorem Rd.step {g : Nat} {s : ByteArray} {n : Nat} {v : Value} {W W' : World} (h : Rd g s n v W) (hb : Below W.heap.size W W') : Rd g s n v W' := (hb.block g h.lt).trans h
theorem Rd.cells {g : Nat} {s : ByteArray} {n : Nat} {v : Value} {W : World} (h : Rd g s n v W) : W.cell? ⟨g, 0, none⟩ = some (.string s) ∧ W.cell? ⟨g, 1, none⟩ = some (.int .i64 (n : Int)) ∧ W.cell? ⟨g, 2, none⟩ = some v :=
  ⟨Recs.box_cell h 0, Recs.box_cell h 1, Recs.box_cell h 2⟩
theorem Rd.pass {g : Nat} {s : ByteArray} {n : Nat} {v : Value} {W : World} (h : Rd g s n v W) (k : Nat) : Rd g s k v (W.setCell ⟨g, 1, none⟩ (.int .i64 (k : Int))) := Recs.box_set h 1 _
theorem Rd.hold {g : Nat} {s : ByteArray} {n : Nat} {v : Value} {W : World} (h : Rd g s n v W) (u : Value) : Rd g s n u (W.setCell ⟨g, 2, none⟩ u) := Recs.box_set h 2 _
/-- a store into the box leaves all else -/
theorem grown_set (W : World) (g i : Nat) (u : Value) : W.grownBy (W.setCell ⟨g, i, none⟩ u) (some g) :=
  ⟨rfl, rfl, rfl, by simp, fun j hj hr => heap_setCell_other W ⟨g, i, none⟩ j u (fun e => hr (by rw [show j = g from e]))⟩
/-- how a call ends whose code is c: it throws the error of that code -/
def thrown (m b : Addr) (c : Nat) : Ending := .panicked [{ v := Body.errV m b c, recovered := false }]

set_option maxRecDepth 100000 in
set_option maxHeartbeats 1000000 in
theorem rest_impl (g : Nat) (s : ByteArray) (n : Nat) (v : Value) (W : World) (h : Rd g s n v W) (hn : n ≤ s.size) (hs : s.size ≤ 1048576) :
    Calls Tryz.prog 157 #[.pointer (some ⟨g, 0, none⟩)] W fun e w' => e = .returned (.string (s.extract n s.size)) ∧ Below W.heap.size W w' := by
  obtain ⟨c0, c1, _⟩ := h.cells
  clear h
  go_enter Tryz.func157, Tryz.ntmps157
  go_wp2
  go_quiet (fail)
  go_wp2
  go_ret
  exact ⟨rfl, Recs.below_drewN (Below.refl _ W) _⟩
set_option maxRecDepth 100000 in
set_option maxHeartbeats 1000000 in
theorem pass_impl (g : Nat) (s : ByteArray) (n k : Nat) (v : Value) (W : World) (h : Rd g s n v W) (hn : n ≤ 1048576) (hk : k ≤ 1048576) :
    Calls Tryz.prog 159 #[.pointer (some ⟨g, 0, none⟩), .int .i64 (k : Int)] W fun e w' => e = .returned (.tuple #[]) ∧ Rd g s (n + k) v w' ∧ W.grownBy w' (some g) := by
  obtain ⟨c0, c1, _⟩ := h.cells
  have z1 := Recs.box_thaw h 1
  have HR := Num.hide (h.pass (n + k))
  have HG := Num.hide (grown_set W g 1 (.int .i64 ((n + k : Nat) : Int)))
  rw [Int.natCast_add] at HR HG
  clear h
  go_enter Tryz.func159, Tryz.ntmps159
  go_wp2
  go_end0
  exact ⟨rfl, HR.out, HG.out⟩
set_option maxRecDepth 100000 in
set_option maxHeartbeats 1000000 in
theorem demand_yes (W : World) : Calls Tryz.prog 104 #[.bool true] W fun e w' => e = .returned (.tuple #[]) ∧ W = w' := by
  go_enter Tryz.func104, Tryz.ntmps104
  go_wp2
  go_end0
  exact ⟨rfl, rfl⟩
set_option maxRecDepth 100000 in
set_option maxHeartbeats 1000000 in
theorem demand_no (m b : Addr) (W : World) (hE : Body.Errs m b W) : Calls Tryz.prog 104 #[.bool false] W fun e w' => e = thrown m b 2 ∧ W = w' := by
  have cb := hE.cb
  clear hE
  go_enter Tryz.func104, Tryz.ntmps104
  go_wp2
  exact ⟨rfl, rfl, rfl⟩
end Msg
end Go.Proofs.YtbajfklnekfeoaaGreatDoor
namespace Go.Proofs.YtbajfklnekfeoaaGreatDoor
open Go.RowKit
set_option linter.unusedVariables false
namespace Msg
open Line (byteAt byteAt_eq)

def blkI (r : Option Nat) (i : Nat) : Int := match r with | some k => (k : Int) - (i : Int) | none => -1
theorem index_blF (s : ByteArray) : ∀ (n i : Nat), n = s.size - i → Lib.index (s.data.toList.drop i) [32] = blkI (blF s n i) i := by
  intro n
  induction n with
  | zero => intro i h; rw [Line.drop_end s i (by omega)]; rfl
  | succ n ih =>
    intro i h
    obtain ⟨b, e, hb⟩ := Line.byteAt_list s i (by omega)
    have ih2 := ih (i + 1) (by omega)
    rw [e]
    unfold Lib.index blF
    rw [ih2]
    by_cases hc : byteAt s i = 32
    · rw [if_pos hc, if_pos]
      · show (0 : Int) = (i : Int) - (i : Int); omega
      · have h58 : b = 32 := by rw [← UInt8.toNat_inj, ← hb]; exact hc
        rw [h58]; rfl
    · rw [if_neg hc, if_neg]
      · cases hg : blF s n (i + 1) with
        | none => rfl
        | some k =>
          have := blF_in s _ _ _ hg
          show (if ((k : Int) - ((i + 1 : Nat) : Int) == -1) = true then (-1 : Int) else (k : Int) - ((i + 1 : Nat) : Int) + 1) = (k : Int) - (i : Int)
          rw [if_neg (by rw [beq_iff_eq]; omega)]; omega
      · intro hp
        apply hc
        simp only [List.isPrefixOf, Bool.and_eq_true, beq_iff_eq, and_true] at hp
        rw [hb, ← hp]; rfl
theorem index_blk (s : ByteArray) (i : Nat) : Lib.indexB (s.extract i s.size) ⟨#[32]⟩ = blkI (blk s i) i := by
  show Lib.index (s.extract i s.size).data.toList [32] = _
  rw [Line.extract_list]
  exact index_blF s _ i rfl
theorem cutb_none {s : ByteArray} {i : Nat} (h : blk s i = none) : (⟨(Lib.cut (s.extract i s.size).data.toList (⟨#[32]⟩ : ByteArray).data.toList).1.toArray⟩ : ByteArray) = s.extract i s.size ∧ (⟨(Lib.cut (s.extract i s.size).data.toList (⟨#[32]⟩ : ByteArray).data.toList).2.1.toArray⟩ : ByteArray) = ByteArray.empty ∧ (Lib.cut (s.extract i s.size).data.toList (⟨#[32]⟩ : ByteArray).data.toList).2.2 = false :=
  Lib.cutB_miss _ _ (by rw [index_blk, h]; rfl)
theorem cutb_some {s : ByteArray} {i k : Nat} (h : blk s i = some k) : (⟨(Lib.cut (s.extract i s.size).data.toList (⟨#[32]⟩ : ByteArray).data.toList).1.toArray⟩ : ByteArray) = s.extract i k ∧ (⟨(Lib.cut (s.extract i s.size).data.toList (⟨#[32]⟩ : ByteArray).data.toList).2.1.toArray⟩ : ByteArray) = s.extract (k + 1) s.size ∧ (Lib.cut (s.extract i s.size).data.toList (⟨#[32]⟩ : ByteArray).data.toList).2.2 = true := by
  have hin := blk_in h
  obtain ⟨h1, h2, h3⟩ := Lib.cutB_hit (s.extract i s.size) ⟨#[32]⟩ (k - i) (by rw [index_blk, h]; show (k : Int) - (i : Int) = ((k - i : Nat) : Int); omega)
  refine ⟨h1.trans (Line.ext_ext s i k hin.1 (by omega)), h2.trans ?_, h3⟩
  show (s.extract i s.size).extract (k - i + 1) (s.extract i s.size).size = _
  rw [ByteArray.extract_extract, ByteArray.size_extract]
  congr 1 <;> omega
/-- are there two blanks in a line? -/
def parted (s : ByteArray) : Bool := match blk s 0 with | none => false | some a => (blk s (a + 1)).isSome
theorem parted_no {s : ByteArray} (h : parted s = false) : words s = (⟨#[]⟩, ⟨#[]⟩, ⟨#[]⟩) := by
  unfold parted at h
  unfold words
  cases h1 : blk s 0 with
  | none => rfl
  | some a =>
    rw [h1] at h
    simp only at h ⊢
    cases h2 : blk s (a + 1) with
    | none => rfl
    | some b => rw [h2] at h; cases h
theorem contains_whole (s : ByteArray) : Lib.contains s.data.toList [13, 10, 13, 10] = whole s := by
  unfold Lib.contains
  rcases Lib.index_spec s.data.toList [13, 10, 13, 10] with ⟨h1, h2⟩ | ⟨i, h1, h2, h3, _⟩
  · rw [h1]
    cases hw : whole s with
    | false => rfl
    | true =>
      obtain ⟨p, q, hpq⟩ := whole_at hw
      have := h2 p.length (by rw [hpq, List.length_append]; omega)
      unfold Lib.occAt at this
      rw [hpq, List.drop_left] at this
      simp [List.isPrefixOf] at this
  · rw [h1, decide_eq_true (by omega : (0 : Int) ≤ (i : Int))]
    unfold Lib.occAt at h3
    obtain ⟨q, hq⟩ := List.isPrefixOf_iff_prefix.1 h3
    exact (whole_of s (s.data.toList.take i) q (by rw [show (13 :: 10 :: 13 :: 10 :: q : List UInt8) = [13, 10, 13, 10] ++ q from rfl, hq, List.take_append_drop])).symm
end Msg
end Go.Proofs.YtbajfklnekfeoaaGreatDoor
namespace Go.Proofs.YtbajfklnekfeoaaGreatDoor
open Go.Shelf
def Shelf.lays144_ren : Go.Shelf.Ren := ⟨fun | 144 => 156 | 143 => 182 | 219 => 197 | 217 => 203 | 225 => 204 | 224 => 205 | 267 => 206 | 266 => 214 | 314 => 215 | n => n, fun | 9 => 9 | 4 => 4 | 3 => 3 | 5 => 5 | 46 => 141 | 146 => 219 | 51 => 188 | n => n, fun | 1 => 8 | n => n⟩
theorem Shelf.lays144 : Go.Proofs.Lays.n144 Tryz.prog Shelf.lays144_ren := {
  mixed := by kernel_rfl
  f143 := Tryz.func182.trans (congrArg some (by kernel_rfl))
  f144 := Tryz.func156.trans (congrArg some (by kernel_rfl))
  f217 := Tryz.func203.trans (congrArg some (by kernel_rfl))
  f219 := Tryz.func197.trans (congrArg some (by kernel_rfl))
  f224 := Tryz.func205.trans (congrArg some (by kernel_rfl))
  f225 := Tryz.func204.trans (congrArg some (by kernel_rfl))
  f266 := Tryz.func214.trans (congrArg some (by kernel_rfl))
  f267 := Tryz.func206.trans (congrArg some (by kernel_rfl))
  f314 := Tryz.func215.trans (congrArg some (by kernel_rfl))
  t3 := Tryz.underlying3
  a3 := Tryz.isAgg3
  z3 := Tryz.sizeOf3
  v3 := Tryz.zeroValue3
  t4 := Tryz.underlying4
  a4 := Tryz.isAgg4
  z4 := Tryz.sizeOf4
  v4 := Tryz.zeroValue4
  t5 := Tryz.underlying5
  a5 := Tryz.isAgg5
  z5 := Tryz.sizeOf5
  v5 := Tryz.zeroValue5
  t9 := Tryz.underlying9
  a9 := Tryz.isAgg9
  z9 := Tryz.sizeOf9
  v9 := Tryz.zeroValue9
  t46 := Tryz.underlying141
  a46 := Tryz.isAgg141
  z46 := Tryz.sizeOf141
  v46 := Tryz.zeroValue141
  t51 := Tryz.underlying188
  a51 := Tryz.isAgg188
  z51 := Tryz.sizeOf188
  v51 := Tryz.zeroValue188
  t146 := Tryz.underlying219
  a146 := Tryz.isAgg219
  z146 := Tryz.sizeOf219
  v146 := Tryz.zeroValue219
  g1 := by kernel_rfl }
open Go.RowKit Go.Lib in
theorem Shelf.strings_Contains (s sub : ByteArray) (m : Int) (w : World) (hs : s.size < 4294967281) (hm : w.cell? ⟨8, 0, none⟩ = some (.int .i64 m)) :
    Calls Tryz.prog 156 #[.string s, .string sub] w fun e w' => e = .returned (.bool (Lib.contains s.data.toList sub.data.toList)) ∧ w' = w := Any.strings_Contains Shelf.lays144 s sub m w hs hm
end Go.Proofs.YtbajfklnekfeoaaGreatDoor
namespace Go.Proofs.YtbajfklnekfeoaaGreatDoor
open Go.RowKit
set_option linter.unusedVariables false
namespace Msg
open Line (eol)

theorem contains_at (s : ByteArray) (w : World) (hs : s.size ≤ 1048576) (hm : Body.Lim w) :
    Calls Tryz.prog 156 #[.string s, .string ⟨#[13, 10, 13, 10]⟩] w fun e w' => e = .returned (.bool (whole s)) ∧ w = w' := by
  obtain ⟨m, hm⟩ := hm
  refine (Shelf.strings_Contains s ⟨#[13, 10, 13, 10]⟩ m w (by omega) hm).mono ?_
  rintro e w' ⟨rfl, rfl⟩
  exact ⟨by rw [← contains_whole], rfl⟩
/-- what stands ahead of the first blank behind i, and behind it -/
def ahead (s : ByteArray) (i : Nat) : ByteArray := match blk s i with | some k => s.extract i k | none => s.extract i s.size
def behind (s : ByteArray) (i : Nat) : ByteArray := match blk s i with | some k => s.extract (k + 1) s.size | none => ⟨#[]⟩
theorem blank_at (s : ByteArray) (i : Nat) (w : World) (hs : s.size ≤ 1048576) (hm : Body.Lim w) :
    Calls Tryz.prog 158 #[.string (s.extract i s.size), .string ⟨#[32]⟩] w fun e w' => e = .returned (.tuple #[.string (ahead s i), .string (behind s i), .bool (blk s i).isSome]) ∧ Below w.heap.size w w' := by
  obtain ⟨m, hm⟩ := hm
  refine (Shelf.strings_Cut (s.extract i s.size) ⟨#[32]⟩ m w (by rw [ByteArray.size_extract]; omega) hm).mono ?_
  rintro e w' ⟨rfl, n, rfl⟩
  refine ⟨?_, ⟨rfl, rfl, rfl, Nat.le_refl _, fun _ _ => rfl⟩⟩
  unfold ahead behind
  cases he : blk s i with
  | none =>
    obtain ⟨e1, e2, e3⟩ := cutb_none he
    rw [e1, e2, e3]; rfl
  | some k =>
    obtain ⟨e1, e2, e3⟩ := cutb_some he
    rw [e1, e2, e3]; rfl
theorem all_of (s : ByteArray) : s.extract 0 s.size = s := ByteArray.extract_zero_size
theorem blank_whole (s : ByteArray) (w : World) (hs : s.size ≤ 1048576) (hm : Body.Lim w) :
    Calls Tryz.prog 158 #[.string s, .string ⟨#[32]⟩] w fun e w' => e = .returned (.tuple #[.string (ahead s 0), .string (behind s 0), .bool (blk s 0).isSome]) ∧ Below w.heap.size w w' := by
  have h := blank_at s 0 w hs hm
  rw [all_of] at h
  exact h
theorem line_at (s : ByteArray) (k : Nat) (w : World) (hs : s.size ≤ 1048576) (hm : Body.Lim w) (hk : eol s 0 = some k) :
    Calls Tryz.prog 158 #[.string s, .string ⟨#[13, 10]⟩] w fun e w' => ∃ y, e = .returned (.tuple #[.string (s.extract 0 k), .string y, .bool true]) ∧ Below w.heap.size w w' := by
  have h := Body.cut_at s 0 w hs hm
  rw [all_of] at h
  refine h.mono ?_
  rintro e w' ⟨x, y, rfl, _, hx, hb⟩
  obtain ⟨rfl, rfl⟩ := hx k hk
  exact ⟨_, by rw [hk]; rfl, hb⟩
set_option maxRecDepth 100000 in
set_option maxHeartbeats 2000000 in
theorem await_impl (g : Nat) (s : ByteArray) (v : Value) (m b : Addr) (W : World) (h : Rd g s 0 v W) (hs : s.size ≤ 1048576) (hm : Body.Lim W) (hE : Body.Errs m b W) :
    Calls Tryz.prog 102 #[.pointer (some ⟨g, 0, none⟩)] W fun e w' => e = (if whole s = true then .returned (.tuple #[]) else thrown m b (if 1500 < s.size then 2 else 1)) ∧ Below W.heap.size W w' := by
  have HRs := Num.hide (fun W h => rest_impl g s 0 v W h (Nat.zero_le _) hs)
  have HC := Num.hide (fun W hm => contains_at s W hs hm)
  have HR := Num.hide h
  have HM := Num.hide hm
  have HE := Num.hide hE
  rw [all_of] at HRs
  clear h hm hE
  cases hw : whole s with
  | true =>
    rw [hw] at HC
    rw [if_pos rfl]
    clear hw
    go_enter Tryz.func102, Tryz.ntmps102
    go_wp2_with fail
    refine (HRs.out _ HR.out).mono ?_
    rintro e w1 ⟨rfl, hb1⟩
    have B1 := Num.hide hb1
    clear hb1
    go_wp2_with fail
    refine (HC.out _ (HM.out.below B1.out)).mono ?_
    rintro e w2 ⟨rfl, rfl⟩
    go_wp2
    first | go_end0 | refine bodyPost_ret (results_none rfl _ _ _) rfl ?_
    exact ⟨rfl, B1.out⟩
  | false =>
    rw [hw] at HC
    rw [if_neg (by decide)]
    clear hw
    by_cases h15 : (s.size : Int) ≤ 1500
    · rw [if_neg (by omega : ¬ 1500 < s.size)]
      go_enter Tryz.func102, Tryz.ntmps102
      go_wp2_with fail
      refine (HRs.out _ HR.out).mono ?_
      rintro e w1 ⟨rfl, hb1⟩
      have B1 := Num.hide hb1
      have R1 := Num.hide (HR.out.step hb1)
      clear hb1
      go_wp2_with fail
      refine (HC.out _ (HM.out.below B1.out)).mono ?_
      rintro e w2 ⟨rfl, rfl⟩
      go_wp2_with fail
      refine (HRs.out _ R1.out).mono ?_
      rintro e w3 ⟨rfl, hb3⟩
      have B3 := Num.hide (B1.out.trans (hb3.mono B1.out.size))
      have em := (HE.out.below B3.out).cm
      clear hb3
      go_wp2_with fail
      refine (demand_yes _).mono ?_
      rintro e w4 ⟨rfl, rfl⟩
      go_wp2
      exact ⟨rfl, rfl, B3.out⟩
    · rw [if_pos (by omega : 1500 < s.size)]
      have d15 : decide ((s.size : Int) ≤ 1500) = false := decide_eq_false h15
      go_enter Tryz.func102, Tryz.ntmps102
      go_wp2_with fail
      refine (HRs.out _ HR.out).mono ?_
      rintro e w1 ⟨rfl, hb1⟩
      have B1 := Num.hide hb1
      have R1 := Num.hide (HR.out.step hb1)
      clear hb1
      go_wp2_with fail
      refine (HC.out _ (HM.out.below B1.out)).mono ?_
      rintro e w2 ⟨rfl, rfl⟩
      go_wp2_with fail
      refine (HRs.out _ R1.out).mono ?_
      rintro e w3 ⟨rfl, hb3⟩
      have B3 := Num.hide (B1.out.trans (hb3.mono B1.out.size))
      clear hb3
      go_wp2_with fail
      refine (demand_no m b _ (HE.out.below B3.out)).mono ?_
      rintro e w4 ⟨rfl, rfl⟩
      unfold thrown
      exact ⟨rfl, rfl, B3.out⟩
theorem words_of {s : ByteArray} (h : parted s = true) : words s = (ahead s 0, ahead s ((blk s 0).getD 0 + 1), behind s ((blk s 0).getD 0 + 1)) ∧ behind s 0 = s.extract ((blk s 0).getD 0 + 1) s.size ∧ (blk s ((blk s 0).getD 0 + 1)).isSome = true := by
  unfold parted at h
  unfold words ahead behind
  cases h1 : blk s 0 with
  | none => rw [h1] at h; cases h
  | some a =>
    rw [h1] at h
    simp only [Option.getD_some] at h ⊢
    cases h2 : blk s (a + 1) with
    | none => rw [h2] at h; cases h
    | some b => refine ⟨?_, ?_, ?_⟩ <;> first | rfl | trivial
/-- a line that is not parted: what the second look tells -/
theorem unparted {s : ByteArray} (h : parted s = false) : ∃ t i, behind s 0 = t.extract i t.size ∧ t.size ≤ s.size ∧ (blk t i).isSome = false := by
  unfold parted at h
  cases h1 : blk s 0 with
  | none => exact ⟨⟨#[]⟩, 0, by unfold behind; rw [h1]; rfl, Nat.zero_le _, rfl⟩
  | some a =>
    rw [h1] at h
    exact ⟨s, a + 1, by unfold behind; rw [h1], Nat.le_refl _, h⟩
set_option maxRecDepth 100000 in
set_option maxHeartbeats 2000000 in
theorem first_yes (g : Nat) (s : ByteArray) (k : Nat) (v : Value) (m b : Addr) (W : World) (h : Rd g s 0 v W) (hs : s.size ≤ 1048576) (hk : eol s 0 = some k) (hk1 : k ≤ s.size) (hp : parted (s.extract 0 k) = true) (hm : Body.Lim W) (hE : Body.Errs m b W) :
    Calls Tryz.prog 103 #[.pointer (some ⟨g, 0, none⟩)] W fun e w' => e = .returned (.tuple #[.string (words (s.extract 0 k)).1, .string (words (s.extract 0 k)).2.1, .string (words (s.extract 0 k)).2.2]) ∧ Rd g s (k + 2) v w' ∧ W.grownBy w' (some g) := by
  have HRs := Num.hide (fun W h => rest_impl g s 0 v W h (Nat.zero_le _) hs)
  rw [all_of] at HRs
  have hLz : (s.extract 0 k).size = k := by rw [ByteArray.size_extract]; omega
  have HL := Num.hide (fun W hm => line_at s k W hs hm hk)
  have HC1 := Num.hide (fun W hm => blank_whole (s.extract 0 k) W (by omega) hm)
  have HC2 := Num.hide (fun W hm => blank_at (s.extract 0 k) ((blk (s.extract 0 k) 0).getD 0 + 1) W (by omega) hm)
  have HP := Num.hide (fun W h => pass_impl g s 0 (k + 2) v W h (Nat.zero_le _) (by have := Line.eol_in hk; omega))
  rw [Nat.zero_add, Int.natCast_add] at HP
  have HR := Num.hide h
  have HM := Num.hide hm
  obtain ⟨hwd, hb0, hbl⟩ := words_of hp
  rw [hwd]
  rw [← hb0, hbl] at HC2
  clear h hm hE hwd hb0 hbl hp hk
  generalize s.extract 0 k = L at HL HC1 HC2 hLz ⊢
  subst hLz
  generalize ahead L 0 = A1 at HC1 ⊢
  generalize behind L 0 = A2 at HC1 HC2
  generalize ahead L _ = A3 at HC2 ⊢
  generalize behind L _ = A4 at HC2 ⊢
  go_enter Tryz.func103, Tryz.ntmps103
  go_wp2_with fail
  refine (HRs.out _ HR.out).mono ?_
  rintro e w1 ⟨rfl, hb1⟩
  have B1 := Num.hide hb1
  clear hb1
  go_wp2_with fail
  refine (HL.out _ (HM.out.below B1.out)).mono ?_
  rintro e w2 ⟨y, rfl, hb2⟩
  have B2 := Num.hide (B1.out.trans (hb2.mono B1.out.size))
  clear hb2
  go_wp2_with fail
  refine (HC1.out _ (HM.out.below B2.out)).mono ?_
  rintro e w3 ⟨rfl, hb3⟩
  have B3 := Num.hide (B2.out.trans (hb3.mono B2.out.size))
  clear hb3
  go_wp2_with fail
  refine (HC2.out _ (HM.out.below B3.out)).mono ?_
  rintro e w4 ⟨rfl, hb4⟩
  have B4 := Num.hide (B3.out.trans (hb4.mono B3.out.size))
  clear hb4
  go_wp2_with fail
  refine (demand_yes _).mono ?_
  rintro e w5 ⟨rfl, rfl⟩
  go_wp2_with fail
  refine (HP.out _ (HR.out.step B4.out)).mono ?_
  rintro e w6 ⟨rfl, hr6, hg6⟩
  have R6 := Num.hide hr6
  have G6 := Num.hide (Recs.grown_trans (Recs.grown_of_below B4.out (some g)) hg6)
  clear hr6 hg6
  go_wp2
  go_ret3
  exact ⟨rfl, R6.out, G6.out⟩
set_option maxRecDepth 100000 in
set_option maxHeartbeats 2000000 in
theorem first_no (g : Nat) (s : ByteArray) (k : Nat) (v : Value) (m b : Addr) (W : World) (h : Rd g s 0 v W) (hs : s.size ≤ 1048576) (hk : eol s 0 = some k) (hk1 : k ≤ s.size) (hp : parted (s.extract 0 k) = false) (hm : Body.Lim W) (hE : Body.Errs m b W) :
    Calls Tryz.prog 103 #[.pointer (some ⟨g, 0, none⟩)] W fun e w' => e = thrown m b 2 ∧ Below W.heap.size W w' := by
  have HRs := Num.hide (fun W h => rest_impl g s 0 v W h (Nat.zero_le _) hs)
  rw [all_of] at HRs
  have hLz : (s.extract 0 k).size = k := by rw [ByteArray.size_extract]; omega
  have HL := Num.hide (fun W hm => line_at s k W hs hm hk)
  have HC1 := Num.hide (fun W hm => blank_whole (s.extract 0 k) W (by omega) hm)
  obtain ⟨t, i, hb0, htz, hbl⟩ := unparted hp
  have HC2 := Num.hide (fun W hm => blank_at t i W (by omega) hm)
  have HR := Num.hide h
  have HM := Num.hide hm
  have HE := Num.hide hE
  rw [hbl] at HC2
  rw [hb0] at HC1
  clear h hm hE hb0 hbl hp hk htz
  generalize s.extract 0 k = L at HL HC1 hLz ⊢
  generalize ahead L 0 = A1 at HC1 ⊢
  generalize t.extract i t.size = A2 at HC1 HC2
  generalize ahead t i = A3 at HC2 ⊢
  generalize behind t i = A4 at HC2 ⊢
  go_enter Tryz.func103, Tryz.ntmps103
  go_wp2_with fail
  refine (HRs.out _ HR.out).mono ?_
  rintro e w1 ⟨rfl, hb1⟩
  have B1 := Num.hide hb1
  clear hb1
  go_wp2_with fail
  refine (HL.out _ (HM.out.below B1.out)).mono ?_
  rintro e w2 ⟨y, rfl, hb2⟩
  have B2 := Num.hide (B1.out.trans (hb2.mono B1.out.size))
  clear hb2
  go_wp2_with fail
  refine (HC1.out _ (HM.out.below B2.out)).mono ?_
  rintro e w3 ⟨rfl, hb3⟩
  have B3 := Num.hide (B2.out.trans (hb3.mono B2.out.size))
  clear hb3
  go_wp2_with fail
  refine (HC2.out _ (HM.out.below B3.out)).mono ?_
  rintro e w4 ⟨rfl, hb4⟩
  have B4 := Num.hide (B3.out.trans (hb4.mono B3.out.size))
  clear hb4
  go_wp2_with fail
  refine (demand_no m b _ (HE.out.below B4.out)).mono ?_
  rintro e w5 ⟨rfl, rfl⟩
  unfold thrown
  exact ⟨rfl, rfl, B4.out⟩
end Msg
end Go.Proofs.YtbajfklnekfeoaaGreatDoor
