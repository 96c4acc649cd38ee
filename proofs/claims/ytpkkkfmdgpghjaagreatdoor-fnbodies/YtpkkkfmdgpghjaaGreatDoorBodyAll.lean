/-
  PieceNum: One piece of a body, read off a text from a place on, plain.
  PieceImpl: pieceAhead of the program: one piece, read off a text from a place on; what was there stays.
  PiecesIter: piecesAhead of the program: the pieces of a body, handed on one by one up to the first that is empty or at fault.
  JoinInv: joinPieces of the program: what its boxes hold between two pieces, and that it stays.
  IsErr: errors.Is at this program, for errors that errors.New has made, and for none: Go's own text, walked.
  TellBody: tellBody of the program: what is told of a body and an error.
  JoinImpl: joinPieces of the program: the pieces of a body put together, or the error of the first at fault; what was there stays.
  UnchunkImpl: Unchunk of the program: what the call returns, for every text; what was there stays.
  BodyImpl: BodyOf of the program: where a body ends; what was there stays.
-/
import Derived.Test.YtpkkkfmdgpghjaaGreatDoorUnchunkNum
import Derived.Test.YtpkkkfmdgpghjaaGreatDoorLineNum
import Derived.Test.YtpkkkfmdgpghjaaGreatDoorSignNum
import Derived.Lib.Strings
import Derived.Test.YtpkkkfmdgpghjaaGreatDoorReadHexImpl
import Derived.Test.YtpkkkfmdgpghjaaGreatDoorShelfCut
import Derived.Test.YtpkkkfmdgpghjaaGreatDoorShelfPrefix
import Derived.Laws.Strings2
import Derived.RegionTactic
import Derived.BigRegion
import Derived.ChangeAlike
import Derived.RangeFuncBox
import Derived.Test.YtpkkkfmdgpghjaaGreatDoorBuildK
import Derived.RangeFuncNested
import Derived.RangeFuncBound
import Derived.RangeFuncCalls
import Derived.RangeFuncLeaves
import Derived.Shelf.Abstract
import Derived.Shelf.RegionOpen
import Derived.WalkKit
import Derived.OwnWalkIn
import Derived.TacticsInMore
import Derived.LoopNIn
import Derived.LoopIn
import Derived.Test.YtpkkkfmdgpghjaaGreatDoorProg
import Derived.LaidEql
import Derived.Stop.Asserts
import Derived.RowKitTokens
import Derived.Test.YtpkkkfmdgpghjaaGreatDoorBodyDef
import Derived.Test.YtpkkkfmdgpghjaaGreatDoorFldGetImpl
import Derived.Test.YtpkkkfmdgpghjaaGreatDoorSecondsImpl
import Derived.Test.YtpkkkfmdgpghjaaGreatDoorLowerImpl
import Derived.Test.YtpkkkfmdgpghjaaGreatDoorShelfClone
namespace Go.Proofs.YtpkkkfmdgpghjaaGreatDoor
open Go.RowKit
set_option linter.unusedVariables false
namespace Body
open Line (byteAt byteAt_eq)

/-- a piece: its bytes, how many it takes up, and the code -/
abbrev Pc0 := ByteArray × Nat × Nat
def pcBad : Pc0 := (⟨#[]⟩, 0, 2)
def pcMore : Pc0 := (⟨#[]⟩, 0, 1)
def pieceAt (s : ByteArray) (a room : Nat) : Pc0 :=
  match Line.eol s a with
  | none => if 8 < s.size - a then pcBad else pcMore
  | some i =>
    match readHex (s.extract a i) with
    | none => pcBad
    | some n =>
      if room < n.toNat then pcBad
      else if s.size < i + 2 + n.toNat + 2 then pcMore
      else if byteAt s (i + 2 + n.toNat) = 13 ∧ byteAt s (i + 2 + n.toNat + 1) = 10 then (s.extract (i + 2) (i + 2 + n.toNat), (i - a) + n.toNat + 4, 0)
      else pcBad
section
variable {s : ByteArray} {a room : Nat}
theorem pc_long (he : Line.eol s a = none) (hl : 8 < s.size - a) : pieceAt s a room = pcBad := by unfold pieceAt; rw [he]; simp only; rw [if_pos hl]
theorem pc_more (he : Line.eol s a = none) (hl : ¬ 8 < s.size - a) : pieceAt s a room = pcMore := by unfold pieceAt; rw [he]; simp only; rw [if_neg hl]
theorem pc_nohex {i : Nat} (he : Line.eol s a = some i) (hx : readHex (s.extract a i) = none) : pieceAt s a room = pcBad := by unfold pieceAt; rw [he]; simp only; rw [hx]
theorem pc_great {i : Nat} {n : Int} (he : Line.eol s a = some i) (hx : readHex (s.extract a i) = some n) (hg : room < n.toNat) : pieceAt s a room = pcBad := by unfold pieceAt; rw [he]; simp only; rw [hx]; simp only; rw [if_pos hg]
theorem pc_short {i : Nat} {n : Int} (he : Line.eol s a = some i) (hx : readHex (s.extract a i) = some n) (hg : ¬ room < n.toNat) (hs : s.size < i + 2 + n.toNat + 2) : pieceAt s a room = pcMore := by unfold pieceAt; rw [he]; simp only; rw [hx]; simp only; rw [if_neg hg, if_pos hs]
theorem pc_noend {i : Nat} {n : Int} (he : Line.eol s a = some i) (hx : readHex (s.extract a i) = some n) (hg : ¬ room < n.toNat) (hs : ¬ s.size < i + 2 + n.toNat + 2) (hb : ¬ (byteAt s (i + 2 + n.toNat) = 13 ∧ byteAt s (i + 2 + n.toNat + 1) = 10)) : pieceAt s a room = pcBad := by unfold pieceAt; rw [he]; simp only; rw [hx]; simp only; rw [if_neg hg, if_neg hs, if_neg hb]
theorem pc_ok {i : Nat} {n : Int} (he : Line.eol s a = some i) (hx : readHex (s.extract a i) = some n) (hg : ¬ room < n.toNat) (hs : ¬ s.size < i + 2 + n.toNat + 2) (hb : byteAt s (i + 2 + n.toNat) = 13 ∧ byteAt s (i + 2 + n.toNat + 1) = 10) : pieceAt s a room = (s.extract (i + 2) (i + 2 + n.toNat), (i - a) + n.toNat + 4, 0) := by unfold pieceAt; rw [he]; simp only; rw [hx]; simp only; rw [if_neg hg, if_neg hs, if_pos hb]
/-- what a piece at fault says of the whole -/
theorem pc_told {out : ByteArray} (h : UnAt s a out) (hr : room + out.size = 60) (hc : (pieceAt s a room).2.2 ≠ 0) : unchunk s = (⟨#[]⟩, 0, ((pieceAt s a room).2.2 : Int)) ∧ (pieceAt s a room).1 = ⟨#[]⟩ ∧ (pieceAt s a room).2.1 = 0 := by
  cases he : Line.eol s a with
  | none =>
    by_cases hl : 8 < s.size - a
    · rw [pc_long he hl, un_long h he hl]; exact ⟨rfl, rfl, rfl⟩
    · rw [pc_more he hl, un_more h he hl]; exact ⟨rfl, rfl, rfl⟩
  | some i =>
    cases hx : readHex (s.extract a i) with
    | none => rw [pc_nohex he hx, un_nohex h he hx]; exact ⟨rfl, rfl, rfl⟩
    | some n =>
      by_cases hg : room < n.toNat
      · rw [pc_great he hx hg, un_great h he hx (by omega)]; exact ⟨rfl, rfl, rfl⟩
      · by_cases hs : s.size < i + 2 + n.toNat + 2
        · rw [pc_short he hx hg hs, un_short h he hx (by omega) hs]; exact ⟨rfl, rfl, rfl⟩
        · by_cases hb : byteAt s (i + 2 + n.toNat) = 13 ∧ byteAt s (i + 2 + n.toNat + 1) = 10
          · rw [pc_ok he hx hg hs hb] at hc
            exact absurd rfl hc
          · rw [pc_noend he hx hg hs hb, un_noend h he hx (by omega) hs hb]; exact ⟨rfl, rfl, rfl⟩
/-- a right piece: where it stands then -/
theorem pc_right {out : ByteArray} (h : UnAt s a out) (hr : room + out.size = 60) (hc : (pieceAt s a room).2.2 = 0) :
    (pieceAt s a room).1.size ≤ room ∧ a + (pieceAt s a room).2.1 ≤ s.size ∧ 4 ≤ (pieceAt s a room).2.1 ∧
    ((pieceAt s a room).1.size = 0 → unchunk s = (out ++ (pieceAt s a room).1, ((a + (pieceAt s a room).2.1 : Nat) : Int), 0)) ∧
    ((pieceAt s a room).1.size ≠ 0 → UnAt s (a + (pieceAt s a room).2.1) (out ++ (pieceAt s a room).1)) := by
  cases he : Line.eol s a with
  | none =>
    by_cases hl : 8 < s.size - a
    · rw [pc_long he hl] at hc; cases hc
    · rw [pc_more he hl] at hc; cases hc
  | some i =>
    have hin := Line.eol_in he
    cases hx : readHex (s.extract a i) with
    | none => rw [pc_nohex he hx] at hc; cases hc
    | some n =>
      have hn := readHex_bd hx
      by_cases hg : room < n.toNat
      · rw [pc_great he hx hg] at hc; cases hc
      · by_cases hs : s.size < i + 2 + n.toNat + 2
        · rw [pc_short he hx hg hs] at hc; cases hc
        · by_cases hb : byteAt s (i + 2 + n.toNat) = 13 ∧ byteAt s (i + 2 + n.toNat + 1) = 10
          · rw [pc_ok he hx hg hs hb]
            simp only
            have hz : (s.extract (i + 2) (i + 2 + n.toNat)).size = n.toNat := by rw [ByteArray.size_extract]; omega
            have e1 : a + (i - a + n.toNat + 4) = i + 2 + n.toNat + 2 := by omega
            refine ⟨by omega, by omega, by omega, fun h0 => ?_, fun h0 => ?_⟩
            · obtain rfl : n = 0 := by omega
              rw [un_done h he hx (by omega) hs hb, e1]
            · rw [e1]
              exact un_next h he hx (by omega) hs hb (by omega)
          · rw [pc_noend he hx hg hs hb] at hc; cases hc
theorem pc_code : (pieceAt s a room).2.2 ≤ 2 := by
  unfold pieceAt
  repeat' split
  all_goals first | exact Nat.zero_le _ | (unfold pcBad; decide) | (unfold pcMore; decide)
end
/-- the rest of a text behind a line -/
theorem cut_rest {s : ByteArray} {a i : Nat} (h : Line.eol s a = some i) : (⟨(Lib.cut (s.extract a s.size).data.toList (⟨#[13, 10]⟩ : ByteArray).data.toList).2.1.toArray⟩ : ByteArray) = s.extract (i + 2) s.size := by
  have hin := Line.eol_in h
  obtain ⟨_, h2, _⟩ := Lib.cutB_hit (s.extract a s.size) ⟨#[13, 10]⟩ (i - a) (by rw [Line.index_eol, h]; show (i : Int) - (a : Int) = ((i - a : Nat) : Int); omega)
  rw [h2, ByteArray.extract_extract, ByteArray.size_extract]
  have : (⟨#[13, 10]⟩ : ByteArray).size = 2 := rfl
  congr 1 <;> omega
/-- two bytes ahead of a rest -/
theorem pre_two (s : ByteArray) (k : Nat) (h : k + 1 < s.size) : Lib.hasPrefix (s.extract k s.size).data.toList (⟨#[13, 10]⟩ : ByteArray).data.toList = decide (byteAt s k = 13 ∧ byteAt s (k + 1) = 10) := by
  have hl : s.data.toList.length = s.size := by rw [Array.length_toList]; rfl
  have e : (s.extract k s.size).data.toList = s.data.toList.drop k := by
    rw [ByteArray.data_extract, Array.toList_extract, List.extract_eq_drop_take', List.take_of_length_le (by omega)]
  have hx : ∀ (b : UInt8) (n : Nat), n < 256 → (UInt8.ofNat n == b) = decide (b.toNat = n) := by
    intro b n hn
    by_cases h : b.toNat = n
    · rw [decide_eq_true h]
      subst h
      simp
    · rw [decide_eq_false h]
      have : UInt8.ofNat n ≠ b := fun h2 => h (by rw [← h2]; simp; omega)
      exact beq_false_of_ne this
  rw [e, List.drop_eq_getElem_cons (by omega), List.drop_eq_getElem_cons (by omega), byteAt_eq s k (by omega), byteAt_eq s (k + 1) h]
  show ((13 : UInt8) == s[k] && ((10 : UInt8) == s[k + 1] && true)) = _
  rw [Bool.and_true, show (13 : UInt8) = UInt8.ofNat 13 from rfl, show (10 : UInt8) = UInt8.ofNat 10 from rfl, hx _ 13 (by decide), hx _ 10 (by decide)]
  by_cases h1 : s[k].toNat = 13 <;> by_cases h2 : s[k + 1].toNat = 10 <;> simp [h1, h2]
end Body
end Go.Proofs.YtpkkkfmdgpghjaaGreatDoor
namespace Go.Proofs.YtpkkkfmdgpghjaaGreatDoor
open Go.RowKit
set_option linter.unusedVariables false
namespace Body
open Line (byteAt byteAt_eq)

/-- the library's variable holds some number -/
def Lim (w : World) : Prop := ∃ m, w.cell? ⟨7, 0, none⟩ = some (.int .i64 m)
theorem lim_lt {w : World} (h : Lim w) : 7 < w.heap.size := by obtain ⟨m, hm⟩ := h; exact Recs.lt_of_cell hm
theorem lim_of {w : World} (h : w.ShapedOpen Tryz.prog) : Lim w := Shelf.laysM145.s1_3 w h
theorem Lim.below {w w' : World} (h : Lim w) (hb : Below w.heap.size w w') : Lim w' := by
  have hl := lim_lt h
  obtain ⟨m, hm⟩ := h
  exact ⟨m, (hb.cell (p := ⟨7, 0, none⟩) hl).trans hm⟩
/-- the program's two errors lie at these places, which differ -/
structure Errs (m b : Addr) (w : World) : Prop where
  cm : w.cell? ⟨0, 0, none⟩ = some (.iface 130 (.pointer (some m)))
  cb : w.cell? ⟨1, 0, none⟩ = some (.iface 130 (.pointer (some b)))
  ne : m ≠ b
  rm : ∃ c t, w.heap[m.block]? = some (.cells c t (0, 0))
  rb : ∃ c t, w.heap[b.block]? = some (.cells c t (0, 0))
theorem Errs.below {m b : Addr} {w w' : World} (h : Errs m b w) (hb : Below w.heap.size w w') : Errs m b w' := by
  obtain ⟨c1, t1, h1⟩ := h.rm
  obtain ⟨c2, t2, h2⟩ := h.rb
  exact ⟨(hb.cell (p := ⟨0, 0, none⟩) (Recs.lt_of_cell h.cm)).trans h.cm, (hb.cell (p := ⟨1, 0, none⟩) (Recs.lt_of_cell h.cb)).trans h.cb, h.ne,
    ⟨c1, t1, (hb.block _ (Array.getElem?_eq_some_iff.1 h1).1).trans h1⟩, ⟨c2, t2, (hb.block _ (Array.getElem?_eq_some_iff.1 h2).1).trans h2⟩⟩
/-- the error of a code -/
def errV (m b : Addr) : Nat → Value
  | 0 => .nilIface
  | 1 => .iface 130 (.pointer (some m))
  | _ => .iface 130 (.pointer (some b))
/-- a piece as the program has it -/
def pcV (x : Pc0) : Value := .agg #[.string x.1, .int .i64 (x.2.1 : Int)]
theorem cut_at (s : ByteArray) (a : Nat) (w : World) (hs : s.size ≤ 1048576) (hm : Lim w) :
    Calls Tryz.prog 60 #[.string (s.extract a s.size), .string ⟨#[13, 10]⟩] w fun e w' => ∃ x y, e = .returned (.tuple #[.string x, .string y, .bool (Line.eol s a).isSome]) ∧ x.size ≤ 1048576 ∧ (∀ i, Line.eol s a = some i → x = s.extract a i ∧ y = s.extract (i + 2) s.size) ∧ Below w.heap.size w w' := by
  obtain ⟨m, hm⟩ := hm
  refine (Shelf.strings_Cut (s.extract a s.size) ⟨#[13, 10]⟩ m w (by rw [ByteArray.size_extract]; omega) hm).mono ?_
  rintro e w' ⟨rfl, n, rfl⟩
  have hb : Below w.heap.size w (w.drewN n) := ⟨rfl, rfl, rfl, Nat.le_refl _, fun _ _ => rfl⟩
  cases he : Line.eol s a with
  | none =>
    obtain ⟨e1, e2, e3⟩ := Line.cut_none he
    exact ⟨_, _, by rw [e1, e2, e3]; rfl, by rw [ByteArray.size_extract]; omega, (fun i h => by cases h), hb⟩
  | some i =>
    obtain ⟨e1, e3⟩ := Line.cut_some he
    exact ⟨_, _, by rw [e1, e3]; rfl, by rw [ByteArray.size_extract]; omega, (fun j h => by cases h; exact ⟨rfl, cut_rest he⟩), hb⟩
/-- a box of a piece that holds nothing yet -/
structure Box0 (b : Nat) (w : World) : Prop where
  c0 : w.cell? ⟨b, 0, none⟩ = some (.string ⟨#[]⟩)
  c1 : w.cell? ⟨b, 1, none⟩ = some (.int .i64 0)
  f0 : w.frozen? ⟨b, 0, none⟩ = false
  f1 : w.frozen? ⟨b, 1, none⟩ = false
theorem box_of {b : Nat} {w : World} (h : w.heap[b]? = some (.cells #[.string ⟨#[]⟩, .int .i64 0] 74 (0, 0))) : Box0 b w :=
  ⟨by simp [World.cell?, h], by simp [World.cell?, h], by simp [World.frozen?, h], by simp [World.frozen?, h]⟩
theorem box_put {b : Nat} {w : World} (h : Box0 b w) (u v : Value) : ((w.setCell ⟨b, 0, none⟩ u).setCell ⟨b, 1, none⟩ v).cell? ⟨b, 0, none⟩ = some u ∧ ((w.setCell ⟨b, 0, none⟩ u).setCell ⟨b, 1, none⟩ v).cell? ⟨b, 1, none⟩ = some v := by
  refine ⟨?_, ?_⟩
  · rw [World.cell?_setCell_other _ _ _ _ (by simp)]
    exact World.cell?_setCell_same' _ _ _ (by rw [h.c0]; rfl)
  · exact World.cell?_setCell_same' _ _ _ (by rw [World.cell?_setCell_other _ _ _ _ (by simp), h.c1]; rfl)
set_option maxRecDepth 100000 in
set_option maxHeartbeats 4000000 in
theorem piece_impl (s : ByteArray) (a room : Nat) (m b : Addr) (w : World) (hs : s.size ≤ 1048576) (ha : a ≤ s.size) (hr : room ≤ 60) (hm : Lim w) (hS : Syn w) (hE : Errs m b w) :
    Calls Tryz.prog 43 #[.string (s.extract a s.size), .int .i64 (room : Int)] w fun e w' => e = .returned (.tuple #[pcV (pieceAt s a room), errV m b (pieceAt s a room).2.2]) ∧ Below w.heap.size w w' := by
  have HM := Num.hide (fun W h => Lim.below (w' := W) hm h)
  have HS := Num.hide (fun W h => Syn.below (w' := W) hS h)
  have HE := Num.hide (fun W h => Errs.below (w' := W) hE h)
  have hz : (s.extract a s.size).size = s.size - a := by rw [ByteArray.size_extract]; omega
  have HC := Num.hide (fun W h => cut_at s a W hs h)
  have HR := Num.hide (fun x W hx h => readHex_impl x W hx h)
  have HP := Num.hide (fun t W => Shelf.strings_HasPrefix t ⟨#[13, 10]⟩ W)
  have hgm := Recs.lt_of_cell hE.cm
  have hgb := Recs.lt_of_cell hE.cb
  clear hm hS hE
  obtain ⟨V, hV⟩ : ∃ V, pieceAt s a room = V := ⟨_, rfl⟩
  rw [hV]
  cases he : Line.eol s a with
  | none =>
    rw [he] at HC
    by_cases hl : 8 < s.size - a
    · have hd : decide (((s.size - a : Nat) : Int) ≤ 8) = false := by simp; omega
      rw [pc_long he hl] at hV
      subst hV
      clear he
      generalize s.extract a s.size = t at HC hz
      go_enter Tryz.func43, Tryz.ntmps43
      go_wp2_with fail
      have hb1 : Below w.heap.size w (w.alloc (.cells #[.string ⟨#[]⟩, .int .i64 0] 74)) := (Below.refl _ w).alloc (Nat.le_refl _) _
      have hx1 := World.alloc_heap_new w (.cells #[.string ⟨#[]⟩, .int .i64 0] 74)
      have hz1 : (w.alloc (.cells #[.string ⟨#[]⟩, .int .i64 0] 74)).heap.size = w.heap.size + 1 := by simp
      refine (HC.out _ (HM.out _ hb1)).mono ?_
      generalize w.alloc (.cells #[.string ⟨#[]⟩, .int .i64 0] 74) = w1 at hb1 hx1 hz1
      rintro e w2 ⟨x, y, rfl, hxs, hxy, hb2⟩
      have hx2 := (hb2.block w.heap.size (by omega)).trans hx1
      have hz2 := hb2.size
      have B2 := Num.hide (hb1.trans (hb2.mono hb1.size))
      clear hb1 hb2 hx1
      go_wp2_with fail
      refine (HR.out _ _ hxs (HS.out _ B2.out)).mono ?_
      rintro e w3 ⟨rfl, hb3⟩
      have hx3 := (hb3.block w.heap.size (by omega)).trans hx2
      have B3 := Num.hide (B2.out.trans (hb3.mono B2.out.size))
      have BX := Num.hide (box_of hx3)
      obtain ⟨b0, b1, g0, g1⟩ := box_of hx3
      obtain ⟨em, eb, _, _, _⟩ := HE.out _ B3.out
      have km := (World.cell?_setCell_other w3 ⟨w.heap.size, 0, none⟩ ⟨0, 0, none⟩ (.string ⟨#[]⟩) (by simp <;> omega)).trans em
      have kb := (World.cell?_setCell_other w3 ⟨w.heap.size, 0, none⟩ ⟨1, 0, none⟩ (.string ⟨#[]⟩) (by simp <;> omega)).trans eb
      generalize rhN x = rn
      generalize rhB x = rb
      clear hxy
      clear hx2 hx3 hb3 HC HR HM HS HE
      go_wp2
      go_region
      go_wp2
      obtain ⟨r0, r1⟩ := box_put BX.out (.string ⟨#[]⟩) (.int .i64 0)
      have BF := Num.hide ((B3.out.setCell (p := ⟨w.heap.size, 0, none⟩) (Nat.le_refl _) (.string ⟨#[]⟩)).setCell (p := ⟨w.heap.size, 1, none⟩) (Nat.le_refl _) (.int .i64 0))
      have BD := Num.hide BF.out.drew
      exact bodyPost_ret (v := .tuple #[.agg #[.string ⟨#[]⟩, .int .i64 0], errV m b 2]) (by simp [results, Tryz.results43, go_sem, r0, r1, errV]) rfl ⟨rfl, BD.out⟩
    · have hd : decide (((s.size - a : Nat) : Int) ≤ 8) = true := by simp; omega
      rw [pc_more he hl] at hV
      subst hV
      clear he
      generalize s.extract a s.size = t at HC hz
      go_enter Tryz.func43, Tryz.ntmps43
      go_wp2_with fail
      have hb1 : Below w.heap.size w (w.alloc (.cells #[.string ⟨#[]⟩, .int .i64 0] 74)) := (Below.refl _ w).alloc (Nat.le_refl _) _
      have hx1 := World.alloc_heap_new w (.cells #[.string ⟨#[]⟩, .int .i64 0] 74)
      have hz1 : (w.alloc (.cells #[.string ⟨#[]⟩, .int .i64 0] 74)).heap.size = w.heap.size + 1 := by simp
      refine (HC.out _ (HM.out _ hb1)).mono ?_
      generalize w.alloc (.cells #[.string ⟨#[]⟩, .int .i64 0] 74) = w1 at hb1 hx1 hz1
      rintro e w2 ⟨x, y, rfl, hxs, hxy, hb2⟩
      have hx2 := (hb2.block w.heap.size (by omega)).trans hx1
      have hz2 := hb2.size
      have B2 := Num.hide (hb1.trans (hb2.mono hb1.size))
      clear hb1 hb2 hx1
      go_wp2_with fail
      refine (HR.out _ _ hxs (HS.out _ B2.out)).mono ?_
      rintro e w3 ⟨rfl, hb3⟩
      have hx3 := (hb3.block w.heap.size (by omega)).trans hx2
      have B3 := Num.hide (B2.out.trans (hb3.mono B2.out.size))
      have BX := Num.hide (box_of hx3)
      obtain ⟨b0, b1, g0, g1⟩ := box_of hx3
      obtain ⟨em, eb, _, _, _⟩ := HE.out _ B3.out
      have km := (World.cell?_setCell_other w3 ⟨w.heap.size, 0, none⟩ ⟨0, 0, none⟩ (.string ⟨#[]⟩) (by simp <;> omega)).trans em
      have kb := (World.cell?_setCell_other w3 ⟨w.heap.size, 0, none⟩ ⟨1, 0, none⟩ (.string ⟨#[]⟩) (by simp <;> omega)).trans eb
      generalize rhN x = rn
      generalize rhB x = rb
      clear hxy
      clear hx2 hx3 hb3 HC HR HM HS HE
      go_wp2
      go_region
      go_wp2
      obtain ⟨r0, r1⟩ := box_put BX.out (.string ⟨#[]⟩) (.int .i64 0)
      have BF := Num.hide ((B3.out.setCell (p := ⟨w.heap.size, 0, none⟩) (Nat.le_refl _) (.string ⟨#[]⟩)).setCell (p := ⟨w.heap.size, 1, none⟩) (Nat.le_refl _) (.int .i64 0))
      have BD := Num.hide BF.out.drew
      exact bodyPost_ret (v := .tuple #[.agg #[.string ⟨#[]⟩, .int .i64 0], errV m b 1]) (by simp [results, Tryz.results43, go_sem, r0, r1, errV]) rfl ⟨rfl, BD.out⟩
  | some i =>
    have hin := Line.eol_in he
    have hy : (s.extract (i + 2) s.size).size = s.size - (i + 2) := by rw [ByteArray.size_extract]; omega
    have hxz : (s.extract a i).size = i - a := by rw [ByteArray.size_extract]; omega
    rw [he] at HC
    cases hx : readHex (s.extract a i) with
    | none =>
      obtain ⟨hn1, hn2⟩ := rh_none hx
      rw [pc_nohex he hx] at hV
      subst hV
      clear he hx
      generalize s.extract a s.size = t at HC hz
      obtain ⟨yy, hyy⟩ : ∃ q, s.extract (i + 2) s.size = q := ⟨_, rfl⟩
      rw [hyy] at hy
      have HYY := Num.hide hyy
      clear hyy
      obtain ⟨xx, hxx⟩ : ∃ q, s.extract a i = q := ⟨_, rfl⟩
      rw [hxx] at hxz hn1 hn2
      have HXX := Num.hide hxx
      clear hxx
      go_enter Tryz.func43, Tryz.ntmps43
      go_wp2_with fail
      have hb1 : Below w.heap.size w (w.alloc (.cells #[.string ⟨#[]⟩, .int .i64 0] 74)) := (Below.refl _ w).alloc (Nat.le_refl _) _
      have hx1 := World.alloc_heap_new w (.cells #[.string ⟨#[]⟩, .int .i64 0] 74)
      have hz1 : (w.alloc (.cells #[.string ⟨#[]⟩, .int .i64 0] 74)).heap.size = w.heap.size + 1 := by simp
      refine (HC.out _ (HM.out _ hb1)).mono ?_
      generalize w.alloc (.cells #[.string ⟨#[]⟩, .int .i64 0] 74) = w1 at hb1 hx1 hz1
      rintro e w2 ⟨x, y, rfl, hxs, hxy, hb2⟩
      obtain ⟨hx0, hy0⟩ := hxy i rfl
      obtain rfl := hx0.trans HXX.out
      obtain rfl := hy0.trans HYY.out
      clear hxy hx0 hy0 HXX HYY
      have hx2 := (hb2.block w.heap.size (by omega)).trans hx1
      have hz2 := hb2.size
      have B2 := Num.hide (hb1.trans (hb2.mono hb1.size))
      clear hb1 hb2 hx1
      go_wp2_with fail
      refine (HR.out _ _ hxs (HS.out _ B2.out)).mono ?_
      rintro e w3 ⟨rfl, hb3⟩
      have hx3 := (hb3.block w.heap.size (by omega)).trans hx2
      have B3 := Num.hide (B2.out.trans (hb3.mono B2.out.size))
      have BX := Num.hide (box_of hx3)
      obtain ⟨b0, b1, g0, g1⟩ := box_of hx3
      obtain ⟨em, eb, _, _, _⟩ := HE.out _ B3.out
      have km := (World.cell?_setCell_other w3 ⟨w.heap.size, 0, none⟩ ⟨0, 0, none⟩ (.string ⟨#[]⟩) (by simp <;> omega)).trans em
      have kb := (World.cell?_setCell_other w3 ⟨w.heap.size, 0, none⟩ ⟨1, 0, none⟩ (.string ⟨#[]⟩) (by simp <;> omega)).trans eb
      rw [hn1, hn2]
      clear hx2 hx3 hb3 HC HR HM HS HE
      go_wp2
      go_region
      go_wp2
      obtain ⟨r0, r1⟩ := box_put BX.out (.string ⟨#[]⟩) (.int .i64 0)
      have BF := Num.hide ((B3.out.setCell (p := ⟨w.heap.size, 0, none⟩) (Nat.le_refl _) (.string ⟨#[]⟩)).setCell (p := ⟨w.heap.size, 1, none⟩) (Nat.le_refl _) (.int .i64 0))
      have BD := Num.hide BF.out.drew
      exact bodyPost_ret (v := .tuple #[.agg #[.string ⟨#[]⟩, .int .i64 0], errV m b 2]) (by simp [results, Tryz.results43, go_sem, r0, r1, errV]) rfl ⟨rfl, BD.out⟩
    | some n =>
      have hn := readHex_bd hx
      obtain ⟨hn1, hn2⟩ := rh_some hx
      obtain ⟨k, rfl⟩ : ∃ k : Nat, n = (k : Int) := ⟨n.toNat, by omega⟩
      by_cases hg : room < (k : Int).toNat
      · have q1 : decide ((room : Int) < (k : Int)) = true := by simp at hg ⊢; omega
        rw [pc_great he hx hg] at hV
        subst hV
        clear he hx
        generalize s.extract a s.size = t at HC hz
        obtain ⟨yy, hyy⟩ : ∃ q, s.extract (i + 2) s.size = q := ⟨_, rfl⟩
        rw [hyy] at hy
        have HYY := Num.hide hyy
        clear hyy
        obtain ⟨xx, hxx⟩ : ∃ q, s.extract a i = q := ⟨_, rfl⟩
        rw [hxx] at hxz hn1 hn2
        have HXX := Num.hide hxx
        clear hxx
        go_enter Tryz.func43, Tryz.ntmps43
        go_wp2_with fail
        have hb1 : Below w.heap.size w (w.alloc (.cells #[.string ⟨#[]⟩, .int .i64 0] 74)) := (Below.refl _ w).alloc (Nat.le_refl _) _
        have hx1 := World.alloc_heap_new w (.cells #[.string ⟨#[]⟩, .int .i64 0] 74)
        have hz1 : (w.alloc (.cells #[.string ⟨#[]⟩, .int .i64 0] 74)).heap.size = w.heap.size + 1 := by simp
        refine (HC.out _ (HM.out _ hb1)).mono ?_
        generalize w.alloc (.cells #[.string ⟨#[]⟩, .int .i64 0] 74) = w1 at hb1 hx1 hz1
        rintro e w2 ⟨x, y, rfl, hxs, hxy, hb2⟩
        obtain ⟨hx0, hy0⟩ := hxy i rfl
        obtain rfl := hx0.trans HXX.out
        obtain rfl := hy0.trans HYY.out
        clear hxy hx0 hy0 HXX HYY
        have hx2 := (hb2.block w.heap.size (by omega)).trans hx1
        have hz2 := hb2.size
        have B2 := Num.hide (hb1.trans (hb2.mono hb1.size))
        clear hb1 hb2 hx1
        go_wp2_with fail
        refine (HR.out _ _ hxs (HS.out _ B2.out)).mono ?_
        rintro e w3 ⟨rfl, hb3⟩
        have hx3 := (hb3.block w.heap.size (by omega)).trans hx2
        have B3 := Num.hide (B2.out.trans (hb3.mono B2.out.size))
        have BX := Num.hide (box_of hx3)
        obtain ⟨b0, b1, g0, g1⟩ := box_of hx3
        obtain ⟨em, eb, _, _, _⟩ := HE.out _ B3.out
        have km := (World.cell?_setCell_other w3 ⟨w.heap.size, 0, none⟩ ⟨0, 0, none⟩ (.string ⟨#[]⟩) (by simp <;> omega)).trans em
        have kb := (World.cell?_setCell_other w3 ⟨w.heap.size, 0, none⟩ ⟨1, 0, none⟩ (.string ⟨#[]⟩) (by simp <;> omega)).trans eb
        rw [hn1, hn2]
        clear hx2 hx3 hb3 HC HR HM HS HE
        go_wp2
        go_region
        go_wp2
        obtain ⟨r0, r1⟩ := box_put BX.out (.string ⟨#[]⟩) (.int .i64 0)
        have BF := Num.hide ((B3.out.setCell (p := ⟨w.heap.size, 0, none⟩) (Nat.le_refl _) (.string ⟨#[]⟩)).setCell (p := ⟨w.heap.size, 1, none⟩) (Nat.le_refl _) (.int .i64 0))
        have BD := Num.hide BF.out.drew
        exact bodyPost_ret (v := .tuple #[.agg #[.string ⟨#[]⟩, .int .i64 0], errV m b 2]) (by simp [results, Tryz.results43, go_sem, r0, r1, errV]) rfl ⟨rfl, BD.out⟩
      · have q1 : decide ((room : Int) < (k : Int)) = false := by simp at hg ⊢; omega
        have hk2 : (k : Int).toNat = k := by omega
        by_cases hsh : s.size < i + 2 + (k : Int).toNat + 2
        · have q2 : decide (((s.size - (i + 2) : Nat) : Int) < (k : Int) + 2) = true := by simp at hsh ⊢; omega
          rw [pc_short he hx hg hsh] at hV
          subst hV
          clear he hx
          generalize s.extract a s.size = t at HC hz
          obtain ⟨yy, hyy⟩ : ∃ q, s.extract (i + 2) s.size = q := ⟨_, rfl⟩
          rw [hyy] at hy
          have HYY := Num.hide hyy
          clear hyy
          obtain ⟨xx, hxx⟩ : ∃ q, s.extract a i = q := ⟨_, rfl⟩
          rw [hxx] at hxz hn1 hn2
          have HXX := Num.hide hxx
          clear hxx
          go_enter Tryz.func43, Tryz.ntmps43
          go_wp2_with fail
          have hb1 : Below w.heap.size w (w.alloc (.cells #[.string ⟨#[]⟩, .int .i64 0] 74)) := (Below.refl _ w).alloc (Nat.le_refl _) _
          have hx1 := World.alloc_heap_new w (.cells #[.string ⟨#[]⟩, .int .i64 0] 74)
          have hz1 : (w.alloc (.cells #[.string ⟨#[]⟩, .int .i64 0] 74)).heap.size = w.heap.size + 1 := by simp
          refine (HC.out _ (HM.out _ hb1)).mono ?_
          generalize w.alloc (.cells #[.string ⟨#[]⟩, .int .i64 0] 74) = w1 at hb1 hx1 hz1
          rintro e w2 ⟨x, y, rfl, hxs, hxy, hb2⟩
          obtain ⟨hx0, hy0⟩ := hxy i rfl
          obtain rfl := hx0.trans HXX.out
          obtain rfl := hy0.trans HYY.out
          clear hxy hx0 hy0 HXX HYY
          have hx2 := (hb2.block w.heap.size (by omega)).trans hx1
          have hz2 := hb2.size
          have B2 := Num.hide (hb1.trans (hb2.mono hb1.size))
          clear hb1 hb2 hx1
          go_wp2_with fail
          refine (HR.out _ _ hxs (HS.out _ B2.out)).mono ?_
          rintro e w3 ⟨rfl, hb3⟩
          have hx3 := (hb3.block w.heap.size (by omega)).trans hx2
          have B3 := Num.hide (B2.out.trans (hb3.mono B2.out.size))
          have BX := Num.hide (box_of hx3)
          obtain ⟨b0, b1, g0, g1⟩ := box_of hx3
          obtain ⟨em, eb, _, _, _⟩ := HE.out _ B3.out
          have km := (World.cell?_setCell_other w3 ⟨w.heap.size, 0, none⟩ ⟨0, 0, none⟩ (.string ⟨#[]⟩) (by simp <;> omega)).trans em
          have kb := (World.cell?_setCell_other w3 ⟨w.heap.size, 0, none⟩ ⟨1, 0, none⟩ (.string ⟨#[]⟩) (by simp <;> omega)).trans eb
          rw [hn1, hn2]
          clear hx2 hx3 hb3 HC HR HM HS HE
          go_wp2
          go_region
          go_wp2
          obtain ⟨r0, r1⟩ := box_put BX.out (.string ⟨#[]⟩) (.int .i64 0)
          have BF := Num.hide ((B3.out.setCell (p := ⟨w.heap.size, 0, none⟩) (Nat.le_refl _) (.string ⟨#[]⟩)).setCell (p := ⟨w.heap.size, 1, none⟩) (Nat.le_refl _) (.int .i64 0))
          have BD := Num.hide BF.out.drew
          exact bodyPost_ret (v := .tuple #[.agg #[.string ⟨#[]⟩, .int .i64 0], errV m b 1]) (by simp [results, Tryz.results43, go_sem, r0, r1, errV]) rfl ⟨rfl, BD.out⟩
        · have q2 : decide (((s.size - (i + 2) : Nat) : Int) < (k : Int) + 2) = false := by simp at hsh ⊢; omega
          have e3 : (s.extract (i + 2) s.size).extract k (s.size - (i + 2)) = s.extract (i + 2 + k) s.size := by
            rw [ByteArray.extract_extract]
            congr 1
            omega
          have e4 : (s.extract (i + 2) s.size).extract 0 k = s.extract (i + 2) (i + 2 + k) := by
            rw [ByteArray.extract_extract]
            congr 1
            omega
          have hpr := pre_two s (i + 2 + k) (by omega)
          have HPr := Num.hide (fun W => HP.out (s.extract (i + 2 + k) s.size) W)
          rw [hpr] at HPr
          clear hpr HP
          by_cases hb : byteAt s (i + 2 + (k : Int).toNat) = 13 ∧ byteAt s (i + 2 + (k : Int).toNat + 1) = 10
          · rw [pc_ok he hx hg hsh hb] at hV
            rw [hk2] at hb hV
            rw [decide_eq_true hb] at HPr
            subst hV
            clear he hx hb
            generalize s.extract a s.size = t at HC hz
            obtain ⟨yy, hyy⟩ : ∃ q, s.extract (i + 2) s.size = q := ⟨_, rfl⟩
            rw [hyy] at hy e3 e4
            have HYY := Num.hide hyy
            clear hyy
            obtain ⟨xx, hxx⟩ : ∃ q, s.extract a i = q := ⟨_, rfl⟩
            rw [hxx] at hxz hn1 hn2
            have HXX := Num.hide hxx
            clear hxx
            generalize s.extract (i + 2 + k) s.size = zz at e3 HPr
            generalize s.extract (i + 2) (i + 2 + k) = vv at e4
            go_enter Tryz.func43, Tryz.ntmps43
            go_wp2_with fail
            have hb1 : Below w.heap.size w (w.alloc (.cells #[.string ⟨#[]⟩, .int .i64 0] 74)) := (Below.refl _ w).alloc (Nat.le_refl _) _
            have hx1 := World.alloc_heap_new w (.cells #[.string ⟨#[]⟩, .int .i64 0] 74)
            have hz1 : (w.alloc (.cells #[.string ⟨#[]⟩, .int .i64 0] 74)).heap.size = w.heap.size + 1 := by simp
            refine (HC.out _ (HM.out _ hb1)).mono ?_
            generalize w.alloc (.cells #[.string ⟨#[]⟩, .int .i64 0] 74) = w1 at hb1 hx1 hz1
            rintro e w2 ⟨x, y, rfl, hxs, hxy, hb2⟩
            obtain ⟨hx0, hy0⟩ := hxy i rfl
            obtain rfl := hx0.trans HXX.out
            obtain rfl := hy0.trans HYY.out
            clear hxy hx0 hy0 HXX HYY
            have hx2 := (hb2.block w.heap.size (by omega)).trans hx1
            have hz2 := hb2.size
            have B2 := Num.hide (hb1.trans (hb2.mono hb1.size))
            clear hb1 hb2 hx1
            go_wp2_with fail
            refine (HR.out _ _ hxs (HS.out _ B2.out)).mono ?_
            rintro e w3 ⟨rfl, hb3⟩
            have hx3 := (hb3.block w.heap.size (by omega)).trans hx2
            have B3 := Num.hide (B2.out.trans (hb3.mono B2.out.size))
            have BX := Num.hide (box_of hx3)
            obtain ⟨b0, b1, g0, g1⟩ := box_of hx3
            obtain ⟨em, eb, _, _, _⟩ := HE.out _ B3.out
            have km := (World.cell?_setCell_other w3 ⟨w.heap.size, 0, none⟩ ⟨0, 0, none⟩ (.string ⟨#[]⟩) (by simp <;> omega)).trans em
            have kb := (World.cell?_setCell_other w3 ⟨w.heap.size, 0, none⟩ ⟨1, 0, none⟩ (.string ⟨#[]⟩) (by simp <;> omega)).trans eb
            rw [hn1, hn2]
            clear hx2 hx3 hb3 HC HR HM HS HE
            go_wp2_with fail
            refine (HPr.out _).mono ?_
            rintro e w4 ⟨rfl, rfl⟩
            go_wp2
            obtain ⟨r0, r1⟩ := box_put BX.out (.string vv) (.int .i64 (((i - a : Nat) : Int) + (k : Int) + 4))
            have BF := Num.hide ((B3.out.setCell (p := ⟨w.heap.size, 0, none⟩) (Nat.le_refl _) (.string vv)).setCell (p := ⟨w.heap.size, 1, none⟩) (Nat.le_refl _) (.int .i64 (((i - a : Nat) : Int) + (k : Int) + 4)))
            have BD := BF
            generalize (w4.setCell ⟨w.heap.size, 0, none⟩ (.string vv)).setCell ⟨w.heap.size, 1, none⟩ (.int .i64 (((i - a : Nat) : Int) + (k : Int) + 4)) = wf at r0 r1 BD ⊢
            exact bodyPost_ret (v := .tuple #[.agg #[.string vv, .int .i64 (((i - a : Nat) : Int) + (k : Int) + 4)], errV m b 0]) (by simp [results, Tryz.results43, go_sem, r0, r1, errV]) rfl ⟨by simp [pcV], BD.out⟩
          · rw [pc_noend he hx hg hsh hb] at hV
            rw [hk2] at hb
            rw [decide_eq_false hb] at HPr
            subst hV
            clear he hx hb
            generalize s.extract a s.size = t at HC hz
            obtain ⟨yy, hyy⟩ : ∃ q, s.extract (i + 2) s.size = q := ⟨_, rfl⟩
            rw [hyy] at hy e3 e4
            have HYY := Num.hide hyy
            clear hyy
            obtain ⟨xx, hxx⟩ : ∃ q, s.extract a i = q := ⟨_, rfl⟩
            rw [hxx] at hxz hn1 hn2
            have HXX := Num.hide hxx
            clear hxx
            generalize s.extract (i + 2 + k) s.size = zz at e3 HPr
            generalize s.extract (i + 2) (i + 2 + k) = vv at e4
            go_enter Tryz.func43, Tryz.ntmps43
            go_wp2_with fail
            have hb1 : Below w.heap.size w (w.alloc (.cells #[.string ⟨#[]⟩, .int .i64 0] 74)) := (Below.refl _ w).alloc (Nat.le_refl _) _
            have hx1 := World.alloc_heap_new w (.cells #[.string ⟨#[]⟩, .int .i64 0] 74)
            have hz1 : (w.alloc (.cells #[.string ⟨#[]⟩, .int .i64 0] 74)).heap.size = w.heap.size + 1 := by simp
            refine (HC.out _ (HM.out _ hb1)).mono ?_
            generalize w.alloc (.cells #[.string ⟨#[]⟩, .int .i64 0] 74) = w1 at hb1 hx1 hz1
            rintro e w2 ⟨x, y, rfl, hxs, hxy, hb2⟩
            obtain ⟨hx0, hy0⟩ := hxy i rfl
            obtain rfl := hx0.trans HXX.out
            obtain rfl := hy0.trans HYY.out
            clear hxy hx0 hy0 HXX HYY
            have hx2 := (hb2.block w.heap.size (by omega)).trans hx1
            have hz2 := hb2.size
            have B2 := Num.hide (hb1.trans (hb2.mono hb1.size))
            clear hb1 hb2 hx1
            go_wp2_with fail
            refine (HR.out _ _ hxs (HS.out _ B2.out)).mono ?_
            rintro e w3 ⟨rfl, hb3⟩
            have hx3 := (hb3.block w.heap.size (by omega)).trans hx2
            have B3 := Num.hide (B2.out.trans (hb3.mono B2.out.size))
            have BX := Num.hide (box_of hx3)
            obtain ⟨b0, b1, g0, g1⟩ := box_of hx3
            obtain ⟨em, eb, _, _, _⟩ := HE.out _ B3.out
            have km := (World.cell?_setCell_other w3 ⟨w.heap.size, 0, none⟩ ⟨0, 0, none⟩ (.string ⟨#[]⟩) (by simp <;> omega)).trans em
            have kb := (World.cell?_setCell_other w3 ⟨w.heap.size, 0, none⟩ ⟨1, 0, none⟩ (.string ⟨#[]⟩) (by simp <;> omega)).trans eb
            rw [hn1, hn2]
            clear hx2 hx3 hb3 HC HR HM HS HE
            go_wp2_with fail
            refine (HPr.out _).mono ?_
            rintro e w4 ⟨rfl, rfl⟩
            go_wp2
            go_region
            go_wp2
            obtain ⟨r0, r1⟩ := box_put BX.out (.string ⟨#[]⟩) (.int .i64 0)
            have BF := Num.hide ((B3.out.setCell (p := ⟨w.heap.size, 0, none⟩) (Nat.le_refl _) (.string ⟨#[]⟩)).setCell (p := ⟨w.heap.size, 1, none⟩) (Nat.le_refl _) (.int .i64 0))
            have BD := Num.hide BF.out.drew
            exact bodyPost_ret (v := .tuple #[.agg #[.string ⟨#[]⟩, .int .i64 0], errV m b 2]) (by simp [results, Tryz.results43, go_sem, r0, r1, errV]) rfl ⟨rfl, BD.out⟩
end Body
end Go.Proofs.YtpkkkfmdgpghjaaGreatDoor
namespace Go.Proofs.YtpkkkfmdgpghjaaGreatDoor
open Go.RowKit Go.Shelf
attribute [local go_sem] Oper.semAt_some
set_option linter.unusedVariables false
namespace Body

/-- a piece, as it is handed on -/
abbrev Pc := { x : Pc0 // x.1.size ≤ 60 ∧ x.2.1 ≤ 4194304 ∧ x.2.2 ≤ 2 }
def catB (l : List Pc) : ByteArray := l.foldl (fun o x => o ++ x.1.1) ⟨#[]⟩
def sumU (l : List Pc) : Nat := l.foldl (fun n x => n + x.1.2.1) 0
theorem catB_snoc (l : List Pc) (x : Pc) : catB (l ++ [x]) = catB l ++ x.1.1 := by unfold catB; rw [List.foldl_append]; rfl
theorem sumU_snoc (l : List Pc) (x : Pc) : sumU (l ++ [x]) = sumU l + x.1.2.1 := by unfold sumU; rw [List.foldl_append]; rfl
/-- of what there was all rows of pieces stay, and all that is old -/
def KeepP (n : Nat) (W W' : World) : Prop := Below n W W' ∧ ∀ (k : Nat) (c : Array Value) (fz : Nat × Nat), W.heap[k]? = some (.cells c 74 fz) → W'.heap[k]? = some (.cells c 74 fz)
theorem keepP_t {n : Nat} {A B C : World} (h : KeepP n A B) (g : KeepP n B C) : KeepP n A C := ⟨h.1.trans g.1, fun k c fz hk => g.2 k c fz (h.2 k c fz hk)⟩
theorem keepP_b {n : Nat} {w : World} (hn : n ≤ w.heap.size) (W : World) (l : Nat) (o o' : Obj) (hl : w.heap.size ≤ l) (h : W.heap[l]? = some o) (hc : o.isCells = false) (hw : o.isWalk = false) : KeepP n W (W.putObj l o') :=
  ⟨belowK_b hn W l o o' hl h hc hw, fun k c fz hk => (World.putObj_heap_other (by rintro rfl; rw [h] at hk; cases hk; cases hc)).trans hk⟩
theorem grown_of_below {W W' : World} (h : Below W.heap.size W W') : W.grownBy W' none := ⟨h.os, h.tape, h.output, h.size, fun k hk _ => h.block k hk⟩
/-- what is known at the end, and where it was left -/
def PEnd (s : ByteArray) (xs : List Pc) : Prop := (∀ x ∈ xs, x.1.2.2 = 0) → unchunk s = (catB xs, (sumU xs : Int), 0)
def PLeft (s : ByteArray) (xs : List Pc) : Prop := ∀ init x, xs = init ++ [x] → x.1.2.2 ≠ 0 → unchunk s = (⟨#[]⟩, 0, (x.1.2.2 : Int))
theorem snoc_inj {α : Type} {l l' : List α} {x x' : α} (h : l ++ [x] = l' ++ [x']) : l = l' ∧ x = x' := by
  have := List.append_inj' h rfl
  exact ⟨this.1, by simpa using this.2⟩
set_option maxRecDepth 100000 in
set_option maxHeartbeats 4000000 in
theorem pieces_stops (n n0 k1 : Nat) (s : ByteArray) (m b : Addr) (w : World) (hn : 1 ≤ n) (hs : s.size ≤ 1048576) (hn0 : n0 ≤ w.heap.size)
    (hG : ∀ W, Below n0 w W → Lim W ∧ Syn W ∧ Errs m b W)
    (h1 : w.heap[k1]? = some (.cells #[.string s] 9 (0, 0))) :
    SeqStopsK Fence.wide n Tryz.prog 42 #[.pointer (some ⟨k1, 0, none⟩)] (fun x : Pc => #[Value.agg #[.string x.1.1, .int .i64 (x.1.2.1 : Int)], errV m b x.1.2.2]) (KeepP n0) (PEnd s) (PLeft s) (s.size + 1) w := fun l J Jx W hW hJ hJx hY h0 => by
  have hW1 := (hW.block k1 (Array.getElem?_eq_some_iff.1 h1).1).trans h1
  have hc1 : W.cell? ⟨k1, 0, none⟩ = some (.string s) := by simp [World.cell?, hW1]
  have HY := Num.hide hY
  have HJ := Num.hide hJ
  have H0 := Num.hide h0
  have HG := Num.hide hG
  have HW := Num.hide (hW.mono hn0)
  clear hW hJ hJx hY h0 hW1 h1 hG
  refine callsIn_of_wp Tryz.func42 rfl trivial ?_ rfl
  simp only [Tryz.ntmps42, List.size_toArray, List.length_cons, List.length_nil, Nat.reduceAdd, Nat.reduceSub, Array.replicate_succ, Array.replicate_zero, List.push_toArray, List.append_toArray, List.nil_append, List.cons_append]
  gi_wp2
  gi_loopw [3, 4] (fun rv ov wr => ∃ (a room : Nat) (pre : List Pc), rv = .string (s.extract a s.size) ∧ ov = .int .i64 (room : Int) ∧ a ≤ s.size ∧ room ≤ 60 ∧ pre.length ≤ a ∧ Hid (room + (catB pre).size = 60 ∧ UnAt s a (catB pre) ∧ sumU pre = a ∧ ∀ x ∈ pre, x.1.2.2 = 0) ∧ Hid (J pre wr) ∧ Hid (Below n0 w wr) ∧ W.heap.size ≤ wr.heap.size) (fun rv _ _ => match rv with | .string t => t.size | _ => 0)
  case atStart => exact ⟨0, 60, [], by simp, rfl, Nat.zero_le _, Nat.le_refl _, Nat.le_refl _, ⟨rfl, un_start s, rfl, fun x h => by cases h⟩, H0, HW, Nat.le_refl _⟩
  case round =>
    obtain ⟨a, room, pre, rfl, rfl, ha, hr, hpl, HA, HJp, HB, hzs⟩ := hrel
    obtain ⟨hm, hS, hE⟩ := HG.out _ HB.out
    have HC := Num.hide (piece_impl s a room m b wr hs ha hr hm hS hE)
    have hz : (s.extract a s.size).size = s.size - a := by rw [ByteArray.size_extract]; omega
    have hcd := pc_code (s := s) (a := a) (room := room)
    have HT := Num.hide (fun h => pc_told (room := room) HA.out.2.1 HA.out.1 h)
    have HRt := Num.hide (fun h => pc_right (room := room) HA.out.2.1 HA.out.1 h)
    clear hm hS hE
    unfold pcV at HC
    generalize pieceAt s a room = X at HC hcd HT HRt
    obtain ⟨t, u, c⟩ := X
    have hpn : pre.length < s.size + 1 := by omega
    by_cases hc : c = 0
    · subst hc
      obtain ⟨g1, g2, g3, g4, g5⟩ := HRt.out rfl
      have G4 := Num.hide g4
      have G5 := Num.hide g5
      replace g1 : t.size ≤ room := g1
      replace g2 : a + u ≤ s.size := g2
      have hp : t.size ≤ 60 ∧ u ≤ 4194304 ∧ 0 ≤ 2 := ⟨Nat.le_trans g1 hr, by omega, hcd⟩
      clear g4 g5 HT HRt hcd
      simp only [errV] at HC
      by_cases ht : t.size = 0
      · obtain rfl : t = ⟨#[]⟩ := Sign.empty_true _ ht
        have HYx := Num.hide (fun W => HY.out pre ⟨(⟨#[]⟩, u, 0), hp⟩ W)
        gi_wp2_with (refine ⟨trivial, ?_⟩; gi_at_call 43; refine (callsIn_wide.2 HC.out).mono ?_; rintro e w1 ⟨rfl, hb1⟩; have hb2 : Below wr.heap.size wr (w1.alloc (.cells #[.string ⟨#[]⟩, .int .i64 (u : Int)] 74)) := hb1.alloc hb1.size _; have hbx := World.alloc_heap_new w1 (.cells #[.string ⟨#[]⟩, .int .i64 (u : Int)] 74); obtain ⟨fn, tmps, assign, body, hy, hR⟩ := HYx.out _ (HJ.out pre wr _ none HJp.out (grown_of_below hb2) (fun r e => by cases e)) hpn; simp only [errV] at hy; have HR := Num.hide hR; have hws := hb2.size; have HB2 := Num.hide (HB.out.trans (hb2.mono (Nat.le_trans hn0 HB.out.size))); clear hR hb1 hb2 HC)
        refine HR.out.mono ?_
        rintro e W3 (⟨rfl, hJ3, hk3⟩ | ⟨rfl, hJx3⟩)
        · have hbx3 := hk3.2 _ _ _ hbx
          have c0 : W3.cell? ⟨w1.heap.size, 0, none⟩ = some (.string ⟨#[]⟩) := by simp [World.cell?, hbx3]
          have HJ3 := Num.hide hJ3
          clear hk3 hJ3
          gi_wp2
          refine bodyPost_ret (results_none rfl _ _ _) rfl ?_
          exact ⟨⟨_, rfl⟩, .inl ⟨_, fun _ => by rw [catB_snoc, sumU_snoc, HA.out.2.2.1]; exact G4.out rfl, HJ3.out⟩⟩
        · have HJ3 := Num.hide hJx3
          clear hJx3
          gi_wp2
          refine bodyPost_ret (results_none rfl _ _ _) rfl ?_
          exact ⟨⟨_, rfl⟩, .inr ⟨_, fun init x he hx => by obtain ⟨rfl, rfl⟩ := snoc_inj he; exact absurd rfl hx, HJ3.out⟩⟩
      · have hne := Sign.empty_false t (by omega)
        have HYx := Num.hide (fun W => HY.out pre ⟨(t, u, 0), hp⟩ W)
        gi_wp2_with (refine ⟨trivial, ?_⟩; gi_at_call 43; refine (callsIn_wide.2 HC.out).mono ?_; rintro e w1 ⟨rfl, hb1⟩; have hb2 : Below wr.heap.size wr (w1.alloc (.cells #[.string t, .int .i64 (u : Int)] 74)) := hb1.alloc hb1.size _; have hbx := World.alloc_heap_new w1 (.cells #[.string t, .int .i64 (u : Int)] 74); obtain ⟨fn, tmps, assign, body, hy, hR⟩ := HYx.out _ (HJ.out pre wr _ none HJp.out (grown_of_below hb2) (fun r e => by cases e)) hpn; simp only [errV] at hy; have HR := Num.hide hR; have hws := hb2.size; have HB2 := Num.hide (HB.out.trans (hb2.mono (Nat.le_trans hn0 HB.out.size))); clear hR hb1 hb2 HC)
        refine HR.out.mono ?_
        rintro e W3 (⟨rfl, hJ3, hk3⟩ | ⟨rfl, hJx3⟩)
        · have hbx3 := hk3.2 _ _ _ hbx
          have c0 : W3.cell? ⟨w1.heap.size, 0, none⟩ = some (.string t) := by simp [World.cell?, hbx3]
          have c1 : W3.cell? ⟨w1.heap.size, 1, none⟩ = some (.int .i64 (u : Int)) := by simp [World.cell?, hbx3]
          have HJ3 := Num.hide hJ3
          have HB3 := Num.hide (HB2.out.trans hk3.1)
          have hz3 := hk3.1.size
          clear hk3 hJ3
          have hsl : (s.extract a s.size).extract u (s.size - a) = s.extract (a + u) s.size := by
            rw [ByteArray.extract_extract]
            congr 1
            omega
          have hmx : Tryz.prog.follows .mixedOrders = true := by kernel_rfl
          gi_wp2
          gi_region_o
          all_goals gi_wp2
          have HJd : Hid (J (pre ++ [⟨(t, u, 0), hp⟩]) W3.drew) := HJ.out _ W3 _ none HJ3.out (grown_of_below ((Below.refl _ W3).drew)) (fun r e => by cases e)
          have hlast : Hid (room - t.size + (catB (pre ++ [⟨(t, u, 0), hp⟩])).size = 60 ∧ UnAt s (a + u) (catB (pre ++ [⟨(t, u, 0), hp⟩])) ∧ sumU (pre ++ [⟨(t, u, 0), hp⟩]) = a + u ∧ ∀ x ∈ (pre ++ [⟨(t, u, 0), hp⟩]), x.1.2.2 = 0) := by
            have g := HA.out
            refine ⟨by rw [catB_snoc, ByteArray.size_append]; have := g.1; show room - t.size + ((catB pre).size + t.size) = 60; omega, by rw [catB_snoc]; exact G5.out ht, by rw [sumU_snoc, g.2.2.1], fun x hx => ?_⟩
            rcases List.mem_append.1 hx with hx | hx
            · exact g.2.2.2 x hx
            · obtain rfl := List.mem_singleton.1 hx
              rfl
          go_roundw
          case rel => exact ⟨a + u, room - t.size, _, rfl, by congr 1; omega, g2, by omega, by rw [List.length_append, List.length_singleton]; omega, hlast, HJd, HB3.out.drew, by show W.heap.size ≤ W3.heap.size; omega⟩
          case measure => simp only [ByteArray.size_extract]; omega
        · have HJ3 := Num.hide hJx3
          clear hJx3
          gi_wp2
          refine bodyPost_ret (results_none rfl _ _ _) rfl ?_
          exact ⟨⟨_, rfl⟩, .inr ⟨_, fun init x he hx => by obtain ⟨rfl, rfl⟩ := snoc_inj he; exact absurd rfl hx, HJ3.out⟩⟩
    · obtain ⟨g1, rfl, rfl⟩ := HT.out hc
      have G1 := Num.hide g1
      have hp : (⟨#[]⟩ : ByteArray).size ≤ 60 ∧ 0 ≤ 4194304 ∧ c ≤ 2 := ⟨by decide, by omega, hcd⟩
      obtain ⟨ad, had⟩ : ∃ ad, errV m b c = .iface 130 (.pointer (some ad)) := by
        match c, hc, hcd with
        | 1, _, _ => exact ⟨m, rfl⟩
        | 2, _, _ => exact ⟨b, rfl⟩
      have HYx := Num.hide (fun W => HY.out pre ⟨(⟨#[]⟩, 0, c), hp⟩ W)
      simp only [had] at HYx
      rw [had, show ((0 : Nat) : Int) = 0 from rfl] at HC
      clear g1 HT HRt
      gi_wp2_with (refine ⟨trivial, ?_⟩; gi_at_call 43; refine (callsIn_wide.2 HC.out).mono ?_; rintro e w1 ⟨rfl, hb1⟩; have hb2 : Below wr.heap.size wr (w1.alloc (.cells #[.string ⟨#[]⟩, .int .i64 0] 74)) := hb1.alloc hb1.size _; have hbx := World.alloc_heap_new w1 (.cells #[.string ⟨#[]⟩, .int .i64 0] 74); obtain ⟨fn, tmps, assign, body, hy, hR⟩ := HYx.out _ (HJ.out pre wr _ none HJp.out (grown_of_below hb2) (fun r e => by cases e)) hpn; rw [show ((0 : Nat) : Int) = 0 from rfl] at hy; have HR := Num.hide hR; have hws := hb2.size; have HB2 := Num.hide (HB.out.trans (hb2.mono (Nat.le_trans hn0 HB.out.size))); clear hR hb1 hb2 HC)
      refine HR.out.mono ?_
      rintro e W3 (⟨rfl, hJ3, hk3⟩ | ⟨rfl, hJx3⟩)
      · have HJ3 := Num.hide hJ3
        clear hk3 hJ3
        gi_wp2
        refine bodyPost_ret (results_none rfl _ _ _) rfl ?_
        exact ⟨⟨_, rfl⟩, .inl ⟨_, fun h => absurd (h _ (List.mem_append.2 (.inr (List.mem_singleton.2 rfl)))) hc, HJ3.out⟩⟩
      · have HJ3 := Num.hide hJx3
        clear hJx3
        gi_wp2
        refine bodyPost_ret (results_none rfl _ _ _) rfl ?_
        exact ⟨⟨_, rfl⟩, .inr ⟨_, fun init x he hx => by obtain ⟨rfl, rfl⟩ := snoc_inj he; exact G1.out, HJ3.out⟩⟩
end Body
end Go.Proofs.YtpkkkfmdgpghjaaGreatDoor
namespace Go.Proofs.YtpkkkfmdgpghjaaGreatDoor
open Go.RowKit Go.Shelf
set_option linter.unusedVariables false
namespace Body

theorem catB_le (l : List Pc) : (catB l).size ≤ 60 * l.length := by
  refine Num.snoc_ind (P := fun l => (catB l).size ≤ 60 * l.length) (by decide) ?_ l
  intro l x ih
  have := x.2.1
  rw [catB_snoc, ByteArray.size_append, List.length_append, List.length_singleton]
  omega
theorem sumU_le (l : List Pc) : sumU l ≤ 4194304 * l.length := by
  refine Num.snoc_ind (P := fun l => sumU l ≤ 4194304 * l.length) (by decide) ?_ l
  intro l x ih
  have := x.2.2.1
  rw [sumU_snoc, List.length_append, List.length_singleton]
  omega
theorem boxed_rows {W W' : World} {k : Nat} {t : TypeId} {v : Value} (h : Boxed W k t v) (hr : RowsStay W W') : Boxed W' k t v := hr _ _ _ _ h
/-- all rows but one stay -/
theorem isb_set {T e : TypeId} {B b q : Nat} {bs : List Value} {W : World} {t : TypeId} {v : Value} (h : Lib.IsBuilderF T e B b bs W) (hq : Boxed W q t v) (ht : t ≠ e) (hb : q ≠ b) (u : Value) : Lib.IsBuilderF T e B b bs (W.setCell ⟨q, 0, none⟩ u) := by
  have hk : ∀ k, k ≠ q → (W.setCell ⟨q, 0, none⟩ u).heap[k]? = W.heap[k]? := fun k hk => Below.heap_setCell _ _ _ _ (fun e => hk e)
  have key : ∀ p, Lib.BuilderAtF T e B b p bs W → Lib.BuilderAtF T e B b p bs (W.setCell ⟨q, 0, none⟩ u) := by
    rintro p ⟨hB, v', hb', ⟨h1, h2⟩, hne⟩
    refine ⟨hB, v', (hk b (fun e => hb e.symm)).trans hb', ⟨h1, ?_⟩, hne⟩
    rcases h2 with h2 | ⟨g, cap, cur, fz, e1, e2, e3, e4⟩
    · exact .inl h2
    · refine .inr ⟨g, cap, cur, fz, e1, e2, (hk g ?_).trans e3, e4⟩
      rintro rfl
      rw [show W.heap[g]? = _ from hq] at e3
      cases e3
      exact ht rfl
  exact h.elim (fun x => .inl (key _ x)) (fun x => .inr (key _ x))
/-- between two pieces -/
structure JInv (w : World) (q1 q2 q3 q4 : Nat) (pre : List Pc) (W : World) : Prop where
  r0 : Boxed W w.heap.size 9 (.string ⟨#[]⟩)
  r1 : Boxed W q1 3 (.int .i64 0)
  r2 : Boxed W q2 50 .nilIface
  bd : Lib.IsBuilderF 45 5 q3 q3 (Lib.byteCells (catB pre).data.toList) W
  us : Boxed W q4 3 (.int .i64 (sumU pre : Int))
  be : Below w.heap.size w W
  ok : ∀ x ∈ pre, x.1.2.2 = 0
theorem jinv_rows {w : World} {q1 q2 q3 q4 : Nat} {pre : List Pc} {W W' : World} (h : JInv w q1 q2 q3 q4 pre W) (hr : RowsStay W W') (hb : Below w.heap.size w W') : JInv w q1 q2 q3 q4 pre W' :=
  ⟨boxed_rows h.r0 hr, boxed_rows h.r1 hr, boxed_rows h.r2 hr, isb_rows h.bd hr, boxed_rows h.us hr, hb, h.ok⟩
theorem jinv_own {n : Nat} (w : World) (q1 q2 q3 q4 : Nat) (hn : w.heap.size ≤ n) : OwnFrom n (fun pre W => JInv w q1 q2 q3 q4 pre W) := fun s W W' row hs hg hr =>
  jinv_rows hs (rows_turn hg (fun r e => (hr r e).2)) ((ownFrom_below (β := Unit) (Nat.le_refl _) hn) () W W' row hs.be hg hr)
/-- where a piece at fault has been told -/
structure JOut (w : World) (q1 q2 : Nat) (m b : Addr) (c : Code) (pre : List Pc) (W : World) : Prop where
  cr : c = .ret
  last : ∃ init x, pre = init ++ [x] ∧ x.1.2.2 ≠ 0 ∧ Boxed W q2 50 (errV m b x.1.2.2)
  r0 : Boxed W w.heap.size 9 (.string ⟨#[]⟩)
  r1 : Boxed W q1 3 (.int .i64 0)
  be : Below w.heap.size w W
theorem jout_own {n : Nat} (w : World) (q1 q2 : Nat) (m b : Addr) (c : Code) (hn : w.heap.size ≤ n) : OwnFrom n (fun pre W => JOut w q1 q2 m b c pre W) := fun s W W' row hs hg hr => by
  have hrs := rows_turn hg (fun r e => (hr r e).2)
  obtain ⟨init, x, h1, h2, h3⟩ := hs.last
  exact ⟨hs.cr, ⟨init, x, h1, h2, boxed_rows h3 hrs⟩, boxed_rows hs.r0 hrs, boxed_rows hs.r1 hrs, (ownFrom_below (β := Unit) (Nat.le_refl _) hn) () W W' row hs.be hg hr⟩
/-- the piece in its box -/
def JBox (Bx : Nat) (x : Pc) (W : World) : Prop := W.heap[Bx]? = some (.cells #[.string x.1.1, .int .i64 (x.1.2.1 : Int)] 74 (0, 0))
theorem rows_alloc (W : World) (o : Obj) : RowsStay W (W.alloc o) := fun k c t fz hk => (Below.heap_alloc W o k (Array.getElem?_eq_some_iff.1 hk).1).trans hk
end Body
end Go.Proofs.YtpkkkfmdgpghjaaGreatDoor
namespace Go.Proofs.YtpkkkfmdgpghjaaGreatDoor
open Go.RowKit Go.Extern.Stop Go.Stop Go.Extern Go.Extern.ReflectliteType
set_option linter.unusedVariables false
namespace IsErr

theorem typeOf_ (v : Value) (w : World) : (Extern.ReflectliteType.typeOf #[.iface 130 v]).run Tryz.prog w = .ok (.iface 106 (.agg #[.pointer (some ⟨8, 130, none⟩)])) w := by kernel_rfl
/-- what the library's Comparable is in the model -/
def cmpF : TypeId → Sem Value := fun t => do Extern.Rtype.noPackHeld "Comparable" t; pure (.bool (← typeInfo t).comparable)
theorem comparable_ (w : World) : (Extern.ReflectliteType.method cmpF #[.agg #[.pointer (some ⟨8, 130, none⟩)]]).run Tryz.prog w = .ok (.bool true) w := by kernel_rfl
theorem method_ (v : Value) (w : World) : (Go.method 271 106 v "Comparable").run Tryz.prog w = .ok (108, v) w := by kernel_rfl
theorem comp_ : (Tryz.prog.info? 130).map (·.comparable) = some true := by kernel_rfl
theorem size_ : (Tryz.prog.info? 132).map (·.size) = some 1 := by kernel_rfl
theorem noIs (v : Value) (xT : TypeId) (w : World) : (Instr.typeAssert (.iface 130 v) xT 108 true).run Tryz.prog w = .ok (.tuple #[.nilIface, .bool false]) w := run_typeAssert_lacksB Tryz.underlying108 (by kernel_rfl) (by kernel_rfl) v xT w
theorem noUnwrap (v : Value) (xT : TypeId) (w : World) : (Instr.typeAssert (.iface 130 v) xT 111 true).run Tryz.prog w = .ok (.tuple #[.nilIface, .bool false]) w := run_typeAssert_lacksB Tryz.underlying111 (by kernel_rfl) (by kernel_rfl) v xT w
theorem noUnwraps (v : Value) (xT : TypeId) (w : World) : (Instr.typeAssert (.iface 130 v) xT 113 true).run Tryz.prog w = .ok (.tuple #[.nilIface, .bool false]) w := run_typeAssert_lacksB Tryz.underlying113 (by kernel_rfl) (by kernel_rfl) v xT w
set_option maxRecDepth 100000 in
set_option maxHeartbeats 2000000 in
/-- errors.Is(x, x) -/
theorem is_same (a : Addr) (w : World) :
    Calls Tryz.prog 30 #[.iface 130 (.pointer (some a)), .iface 130 (.pointer (some a))] w fun e w' => e = .returned (.bool true) ∧ w = w' := by
  obtain ⟨i, hi, hcmp⟩ := Option.map_eq_some_iff.1 comp_
  obtain ⟨j, hj, hjs⟩ := Option.map_eq_some_iff.1 size_
  have h8 := @run_callFunc_extern Tryz.prog 40 _ Extern.ReflectliteType.typeOf Tryz.func40 (by kernel_rfl) (by kernel_rfl) (by kernel_rfl) (by kernel_rfl)
  have h32 := @run_callFunc_extern Tryz.prog 108 _ (Extern.ReflectliteType.method cmpF) Tryz.func108 (by kernel_rfl) (by kernel_rfl) (by kernel_rfl) (by kernel_rfl)
  have tT := typeOf_
  have cT := comparable_
  have mR := method_
  have heq := run_eql_iface_ptr_same (P := Tryz.prog) w a Tryz.underlying50 Tryz.underlying130 hi hcmp hj
  go_enter Tryz.func30, Tryz.ntmps30
  go_wp2
  refine wp_loop_rounds 1 ?_
  rw [rounds_succ]
  go_wp2
  go_ret
  exact ⟨rfl, rfl⟩
/-- errors.Is(nil, x) -/
theorem is_nil (b : Addr) (w : World) :
    Calls Tryz.prog 30 #[.nilIface, .iface 130 (.pointer (some b))] w fun e w' => e = .returned (.bool false) ∧ w = w' := by
  have hn := run_eql_iface_nil_left (P := Tryz.prog) w 130 (.pointer (some b)) Tryz.underlying50
  go_enter Tryz.func30, Tryz.ntmps30
  go_wp2
  go_ret
  exact ⟨rfl, rfl⟩
set_option maxRecDepth 100000 in
set_option maxHeartbeats 2000000 in
/-- errors.Is(x, y), two pointers that differ -/
theorem is_other (a b : Addr) (ca cb : Array Value) (ta tb : TypeId) (w : World) (hne : a ≠ b) (ha : w.heap[a.block]? = some (.cells ca ta (0, 0))) (hb : w.heap[b.block]? = some (.cells cb tb (0, 0))) :
    Calls Tryz.prog 30 #[.iface 130 (.pointer (some a)), .iface 130 (.pointer (some b))] w fun e w' => e = .returned (.bool false) ∧ w = w' := by
  obtain ⟨i, hi, hcmp⟩ := Option.map_eq_some_iff.1 comp_
  obtain ⟨j, hj, hjs⟩ := Option.map_eq_some_iff.1 size_
  have h8 := @run_callFunc_extern Tryz.prog 40 _ Extern.ReflectliteType.typeOf Tryz.func40 (by kernel_rfl) (by kernel_rfl) (by kernel_rfl) (by kernel_rfl)
  have h32 := @run_callFunc_extern Tryz.prog 108 _ (Extern.ReflectliteType.method cmpF) Tryz.func108 (by kernel_rfl) (by kernel_rfl) (by kernel_rfl) (by kernel_rfl)
  have tT := typeOf_
  have cT := comparable_
  have mR := method_
  have nE := noIs
  have uE := noUnwrap
  have vE := noUnwraps
  have heq := run_eql_iface_ptr_other (P := Tryz.prog) w Tryz.underlying50 Tryz.underlying130 hi hcmp hj (by rw [hjs]; decide) hne ha hb
  go_enter Tryz.func30, Tryz.ntmps30
  go_wp2
  refine wp_loop_rounds 1 ?_
  rw [rounds_succ]
  go_wp2
  go_ret
  exact ⟨rfl, rfl⟩
end IsErr
end Go.Proofs.YtpkkkfmdgpghjaaGreatDoor
namespace Go.Proofs.YtpkkkfmdgpghjaaGreatDoor
open Go.RowKit
set_option linter.unusedVariables false
namespace Body

/-- what is told -/
def tell (t : ByteArray) (u : Int) (c : Nat) : Told := if c = 0 then (t, u, 0) else (⟨#[]⟩, 0, (c : Int))
set_option maxRecDepth 100000 in
set_option maxHeartbeats 2000000 in
theorem tell_impl (t : ByteArray) (u : Int) (c : Nat) (m b : Addr) (w : World) (hc : c ≤ 2) (hE : Errs m b w) :
    Calls Tryz.prog 21 #[.string t, .int .i64 u, errV m b c] w fun e w' => e = .returned (.tuple #[.string (tell t u c).1, .int .i64 (tell t u c).2.1, .int .i64 (tell t u c).2.2]) ∧ w = w' := by
  have hm := hE.cm
  obtain ⟨ca, ta, ha⟩ := hE.rm
  obtain ⟨cb, tb, hb⟩ := hE.rb
  match c, hc with
  | 0, _ =>
    have HI := Num.hide (IsErr.is_nil m w)
    clear hE ha hb
    show Calls _ _ #[.string t, .int .i64 u, .nilIface] _ _
    go_enter Tryz.func21, Tryz.ntmps21
    go_wp2_with fail
    refine HI.out.mono ?_
    rintro e w1 ⟨rfl, rfl⟩
    go_wp2
    go_ret3
    exact ⟨rfl, rfl⟩
  | 1, _ =>
    have HI := Num.hide (IsErr.is_same m w)
    clear hE ha hb
    show Calls _ _ #[.string t, .int .i64 u, .iface 130 (.pointer (some m))] _ _
    go_enter Tryz.func21, Tryz.ntmps21
    go_wp2_with fail
    refine HI.out.mono ?_
    rintro e w1 ⟨rfl, rfl⟩
    go_wp2
    go_ret3
    exact ⟨rfl, rfl⟩
  | 2, _ =>
    have HI := Num.hide (IsErr.is_other b m cb ca tb ta w (fun h => hE.ne h.symm) hb ha)
    clear hE ha hb
    show Calls _ _ #[.string t, .int .i64 u, .iface 130 (.pointer (some b))] _ _
    go_enter Tryz.func21, Tryz.ntmps21
    go_wp2_with fail
    refine HI.out.mono ?_
    rintro e w1 ⟨rfl, rfl⟩
    go_wp2
    go_ret3
    exact ⟨rfl, rfl⟩
end Body
end Go.Proofs.YtpkkkfmdgpghjaaGreatDoor
namespace Go.Proofs.YtpkkkfmdgpghjaaGreatDoor
open Go.RowKit Go.Shelf
attribute [local go_sem] Oper.semAt_some
set_option linter.unusedVariables false
namespace Body

set_option maxRecDepth 100000 in
theorem pieces_call (s : ByteArray) (w : World) : Calls Tryz.prog 31 #[.string s] w fun e w' => e = .returned (.func (.func 42) #[] #[.pointer (some ⟨w.heap.size, 0, none⟩)]) ∧ w' = w.alloc (.cells #[.string s] 9) := by
  go_enter Tryz.func31, Tryz.ntmps31
  go_wp2
  go_ret
  exact ⟨rfl, rfl⟩
set_option maxRecDepth 100000 in
set_option maxHeartbeats 4000000 in
theorem join_impl (s : ByteArray) (m b : Addr) (w : World) (hs : s.size ≤ 1048576) (hm : Lim w) (hS : Syn w) (hE : Errs m b w) :
    Calls Tryz.prog 22 #[.string s] w fun e w' => ∃ t u c, e = .returned (.tuple #[.string t, .int .i64 u, errV m b c]) ∧ c ≤ 2 ∧ tell t u c = unchunk s ∧ Below w.heap.size w w' := by
  have HG : Hid (∀ W, Below w.heap.size w W → Lim W ∧ Syn W ∧ Errs m b W) := fun W h => ⟨hm.below h, hS.below h, hE.below h⟩
  clear hm hS hE
  refine (callsIn_wide (n := 3)).1 ?_
  refine callsIn_of_wp_marks Tryz.func22 rfl trivial ?_ rfl
  simp only [Tryz.ntmps22, List.size_toArray, List.length_cons, List.length_nil, Nat.reduceAdd, Nat.reduceSub, Array.replicate_succ, Array.replicate_zero, List.push_toArray, List.append_toArray, List.nil_append, List.cons_append]
  gi_wp2_with (refine ⟨trivial, ?_⟩; gi_at_call 31; refine (callsIn_wide.2 (pieces_call _ _)).mono ?_; rintro e w' ⟨rfl, rfl⟩)
  have hsz : (((((w.alloc (.cells #[.string ⟨#[]⟩] 9)).alloc (.cells #[.int .i64 0] 3)).alloc (.cells #[.nilIface] 50)).alloc (.cells #[.pointer none, .slice none 0 0] 45)).alloc (.cells #[.int .i64 0] 3)).heap.size = w.heap.size + 1 + 1 + 1 + 1 + 1 := by simp
  obtain ⟨W0, hW0⟩ : ∃ W0, (((((w.alloc (.cells #[.string ⟨#[]⟩] 9)).alloc (.cells #[.int .i64 0] 3)).alloc (.cells #[.nilIface] 50)).alloc (.cells #[.pointer none, .slice none 0 0] 45)).alloc (.cells #[.int .i64 0] 3)).alloc (.cells #[.string s] 9) = W0 := ⟨_, rfl⟩
  rw [hW0]
  have hsz0 : W0.heap.size = w.heap.size + 1 + 1 + 1 + 1 + 1 + 1 := by rw [← hW0]; simp
  have hB0 : Below w.heap.size w W0 := by
    rw [← hW0]
    exact ((((((Below.refl _ w).alloc (Nat.le_refl _) _).alloc (by simp) _).alloc (by simp; omega) _).alloc (by simp; omega) _).alloc (by simp; omega) _).alloc (by simp; omega) _
  have k0 : Boxed W0 w.heap.size 9 (.string ⟨#[]⟩) := by
    rw [← hW0]
    exact (((((Boxed.new w 9 (.string ⟨#[]⟩)).alloc _).alloc _).alloc _).alloc _).alloc _
  have k1 : Boxed W0 (w.heap.size + 1) 3 (.int .i64 0) := by
    rw [← hW0]
    have := ((((Boxed.new (w.alloc (.cells #[.string ⟨#[]⟩] 9)) 3 (.int .i64 0)).alloc (.cells #[.nilIface] 50)).alloc (.cells #[.pointer none, .slice none 0 0] 45)).alloc (.cells #[.int .i64 0] 3)).alloc (.cells #[.string s] 9)
    rw [World.size_alloc] at this
    exact this
  have k2 : Boxed W0 (w.heap.size + 1 + 1) 50 .nilIface := by
    rw [← hW0]
    have := (((Boxed.new ((w.alloc (.cells #[.string ⟨#[]⟩] 9)).alloc (.cells #[.int .i64 0] 3)) 50 .nilIface).alloc (.cells #[.pointer none, .slice none 0 0] 45)).alloc (.cells #[.int .i64 0] 3)).alloc (.cells #[.string s] 9)
    rw [World.size_alloc, World.size_alloc] at this
    exact this
  have k3 : Lib.IsBuilderF 45 5 (w.heap.size + 1 + 1 + 1) (w.heap.size + 1 + 1 + 1) (Lib.byteCells (catB []).data.toList) W0 := by
    rw [← hW0]
    have := ((Lib.IsBuilderF.of (Lib.fresh_isBuilder 45 5 (((w.alloc (.cells #[.string ⟨#[]⟩] 9)).alloc (.cells #[.int .i64 0] 3)).alloc (.cells #[.nilIface] 50)))).alloc (.cells #[.int .i64 0] 3)).alloc (.cells #[.string s] 9)
    rw [World.size_alloc, World.size_alloc, World.size_alloc] at this
    exact this
  have k4 : Boxed W0 (w.heap.size + 1 + 1 + 1 + 1) 3 (.int .i64 0) := by
    rw [← hW0]
    have := (Boxed.new ((((w.alloc (.cells #[.string ⟨#[]⟩] 9)).alloc (.cells #[.int .i64 0] 3)).alloc (.cells #[.nilIface] 50)).alloc (.cells #[.pointer none, .slice none 0 0] 45)) 3 (.int .i64 0)).alloc (.cells #[.string s] 9)
    rw [World.size_alloc, World.size_alloc, World.size_alloc, World.size_alloc] at this
    exact this
  have k5 : Boxed W0 (w.heap.size + 1 + 1 + 1 + 1 + 1) 9 (.string s) := by
    rw [← hW0]
    have := Boxed.new (((((w.alloc (.cells #[.string ⟨#[]⟩] 9)).alloc (.cells #[.int .i64 0] 3)).alloc (.cells #[.nilIface] 50)).alloc (.cells #[.pointer none, .slice none 0 0] 45)).alloc (.cells #[.int .i64 0] 3)) 9 (.string s)
    rw [hsz] at this
    exact this
  clear hW0 hsz
  generalize h1 : w.heap.size + 1 = q1 at *
  generalize h2 : q1 + 1 = q2 at *
  generalize h3 : q2 + 1 = q3 at *
  generalize h4 : q3 + 1 = q4 at *
  generalize h5 : q4 + 1 = q5 at *
  have hINV : JInv w q1 q2 q3 q4 [] W0 := ⟨k0, k1, k2, k3, k4, hB0, fun x hx => by cases hx⟩
  refine wpIn_rangeFunc_ownH rfl (by omega) (gf := 42) (lb := #[.pointer (some ⟨q5, 0, none⟩)]) rfl trivial (enters_of Tryz.func42 (by kernel_rfl) rfl)
    (pieces_stops 2 w.heap.size q5 s m b W0 (by omega) hs (by omega) (fun W h => HG.out W (hB0.trans h)) k5) (fun h k => keepP_t h k) (keepP_b (by omega)) (Below.refl _ _) (fun _ => rfl)
    (fun pre W => JInv w q1 q2 q3 q4 pre W)
    (fun c pre W => JOut w q1 q2 m b c pre W)
    (jinv_own w q1 q2 q3 q4 (by omega)) (fun c => jout_own w q1 q2 m b c (by omega))
    hINV
    (fun x a' W => ∃ Bx, q4 < Bx ∧ JBox Bx x W ∧ a' = { tmps := #[.string s, undef, .pointer (some ⟨w.heap.size, 0, none⟩), .pointer (some ⟨q1, 0, none⟩), .pointer (some ⟨q2, 0, none⟩), .pointer (some ⟨q3, 0, none⟩), .pointer (some ⟨q4, 0, none⟩), .pointer (some ⟨Bx, 0, none⟩), errV m b x.1.2.2, .string s, .func (.func 42) #[] #[.pointer (some ⟨q5, 0, none⟩)], .agg #[.string x.1.1, .int .i64 (x.1.2.1 : Int)], errV m b x.1.2.2, undef, undef, undef, undef, undef, undef, undef, undef, undef, undef, undef, undef], defers := [] })
    (fun x a' => fun _ W W' row hs hg hr => by
      obtain ⟨Bx, h1, h2, h3⟩ := hs
      exact ⟨Bx, h1, rows_turn hg (fun r e => (hr r e).2) _ _ _ _ h2, h3⟩)
    ?assign ?body ?done ?stop
  case assign =>
    rintro l pre x W K hi hK
    have HK := Num.hide hK
    clear hK
    gi_wp2
    refine HK.out _ _ ((KeepsOthers.alloc _ _).from _) ⟨(Below.refl _ W).alloc hi.be.size _, fun k c fz hk => rows_alloc W _ _ _ _ _ hk⟩ (jinv_rows hi (rows_alloc W _) (hi.be.alloc hi.be.size _)) ⟨W.heap.size, hi.us.lt, World.alloc_heap_new W _, rfl⟩
  case body =>
    rintro l pre ⟨⟨t, u, c⟩, hp⟩ a' W hl _ hi ⟨Bx, hBx, hbx, rfl⟩ hlen
    have hq4 := hi.us.lt
    by_cases hc : c = 0
    · subst hc
      have hsum := sumU_le pre
      have hcat := catB_le pre
      have hcl : (Lib.byteCells (catB pre).data.toList).length = (catB pre).size := by unfold Lib.byteCells; simp
      have ht1 : t.size ≤ 60 := hp.1
      have hu1 : u ≤ 4194304 := hp.2.1
      have HW := Num.hide (Shelf.writeStringK q3 q3 _ t W hi.bd (by rw [hcl]; omega) (by omega))
      have c0 : W.cell? ⟨Bx, 0, none⟩ = some (.string t) := by simp [World.cell?, show W.heap[Bx]? = _ from hbx]
      have hsu : sumU pre ≤ 4398050705408 := by omega
      have HI := Num.hide hi
      have HX := Num.hide hbx
      clear hi hbx hINV k0 k1 k2 k3 k4 k5 hsum hcat hcl
      simp only [errV]
      gi_wp2_with fail
      refine ⟨trivial, ?_⟩
      refine (CallsIn.inRound l (callsIn_wide.2 HW.out)).mono ?_
      rintro e w2 ⟨rfl, hI2, hb2, hk2⟩
      have u4 : Boxed w2 q4 3 (.int .i64 (sumU pre : Int)) := hk2 q4 _ HI.out.us (fun e => by cases e; omega) (fun c fz e => by cases e)
      have x2 : JBox Bx ⟨(t, u, 0), hp⟩ w2 := hk2 Bx _ HX.out (fun e => by cases e; omega) (fun c fz e => by cases e)
      have cu := u4.cell
      have fu := u4.frozen
      have c1 : w2.cell? ⟨Bx, 1, none⟩ = some (.int .i64 (u : Int)) := by simp [World.cell?, show w2.heap[Bx]? = _ from x2]
      have HI2 := Num.hide hI2
      have HB2 := Num.hide hb2
      have HK2 := Num.hide hk2
      have U4 := Num.hide u4
      clear hI2 hb2 hk2 x2 u4
      gi_wp2
      have hb3 : Below w.heap.size W w2 := HB2.out.mono (by omega)
      have hs2 := HB2.out.size
      have hR : ∀ k t v, Boxed W k t v → k < q3 → Boxed w2 k t v := fun k t v h hk => (HB2.out.block k hk).trans h
      have hcells : Lib.byteCells (catB pre).data.toList ++ Lib.strCells t = Lib.byteCells (catB (pre ++ [⟨(t, u, 0), hp⟩])).data.toList := by
        rw [catB_snoc, ByteArray.data_append, Array.toList_append, Lib.byteCells_append]
        rfl
      have hI3 := HI2.out
      rw [hcells] at hI3
      refine ⟨(from_others HK2.out hs2 (by omega)).trans ((KeepsOthers.setCell _ _ _).from _), ⟨hb3.setCell (p := ⟨q4, 0, none⟩) (by show w.heap.size ≤ q4; omega) _, fun k c fz hk => ?_⟩, ?_⟩
      · have hkq3 : k ≠ q3 := by
          rintro rfl
          rcases HI.out.bd with ⟨_, v, hb, _⟩ | ⟨_, v, hb, _⟩ <;> (rw [hb] at hk; cases hk)
        have hkq4 : k ≠ q4 := by
          rintro rfl
          rw [show W.heap[k]? = _ from HI.out.us] at hk
          cases hk
        rw [Below.heap_setCell _ _ _ _ (fun e => hkq4 e)]
        exact HK2.out k _ hk (fun e => by cases e; exact hkq3 rfl) (fun c fz e => by cases e)
      · refine ⟨(hR _ _ _ HI.out.r0 (by omega)).other (by omega) _, (hR _ _ _ HI.out.r1 (by omega)).other (by omega) _, (hR _ _ _ HI.out.r2 (by omega)).other (by omega) _, isb_set (.inr hI3) U4.out (by decide) (by omega) _, ?_, (HI.out.be.trans hb3).setCell (p := ⟨q4, 0, none⟩) (by show w.heap.size ≤ q4; omega) _, ?_⟩
        · have := U4.out.set (.int .i64 ((sumU pre : Int) + (u : Int)))
          rw [sumU_snoc]
          exact this
        · intro x hx
          rcases List.mem_append.1 hx with hx | hx
          · exact HI.out.ok x hx
          · obtain rfl := List.mem_singleton.1 hx
            rfl
    · have hcd : c ≤ 2 := hp.2.2
      obtain ⟨ad, had⟩ : ∃ ad, errV m b c = .iface 130 (.pointer (some ad)) := by
        match c, hc, hcd with
        | 1, _, _ => exact ⟨m, rfl⟩
        | 2, _, _ => exact ⟨b, rfl⟩
      have HD := Num.hide had
      have z0 := hi.r0
      have z1 := hi.r1.other (B' := w.heap.size) (by omega) (.string ⟨#[]⟩)
      have z2 := (hi.r2.other (B' := w.heap.size) (by omega) (.string ⟨#[]⟩)).other (B' := q1) (by omega) (.int .i64 0)
      have y0 := (((z0.set (.string ⟨#[]⟩)).other (B' := q1) (by omega) (.int .i64 0)).other (B' := q2) (by omega) (.iface 130 (.pointer (some ad))))
      have y1 := ((z1.set (.int .i64 0)).other (B' := q2) (by omega) (.iface 130 (.pointer (some ad))))
      have y2 := z2.set (.iface 130 (.pointer (some ad)))
      have d0 := z0.cell
      have f0 := z0.frozen
      have d1 := z1.cell
      have f1 := z1.frozen
      have d2 := z2.cell
      have f2 := z2.frozen
      have HI := Num.hide hi
      have Y0 := Num.hide y0
      have Y1 := Num.hide y1
      have Y2 := Num.hide y2
      clear hi hbx hINV k0 k1 k2 k3 k4 k5 z0 z1 z2 y0 y1 y2
      simp only [had]
      clear had
      gi_wp2
      refine ⟨((KeepsOthers.setCell _ _ _).trans ((KeepsOthers.setCell _ _ _).trans (KeepsOthers.setCell _ _ _))).from _, rfl, ⟨pre, _, rfl, hc, by rw [HD.out]; exact Y2.out⟩, Y0.out, Y1.out, ?_⟩
      exact ((HI.out.be.setCell (p := ⟨w.heap.size, 0, none⟩) (Nat.le_refl _) _).setCell (p := ⟨q1, 0, none⟩) (by show w.heap.size ≤ q1; omega) _).setCell (p := ⟨q2, 0, none⟩) (by show w.heap.size ≤ q2; omega) _
  case done =>
    rintro D xs W hD hEnd hi hK
    have hq4 := hi.us.lt
    have HT := Num.hide (fun W' h => Shelf.builderStringK q3 q3 (catB xs).data.toList W' h)
    have hmx : Tryz.prog.follows .mixedOrders = true := by kernel_rfl
    have HE : Hid (unchunk s = (catB xs, (sumU xs : Int), 0)) := hEnd hi.ok
    have cu := hi.us.cell
    have HI := Num.hide hi
    have HK := Num.hide hK
    clear hi hK hEnd hINV k0 k1 k2 k3 k4 k5
    have hTe : (⟨(catB xs).data.toList.toArray⟩ : ByteArray) = catB xs := rfl
    rw [hTe] at HT
    clear hTe
    obtain ⟨T, hT⟩ : ∃ T, catB xs = T := ⟨_, rfl⟩
    rw [hT] at HE HT
    obtain ⟨U, hU⟩ : ∃ U : Int, (sumU xs : Int) = U := ⟨_, rfl⟩
    rw [hU] at HE cu
    gi_wp2
    gi_region_with_o (refine ⟨trivial, ?_⟩; refine (callsIn_wide.2 (HT.out _ (by rw [← hT]; exact HI.out.bd) (by show q3 ≤ W.heap.size; omega))).mono ?_; rintro e w3 ⟨rfl, hI3, hb3, hk3⟩; have u4 : Boxed w3 q4 3 (.int .i64 U) := (by rw [← hU]; exact hk3 q4 _ HI.out.us (fun e => by cases e; omega) (fun c fz e => by cases e)); have z0 : Boxed w3 w.heap.size 9 (.string ⟨#[]⟩) := (hb3.block _ (by omega)).trans HI.out.r0; have z1 := Boxed.other (show Boxed w3 q1 3 (.int .i64 0) from (hb3.block _ (by omega)).trans HI.out.r1) (B' := w.heap.size) (by omega) (.string T); have z2 := (Boxed.other (show Boxed w3 q2 50 .nilIface from (hb3.block _ (by omega)).trans HI.out.r2) (B' := w.heap.size) (by omega) (.string T)).other (B' := q1) (by omega) (.int .i64 U); have v4 := u4.cell; have d0 := z0.cell; have f0 := z0.frozen; have d1 := z1.cell; have f1 := z1.frozen; have d2 := z2.cell; have f2 := z2.frozen; have HB3 := Num.hide hb3; have HK3 := Num.hide hk3; have Z0 := Num.hide z0; have Z1 := Num.hide z1; have Z2 := Num.hide z2; clear hI3 hb3 hk3 u4 z0 z1 z2)
    all_goals
      gi_wp2
      have hK3 : w3.heap[D]? = some (.deferred (some [])) := HK3.out D _ HK.out (fun e => by cases e; omega) (fun c fz e => by cases e)
      have hKf := (KeepsOthers.setCell _ ⟨q2, 0, none⟩ .nilIface).same D _ ((KeepsOthers.setCell _ ⟨q1, 0, none⟩ (.int .i64 U)).same D _ ((KeepsOthers.setCell w3 ⟨w.heap.size, 0, none⟩ (.string T)).same D _ hK3 rfl) rfl) rfl
      have y0 := ((Z0.out.set (.string T)).other (B' := q1) (by omega) (.int .i64 U)).other (B' := q2) (by omega) .nilIface
      have y1 := (Z1.out.set (.int .i64 U)).other (B' := q2) (by omega) .nilIface
      have y2 := Z2.out.set .nilIface
      have hbf : Below w.heap.size w (((w3.setCell ⟨w.heap.size, 0, none⟩ (.string T)).setCell ⟨q1, 0, none⟩ (.int .i64 U)).setCell ⟨q2, 0, none⟩ .nilIface) :=
        (((HI.out.be.drew.trans (HB3.out.mono (by omega))).setCell (p := ⟨w.heap.size, 0, none⟩) (Nat.le_refl _) _).setCell (p := ⟨q1, 0, none⟩) (by show w.heap.size ≤ q1; omega) _).setCell (p := ⟨q2, 0, none⟩) (by show w.heap.size ≤ q2; omega) _
      generalize ((w3.setCell ⟨w.heap.size, 0, none⟩ (.string T)).setCell ⟨q1, 0, none⟩ (.int .i64 U)).setCell ⟨q2, 0, none⟩ .nilIface = wf at hKf y0 y1 y2 hbf ⊢
      have c0 := cell_kept y0.cell (grownBy_putObj' wf D (.deferred none)) (fun r e => by cases e; exact ⟨_, hKf, rfl⟩)
      have c1 := cell_kept y1.cell (grownBy_putObj' wf D (.deferred none)) (fun r e => by cases e; exact ⟨_, hKf, rfl⟩)
      have c2 := cell_kept y2.cell (grownBy_putObj' wf D (.deferred none)) (fun r e => by cases e; exact ⟨_, hKf, rfl⟩)
      refine ⟨by simp, .inl ⟨_, _, rfl, run_takeDeferred hKf, ?_⟩⟩
      refine ⟨.tuple #[.string T, .int .i64 U, .nilIface], ?_, T, U, 0, rfl, by omega, ?_, hbf.trans (belowK_b (w := w) (Nat.le_refl _) wf D _ _ (by omega) hKf rfl rfl)⟩
      · simp [results, Tryz.f22, go_sem, c0, c1, c2]
      · rw [HE.out]
        rfl
  case stop =>
    rintro D c pre W hD hLeft ho hK
    obtain rfl := ho.cr
    obtain ⟨init, x, rfl, hx, hb2⟩ := ho.last
    have hun := hLeft init x rfl hx
    gi_wp2
    have c0 := cell_kept ho.r0.cell (grownBy_putObj' W D (.deferred none)) (fun r e => by cases e; exact ⟨_, hK, rfl⟩)
    have c1 := cell_kept ho.r1.cell (grownBy_putObj' W D (.deferred none)) (fun r e => by cases e; exact ⟨_, hK, rfl⟩)
    have c2 := cell_kept hb2.cell (grownBy_putObj' W D (.deferred none)) (fun r e => by cases e; exact ⟨_, hK, rfl⟩)
    refine ⟨by simp, .inl ⟨_, _, rfl, run_takeDeferred hK, ?_⟩⟩
    refine ⟨.tuple #[.string ⟨#[]⟩, .int .i64 0, errV m b x.1.2.2], ?_, ⟨#[]⟩, 0, x.1.2.2, rfl, x.2.2.2, ?_, ho.be.trans (belowK_b (w := w) (Nat.le_refl _) W D _ _ (by omega) hK rfl rfl)⟩
    · simp [results, Tryz.f22, go_sem, c0, c1, c2]
    · rw [hun]
      unfold tell
      rw [if_neg hx]
end Body
end Go.Proofs.YtpkkkfmdgpghjaaGreatDoor
namespace Go.Proofs.YtpkkkfmdgpghjaaGreatDoor
open Go.RowKit
set_option linter.unusedVariables false
namespace Body

set_option maxRecDepth 100000 in
set_option maxHeartbeats 2000000 in
theorem unchunk_impl (s : ByteArray) (m b : Addr) (w : World) (hs : s.size ≤ 1048576) (hm : Lim w) (hS : Syn w) (hE : Errs m b w) :
    Calls Tryz.prog 7 #[.string s] w fun e w' => e = .returned (.tuple #[.string (unchunk s).1, .int .i64 (unchunk s).2.1, .int .i64 (unchunk s).2.2]) ∧ Below w.heap.size w w' := by
  have HJ := Num.hide (join_impl s m b w hs hm hS hE)
  have HE := Num.hide (fun W h => hE.below (w' := W) h)
  obtain ⟨⟨x, y, z⟩, hR⟩ : ∃ R, unchunk s = R := ⟨_, rfl⟩
  rw [hR] at HJ ⊢
  clear hm hS hE hR
  go_enter Tryz.func7, Tryz.ntmps7
  go_wp2_with fail
  refine HJ.out.mono ?_
  rintro e w1 ⟨t, u, c, rfl, hc, ht, hb⟩
  have HT := Num.hide (tell_impl t u c m b w1 hc (HE.out _ hb))
  rw [ht] at HT
  have HB := Num.hide hb
  clear hb ht HJ
  go_wp2_with fail
  refine HT.out.mono ?_
  rintro e w2 ⟨rfl, rfl⟩
  go_wp2
  go_ret3
  exact ⟨rfl, HB.out⟩
end Body
end Go.Proofs.YtpkkkfmdgpghjaaGreatDoor
namespace Go.Proofs.YtpkkkfmdgpghjaaGreatDoor
open Go.RowKit
set_option linter.unusedVariables false
namespace Body

/-- a body of so many bytes; and all that is left -/
def counted (cl s : ByteArray) : Told :=
  if (Sign.secs cl).2 = false ∨ 60 < (Sign.secs cl).1 then bad
  else if (s.size : Int) < (Sign.secs cl).1 then more
  else (s.extract 0 (Sign.secs cl).1.toNat, (Sign.secs cl).1, 0)
def whole (s : ByteArray) : Told := if 60 < s.size then bad else (s, (s.size : Int), 0)
set_option maxRecDepth 100000 in
set_option maxHeartbeats 2000000 in
theorem counted_impl (cl s : ByteArray) (m b : Addr) (w : World) (hc : cl.size ≤ 4194304) (hs : s.size ≤ 1048576) (hE : Errs m b w) :
    Calls Tryz.prog 37 #[.string cl, .string s] w fun e w' => ∃ t u c, e = .returned (.tuple #[.string t, .int .i64 u, errV m b c]) ∧ c ≤ 2 ∧ tell t u c = counted cl s ∧ Below w.heap.size w w' := by
  have HS := Num.hide (fun W => Sign.seconds_impl cl W (by unfold maxLen; omega))
  have hsb := secs_bd cl
  have em := hE.cm
  have eb := hE.cb
  obtain ⟨r, hr⟩ : ∃ r, counted cl s = r := ⟨_, rfl⟩
  rw [hr]
  unfold counted at hr
  generalize Sign.secs cl = sc at HS hsb hr
  obtain ⟨n, is⟩ := sc
  simp only at HS hsb hr
  have HR := Num.hide hr
  clear hr hE
  cases is with
  | false =>
    obtain rfl : bad = r := by rw [← HR.out, if_pos (.inl rfl)]
    clear HR
    go_enter Tryz.func37, Tryz.ntmps37
    go_wp2_with fail
    refine (HS.out _).mono ?_
    rintro e w1 ⟨rfl, rfl⟩
    go_wp2
    go_region
    go_wp2
    go_ret3
    exact ⟨_, _, 2, rfl, by omega, rfl, (Below.refl _ w).drew⟩
  | true =>
    by_cases h60 : 60 < n
    · obtain rfl : bad = r := by rw [← HR.out, if_pos (.inr h60)]
      have d60 : decide (60 < n) = true := by rw [decide_eq_true_iff]; exact h60
      clear HR
      go_enter Tryz.func37, Tryz.ntmps37
      go_wp2_with fail
      refine (HS.out _).mono ?_
      rintro e w1 ⟨rfl, rfl⟩
      go_wp2
      go_region
      go_wp2
      go_ret3
      exact ⟨_, _, 2, rfl, by omega, rfl, (Below.refl _ w).drew⟩
    · have d60 : decide (60 < n) = false := by rw [decide_eq_false_iff_not]; exact h60
      by_cases hsn : (s.size : Int) < n
      · obtain rfl : more = r := by rw [← HR.out, if_neg (by simp; omega), if_pos hsn]
        have dsn : decide ((s.size : Int) < n) = true := by rw [decide_eq_true_iff]; exact hsn
        clear HR
        go_enter Tryz.func37, Tryz.ntmps37
        go_wp2_with fail
        refine (HS.out _).mono ?_
        rintro e w1 ⟨rfl, rfl⟩
        go_wp2
        go_region
        go_wp2
        go_ret3
        exact ⟨_, _, 1, rfl, by omega, rfl, (Below.refl _ w).drew⟩
      · have dsn : decide ((s.size : Int) < n) = false := by rw [decide_eq_false_iff_not]; exact hsn
        obtain rfl : (s.extract 0 n.toNat, n, 0) = r := by rw [← HR.out, if_neg (by simp; omega), if_neg hsn]
        have HC := Num.hide (fun W => Shelf.clone (s.extract 0 n.toNat) W (by rw [ByteArray.size_extract]; omega))
        clear HR
        go_enter Tryz.func37, Tryz.ntmps37
        go_wp2_with fail
        refine (HS.out _).mono ?_
        rintro e w1 ⟨rfl, rfl⟩
        go_wp2_with fail
        refine (HC.out _).mono ?_
        rintro e w2 ⟨rfl, hb⟩
        have HB := Num.hide hb
        clear hb
        go_wp2
        go_ret3
        exact ⟨_, _, 0, rfl, by omega, rfl, HB.out⟩
set_option maxRecDepth 100000 in
set_option maxHeartbeats 2000000 in
theorem whole_impl (s : ByteArray) (m b : Addr) (w : World) (hs : s.size ≤ 1048576) (hE : Errs m b w) :
    Calls Tryz.prog 38 #[.string s] w fun e w' => ∃ t u c, e = .returned (.tuple #[.string t, .int .i64 u, errV m b c]) ∧ c ≤ 2 ∧ tell t u c = whole s ∧ Below w.heap.size w w' := by
  have em := hE.cm
  have eb := hE.cb
  have HC := Num.hide (fun W => Shelf.clone s W (by omega))
  clear hE
  unfold whole
  by_cases h60 : 60 < s.size
  · rw [if_pos h60]
    have d60 : decide ((60 : Int) < (s.size : Int)) = true := by simp; omega
    go_enter Tryz.func38, Tryz.ntmps38
    go_wp2
    go_region
    go_wp2
    go_ret3
    exact ⟨_, _, 2, rfl, by omega, rfl, (Below.refl _ w).drew⟩
  · rw [if_neg h60]
    have d60 : decide ((60 : Int) < (s.size : Int)) = false := by simp; omega
    go_enter Tryz.func38, Tryz.ntmps38
    go_wp2_with fail
    refine (HC.out _).mono ?_
    rintro e w1 ⟨rfl, hb⟩
    have HB := Num.hide hb
    clear hb
    go_wp2
    go_ret3
    exact ⟨_, _, 0, rfl, by omega, rfl, HB.out⟩
set_option maxRecDepth 100000 in
set_option maxHeartbeats 4000000 in
theorem ahead_impl (v : Value) (l : List Flds.Fld) (s : ByteArray) (c : Bool) (m b : Addr) (w : World) (h : Flds.Is w v l) (hl : Flds.bulk l ≤ 1048576) (hs : s.size ≤ 1048576) (hm : Lim w) (hS : Syn w) (hE : Errs m b w) :
    Calls Tryz.prog 26 #[v, .string s, .bool c] w fun e w' => ∃ t u k, e = .returned (.tuple #[.string t, .int .i64 u, errV m b k]) ∧ k ≤ 2 ∧ tell t u k = bodyOf l s c ∧ Below w.heap.size w w' := by
  have HG1 := Num.hide (Flds.get_impl v l teName w h (by omega))
  have HG2 := Num.hide (fun W (hb : Below w.heap.size w W) => Flds.get_impl v l clName W (Recs.is_below h hb) (by omega))
  have HW : Hid (∀ W, Below w.heap.size w W → Lim W ∧ Syn W ∧ Errs m b W) := fun W hb => ⟨hm.below hb, hS.below hb, hE.below hb⟩
  unfold bodyOf
  have z1 := get_small l teName hl
  have z2 := get_small l clName hl
  clear h hm hS hE
  generalize Flds.get l teName = te at HG1 z1
  generalize Flds.get l clName = cl at HG2 z2
  obtain ⟨te1, te2⟩ := te
  obtain ⟨cl1, cl2⟩ := cl
  simp only at z1 z2 HG1 HG2
  have HLo := Num.hide (fun W => Sign.lower_impl te1 W (by unfold maxLen; omega))
  have HU := Num.hide (fun W (g : Lim W ∧ Syn W ∧ Errs m b W) => join_impl s m b W hs g.1 g.2.1 g.2.2)
  have HCn := Num.hide (fun W (g : Errs m b W) => counted_impl cl1 s m b W z2 hs g)
  have HWh := Num.hide (fun W (g : Errs m b W) => whole_impl s m b W hs g)
  obtain ⟨r, hr⟩ : ∃ r, bodyBy (te1, te2) (cl1, cl2) s c = r := ⟨_, rfl⟩
  rw [hr]
  unfold bodyBy at hr
  simp only at hr
  have hcn : counted cl1 s = (if (Sign.secs cl1).2 = false ∨ 60 < (Sign.secs cl1).1 then bad else if (s.size : Int) < (Sign.secs cl1).1 then more else (s.extract 0 (Sign.secs cl1).1.toNat, (Sign.secs cl1).1, 0)) := rfl
  have hwh : whole s = (if 60 < s.size then bad else (s, (s.size : Int), 0)) := rfl
  rw [← hcn, ← hwh] at hr
  generalize Sign.lower te1 = lo at HLo hr
  generalize unchunk s = un at HU hr
  generalize counted cl1 s = cn at HCn hr
  generalize whole s = wh at HWh hr
  have HR := Num.hide hr
  clear hr hcn hwh
  unfold teName at HG1
  unfold clName at HG2
  go_enter Tryz.func26, Tryz.ntmps26
  go_wp2_with fail
  refine HG1.out.mono ?_
  rintro e w1 ⟨rfl, hb1⟩
  have B1 := Num.hide hb1
  clear hb1
  go_wp2_with fail
  refine (HG2.out _ B1.out).mono ?_
  rintro e w2 ⟨rfl, hb2⟩
  have B2 := Num.hide (B1.out.trans (hb2.mono B1.out.size))
  clear hb2 HG1 HG2
  cases te2 with
  | true =>
    rw [if_pos rfl] at HR
    cases cl2 with
    | true =>
      obtain rfl : bad = r := by rw [← HR.out, if_neg (by simp)]
      have eb := (HW.out _ B2.out).2.2.cb
      clear HR HW
      go_wp2
      go_region
      go_wp2
      go_ret3
      exact ⟨_, _, 2, rfl, by omega, rfl, B2.out.drew⟩
    | false =>
      by_cases hch : lo = chName
      · subst hch
        unfold chName at HLo
        obtain rfl : un = r := by rw [← HR.out, if_pos ⟨rfl, rfl⟩]
        clear HR
        go_wp2_with fail
        refine (HLo.out _).mono ?_
        rintro e w3 ⟨rfl, hb3⟩
        have B3 := Num.hide (B2.out.trans (hb3.mono B2.out.size))
        clear hb3
        go_wp2_with fail
        refine (HU.out _ (HW.out _ B3.out)).mono ?_
        rintro e w4 ⟨t, u, k, rfl, hk, ht, hb4⟩
        have B4 := Num.hide (B3.out.trans (hb4.mono B3.out.size))
        have HT := Num.hide ht
        clear hb4 ht
        go_wp2
        go_ret3
        exact ⟨_, _, k, rfl, hk, HT.out, B4.out⟩
      · obtain rfl : bad = r := by rw [← HR.out, if_neg (fun h => hch h.1)]
        have dq : (lo.toList == [99, 104, 117, 110, 107, 101, 100]) = false := by
          rw [beq_eq_false_iff_ne, ByteArray.toList_eq]
          intro e
          exact hch (ByteArray.ext (Array.toList_inj.1 e))
        clear HR hch
        go_wp2_with fail
        refine (HLo.out _).mono ?_
        rintro e w3 ⟨rfl, hb3⟩
        have B3 := Num.hide (B2.out.trans (hb3.mono B2.out.size))
        have eb := (HW.out _ B3.out).2.2.cb
        clear hb3 HW
        go_wp2
        go_region
        go_wp2
        go_ret3
        exact ⟨_, _, 2, rfl, by omega, rfl, B3.out.drew⟩
  | false =>
    rw [if_neg (by simp)] at HR
    cases cl2 with
    | true =>
      rw [if_pos rfl] at HR
      obtain rfl : cn = r := HR.out
      clear HR
      go_wp2_with fail
      refine (HCn.out _ (HW.out _ B2.out).2.2).mono ?_
      rintro e w4 ⟨t, u, k, rfl, hk, ht, hb4⟩
      have B4 := Num.hide (B2.out.trans (hb4.mono B2.out.size))
      have HT := Num.hide ht
      clear hb4 ht
      go_wp2
      go_ret3
      exact ⟨_, _, k, rfl, hk, HT.out, B4.out⟩
    | false =>
      rw [if_neg (by simp)] at HR
      cases c with
      | true =>
        rw [if_pos rfl] at HR
        obtain rfl : wh = r := HR.out
        clear HR
        go_wp2_with fail
        refine (HWh.out _ (HW.out _ B2.out).2.2).mono ?_
        rintro e w4 ⟨t, u, k, rfl, hk, ht, hb4⟩
        have B4 := Num.hide (B2.out.trans (hb4.mono B2.out.size))
        have HT := Num.hide ht
        clear hb4 ht
        go_wp2
        go_ret3
        exact ⟨_, _, k, rfl, hk, HT.out, B4.out⟩
      | false =>
        rw [if_neg (by simp)] at HR
        obtain rfl : (⟨#[]⟩, 0, 0) = r := HR.out
        clear HR HW
        go_wp2
        go_ret3
        exact ⟨_, _, 0, rfl, by omega, rfl, B2.out⟩
set_option maxRecDepth 100000 in
set_option maxHeartbeats 2000000 in
theorem body_impl (v : Value) (l : List Flds.Fld) (s : ByteArray) (c : Bool) (m b : Addr) (w : World) (h : Flds.Is w v l) (hl : Flds.bulk l ≤ 1048576) (hs : s.size ≤ 1048576) (hm : Lim w) (hS : Syn w) (hE : Errs m b w) :
    Calls Tryz.prog 12 #[v, .string s, .bool c] w fun e w' => e = .returned (.tuple #[.string (bodyOf l s c).1, .int .i64 (bodyOf l s c).2.1, .int .i64 (bodyOf l s c).2.2]) ∧ Below w.heap.size w w' := by
  have HJ := Num.hide (ahead_impl v l s c m b w h hl hs hm hS hE)
  have HE := Num.hide (fun W h => hE.below (w' := W) h)
  obtain ⟨⟨x, y, z⟩, hR⟩ : ∃ R, bodyOf l s c = R := ⟨_, rfl⟩
  rw [hR] at HJ ⊢
  clear hm hS hE hR h
  go_enter Tryz.func12, Tryz.ntmps12
  go_wp2_with fail
  refine HJ.out.mono ?_
  rintro e w1 ⟨t, u, k, rfl, hk, ht, hb⟩
  have HT := Num.hide (tell_impl t u k m b w1 hk (HE.out _ hb))
  rw [ht] at HT
  have HB := Num.hide hb
  clear hb ht HJ
  go_wp2_with fail
  refine HT.out.mono ?_
  rintro e w2 ⟨rfl, rfl⟩
  go_wp2
  go_ret3
  exact ⟨rfl, HB.out⟩
end Body
end Go.Proofs.YtpkkkfmdgpghjaaGreatDoor
