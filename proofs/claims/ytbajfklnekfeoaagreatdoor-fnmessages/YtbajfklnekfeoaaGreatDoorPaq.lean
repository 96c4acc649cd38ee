/-
  Strs: Lists of texts in memory: a slice of texts as it is read (Strs), and one whose row the call itself made (OwnS).
  FldLines: linesAhead of the program: the lines up to an empty one, in a row of the call's own; what was there stays.
  FldChsT: putChosen of the program from texts to fields, and readField: a field off each line that has a colon, behind each other in a row of the call's own.
  FldReadImpl: ReadFields of the program: fields read off a text, in a row of the call's own; what was there stays.
  BuildK: WriteString and String of a strings.Builder at this program, with what else of the call's own they leave as it lay; a builder in a range over a function.
  PiecesIter: piecesAhead of the program: the pieces of a body, handed on one by one up to the first that is empty or at fault.
-/
import Derived.Test.YtbajfklnekfeoaaGreatDoorNum
import Derived.Test.YtbajfklnekfeoaaGreatDoorRows
import Derived.WalkKit
import Derived.WalkLawsBesides
import Derived.WalkSmall
import Derived.Below
import Derived.Test.YtbajfklnekfeoaaGreatDoorPaf
import Derived.Test.YtbajfklnekfeoaaGreatDoorPao
import Derived.Test.YtbajfklnekfeoaaGreatDoorPal
import Derived.Test.YtbajfklnekfeoaaGreatDoorPam
import Derived.Test.YtbajfklnekfeoaaGreatDoorPan
import Derived.Shelf.Strings.BuilderK
import Derived.RangeFuncNested
import Derived.Test.YtbajfklnekfeoaaGreatDoorPap
import Derived.RangeFuncBound
import Derived.RangeFuncCalls
import Derived.RangeFuncLeaves
import Derived.Shelf.Abstract
import Derived.Shelf.RegionOpen
import Derived.OwnWalkIn
import Derived.TacticsInMore
import Derived.LoopNIn
import Derived.LoopIn
namespace Go.Proofs.YtbajfklnekfeoaaGreatDoor
open Go.RowKit
set_option linter.unusedVariables false
namespace Strs

theorem infoS : (Tryz.prog.info? 9).map (fun i => (i.zero, i.size, i.bytes)) = some (some (.string ⟨#[]⟩), 1, 16) := by kernel_rfl
theorem grown_trans {a b c : World} {r : Option Nat} (h : a.grownBy b r) (k : b.grownBy c r) : a.grownBy c r :=
  ⟨k.os.trans h.os, k.tape.trans h.tape, k.output.trans h.output, Nat.le_trans h.size k.size, fun j hj hr => (k.block j (Nat.lt_of_lt_of_le hj h.size) hr).trans (h.block j hj hr)⟩
theorem grown_of_below {a b : World} (h : Below a.heap.size a b) (r : Option Nat) : a.grownBy b r :=
  ⟨h.os, h.tape, h.output, h.size, fun j hj _ => h.block j hj⟩
theorem grown_drew {a b : World} {r : Option Nat} (h : a.grownBy b r) : a.grownBy b.drew r := ⟨h.os, h.tape, h.output, h.size, h.block⟩
theorem grown_drewN {a b : World} {r : Option Nat} (h : a.grownBy b r) (n : Nat) : a.grownBy (b.drewN n) r := ⟨h.os, h.tape, h.output, h.size, h.block⟩
theorem below_drewN {B : Nat} {a b : World} (h : Below B a b) (n : Nat) : Below B a (b.drewN n) := ⟨h.os, h.tape, h.output, h.size, h.block⟩
theorem below_grown {B : Nat} {a b c : World} {r : Option Nat} (h : Below B a b) (k : b.grownBy c r) (hr : ∀ j, r = some j → B ≤ j) (hB : B ≤ b.heap.size) : Below B a c := h.grown k hB hr

/-- the slice's row is the call's own: from block B on, not marked; it bears these texts -/
def OwnS (B : Nat) (w : World) (v : Value) (l : List ByteArray) : Prop := w.ownsRow B 9 1 v l.length (l.map Value.string)
/-- a slice of texts as it is read -/
def Is (w : World) (v : Value) (l : List ByteArray) : Prop :=
  (l = [] ∧ ∃ a c, v = .slice a 0 c) ∨ ∃ b o c, v = .slice (some ⟨b, o, none⟩) l.length c ∧ l.length ≤ c ∧ c ≤ maxLen ∧ ∀ i (h : i < l.length), w.cell? ⟨b, o + i, none⟩ = some (.string l[i])

theorem own_nil (B : Nat) (w : World) : OwnS B w (.slice none 0 0) [] := World.ownsRow_nil w B _ 1
theorem own_len {B : Nat} {w : World} {v : Value} {l : List ByteArray} (h : OwnS B w v l) : ∃ a c, v = .slice a l.length c := by
  rcases h.2 with ⟨h1, h2⟩ | ⟨g, cap, cur, h1, _⟩
  · exact ⟨none, 0, by rw [h1, h2]⟩
  · exact ⟨_, _, h1⟩
theorem own_kept {B : Nat} {w w' : World} {v : Value} {l : List ByteArray} {r : Option Nat} (h : OwnS B w v l) (hg : w.grownBy w' r) (hne : v.ownBlock = none ∨ v.ownBlock ≠ r) : OwnS B w' v l := World.ownsRow.kept h hg hne
theorem own_below {B : Nat} {w w' : World} {v : Value} {l : List ByteArray} (h : OwnS B w v l) (hb : Below w.heap.size w w') : OwnS B w' v l :=
  own_kept h (grown_of_below hb none) (by cases e : v.ownBlock with
    | none => exact .inl rfl
    | some k => exact .inr (by intro h; cases h))
theorem own_drew {B : Nat} {w : World} {v : Value} {l : List ByteArray} (h : OwnS B w v l) : OwnS B w.drew v l := h
theorem own_drewN {B : Nat} {w : World} {v : Value} {l : List ByteArray} (h : OwnS B w v l) (n : Nat) : OwnS B (w.drewN n) v l := h
theorem own_lt {B : Nat} {w : World} {v : Value} {l : List ByteArray} (h : OwnS B w v l) : ∀ k, v.ownBlock = some k → B ≤ k ∧ k < w.heap.size := World.ownsRow.lt h
theorem own_is {B : Nat} {w : World} {v : Value} {l : List ByteArray} (h : OwnS B w v l) : Is w v l := by
  rcases h.2 with ⟨h1, h2⟩ | ⟨g, cap, cur, h1, hB, hg, hc, hm, hs, ht⟩
  · left; exact ⟨List.eq_nil_of_length_eq_zero h2, none, 0, h1⟩
  · right
    refine ⟨g, 0, cap, h1, hc, hm, fun i hi => ?_⟩
    rw [Nat.zero_add, cell_of_row w g i cur _ _ hg]
    have h2 : (cur.toList.take (l.length * 1))[i]? = (l.map Value.string)[i]? := by rw [ht]
    rw [List.getElem?_take_of_lt (by omega), List.getElem?_map, List.getElem?_eq_getElem hi] at h2
    simpa using h2
theorem is_below {B : Nat} {w w' : World} {v : Value} {l : List ByteArray} (h : Is w v l) (hb : Below w.heap.size w w') : Is w' v l := by
  rcases h with h | ⟨b, o, c, h1, h2, h3, h4⟩
  · exact .inl h
  · refine .inr ⟨b, o, c, h1, h2, h3, fun i hi => ?_⟩
    have e := h4 i hi
    have hlt : b < w.heap.size := by
      by_cases hz : b < w.heap.size
      · exact hz
      · exfalso
        have : w.heap[b]? = none := Array.getElem?_eq_none (by omega)
        simp [World.cell?, this] at e
    rw [hb.cell (p := ⟨b, o + i, none⟩) hlt]; exact e
/-- a row that lies below block C stays with what lies there -/
theorem own_stay {B C : Nat} {w w' : World} {v : Value} {l : List ByteArray} (h : OwnS B w v l) (hC : ∀ k, v.ownBlock = some k → k < C) (hb : Below C w w') : OwnS B w' v l := by
  refine ⟨h.1, ?_⟩
  rcases h.2 with h1 | ⟨g, cap, cur, h1, hB, hg, rest⟩
  · exact .inl h1
  · subst h1
    exact .inr ⟨g, cap, cur, rfl, hB, by rw [hb.block g (hC g rfl)]; exact hg, rest⟩
/-- what a marking of one's own row leaves of what lay below it -/
theorem below_mark {B C : Nat} {w w' : World} {v : Value} {l : List ByteArray} (h : OwnS B w v l) (hCB : C ≤ B) (hC : C ≤ w.heap.size) (hg : w.grownBy w' v.ownBlock) : Below C w w' :=
  (Below.refl C w).grown hg hC (fun j hj => Nat.le_trans hCB (own_lt h j hj).1)
theorem cells_one (w : World) (t : ByteArray) : ∀ j u, [Value.string t][j]? = some u → (w.alloc (.cells #[.string t] 9)).cell? ((⟨w.heap.size, 0, none⟩ : Addr).add j) = some u := by
  intro j u hj
  match j, hj with
  | 0, hj => simp at hj; subst hj; simp [Addr.add]
theorem one_ok (t : ByteArray) : ∀ u ∈ [Value.string t], u.oneCell' = true := by intro u hu; simp at hu; subst hu; rfl
theorem own_snoc {B : Nat} {w : World} {v : Value} {l : List ByteArray} {t : ByteArray} (h : w.ownsRow B 9 1 v (l.length + 1) (l.map Value.string ++ [.string t])) : OwnS B w v (l ++ [t]) := by
  unfold OwnS
  rw [List.length_append, List.map_append]
  exact h
end Strs
end Go.Proofs.YtbajfklnekfeoaaGreatDoor
namespace Go.Proofs.YtbajfklnekfeoaaGreatDoor
open Go.RowKit
set_option linter.unusedVariables false
namespace Flds

/-- the library's variable holds some number -/
def Lim (w : World) : Prop := ∃ m, w.cell? ⟨8, 0, none⟩ = some (.int .i64 m)
theorem lim_lt {w : World} (h : Lim w) : 8 < w.heap.size := by obtain ⟨m, hm⟩ := h; exact Recs.lt_of_cell hm
theorem lim_of {w : World} (h : w.ShapedOpen Tryz.prog) : Lim w := Shelf.laysM145.s1_3 w h
theorem lim_below {w w' : World} {B : Nat} (h : Lim w) (hb : Below B w w') (hB : 8 < B) : Lim w' := by
  obtain ⟨m, hm⟩ := h
  exact ⟨m, (hb.cell (p := ⟨8, 0, none⟩) hB).trans hm⟩
theorem cut_eol (s : ByteArray) (a : Nat) (w : World) (hs : s.size ≤ 1048576) (hm : Lim w) :
    Calls Tryz.prog 158 #[.string (s.extract a s.size), .string ⟨#[13, 10]⟩] w fun e w' => ∃ x y, e = .returned (.tuple #[.string x, .string y, .bool (Line.eol s a).isSome]) ∧ (∀ i, Line.eol s a = some i → x = s.extract a i) ∧ ∃ n, w.drewN n = w' := by
  obtain ⟨m, hm⟩ := hm
  refine (Shelf.strings_Cut (s.extract a s.size) ⟨#[13, 10]⟩ m w (by rw [ByteArray.size_extract]; omega) hm).mono ?_
  rintro e w' ⟨rfl, n, rfl⟩
  cases he : Line.eol s a with
  | none =>
    obtain ⟨e1, e2, e3⟩ := Line.cut_none he
    exact ⟨_, _, by rw [e1, e2, e3]; rfl, (fun i h => by cases h), n, rfl⟩
  | some i =>
    obtain ⟨e1, e3⟩ := Line.cut_some he
    exact ⟨_, _, by rw [e1, e3]; rfl, (fun j h => by cases h; rfl), n, rfl⟩
set_option maxRecDepth 100000 in
set_option maxHeartbeats 2000000 in
theorem lines_impl (s : ByteArray) (w : World) (hs : s.size ≤ 1048576) (hm : Lim w) :
    Calls Tryz.prog 184 #[.string s] w fun e w' => ∃ v', e = .returned (.tuple #[v', .int .i64 (lnN s), .bool (lnB s)]) ∧ Strs.OwnS w.heap.size w' v' (lnL s) ∧ Below w.heap.size w w' := by
  obtain ⟨i0, hi0, hz0, hz1, hz2⟩ := info_parts Strs.infoS
  obtain ⟨L, hL⟩ : ∃ L, lnL s = L := ⟨_, rfl⟩
  obtain ⟨N, hN⟩ : ∃ N, lnN s = N := ⟨_, rfl⟩
  obtain ⟨b, hb⟩ : ∃ b, lnB s = b := ⟨_, rfl⟩
  rw [hL, hN, hb]
  have HR : Hid (lnL s = L ∧ lnN s = N ∧ lnB s = b) := ⟨hL, hN, hb⟩
  clear hL hN hb
  have HE : Hid (lines s = none → L = [] ∧ N = 0 ∧ b = false) := fun h => by
    obtain ⟨h1, h2, h3⟩ := ln_told_none h
    obtain ⟨g1, g2, g3⟩ := HR.out
    exact ⟨g1.symm.trans h1, g2.symm.trans h2, g3.symm.trans h3⟩
  have HF : Hid (∀ l n, lines s = some (l, n) → L = l ∧ N = (n : Int) ∧ b = true) := fun l n h => by
    obtain ⟨h1, h2, h3⟩ := ln_told_some h
    obtain ⟨g1, g2, g3⟩ := HR.out
    exact ⟨g1.symm.trans h1, g2.symm.trans h2, g3.symm.trans h3⟩
  have HM := Num.hide hm
  have hlm := lim_lt hm
  clear HR hm
  go_enter Tryz.func184, Tryz.ntmps184
  go_wp2
  go_loopw [5, 6] (fun ov av wr => ∃ (a : Nat) (l : List ByteArray), av = .int .i64 (a : Int) ∧ Hid (LnAt s a l) ∧ Hid (Strs.OwnS w.heap.size wr ov l) ∧ Hid (Below w.heap.size w wr)) (fun _ av _ => s.size - (intOf av).toNat)
  case atStart => exact ⟨0, [], rfl, ln_start s, Strs.own_nil _ _, Below.refl _ _⟩
  case round =>
    obtain ⟨a, l, rfl, HA, HO, HB⟩ := hrel
    obtain ⟨va, vc, hv⟩ := Strs.own_len HO.out
    subst hv
    have hle := HA.out.le
    have hln := HA.out.len
    have hsz := HB.out.size
    by_cases h12 : l.length ≤ 12
    · have d12 : decide ((l.length : Int) ≤ 12) = true := by simp; omega
      have HC := Num.hide (cut_eol s a wr hs (lim_below HM.out HB.out hlm))
      cases he : Line.eol s a with
      | none =>
        rw [he] at HC
        obtain ⟨rfl, rfl, rfl⟩ := Num.unhide HE (ln_none HA.out h12 he)
        clear he
        go_wp2_with fail
        refine (Num.unhide HC).mono ?_
        rintro e w1 ⟨x, y, rfl, _, n, rfl⟩
        go_wp2
        go_ret3
        exact ⟨_, rfl, Strs.own_nil _ _, Strs.below_drewN HB.out n⟩
      | some i =>
        rw [he] at HC
        have hin := Line.eol_in he
        by_cases hia : i = a
        · subst hia
          have hem : s.extract i i = ⟨#[]⟩ := Sign.empty_true _ (by rw [ByteArray.size_extract]; omega)
          obtain ⟨rfl, rfl, rfl⟩ := Num.unhide HF _ _ (ln_done HA.out h12 he)
          clear he
          go_wp2_with fail
          refine (Num.unhide HC).mono ?_
          rintro e w1 ⟨x, y, rfl, hx, n, rfl⟩
          obtain rfl : x = ⟨#[]⟩ := (hx i rfl).trans hem
          clear hx
          go_wp2
          go_ret3
          exact ⟨_, rfl, Strs.own_drewN HO.out n, Strs.below_drewN HB.out n⟩
        · have hts : (s.extract a i).size = i - a := by rw [ByteArray.size_extract]; omega
          have hne := Sign.empty_false (s.extract a i) (by omega)
          have HA2 := Num.hide (ln_more HA.out h12 he hia)
          clear he
          go_wp2_with fail
          refine (Num.unhide HC).mono ?_
          rintro e w1 ⟨x, y, rfl, hx, n, rfl⟩
          obtain rfl : x = s.extract a i := hx i rfl
          clear hx HC
          generalize s.extract a i = t at hne HA2 hts
          have hsz1 : w.heap.size ≤ (wr.drewN n).heap.size := hsz
          have HO1 : Hid (Strs.OwnS w.heap.size (wr.drewN n) (.slice va l.length vc) l) := Strs.own_drewN HO.out n
          have HB1 := Num.hide (Strs.below_drewN HB.out n)
          clear HO HB hsz
          generalize wr.drewN n = w1 at HO1 HB1 hsz1
          go_wp2_with (at_builtin; refine wpList_append_own _ rfl _ _ 100 rfl w.heap.size 9 i0 (.string ⟨#[]⟩) 1 16 Tryz.underlying100 hi0 hz0 hz1 hz2 rfl (by decide) _ _ _ rfl (World.ownsRow.alloc HO1.out _) ⟨w1.heap.size, 0, none⟩ 1 1 [.string t] rfl rfl (Strs.cells_one w1 t) (Strs.one_ok t) (by unfold maxLen; omega) (by omega) ?c5 ?_)
          case c5 => simp; omega
          intro v' w2 ho2 hg2 _
          have hp2 := Strs.below_grown (HB1.out.alloc hsz1 (.cells #[.string t] 9)) hg2 (fun j hj => (Strs.own_lt HO1.out j hj).1) (by simp; omega)
          have HP1 := Num.hide (Strs.own_snoc ho2)
          have HP2 := Num.hide hp2
          clear ho2 hg2 hp2
          go_wp2
          go_roundw
          case rel => exact ⟨i + 2, _, by go_num, HA2, HP1, HP2⟩
          case measure => simp [intOf]; omega
    · have d12 : decide ((l.length : Int) ≤ 12) = false := by simp; omega
      obtain ⟨rfl, rfl, rfl⟩ := Num.unhide HE (ln_full HA.out h12)
      go_wp2
      go_ret3
      exact ⟨_, rfl, Strs.own_nil _ _, HB.out⟩
end Flds
end Go.Proofs.YtbajfklnekfeoaaGreatDoor
namespace Go.Proofs.YtbajfklnekfeoaaGreatDoor
open Go.RowKit
set_option linter.unusedVariables false
namespace Flds

/-- what readField tells of a line -/
def lineF (t : ByteArray) : Fld := match Line.colon t with | some k => fieldOf t k | none => (Sign.lower t, Sign.trim ByteArray.empty)
theorem cut_colon (s : ByteArray) (w : World) (hs : s.size ≤ 1048576) (hm : Lim w) :
    Calls Tryz.prog 158 #[.string s, .string ⟨#[58]⟩] w fun e w' => ∃ x y, e = .returned (.tuple #[.string x, .string y, .bool (Line.colon s).isSome]) ∧ x.size ≤ 1048576 ∧ y.size ≤ 1048576 ∧ (Sign.lower x, Sign.trim y) = lineF s ∧ ∃ n, w.drewN n = w' := by
  obtain ⟨m, hm⟩ := hm
  refine (Shelf.strings_Cut s ⟨#[58]⟩ m w (by omega) hm).mono ?_
  rintro e w' ⟨rfl, n, rfl⟩
  unfold lineF
  cases he : Line.colon s with
  | none =>
    obtain ⟨e1, e2, e3⟩ := Line.cutc_none he
    exact ⟨_, _, by rw [e1, e2, e3]; rfl, hs, by decide, rfl, n, rfl⟩
  | some k =>
    obtain ⟨e1, e2, e3⟩ := Line.cutc_some he
    exact ⟨_, _, by rw [e1, e2, e3]; rfl, by rw [ByteArray.size_extract]; omega, by rw [ByteArray.size_extract]; omega, rfl, n, rfl⟩
set_option maxRecDepth 100000 in
set_option maxHeartbeats 2000000 in
theorem readF_any (s : ByteArray) (w : World) (hs : s.size ≤ 1048576) (hm : Lim w) :
    Calls Tryz.prog 186 #[.string s] w fun e w' => e = .returned (.tuple #[.agg #[.string (lineF s).1, .string (lineF s).2], .bool (Line.colon s).isSome]) ∧ Below w.heap.size w w' := by
  have c0 : (w.alloc (.cells #[.string ⟨#[]⟩, .string ⟨#[]⟩] 36)).heap[w.heap.size]? = some (.cells #[.string ⟨#[]⟩, .string ⟨#[]⟩] 36) := heap_alloc_new w _
  have HC := Num.hide c0
  have hb0 := (Below.refl w.heap.size w).alloc (Nat.le_refl _) (.cells #[.string ⟨#[]⟩, .string ⟨#[]⟩] 36)
  have HB0 := Num.hide hb0
  have hz0 : w.heap.size + 1 = (w.alloc (.cells #[.string ⟨#[]⟩, .string ⟨#[]⟩] 36)).heap.size := by simp
  have HM := Num.hide (cut_colon s _ hs (lim_below hm hb0 (lim_lt hm)))
  clear c0 hb0 hm
  generalize lineF s = f at HM
  generalize (Line.colon s).isSome = b at HM
  obtain ⟨f1, f2⟩ := f
  go_enter Tryz.func186, Tryz.ntmps186
  go_wp2_with fail
  refine HM.out.mono ?_
  rintro e w0 ⟨x, y, rfl, hx, hy, hf, n, rfl⟩
  simp only [Prod.mk.injEq] at hf
  obtain ⟨rfl, rfl⟩ := hf
  go_wp2_with fail
  refine (Sign.lower_impl x _ (by unfold maxLen; omega)).mono ?_
  rintro e w1 ⟨rfl, hb1⟩
  go_wp2_with fail
  refine (Sign.trim_impl y _ (by omega)).mono ?_
  rintro e w2 ⟨rfl, hb2⟩
  obtain ⟨k0, k1, g0, g1⟩ := two_cells (show w2.heap[w.heap.size]? = _ from by rw [hb2.block _ (by have := hb1.size; change (w.alloc _).heap.size ≤ _ at this; omega), hb1.block _ (by show _ < (w.alloc _).heap.size; omega)]; exact HC.out)
  have HB := Num.hide ((Strs.below_drewN HB0.out n).trans (((hb1.mono (by show _ ≤ (w.alloc _).heap.size; omega : w.heap.size ≤ _)).trans (hb2.mono (by have := hb1.size; change (w.alloc _).heap.size ≤ _ at this; omega)))))
  clear hb1 hb2 HB0 HC hz0 HM
  have r0 := Num.hide (box_first (x := Sign.lower x) (y := Sign.trim y) k0)
  have r1 := Num.hide (box_second (x := Sign.lower x) (y := Sign.trim y) k1)
  have HB1 := Num.hide ((HB.out.setCell (p := ⟨w.heap.size, 0, none⟩) (Nat.le_refl _) (.string (Sign.lower x))).setCell (p := ⟨w.heap.size, 1, none⟩) (Nat.le_refl _) (.string (Sign.trim y)))
  go_wp2
  generalize ((w2.setCell ⟨w.heap.size, 0, none⟩ (.string (Sign.lower x))).setCell ⟨w.heap.size, 1, none⟩ (.string (Sign.trim y))) = w3 at r0 r1 HB1 ⊢
  have r0 := r0.out
  have r1 := r1.out
  exact bodyPost_ret (v := .tuple #[.agg #[.string (Sign.lower x), .string (Sign.trim y)], .bool b]) (by simp [results, Tryz.results186, go_sem, r0, r1]) rfl ⟨rfl, HB1.out⟩
theorem flt_more (L : List ByteArray) (k : Nat) (h : k < L.length) : (L.take (k + 1)).filterMap fieldAt = (L.take k).filterMap fieldAt ++ (if (Line.colon L[k]).isSome = true then [lineF L[k]] else []) := by
  rw [flt_take L k h]
  congr 1
  unfold fieldAt lineF
  cases Line.colon L[k] <;> rfl
set_option maxRecDepth 100000 in
set_option maxHeartbeats 2000000 in
theorem fieldsOf_any (v : Value) (L : List ByteArray) (w : World) (h : Strs.Is w v L) (hl : L.length ≤ 1048576) (hz : ∀ t ∈ L, t.size ≤ 1048576) (hm : Lim w) :
    Calls Tryz.prog 185 #[v, .func (.func 186) #[] #[]] w fun e w' => ∃ v', e = .returned v' ∧ Own w.heap.size w' v' (L.filterMap fieldAt) ∧ Below w.heap.size w w' := by
  have h2 : ∃ a c, v = .slice a L.length c ∧ (0 < L.length → ∃ b o, a = some ⟨b, o, none⟩ ∧ L.length ≤ c ∧ c ≤ maxLen ∧ b < w.heap.size ∧ ∀ i (h : i < L.length), w.cell? ⟨b, o + i, none⟩ = some (.string L[i])) := by
    rcases h with ⟨rfl, a, c, rfl⟩ | ⟨b, o, c, rfl, h1, h2, h3⟩
    · exact ⟨a, c, rfl, fun h => by simp at h⟩
    · refine ⟨_, c, rfl, fun hp => ⟨b, o, rfl, h1, h2, ?_, h3⟩⟩
      exact Recs.lt_of_cell (h3 0 hp)
  obtain ⟨a, c, rfl, h2⟩ := h2
  have HA := Num.hide h2
  have HZ := Num.hide hz
  have HM := Num.hide hm
  have hlm := lim_lt hm
  have hent : ∀ args W, (callFunc 186 args).run Tryz.prog W = .ok (.enter 186 args) W := enters_of Tryz.func186 (by kernel_rfl) rfl
  clear h h2 hz hm
  obtain ⟨i0, hi0, hz0, hz1, hz2⟩ := info_parts infoF
  have HA0 : Hid (Own w.heap.size w (.slice none 0 0) ((L.take 0).filterMap fieldAt)) := Recs.own_nil _ _
  go_enter Tryz.func185, Tryz.ntmps185
  go_wp2
  go_loopw [5, 12] (fun ov iv wr => ∃ i : Nat, i ≤ L.length ∧ iv = .int .i64 (i : Int) ∧ Hid (Own w.heap.size wr ov ((L.take i).filterMap fieldAt)) ∧ Hid (Below w.heap.size w wr)) (fun _ iv _ => L.length - (intOf iv).toNat)
  case atStart => exact ⟨0, by omega, rfl, HA0, Below.refl _ _⟩
  case round =>
    clear HA0
    obtain ⟨i, hi, rfl, HO, HB⟩ := hrel
    have hsz := HB.out.size
    by_cases hlt : i < L.length
    · obtain ⟨bk, o, rfl, hc, hmx, hblt, hcell⟩ := Num.unhide HA (by omega)
      have c1 : wr.cell? ⟨bk, o + i, none⟩ = some (.string L[i]) := by rw [HB.out.cell (p := ⟨bk, o + i, none⟩) hblt]; exact hcell i hlt
      have HCi := Num.hide (readF_any L[i] wr (HZ.out _ (List.getElem_mem hlt)) (lim_below HM.out HB.out hlm))
      have HF := Num.hide (flt_more L i hlt)
      have hdl : ((L.take i).filterMap fieldAt).length ≤ 1048576 := by have := flt_len (L.take i); rw [List.length_take] at this; omega
      clear hcell
      generalize L[i] = t at c1 HCi HF
      generalize lineF t = f at HCi HF
      generalize (Line.colon t).isSome = tb at HCi HF
      obtain ⟨m1, m2⟩ := f
      simp only at HCi
      go_wp2_with fail
      refine HCi.out.mono ?_
      rintro e w1 ⟨rfl, hb1⟩
      have HO2 := Num.hide (Recs.own_below HO.out hb1)
      have HB2 := Num.hide (HB.out.trans (hb1.mono hsz))
      have hsz2 := Nat.le_trans hsz hb1.size
      clear hb1 HO HB c1 HCi
      have hsz3 : w.heap.size ≤ (w1.alloc (.cells #[.string m1, .string m2] 36)).heap.size := by simp; omega
      have HB3 := Num.hide (HB2.out.alloc hsz2 (.cells #[.string m1, .string m2] 36))
      have HO3 := Num.hide (World.ownsRow.alloc HO2.out (.cells #[.string m1, .string m2] 36))
      clear HO2 HB2
      cases tb with
      | false =>
        have HO4 : Hid (Own w.heap.size (w1.alloc (.cells #[.string m1, .string m2] 36)) u5 ((L.take (i + 1)).filterMap fieldAt)) := by
          rw [HF.out, if_neg (by simp), List.append_nil]; exact HO3
        clear HO3
        go_wp2
        go_roundw
        case rel => exact ⟨i + 1, by omega, by go_num, HO4, HB3⟩
        case measure => simp [intOf]; omega
      | true =>
        have HF2 : Hid ((L.take (i + 1)).filterMap fieldAt = (L.take i).filterMap fieldAt ++ [(m1, m2)]) := by show _ = _; rw [HF.out, if_pos rfl]
        clear HF
        go_wp2_with (at_builtin; refine wpList_append_own _ rfl _ _ 37 rfl w.heap.size 36 i0 _ 2 32 Tryz.underlying37 hi0 hz0 hz1 hz2 rfl (by decide) _ _ _ rfl (World.ownsRow.alloc HO3.out _) ⟨w1.heap.size + 1, 0, none⟩ 1 1 [.string m1, .string m2] rfl rfl (by simpa using cells_two (w1.alloc (.cells #[.string m1, .string m2] 36)) m1 m2) (two_ok m1 m2) (by unfold maxLen; omega) (by omega) ?c5 ?_)
        case c5 => first | omega | (simp; omega)
        intro v' w2 ho2 hg2 _
        obtain ⟨hp1, hp2⟩ := put_more hsz3 HO3.out (Below.refl w.heap.size _) ho2 hg2
        have HP1 : Hid (Own w.heap.size w2 v' ((L.take (i + 1)).filterMap fieldAt)) := by rw [HF2.out]; exact hp1
        have HP2 := Num.hide (HB3.out.trans hp2)
        clear ho2 hg2 hp1 hp2
        go_wp2
        go_roundw
        case rel => exact ⟨i + 1, by omega, by go_num, HP1, HP2⟩
        case measure => simp [intOf]; omega
    · obtain rfl : i = L.length := by omega
      have ho := HO.out
      rw [List.take_length] at ho
      have HO2 := Num.hide ho
      clear ho HO
      go_wp2
      go_ret
      exact ⟨_, rfl, HO2.out, HB.out⟩
end Flds
end Go.Proofs.YtbajfklnekfeoaaGreatDoor
namespace Go.Proofs.YtbajfklnekfeoaaGreatDoor
open Go.RowKit
set_option linter.unusedVariables false
namespace Flds

/-- sizes of the fields of lines -/
theorem fld_small {L : List ByteArray} (h : ∀ t ∈ L, t.size ≤ 1048576) : ∀ f ∈ L.filterMap fieldAt, f.1.size ≤ 1048576 ∧ f.2.size ≤ 1048576 := by
  intro f hf
  obtain ⟨t, ht, he⟩ := List.mem_filterMap.1 hf
  unfold fieldAt at he
  obtain ⟨k, hk, rfl⟩ := Option.map_eq_some_iff.1 he
  have := h t ht
  unfold fieldOf
  refine ⟨by show (Sign.lower _).size ≤ _; rw [Sign.size_lower, ByteArray.size_extract]; omega, ?_⟩
  have h2 := Sign.trim_size (t.extract (k + 1) t.size)
  rw [ByteArray.size_extract] at h2
  show (Sign.trim _).size ≤ _
  omega
/-- what is told, by the lines -/
theorem told_bad {s : ByteArray} {L : List ByteArray} {n : Nat} (h : lines s = some (L, n)) (hg : L.all good = false) : readL s = [] ∧ readN s = 0 ∧ readB s = false :=
  told_none (by rw [read_of_lines, h]; simp only [Option.bind_some]; rw [if_neg (by rw [hg]; decide)])
theorem told_good {s : ByteArray} {L : List ByteArray} {n : Nat} (h : lines s = some (L, n)) (hg : L.all good = true) : readL s = L.filterMap fieldAt ∧ readN s = (n : Int) ∧ readB s = true :=
  told_some (by rw [read_of_lines, h]; simp only [Option.bind_some]; rw [if_pos hg])
set_option maxRecDepth 100000 in
set_option maxHeartbeats 2000000 in
theorem read_impl (s : ByteArray) (w : World) (hs : s.size ≤ 1048576) (hS : Sign.Signs w) (hm : Lim w) :
    Calls Tryz.prog 160 #[.string s] w fun e w' => ∃ v', e = .returned (.tuple #[v', .int .i64 (readN s), .bool (readB s)]) ∧ Own w.heap.size w' v' (readL s) ∧ Below w.heap.size w w' := by
  have HLn := Num.hide (lines_impl s w hs hm)
  have HM := Num.hide hm
  have HSg := Num.hide hS
  have hlm := lim_lt hm
  have hsg := signs_lt hS
  clear hm hS
  cases hl : lines s with
  | none =>
    obtain ⟨e1, e2, e3⟩ := ln_told_none hl
    obtain ⟨g1, g2, g3⟩ := told_none (s := s) (by rw [read_of_lines, hl]; rfl)
    rw [g1, g2, g3]
    rw [e1, e2, e3] at HLn
    clear e1 e2 e3 g1 g2 g3 hl
    go_enter Tryz.func160, Tryz.ntmps160
    go_wp2_with fail
    refine HLn.out.mono ?_
    rintro e w1 ⟨v, rfl, ho, hb⟩
    have HB := Num.hide hb
    clear ho hb
    go_wp2
    go_ret3
    exact ⟨_, rfl, Recs.own_nil _ _, HB.out⟩
  | some p =>
    obtain ⟨L, n⟩ := p
    obtain ⟨e1, e2, e3⟩ := ln_told_some hl
    rw [e1, e2, e3] at HLn
    obtain ⟨hn, hz0⟩ := linesGo_len s _ _ _ hl
    simp only at hn hz0
    have hz : ∀ t ∈ L, t.size ≤ 1048576 := fun t ht => Nat.le_trans (hz0 t ht) hs
    have HZ := Num.hide hz
    have HFs := Num.hide (fun v W h hm => fieldsOf_any v L W h (by omega) HZ.out hm)
    have HOk := Num.hide (fun v W h hS => ok_impl v (L.filterMap fieldAt) W h (fun f hf => by have := fld_small HZ.out f hf; unfold maxLen; omega) hS)
    have hfl := flt_len L
    have hent : ∀ args W, (callFunc 186 args).run Tryz.prog W = .ok (.enter 186 args) W := enters_of Tryz.func186 (by kernel_rfl) rfl
    by_cases hsh : (L.filterMap fieldAt).length < L.length
    · obtain ⟨g1, g2, g3⟩ := told_bad hl (good_short L hsh)
      rw [g1, g2, g3]
      clear e1 e2 e3 g1 g2 g3 hl hz hz0 HOk
      generalize L.filterMap fieldAt = F at HFs hsh hfl
      go_enter Tryz.func160, Tryz.ntmps160
      go_wp2_with fail
      refine HLn.out.mono ?_
      rintro e w1 ⟨v, rfl, ho, hb⟩
      obtain ⟨va, vc, hv⟩ := Strs.own_len ho
      subst hv
      have HB := Num.hide hb
      have HO := Num.hide ho
      clear ho hb HLn
      go_wp2_with fail
      refine (HFs.out _ _ (Strs.own_is HO.out) (lim_below HM.out HB.out hlm)).mono ?_
      rintro e w2 ⟨u, rfl, ho2, hb2⟩
      obtain ⟨ua, uc, hu⟩ := Recs.own_len ho2
      subst hu
      have HB2 := Num.hide (HB.out.trans (hb2.mono HB.out.size))
      clear ho2 hb2
      go_wp2
      go_ret3
      exact ⟨_, rfl, Recs.own_nil _ _, HB2.out⟩
    · have hg := good_full L hsh
      have hok : ok (L.filterMap fieldAt) = L.all good := by
        unfold ok
        rw [← hg, decide_eq_true (by omega : (L.filterMap fieldAt).length ≤ 12), Bool.and_true]
      rw [hok] at HOk
      have hfe : decide (((L.filterMap fieldAt).length : Int) < (L.length : Int)) = false := by rw [decide_eq_false_iff_not]; omega
      cases hga : L.all good with
      | false =>
        obtain ⟨g1, g2, g3⟩ := told_bad hl hga
        rw [g1, g2, g3]
        rw [hga] at HOk
        clear e1 e2 e3 g1 g2 g3 hl hz hz0 hg hok hga
        generalize L.filterMap fieldAt = F at HFs hsh hfl hfe HOk
        go_enter Tryz.func160, Tryz.ntmps160
        go_wp2_with fail
        refine HLn.out.mono ?_
        rintro e w1 ⟨v, rfl, ho, hb⟩
        obtain ⟨va, vc, hv⟩ := Strs.own_len ho
        subst hv
        have HB := Num.hide hb
        have HO := Num.hide ho
        clear ho hb HLn
        go_wp2_with fail
        refine (HFs.out _ _ (Strs.own_is HO.out) (lim_below HM.out HB.out hlm)).mono ?_
        rintro e w2 ⟨u, rfl, ho2, hb2⟩
        obtain ⟨ua, uc, hu⟩ := Recs.own_len ho2
        subst hu
        have HB2 := Num.hide (HB.out.trans (hb2.mono HB.out.size))
        have HO2 := Num.hide ho2
        clear ho2 hb2
        go_wp2_with fail
        refine (HOk.out _ _ (Recs.own_is cells_len HO2.out) (signs_below HSg.out HB2.out hsg)).mono ?_
        rintro e w3 ⟨rfl, hb3⟩
        have HB3 := Num.hide (HB2.out.trans (hb3.mono HB2.out.size))
        clear hb3
        go_wp2
        go_ret3
        exact ⟨_, rfl, Recs.own_nil _ _, HB3.out⟩
      | true =>
        obtain ⟨g1, g2, g3⟩ := told_good hl hga
        rw [g1, g2, g3]
        rw [hga] at HOk
        clear e1 e2 e3 g1 g2 g3 hl hz hz0 hg hok hga
        generalize L.filterMap fieldAt = F at HFs hsh hfl hfe HOk
        go_enter Tryz.func160, Tryz.ntmps160
        go_wp2_with fail
        refine HLn.out.mono ?_
        rintro e w1 ⟨v, rfl, ho, hb⟩
        obtain ⟨va, vc, hv⟩ := Strs.own_len ho
        subst hv
        have HB := Num.hide hb
        have HO := Num.hide ho
        clear ho hb HLn
        go_wp2_with fail
        refine (HFs.out _ _ (Strs.own_is HO.out) (lim_below HM.out HB.out hlm)).mono ?_
        rintro e w2 ⟨u, rfl, ho2, hb2⟩
        obtain ⟨ua, uc, hu⟩ := Recs.own_len ho2
        subst hu
        have HB2 := Num.hide (HB.out.trans (hb2.mono HB.out.size))
        have HO2 := Num.hide (Recs.own_mono ho2 HB.out.size)
        clear ho2 hb2
        go_wp2_with fail
        refine (HOk.out _ _ (Recs.own_is cells_len HO2.out) (signs_below HSg.out HB2.out hsg)).mono ?_
        rintro e w3 ⟨rfl, hb3⟩
        have HB3 := Num.hide (HB2.out.trans (hb3.mono HB2.out.size))
        have HO3 := Num.hide (Recs.own_below HO2.out hb3)
        clear hb3
        go_wp2
        go_ret3
        exact ⟨_, rfl, HO3.out, HB3.out⟩
end Flds
end Go.Proofs.YtbajfklnekfeoaaGreatDoor
namespace Go.Proofs.YtbajfklnekfeoaaGreatDoor
open Go.Shelf Go.RowKit
set_option linter.unusedVariables false
theorem Shelf.writeStringK (B b : Nat) (bs : List Value) (s : ByteArray) (w : World) (h : Lib.IsBuilderF 66 5 B b bs w) (hlen : bs.length + s.size ≤ 140737488355328) (hBw : B ≤ w.heap.size) :
    Calls Tryz.prog 40 #[.pointer (some ⟨b, 0, none⟩), .string s] w fun e w' => e = .returned (.tuple #[.int .i64 s.size, .nilIface]) ∧ (Lib.BuilderAtF 66 5 B b (.pointer (some ⟨b, 0, none⟩)) (bs ++ Lib.strCells s) w' ∧ Below B w w' ∧ Lib.OthersKept 5 (some b) w w') :=
  Any.Builder_WriteString_k Shelf.lays166 Shelf.build_extra B b bs s w h hlen hBw
theorem Shelf.builderStringK (B b : Nat) (l : List UInt8) (w : World) (h : Lib.IsBuilderF 66 5 B b (Lib.byteCells l) w) (hBw : B ≤ w.heap.size) :
    Calls Tryz.prog 42 #[.pointer (some ⟨b, 0, none⟩)] w fun e w' => e = .returned (.string ⟨l.toArray⟩) ∧ (Lib.IsBuilderF 66 5 B b (Lib.byteCells l) w' ∧ Below B w w' ∧ Lib.OthersKept 5 (some b) w w') :=
  Any.Builder_String_any_k Shelf.lays169 Shelf.build_extra B b l w h hBw
namespace Body
/-- rows of cells that are there stay -/
def RowsStay (W W' : World) : Prop := ∀ (k : Nat) (c : Array Value) (t : TypeId) (fz : Nat × Nat), W.heap[k]? = some (Obj.cells c t fz) → W'.heap[k]? = some (Obj.cells c t fz)
theorem rows_below {W W' : World} (h : Below W.heap.size W W') : RowsStay W W' := fun k c t fz hk => (h.block k (Array.getElem?_eq_some_iff.1 hk).1).trans hk
theorem isb_rows {T e : TypeId} {B b : Nat} {bs : List Value} {W W' : World} (h : Lib.IsBuilderF T e B b bs W) (hr : RowsStay W W') : Lib.IsBuilderF T e B b bs W' := by
  have key : ∀ p, Lib.BuilderAtF T e B b p bs W → Lib.BuilderAtF T e B b p bs W' := by
    rintro p ⟨hB, v, hb, ⟨h1, h2⟩, hne⟩
    refine ⟨hB, v, hr _ _ _ _ hb, ⟨h1, ?_⟩, hne⟩
    rcases h2 with h2 | ⟨g, cap, cur, fz, e1, e2, e3, e4⟩
    · exact .inl h2
    · exact .inr ⟨g, cap, cur, fz, e1, e2, hr _ _ _ _ e3, e4⟩
  exact h.elim (fun x => .inl (key _ x)) (fun x => .inr (key _ x))
theorem rows_turn {W W' : World} {row : Option Nat} (hg : W.grownBy W' row) (hr : ∀ r, row = some r → ∃ o : Obj, W.heap[r]? = some o ∧ o.isCells = false) : RowsStay W W' := fun k c t fz hk =>
  (hg.block k (Array.getElem?_eq_some_iff.1 hk).1 (fun e => by
    obtain ⟨o, ho, hc⟩ := hr k e.symm
    rw [hk] at ho
    cases ho
    cases hc)).trans hk
theorem isb_own {β : Type} (n : Nat) (T e : TypeId) (B b : Nat) (f : β → List Value) : OwnFrom n (fun s W => Lib.IsBuilderF T e B b (f s) W) := fun s W W' row hs hg hr => isb_rows hs (rows_turn hg (fun r e => (hr r e).2))
/-- a block that is there stays as it is -/
def KeepB (k : Nat) (W W' : World) : Prop := ∀ o, W.heap[k]? = some o → W'.heap[k]? = some o
theorem keepB_t {k : Nat} {A B C : World} (h : KeepB k A B) (g : KeepB k B C) : KeepB k A C := fun o ho => g o (h o ho)
theorem keepB_b {k : Nat} {w : World} (hk : k < w.heap.size) (W : World) (l : Nat) (o o' : Obj) (hl : w.heap.size ≤ l) (h : W.heap[l]? = some o) (_ : o.isCells = false) (_ : o.isWalk = false) : KeepB k W (W.putObj l o') := fun x hx => (World.putObj_heap_other (by omega)).trans hx
theorem keepB_below {k : Nat} {W W' : World} (h : Below W.heap.size W W') : KeepB k W W' := fun o ho => (h.block k (Array.getElem?_eq_some_iff.1 ho).1).trans ho
theorem keepB_others {k b : Nat} {e : TypeId} {W W' : World} (h : Lib.OthersKept e (some b) W W') (hk : k ≠ b) {c : Array Value} {t : TypeId} {fz : Nat × Nat} (hc : W.heap[k]? = some (.cells c t fz)) (ht : t ≠ e) : KeepB k W W' := fun o ho => by
  rw [hc] at ho
  cases ho
  exact h k _ hc (fun e => hk (by cases e; rfl)) (fun c' fz' e => by cases e; exact ht rfl)
theorem from_others {b n : Nat} {e : TypeId} {W W' : World} (h : Lib.OthersKept e (some b) W W') (hs : W.heap.size ≤ W'.heap.size) (hn : b < n) : KeepsFrom n W W' :=
  ⟨hs, fun k o hk ho hc => h k o ho (fun e => by cases e; omega) (fun c fz e => by subst e; cases hc)⟩
theorem from_below {n : Nat} {W W' : World} (h : Below W.heap.size W W') : KeepsFrom n W W' := ⟨h.size, fun k o _ ho _ => (h.block k (Array.getElem?_eq_some_iff.1 ho).1).trans ho⟩
end Body
end Go.Proofs.YtbajfklnekfeoaaGreatDoor
namespace Go.Proofs.YtbajfklnekfeoaaGreatDoor
open Go.RowKit Go.Shelf
attribute [local go_sem] Oper.semAt_some
set_option linter.unusedVariables false
namespace Body

/-- a piece, as it is handed on -/
abbrev Pc := { x : Pc0 // x.1.size ≤ 60 ∧ x.2.1 ≤ 4194304 ∧ x.2.2 ≤ 2 }
def catB (l : List Pc) : ByteArray := l.foldl (fun o x => o ++ x.1.1) ⟨#[]⟩
def sumU (l : List Pc) : Nat := l.foldl (fun n x => n + x.1.2.1) 0
theorem catB_snoc (l : List Pc) (x : Pc) : catB (l ++ [x]) = catB l ++ x.1.1 := by unfold catB; rw [List.foldl_append]; rfl
theorem sumU_snoc (l : List Pc) (x : Pc) : sumU (l ++ [x]) = sumU l + x.1.2.1 := by unfold sumU; rw [List.foldl_append]; rfl
/-- of what there was all rows of pieces stay, and all that is old -/
def KeepP (n : Nat) (W W' : World) : Prop := Below n W W' ∧ ∀ (k : Nat) (c : Array Value) (fz : Nat × Nat), W.heap[k]? = some (.cells c 117 fz) → W'.heap[k]? = some (.cells c 117 fz)
theorem keepP_t {n : Nat} {A B C : World} (h : KeepP n A B) (g : KeepP n B C) : KeepP n A C := ⟨h.1.trans g.1, fun k c fz hk => g.2 k c fz (h.2 k c fz hk)⟩
theorem keepP_b {n : Nat} {w : World} (hn : n ≤ w.heap.size) (W : World) (l : Nat) (o o' : Obj) (hl : w.heap.size ≤ l) (h : W.heap[l]? = some o) (hc : o.isCells = false) (hw : o.isWalk = false) : KeepP n W (W.putObj l o') :=
  ⟨belowK_b hn W l o o' hl h hc hw, fun k c fz hk => (World.putObj_heap_other (by rintro rfl; rw [h] at hk; cases hk; cases hc)).trans hk⟩
theorem grown_of_below {W W' : World} (h : Below W.heap.size W W') : W.grownBy W' none := ⟨h.os, h.tape, h.output, h.size, fun k hk _ => h.block k hk⟩
/-- what is known at the end, and where it was left -/
def PEnd (s : ByteArray) (xs : List Pc) : Prop := (∀ x ∈ xs, x.1.2.2 = 0) → unchunk s = (catB xs, (sumU xs : Int), 0)
def PLeft (s : ByteArray) (xs : List Pc) : Prop := ∀ init x, xs = init ++ [x] → x.1.2.2 ≠ 0 → unchunk s = (⟨#[]⟩, 0, (x.1.2.2 : Int))
theorem snoc_inj {α : Type} {l l' : List α} {x x' : α} (h : l ++ [x] = l' ++ [x']) : l = l' ∧ x = x' := by
  have := List.append_inj' h rfl
  exact ⟨this.1, by simpa using this.2⟩
set_option maxRecDepth 100000 in
set_option maxHeartbeats 4000000 in
theorem pieces_stops (n n0 k1 : Nat) (s : ByteArray) (m b : Addr) (w : World) (hn : 1 ≤ n) (hs : s.size ≤ 1048576) (hn0 : n0 ≤ w.heap.size)
    (hG : ∀ W, Below n0 w W → Lim W ∧ Syn W ∧ Errs m b W)
    (h1 : w.heap[k1]? = some (.cells #[.string s] 9 (0, 0))) :
    SeqStopsK Fence.wide n Tryz.prog 132 #[.pointer (some ⟨k1, 0, none⟩)] (fun x : Pc => #[Value.agg #[.string x.1.1, .int .i64 (x.1.2.1 : Int)], errV m b x.1.2.2]) (KeepP n0) (PEnd s) (PLeft s) (s.size + 1) w := fun l J Jx W hW hJ hJx hY h0 => by
  have hW1 := (hW.block k1 (Array.getElem?_eq_some_iff.1 h1).1).trans h1
  have hc1 : W.cell? ⟨k1, 0, none⟩ = some (.string s) := by simp [World.cell?, hW1]
  have HY := Num.hide hY
  have HJ := Num.hide hJ
  have H0 := Num.hide h0
  have HG := Num.hide hG
  have HW := Num.hide (hW.mono hn0)
  clear hW hJ hJx hY h0 hW1 h1 hG
  refine callsIn_of_wp Tryz.func132 rfl trivial ?_ rfl
  simp only [Tryz.ntmps132, List.size_toArray, List.length_cons, List.length_nil, Nat.reduceAdd, Nat.reduceSub, Array.replicate_succ, Array.replicate_zero, List.push_toArray, List.append_toArray, List.nil_append, List.cons_append]
  gi_wp2
  gi_loopw [3, 4] (fun rv ov wr => ∃ (a room : Nat) (pre : List Pc), rv = .string (s.extract a s.size) ∧ ov = .int .i64 (room : Int) ∧ a ≤ s.size ∧ room ≤ 60 ∧ pre.length ≤ a ∧ Hid (room + (catB pre).size = 60 ∧ UnAt s a (catB pre) ∧ sumU pre = a ∧ ∀ x ∈ pre, x.1.2.2 = 0) ∧ Hid (J pre wr) ∧ Hid (Below n0 w wr) ∧ W.heap.size ≤ wr.heap.size) (fun rv _ _ => match rv with | .string t => t.size | _ => 0)
  case atStart => exact ⟨0, 60, [], by simp, rfl, Nat.zero_le _, Nat.le_refl _, Nat.le_refl _, ⟨rfl, un_start s, rfl, fun x h => by cases h⟩, H0, HW, Nat.le_refl _⟩
  case round =>
    obtain ⟨a, room, pre, rfl, rfl, ha, hr, hpl, HA, HJp, HB, hzs⟩ := hrel
    obtain ⟨hm, hS, hE⟩ := HG.out _ HB.out
    have HC := Num.hide (piece_impl s a room m b wr hs ha hr hm hS hE)
    have hz : (s.extract a s.size).size = s.size - a := by rw [ByteArray.size_extract]; omega
    have hcd := pc_code (s := s) (a := a) (room := room)
    have HT := Num.hide (fun h => pc_told (room := room) HA.out.2.1 HA.out.1 h)
    have HRt := Num.hide (fun h => pc_right (room := room) HA.out.2.1 HA.out.1 h)
    clear hm hS hE
    unfold pcV at HC
    generalize pieceAt s a room = X at HC hcd HT HRt
    obtain ⟨t, u, c⟩ := X
    have hpn : pre.length < s.size + 1 := by omega
    by_cases hc : c = 0
    · subst hc
      obtain ⟨g1, g2, g3, g4, g5⟩ := HRt.out rfl
      have G4 := Num.hide g4
      have G5 := Num.hide g5
      replace g1 : t.size ≤ room := g1
      replace g2 : a + u ≤ s.size := g2
      have hp : t.size ≤ 60 ∧ u ≤ 4194304 ∧ 0 ≤ 2 := ⟨Nat.le_trans g1 hr, by omega, hcd⟩
      clear g4 g5 HT HRt hcd
      simp only [errV] at HC
      by_cases ht : t.size = 0
      · obtain rfl : t = ⟨#[]⟩ := Sign.empty_true _ ht
        have HYx := Num.hide (fun W => HY.out pre ⟨(⟨#[]⟩, u, 0), hp⟩ W)
        gi_wp2_with (refine ⟨trivial, ?_⟩; gi_at_call 133; refine (callsIn_wide.2 HC.out).mono ?_; rintro e w1 ⟨rfl, hb1⟩; have hb2 : Below wr.heap.size wr (w1.alloc (.cells #[.string ⟨#[]⟩, .int .i64 (u : Int)] 117)) := hb1.alloc hb1.size _; have hbx := World.alloc_heap_new w1 (.cells #[.string ⟨#[]⟩, .int .i64 (u : Int)] 117); obtain ⟨fn, tmps, assign, body, hy, hR⟩ := HYx.out _ (HJ.out pre wr _ none HJp.out (grown_of_below hb2) (fun r e => by cases e)) hpn; simp only [errV] at hy; have HR := Num.hide hR; have hws := hb2.size; have HB2 := Num.hide (HB.out.trans (hb2.mono (Nat.le_trans hn0 HB.out.size))); clear hR hb1 hb2 HC)
        refine HR.out.mono ?_
        rintro e W3 (⟨rfl, hJ3, hk3⟩ | ⟨rfl, hJx3⟩)
        · have hbx3 := hk3.2 _ _ _ hbx
          have c0 : W3.cell? ⟨w1.heap.size, 0, none⟩ = some (.string ⟨#[]⟩) := by simp [World.cell?, hbx3]
          have HJ3 := Num.hide hJ3
          clear hk3 hJ3
          gi_wp2
          refine bodyPost_ret (results_none rfl _ _ _) rfl ?_
          exact ⟨⟨_, rfl⟩, .inl ⟨_, fun _ => by rw [catB_snoc, sumU_snoc, HA.out.2.2.1]; exact G4.out rfl, HJ3.out⟩⟩
        · have HJ3 := Num.hide hJx3
          clear hJx3
          gi_wp2
          refine bodyPost_ret (results_none rfl _ _ _) rfl ?_
          exact ⟨⟨_, rfl⟩, .inr ⟨_, fun init x he hx => by obtain ⟨rfl, rfl⟩ := snoc_inj he; exact absurd rfl hx, HJ3.out⟩⟩
      · have hne := Sign.empty_false t (by omega)
        have HYx := Num.hide (fun W => HY.out pre ⟨(t, u, 0), hp⟩ W)
        gi_wp2_with (refine ⟨trivial, ?_⟩; gi_at_call 133; refine (callsIn_wide.2 HC.out).mono ?_; rintro e w1 ⟨rfl, hb1⟩; have hb2 : Below wr.heap.size wr (w1.alloc (.cells #[.string t, .int .i64 (u : Int)] 117)) := hb1.alloc hb1.size _; have hbx := World.alloc_heap_new w1 (.cells #[.string t, .int .i64 (u : Int)] 117); obtain ⟨fn, tmps, assign, body, hy, hR⟩ := HYx.out _ (HJ.out pre wr _ none HJp.out (grown_of_below hb2) (fun r e => by cases e)) hpn; simp only [errV] at hy; have HR := Num.hide hR; have hws := hb2.size; have HB2 := Num.hide (HB.out.trans (hb2.mono (Nat.le_trans hn0 HB.out.size))); clear hR hb1 hb2 HC)
        refine HR.out.mono ?_
        rintro e W3 (⟨rfl, hJ3, hk3⟩ | ⟨rfl, hJx3⟩)
        · have hbx3 := hk3.2 _ _ _ hbx
          have c0 : W3.cell? ⟨w1.heap.size, 0, none⟩ = some (.string t) := by simp [World.cell?, hbx3]
          have c1 : W3.cell? ⟨w1.heap.size, 1, none⟩ = some (.int .i64 (u : Int)) := by simp [World.cell?, hbx3]
          have HJ3 := Num.hide hJ3
          have HB3 := Num.hide (HB2.out.trans hk3.1)
          have hz3 := hk3.1.size
          clear hk3 hJ3
          have hsl : (s.extract a s.size).extract u (s.size - a) = s.extract (a + u) s.size := by
            rw [ByteArray.extract_extract]
            congr 1
            omega
          have hmx : Tryz.prog.follows .mixedOrders = true := by kernel_rfl
          gi_wp2
          gi_region_o
          all_goals gi_wp2
          have HJd : Hid (J (pre ++ [⟨(t, u, 0), hp⟩]) W3.drew) := HJ.out _ W3 _ none HJ3.out (grown_of_below ((Below.refl _ W3).drew)) (fun r e => by cases e)
          have hlast : Hid (room - t.size + (catB (pre ++ [⟨(t, u, 0), hp⟩])).size = 60 ∧ UnAt s (a + u) (catB (pre ++ [⟨(t, u, 0), hp⟩])) ∧ sumU (pre ++ [⟨(t, u, 0), hp⟩]) = a + u ∧ ∀ x ∈ (pre ++ [⟨(t, u, 0), hp⟩]), x.1.2.2 = 0) := by
            have g := HA.out
            refine ⟨by rw [catB_snoc, ByteArray.size_append]; have := g.1; show room - t.size + ((catB pre).size + t.size) = 60; omega, by rw [catB_snoc]; exact G5.out ht, by rw [sumU_snoc, g.2.2.1], fun x hx => ?_⟩
            rcases List.mem_append.1 hx with hx | hx
            · exact g.2.2.2 x hx
            · obtain rfl := List.mem_singleton.1 hx
              rfl
          go_roundw
          case rel => exact ⟨a + u, room - t.size, _, rfl, by congr 1; omega, g2, by omega, by rw [List.length_append, List.length_singleton]; omega, hlast, HJd, HB3.out.drew, by show W.heap.size ≤ W3.heap.size; omega⟩
          case measure => simp only [ByteArray.size_extract]; omega
        · have HJ3 := Num.hide hJx3
          clear hJx3
          gi_wp2
          refine bodyPost_ret (results_none rfl _ _ _) rfl ?_
          exact ⟨⟨_, rfl⟩, .inr ⟨_, fun init x he hx => by obtain ⟨rfl, rfl⟩ := snoc_inj he; exact absurd rfl hx, HJ3.out⟩⟩
    · obtain ⟨g1, rfl, rfl⟩ := HT.out hc
      have G1 := Num.hide g1
      have hp : (⟨#[]⟩ : ByteArray).size ≤ 60 ∧ 0 ≤ 4194304 ∧ c ≤ 2 := ⟨by decide, by omega, hcd⟩
      obtain ⟨ad, had⟩ : ∃ ad, errV m b c = .iface 199 (.pointer (some ad)) := by
        match c, hc, hcd with
        | 1, _, _ => exact ⟨m, rfl⟩
        | 2, _, _ => exact ⟨b, rfl⟩
      have HYx := Num.hide (fun W => HY.out pre ⟨(⟨#[]⟩, 0, c), hp⟩ W)
      simp only [had] at HYx
      rw [had, show ((0 : Nat) : Int) = 0 from rfl] at HC
      clear g1 HT HRt
      gi_wp2_with (refine ⟨trivial, ?_⟩; gi_at_call 133; refine (callsIn_wide.2 HC.out).mono ?_; rintro e w1 ⟨rfl, hb1⟩; have hb2 : Below wr.heap.size wr (w1.alloc (.cells #[.string ⟨#[]⟩, .int .i64 0] 117)) := hb1.alloc hb1.size _; have hbx := World.alloc_heap_new w1 (.cells #[.string ⟨#[]⟩, .int .i64 0] 117); obtain ⟨fn, tmps, assign, body, hy, hR⟩ := HYx.out _ (HJ.out pre wr _ none HJp.out (grown_of_below hb2) (fun r e => by cases e)) hpn; rw [show ((0 : Nat) : Int) = 0 from rfl] at hy; have HR := Num.hide hR; have hws := hb2.size; have HB2 := Num.hide (HB.out.trans (hb2.mono (Nat.le_trans hn0 HB.out.size))); clear hR hb1 hb2 HC)
      refine HR.out.mono ?_
      rintro e W3 (⟨rfl, hJ3, hk3⟩ | ⟨rfl, hJx3⟩)
      · have HJ3 := Num.hide hJ3
        clear hk3 hJ3
        gi_wp2
        refine bodyPost_ret (results_none rfl _ _ _) rfl ?_
        exact ⟨⟨_, rfl⟩, .inl ⟨_, fun h => absurd (h _ (List.mem_append.2 (.inr (List.mem_singleton.2 rfl)))) hc, HJ3.out⟩⟩
      · have HJ3 := Num.hide hJx3
        clear hJx3
        gi_wp2
        refine bodyPost_ret (results_none rfl _ _ _) rfl ?_
        exact ⟨⟨_, rfl⟩, .inr ⟨_, fun init x he hx => by obtain ⟨rfl, rfl⟩ := snoc_inj he; exact G1.out, HJ3.out⟩⟩
end Body
end Go.Proofs.YtbajfklnekfeoaaGreatDoor
