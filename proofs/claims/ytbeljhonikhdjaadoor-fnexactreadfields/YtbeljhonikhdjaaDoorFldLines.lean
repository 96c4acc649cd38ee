/-
  linesAhead of the program: the lines up to an empty one, in a row of the call's own; what was there stays.
-/
import Derived.Test.YtbeljhonikhdjaaDoorFldLineNum
import Derived.Test.YtbeljhonikhdjaaDoorStrs
import Derived.Test.YtbeljhonikhdjaaDoorShelfCut
namespace Go.Proofs.YtbeljhonikhdjaaDoor
open Go.RowKit
set_option linter.unusedVariables false
namespace Flds

/-- the library's variable holds some number -/
def Lim (w : World) : Prop := ∃ m, w.cell? ⟨0, 0, none⟩ = some (.int .i64 m)
theorem lim_lt {w : World} (h : Lim w) : 0 < w.heap.size := by obtain ⟨m, hm⟩ := h; exact Recs.lt_of_cell hm
theorem lim_of {w : World} (h : w.ShapedOpen Tryd.prog) : Lim w := Shelf.laysM145.s1_3 w h
theorem lim_below {w w' : World} {B : Nat} (h : Lim w) (hb : Below B w w') (hB : 0 < B) : Lim w' := by
  obtain ⟨m, hm⟩ := h
  exact ⟨m, (hb.cell (p := ⟨0, 0, none⟩) hB).trans hm⟩
theorem cut_eol (s : ByteArray) (a : Nat) (w : World) (hs : s.size ≤ 1048576) (hm : Lim w) :
    Calls Tryd.prog 58 #[.string (s.extract a s.size), .string ⟨#[13, 10]⟩] w fun e w' => ∃ x y, e = .returned (.tuple #[.string x, .string y, .bool (Line.eol s a).isSome]) ∧ (∀ i, Line.eol s a = some i → x = s.extract a i) ∧ ∃ n, w.drewN n = w' := by
  obtain ⟨m, hm⟩ := hm
  refine (Shelf.strings_Cut (s.extract a s.size) ⟨#[13, 10]⟩ m w (by rw [ByteArray.size_extract]; omega) hm).mono ?_
  rintro e w' ⟨rfl, n, rfl⟩
  cases he : Line.eol s a with
  | none =>
    obtain ⟨e1, e2, e3⟩ := Line.cut_none he
    exact ⟨_, _, by rw [e1, e2, e3]; rfl, (fun i h => by cases h), n, rfl⟩
  | some i =>
    obtain ⟨e1, e3⟩ := Line.cut_some he
    exact ⟨_, _, by rw [e1, e3]; rfl, (fun j h => by cases h; rfl), n, rfl⟩
set_option maxRecDepth 100000 in
set_option maxHeartbeats 2000000 in
theorem lines_impl (s : ByteArray) (w : World) (hs : s.size ≤ 1048576) (hm : Lim w) :
    Calls Tryd.prog 40 #[.string s] w fun e w' => ∃ v', e = .returned (.tuple #[v', .int .i64 (lnN s), .bool (lnB s)]) ∧ Strs.OwnS w.heap.size w' v' (lnL s) ∧ Below w.heap.size w w' := by
  obtain ⟨i0, hi0, hz0, hz1, hz2⟩ := info_parts Strs.infoS
  obtain ⟨L, hL⟩ : ∃ L, lnL s = L := ⟨_, rfl⟩
  obtain ⟨N, hN⟩ : ∃ N, lnN s = N := ⟨_, rfl⟩
  obtain ⟨b, hb⟩ : ∃ b, lnB s = b := ⟨_, rfl⟩
  rw [hL, hN, hb]
  have HR : Hid (lnL s = L ∧ lnN s = N ∧ lnB s = b) := ⟨hL, hN, hb⟩
  clear hL hN hb
  have HE : Hid (lines s = none → L = [] ∧ N = 0 ∧ b = false) := fun h => by
    obtain ⟨h1, h2, h3⟩ := ln_told_none h
    obtain ⟨g1, g2, g3⟩ := HR.out
    exact ⟨g1.symm.trans h1, g2.symm.trans h2, g3.symm.trans h3⟩
  have HF : Hid (∀ l n, lines s = some (l, n) → L = l ∧ N = (n : Int) ∧ b = true) := fun l n h => by
    obtain ⟨h1, h2, h3⟩ := ln_told_some h
    obtain ⟨g1, g2, g3⟩ := HR.out
    exact ⟨g1.symm.trans h1, g2.symm.trans h2, g3.symm.trans h3⟩
  have HM := Num.hide hm
  have hlm := lim_lt hm
  clear HR hm
  go_enter Tryd.func40, Tryd.ntmps40
  go_wp2
  go_loopw [5, 6] (fun ov av wr => ∃ (a : Nat) (l : List ByteArray), av = .int .i64 (a : Int) ∧ Hid (LnAt s a l) ∧ Hid (Strs.OwnS w.heap.size wr ov l) ∧ Hid (Below w.heap.size w wr)) (fun _ av _ => s.size - (intOf av).toNat)
  case atStart => exact ⟨0, [], rfl, ln_start s, Strs.own_nil _ _, Below.refl _ _⟩
  case round =>
    obtain ⟨a, l, rfl, HA, HO, HB⟩ := hrel
    obtain ⟨va, vc, hv⟩ := Strs.own_len HO.out
    subst hv
    have hle := HA.out.le
    have hln := HA.out.len
    have hsz := HB.out.size
    by_cases h12 : l.length ≤ 12
    · have d12 : decide ((l.length : Int) ≤ 12) = true := by simp; omega
      have HC := Num.hide (cut_eol s a wr hs (lim_below HM.out HB.out hlm))
      cases he : Line.eol s a with
      | none =>
        rw [he] at HC
        obtain ⟨rfl, rfl, rfl⟩ := Num.unhide HE (ln_none HA.out h12 he)
        clear he
        go_wp2_with fail
        refine (Num.unhide HC).mono ?_
        rintro e w1 ⟨x, y, rfl, _, n, rfl⟩
        go_wp2
        go_ret3
        exact ⟨_, rfl, Strs.own_nil _ _, Strs.below_drewN HB.out n⟩
      | some i =>
        rw [he] at HC
        have hin := Line.eol_in he
        by_cases hia : i = a
        · subst hia
          have hem : s.extract i i = ⟨#[]⟩ := Sign.empty_true _ (by rw [ByteArray.size_extract]; omega)
          obtain ⟨rfl, rfl, rfl⟩ := Num.unhide HF _ _ (ln_done HA.out h12 he)
          clear he
          go_wp2_with fail
          refine (Num.unhide HC).mono ?_
          rintro e w1 ⟨x, y, rfl, hx, n, rfl⟩
          obtain rfl : x = ⟨#[]⟩ := (hx i rfl).trans hem
          clear hx
          go_wp2
          go_ret3
          exact ⟨_, rfl, Strs.own_drewN HO.out n, Strs.below_drewN HB.out n⟩
        · have hts : (s.extract a i).size = i - a := by rw [ByteArray.size_extract]; omega
          have hne := Sign.empty_false (s.extract a i) (by omega)
          have HA2 := Num.hide (ln_more HA.out h12 he hia)
          clear he
          go_wp2_with fail
          refine (Num.unhide HC).mono ?_
          rintro e w1 ⟨x, y, rfl, hx, n, rfl⟩
          obtain rfl : x = s.extract a i := hx i rfl
          clear hx HC
          generalize s.extract a i = t at hne HA2 hts
          have hsz1 : w.heap.size ≤ (wr.drewN n).heap.size := hsz
          have HO1 : Hid (Strs.OwnS w.heap.size (wr.drewN n) (.slice va l.length vc) l) := Strs.own_drewN HO.out n
          have HB1 := Num.hide (Strs.below_drewN HB.out n)
          clear HO HB hsz
          generalize wr.drewN n = w1 at HO1 HB1 hsz1
          go_wp2_with (at_builtin; refine wpList_append_own _ rfl _ _ 50 rfl w.heap.size 9 i0 (.string ⟨#[]⟩) 1 16 Tryd.underlying50 hi0 hz0 hz1 hz2 rfl (by decide) _ _ _ rfl (World.ownsRow.alloc HO1.out _) ⟨w1.heap.size, 0, none⟩ 1 1 [.string t] rfl rfl (Strs.cells_one w1 t) (Strs.one_ok t) (by unfold maxLen; omega) (by omega) ?c5 ?_)
          case c5 => simp; omega
          intro v' w2 ho2 hg2 _
          have hp2 := Strs.below_grown (HB1.out.alloc hsz1 (.cells #[.string t] 9)) hg2 (fun j hj => (Strs.own_lt HO1.out j hj).1) (by simp; omega)
          have HP1 := Num.hide (Strs.own_snoc ho2)
          have HP2 := Num.hide hp2
          clear ho2 hg2 hp2
          go_wp2
          go_roundw
          case rel => exact ⟨i + 2, _, by go_num, HA2, HP1, HP2⟩
          case measure => simp [intOf]; omega
    · have d12 : decide ((l.length : Int) ≤ 12) = false := by simp; omega
      obtain ⟨rfl, rfl, rfl⟩ := Num.unhide HE (ln_full HA.out h12)
      go_wp2
      go_ret3
      exact ⟨_, rfl, Strs.own_nil _ _, HB.out⟩
end Flds
end Go.Proofs.YtbeljhonikhdjaaDoor
