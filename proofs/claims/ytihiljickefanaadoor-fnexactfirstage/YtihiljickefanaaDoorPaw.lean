/-
  RespLaw: szResponse of the laws: how much a response holds.
  RespTo: toResponse of the laws: a response taken over, its fields in a row of the call's own.
-/
import Derived.Test.YtihiljickefanaaDoorPau
import Derived.Test.YtihiljickefanaaDoorPav
import Derived.Test.YtihiljickefanaaDoorPar
namespace Go.Proofs.YtihiljickefanaaDoor
open Go.RowKit
set_option linter.unusedVariables false
namespace Resp

set_option maxRecDepth 100000 in
set_option maxHeartbeats 2000000 in
theorem sz_any (s : Int) (v : Value) (l : List Flds.Fld) (b : ByteArray) (n : Int) (w : World) (h : Flds.Arg w v l) (hb : b.size ≤ maxLen) (h0 : 0 ≤ n) (h1 : n ≤ 1048576) :
    Calls Tryd.prog 11 #[val s v b, .int .i64 n] w fun e w' => e = .returned (.int .i64 (Flds.left n (bulk l b))) ∧ Below w.heap.size w w' := by
  unfold val bulk
  unfold maxLen at hb
  obtain ⟨r, hr⟩ : ∃ r, Flds.left n (Flds.bulk l + b.size) = r := ⟨_, rfl⟩
  rw [hr]
  obtain ⟨a1, c1, rfl, _⟩ := Flds.is_form h.1
  have hb0 := (Below.refl w.heap.size w).alloc (Nat.le_refl _) (.cells #[.int .i64 s, .slice a1 l.length c1, .string b] 31)
  have HB0 := Num.hide hb0
  have HZ := Num.hide (Flds.szFieldS_any _ l n _ (Recs.is_stay h.1 (Nat.le_refl _) hb0) h.2 h0 h1)
  clear h hb0
  have hq0 : (0 : Int) ≤ (Flds.bulk l : Int) := by omega
  by_cases hl : (Flds.bulk l : Int) ≤ n
  · rw [Flds.left_yes hl] at HZ
    have dl : decide (n - (Flds.bulk l : Int) < 0) = false := by rw [decide_eq_false_iff_not]; omega
    by_cases hbb : n - (Flds.bulk l : Int) - (b.size : Int) < 0
    · obtain rfl : r = -1 := by rw [← hr]; exact Flds.left_no (by omega)
      clear hr
      generalize (Flds.bulk l : Int) = q at *
      go_enter Tryd.func11, Tryd.ntmps11
      go_wp2_with fail
      refine HZ.out.mono ?_
      rintro e w1 ⟨rfl, hb1⟩
      have k1 := (hb1.cell (p := ⟨w.heap.size, 2, none⟩) (by show w.heap.size < _; rw [World.size_alloc]; omega)).trans (cell_of_row _ _ _ _ _ _ (heap_alloc_new w _))
      simp only [List.getElem?_toArray, List.getElem?_cons_succ, List.getElem?_cons_zero] at k1
      have HB1 := Num.hide (HB0.out.trans (hb1.mono HB0.out.size))
      clear hb1 HB0 HZ
      go_wp2
      go_ret
      exact ⟨rfl, HB1.out⟩
    · have db : decide (n - (Flds.bulk l : Int) - (b.size : Int) < 0) = false := by rw [decide_eq_false_iff_not]; exact hbb
      obtain rfl : r = n - (Flds.bulk l : Int) - (b.size : Int) := by rw [← hr, Flds.left_yes (by omega)]; omega
      clear hr
      generalize (Flds.bulk l : Int) = q at *
      go_enter Tryd.func11, Tryd.ntmps11
      go_wp2_with fail
      refine HZ.out.mono ?_
      rintro e w1 ⟨rfl, hb1⟩
      have k1 := (hb1.cell (p := ⟨w.heap.size, 2, none⟩) (by show w.heap.size < _; rw [World.size_alloc]; omega)).trans (cell_of_row _ _ _ _ _ _ (heap_alloc_new w _))
      simp only [List.getElem?_toArray, List.getElem?_cons_succ, List.getElem?_cons_zero] at k1
      have HB1 := Num.hide (HB0.out.trans (hb1.mono HB0.out.size))
      clear hb1 HB0 HZ
      go_wp2
      go_ret
      exact ⟨rfl, HB1.out⟩
  · rw [Flds.left_no hl] at HZ
    obtain rfl : r = -1 := by rw [← hr]; exact Flds.left_no (by omega)
    clear hr
    go_enter Tryd.func11, Tryd.ntmps11
    go_wp2_with fail
    refine HZ.out.mono ?_
    rintro e w1 ⟨rfl, hb1⟩
    have HB1 := Num.hide (HB0.out.trans (hb1.mono HB0.out.size))
    clear hb1 HB0 HZ
    go_wp2
    go_ret
    exact ⟨rfl, HB1.out⟩
end Resp
end Go.Proofs.YtihiljickefanaaDoor
namespace Go.Proofs.YtihiljickefanaaDoor
open Go.RowKit
set_option linter.unusedVariables false
namespace Resp

set_option maxRecDepth 100000 in
set_option maxHeartbeats 2000000 in
theorem to_any (s : Int) (v : Value) (l : List Flds.Fld) (b : ByteArray) (w : World) (h : Flds.Is w v l) (hl : l.length ≤ 1048576) :
    Calls Tryd.prog 13 #[val s v b] w fun e w' => ∃ v', e = .returned (val s v' b) ∧ Flds.Own w.heap.size w' v' l ∧ Below w.heap.size w w' := by
  unfold val
  obtain ⟨a1, c1, rfl, _⟩ := Flds.is_form h
  have HI := Num.hide h
  clear h
  go_enter Tryd.func13, Tryd.ntmps13
  have HT := Num.hide (fun W h => Flds.toFieldS_any (.slice a1 l.length c1) l W h hl)
  have HB0 := Num.hide ((((Below.refl w.heap.size w).alloc (Nat.le_refl _) (.cells #[.int .i64 s, .slice a1 l.length c1, .string b] 31)).alloc (by simp) (.cells #[.int .i64 0, .slice none 0 0, .string ⟨#[]⟩] 35)).alloc (by simp; omega) (.cells #[.int .i64 s, .slice none 0 0, .string ⟨#[]⟩] 35))
  go_wp2_with fail
  refine (HT.out _ (Recs.is_stay HI.out (Nat.le_refl _) HB0.out)).mono ?_
  rintro e W1 ⟨v', rfl, ho, hb⟩
  obtain ⟨r0, r1, r2⟩ := Recs.three_rows w W1 _ _ _ hb
  obtain ⟨a2, c2, rfl⟩ := Recs.own_len ho
  have HO := Num.hide ho
  have HB1 := Num.hide (HB0.out.trans (hb.mono HB0.out.size))
  have k0 := Recs.box_cell r0 2
  have o0 := Recs.box_cell r2 0
  have o1 := Recs.box_cell r2 1
  have o2 := Recs.box_cell r2 2
  have t0 := Recs.box_cell r1 0
  have t1 := Recs.box_cell r1 1
  have t2 := Recs.box_cell r1 2
  have z0 := Recs.box_thaw r2 0
  have z1 := Recs.box_thaw r2 1
  have z2 := Recs.box_thaw r2 2
  have y0 := Recs.box_thaw r1 0
  have y1 := Recs.box_thaw r1 1
  have y2 := Recs.box_thaw r1 2
  simp only [List.getElem?_toArray, List.getElem?_cons_succ, List.getElem?_cons_zero] at k0 o0 o1 o2 t0 t1 t2
  clear ho hb r0 r1 r2 HT HI
  have hS : (((w.alloc (.cells #[.int .i64 s, .slice a1 l.length c1, .string b] 31)).alloc (.cells #[.int .i64 0, .slice none 0 0, .string ⟨#[]⟩] 35)).alloc (.cells #[.int .i64 s, .slice none 0 0, .string ⟨#[]⟩] 35)).heap.size = w.heap.size + 1 + 1 + 1 := by rw [World.size_alloc, World.size_alloc, World.size_alloc]
  have HP := Num.hide (((((((Recs.Past.refl w.heap.size (w.heap.size + 1 + 1 + 1) W1).set (w.heap.size + 1 + 1) 1 (.slice a2 l.length c2) (by omega) (by omega)).set (w.heap.size + 1 + 1) 2 (.string b) (by omega) (by omega)).set (w.heap.size + 1) 0 (.int .i64 s) (by omega) (by omega)).set (w.heap.size + 1) 1 (.slice a2 l.length c2) (by omega) (by omega)).set (w.heap.size + 1) 2 (.string b) (by omega) (by omega)))
  have HO2 : Hid (Flds.Own (w.heap.size + 1 + 1 + 1) W1 (.slice a2 l.length c2) l) := by rw [← hS]; exact HO
  clear hS HO HB0
  go_wp2
  exact bodyPost_ret (v := .agg #[.int .i64 s, .slice a2 l.length c2, .string b]) (by simp [results, Tryd.results13, go_sem, *]) rfl ⟨_, rfl, Recs.own_mono (Recs.own_past HO2.out HP.out) (by omega), HB1.out.trans HP.out.below⟩
end Resp
end Go.Proofs.YtihiljickefanaaDoor
