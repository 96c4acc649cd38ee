/-
  szResponse of the laws: how much a response holds.
-/
import Derived.Test.YtmiahdiadlnijaaRespEq
import Derived.Test.YtmiahdiadlnijaaFldOpen
namespace Go.Proofs.Ytmiahdiadlnijaa
open Go.RowKit
set_option linter.unusedVariables false
namespace Resp

set_option maxRecDepth 100000 in
set_option maxHeartbeats 2000000 in
theorem sz_any (s : Int) (v : Value) (l : List Flds.Fld) (b : ByteArray) (n : Int) (w : World) (h : Flds.Arg w v l) (hb : b.size ≤ maxLen) (h0 : 0 ≤ n) (h1 : n ≤ 1048576) :
    Calls Try.prog 8 #[val s v b, .int .i64 n] w fun e w' => e = .returned (.int .i64 (Flds.left n (bulk l b))) ∧ Below w.heap.size w w' := by
  unfold val bulk
  unfold maxLen at hb
  obtain ⟨r, hr⟩ : ∃ r, Flds.left n (Flds.bulk l + b.size) = r := ⟨_, rfl⟩
  rw [hr]
  obtain ⟨a1, c1, rfl, _⟩ := Flds.is_form h.1
  have hb0 := (Below.refl w.heap.size w).alloc (Nat.le_refl _) (.cells #[.int .i64 s, .slice a1 l.length c1, .string b] 25)
  have HB0 := Num.hide hb0
  have HZ := Num.hide (Flds.szFieldS_any _ l n _ (Recs.is_stay h.1 (Nat.le_refl _) hb0) h.2 h0 h1)
  clear h hb0
  have hq0 : (0 : Int) ≤ (Flds.bulk l : Int) := by omega
  by_cases hl : (Flds.bulk l : Int) ≤ n
  · rw [Flds.left_yes hl] at HZ
    have dl : decide (n - (Flds.bulk l : Int) < 0) = false := by rw [decide_eq_false_iff_not]; omega
    by_cases hbb : n - (Flds.bulk l : Int) - (b.size : Int) < 0
    · obtain rfl : r = -1 := by rw [← hr]; exact Flds.left_no (by omega)
      clear hr
      generalize (Flds.bulk l : Int) = q at *
      go_enter Try.func8, Try.ntmps8
      go_wp2_with fail
      refine HZ.out.mono ?_
      rintro e w1 ⟨rfl, hb1⟩
      have k1 := (hb1.cell (p := ⟨w.heap.size, 2, none⟩) (by show w.heap.size < _; rw [World.size_alloc]; omega)).trans (cell_of_row _ _ _ _ _ _ (heap_alloc_new w _))
      simp only [List.getElem?_toArray, List.getElem?_cons_succ, List.getElem?_cons_zero] at k1
      have HB1 := Num.hide (HB0.out.trans (hb1.mono HB0.out.size))
      clear hb1 HB0 HZ
      go_wp2
      go_ret
      exact ⟨rfl, HB1.out⟩
    · have db : decide (n - (Flds.bulk l : Int) - (b.size : Int) < 0) = false := by rw [decide_eq_false_iff_not]; exact hbb
      obtain rfl : r = n - (Flds.bulk l : Int) - (b.size : Int) := by rw [← hr, Flds.left_yes (by omega)]; omega
      clear hr
      generalize (Flds.bulk l : Int) = q at *
      go_enter Try.func8, Try.ntmps8
      go_wp2_with fail
      refine HZ.out.mono ?_
      rintro e w1 ⟨rfl, hb1⟩
      have k1 := (hb1.cell (p := ⟨w.heap.size, 2, none⟩) (by show w.heap.size < _; rw [World.size_alloc]; omega)).trans (cell_of_row _ _ _ _ _ _ (heap_alloc_new w _))
      simp only [List.getElem?_toArray, List.getElem?_cons_succ, List.getElem?_cons_zero] at k1
      have HB1 := Num.hide (HB0.out.trans (hb1.mono HB0.out.size))
      clear hb1 HB0 HZ
      go_wp2
      go_ret
      exact ⟨rfl, HB1.out⟩
  · rw [Flds.left_no hl] at HZ
    obtain rfl : r = -1 := by rw [← hr]; exact Flds.left_no (by omega)
    clear hr
    go_enter Try.func8, Try.ntmps8
    go_wp2_with fail
    refine HZ.out.mono ?_
    rintro e w1 ⟨rfl, hb1⟩
    have HB1 := Num.hide (HB0.out.trans (hb1.mono HB0.out.size))
    clear hb1 HB0 HZ
    go_wp2
    go_ret
    exact ⟨rfl, HB1.out⟩
end Resp
end Go.Proofs.Ytmiahdiadlnijaa
