/-
  ReqLaw: szRequest of the laws: how much a request holds.
-/
import Derived.Test.YtjeokackmkfooaaDoorQap
import Derived.Test.YtjeokackmkfooaaDoorQar
namespace Go.Proofs.YtjeokackmkfooaaDoor
open Go.RowKit
set_option linter.unusedVariables false
namespace Req

set_option maxRecDepth 100000 in
set_option maxHeartbeats 2000000 in
theorem sz_any (m u : ByteArray) (v : Value) (l : List Flds.Fld) (b : ByteArray) (n : Int) (w : World) (h : Flds.Arg w v l) (hm : m.size ≤ maxLen) (hu : u.size ≤ maxLen) (hb : b.size ≤ maxLen) (h0 : 0 ≤ n) (h1 : n ≤ 1048576) :
    Calls Tryd.prog 4 #[val m u v b, .int .i64 n] w fun e w' => e = .returned (.int .i64 (Flds.left n (bulk m u l b))) ∧ Below w.heap.size w w' := by
  unfold val bulk
  unfold maxLen at hm hu hb
  obtain ⟨r, hr⟩ : ∃ r, Flds.left n (m.size + u.size + Flds.bulk l + b.size) = r := ⟨_, rfl⟩
  rw [hr]
  obtain ⟨a1, c1, rfl, _⟩ := Flds.is_form h.1
  have hb0 := (Below.refl w.heap.size w).alloc (Nat.le_refl _) (.cells #[.string m, .string u, .slice a1 l.length c1, .string b] 24)
  have HB0 := Num.hide hb0
  by_cases hmm : n - (m.size : Int) < 0
  · obtain rfl : r = -1 := by rw [← hr]; exact Flds.left_no (by omega)
    clear hr h hb0
    go_enter Tryd.func4, Tryd.ntmps4
    go_wp2
    go_ret
    exact ⟨rfl, HB0.out⟩
  · by_cases huu : n - (m.size : Int) - (u.size : Int) < 0
    · obtain rfl : r = -1 := by rw [← hr]; exact Flds.left_no (by omega)
      clear hr h hb0
      go_enter Tryd.func4, Tryd.ntmps4
      go_wp2
      go_ret
      exact ⟨rfl, HB0.out⟩
    · have HZ := Num.hide (Flds.szFieldS_any _ l (n - (m.size : Int) - (u.size : Int)) _ (Recs.is_stay h.1 (Nat.le_refl _) hb0) h.2 (by omega) (by omega))
      clear h hb0
      have hq0 : (0 : Int) ≤ (Flds.bulk l : Int) := by omega
      by_cases hl : (Flds.bulk l : Int) ≤ n - (m.size : Int) - (u.size : Int)
      · rw [Flds.left_yes hl] at HZ
        have dl : decide (n - (m.size : Int) - (u.size : Int) - (Flds.bulk l : Int) < 0) = false := by rw [decide_eq_false_iff_not]; omega
        by_cases hbb : n - (m.size : Int) - (u.size : Int) - (Flds.bulk l : Int) - (b.size : Int) < 0
        · obtain rfl : r = -1 := by rw [← hr]; exact Flds.left_no (by omega)
          clear hr
          generalize (Flds.bulk l : Int) = q at *
          go_enter Tryd.func4, Tryd.ntmps4
          go_wp2_with fail
          refine HZ.out.mono ?_
          rintro e w1 ⟨rfl, hb1⟩
          have k1 := (hb1.cell (p := ⟨w.heap.size, 3, none⟩) (by show w.heap.size < _; rw [World.size_alloc]; omega)).trans (cell_of_row _ _ _ _ _ _ (heap_alloc_new w _))
          simp only [List.getElem?_toArray, List.getElem?_cons_succ, List.getElem?_cons_zero] at k1
          have HB1 := Num.hide (HB0.out.trans (hb1.mono HB0.out.size))
          clear hb1 HB0 HZ
          go_wp2
          go_ret
          exact ⟨rfl, HB1.out⟩
        · have db : decide (n - (m.size : Int) - (u.size : Int) - (Flds.bulk l : Int) - (b.size : Int) < 0) = false := by rw [decide_eq_false_iff_not]; exact hbb
          obtain rfl : r = n - (m.size : Int) - (u.size : Int) - (Flds.bulk l : Int) - (b.size : Int) := by rw [← hr, Flds.left_yes (by omega)]; omega
          clear hr
          generalize (Flds.bulk l : Int) = q at *
          go_enter Tryd.func4, Tryd.ntmps4
          go_wp2_with fail
          refine HZ.out.mono ?_
          rintro e w1 ⟨rfl, hb1⟩
          have k1 := (hb1.cell (p := ⟨w.heap.size, 3, none⟩) (by show w.heap.size < _; rw [World.size_alloc]; omega)).trans (cell_of_row _ _ _ _ _ _ (heap_alloc_new w _))
          simp only [List.getElem?_toArray, List.getElem?_cons_succ, List.getElem?_cons_zero] at k1
          have HB1 := Num.hide (HB0.out.trans (hb1.mono HB0.out.size))
          clear hb1 HB0 HZ
          go_wp2
          go_ret
          exact ⟨rfl, HB1.out⟩
      · rw [Flds.left_no hl] at HZ
        obtain rfl : r = -1 := by rw [← hr]; exact Flds.left_no (by omega)
        clear hr
        go_enter Tryd.func4, Tryd.ntmps4
        go_wp2_with fail
        refine HZ.out.mono ?_
        rintro e w1 ⟨rfl, hb1⟩
        have HB1 := Num.hide (HB0.out.trans (hb1.mono HB0.out.size))
        clear hb1 HB0 HZ
        go_wp2
        go_ret
        exact ⟨rfl, HB1.out⟩
end Req
end Go.Proofs.YtjeokackmkfooaaDoor
