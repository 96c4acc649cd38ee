/-
  RespOkSpec: ResponseOk of the specification: is an answer right?
  RespEq: eqResponse of the laws: responses held against each other.
  RespLaw: szResponse of the laws: how much a response holds.
-/
import Derived.Test.YtmiahdiadlnijaaDoorPah
import Derived.Test.YtmiahdiadlnijaaDoorPaa
import Derived.Test.YtmiahdiadlnijaaDoorPar
import Derived.Test.YtmiahdiadlnijaaDoorFldEq
import Derived.Test.YtmiahdiadlnijaaDoorPai
import Derived.Test.YtmiahdiadlnijaaDoorPaj
namespace Go.Proofs.YtmiahdiadlnijaaDoor
open Go.RowKit
set_option linter.unusedVariables false
namespace Msg

set_option maxRecDepth 100000 in
set_option maxHeartbeats 2000000 in
theorem respOk_spec (s : Int) (v : Value) (l : List Flds.Fld) (b : ByteArray) (w : World) (h : Flds.Is w v l) (hl : Flds.bulk l ≤ 1099511627776) (hb : b.size ≤ 1099511627776) :
    Calls Tryd.prog 15 #[Resp.val s v b] w fun e w' => e = .returned (.bool (respOk s l b)) ∧ Below w.heap.size w w' := by
  unfold Resp.val
  have HT := Num.hide (fun W => Date.in_spec s 200 599 W)
  obtain ⟨a, c, rfl, _⟩ := Flds.is_form h
  have hb0 := (Below.refl w.heap.size w).alloc (Nat.le_refl _) (.cells #[.int .i64 s, .slice a l.length c, .string b] 39)
  have HB0 := Num.hide hb0
  have HP := Num.hide (plain_spec (.slice a l.length c) l _ (Recs.is_stay h (Nat.le_refl _) hb0) hl)
  clear h hb0 hl
  obtain ⟨r, hr⟩ : ∃ r, respOk s l b = r := ⟨_, rfl⟩
  rw [hr]
  unfold respOk at hr
  generalize decide (200 ≤ s ∧ s ≤ 599) = t1 at HT hr
  generalize plain l = t3 at HP hr
  cases t1 with
  | false =>
    obtain rfl : false = r := by rw [← hr]; rfl
    clear hr HP
    go_enter Tryd.func15, Tryd.ntmps15
    go_wp2_with fail
    refine (HT.out _).mono ?_
    rintro e w1 ⟨rfl, rfl⟩
    go_wp2
    go_ret
    exact ⟨rfl, HB0.out⟩
  | true =>
    cases t3 with
    | false =>
      obtain rfl : false = r := by rw [← hr]; rfl
      clear hr
      go_enter Tryd.func15, Tryd.ntmps15
      go_wp2_with fail
      refine (HT.out _).mono ?_
      rintro e w1 ⟨rfl, rfl⟩
      go_wp2_with fail
      refine HP.out.mono ?_
      rintro e w2 ⟨rfl, hb2⟩
      have HB2 := Num.hide (HB0.out.trans (hb2.mono HB0.out.size))
      have k0 := (hb2.cell (p := ⟨w.heap.size, 0, none⟩) (by show w.heap.size < _; rw [World.size_alloc]; omega)).trans (cell_of_row _ _ _ _ _ _ (heap_alloc_new w _))
      have k2 := (hb2.cell (p := ⟨w.heap.size, 2, none⟩) (by show w.heap.size < _; rw [World.size_alloc]; omega)).trans (cell_of_row _ _ _ _ _ _ (heap_alloc_new w _))
      simp only [List.getElem?_toArray, List.getElem?_cons_succ, List.getElem?_cons_zero] at k0 k2
      clear hb2 HP
      go_wp2
      go_ret
      exact ⟨rfl, HB2.out⟩
    | true =>
      by_cases h60 : (b.size : Int) ≤ 60
      · rw [decide_eq_true (by omega : b.size ≤ 60)] at hr
        by_cases h4 : s = 204
        · have d4 : (s != 204) = false := by rw [bne_eq_false_iff_eq]; exact h4
          rw [decide_eq_false (fun h => h.1 h4), Bool.false_or] at hr
          by_cases he : b = ⟨#[]⟩
          · obtain rfl : true = r := by rw [← hr, decide_eq_true he]; rfl
            have db : b.toList.isEmpty = true := by rw [he, ByteArray.toList_eq]; rfl
            clear hr h4
            subst he
            go_enter Tryd.func15, Tryd.ntmps15
            go_wp2_with fail
            refine (HT.out _).mono ?_
            rintro e w1 ⟨rfl, rfl⟩
            go_wp2_with fail
            refine HP.out.mono ?_
            rintro e w2 ⟨rfl, hb2⟩
            have HB2 := Num.hide (HB0.out.trans (hb2.mono HB0.out.size))
            have k0 := (hb2.cell (p := ⟨w.heap.size, 0, none⟩) (by show w.heap.size < _; rw [World.size_alloc]; omega)).trans (cell_of_row _ _ _ _ _ _ (heap_alloc_new w _))
            have k2 := (hb2.cell (p := ⟨w.heap.size, 2, none⟩) (by show w.heap.size < _; rw [World.size_alloc]; omega)).trans (cell_of_row _ _ _ _ _ _ (heap_alloc_new w _))
            simp only [List.getElem?_toArray, List.getElem?_cons_succ, List.getElem?_cons_zero] at k0 k2
            clear hb2 HP
            go_wp2
            go_ret
            exact ⟨rfl, HB2.out⟩
          · obtain rfl : false = r := by rw [← hr, decide_eq_false he]; rfl
            have db : b.toList.isEmpty = false := Sign.empty_false b (by
              by_cases hz : 0 < b.size
              · exact hz
              · exact absurd (Sign.empty_true b (by omega)) he)
            clear hr h4 he
            go_enter Tryd.func15, Tryd.ntmps15
            go_wp2_with fail
            refine (HT.out _).mono ?_
            rintro e w1 ⟨rfl, rfl⟩
            go_wp2_with fail
            refine HP.out.mono ?_
            rintro e w2 ⟨rfl, hb2⟩
            have HB2 := Num.hide (HB0.out.trans (hb2.mono HB0.out.size))
            have k0 := (hb2.cell (p := ⟨w.heap.size, 0, none⟩) (by show w.heap.size < _; rw [World.size_alloc]; omega)).trans (cell_of_row _ _ _ _ _ _ (heap_alloc_new w _))
            have k2 := (hb2.cell (p := ⟨w.heap.size, 2, none⟩) (by show w.heap.size < _; rw [World.size_alloc]; omega)).trans (cell_of_row _ _ _ _ _ _ (heap_alloc_new w _))
            simp only [List.getElem?_toArray, List.getElem?_cons_succ, List.getElem?_cons_zero] at k0 k2
            clear hb2 HP
            go_wp2
            go_ret
            exact ⟨rfl, HB2.out⟩
        · have d4 : (s != 204) = true := by rw [bne_iff_ne]; exact h4
          by_cases h3 : s = 304
          · have d3 : (s != 304) = false := by rw [bne_eq_false_iff_eq]; exact h3
            rw [decide_eq_false (fun h => h.2 h3), Bool.false_or] at hr
            by_cases he : b = ⟨#[]⟩
            · obtain rfl : true = r := by rw [← hr, decide_eq_true he]; rfl
              clear hr h4 h3
              subst he
              go_enter Tryd.func15, Tryd.ntmps15
              go_wp2_with fail
              refine (HT.out _).mono ?_
              rintro e w1 ⟨rfl, rfl⟩
              go_wp2_with fail
              refine HP.out.mono ?_
              rintro e w2 ⟨rfl, hb2⟩
              have HB2 := Num.hide (HB0.out.trans (hb2.mono HB0.out.size))
              have k0 := (hb2.cell (p := ⟨w.heap.size, 0, none⟩) (by show w.heap.size < _; rw [World.size_alloc]; omega)).trans (cell_of_row _ _ _ _ _ _ (heap_alloc_new w _))
              have k2 := (hb2.cell (p := ⟨w.heap.size, 2, none⟩) (by show w.heap.size < _; rw [World.size_alloc]; omega)).trans (cell_of_row _ _ _ _ _ _ (heap_alloc_new w _))
              simp only [List.getElem?_toArray, List.getElem?_cons_succ, List.getElem?_cons_zero] at k0 k2
              clear hb2 HP
              go_wp2
              go_ret
              exact ⟨rfl, HB2.out⟩
            · obtain rfl : false = r := by rw [← hr, decide_eq_false he]; rfl
              have db : b.toList.isEmpty = false := Sign.empty_false b (by
                by_cases hz : 0 < b.size
                · exact hz
                · exact absurd (Sign.empty_true b (by omega)) he)
              clear hr h4 he h3
              go_enter Tryd.func15, Tryd.ntmps15
              go_wp2_with fail
              refine (HT.out _).mono ?_
              rintro e w1 ⟨rfl, rfl⟩
              go_wp2_with fail
              refine HP.out.mono ?_
              rintro e w2 ⟨rfl, hb2⟩
              have HB2 := Num.hide (HB0.out.trans (hb2.mono HB0.out.size))
              have k0 := (hb2.cell (p := ⟨w.heap.size, 0, none⟩) (by show w.heap.size < _; rw [World.size_alloc]; omega)).trans (cell_of_row _ _ _ _ _ _ (heap_alloc_new w _))
              have k2 := (hb2.cell (p := ⟨w.heap.size, 2, none⟩) (by show w.heap.size < _; rw [World.size_alloc]; omega)).trans (cell_of_row _ _ _ _ _ _ (heap_alloc_new w _))
              simp only [List.getElem?_toArray, List.getElem?_cons_succ, List.getElem?_cons_zero] at k0 k2
              clear hb2 HP
              go_wp2
              go_ret
              exact ⟨rfl, HB2.out⟩
          · have d3 : (s != 304) = true := by rw [bne_iff_ne]; exact h3
            obtain rfl : true = r := by rw [← hr, decide_eq_true ⟨h4, h3⟩]; rfl
            clear hr h4 h3
            go_enter Tryd.func15, Tryd.ntmps15
            go_wp2_with fail
            refine (HT.out _).mono ?_
            rintro e w1 ⟨rfl, rfl⟩
            go_wp2_with fail
            refine HP.out.mono ?_
            rintro e w2 ⟨rfl, hb2⟩
            have HB2 := Num.hide (HB0.out.trans (hb2.mono HB0.out.size))
            have k0 := (hb2.cell (p := ⟨w.heap.size, 0, none⟩) (by show w.heap.size < _; rw [World.size_alloc]; omega)).trans (cell_of_row _ _ _ _ _ _ (heap_alloc_new w _))
            have k2 := (hb2.cell (p := ⟨w.heap.size, 2, none⟩) (by show w.heap.size < _; rw [World.size_alloc]; omega)).trans (cell_of_row _ _ _ _ _ _ (heap_alloc_new w _))
            simp only [List.getElem?_toArray, List.getElem?_cons_succ, List.getElem?_cons_zero] at k0 k2
            clear hb2 HP
            go_wp2
            go_ret
            exact ⟨rfl, HB2.out⟩
      · obtain rfl : false = r := by rw [← hr, decide_eq_false (by omega : ¬ b.size ≤ 60)]; rfl
        have d60 : decide ((b.size : Int) ≤ 60) = false := decide_eq_false h60
        clear hr
        go_enter Tryd.func15, Tryd.ntmps15
        go_wp2_with fail
        refine (HT.out _).mono ?_
        rintro e w1 ⟨rfl, rfl⟩
        go_wp2_with fail
        refine HP.out.mono ?_
        rintro e w2 ⟨rfl, hb2⟩
        have HB2 := Num.hide (HB0.out.trans (hb2.mono HB0.out.size))
        have k0 := (hb2.cell (p := ⟨w.heap.size, 0, none⟩) (by show w.heap.size < _; rw [World.size_alloc]; omega)).trans (cell_of_row _ _ _ _ _ _ (heap_alloc_new w _))
        have k2 := (hb2.cell (p := ⟨w.heap.size, 2, none⟩) (by show w.heap.size < _; rw [World.size_alloc]; omega)).trans (cell_of_row _ _ _ _ _ _ (heap_alloc_new w _))
        simp only [List.getElem?_toArray, List.getElem?_cons_succ, List.getElem?_cons_zero] at k0 k2
        clear hb2 HP
        go_wp2
        go_ret
        exact ⟨rfl, HB2.out⟩
end Msg
end Go.Proofs.YtmiahdiadlnijaaDoor
namespace Go.Proofs.YtmiahdiadlnijaaDoor
open Go.RowKit
set_option linter.unusedVariables false
namespace Resp

set_option maxRecDepth 100000 in
set_option maxHeartbeats 2000000 in
theorem eq_any (s1 s2 : Int) (v1 v2 : Value) (l1 l2 : List Flds.Fld) (b1 b2 : ByteArray) (w : World) (h1 : Flds.Is w v1 l1) (h2 : Flds.Is w v2 l2) (hl : l1.length ≤ 1099511627776) :
    Calls Tryd.prog 18 #[val s1 v1 b1, val s2 v2 b2] w fun e w' => e = .returned (.bool (decide (s1 = s2 ∧ l1 = l2 ∧ b1 = b2))) ∧ Below w.heap.size w w' := by
  unfold val
  obtain ⟨r, hr⟩ : ∃ r, decide (s1 = s2 ∧ l1 = l2 ∧ b1 = b2) = r := ⟨_, rfl⟩
  rw [hr]
  obtain ⟨a1, c1, rfl, _⟩ := Flds.is_form h1
  obtain ⟨a2, c2, rfl, _⟩ := Flds.is_form h2
  have hb0 := ((Below.refl w.heap.size w).alloc (Nat.le_refl _) (.cells #[.int .i64 s1, .slice a1 l1.length c1, .string b1] 39)).alloc (by simp) (.cells #[.int .i64 s2, .slice a2 l2.length c2, .string b2] 39)
  have HB0 := Num.hide hb0
  have HE := Num.hide (Flds.eq_any _ _ l1 l2 _ (Recs.is_stay h1 (Nat.le_refl _) hb0) (Recs.is_stay h2 (Nat.le_refl _) hb0) hl)
  clear h1 h2 hb0
  by_cases hs : s1 = s2
  · have ds : (s1 != s2) = false := by rw [bne_eq_false_iff_eq]; exact hs
    by_cases hll : l1 = l2
    · rw [decide_eq_true hll] at HE
      by_cases hbb : b1 = b2
      · obtain rfl : r = true := by rw [← hr]; exact decide_eq_true ⟨hs, hll, hbb⟩
        subst hbb
        clear hr hs hll
        go_enter Tryd.func18, Tryd.ntmps18
        go_wp2_with fail
        refine HE.out.mono ?_
        rintro e w1 ⟨rfl, hb1⟩
        have k1 := (hb1.cell (p := ⟨w.heap.size, 2, none⟩) (by show w.heap.size < _; rw [World.size_alloc, World.size_alloc]; omega)).trans (box_one w _ _ _ _ 2)
        have k2 := (hb1.cell (p := ⟨w.heap.size + 1, 2, none⟩) (by show w.heap.size + 1 < _; rw [World.size_alloc, World.size_alloc]; omega)).trans (box_two w _ _ _ _ 2)
        have HB1 := Num.hide (HB0.out.trans (hb1.mono HB0.out.size))
        clear hb1 HB0 HE
        simp only [List.getElem?_toArray, List.getElem?_cons_succ, List.getElem?_cons_zero] at k1 k2
        go_wp2
        go_ret
        exact ⟨rfl, HB1.out⟩
      · obtain rfl : r = false := by rw [← hr]; exact decide_eq_false (fun h => hbb h.2.2)
        have db : (b1.toList == b2.toList) = false := Flds.text_ne hbb
        have db2 : (b1.toList != b2.toList) = true := by rw [bne, db]; rfl
        clear hr hs hll hbb
        go_enter Tryd.func18, Tryd.ntmps18
        go_wp2_with fail
        refine HE.out.mono ?_
        rintro e w1 ⟨rfl, hb1⟩
        have k1 := (hb1.cell (p := ⟨w.heap.size, 2, none⟩) (by show w.heap.size < _; rw [World.size_alloc, World.size_alloc]; omega)).trans (box_one w _ _ _ _ 2)
        have k2 := (hb1.cell (p := ⟨w.heap.size + 1, 2, none⟩) (by show w.heap.size + 1 < _; rw [World.size_alloc, World.size_alloc]; omega)).trans (box_two w _ _ _ _ 2)
        have HB1 := Num.hide (HB0.out.trans (hb1.mono HB0.out.size))
        clear hb1 HB0 HE
        simp only [List.getElem?_toArray, List.getElem?_cons_succ, List.getElem?_cons_zero] at k1 k2
        go_wp2
        go_ret
        exact ⟨rfl, HB1.out⟩
    · rw [decide_eq_false hll] at HE
      obtain rfl : r = false := by rw [← hr]; exact decide_eq_false (fun h => hll h.2.1)
      clear hr hs hll
      go_enter Tryd.func18, Tryd.ntmps18
      go_wp2_with fail
      refine HE.out.mono ?_
      rintro e w1 ⟨rfl, hb1⟩
      have HB1 := Num.hide (HB0.out.trans (hb1.mono HB0.out.size))
      clear hb1 HB0 HE
      go_wp2
      go_ret
      exact ⟨rfl, HB1.out⟩
  · have ds : (s1 != s2) = true := by rw [bne_iff_ne]; exact hs
    obtain rfl : r = false := by rw [← hr]; exact decide_eq_false (fun h => hs h.1)
    clear hr hs HE
    go_enter Tryd.func18, Tryd.ntmps18
    go_wp2
    go_ret
    exact ⟨rfl, HB0.out⟩
end Resp
end Go.Proofs.YtmiahdiadlnijaaDoor
namespace Go.Proofs.YtmiahdiadlnijaaDoor
open Go.RowKit
set_option linter.unusedVariables false
namespace Resp

set_option maxRecDepth 100000 in
set_option maxHeartbeats 2000000 in
theorem sz_any (s : Int) (v : Value) (l : List Flds.Fld) (b : ByteArray) (n : Int) (w : World) (h : Flds.Arg w v l) (hb : b.size ≤ maxLen) (h0 : 0 ≤ n) (h1 : n ≤ 1048576) :
    Calls Tryd.prog 14 #[val s v b, .int .i64 n] w fun e w' => e = .returned (.int .i64 (Flds.left n (bulk l b))) ∧ Below w.heap.size w w' := by
  unfold val bulk
  unfold maxLen at hb
  obtain ⟨r, hr⟩ : ∃ r, Flds.left n (Flds.bulk l + b.size) = r := ⟨_, rfl⟩
  rw [hr]
  obtain ⟨a1, c1, rfl, _⟩ := Flds.is_form h.1
  have hb0 := (Below.refl w.heap.size w).alloc (Nat.le_refl _) (.cells #[.int .i64 s, .slice a1 l.length c1, .string b] 35)
  have HB0 := Num.hide hb0
  have HZ := Num.hide (Flds.szFieldS_any _ l n _ (Recs.is_stay h.1 (Nat.le_refl _) hb0) h.2 h0 h1)
  clear h hb0
  have hq0 : (0 : Int) ≤ (Flds.bulk l : Int) := by omega
  by_cases hl : (Flds.bulk l : Int) ≤ n
  · rw [Flds.left_yes hl] at HZ
    have dl : decide (n - (Flds.bulk l : Int) < 0) = false := by rw [decide_eq_false_iff_not]; omega
    by_cases hbb : n - (Flds.bulk l : Int) - (b.size : Int) < 0
    · obtain rfl : r = -1 := by rw [← hr]; exact Flds.left_no (by omega)
      clear hr
      generalize (Flds.bulk l : Int) = q at *
      go_enter Tryd.func14, Tryd.ntmps14
      go_wp2_with fail
      refine HZ.out.mono ?_
      rintro e w1 ⟨rfl, hb1⟩
      have k1 := (hb1.cell (p := ⟨w.heap.size, 2, none⟩) (by show w.heap.size < _; rw [World.size_alloc]; omega)).trans (cell_of_row _ _ _ _ _ _ (heap_alloc_new w _))
      simp only [List.getElem?_toArray, List.getElem?_cons_succ, List.getElem?_cons_zero] at k1
      have HB1 := Num.hide (HB0.out.trans (hb1.mono HB0.out.size))
      clear hb1 HB0 HZ
      go_wp2
      go_ret
      exact ⟨rfl, HB1.out⟩
    · have db : decide (n - (Flds.bulk l : Int) - (b.size : Int) < 0) = false := by rw [decide_eq_false_iff_not]; exact hbb
      obtain rfl : r = n - (Flds.bulk l : Int) - (b.size : Int) := by rw [← hr, Flds.left_yes (by omega)]; omega
      clear hr
      generalize (Flds.bulk l : Int) = q at *
      go_enter Tryd.func14, Tryd.ntmps14
      go_wp2_with fail
      refine HZ.out.mono ?_
      rintro e w1 ⟨rfl, hb1⟩
      have k1 := (hb1.cell (p := ⟨w.heap.size, 2, none⟩) (by show w.heap.size < _; rw [World.size_alloc]; omega)).trans (cell_of_row _ _ _ _ _ _ (heap_alloc_new w _))
      simp only [List.getElem?_toArray, List.getElem?_cons_succ, List.getElem?_cons_zero] at k1
      have HB1 := Num.hide (HB0.out.trans (hb1.mono HB0.out.size))
      clear hb1 HB0 HZ
      go_wp2
      go_ret
      exact ⟨rfl, HB1.out⟩
  · rw [Flds.left_no hl] at HZ
    obtain rfl : r = -1 := by rw [← hr]; exact Flds.left_no (by omega)
    clear hr
    go_enter Tryd.func14, Tryd.ntmps14
    go_wp2_with fail
    refine HZ.out.mono ?_
    rintro e w1 ⟨rfl, hb1⟩
    have HB1 := Num.hide (HB0.out.trans (hb1.mono HB0.out.size))
    clear hb1 HB0 HZ
    go_wp2
    go_ret
    exact ⟨rfl, HB1.out⟩
end Resp
end Go.Proofs.YtmiahdiadlnijaaDoor
