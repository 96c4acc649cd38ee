/-
  RespOkSpec: ResponseOk of the specification: is an answer right?
  StoreSpec: Storable of the specification.
  Pairs: Two boxes that were just laid.
  RespEq: eqResponse of the laws: responses held against each other.
  FldTo: toField and toFieldS of the laws: a copy of a list of fields, in a row of the call's own.
-/
import Derived.Test.YtjeokackmkfooaaGreatDoorPai
import Derived.Test.YtjeokackmkfooaaGreatDoorPab
import Derived.Test.YtjeokackmkfooaaGreatDoorPag
import Derived.Test.YtjeokackmkfooaaGreatDoorPah
import Derived.Deep.Cut
import Derived.Test.YtjeokackmkfooaaGreatDoorRecs
import Derived.Test.YtjeokackmkfooaaGreatDoorFldEq
import Derived.Test.YtjeokackmkfooaaGreatDoorFldOwn
namespace Go.Proofs.YtjeokackmkfooaaGreatDoor
open Go.RowKit
set_option linter.unusedVariables false
namespace Msg

set_option maxRecDepth 100000 in
set_option maxHeartbeats 2000000 in
theorem respOk_spec (s : Int) (v : Value) (l : List Flds.Fld) (b : ByteArray) (w : World) (h : Flds.Is w v l) (hl : Flds.bulk l ≤ 1099511627776) (hb : b.size ≤ 1099511627776) :
    Calls Tryz.prog 32 #[Resp.val s v b] w fun e w' => e = .returned (.bool (respOk s l b)) ∧ Below w.heap.size w w' := by
  unfold Resp.val
  have HT := Num.hide (fun W => Date.in_spec s 200 599 W)
  obtain ⟨a, c, rfl, _⟩ := Flds.is_form h
  have hb0 := (Below.refl w.heap.size w).alloc (Nat.le_refl _) (.cells #[.int .i64 s, .slice a l.length c, .string b] 28)
  have HB0 := Num.hide hb0
  have HP := Num.hide (plain_spec (.slice a l.length c) l _ (Recs.is_stay h (Nat.le_refl _) hb0) hl)
  clear h hb0 hl
  obtain ⟨r, hr⟩ : ∃ r, respOk s l b = r := ⟨_, rfl⟩
  rw [hr]
  unfold respOk at hr
  generalize decide (200 ≤ s ∧ s ≤ 599) = t1 at HT hr
  generalize plain l = t3 at HP hr
  cases t1 with
  | false =>
    obtain rfl : false = r := by rw [← hr]; rfl
    clear hr HP
    go_enter Tryz.func32, Tryz.ntmps32
    go_wp2_with fail
    refine (HT.out _).mono ?_
    rintro e w1 ⟨rfl, rfl⟩
    go_wp2
    go_ret
    exact ⟨rfl, HB0.out⟩
  | true =>
    cases t3 with
    | false =>
      obtain rfl : false = r := by rw [← hr]; rfl
      clear hr
      go_enter Tryz.func32, Tryz.ntmps32
      go_wp2_with fail
      refine (HT.out _).mono ?_
      rintro e w1 ⟨rfl, rfl⟩
      go_wp2_with fail
      refine HP.out.mono ?_
      rintro e w2 ⟨rfl, hb2⟩
      have HB2 := Num.hide (HB0.out.trans (hb2.mono HB0.out.size))
      have k0 := (hb2.cell (p := ⟨w.heap.size, 0, none⟩) (by show w.heap.size < _; rw [World.size_alloc]; omega)).trans (cell_of_row _ _ _ _ _ _ (heap_alloc_new w _))
      have k2 := (hb2.cell (p := ⟨w.heap.size, 2, none⟩) (by show w.heap.size < _; rw [World.size_alloc]; omega)).trans (cell_of_row _ _ _ _ _ _ (heap_alloc_new w _))
      simp only [List.getElem?_toArray, List.getElem?_cons_succ, List.getElem?_cons_zero] at k0 k2
      clear hb2 HP
      go_wp2
      go_ret
      exact ⟨rfl, HB2.out⟩
    | true =>
      by_cases h60 : (b.size : Int) ≤ 60
      · rw [decide_eq_true (by omega : b.size ≤ 60)] at hr
        by_cases h4 : s = 204
        · have d4 : (s != 204) = false := by rw [bne_eq_false_iff_eq]; exact h4
          rw [decide_eq_false (fun h => h.1 h4), Bool.false_or] at hr
          by_cases he : b = ⟨#[]⟩
          · obtain rfl : true = r := by rw [← hr, decide_eq_true he]; rfl
            have db : b.toList.isEmpty = true := by rw [he, ByteArray.toList_eq]; rfl
            clear hr h4
            subst he
            go_enter Tryz.func32, Tryz.ntmps32
            go_wp2_with fail
            refine (HT.out _).mono ?_
            rintro e w1 ⟨rfl, rfl⟩
            go_wp2_with fail
            refine HP.out.mono ?_
            rintro e w2 ⟨rfl, hb2⟩
            have HB2 := Num.hide (HB0.out.trans (hb2.mono HB0.out.size))
            have k0 := (hb2.cell (p := ⟨w.heap.size, 0, none⟩) (by show w.heap.size < _; rw [World.size_alloc]; omega)).trans (cell_of_row _ _ _ _ _ _ (heap_alloc_new w _))
            have k2 := (hb2.cell (p := ⟨w.heap.size, 2, none⟩) (by show w.heap.size < _; rw [World.size_alloc]; omega)).trans (cell_of_row _ _ _ _ _ _ (heap_alloc_new w _))
            simp only [List.getElem?_toArray, List.getElem?_cons_succ, List.getElem?_cons_zero] at k0 k2
            clear hb2 HP
            go_wp2
            go_ret
            exact ⟨rfl, HB2.out⟩
          · obtain rfl : false = r := by rw [← hr, decide_eq_false he]; rfl
            have db : b.toList.isEmpty = false := Sign.empty_false b (by
              by_cases hz : 0 < b.size
              · exact hz
              · exact absurd (Sign.empty_true b (by omega)) he)
            clear hr h4 he
            go_enter Tryz.func32, Tryz.ntmps32
            go_wp2_with fail
            refine (HT.out _).mono ?_
            rintro e w1 ⟨rfl, rfl⟩
            go_wp2_with fail
            refine HP.out.mono ?_
            rintro e w2 ⟨rfl, hb2⟩
            have HB2 := Num.hide (HB0.out.trans (hb2.mono HB0.out.size))
            have k0 := (hb2.cell (p := ⟨w.heap.size, 0, none⟩) (by show w.heap.size < _; rw [World.size_alloc]; omega)).trans (cell_of_row _ _ _ _ _ _ (heap_alloc_new w _))
            have k2 := (hb2.cell (p := ⟨w.heap.size, 2, none⟩) (by show w.heap.size < _; rw [World.size_alloc]; omega)).trans (cell_of_row _ _ _ _ _ _ (heap_alloc_new w _))
            simp only [List.getElem?_toArray, List.getElem?_cons_succ, List.getElem?_cons_zero] at k0 k2
            clear hb2 HP
            go_wp2
            go_ret
            exact ⟨rfl, HB2.out⟩
        · have d4 : (s != 204) = true := by rw [bne_iff_ne]; exact h4
          by_cases h3 : s = 304
          · have d3 : (s != 304) = false := by rw [bne_eq_false_iff_eq]; exact h3
            rw [decide_eq_false (fun h => h.2 h3), Bool.false_or] at hr
            by_cases he : b = ⟨#[]⟩
            · obtain rfl : true = r := by rw [← hr, decide_eq_true he]; rfl
              clear hr h4 h3
              subst he
              go_enter Tryz.func32, Tryz.ntmps32
              go_wp2_with fail
              refine (HT.out _).mono ?_
              rintro e w1 ⟨rfl, rfl⟩
              go_wp2_with fail
              refine HP.out.mono ?_
              rintro e w2 ⟨rfl, hb2⟩
              have HB2 := Num.hide (HB0.out.trans (hb2.mono HB0.out.size))
              have k0 := (hb2.cell (p := ⟨w.heap.size, 0, none⟩) (by show w.heap.size < _; rw [World.size_alloc]; omega)).trans (cell_of_row _ _ _ _ _ _ (heap_alloc_new w _))
              have k2 := (hb2.cell (p := ⟨w.heap.size, 2, none⟩) (by show w.heap.size < _; rw [World.size_alloc]; omega)).trans (cell_of_row _ _ _ _ _ _ (heap_alloc_new w _))
              simp only [List.getElem?_toArray, List.getElem?_cons_succ, List.getElem?_cons_zero] at k0 k2
              clear hb2 HP
              go_wp2
              go_ret
              exact ⟨rfl, HB2.out⟩
            · obtain rfl : false = r := by rw [← hr, decide_eq_false he]; rfl
              have db : b.toList.isEmpty = false := Sign.empty_false b (by
                by_cases hz : 0 < b.size
                · exact hz
                · exact absurd (Sign.empty_true b (by omega)) he)
              clear hr h4 he h3
              go_enter Tryz.func32, Tryz.ntmps32
              go_wp2_with fail
              refine (HT.out _).mono ?_
              rintro e w1 ⟨rfl, rfl⟩
              go_wp2_with fail
              refine HP.out.mono ?_
              rintro e w2 ⟨rfl, hb2⟩
              have HB2 := Num.hide (HB0.out.trans (hb2.mono HB0.out.size))
              have k0 := (hb2.cell (p := ⟨w.heap.size, 0, none⟩) (by show w.heap.size < _; rw [World.size_alloc]; omega)).trans (cell_of_row _ _ _ _ _ _ (heap_alloc_new w _))
              have k2 := (hb2.cell (p := ⟨w.heap.size, 2, none⟩) (by show w.heap.size < _; rw [World.size_alloc]; omega)).trans (cell_of_row _ _ _ _ _ _ (heap_alloc_new w _))
              simp only [List.getElem?_toArray, List.getElem?_cons_succ, List.getElem?_cons_zero] at k0 k2
              clear hb2 HP
              go_wp2
              go_ret
              exact ⟨rfl, HB2.out⟩
          · have d3 : (s != 304) = true := by rw [bne_iff_ne]; exact h3
            obtain rfl : true = r := by rw [← hr, decide_eq_true ⟨h4, h3⟩]; rfl
            clear hr h4 h3
            go_enter Tryz.func32, Tryz.ntmps32
            go_wp2_with fail
            refine (HT.out _).mono ?_
            rintro e w1 ⟨rfl, rfl⟩
            go_wp2_with fail
            refine HP.out.mono ?_
            rintro e w2 ⟨rfl, hb2⟩
            have HB2 := Num.hide (HB0.out.trans (hb2.mono HB0.out.size))
            have k0 := (hb2.cell (p := ⟨w.heap.size, 0, none⟩) (by show w.heap.size < _; rw [World.size_alloc]; omega)).trans (cell_of_row _ _ _ _ _ _ (heap_alloc_new w _))
            have k2 := (hb2.cell (p := ⟨w.heap.size, 2, none⟩) (by show w.heap.size < _; rw [World.size_alloc]; omega)).trans (cell_of_row _ _ _ _ _ _ (heap_alloc_new w _))
            simp only [List.getElem?_toArray, List.getElem?_cons_succ, List.getElem?_cons_zero] at k0 k2
            clear hb2 HP
            go_wp2
            go_ret
            exact ⟨rfl, HB2.out⟩
      · obtain rfl : false = r := by rw [← hr, decide_eq_false (by omega : ¬ b.size ≤ 60)]; rfl
        have d60 : decide ((b.size : Int) ≤ 60) = false := decide_eq_false h60
        clear hr
        go_enter Tryz.func32, Tryz.ntmps32
        go_wp2_with fail
        refine (HT.out _).mono ?_
        rintro e w1 ⟨rfl, rfl⟩
        go_wp2_with fail
        refine HP.out.mono ?_
        rintro e w2 ⟨rfl, hb2⟩
        have HB2 := Num.hide (HB0.out.trans (hb2.mono HB0.out.size))
        have k0 := (hb2.cell (p := ⟨w.heap.size, 0, none⟩) (by show w.heap.size < _; rw [World.size_alloc]; omega)).trans (cell_of_row _ _ _ _ _ _ (heap_alloc_new w _))
        have k2 := (hb2.cell (p := ⟨w.heap.size, 2, none⟩) (by show w.heap.size < _; rw [World.size_alloc]; omega)).trans (cell_of_row _ _ _ _ _ _ (heap_alloc_new w _))
        simp only [List.getElem?_toArray, List.getElem?_cons_succ, List.getElem?_cons_zero] at k0 k2
        clear hb2 HP
        go_wp2
        go_ret
        exact ⟨rfl, HB2.out⟩
end Msg
end Go.Proofs.YtjeokackmkfooaaGreatDoor
namespace Go.Proofs.YtjeokackmkfooaaGreatDoor
open Go.RowKit
set_option linter.unusedVariables false
set_option linter.unusedSimpArgs false
namespace Pol
open Flds (Fld ret_int)

theorem starred_take (L : List ByteArray) (i : Nat) (h : i < L.length) (hn : starred (L.take i) = false) (ht : ¬ L[i] = star) : starred (L.take (i + 1)) = false := by
  unfold starred at *
  rw [List.take_succ_eq_append_getElem h, List.any_append, hn, List.any_cons, List.any_nil, decide_eq_false ht]; rfl
theorem starred_hit (L : List ByteArray) (i : Nat) (h : i < L.length) (ht : L[i] = star) : starred L = true := by
  unfold starred
  rw [List.any_eq_true]
  exact ⟨L[i], List.getElem_mem h, decide_eq_true ht⟩
set_option maxRecDepth 100000 in
set_option maxHeartbeats 8000000 in
theorem storable_spec (m u : ByteArray) (st : Int) (v1 v2 : Value) (l1 l2 : List Fld) (b1 b2 : ByteArray) (w : World) (h1 : Flds.Is w v1 l1) (h2 : Flds.Is w v2 l2) (hl1 : Flds.bulk l1 ≤ 1048576) (hl2 : Flds.bulk l2 + b2.size ≤ 1048576) :
    Calls Tryz.prog 15 #[Req.val m u v1 b1, Resp.val st v2 b2] w fun e w' => e = .returned (.bool (storable m l1 st l2 b2)) ∧ Below w.heap.size w w' := by
  have K0 := Num.hide (pat_first w m u v1 l1 b1 st v2 l2 b2 h1 h2)
  have HOk := Num.hide (fun W h => Msg.respOk_spec st v2 l2 b2 W h (by omega) (by omega))
  have HQ := Num.hide (fun W h => Cc.has_spec v1 l1 noStore W h hl1)
  have HRn := Num.hide (fun W h => Cc.has_spec v2 l2 noStore W h (by omega))
  have HP := Num.hide (fun W h => Cc.has_spec v2 l2 priv W h (by omega))
  have HU := Num.hide (fun W h => Cc.has_spec v2 l2 publ W h (by omega))
  have HX := Num.hide (fun W h => Cc.has_spec v2 l2 Age.sMaxAge W h (by omega))
  have HY := Num.hide (fun W h => Cc.has_spec v2 l2 mustRe W h (by omega))
  have HV := Num.hide (fun W h => Cc.has_spec v2 l2 Age.maxAge W h (by omega))
  have HG := Num.hide (fun W h => Flds.get_spec_b v2 l2 varyName W h (by omega))
  have HA := Num.hide (fun W h => Flds.get_spec_b v1 l1 authName W h (by omega))
  have HE := Num.hide (fun W h => Flds.get_spec_b v2 l2 Age.expiresName W h (by omega))
  have HH := Num.hide (fun W => heuristic_spec st W)
  have hsz := Nat.le_trans (Cc.get_bulk l2 varyName (by decide)) (by omega : Flds.bulk l2 ≤ 1048576)
  obtain ⟨av1, cv1, rfl, _⟩ := Flds.is_form h1
  obtain ⟨av2, cv2, rfl, _⟩ := Flds.is_form h2
  obtain ⟨r, hr⟩ : ∃ r, storable m l1 st l2 b2 = r := ⟨_, rfl⟩
  rw [hr]
  unfold storable barred alone letsBe said at hr
  generalize Msg.respOk st l2 b2 = Ok at HOk hr
  generalize Cc.has (Cc.dirs l1) noStore = Q at HQ hr
  generalize Cc.has (Cc.dirs l2) noStore = Rn at HRn hr
  generalize Cc.has (Cc.dirs l2) priv = P at HP hr
  generalize Cc.has (Cc.dirs l2) publ = U at HU hr
  generalize Cc.has (Cc.dirs l2) Age.sMaxAge = X at HX hr
  generalize Cc.has (Cc.dirs l2) mustRe = Y at HY hr
  generalize Cc.has (Cc.dirs l2) Age.maxAge = V at HV hr
  generalize Flds.get l2 varyName = gv at HG hr hsz
  generalize Flds.get l1 authName = ga at HA hr
  generalize Flds.get l2 Age.expiresName = ge at HE hr
  generalize heuristic st = H at HH hr
  obtain ⟨s, sb⟩ := gv
  obtain ⟨A1, A2⟩ := ga
  obtain ⟨E1, E2⟩ := ge
  simp only at HG HA HE hr hsz
  have HSp := Num.hide (fun W => Sign.split_spec s W (by omega))
  have hlen := Cc.split_len s
  generalize Sign.split s = L at HSp hr hlen
  have HR := Num.hide hr
  unfold Resp.val at HOk
  unfold Req.val Resp.val
  clear h1 h2 hr
  go_enter Tryz.func15, Tryz.ntmps15
  go_upto_region 1 with fail
  generalize (w.alloc (.cells #[.string m, .string u, .slice av1 l1.length cv1, .string b1] 26)).alloc (.cells #[.int .i64 st, .slice av2 l2.length cv2, .string b2] 28) = w0 at K0 ⊢
  by_cases hm : m = getM
  case neg =>
    have d0 : (m.toList == [71, 69, 84]) = false := by
      rw [beq_eq_false_iff_ne]
      intro e
      exact hm (ByteArray.ext (Array.toList_inj.1 ((ByteArray.toList_eq (bs := m)).symm.trans e)))
    have d1 : (m.toList != [71, 69, 84]) = true := by rw [bne, d0]; rfl
    have hmf : decide (m = getM) = false := decide_eq_false hm
    obtain rfl : r = false := by rw [← HR.out]; simp [*]
    have HBl := Num.hide (K0.out.2.2.2.2.2.2.2.2.2)
    obtain ⟨c0, c1, c2, c3, c4, c5, c6, -, -, -⟩ := K0.out
    clear HR K0
    go_wp2
    go_ret
    exact ⟨rfl, HBl.out⟩
  have d0 : (m.toList == [71, 69, 84]) = true := by rw [hm, ByteArray.toList_eq]; rfl
  have d1 : (m.toList != [71, 69, 84]) = false := by rw [bne, d0]; rfl
  have hmt : decide (m = getM) = true := decide_eq_true hm
  clear hm
  by_cases hs : st = 304
  case pos =>
    have d2 : (st == 304) = true := beq_iff_eq.2 hs
    have hsf : decide (st ≠ 304) = false := decide_eq_false (fun h => h hs)
    clear hs
    obtain rfl : r = false := by rw [← HR.out]; simp [*]
    have HBl := Num.hide (K0.out.2.2.2.2.2.2.2.2.2)
    obtain ⟨c0, c1, c2, c3, c4, c5, c6, -, -, -⟩ := K0.out
    clear HR K0
    go_wp2
    go_ret
    exact ⟨rfl, HBl.out⟩
  have d2 : (st == 304) = false := beq_eq_false_iff_ne.2 hs
  have hst : decide (st ≠ 304) = true := decide_eq_true hs
  have hr := HR.out
  rw [hmt, hst] at hr
  clear HR hs hmt hst
  have HR := Num.hide hr
  clear hr
  obtain ⟨c0, c1, c2, c3, c4, c5, c6, -, -, -⟩ := K0.out
  go_wp2_with fail
  refine (HOk.out _ K0.out.2.2.2.2.2.2.2.2.1).mono ?_
  rintro e wx1 ⟨rfl, hb⟩
  have K1 := Num.hide (PAt.step K0.out hb)
  clear hb c0 c1 c2 c3 c4 c5 c6 K0
  clear d0 d1 d2
  cases Ok with
  | false =>
    obtain rfl : r = false := by rw [← HR.out]; simp [*]
    have HBl := Num.hide (K1.out.2.2.2.2.2.2.2.2.2)
    obtain ⟨c0, c1, c2, c3, c4, c5, c6, -, -, -⟩ := K1.out
    clear HR K1
    go_wp2
    go_ret
    exact ⟨rfl, HBl.out⟩
  | true =>
  obtain ⟨c0, c1, c2, c3, c4, c5, c6, -, -, -⟩ := K1.out
  go_wp2_with fail
  refine (HQ.out _ K1.out.2.2.2.2.2.2.2.1).mono ?_
  rintro e wx2 ⟨rfl, hb⟩
  have K2 := Num.hide (PAt.step K1.out hb)
  clear hb c0 c1 c2 c3 c4 c5 c6 K1
  cases Q with
  | true =>
    obtain rfl : r = false := by rw [← HR.out]; simp [*]
    have HBl := Num.hide (K2.out.2.2.2.2.2.2.2.2.2)
    obtain ⟨c0, c1, c2, c3, c4, c5, c6, -, -, -⟩ := K2.out
    clear HR K2
    go_wp2
    go_ret
    exact ⟨rfl, HBl.out⟩
  | false =>
  obtain ⟨c0, c1, c2, c3, c4, c5, c6, -, -, -⟩ := K2.out
  go_wp2_with fail
  refine (HRn.out _ K2.out.2.2.2.2.2.2.2.2.1).mono ?_
  rintro e wx3 ⟨rfl, hb⟩
  have K3 := Num.hide (PAt.step K2.out hb)
  clear hb c0 c1 c2 c3 c4 c5 c6 K2
  cases Rn with
  | true =>
    obtain rfl : r = false := by rw [← HR.out]; simp [*]
    have HBl := Num.hide (K3.out.2.2.2.2.2.2.2.2.2)
    obtain ⟨c0, c1, c2, c3, c4, c5, c6, -, -, -⟩ := K3.out
    clear HR K3
    go_wp2
    go_ret
    exact ⟨rfl, HBl.out⟩
  | false =>
  obtain ⟨c0, c1, c2, c3, c4, c5, c6, -, -, -⟩ := K3.out
  go_wp2_with fail
  refine (HP.out _ K3.out.2.2.2.2.2.2.2.2.1).mono ?_
  rintro e wx4 ⟨rfl, hb⟩
  have K4 := Num.hide (PAt.step K3.out hb)
  clear hb c0 c1 c2 c3 c4 c5 c6 K3
  cases P with
  | true =>
    obtain rfl : r = false := by rw [← HR.out]; simp [*]
    have HBl := Num.hide (K4.out.2.2.2.2.2.2.2.2.2)
    obtain ⟨c0, c1, c2, c3, c4, c5, c6, -, -, -⟩ := K4.out
    clear HR K4
    go_wp2
    go_ret
    exact ⟨rfl, HBl.out⟩
  | false =>
  obtain ⟨c0, c1, c2, c3, c4, c5, c6, -, -, -⟩ := K4.out
  go_wp2_with fail
  refine (HG.out _ K4.out.2.2.2.2.2.2.2.2.1).mono ?_
  rintro e wx5 ⟨rfl, hb⟩
  have K5 := Num.hide (PAt.step K4.out hb)
  clear hb c0 c1 c2 c3 c4 c5 c6 K4
  obtain ⟨c0, c1, c2, c3, c4, c5, c6, -, -, -⟩ := K5.out
  go_wp2_with fail
  refine (HSp.out _).mono ?_
  rintro e wx6 ⟨pv, rfl, ho, hb⟩
  obtain ⟨pa, pc, rfl⟩ := Strs.own_len ho
  have K6 := Num.hide (PAt.step K5.out hb)
  have HI := Num.hide (Strs.own_is ho)
  clear ho hb c0 c1 c2 c3 c4 c5 c6 K5 HSp HG
  generalize hwl : wx6 = wl at K6 HI ⊢
  clear hwl
  go_wp2
  go_loop [8] (fun kv => ∃ i : Nat, i ≤ L.length ∧ kv = .int .i64 (i : Int) ∧ Hid (starred (L.take i) = false)) (fun kv => L.length - (intOf kv).toNat)
  case atStart => exact ⟨0, by omega, rfl, rfl⟩
  case round =>
  obtain ⟨i, hi, rfl, HN⟩ := hrel
  by_cases hlt : i < L.length
  · obtain ⟨b, po, rfl, hc1, hc2, hcell⟩ : ∃ b po, pa = some ⟨b, po, none⟩ ∧ L.length ≤ pc ∧ pc ≤ maxLen ∧ wl.cell? ⟨b, po + i, none⟩ = some (.string L[i]) := by
      rcases HI.out with ⟨h1, _⟩ | ⟨b, o, c, h1, h2, h3, h4⟩
      · rw [h1] at hlt; exact absurd hlt (Nat.not_lt_zero _)
      · cases h1; exact ⟨b, o, rfl, h2, h3, h4 i hlt⟩
    have HT := Num.hide (starred_take L i hlt)
    have HTt := Num.hide (starred_hit L i hlt)
    generalize L[i] = t at hcell HT HTt
    by_cases ht : t = star
    · have e1 : (t.toList == [42]) = true := by rw [ht, ByteArray.toList_eq]; rfl
      have hst := HTt.out ht
      clear ht HT HTt HN
      obtain rfl : r = false := by rw [← HR.out]; simp [*]
      have HBl := Num.hide (K6.out.2.2.2.2.2.2.2.2.2)
      obtain ⟨c0, c1, c2, c3, c4, c5, c6, -, -, -⟩ := K6.out
      clear HR K6
      go_wp2
      go_ret
      exact ⟨rfl, HBl.out⟩
    · have e1 : (t.toList == [42]) = false := by
        rw [beq_eq_false_iff_ne]
        intro e
        exact ht (ByteArray.ext (Array.toList_inj.1 ((ByteArray.toList_eq (bs := t)).symm.trans e)))
      have HN2 := Num.hide (HT.out HN.out ht)
      clear HT HTt ht HN K6 HR
      go_wp2
      go_round
      case rel => exact ⟨i + 1, by omega, by go_num, HN2⟩
      case measure => simp [intOf]; omega
  · obtain rfl : i = L.length := by omega
    have hsf : starred L = false := by have := HN.out; rwa [List.take_length] at this
    have hr := HR.out
    rw [hsf] at hr
    clear HN HR hsf HI
    have HR := Num.hide hr
    clear hr hlt hi
    obtain ⟨c0, c1, c2, c3, c4, c5, c6, -, -, -⟩ := K6.out
    go_wp2_with fail
    refine (HA.out _ K6.out.2.2.2.2.2.2.2.1).mono ?_
    rintro e wx7 ⟨rfl, hb⟩
    have K7 := Num.hide (PAt.step K6.out hb)
    clear hb c0 c1 c2 c3 c4 c5 c6 K6
    obtain ⟨Z, hZ⟩ : ∃ Z, (A2 && !U && !X && !Y) = Z := ⟨_, rfl⟩
    have hr := HR.out
    rw [hZ] at hr
    clear HR
    have HR := Num.hide hr
    have HZ := Num.hide hZ
    clear hr hZ
    go_upto_region 13 with fail
    go_cut [82] from 13 (fun v wx => v = .bool Z ∧ Hid (PAt w w.heap.size m u (.slice av1 l1.length cv1) l1 b1 st (.slice av2 l2.length cv2) l2 b2 wx))
    case first =>
      cases A2 with
      | false =>
        obtain rfl : Z = false := by rw [← HZ.out]; simp [*]
        obtain ⟨c0, c1, c2, c3, c4, c5, c6, -, -, -⟩ := K7.out
        go_wp2
        go_meet
        case rel => exact ⟨rfl, K7⟩
      | true =>
      obtain ⟨c0, c1, c2, c3, c4, c5, c6, -, -, -⟩ := K7.out
      go_wp2_with fail
      refine (HU.out _ K7.out.2.2.2.2.2.2.2.2.1).mono ?_
      rintro e wx8 ⟨rfl, hb⟩
      have K8 := Num.hide (PAt.step K7.out hb)
      clear hb c0 c1 c2 c3 c4 c5 c6 K7
      cases U with
      | true =>
        obtain rfl : Z = false := by rw [← HZ.out]; simp [*]
        obtain ⟨c0, c1, c2, c3, c4, c5, c6, -, -, -⟩ := K8.out
        go_wp2
        go_meet
        case rel => exact ⟨rfl, K8⟩
      | false =>
      obtain ⟨c0, c1, c2, c3, c4, c5, c6, -, -, -⟩ := K8.out
      go_wp2_with fail
      refine (HX.out _ K8.out.2.2.2.2.2.2.2.2.1).mono ?_
      rintro e wx9 ⟨rfl, hb⟩
      have K9 := Num.hide (PAt.step K8.out hb)
      clear hb c0 c1 c2 c3 c4 c5 c6 K8
      cases X with
      | true =>
        obtain rfl : Z = false := by rw [← HZ.out]; simp [*]
        obtain ⟨c0, c1, c2, c3, c4, c5, c6, -, -, -⟩ := K9.out
        go_wp2
        go_meet
        case rel => exact ⟨rfl, K9⟩
      | false =>
      obtain ⟨c0, c1, c2, c3, c4, c5, c6, -, -, -⟩ := K9.out
      go_wp2_with fail
      refine (HY.out _ K9.out.2.2.2.2.2.2.2.2.1).mono ?_
      rintro e wx10 ⟨rfl, hb⟩
      have K10 := Num.hide (PAt.step K9.out hb)
      clear hb c0 c1 c2 c3 c4 c5 c6 K9
      cases Y with
      | true =>
        obtain rfl : Z = false := by rw [← HZ.out]; simp [*]
        obtain ⟨c0, c1, c2, c3, c4, c5, c6, -, -, -⟩ := K10.out
        go_wp2
        go_meet
        case rel => exact ⟨rfl, K10⟩
      | false =>
        obtain rfl : Z = true := by rw [← HZ.out]; simp [*]
        obtain ⟨c0, c1, c2, c3, c4, c5, c6, -, -, -⟩ := K10.out
        go_wp2
        go_meet
        case rel => exact ⟨rfl, K10⟩
    case rest =>
    obtain ⟨rfl, KC⟩ := hcut
    clear K7 HZ
    cases Z with
    | true =>
      obtain rfl : r = false := by rw [← HR.out]; simp [*]
      have HBl := Num.hide (KC.out.2.2.2.2.2.2.2.2.2)
      obtain ⟨c0, c1, c2, c3, c4, c5, c6, -, -, -⟩ := KC.out
      clear HR KC
      go_wp2
      go_ret
      exact ⟨rfl, HBl.out⟩
    | false =>
    obtain ⟨c0, c1, c2, c3, c4, c5, c6, -, -, -⟩ := KC.out
    go_wp2_with fail
    refine (HE.out _ KC.out.2.2.2.2.2.2.2.2.1).mono ?_
    rintro e wx11 ⟨rfl, hb⟩
    have K11 := Num.hide (PAt.step KC.out hb)
    clear hb c0 c1 c2 c3 c4 c5 c6 KC
    obtain ⟨c0, c1, c2, c3, c4, c5, c6, -, -, -⟩ := K11.out
    go_wp2_with fail
    refine (HU.out _ K11.out.2.2.2.2.2.2.2.2.1).mono ?_
    rintro e wx12 ⟨rfl, hb⟩
    have K12 := Num.hide (PAt.step K11.out hb)
    clear hb c0 c1 c2 c3 c4 c5 c6 K11
    cases U with
    | true =>
      obtain rfl : r = true := by rw [← HR.out]; simp [*]
      have HBl := Num.hide (K12.out.2.2.2.2.2.2.2.2.2)
      obtain ⟨c0, c1, c2, c3, c4, c5, c6, -, -, -⟩ := K12.out
      clear HR K12
      go_wp2
      go_ret
      exact ⟨rfl, HBl.out⟩
    | false =>
    obtain ⟨c0, c1, c2, c3, c4, c5, c6, -, -, -⟩ := K12.out
    go_wp2_with fail
    refine (HV.out _ K12.out.2.2.2.2.2.2.2.2.1).mono ?_
    rintro e wx13 ⟨rfl, hb⟩
    have K13 := Num.hide (PAt.step K12.out hb)
    clear hb c0 c1 c2 c3 c4 c5 c6 K12
    cases V with
    | true =>
      obtain rfl : r = true := by rw [← HR.out]; simp [*]
      have HBl := Num.hide (K13.out.2.2.2.2.2.2.2.2.2)
      obtain ⟨c0, c1, c2, c3, c4, c5, c6, -, -, -⟩ := K13.out
      clear HR K13
      go_wp2
      go_ret
      exact ⟨rfl, HBl.out⟩
    | false =>
    obtain ⟨c0, c1, c2, c3, c4, c5, c6, -, -, -⟩ := K13.out
    go_wp2_with fail
    refine (HX.out _ K13.out.2.2.2.2.2.2.2.2.1).mono ?_
    rintro e wx14 ⟨rfl, hb⟩
    have K14 := Num.hide (PAt.step K13.out hb)
    clear hb c0 c1 c2 c3 c4 c5 c6 K13
    cases X with
    | true =>
      obtain rfl : r = true := by rw [← HR.out]; simp [*]
      have HBl := Num.hide (K14.out.2.2.2.2.2.2.2.2.2)
      obtain ⟨c0, c1, c2, c3, c4, c5, c6, -, -, -⟩ := K14.out
      clear HR K14
      go_wp2
      go_ret
      exact ⟨rfl, HBl.out⟩
    | false =>
    cases E2 with
    | true =>
      obtain rfl : r = true := by rw [← HR.out]; simp [*]
      have HBl := Num.hide (K14.out.2.2.2.2.2.2.2.2.2)
      obtain ⟨c0, c1, c2, c3, c4, c5, c6, -, -, -⟩ := K14.out
      clear HR K14
      go_wp2
      go_ret
      exact ⟨rfl, HBl.out⟩
    | false =>
    obtain ⟨c0, c1, c2, c3, c4, c5, c6, -, -, -⟩ := K14.out
    go_wp2_with fail
    refine (HH.out _).mono ?_
    rintro e wx15 ⟨rfl, hb⟩
    have K15 := Num.hide (PAt.step K14.out hb)
    clear hb c0 c1 c2 c3 c4 c5 c6 K14
    cases H with
    | true =>
      obtain rfl : r = true := by rw [← HR.out]; simp [*]
      have HBl := Num.hide (K15.out.2.2.2.2.2.2.2.2.2)
      obtain ⟨c0, c1, c2, c3, c4, c5, c6, -, -, -⟩ := K15.out
      clear HR K15
      go_wp2
      go_ret
      exact ⟨rfl, HBl.out⟩
    | false =>
      obtain rfl : r = false := by rw [← HR.out]; simp [*]
      have HBl := Num.hide (K15.out.2.2.2.2.2.2.2.2.2)
      obtain ⟨c0, c1, c2, c3, c4, c5, c6, -, -, -⟩ := K15.out
      clear HR K15
      go_wp2
      go_ret
      exact ⟨rfl, HBl.out⟩
end Pol
end Go.Proofs.YtjeokackmkfooaaGreatDoor
namespace Go.Proofs.YtjeokackmkfooaaGreatDoor
open Go.RowKit
set_option linter.unusedVariables false
namespace Resp

/-- two boxes that were just laid -/
theorem box_one (w : World) (c1 c2 : Array Value) (t1 t2 : TypeId) (j : Nat) : ((w.alloc (.cells c1 t1)).alloc (.cells c2 t2)).cell? ⟨w.heap.size, j, none⟩ = c1[j]? := by
  rw [World.cell?_alloc_lt _ _ _ (by simp), cell_of_row _ _ _ _ _ _ (heap_alloc_new w _)]
theorem box_two (w : World) (c1 c2 : Array Value) (t1 t2 : TypeId) (j : Nat) : ((w.alloc (.cells c1 t1)).alloc (.cells c2 t2)).cell? ⟨w.heap.size + 1, j, none⟩ = c2[j]? := by
  have e : w.heap.size + 1 = (w.alloc (.cells c1 t1)).heap.size := by rw [World.size_alloc]
  rw [e, cell_of_row _ _ _ _ _ _ (heap_alloc_new _ _)]
end Resp
end Go.Proofs.YtjeokackmkfooaaGreatDoor
namespace Go.Proofs.YtjeokackmkfooaaGreatDoor
open Go.RowKit
set_option linter.unusedVariables false
namespace Resp

set_option maxRecDepth 100000 in
set_option maxHeartbeats 2000000 in
theorem eq_any (s1 s2 : Int) (v1 v2 : Value) (l1 l2 : List Flds.Fld) (b1 b2 : ByteArray) (w : World) (h1 : Flds.Is w v1 l1) (h2 : Flds.Is w v2 l2) (hl : l1.length ≤ 1099511627776) :
    Calls Tryz.prog 19 #[val s1 v1 b1, val s2 v2 b2] w fun e w' => e = .returned (.bool (decide (s1 = s2 ∧ l1 = l2 ∧ b1 = b2))) ∧ Below w.heap.size w w' := by
  unfold val
  obtain ⟨r, hr⟩ : ∃ r, decide (s1 = s2 ∧ l1 = l2 ∧ b1 = b2) = r := ⟨_, rfl⟩
  rw [hr]
  obtain ⟨a1, c1, rfl, _⟩ := Flds.is_form h1
  obtain ⟨a2, c2, rfl, _⟩ := Flds.is_form h2
  have hb0 := ((Below.refl w.heap.size w).alloc (Nat.le_refl _) (.cells #[.int .i64 s1, .slice a1 l1.length c1, .string b1] 28)).alloc (by simp) (.cells #[.int .i64 s2, .slice a2 l2.length c2, .string b2] 28)
  have HB0 := Num.hide hb0
  have HE := Num.hide (Flds.eq_any _ _ l1 l2 _ (Recs.is_stay h1 (Nat.le_refl _) hb0) (Recs.is_stay h2 (Nat.le_refl _) hb0) hl)
  clear h1 h2 hb0
  by_cases hs : s1 = s2
  · have ds : (s1 != s2) = false := by rw [bne_eq_false_iff_eq]; exact hs
    by_cases hll : l1 = l2
    · rw [decide_eq_true hll] at HE
      by_cases hbb : b1 = b2
      · obtain rfl : r = true := by rw [← hr]; exact decide_eq_true ⟨hs, hll, hbb⟩
        subst hbb
        clear hr hs hll
        go_enter Tryz.func19, Tryz.ntmps19
        go_wp2_with fail
        refine HE.out.mono ?_
        rintro e w1 ⟨rfl, hb1⟩
        have k1 := (hb1.cell (p := ⟨w.heap.size, 2, none⟩) (by show w.heap.size < _; rw [World.size_alloc, World.size_alloc]; omega)).trans (box_one w _ _ _ _ 2)
        have k2 := (hb1.cell (p := ⟨w.heap.size + 1, 2, none⟩) (by show w.heap.size + 1 < _; rw [World.size_alloc, World.size_alloc]; omega)).trans (box_two w _ _ _ _ 2)
        have HB1 := Num.hide (HB0.out.trans (hb1.mono HB0.out.size))
        clear hb1 HB0 HE
        simp only [List.getElem?_toArray, List.getElem?_cons_succ, List.getElem?_cons_zero] at k1 k2
        go_wp2
        go_ret
        exact ⟨rfl, HB1.out⟩
      · obtain rfl : r = false := by rw [← hr]; exact decide_eq_false (fun h => hbb h.2.2)
        have db : (b1.toList == b2.toList) = false := Flds.text_ne hbb
        have db2 : (b1.toList != b2.toList) = true := by rw [bne, db]; rfl
        clear hr hs hll hbb
        go_enter Tryz.func19, Tryz.ntmps19
        go_wp2_with fail
        refine HE.out.mono ?_
        rintro e w1 ⟨rfl, hb1⟩
        have k1 := (hb1.cell (p := ⟨w.heap.size, 2, none⟩) (by show w.heap.size < _; rw [World.size_alloc, World.size_alloc]; omega)).trans (box_one w _ _ _ _ 2)
        have k2 := (hb1.cell (p := ⟨w.heap.size + 1, 2, none⟩) (by show w.heap.size + 1 < _; rw [World.size_alloc, World.size_alloc]; omega)).trans (box_two w _ _ _ _ 2)
        have HB1 := Num.hide (HB0.out.trans (hb1.mono HB0.out.size))
        clear hb1 HB0 HE
        simp only [List.getElem?_toArray, List.getElem?_cons_succ, List.getElem?_cons_zero] at k1 k2
        go_wp2
        go_ret
        exact ⟨rfl, HB1.out⟩
    · rw [decide_eq_false hll] at HE
      obtain rfl : r = false := by rw [← hr]; exact decide_eq_false (fun h => hll h.2.1)
      clear hr hs hll
      go_enter Tryz.func19, Tryz.ntmps19
      go_wp2_with fail
      refine HE.out.mono ?_
      rintro e w1 ⟨rfl, hb1⟩
      have HB1 := Num.hide (HB0.out.trans (hb1.mono HB0.out.size))
      clear hb1 HB0 HE
      go_wp2
      go_ret
      exact ⟨rfl, HB1.out⟩
  · have ds : (s1 != s2) = true := by rw [bne_iff_ne]; exact hs
    obtain rfl : r = false := by rw [← hr]; exact decide_eq_false (fun h => hs h.1)
    clear hr hs HE
    go_enter Tryz.func19, Tryz.ntmps19
    go_wp2
    go_ret
    exact ⟨rfl, HB0.out⟩
end Resp
end Go.Proofs.YtjeokackmkfooaaGreatDoor
namespace Go.Proofs.YtjeokackmkfooaaGreatDoor
open Go.RowKit
set_option linter.unusedVariables false
namespace Flds

set_option maxRecDepth 100000 in
set_option maxHeartbeats 1000000 in
theorem toField_any (x y : ByteArray) (w : World) : Calls Tryz.prog 82 #[.agg #[.string x, .string y]] w fun e w' => e = .returned (.agg #[.string x, .string y]) ∧ Below w.heap.size w w' := by
  go_enter Tryz.func82, Tryz.ntmps82
  go_wp2
  exact bodyPost_ret (v := .agg #[.string x, .string y]) (by simp [results, Tryz.results82, go_sem]) rfl ⟨rfl, (((Below.refl _ _).alloc (Nat.le_refl _) _).alloc (by simp) _).alloc (by simp; omega) _⟩
set_option maxRecDepth 100000 in
set_option maxHeartbeats 1000000 in
theorem toFieldS_any (v : Value) (l : List Fld) (w : World) (h : Is w v l) (hl : l.length ≤ 1048576) :
    Calls Tryz.prog 36 #[v] w fun e w' => ∃ v', e = .returned v' ∧ Own w.heap.size w' v' l ∧ Below w.heap.size w w' := by
  obtain ⟨a, c, rfl, h2⟩ := is_form h
  have HA := Num.hide h2
  clear h h2
  obtain ⟨i0, hi0, hz0, hz1, hz2⟩ := info_parts infoF
  go_enter Tryz.func36, Tryz.ntmps36
  go_wp2_with (at_make; refine wpList_make_full _ rfl (.tmp 6) (.tmp 6) 24 rfl w.heap.size 32 i0 _ 2 Tryz.underlying24 hi0 hz0 hz1 .i64 .i64 (l.length : Int) (l.length : Int) l.length rfl rfl rfl rfl ?c1 ?c2 ?c3 ?_)
  case c1 => rw [hz2]; omega
  case c2 => unfold maxLen; omega
  case c3 => exact Nat.le_refl _
  intro w1 hown hgrow
  rw [made_rec] at hown
  have HO : Hid (Own w.heap.size w1 (.slice (some ⟨w.heap.size, 0, none⟩) l.length l.length) (List.replicate l.length zeroF)) := by
    show w1.ownsRow _ _ _ _ _ _
    rw [List.length_replicate]; exact hown
  have HB : Hid (Below w.heap.size w w1) := (Below.refl _ _).grown hgrow (Nat.le_refl _) (fun k h => by cases h)
  clear hown hgrow
  go_wp2
  go_loopw [4] (fun iv wr => ∃ i : Nat, i ≤ l.length ∧ iv = .int .i64 (i : Int) ∧ Hid (Own w.heap.size wr (.slice (some ⟨w.heap.size, 0, none⟩) l.length l.length) (l.take i ++ List.replicate (l.length - i) zeroF)) ∧ Hid (Below w.heap.size w wr)) (fun iv _ => l.length - (intOf iv).toNat)
  case atStart => exact ⟨0, by omega, rfl, HO, HB⟩
  case round =>
    clear HO HB
    obtain ⟨i, hi, rfl, HO, HB⟩ := hrel
    by_cases hlt : i < l.length
    · obtain ⟨b, o, rfl, hc, hmx, hblt, hcell⟩ := Num.unhide HA (by omega)
      obtain ⟨hc1, hc2⟩ := hcell i hlt
      have c1 : wr.cell? ⟨b, o + i * 2, none⟩ = some (.string l[i].1) := by rw [HB.out.cell (p := ⟨b, o + i * 2, none⟩) hblt]; exact hc1
      have c2 : wr.cell? ⟨b, o + i * 2 + 1, none⟩ = some (.string l[i].2) := by rw [HB.out.cell (p := ⟨b, o + i * 2 + 1, none⟩) hblt]; exact hc2
      have HT := Num.hide (take_set l i hlt)
      clear hcell hc1 hc2
      generalize l[i] = f at c1 c2 HT
      obtain ⟨x, y⟩ := f
      simp only at c1 c2
      go_wp2_with fail
      refine (toField_any x y _).mono ?_
      rintro e w2 ⟨rfl, hb2⟩
      have hlen : (l.take i ++ List.replicate (l.length - i) zeroF).length = l.length := by rw [List.length_append, List.length_take, List.length_replicate]; omega
      obtain ⟨g, c', hv, hc', hm', hB', hg', k1, k2, hfz, q1, q2, hput⟩ := own_put (Recs.own_below HO.out hb2) i (by omega)
      simp only [Value.slice.injEq, Option.some.injEq, Addr.mk.injEq, and_true] at hv
      obtain ⟨rfl, e9, rfl⟩ := hv
      clear e9
      obtain ⟨hp1, hp2⟩ := hput x y
      rw [HT.out] at hp1
      have HP1 := Num.hide hp1
      have HP2 := Num.hide (HB.out.trans ((hb2.mono HB.out.size).trans (Recs.below_mark (Recs.own_below HO.out hb2) (Nat.le_refl _) (Nat.le_trans HB.out.size hb2.size) hp2)))
      obtain ⟨o1, ho1⟩ : ∃ u, w2.cell? ⟨w.heap.size, i * 2, none⟩ = some u := ⟨_, k1⟩
      obtain ⟨o2, ho2⟩ : ∃ u, w2.cell? ⟨w.heap.size, i * 2 + 1, none⟩ = some u := ⟨_, k2⟩
      have f1 := hfz (i * 2)
      have f2 := hfz (i * 2 + 1)
      clear q1 q2 hput hp1 hp2 k1 k2 hfz hlen
      clear hb2 hc' hg' hm'
      go_wp2
      go_roundw
      case rel => exact ⟨i + 1, by omega, by go_num, HP1, HP2⟩
      case measure => simp [intOf]; omega
    · obtain rfl : i = l.length := by omega
      have ho := HO.out
      rw [List.take_of_length_le (Nat.le_refl _), Nat.sub_self, List.replicate_zero, List.append_nil] at ho
      have HO2 := Num.hide ho
      clear ho HO
      go_wp2
      go_ret
      exact ⟨_, rfl, HO2.out, HB.out⟩
end Flds
end Go.Proofs.YtjeokackmkfooaaGreatDoor
