/-
  ReqEq: eqRequest of the laws: requests held against each other.
  ReqLaw: szRequest of the laws: how much a request holds.
  ReqTo: toRequest of the laws: a request taken over, its fields in a row of the call's own; a request that came in, as the law's argument.
-/
import Derived.Test.YtkogcbnbmdeolaaDoorPam
import Derived.Test.YtkogcbnbmdeolaaDoorFldEq
import Derived.Test.YtkogcbnbmdeolaaDoorPad
import Derived.Test.YtkogcbnbmdeolaaDoorPae
import Derived.Lib.SmallJoins
namespace Go.Proofs.YtkogcbnbmdeolaaDoor
open Go.RowKit
set_option linter.unusedVariables false
namespace Req

set_option maxRecDepth 100000 in
set_option maxHeartbeats 2000000 in
theorem eq_any (m1 m2 u1 u2 : ByteArray) (v1 v2 : Value) (l1 l2 : List Flds.Fld) (b1 b2 : ByteArray) (w : World) (h1 : Flds.Is w v1 l1) (h2 : Flds.Is w v2 l2) (hl : l1.length ≤ 1099511627776) :
    Calls Tryd.prog 37 #[val m1 u1 v1 b1, val m2 u2 v2 b2] w fun e w' => e = .returned (.bool (decide (m1 = m2 ∧ u1 = u2 ∧ l1 = l2 ∧ b1 = b2))) ∧ Below w.heap.size w w' := by
  unfold val
  obtain ⟨r, hr⟩ : ∃ r, decide (m1 = m2 ∧ u1 = u2 ∧ l1 = l2 ∧ b1 = b2) = r := ⟨_, rfl⟩
  rw [hr]
  obtain ⟨a1, c1, rfl, _⟩ := Flds.is_form h1
  obtain ⟨a2, c2, rfl, _⟩ := Flds.is_form h2
  have hb0 := ((Below.refl w.heap.size w).alloc (Nat.le_refl _) (.cells #[.string m1, .string u1, .slice a1 l1.length c1, .string b1] 32)).alloc (by simp) (.cells #[.string m2, .string u2, .slice a2 l2.length c2, .string b2] 32)
  have HB0 := Num.hide hb0
  have HE := Num.hide (Flds.eq_any _ _ l1 l2 _ (Recs.is_stay h1 (Nat.le_refl _) hb0) (Recs.is_stay h2 (Nat.le_refl _) hb0) hl)
  clear h1 h2 hb0
  by_cases hm : m1 = m2
  · subst hm
    by_cases hu : u1 = u2
    · subst hu
      by_cases hll : l1 = l2
      · rw [decide_eq_true hll] at HE
        by_cases hbb : b1 = b2
        · obtain rfl : r = true := by rw [← hr]; exact decide_eq_true ⟨rfl, rfl, hll, hbb⟩
          subst hbb
          clear hr hll
          go_enter Tryd.func37, Tryd.ntmps37
          go_wp2_with fail
          refine HE.out.mono ?_
          rintro e w1 ⟨rfl, hb1⟩
          have k1 := (hb1.cell (p := ⟨w.heap.size, 3, none⟩) (by show w.heap.size < _; rw [World.size_alloc, World.size_alloc]; omega)).trans (Resp.box_one w _ _ _ _ 3)
          have k2 := (hb1.cell (p := ⟨w.heap.size + 1, 3, none⟩) (by show w.heap.size + 1 < _; rw [World.size_alloc, World.size_alloc]; omega)).trans (Resp.box_two w _ _ _ _ 3)
          have HB1 := Num.hide (HB0.out.trans (hb1.mono HB0.out.size))
          clear hb1 HB0 HE
          simp only [List.getElem?_toArray, List.getElem?_cons_succ, List.getElem?_cons_zero] at k1 k2
          go_wp2
          go_ret
          exact ⟨rfl, HB1.out⟩
        · obtain rfl : r = false := by rw [← hr]; exact decide_eq_false (fun h => hbb h.2.2.2)
          have db : (b1.toList == b2.toList) = false := Flds.text_ne hbb
          have db2 : (b1.toList != b2.toList) = true := by rw [bne, db]; rfl
          clear hr hll hbb
          go_enter Tryd.func37, Tryd.ntmps37
          go_wp2_with fail
          refine HE.out.mono ?_
          rintro e w1 ⟨rfl, hb1⟩
          have k1 := (hb1.cell (p := ⟨w.heap.size, 3, none⟩) (by show w.heap.size < _; rw [World.size_alloc, World.size_alloc]; omega)).trans (Resp.box_one w _ _ _ _ 3)
          have k2 := (hb1.cell (p := ⟨w.heap.size + 1, 3, none⟩) (by show w.heap.size + 1 < _; rw [World.size_alloc, World.size_alloc]; omega)).trans (Resp.box_two w _ _ _ _ 3)
          have HB1 := Num.hide (HB0.out.trans (hb1.mono HB0.out.size))
          clear hb1 HB0 HE
          simp only [List.getElem?_toArray, List.getElem?_cons_succ, List.getElem?_cons_zero] at k1 k2
          go_wp2
          go_ret
          exact ⟨rfl, HB1.out⟩
      · rw [decide_eq_false hll] at HE
        obtain rfl : r = false := by rw [← hr]; exact decide_eq_false (fun h => hll h.2.2.1)
        clear hr hll
        go_enter Tryd.func37, Tryd.ntmps37
        go_wp2_with fail
        refine HE.out.mono ?_
        rintro e w1 ⟨rfl, hb1⟩
        have HB1 := Num.hide (HB0.out.trans (hb1.mono HB0.out.size))
        clear hb1 HB0 HE
        go_wp2
        go_ret
        exact ⟨rfl, HB1.out⟩
    · obtain rfl : r = false := by rw [← hr]; exact decide_eq_false (fun h => hu h.2.1)
      have db : (u1.toList == u2.toList) = false := Flds.text_ne hu
      have db2 : (u1.toList != u2.toList) = true := by rw [bne, db]; rfl
      clear hr hu HE
      go_enter Tryd.func37, Tryd.ntmps37
      go_wp2
      go_ret
      exact ⟨rfl, HB0.out⟩
  · obtain rfl : r = false := by rw [← hr]; exact decide_eq_false (fun h => hm h.1)
    have db : (m1.toList == m2.toList) = false := Flds.text_ne hm
    have db2 : (m1.toList != m2.toList) = true := by rw [bne, db]; rfl
    clear hr hm HE
    go_enter Tryd.func37, Tryd.ntmps37
    go_wp2
    go_ret
    exact ⟨rfl, HB0.out⟩
end Req
end Go.Proofs.YtkogcbnbmdeolaaDoor
namespace Go.Proofs.YtkogcbnbmdeolaaDoor
open Go.RowKit
set_option linter.unusedVariables false
namespace Req

set_option maxRecDepth 100000 in
set_option maxHeartbeats 2000000 in
theorem sz_any (m u : ByteArray) (v : Value) (l : List Flds.Fld) (b : ByteArray) (n : Int) (w : World) (h : Flds.Arg w v l) (hm : m.size ≤ maxLen) (hu : u.size ≤ maxLen) (hb : b.size ≤ maxLen) (h0 : 0 ≤ n) (h1 : n ≤ 1048576) :
    Calls Tryd.prog 33 #[val m u v b, .int .i64 n] w fun e w' => e = .returned (.int .i64 (Flds.left n (bulk m u l b))) ∧ Below w.heap.size w w' := by
  unfold val bulk
  unfold maxLen at hm hu hb
  obtain ⟨r, hr⟩ : ∃ r, Flds.left n (m.size + u.size + Flds.bulk l + b.size) = r := ⟨_, rfl⟩
  rw [hr]
  obtain ⟨a1, c1, rfl, _⟩ := Flds.is_form h.1
  have hb0 := (Below.refl w.heap.size w).alloc (Nat.le_refl _) (.cells #[.string m, .string u, .slice a1 l.length c1, .string b] 56)
  have HB0 := Num.hide hb0
  by_cases hmm : n - (m.size : Int) < 0
  · obtain rfl : r = -1 := by rw [← hr]; exact Flds.left_no (by omega)
    clear hr h hb0
    go_enter Tryd.func33, Tryd.ntmps33
    go_wp2
    go_ret
    exact ⟨rfl, HB0.out⟩
  · by_cases huu : n - (m.size : Int) - (u.size : Int) < 0
    · obtain rfl : r = -1 := by rw [← hr]; exact Flds.left_no (by omega)
      clear hr h hb0
      go_enter Tryd.func33, Tryd.ntmps33
      go_wp2
      go_ret
      exact ⟨rfl, HB0.out⟩
    · have HZ := Num.hide (Flds.szFieldS_any _ l (n - (m.size : Int) - (u.size : Int)) _ (Recs.is_stay h.1 (Nat.le_refl _) hb0) h.2 (by omega) (by omega))
      clear h hb0
      have hq0 : (0 : Int) ≤ (Flds.bulk l : Int) := by omega
      by_cases hl : (Flds.bulk l : Int) ≤ n - (m.size : Int) - (u.size : Int)
      · rw [Flds.left_yes hl] at HZ
        have dl : decide (n - (m.size : Int) - (u.size : Int) - (Flds.bulk l : Int) < 0) = false := by rw [decide_eq_false_iff_not]; omega
        by_cases hbb : n - (m.size : Int) - (u.size : Int) - (Flds.bulk l : Int) - (b.size : Int) < 0
        · obtain rfl : r = -1 := by rw [← hr]; exact Flds.left_no (by omega)
          clear hr
          generalize (Flds.bulk l : Int) = q at *
          go_enter Tryd.func33, Tryd.ntmps33
          go_wp2_with fail
          refine HZ.out.mono ?_
          rintro e w1 ⟨rfl, hb1⟩
          have k1 := (hb1.cell (p := ⟨w.heap.size, 3, none⟩) (by show w.heap.size < _; rw [World.size_alloc]; omega)).trans (cell_of_row _ _ _ _ _ _ (heap_alloc_new w _))
          simp only [List.getElem?_toArray, List.getElem?_cons_succ, List.getElem?_cons_zero] at k1
          have HB1 := Num.hide (HB0.out.trans (hb1.mono HB0.out.size))
          clear hb1 HB0 HZ
          go_wp2
          go_ret
          exact ⟨rfl, HB1.out⟩
        · have db : decide (n - (m.size : Int) - (u.size : Int) - (Flds.bulk l : Int) - (b.size : Int) < 0) = false := by rw [decide_eq_false_iff_not]; exact hbb
          obtain rfl : r = n - (m.size : Int) - (u.size : Int) - (Flds.bulk l : Int) - (b.size : Int) := by rw [← hr, Flds.left_yes (by omega)]; omega
          clear hr
          generalize (Flds.bulk l : Int) = q at *
          go_enter Tryd.func33, Tryd.ntmps33
          go_wp2_with fail
          refine HZ.out.mono ?_
          rintro e w1 ⟨rfl, hb1⟩
          have k1 := (hb1.cell (p := ⟨w.heap.size, 3, none⟩) (by show w.heap.size < _; rw [World.size_alloc]; omega)).trans (cell_of_row _ _ _ _ _ _ (heap_alloc_new w _))
          simp only [List.getElem?_toArray, List.getElem?_cons_succ, List.getElem?_cons_zero] at k1
          have HB1 := Num.hide (HB0.out.trans (hb1.mono HB0.out.size))
          clear hb1 HB0 HZ
          go_wp2
          go_ret
          exact ⟨rfl, HB1.out⟩
      · rw [Flds.left_no hl] at HZ
        obtain rfl : r = -1 := by rw [← hr]; exact Flds.left_no (by omega)
        clear hr
        go_enter Tryd.func33, Tryd.ntmps33
        go_wp2_with fail
        refine HZ.out.mono ?_
        rintro e w1 ⟨rfl, hb1⟩
        have HB1 := Num.hide (HB0.out.trans (hb1.mono HB0.out.size))
        clear hb1 HB0 HZ
        go_wp2
        go_ret
        exact ⟨rfl, HB1.out⟩
end Req
end Go.Proofs.YtkogcbnbmdeolaaDoor
namespace Go.Proofs.YtkogcbnbmdeolaaDoor
open Go.ChangeShapes Go.WideShapes Go.ChangeAt Go.RowKit Go.Deep
set_option linter.unusedVariables false
namespace Req

set_option maxRecDepth 100000 in
set_option maxHeartbeats 2000000 in
theorem to_any (m u : ByteArray) (v : Value) (l : List Flds.Fld) (b : ByteArray) (w : World) (h : Flds.Is w v l) (hl : l.length ≤ 1048576) :
    Calls Tryd.prog 35 #[val m u v b] w fun e w' => ∃ v', e = .returned (val m u v' b) ∧ Flds.Own w.heap.size w' v' l ∧ Below w.heap.size w w' := by
  unfold val
  obtain ⟨a1, c1, rfl, _⟩ := Flds.is_form h
  have HI := Num.hide h
  clear h
  go_enter Tryd.func35, Tryd.ntmps35
  have HT := Num.hide (fun W h => Flds.toFieldS_any (.slice a1 l.length c1) l W h hl)
  have HB0 := Num.hide ((((Below.refl w.heap.size w).alloc (Nat.le_refl _) (.cells #[.string m, .string u, .slice a1 l.length c1, .string b] 56)).alloc (by simp) (.cells #[.string ⟨#[]⟩, .string ⟨#[]⟩, .slice none 0 0, .string ⟨#[]⟩] 32)).alloc (by simp; omega) (.cells #[.string m, .string u, .slice none 0 0, .string ⟨#[]⟩] 32))
  go_wp2_with fail
  refine (HT.out _ (Recs.is_stay HI.out (Nat.le_refl _) HB0.out)).mono ?_
  rintro e W1 ⟨v', rfl, ho, hb⟩
  obtain ⟨r0, r1, r2⟩ := Recs.three_rows w W1 _ _ _ hb
  obtain ⟨a2, c2, rfl⟩ := Recs.own_len ho
  have HO := Num.hide ho
  have HB1 := Num.hide (HB0.out.trans (hb.mono HB0.out.size))
  have k0 := Recs.box_cell r0 3
  have o0 := Recs.box_cell r2 0
  have o1 := Recs.box_cell r2 1
  have o2 := Recs.box_cell r2 2
  have o3 := Recs.box_cell r2 3
  have t0 := Recs.box_cell r1 0
  have t1 := Recs.box_cell r1 1
  have t2 := Recs.box_cell r1 2
  have t3 := Recs.box_cell r1 3
  have z0 := Recs.box_thaw r2 0
  have z1 := Recs.box_thaw r2 1
  have z2 := Recs.box_thaw r2 2
  have z3 := Recs.box_thaw r2 3
  have y0 := Recs.box_thaw r1 0
  have y1 := Recs.box_thaw r1 1
  have y2 := Recs.box_thaw r1 2
  have y3 := Recs.box_thaw r1 3
  simp only [List.getElem?_toArray, List.getElem?_cons_succ, List.getElem?_cons_zero] at k0 o0 o1 o2 o3 t0 t1 t2 t3
  clear ho hb r0 r1 r2 HT HI
  have hS : (((w.alloc (.cells #[.string m, .string u, .slice a1 l.length c1, .string b] 56)).alloc (.cells #[.string ⟨#[]⟩, .string ⟨#[]⟩, .slice none 0 0, .string ⟨#[]⟩] 32)).alloc (.cells #[.string m, .string u, .slice none 0 0, .string ⟨#[]⟩] 32)).heap.size = w.heap.size + 1 + 1 + 1 := by rw [World.size_alloc, World.size_alloc, World.size_alloc]
  have HP := Num.hide ((((((((Recs.Past.refl w.heap.size (w.heap.size + 1 + 1 + 1) W1).set (w.heap.size + 1 + 1) 2 (.slice a2 l.length c2) (by omega) (by omega)).set (w.heap.size + 1 + 1) 3 (.string b) (by omega) (by omega)).set (w.heap.size + 1) 0 (.string m) (by omega) (by omega)).set (w.heap.size + 1) 1 (.string u) (by omega) (by omega)).set (w.heap.size + 1) 2 (.slice a2 l.length c2) (by omega) (by omega)).set (w.heap.size + 1) 3 (.string b) (by omega) (by omega)))
  have HO2 : Hid (Flds.Own (w.heap.size + 1 + 1 + 1) W1 (.slice a2 l.length c2) l) := by rw [← hS]; exact HO
  clear hS HO HB0
  go_wp2
  exact bodyPost_ret (v := .agg #[.string m, .string u, .slice a2 l.length c2, .string b]) (by simp [results, Tryd.results35, go_sem, *]) rfl ⟨_, rfl, Recs.own_mono (Recs.own_past HO2.out HP.out) (by omega), HB1.out.trans HP.out.below⟩
/-- what the walk is told of a request that came in -/
def Arg (w : World) (v : Value) (m u : ByteArray) (l : List Flds.Fld) (b : ByteArray) : Prop := ∃ x, v = val m u x b ∧ Flds.Arg w x l ∧ m.size ≤ maxLen ∧ u.size ≤ maxLen ∧ b.size ≤ maxLen
theorem four {α : Type} {cs : Array α} (h : cs.size = 4) : ∃ c0 c1 c2 c3, cs = #[c0, c1, c2, c3] := by
  obtain ⟨l⟩ := cs
  match l, h with
  | [c0, c1, c2, c3], _ => exact ⟨c0, c1, c2, c3, rfl⟩
set_option maxRecDepth 100000 in
theorem opened {H : Type} {enc : TypeId × Value → H} {W : World} {base : Nat} {v : Value} {d : DataW H} {p : List MemPlace}
    (hok : Value.okWide Tryd.prog W .any base 56 v) (h : DataW.Trod enc Tryd.prog W 0 (fun _ => true) true 56 v d p) : ∃ m u l b, Arg W v m u l b := by
  obtain ⟨cs, rfl, hz⟩ := okWide_struct Tryd.underlying56 hok
  obtain ⟨fuel, hf⟩ := h
  obtain ⟨c0, c1, c2, c3, rfl⟩ := four (hz.trans (by kernel_rfl))
  obtain ⟨y0, y1, y2, y3, n, _, hl, h0, h1, h2, h3⟩ := Go.Joins.trod_struct4 Tryd.underlying56 hf
  have e1 : Tryd.prog.cellsOf 44 = 1 := by kernel_rfl
  have e2 : Tryd.prog.cellsOf 9 = 1 := by kernel_rfl
  simp only [Value.cells] at h0 h1 h2 h3
  rw [e2] at h0 h1 h3
  rw [e1] at h2
  simp only [List.drop_zero, List.drop_succ_cons, List.take_succ_cons, List.take_zero] at h0 h1 h2 h3
  obtain ⟨a0, len0, cap0, l, hcs, hla⟩ := Flds.opened_cells h2
  obtain ⟨t, et, _, ht⟩ := DataW.trod_string Tryd.underlying9 h3
  obtain ⟨x, ex, _, hx⟩ := DataW.trod_string Tryd.underlying9 h0
  obtain ⟨y, ey, _, hy⟩ := DataW.trod_string Tryd.underlying9 h1
  simp only [List.cons.injEq, and_true] at hcs et ex ey
  subst hcs et ex ey
  exact ⟨x, y, l, t, _, rfl, hla, hx, hy, ht⟩
end Req
end Go.Proofs.YtkogcbnbmdeolaaDoor
