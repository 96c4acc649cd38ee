/-
  ReqEq: eqRequest of the laws: requests held against each other.
  ReqLaw: szRequest of the laws: how much a request holds.
  ReqTo: toRequest of the laws: a request taken over, its fields in a row of the call's own; a request that came in, as the law's argument.
  StoreLaw: FnExactStorable, whatever the program's Storable keeps to: it answers as the specification's and leaves its arguments as they were.
-/
import Derived.Test.YtbcjpjhpobmpbaaGreatDoorPah
import Derived.Test.YtbcjpjhpobmpbaaGreatDoorFldEq
import Derived.Test.YtbcjpjhpobmpbaaGreatDoorPak
import Derived.Lib.SmallJoins
import Derived.Test.YtbcjpjhpobmpbaaGreatDoorPaj
import Derived.Test.YtbcjpjhpobmpbaaGreatDoorRegLaw
import Derived.Deep.Cut
namespace Go.Proofs.YtbcjpjhpobmpbaaGreatDoor
open Go.RowKit
set_option linter.unusedVariables false
namespace Req

set_option maxRecDepth 100000 in
set_option maxHeartbeats 2000000 in
theorem eq_any (m1 m2 u1 u2 : ByteArray) (v1 v2 : Value) (l1 l2 : List Flds.Fld) (b1 b2 : ByteArray) (w : World) (h1 : Flds.Is w v1 l1) (h2 : Flds.Is w v2 l2) (hl : l1.length ≤ 1099511627776) :
    Calls Tryz.prog 12 #[val m1 u1 v1 b1, val m2 u2 v2 b2] w fun e w' => e = .returned (.bool (decide (m1 = m2 ∧ u1 = u2 ∧ l1 = l2 ∧ b1 = b2))) ∧ Below w.heap.size w w' := by
  unfold val
  obtain ⟨r, hr⟩ : ∃ r, decide (m1 = m2 ∧ u1 = u2 ∧ l1 = l2 ∧ b1 = b2) = r := ⟨_, rfl⟩
  rw [hr]
  obtain ⟨a1, c1, rfl, _⟩ := Flds.is_form h1
  obtain ⟨a2, c2, rfl, _⟩ := Flds.is_form h2
  have hb0 := ((Below.refl w.heap.size w).alloc (Nat.le_refl _) (.cells #[.string m1, .string u1, .slice a1 l1.length c1, .string b1] 32)).alloc (by simp) (.cells #[.string m2, .string u2, .slice a2 l2.length c2, .string b2] 32)
  have HB0 := Num.hide hb0
  have HE := Num.hide (Flds.eq_any _ _ l1 l2 _ (Recs.is_stay h1 (Nat.le_refl _) hb0) (Recs.is_stay h2 (Nat.le_refl _) hb0) hl)
  clear h1 h2 hb0
  by_cases hm : m1 = m2
  · subst hm
    by_cases hu : u1 = u2
    · subst hu
      by_cases hll : l1 = l2
      · rw [decide_eq_true hll] at HE
        by_cases hbb : b1 = b2
        · obtain rfl : r = true := by rw [← hr]; exact decide_eq_true ⟨rfl, rfl, hll, hbb⟩
          subst hbb
          clear hr hll
          go_enter Tryz.func12, Tryz.ntmps12
          go_wp2_with fail
          refine HE.out.mono ?_
          rintro e w1 ⟨rfl, hb1⟩
          have k1 := (hb1.cell (p := ⟨w.heap.size, 3, none⟩) (by show w.heap.size < _; rw [World.size_alloc, World.size_alloc]; omega)).trans (Resp.box_one w _ _ _ _ 3)
          have k2 := (hb1.cell (p := ⟨w.heap.size + 1, 3, none⟩) (by show w.heap.size + 1 < _; rw [World.size_alloc, World.size_alloc]; omega)).trans (Resp.box_two w _ _ _ _ 3)
          have HB1 := Num.hide (HB0.out.trans (hb1.mono HB0.out.size))
          clear hb1 HB0 HE
          simp only [List.getElem?_toArray, List.getElem?_cons_succ, List.getElem?_cons_zero] at k1 k2
          go_wp2
          go_ret
          exact ⟨rfl, HB1.out⟩
        · obtain rfl : r = false := by rw [← hr]; exact decide_eq_false (fun h => hbb h.2.2.2)
          have db : (b1.toList == b2.toList) = false := Flds.text_ne hbb
          have db2 : (b1.toList != b2.toList) = true := by rw [bne, db]; rfl
          clear hr hll hbb
          go_enter Tryz.func12, Tryz.ntmps12
          go_wp2_with fail
          refine HE.out.mono ?_
          rintro e w1 ⟨rfl, hb1⟩
          have k1 := (hb1.cell (p := ⟨w.heap.size, 3, none⟩) (by show w.heap.size < _; rw [World.size_alloc, World.size_alloc]; omega)).trans (Resp.box_one w _ _ _ _ 3)
          have k2 := (hb1.cell (p := ⟨w.heap.size + 1, 3, none⟩) (by show w.heap.size + 1 < _; rw [World.size_alloc, World.size_alloc]; omega)).trans (Resp.box_two w _ _ _ _ 3)
          have HB1 := Num.hide (HB0.out.trans (hb1.mono HB0.out.size))
          clear hb1 HB0 HE
          simp only [List.getElem?_toArray, List.getElem?_cons_succ, List.getElem?_cons_zero] at k1 k2
          go_wp2
          go_ret
          exact ⟨rfl, HB1.out⟩
      · rw [decide_eq_false hll] at HE
        obtain rfl : r = false := by rw [← hr]; exact decide_eq_false (fun h => hll h.2.2.1)
        clear hr hll
        go_enter Tryz.func12, Tryz.ntmps12
        go_wp2_with fail
        refine HE.out.mono ?_
        rintro e w1 ⟨rfl, hb1⟩
        have HB1 := Num.hide (HB0.out.trans (hb1.mono HB0.out.size))
        clear hb1 HB0 HE
        go_wp2
        go_ret
        exact ⟨rfl, HB1.out⟩
    · obtain rfl : r = false := by rw [← hr]; exact decide_eq_false (fun h => hu h.2.1)
      have db : (u1.toList == u2.toList) = false := Flds.text_ne hu
      have db2 : (u1.toList != u2.toList) = true := by rw [bne, db]; rfl
      clear hr hu HE
      go_enter Tryz.func12, Tryz.ntmps12
      go_wp2
      go_ret
      exact ⟨rfl, HB0.out⟩
  · obtain rfl : r = false := by rw [← hr]; exact decide_eq_false (fun h => hm h.1)
    have db : (m1.toList == m2.toList) = false := Flds.text_ne hm
    have db2 : (m1.toList != m2.toList) = true := by rw [bne, db]; rfl
    clear hr hm HE
    go_enter Tryz.func12, Tryz.ntmps12
    go_wp2
    go_ret
    exact ⟨rfl, HB0.out⟩
end Req
end Go.Proofs.YtbcjpjhpobmpbaaGreatDoor
namespace Go.Proofs.YtbcjpjhpobmpbaaGreatDoor
open Go.RowKit
set_option linter.unusedVariables false
namespace Req

set_option maxRecDepth 100000 in
set_option maxHeartbeats 2000000 in
theorem sz_any (m u : ByteArray) (v : Value) (l : List Flds.Fld) (b : ByteArray) (n : Int) (w : World) (h : Flds.Arg w v l) (hm : m.size ≤ maxLen) (hu : u.size ≤ maxLen) (hb : b.size ≤ maxLen) (h0 : 0 ≤ n) (h1 : n ≤ 1048576) :
    Calls Tryz.prog 6 #[val m u v b, .int .i64 n] w fun e w' => e = .returned (.int .i64 (Flds.left n (bulk m u l b))) ∧ Below w.heap.size w w' := by
  unfold val bulk
  unfold maxLen at hm hu hb
  obtain ⟨r, hr⟩ : ∃ r, Flds.left n (m.size + u.size + Flds.bulk l + b.size) = r := ⟨_, rfl⟩
  rw [hr]
  obtain ⟨a1, c1, rfl, _⟩ := Flds.is_form h.1
  have hb0 := (Below.refl w.heap.size w).alloc (Nat.le_refl _) (.cells #[.string m, .string u, .slice a1 l.length c1, .string b] 24)
  have HB0 := Num.hide hb0
  by_cases hmm : n - (m.size : Int) < 0
  · obtain rfl : r = -1 := by rw [← hr]; exact Flds.left_no (by omega)
    clear hr h hb0
    go_enter Tryz.func6, Tryz.ntmps6
    go_wp2
    go_ret
    exact ⟨rfl, HB0.out⟩
  · by_cases huu : n - (m.size : Int) - (u.size : Int) < 0
    · obtain rfl : r = -1 := by rw [← hr]; exact Flds.left_no (by omega)
      clear hr h hb0
      go_enter Tryz.func6, Tryz.ntmps6
      go_wp2
      go_ret
      exact ⟨rfl, HB0.out⟩
    · have HZ := Num.hide (Flds.szFieldS_any _ l (n - (m.size : Int) - (u.size : Int)) _ (Recs.is_stay h.1 (Nat.le_refl _) hb0) h.2 (by omega) (by omega))
      clear h hb0
      have hq0 : (0 : Int) ≤ (Flds.bulk l : Int) := by omega
      by_cases hl : (Flds.bulk l : Int) ≤ n - (m.size : Int) - (u.size : Int)
      · rw [Flds.left_yes hl] at HZ
        have dl : decide (n - (m.size : Int) - (u.size : Int) - (Flds.bulk l : Int) < 0) = false := by rw [decide_eq_false_iff_not]; omega
        by_cases hbb : n - (m.size : Int) - (u.size : Int) - (Flds.bulk l : Int) - (b.size : Int) < 0
        · obtain rfl : r = -1 := by rw [← hr]; exact Flds.left_no (by omega)
          clear hr
          generalize (Flds.bulk l : Int) = q at *
          go_enter Tryz.func6, Tryz.ntmps6
          go_wp2_with fail
          refine HZ.out.mono ?_
          rintro e w1 ⟨rfl, hb1⟩
          have k1 := (hb1.cell (p := ⟨w.heap.size, 3, none⟩) (by show w.heap.size < _; rw [World.size_alloc]; omega)).trans (cell_of_row _ _ _ _ _ _ (heap_alloc_new w _))
          simp only [List.getElem?_toArray, List.getElem?_cons_succ, List.getElem?_cons_zero] at k1
          have HB1 := Num.hide (HB0.out.trans (hb1.mono HB0.out.size))
          clear hb1 HB0 HZ
          go_wp2
          go_ret
          exact ⟨rfl, HB1.out⟩
        · have db : decide (n - (m.size : Int) - (u.size : Int) - (Flds.bulk l : Int) - (b.size : Int) < 0) = false := by rw [decide_eq_false_iff_not]; exact hbb
          obtain rfl : r = n - (m.size : Int) - (u.size : Int) - (Flds.bulk l : Int) - (b.size : Int) := by rw [← hr, Flds.left_yes (by omega)]; omega
          clear hr
          generalize (Flds.bulk l : Int) = q at *
          go_enter Tryz.func6, Tryz.ntmps6
          go_wp2_with fail
          refine HZ.out.mono ?_
          rintro e w1 ⟨rfl, hb1⟩
          have k1 := (hb1.cell (p := ⟨w.heap.size, 3, none⟩) (by show w.heap.size < _; rw [World.size_alloc]; omega)).trans (cell_of_row _ _ _ _ _ _ (heap_alloc_new w _))
          simp only [List.getElem?_toArray, List.getElem?_cons_succ, List.getElem?_cons_zero] at k1
          have HB1 := Num.hide (HB0.out.trans (hb1.mono HB0.out.size))
          clear hb1 HB0 HZ
          go_wp2
          go_ret
          exact ⟨rfl, HB1.out⟩
      · rw [Flds.left_no hl] at HZ
        obtain rfl : r = -1 := by rw [← hr]; exact Flds.left_no (by omega)
        clear hr
        go_enter Tryz.func6, Tryz.ntmps6
        go_wp2_with fail
        refine HZ.out.mono ?_
        rintro e w1 ⟨rfl, hb1⟩
        have HB1 := Num.hide (HB0.out.trans (hb1.mono HB0.out.size))
        clear hb1 HB0 HZ
        go_wp2
        go_ret
        exact ⟨rfl, HB1.out⟩
end Req
end Go.Proofs.YtbcjpjhpobmpbaaGreatDoor
namespace Go.Proofs.YtbcjpjhpobmpbaaGreatDoor
open Go.ChangeShapes Go.WideShapes Go.ChangeAt Go.RowKit Go.Deep
set_option linter.unusedVariables false
namespace Req

set_option maxRecDepth 100000 in
set_option maxHeartbeats 2000000 in
theorem to_any (m u : ByteArray) (v : Value) (l : List Flds.Fld) (b : ByteArray) (w : World) (h : Flds.Is w v l) (hl : l.length ≤ 1048576) :
    Calls Tryz.prog 9 #[val m u v b] w fun e w' => ∃ v', e = .returned (val m u v' b) ∧ Flds.Own w.heap.size w' v' l ∧ Below w.heap.size w w' := by
  unfold val
  obtain ⟨a1, c1, rfl, _⟩ := Flds.is_form h
  have HI := Num.hide h
  clear h
  go_enter Tryz.func9, Tryz.ntmps9
  have HT := Num.hide (fun W h => Flds.toFieldS_any (.slice a1 l.length c1) l W h hl)
  have HB0 := Num.hide ((((Below.refl w.heap.size w).alloc (Nat.le_refl _) (.cells #[.string m, .string u, .slice a1 l.length c1, .string b] 24)).alloc (by simp) (.cells #[.string ⟨#[]⟩, .string ⟨#[]⟩, .slice none 0 0, .string ⟨#[]⟩] 32)).alloc (by simp; omega) (.cells #[.string m, .string u, .slice none 0 0, .string ⟨#[]⟩] 32))
  go_wp2_with fail
  refine (HT.out _ (Recs.is_stay HI.out (Nat.le_refl _) HB0.out)).mono ?_
  rintro e W1 ⟨v', rfl, ho, hb⟩
  obtain ⟨r0, r1, r2⟩ := Recs.three_rows w W1 _ _ _ hb
  obtain ⟨a2, c2, rfl⟩ := Recs.own_len ho
  have HO := Num.hide ho
  have HB1 := Num.hide (HB0.out.trans (hb.mono HB0.out.size))
  have k0 := Recs.box_cell r0 3
  have o0 := Recs.box_cell r2 0
  have o1 := Recs.box_cell r2 1
  have o2 := Recs.box_cell r2 2
  have o3 := Recs.box_cell r2 3
  have t0 := Recs.box_cell r1 0
  have t1 := Recs.box_cell r1 1
  have t2 := Recs.box_cell r1 2
  have t3 := Recs.box_cell r1 3
  have z0 := Recs.box_thaw r2 0
  have z1 := Recs.box_thaw r2 1
  have z2 := Recs.box_thaw r2 2
  have z3 := Recs.box_thaw r2 3
  have y0 := Recs.box_thaw r1 0
  have y1 := Recs.box_thaw r1 1
  have y2 := Recs.box_thaw r1 2
  have y3 := Recs.box_thaw r1 3
  simp only [List.getElem?_toArray, List.getElem?_cons_succ, List.getElem?_cons_zero] at k0 o0 o1 o2 o3 t0 t1 t2 t3
  clear ho hb r0 r1 r2 HT HI
  have hS : (((w.alloc (.cells #[.string m, .string u, .slice a1 l.length c1, .string b] 24)).alloc (.cells #[.string ⟨#[]⟩, .string ⟨#[]⟩, .slice none 0 0, .string ⟨#[]⟩] 32)).alloc (.cells #[.string m, .string u, .slice none 0 0, .string ⟨#[]⟩] 32)).heap.size = w.heap.size + 1 + 1 + 1 := by rw [World.size_alloc, World.size_alloc, World.size_alloc]
  have HP := Num.hide ((((((((Recs.Past.refl w.heap.size (w.heap.size + 1 + 1 + 1) W1).set (w.heap.size + 1 + 1) 2 (.slice a2 l.length c2) (by omega) (by omega)).set (w.heap.size + 1 + 1) 3 (.string b) (by omega) (by omega)).set (w.heap.size + 1) 0 (.string m) (by omega) (by omega)).set (w.heap.size + 1) 1 (.string u) (by omega) (by omega)).set (w.heap.size + 1) 2 (.slice a2 l.length c2) (by omega) (by omega)).set (w.heap.size + 1) 3 (.string b) (by omega) (by omega)))
  have HO2 : Hid (Flds.Own (w.heap.size + 1 + 1 + 1) W1 (.slice a2 l.length c2) l) := by rw [← hS]; exact HO
  clear hS HO HB0
  go_wp2
  exact bodyPost_ret (v := .agg #[.string m, .string u, .slice a2 l.length c2, .string b]) (by simp [results, Tryz.results9, go_sem, *]) rfl ⟨_, rfl, Recs.own_mono (Recs.own_past HO2.out HP.out) (by omega), HB1.out.trans HP.out.below⟩
/-- what the walk is told of a request that came in -/
def Arg (w : World) (v : Value) (m u : ByteArray) (l : List Flds.Fld) (b : ByteArray) : Prop := ∃ x, v = val m u x b ∧ Flds.Arg w x l ∧ m.size ≤ maxLen ∧ u.size ≤ maxLen ∧ b.size ≤ maxLen
theorem four {α : Type} {cs : Array α} (h : cs.size = 4) : ∃ c0 c1 c2 c3, cs = #[c0, c1, c2, c3] := by
  obtain ⟨l⟩ := cs
  match l, h with
  | [c0, c1, c2, c3], _ => exact ⟨c0, c1, c2, c3, rfl⟩
set_option maxRecDepth 100000 in
theorem opened {H : Type} {enc : TypeId × Value → H} {W : World} {base : Nat} {v : Value} {d : DataW H} {p : List MemPlace}
    (hok : Value.okWide Tryz.prog W .any base 24 v) (h : DataW.Trod enc Tryz.prog W 0 (fun _ => true) true 24 v d p) : ∃ m u l b, Arg W v m u l b := by
  obtain ⟨cs, rfl, hz⟩ := okWide_struct Tryz.underlying24 hok
  obtain ⟨fuel, hf⟩ := h
  obtain ⟨c0, c1, c2, c3, rfl⟩ := four (hz.trans (by kernel_rfl))
  obtain ⟨y0, y1, y2, y3, n, _, hl, h0, h1, h2, h3⟩ := Go.Joins.trod_struct4 Tryz.underlying24 hf
  have e1 : Tryz.prog.cellsOf 22 = 1 := by kernel_rfl
  have e2 : Tryz.prog.cellsOf 9 = 1 := by kernel_rfl
  simp only [Value.cells] at h0 h1 h2 h3
  rw [e2] at h0 h1 h3
  rw [e1] at h2
  simp only [List.drop_zero, List.drop_succ_cons, List.take_succ_cons, List.take_zero] at h0 h1 h2 h3
  obtain ⟨a0, len0, cap0, l, hcs, hla⟩ := Flds.opened_cells h2
  obtain ⟨t, et, _, ht⟩ := DataW.trod_string Tryz.underlying9 h3
  obtain ⟨x, ex, _, hx⟩ := DataW.trod_string Tryz.underlying9 h0
  obtain ⟨y, ey, _, hy⟩ := DataW.trod_string Tryz.underlying9 h1
  simp only [List.cons.injEq, and_true] at hcs et ex ey
  subst hcs et ex ey
  exact ⟨x, y, l, t, _, rfl, hla, hx, hy, ht⟩
end Req
end Go.Proofs.YtbcjpjhpobmpbaaGreatDoor
namespace Go.Proofs.YtbcjpjhpobmpbaaGreatDoor
open Go.RowKit
set_option linter.unusedVariables false
set_option linter.unusedSimpArgs false
namespace Pol

/-- the boxes that the law loads, and what they lead to -/
abbrev storable2 (w : World) (ga : Nat) (gb : Nat) (m1 u1 : ByteArray) (s2 : Int) (va : Value) (vb : Value) (l1 l2 : List Flds.Fld) (b1 b2 : ByteArray) (W : World) : Prop :=
  W.cell? ⟨ga, 0, none⟩ = some (.string m1) ∧ W.cell? ⟨ga, 1, none⟩ = some (.string u1) ∧ W.cell? ⟨ga, 2, none⟩ = some va ∧ W.cell? ⟨ga, 3, none⟩ = some (.string b1) ∧ W.cell? ⟨gb, 0, none⟩ = some (.int .i64 s2) ∧ W.cell? ⟨gb, 1, none⟩ = some vb ∧ W.cell? ⟨gb, 2, none⟩ = some (.string b2) ∧ Flds.Arg W va l1 ∧ Flds.Arg W vb l2 ∧ Below w.heap.size w W
theorem storable2.step {w : World} {ga : Nat} {gb : Nat} {m1 u1 : ByteArray} {s2 : Int} {va : Value} {vb : Value} {l1 l2 : List Flds.Fld} {b1 b2 : ByteArray} {W W' : World} (h : storable2 w ga gb m1 u1 s2 va vb l1 l2 b1 b2 W) (hb : Below W.heap.size W W') : storable2 w ga gb m1 u1 s2 va vb l1 l2 b1 b2 W' := by
  obtain ⟨h0, h1, h2, h3, h4, h5, h6, h7, h8, h9⟩ := h
  have q0 : ga < W.heap.size := Recs.lt_of_cell h0
  have q1 : gb < W.heap.size := Recs.lt_of_cell h4
  exact ⟨(hb.cell (p := ⟨ga, 0, none⟩) q0).trans h0, (hb.cell (p := ⟨ga, 1, none⟩) q0).trans h1, (hb.cell (p := ⟨ga, 2, none⟩) q0).trans h2, (hb.cell (p := ⟨ga, 3, none⟩) q0).trans h3, (hb.cell (p := ⟨gb, 0, none⟩) q1).trans h4, (hb.cell (p := ⟨gb, 1, none⟩) q1).trans h5, (hb.cell (p := ⟨gb, 2, none⟩) q1).trans h6, Flds.arg_stay h7 (Nat.le_refl _) hb, Flds.arg_stay h8 (Nat.le_refl _) hb, h9.trans (hb.mono h9.size)⟩
abbrev storable4 (w : World) (ga : Nat) (gb : Nat) (gx : Nat) (gy : Nat) (m1 u1 : ByteArray) (s2 : Int) (va : Value) (vb : Value) (vx : Value) (vy : Value) (l1 l2 : List Flds.Fld) (b1 b2 : ByteArray) (W : World) : Prop :=
  W.cell? ⟨ga, 0, none⟩ = some (.string m1) ∧ W.cell? ⟨ga, 1, none⟩ = some (.string u1) ∧ W.cell? ⟨ga, 2, none⟩ = some va ∧ W.cell? ⟨ga, 3, none⟩ = some (.string b1) ∧ W.cell? ⟨gb, 0, none⟩ = some (.int .i64 s2) ∧ W.cell? ⟨gb, 1, none⟩ = some vb ∧ W.cell? ⟨gb, 2, none⟩ = some (.string b2) ∧ W.cell? ⟨gx, 0, none⟩ = some (.string m1) ∧ W.cell? ⟨gx, 1, none⟩ = some (.string u1) ∧ W.cell? ⟨gx, 2, none⟩ = some vx ∧ W.cell? ⟨gx, 3, none⟩ = some (.string b1) ∧ W.cell? ⟨gy, 0, none⟩ = some (.int .i64 s2) ∧ W.cell? ⟨gy, 1, none⟩ = some vy ∧ W.cell? ⟨gy, 2, none⟩ = some (.string b2) ∧ Flds.Arg W va l1 ∧ Flds.Arg W vb l2 ∧ Flds.Is W vx l1 ∧ Flds.Is W vy l2 ∧ Below w.heap.size w W
theorem storable4.step {w : World} {ga : Nat} {gb : Nat} {gx : Nat} {gy : Nat} {m1 u1 : ByteArray} {s2 : Int} {va : Value} {vb : Value} {vx : Value} {vy : Value} {l1 l2 : List Flds.Fld} {b1 b2 : ByteArray} {W W' : World} (h : storable4 w ga gb gx gy m1 u1 s2 va vb vx vy l1 l2 b1 b2 W) (hb : Below W.heap.size W W') : storable4 w ga gb gx gy m1 u1 s2 va vb vx vy l1 l2 b1 b2 W' := by
  obtain ⟨h0, h1, h2, h3, h4, h5, h6, h7, h8, h9, h10, h11, h12, h13, h14, h15, h16, h17, h18⟩ := h
  have q0 : ga < W.heap.size := Recs.lt_of_cell h0
  have q1 : gb < W.heap.size := Recs.lt_of_cell h4
  have q2 : gx < W.heap.size := Recs.lt_of_cell h7
  have q3 : gy < W.heap.size := Recs.lt_of_cell h11
  exact ⟨(hb.cell (p := ⟨ga, 0, none⟩) q0).trans h0, (hb.cell (p := ⟨ga, 1, none⟩) q0).trans h1, (hb.cell (p := ⟨ga, 2, none⟩) q0).trans h2, (hb.cell (p := ⟨ga, 3, none⟩) q0).trans h3, (hb.cell (p := ⟨gb, 0, none⟩) q1).trans h4, (hb.cell (p := ⟨gb, 1, none⟩) q1).trans h5, (hb.cell (p := ⟨gb, 2, none⟩) q1).trans h6, (hb.cell (p := ⟨gx, 0, none⟩) q2).trans h7, (hb.cell (p := ⟨gx, 1, none⟩) q2).trans h8, (hb.cell (p := ⟨gx, 2, none⟩) q2).trans h9, (hb.cell (p := ⟨gx, 3, none⟩) q2).trans h10, (hb.cell (p := ⟨gy, 0, none⟩) q3).trans h11, (hb.cell (p := ⟨gy, 1, none⟩) q3).trans h12, (hb.cell (p := ⟨gy, 2, none⟩) q3).trans h13, Flds.arg_stay h14 (Nat.le_refl _) hb, Flds.arg_stay h15 (Nat.le_refl _) hb, Recs.is_below h16 hb, Recs.is_below h17 hb, h18.trans (hb.mono h18.size)⟩
set_option maxRecDepth 100000 in
set_option maxHeartbeats 8000000 in
theorem storable_law (G : World → Prop) (hG : ∀ W W', G W → Below W.heap.size W W' → G W')
    (hi : ∀ (m1 u1 : ByteArray) (s2 : Int) (v1 v2 : Value) (l1 l2 : List Flds.Fld) (b1 b2 : ByteArray) W, Flds.Is W v1 l1 → Flds.Is W v2 l2 → m1.size + u1.size + Flds.bulk l1 + b1.size ≤ 1048576 → Flds.bulk l2 + b2.size ≤ 1048576 → G W → Calls Tryz.prog 11 #[Req.val m1 u1 v1 b1, Resp.val s2 v2 b2] W fun e w' => e = .returned (.bool (storable m1 l1 s2 l2 b2)) ∧ Below W.heap.size W w')
    (m1 u1 : ByteArray) (s2 : Int) (a1 a2 : Value) (l1 l2 : List Flds.Fld) (b1 b2 : ByteArray) (w : World) (ha1 : Flds.Arg w a1 l1) (ha2 : Flds.Arg w a2 l2) (hm1 : m1.size ≤ maxLen) (hu1 : u1.size ≤ maxLen) (hb1 : b1.size ≤ maxLen) (hb2 : b2.size ≤ maxLen) (hg : G w) :
    Calls Tryz.prog 3 #[Req.val m1 u1 a1 b1, Resp.val s2 a2 b2] w fun e w' => e = .returned (.bool true) ∧ Below w.heap.size w w' := by
  have HZ1 := Num.hide (fun W h => Req.sz_any m1 u1 a1 l1 b1 1048576 W h hm1 hu1 hb1 (by omega) (by omega))
  have H1 := Num.hide ha1
  have H2 := Num.hide ha2
  obtain ⟨aa, ca, rfl, _⟩ := Flds.is_form ha1.1
  obtain ⟨ab, cb, rfl, _⟩ := Flds.is_form ha2.1
  have hb0 : Below w.heap.size w ((w.alloc (.cells #[.string m1, .string u1, (.slice aa l1.length ca), .string b1] 24)).alloc (.cells #[.int .i64 s2, (.slice ab l2.length cb), .string b2] 26)) := ((Below.refl _ w).alloc (Nat.le_refl _) _).alloc (by simp) _
  have e0 : (w.alloc (.cells #[.string m1, .string u1, (.slice aa l1.length ca), .string b1] 24)).heap.size = w.heap.size + 1 := by rw [World.size_alloc]
  have x0 : ((w.alloc (.cells #[.string m1, .string u1, (.slice aa l1.length ca), .string b1] 24)).alloc (.cells #[.int .i64 s2, (.slice ab l2.length cb), .string b2] 26)).heap[w.heap.size]? = some (.cells #[.string m1, .string u1, (.slice aa l1.length ca), .string b1] 24) := (heap_alloc_old _ _ (by omega)).trans (heap_alloc_new w _)
  have y0 : ((w.alloc (.cells #[.string m1, .string u1, (.slice aa l1.length ca), .string b1] 24)).alloc (.cells #[.int .i64 s2, (.slice ab l2.length cb), .string b2] 26)).heap[w.heap.size + 1]? = some (.cells #[.int .i64 s2, (.slice ab l2.length cb), .string b2] 26) := by
    have := heap_alloc_new (w.alloc (.cells #[.string m1, .string u1, (.slice aa l1.length ca), .string b1] 24)) (.cells #[.int .i64 s2, (.slice ab l2.length cb), .string b2] 26)
    rw [e0] at this
    exact this
  have K0 : Hid (storable2 w w.heap.size (w.heap.size + 1) m1 u1 s2 (.slice aa l1.length ca) (.slice ab l2.length cb) l1 l2 b1 b2 ((w.alloc (.cells #[.string m1, .string u1, (.slice aa l1.length ca), .string b1] 24)).alloc (.cells #[.int .i64 s2, (.slice ab l2.length cb), .string b2] 26))) := ⟨Recs.box_cell x0 0, Recs.box_cell x0 1, Recs.box_cell x0 2, Recs.box_cell x0 3, Recs.box_cell y0 0, Recs.box_cell y0 1, Recs.box_cell y0 2, Flds.arg_stay H1.out (Nat.le_refl _) hb0, Flds.arg_stay H2.out (Nat.le_refl _) hb0, hb0⟩
  clear ha1 ha2 hb0 x0 y0 e0
  unfold Req.val at HZ1
  unfold Req.val Resp.val
  by_cases hbk1 : ¬ (Req.bulk m1 u1 l1 b1 : Int) ≤ 1048576
  · rw [Flds.left_no hbk1] at HZ1
    clear hi hG hg
    go_enter Tryz.func3, Tryz.ntmps3
    go_wp2_with fail
    refine (HZ1.out _ K0.out.2.2.2.2.2.2.2.1).mono ?_
    rintro e W1 ⟨rfl, hb⟩
    have K1 := Num.hide (storable2.step K0.out hb)
    clear hb K0
    go_wp2
    go_ret
    exact ⟨rfl, K1.out.2.2.2.2.2.2.2.2.2⟩
  have hbb1 := Decidable.not_not.1 hbk1
  rw [Flds.left_yes hbb1] at HZ1
  have HZ2 := Num.hide (fun W h => Resp.sz_any s2 (.slice ab l2.length cb) l2 b2 (1048576 - (Req.bulk m1 u1 l1 b1 : Int)) W h hb2 (by omega) (by omega))
  unfold Resp.val at HZ2
  have dz1 : decide ((1048576 : Int) - (Req.bulk m1 u1 l1 b1 : Int) < 0) = false := by simp; omega
  by_cases hbk2 : ¬ (Resp.bulk l2 b2 : Int) ≤ 1048576 - (Req.bulk m1 u1 l1 b1 : Int)
  · rw [Flds.left_no hbk2] at HZ2
    clear hi hG hg
    go_enter Tryz.func3, Tryz.ntmps3
    go_wp2_with fail
    refine (HZ1.out _ K0.out.2.2.2.2.2.2.2.1).mono ?_
    rintro e W1 ⟨rfl, hb⟩
    have K1 := Num.hide (storable2.step K0.out hb)
    clear hb K0
    obtain ⟨k0, k1, k2, k3, k4, k5, k6, _⟩ := K1.out
    go_wp2_with fail
    refine (HZ2.out _ K1.out.2.2.2.2.2.2.2.2.1).mono ?_
    rintro e W2 ⟨rfl, hb⟩
    have K2 := Num.hide (storable2.step K1.out hb)
    clear hb K1
    go_wp2
    go_ret
    exact ⟨rfl, K2.out.2.2.2.2.2.2.2.2.2⟩
  · have hbb2 := Decidable.not_not.1 hbk2
    rw [Flds.left_yes hbb2] at HZ2
    have dz2 : decide ((1048576 : Int) - (Req.bulk m1 u1 l1 b1 : Int) - (Resp.bulk l2 b2 : Int) < 0) = false := by simp; omega
    have hc1 : m1.size + u1.size + Flds.bulk l1 + b1.size ≤ 1048576 := by unfold Req.bulk at hbb1; omega
    have hc2 : Flds.bulk l2 + b2.size ≤ 1048576 := by unfold Req.bulk at hbb1 hbb2; unfold Resp.bulk at hbb2; omega
    have hlen1 : l1.length ≤ 1048576 := by have := Flds.len_le l1; omega
    have hlen2 : l2.length ≤ 1048576 := by have := Flds.len_le l2; omega
    have HTa := Num.hide (fun W h => Req.to_any m1 u1 (.slice aa l1.length ca) l1 b1 W h hlen1)
    have HTb := Num.hide (fun W h => Resp.to_any s2 (.slice ab l2.length cb) l2 b2 W h hlen2)
    have HS := Num.hide (fun v1 v2 W h1 h2 => storable_spec m1 u1 s2 v1 v2 l1 l2 b1 b2 W h1 h2 (by omega) (by omega))
    have HI := Num.hide (fun v1 v2 W h1 h2 (hb : Below w.heap.size w W) => hi m1 u1 s2 v1 v2 l1 l2 b1 b2 W h1 h2 hc1 hc2 (hG w W hg hb))
    have HE1 := Num.hide (fun v1 v2 W h1 h2 => Req.eq_any m1 m1 u1 u1 v1 v2 l1 l1 b1 b1 W h1 h2 (by omega))
    have HE2 := Num.hide (fun v1 v2 W h1 h2 => Resp.eq_any s2 s2 v1 v2 l2 l2 b2 b2 W h1 h2 (by omega))
    rw [decide_eq_true ⟨rfl, rfl, rfl, rfl⟩] at HE1
    rw [decide_eq_true ⟨rfl, rfl, rfl⟩] at HE2
    unfold Req.val at HTa HE1
    unfold Resp.val at HTb HE2
    unfold Req.val Resp.val at HS HI
    generalize storable m1 l1 s2 l2 b2 = r at HS HI
    generalize Req.bulk m1 u1 l1 b1 = n1 at HZ1 HZ2 dz1 dz2 hbb1 hbb2
    generalize Resp.bulk l2 b2 = n2 at HZ2 dz2 hbb2
    clear hi hG hg hbk1 hbk2
    go_enter Tryz.func3, Tryz.ntmps3
    go_wp2_with fail
    refine (HZ1.out _ K0.out.2.2.2.2.2.2.2.1).mono ?_
    rintro e W1 ⟨rfl, hb⟩
    have K1 := Num.hide (storable2.step K0.out hb)
    clear hb K0 HZ1
    obtain ⟨k0, k1, k2, k3, k4, k5, k6, _⟩ := K1.out
    go_wp2_with fail
    refine (HZ2.out _ K1.out.2.2.2.2.2.2.2.2.1).mono ?_
    rintro e W2 ⟨rfl, hb⟩
    have K2 := Num.hide (storable2.step K1.out hb)
    clear hb K1 HZ2 k0 k1 k2 k3 k4 k5 k6
    go_wp2_with fail
    refine wp_region_held_drew (S := storable2 w w.heap.size (w.heap.size + 1) m1 u1 s2 (.slice aa l1.length ca) (.slice ab l2.length cb) l1 l2 b1 b2) (by kernel_rfl) (storable2.step K2.out (Below.refl _ _).drew) (fun hHeld => ?_)
    refine Reg.take (i := 0) (d := 20) (v := ?_) rfl rfl (by kernel_rfl) (by kernel_rfl) (by kernel_rfl) (fun _ _ _ h => h) (by rfl) ?_ hHeld ?_
    rotate_left
    · rintro W ⟨k0, k1, k2, k3, k4, k5, k6, k7, k8, k9⟩
      first | (go_simp; done) | (go_simp; with_reducible rfl)
    simp only [Act.put, List.setIfInBounds_toArray, List.set_cons_zero, List.set_cons_succ]
    refine Reg.take (i := 2) (d := 22) (v := ?_) rfl rfl (by kernel_rfl) (by kernel_rfl) (by kernel_rfl) (fun _ _ _ h => h) (by rfl) ?_ hHeld ?_
    rotate_left
    · rintro W ⟨k0, k1, k2, k3, k4, k5, k6, k7, k8, k9⟩
      first | (go_simp; done) | (go_simp; with_reducible rfl)
    simp only [Act.put, List.setIfInBounds_toArray, List.set_cons_zero, List.set_cons_succ]
    refine Reg.call (i := 1) rfl (by kernel_rfl) (by rfl) (fun K hK => ?_)
    go_wp2_with (first | (go_at_call 9; refine (HTa.out _ hHeld.2.2.2.2.2.2.2.1.1).mono ?_; rintro e Wa ⟨va1, rfl, ho, hb⟩))
    obtain ⟨ava1, cva1, hvva1⟩ := Recs.own_len ho
    subst hvva1
    have Iva1 := Num.hide (Recs.own_is Flds.cells_len ho)
    have HBva1 := Num.hide hb
    clear ho hb
    refine hK.out _ _ ?_ (fun hHeld2 => ?_)
    · exact storable2.step hHeld HBva1.out
    clear hK K
    replace hHeld := hHeld2
    clear hHeld2
    refine Reg.call (i := 3) rfl (by kernel_rfl) (by rfl) (fun K hK => ?_)
    go_wp2_with (first | (go_at_call 10; refine (HTb.out _ hHeld.2.2.2.2.2.2.2.2.1.1).mono ?_; rintro e Wb ⟨vb1, rfl, ho, hb⟩))
    obtain ⟨avb1, cvb1, hvvb1⟩ := Recs.own_len ho
    subst hvvb1
    have Ivb1 := Num.hide (Recs.own_is Flds.cells_len ho)
    have HBvb1 := Num.hide hb
    clear ho hb
    have Iva2 := Num.hide (Recs.is_below Iva1.out HBvb1.out)
    refine hK.out _ _ ?_ (fun hHeld2 => ?_)
    · exact storable2.step hHeld HBvb1.out
    clear hK K
    replace hHeld := hHeld2
    clear hHeld2
    refine Reg.call (i := 4) rfl (by kernel_rfl) (by rfl) (fun K hK => ?_)
    go_wp2_with (first | (go_at_call 8; refine (HS.out _ _ _ Iva2.out Ivb1.out).mono ?_; rintro e Wc ⟨rfl, hb⟩))
    have HBc := Num.hide hb
    clear hb
    refine hK.out _ _ ?_ (fun hHeld2 => ?_)
    · exact storable2.step hHeld HBc.out
    clear hK K
    replace hHeld := hHeld2
    clear hHeld2
    refine Reg.take (i := 5) (d := 6) (v := ?_) rfl rfl (by kernel_rfl) (by kernel_rfl) (by kernel_rfl) (fun _ _ _ h => h) (by rfl) ?_ hHeld ?_
    rotate_left
    · rintro W ⟨k0, k1, k2, k3, k4, k5, k6, k7, k8, k9⟩
      first | (go_simp; done) | (go_simp; with_reducible rfl)
    simp only [Act.put, List.setIfInBounds_toArray, List.set_cons_zero, List.set_cons_succ]
    refine wpAnyH_done (by kernel_rfl) ?_ _
    have K3 := Num.hide hHeld
    clear hHeld K2 HS Iva1 Iva2 Ivb1 HBva1 HBvb1 HBc
    obtain ⟨k0, k1, k2, k3, k4, k5, k6, _⟩ := K3.out
    go_wp2_with fail
    refine (HTa.out _ K3.out.2.2.2.2.2.2.2.1.1).mono ?_
    rintro e W4 ⟨v4, rfl, ho, hb⟩
    obtain ⟨ax, cx, hv4⟩ := Recs.own_len ho
    subst hv4
    have hal := (Below.refl W4.heap.size W4).alloc (Nat.le_refl _) (.cells #[.string m1, .string u1, (.slice ax l1.length cx), .string b1] 32)
    have K4 := Num.hide (storable2.step (storable2.step K3.out hb) hal)
    have Ix4 := Num.hide (Recs.is_below (Recs.own_is Flds.cells_len ho) hal)
    have X4 := Num.hide (heap_alloc_new W4 (.cells #[.string m1, .string u1, (.slice ax l1.length cx), .string b1] 32))
    clear ho hb hal K3 k0 k1 k2 k3 k4 k5 k6
    go_upto_region 10 with fail
    generalize W4.alloc (.cells #[.string m1, .string u1, (.slice ax l1.length cx), .string b1] 32) = V4 at K4 Ix4 X4 ⊢
    generalize W4.heap.size = g3 at X4 ⊢
    obtain ⟨k0, k1, k2, k3, k4, k5, k6, _⟩ := K4.out
    go_wp2_with fail
    refine (HTb.out _ K4.out.2.2.2.2.2.2.2.2.1.1).mono ?_
    rintro e W5 ⟨v5, rfl, ho, hb⟩
    obtain ⟨ay, cy, hv5⟩ := Recs.own_len ho
    subst hv5
    have hal := (Below.refl W5.heap.size W5).alloc (Nat.le_refl _) (.cells #[.int .i64 s2, (.slice ay l2.length cy), .string b2] 35)
    have K5 := Num.hide (storable2.step (storable2.step K4.out hb) hal)
    have Ix5 := Num.hide (Recs.is_below (Recs.is_below Ix4.out hb) hal)
    have Iy5 := Num.hide (Recs.is_below (Recs.own_is Flds.cells_len ho) hal)
    have hlt := (Array.getElem?_eq_some_iff.1 X4.out).1
    have X5 := Num.hide ((hal.block g3 (Nat.lt_of_lt_of_le hlt hb.size)).trans ((hb.block g3 hlt).trans X4.out))
    have Y5 := Num.hide (heap_alloc_new W5 (.cells #[.int .i64 s2, (.slice ay l2.length cy), .string b2] 35))
    clear ho hb hal hlt K4 Ix4 X4 k0 k1 k2 k3 k4 k5 k6
    go_upto_region 11 with fail
    generalize W5.alloc (.cells #[.int .i64 s2, (.slice ay l2.length cy), .string b2] 35) = V5 at K5 Ix5 Iy5 X5 Y5 ⊢
    generalize W5.heap.size = g4 at Y5 ⊢
    have K6 : Hid (storable4 w w.heap.size (w.heap.size + 1) g3 g4 m1 u1 s2 (.slice aa l1.length ca) (.slice ab l2.length cb) (.slice ax l1.length cx) (.slice ay l2.length cy) l1 l2 b1 b2 V5) := by
      obtain ⟨k0, k1, k2, k3, k4, k5, k6, k7, k8, k9⟩ := K5.out
      exact ⟨k0, k1, k2, k3, k4, k5, k6, Recs.box_cell X5.out 0, Recs.box_cell X5.out 1, Recs.box_cell X5.out 2, Recs.box_cell X5.out 3, Recs.box_cell Y5.out 0, Recs.box_cell Y5.out 1, Recs.box_cell Y5.out 2, k7, k8, Ix5.out, Iy5.out, k9⟩
    clear K5 X5 Y5
    obtain ⟨_, _, _, _, _, _, _, k0, k1, k2, k3, k4, k5, k6, _⟩ := K6.out
    go_wp2_with fail
    refine (HI.out _ _ _ Ix5.out Iy5.out K6.out.2.2.2.2.2.2.2.2.2.2.2.2.2.2.2.2.2.2).mono ?_
    rintro e W6 ⟨rfl, hb⟩
    have K7 := Num.hide (storable4.step K6.out hb)
    clear hb K6 Ix5 Iy5 HI k0 k1 k2 k3 k4 k5 k6
    go_wp2_with fail
    refine wp_region_held_drew (S := storable4 w w.heap.size (w.heap.size + 1) g3 g4 m1 u1 s2 (.slice aa l1.length ca) (.slice ab l2.length cb) (.slice ax l1.length cx) (.slice ay l2.length cy) l1 l2 b1 b2) (by kernel_rfl) (storable4.step K7.out (Below.refl _ _).drew) (fun hHeld => ?_)
    refine Reg.take (i := 0) (d := 35) (v := ?_) rfl rfl (by kernel_rfl) (by kernel_rfl) (by kernel_rfl) (fun _ _ _ h => h) (by rfl) ?_ hHeld ?_
    rotate_left
    · rintro W ⟨k0, k1, k2, k3, k4, k5, k6, k7, k8, k9, k10, k11, k12, k13, k14, k15, k16, k17, k18⟩
      first | (go_simp; done) | (go_simp; with_reducible rfl)
    simp only [Act.put, List.setIfInBounds_toArray, List.set_cons_zero, List.set_cons_succ]
    refine Reg.take (i := 1) (d := 36) (v := ?_) rfl rfl (by kernel_rfl) (by kernel_rfl) (by kernel_rfl) (fun _ _ _ h => h) (by rfl) ?_ hHeld ?_
    rotate_left
    · rintro W ⟨k0, k1, k2, k3, k4, k5, k6, k7, k8, k9, k10, k11, k12, k13, k14, k15, k16, k17, k18⟩
      first | (go_simp; done) | (go_simp; with_reducible rfl)
    simp only [Act.put, List.setIfInBounds_toArray, List.set_cons_zero, List.set_cons_succ]
    refine Reg.call (i := 2) rfl (by kernel_rfl) (by rfl) (fun K hK => ?_)
    go_wp2_with (first | (go_at_call 9; refine (HTa.out _ hHeld.2.2.2.2.2.2.2.2.2.2.2.2.2.2.1.1).mono ?_; rintro e Wp ⟨vp, rfl, ho, hb⟩))
    obtain ⟨avp, cvp, hvvp⟩ := Recs.own_len ho
    subst hvvp
    have Ivp := Num.hide (Recs.own_is Flds.cells_len ho)
    have HBvp := Num.hide hb
    clear ho hb
    refine hK.out _ _ ?_ (fun hHeld2 => ?_)
    · exact storable4.step hHeld HBvp.out
    clear hK K
    replace hHeld := hHeld2
    clear hHeld2
    refine Reg.call (i := 3) rfl (by kernel_rfl) (by rfl) (fun K hK => ?_)
    go_wp2_with (first | (go_at_call 12; refine (HE1.out _ _ _ hHeld.2.2.2.2.2.2.2.2.2.2.2.2.2.2.2.2.1 Ivp.out).mono ?_; rintro e Wp2 ⟨rfl, hb⟩))
    have HBp2 := Num.hide hb
    clear hb
    refine hK.out _ _ ?_ (fun hHeld2 => ?_)
    · exact storable4.step hHeld HBp2.out
    clear hK K
    replace hHeld := hHeld2
    clear hHeld2
    refine Reg.take (i := 4) (d := 39) (v := ?_) rfl rfl (by kernel_rfl) (by kernel_rfl) (by kernel_rfl) (fun _ _ _ h => h) (by rfl) ?_ hHeld ?_
    rotate_left
    · rintro W ⟨k0, k1, k2, k3, k4, k5, k6, k7, k8, k9, k10, k11, k12, k13, k14, k15, k16, k17, k18⟩
      first | (go_simp; done) | (go_simp; with_reducible rfl)
    simp only [Act.put, List.setIfInBounds_toArray, List.set_cons_zero, List.set_cons_succ]
    refine wpAnyH_done (by kernel_rfl) ?_ _
    have K8 := Num.hide hHeld
    clear hHeld K7
    go_wp2_with fail
    refine wp_region_held_drew (S := storable4 w w.heap.size (w.heap.size + 1) g3 g4 m1 u1 s2 (.slice aa l1.length ca) (.slice ab l2.length cb) (.slice ax l1.length cx) (.slice ay l2.length cy) l1 l2 b1 b2) (by kernel_rfl) (storable4.step K8.out (Below.refl _ _).drew) (fun hHeld => ?_)
    refine Reg.take (i := 0) (d := 40) (v := ?_) rfl rfl (by kernel_rfl) (by kernel_rfl) (by kernel_rfl) (fun _ _ _ h => h) (by rfl) ?_ hHeld ?_
    rotate_left
    · rintro W ⟨k0, k1, k2, k3, k4, k5, k6, k7, k8, k9, k10, k11, k12, k13, k14, k15, k16, k17, k18⟩
      first | (go_simp; done) | (go_simp; with_reducible rfl)
    simp only [Act.put, List.setIfInBounds_toArray, List.set_cons_zero, List.set_cons_succ]
    refine Reg.take (i := 1) (d := 41) (v := ?_) rfl rfl (by kernel_rfl) (by kernel_rfl) (by kernel_rfl) (fun _ _ _ h => h) (by rfl) ?_ hHeld ?_
    rotate_left
    · rintro W ⟨k0, k1, k2, k3, k4, k5, k6, k7, k8, k9, k10, k11, k12, k13, k14, k15, k16, k17, k18⟩
      first | (go_simp; done) | (go_simp; with_reducible rfl)
    simp only [Act.put, List.setIfInBounds_toArray, List.set_cons_zero, List.set_cons_succ]
    refine Reg.call (i := 2) rfl (by kernel_rfl) (by rfl) (fun K hK => ?_)
    go_wp2_with (first | (go_at_call 10; refine (HTb.out _ hHeld.2.2.2.2.2.2.2.2.2.2.2.2.2.2.2.1.1).mono ?_; rintro e Wq ⟨vq, rfl, ho, hb⟩))
    obtain ⟨avq, cvq, hvvq⟩ := Recs.own_len ho
    subst hvvq
    have Ivq := Num.hide (Recs.own_is Flds.cells_len ho)
    have HBvq := Num.hide hb
    clear ho hb
    refine hK.out _ _ ?_ (fun hHeld2 => ?_)
    · exact storable4.step hHeld HBvq.out
    clear hK K
    replace hHeld := hHeld2
    clear hHeld2
    refine Reg.call (i := 3) rfl (by kernel_rfl) (by rfl) (fun K hK => ?_)
    go_wp2_with (first | (go_at_call 13; refine (HE2.out _ _ _ hHeld.2.2.2.2.2.2.2.2.2.2.2.2.2.2.2.2.2.1 Ivq.out).mono ?_; rintro e Wq2 ⟨rfl, hb⟩))
    have HBq2 := Num.hide hb
    clear hb
    refine hK.out _ _ ?_ (fun hHeld2 => ?_)
    · exact storable4.step hHeld HBq2.out
    clear hK K
    replace hHeld := hHeld2
    clear hHeld2
    refine Reg.take (i := 4) (d := 44) (v := ?_) rfl rfl (by kernel_rfl) (by kernel_rfl) (by kernel_rfl) (fun _ _ _ h => h) (by rfl) ?_ hHeld ?_
    rotate_left
    · rintro W ⟨k0, k1, k2, k3, k4, k5, k6, k7, k8, k9, k10, k11, k12, k13, k14, k15, k16, k17, k18⟩
      first | (go_simp; done) | (go_simp; with_reducible rfl)
    simp only [Act.put, List.setIfInBounds_toArray, List.set_cons_zero, List.set_cons_succ]
    refine wpAnyH_done (by kernel_rfl) ?_ _
    have K9 := Num.hide hHeld.2.2.2.2.2.2.2.2.2.2.2.2.2.2.2.2.2.2
    clear hHeld K8
    go_wp2
    go_ret
    exact ⟨rfl, K9.out⟩
end Pol
end Go.Proofs.YtbcjpjhpobmpbaaGreatDoor
