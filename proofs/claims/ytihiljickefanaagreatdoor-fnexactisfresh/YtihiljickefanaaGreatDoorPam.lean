/-
  LifeSpec: Lifetime of the specification.
  Pairs: Two boxes that were just laid.
  RespEq: eqResponse of the laws: responses held against each other.
-/
import Derived.Test.YtihiljickefanaaGreatDoorPah
import Derived.Test.YtihiljickefanaaGreatDoorPal
import Derived.Test.YtihiljickefanaaGreatDoorRecs
import Derived.Test.YtihiljickefanaaGreatDoorPag
import Derived.Test.YtihiljickefanaaGreatDoorFldEq
namespace Go.Proofs.YtihiljickefanaaGreatDoor
open Go.RowKit
set_option linter.unusedVariables false
namespace Age
open Flds (Fld ret_int)

/-- the answer's box, and what was there stays -/
structure LAt (w : World) (st : Int) (v : Value) (l : List Fld) (b : ByteArray) (W : World) : Prop where
  box : W.heap[w.heap.size]? = some (.cells #[.int .i64 st, v, .string b] 26)
  is : Flds.Is W v l
  below : Below w.heap.size w W
theorem LAt.step {w : World} {st : Int} {v : Value} {l : List Fld} {b : ByteArray} {W W' : World} (h : LAt w st v l b W) (hb : Below W.heap.size W W') : LAt w st v l b W' :=
  ⟨row_stays h.box hb, Recs.is_below h.is hb, h.below.trans (hb.mono h.below.size)⟩
theorem LAt.cell {w : World} {st : Int} {v : Value} {l : List Fld} {b : ByteArray} {W : World} (h : LAt w st v l b W) : W.cell? ⟨w.heap.size, 1, none⟩ = some v := by
  have c := Recs.box_cell h.box 1
  simpa using c
set_option maxRecDepth 100000 in
set_option maxHeartbeats 4000000 in
theorem lifetime_spec (st : Int) (v : Value) (l : List Fld) (b : ByteArray) (w : World) (h : Flds.Is w v l) (hl : Flds.bulk l ≤ 1048576) :
    Calls Tryz.prog 16 #[Resp.val st v b] w fun e w' => e = .returned (.int .i64 (lifetime l)) ∧ Below w.heap.size w w' := by
  have hb0 : Below w.heap.size w (w.alloc (.cells #[.int .i64 st, v, .string b] 26)) := (Below.refl _ _).alloc (Nat.le_refl _) _
  have HL0 : Hid (LAt w st v l b (w.alloc (.cells #[.int .i64 st, v, .string b] 26))) := ⟨heap_alloc_new w _, Recs.is_below h hb0, hb0⟩
  obtain ⟨av, cv, rfl, _⟩ := Flds.is_form h
  have HSm := Num.hide (fun W h => Cc.sec_spec (.slice av l.length cv) l sMaxAge W h hl)
  have HMa := Num.hide (fun W h => Cc.sec_spec (.slice av l.length cv) l maxAge W h hl)
  have HGe := Num.hide (fun W h => Flds.get_spec_b (.slice av l.length cv) l expiresName W h (by omega))
  have HDd := Num.hide (fun W h => dateOf_spec (.slice av l.length cv) l dateName W h hl)
  have HDe := Num.hide (fun W h => dateOf_spec (.slice av l.length cv) l expiresName W h hl)
  have HDl := Num.hide (fun W h => dateOf_spec (.slice av l.length cv) l lastName W h hl)
  have b1 := dateOf_bd l dateName
  have b2 := dateOf_bd l expiresName
  have b3 := dateOf_bd l lastName
  obtain ⟨r, hr⟩ : ∃ r, lifetime l = r := ⟨_, rfl⟩
  rw [hr]
  unfold lifetime at hr
  generalize Cc.sec (Cc.dirs l) sMaxAge = S at HSm hr
  generalize Cc.sec (Cc.dirs l) maxAge = M at HMa hr
  generalize Flds.get l expiresName = E at HGe hr
  generalize dateOf l dateName = D at HDd hr b1
  generalize dateOf l expiresName = X at HDe hr b2
  generalize dateOf l lastName = Y at HDl hr b3
  obtain ⟨S1, S2⟩ := S
  obtain ⟨M1, M2⟩ := M
  obtain ⟨E1, E2⟩ := E
  obtain ⟨D1, D2⟩ := D
  obtain ⟨X1, X2⟩ := X
  obtain ⟨Y1, Y2⟩ := Y
  simp only at HSm HMa HGe HDd HDe HDl hr b1 b2 b3
  have HR := Num.hide hr
  unfold Resp.val
  clear h hb0 hr
  go_enter Tryz.func16, Tryz.ntmps16
  go_upto_region 1 with fail
  generalize w.alloc (.cells #[.int .i64 st, .slice av l.length cv, .string b] 26) = w0 at HL0 ⊢
  have c1 := HL0.out.cell
  go_wp2_with fail
  refine (HSm.out _ HL0.out.is).mono ?_
  rintro e w1 ⟨rfl, hb⟩
  have HL1 := Num.hide (HL0.out.step hb)
  clear hb c1 HL0 HSm
  cases S2 with
  | true =>
    obtain rfl : S1 = r := by have := HR.out; simpa using this
    have HB := Num.hide HL1.out.below
    clear HL1
    go_wp2
    go_ret
    exact ⟨rfl, HB.out⟩
  | false =>
  have hr := HR.out
  rw [if_neg (by simp)] at hr
  clear HR
  have HR := Num.hide hr
  clear hr
  have c1 := HL1.out.cell
  go_wp2_with fail
  refine (HMa.out _ HL1.out.is).mono ?_
  rintro e w2 ⟨rfl, hb⟩
  have HL2 := Num.hide (HL1.out.step hb)
  clear hb c1 HL1 HMa
  cases M2 with
  | true =>
    obtain rfl : M1 = r := by have := HR.out; simpa using this
    have HB := Num.hide HL2.out.below
    clear HL2
    go_wp2
    go_ret
    exact ⟨rfl, HB.out⟩
  | false =>
  have hr := HR.out
  rw [if_neg (by simp)] at hr
  clear HR
  have HR := Num.hide hr
  clear hr
  have c1 := HL2.out.cell
  go_wp2_with fail
  refine (HDd.out _ HL2.out.is).mono ?_
  rintro e w3 ⟨rfl, hb⟩
  have HL3 := Num.hide (HL2.out.step hb)
  clear hb c1 HL2 HDd
  have c1 := HL3.out.cell
  go_wp2_with fail
  refine (HGe.out _ HL3.out.is).mono ?_
  rintro e w4 ⟨rfl, hb⟩
  have HL4 := Num.hide (HL3.out.step hb)
  clear hb c1 HL3 HGe
  have c1 := HL4.out.cell
  cases E2 with
  | true =>
    have hr := HR.out
    rw [if_pos rfl] at hr
    clear HR
    have HR := Num.hide hr
    clear hr
    go_wp2_with fail
    refine (HDe.out _ HL4.out.is).mono ?_
    rintro e w5 ⟨rfl, hb⟩
    have HB := Num.hide (HL4.out.step hb).below
    clear hb c1 HL4 HDe
    cases X2 with
    | false =>
      obtain rfl : r = 0 := by rw [← HR.out, if_neg (by simp)]
      go_wp2
      go_ret
      exact ⟨rfl, HB.out⟩
    | true =>
      cases D2 with
      | false =>
        obtain rfl : r = 0 := by rw [← HR.out, if_neg (by simp)]
        go_wp2
        go_ret
        exact ⟨rfl, HB.out⟩
      | true =>
        have hr := HR.out
        rw [if_pos ⟨rfl, rfl⟩] at hr
        by_cases hlt : 0 < X1 - D1
        · obtain rfl : r = X1 - D1 := by omega
          clear HR hr
          go_wp2
          all_goals go_ret
          all_goals exact ⟨ret_int (by omega), HB.out⟩
        · obtain rfl : r = 0 := by omega
          clear HR hr
          go_wp2
          all_goals go_ret
          all_goals exact ⟨ret_int (by omega), HB.out⟩
  | false =>
    have hr := HR.out
    rw [if_neg (by simp)] at hr
    clear HR
    have HR := Num.hide hr
    clear hr
    go_wp2_with fail
    refine (HDl.out _ HL4.out.is).mono ?_
    rintro e w5 ⟨rfl, hb⟩
    have HB := Num.hide (HL4.out.step hb).below
    clear hb c1 HL4 HDl
    cases D2 with
    | false =>
      obtain rfl : r = 0 := by rw [← HR.out, if_neg (by simp)]
      go_wp2
      go_ret
      exact ⟨rfl, HB.out⟩
    | true =>
      cases Y2 with
      | false =>
        obtain rfl : r = 0 := by rw [← HR.out, if_neg (by simp)]
        go_wp2
        go_ret
        exact ⟨rfl, HB.out⟩
      | true =>
        have hr := HR.out
        rw [if_pos ⟨rfl, rfl⟩] at hr
        by_cases hlt : 0 < D1 - Y1
        · obtain rfl : r = (D1 - Y1) / 10 := by rw [← hr]; congr 1; omega
          clear HR hr
          go_wp2
          all_goals go_ret
          all_goals exact ⟨ret_int (by omega), HB.out⟩
        · obtain rfl : r = 0 := by rw [← hr]; omega
          clear HR hr
          go_wp2
          all_goals go_ret
          all_goals exact ⟨ret_int (by omega), HB.out⟩
end Age
end Go.Proofs.YtihiljickefanaaGreatDoor
namespace Go.Proofs.YtihiljickefanaaGreatDoor
open Go.RowKit
set_option linter.unusedVariables false
namespace Resp

/-- two boxes that were just laid -/
theorem box_one (w : World) (c1 c2 : Array Value) (t1 t2 : TypeId) (j : Nat) : ((w.alloc (.cells c1 t1)).alloc (.cells c2 t2)).cell? ⟨w.heap.size, j, none⟩ = c1[j]? := by
  rw [World.cell?_alloc_lt _ _ _ (by simp), cell_of_row _ _ _ _ _ _ (heap_alloc_new w _)]
theorem box_two (w : World) (c1 c2 : Array Value) (t1 t2 : TypeId) (j : Nat) : ((w.alloc (.cells c1 t1)).alloc (.cells c2 t2)).cell? ⟨w.heap.size + 1, j, none⟩ = c2[j]? := by
  have e : w.heap.size + 1 = (w.alloc (.cells c1 t1)).heap.size := by rw [World.size_alloc]
  rw [e, cell_of_row _ _ _ _ _ _ (heap_alloc_new _ _)]
end Resp
end Go.Proofs.YtihiljickefanaaGreatDoor
namespace Go.Proofs.YtihiljickefanaaGreatDoor
open Go.RowKit
set_option linter.unusedVariables false
namespace Resp

set_option maxRecDepth 100000 in
set_option maxHeartbeats 2000000 in
theorem eq_any (s1 s2 : Int) (v1 v2 : Value) (l1 l2 : List Flds.Fld) (b1 b2 : ByteArray) (w : World) (h1 : Flds.Is w v1 l1) (h2 : Flds.Is w v2 l2) (hl : l1.length ≤ 1099511627776) :
    Calls Tryz.prog 18 #[val s1 v1 b1, val s2 v2 b2] w fun e w' => e = .returned (.bool (decide (s1 = s2 ∧ l1 = l2 ∧ b1 = b2))) ∧ Below w.heap.size w w' := by
  unfold val
  obtain ⟨r, hr⟩ : ∃ r, decide (s1 = s2 ∧ l1 = l2 ∧ b1 = b2) = r := ⟨_, rfl⟩
  rw [hr]
  obtain ⟨a1, c1, rfl, _⟩ := Flds.is_form h1
  obtain ⟨a2, c2, rfl, _⟩ := Flds.is_form h2
  have hb0 := ((Below.refl w.heap.size w).alloc (Nat.le_refl _) (.cells #[.int .i64 s1, .slice a1 l1.length c1, .string b1] 26)).alloc (by simp) (.cells #[.int .i64 s2, .slice a2 l2.length c2, .string b2] 26)
  have HB0 := Num.hide hb0
  have HE := Num.hide (Flds.eq_any _ _ l1 l2 _ (Recs.is_stay h1 (Nat.le_refl _) hb0) (Recs.is_stay h2 (Nat.le_refl _) hb0) hl)
  clear h1 h2 hb0
  by_cases hs : s1 = s2
  · have ds : (s1 != s2) = false := by rw [bne_eq_false_iff_eq]; exact hs
    by_cases hll : l1 = l2
    · rw [decide_eq_true hll] at HE
      by_cases hbb : b1 = b2
      · obtain rfl : r = true := by rw [← hr]; exact decide_eq_true ⟨hs, hll, hbb⟩
        subst hbb
        clear hr hs hll
        go_enter Tryz.func18, Tryz.ntmps18
        go_wp2_with fail
        refine HE.out.mono ?_
        rintro e w1 ⟨rfl, hb1⟩
        have k1 := (hb1.cell (p := ⟨w.heap.size, 2, none⟩) (by show w.heap.size < _; rw [World.size_alloc, World.size_alloc]; omega)).trans (box_one w _ _ _ _ 2)
        have k2 := (hb1.cell (p := ⟨w.heap.size + 1, 2, none⟩) (by show w.heap.size + 1 < _; rw [World.size_alloc, World.size_alloc]; omega)).trans (box_two w _ _ _ _ 2)
        have HB1 := Num.hide (HB0.out.trans (hb1.mono HB0.out.size))
        clear hb1 HB0 HE
        simp only [List.getElem?_toArray, List.getElem?_cons_succ, List.getElem?_cons_zero] at k1 k2
        go_wp2
        go_ret
        exact ⟨rfl, HB1.out⟩
      · obtain rfl : r = false := by rw [← hr]; exact decide_eq_false (fun h => hbb h.2.2)
        have db : (b1.toList == b2.toList) = false := Flds.text_ne hbb
        have db2 : (b1.toList != b2.toList) = true := by rw [bne, db]; rfl
        clear hr hs hll hbb
        go_enter Tryz.func18, Tryz.ntmps18
        go_wp2_with fail
        refine HE.out.mono ?_
        rintro e w1 ⟨rfl, hb1⟩
        have k1 := (hb1.cell (p := ⟨w.heap.size, 2, none⟩) (by show w.heap.size < _; rw [World.size_alloc, World.size_alloc]; omega)).trans (box_one w _ _ _ _ 2)
        have k2 := (hb1.cell (p := ⟨w.heap.size + 1, 2, none⟩) (by show w.heap.size + 1 < _; rw [World.size_alloc, World.size_alloc]; omega)).trans (box_two w _ _ _ _ 2)
        have HB1 := Num.hide (HB0.out.trans (hb1.mono HB0.out.size))
        clear hb1 HB0 HE
        simp only [List.getElem?_toArray, List.getElem?_cons_succ, List.getElem?_cons_zero] at k1 k2
        go_wp2
        go_ret
        exact ⟨rfl, HB1.out⟩
    · rw [decide_eq_false hll] at HE
      obtain rfl : r = false := by rw [← hr]; exact decide_eq_false (fun h => hll h.2.1)
      clear hr hs hll
      go_enter Tryz.func18, Tryz.ntmps18
      go_wp2_with fail
      refine HE.out.mono ?_
      rintro e w1 ⟨rfl, hb1⟩
      have HB1 := Num.hide (HB0.out.trans (hb1.mono HB0.out.size))
      clear hb1 HB0 HE
      go_wp2
      go_ret
      exact ⟨rfl, HB1.out⟩
  · have ds : (s1 != s2) = true := by rw [bne_iff_ne]; exact hs
    obtain rfl : r = false := by rw [← hr]; exact decide_eq_false (fun h => hs h.1)
    clear hr hs HE
    go_enter Tryz.func18, Tryz.ntmps18
    go_wp2
    go_ret
    exact ⟨rfl, HB0.out⟩
end Resp
end Go.Proofs.YtihiljickefanaaGreatDoor
