/-
  Pairs: Two boxes that were just laid.
  RespEq: eqResponse of the laws: responses held against each other.
  FldTo: toField and toFieldS of the laws: a copy of a list of fields, in a row of the call's own.
  FldOpen: A list of fields that came in, as the law's argument: what it reads as.
  RespLaw: szResponse of the laws: how much a response holds.
  RespTo: toResponse of the laws: a response taken over, its fields in a row of the call's own.
-/
import Derived.Test.YtbcjpjhpobmpbaaGreatDoorRecs
import Derived.Test.YtbcjpjhpobmpbaaGreatDoorPah
import Derived.Test.YtbcjpjhpobmpbaaGreatDoorFldEq
import Derived.Test.YtbcjpjhpobmpbaaGreatDoorFldOwn
import Derived.Test.YtbcjpjhpobmpbaaGreatDoorPag
import Derived.ProofKit
import Derived.OpenShut
import Derived.Deep.SlicePairs
namespace Go.Proofs.YtbcjpjhpobmpbaaGreatDoor
open Go.RowKit
set_option linter.unusedVariables false
namespace Resp

/-- two boxes that were just laid -/
theorem box_one (w : World) (c1 c2 : Array Value) (t1 t2 : TypeId) (j : Nat) : ((w.alloc (.cells c1 t1)).alloc (.cells c2 t2)).cell? ⟨w.heap.size, j, none⟩ = c1[j]? := by
  rw [World.cell?_alloc_lt _ _ _ (by simp), cell_of_row _ _ _ _ _ _ (heap_alloc_new w _)]
theorem box_two (w : World) (c1 c2 : Array Value) (t1 t2 : TypeId) (j : Nat) : ((w.alloc (.cells c1 t1)).alloc (.cells c2 t2)).cell? ⟨w.heap.size + 1, j, none⟩ = c2[j]? := by
  have e : w.heap.size + 1 = (w.alloc (.cells c1 t1)).heap.size := by rw [World.size_alloc]
  rw [e, cell_of_row _ _ _ _ _ _ (heap_alloc_new _ _)]
end Resp
end Go.Proofs.YtbcjpjhpobmpbaaGreatDoor
namespace Go.Proofs.YtbcjpjhpobmpbaaGreatDoor
open Go.RowKit
set_option linter.unusedVariables false
namespace Resp

set_option maxRecDepth 100000 in
set_option maxHeartbeats 2000000 in
theorem eq_any (s1 s2 : Int) (v1 v2 : Value) (l1 l2 : List Flds.Fld) (b1 b2 : ByteArray) (w : World) (h1 : Flds.Is w v1 l1) (h2 : Flds.Is w v2 l2) (hl : l1.length ≤ 1099511627776) :
    Calls Tryz.prog 13 #[val s1 v1 b1, val s2 v2 b2] w fun e w' => e = .returned (.bool (decide (s1 = s2 ∧ l1 = l2 ∧ b1 = b2))) ∧ Below w.heap.size w w' := by
  unfold val
  obtain ⟨r, hr⟩ : ∃ r, decide (s1 = s2 ∧ l1 = l2 ∧ b1 = b2) = r := ⟨_, rfl⟩
  rw [hr]
  obtain ⟨a1, c1, rfl, _⟩ := Flds.is_form h1
  obtain ⟨a2, c2, rfl, _⟩ := Flds.is_form h2
  have hb0 := ((Below.refl w.heap.size w).alloc (Nat.le_refl _) (.cells #[.int .i64 s1, .slice a1 l1.length c1, .string b1] 35)).alloc (by simp) (.cells #[.int .i64 s2, .slice a2 l2.length c2, .string b2] 35)
  have HB0 := Num.hide hb0
  have HE := Num.hide (Flds.eq_any _ _ l1 l2 _ (Recs.is_stay h1 (Nat.le_refl _) hb0) (Recs.is_stay h2 (Nat.le_refl _) hb0) hl)
  clear h1 h2 hb0
  by_cases hs : s1 = s2
  · have ds : (s1 != s2) = false := by rw [bne_eq_false_iff_eq]; exact hs
    by_cases hll : l1 = l2
    · rw [decide_eq_true hll] at HE
      by_cases hbb : b1 = b2
      · obtain rfl : r = true := by rw [← hr]; exact decide_eq_true ⟨hs, hll, hbb⟩
        subst hbb
        clear hr hs hll
        go_enter Tryz.func13, Tryz.ntmps13
        go_wp2_with fail
        refine HE.out.mono ?_
        rintro e w1 ⟨rfl, hb1⟩
        have k1 := (hb1.cell (p := ⟨w.heap.size, 2, none⟩) (by show w.heap.size < _; rw [World.size_alloc, World.size_alloc]; omega)).trans (box_one w _ _ _ _ 2)
        have k2 := (hb1.cell (p := ⟨w.heap.size + 1, 2, none⟩) (by show w.heap.size + 1 < _; rw [World.size_alloc, World.size_alloc]; omega)).trans (box_two w _ _ _ _ 2)
        have HB1 := Num.hide (HB0.out.trans (hb1.mono HB0.out.size))
        clear hb1 HB0 HE
        simp only [List.getElem?_toArray, List.getElem?_cons_succ, List.getElem?_cons_zero] at k1 k2
        go_wp2
        go_ret
        exact ⟨rfl, HB1.out⟩
      · obtain rfl : r = false := by rw [← hr]; exact decide_eq_false (fun h => hbb h.2.2)
        have db : (b1.toList == b2.toList) = false := Flds.text_ne hbb
        have db2 : (b1.toList != b2.toList) = true := by rw [bne, db]; rfl
        clear hr hs hll hbb
        go_enter Tryz.func13, Tryz.ntmps13
        go_wp2_with fail
        refine HE.out.mono ?_
        rintro e w1 ⟨rfl, hb1⟩
        have k1 := (hb1.cell (p := ⟨w.heap.size, 2, none⟩) (by show w.heap.size < _; rw [World.size_alloc, World.size_alloc]; omega)).trans (box_one w _ _ _ _ 2)
        have k2 := (hb1.cell (p := ⟨w.heap.size + 1, 2, none⟩) (by show w.heap.size + 1 < _; rw [World.size_alloc, World.size_alloc]; omega)).trans (box_two w _ _ _ _ 2)
        have HB1 := Num.hide (HB0.out.trans (hb1.mono HB0.out.size))
        clear hb1 HB0 HE
        simp only [List.getElem?_toArray, List.getElem?_cons_succ, List.getElem?_cons_zero] at k1 k2
        go_wp2
        go_ret
        exact ⟨rfl, HB1.out⟩
    · rw [decide_eq_false hll] at HE
      obtain rfl : r = false := by rw [← hr]; exact decide_eq_false (fun h => hll h.2.1)
      clear hr hs hll
      go_enter Tryz.func13, Tryz.ntmps13
      go_wp2_with fail
      refine HE.out.mono ?_
      rintro e w1 ⟨rfl, hb1⟩
      have HB1 := Num.hide (HB0.out.trans (hb1.mono HB0.out.size))
      clear hb1 HB0 HE
      go_wp2
      go_ret
      exact ⟨rfl, HB1.out⟩
  · have ds : (s1 != s2) = true := by rw [bne_iff_ne]; exact hs
    obtain rfl : r = false := by rw [← hr]; exact decide_eq_false (fun h => hs h.1)
    clear hr hs HE
    go_enter Tryz.func13, Tryz.ntmps13
    go_wp2
    go_ret
    exact ⟨rfl, HB0.out⟩
end Resp
end Go.Proofs.YtbcjpjhpobmpbaaGreatDoor
namespace Go.Proofs.YtbcjpjhpobmpbaaGreatDoor
open Go.RowKit
set_option linter.unusedVariables false
namespace Flds

set_option maxRecDepth 100000 in
set_option maxHeartbeats 1000000 in
theorem toField_any (x y : ByteArray) (w : World) : Calls Tryz.prog 47 #[.agg #[.string x, .string y]] w fun e w' => e = .returned (.agg #[.string x, .string y]) ∧ Below w.heap.size w w' := by
  go_enter Tryz.func47, Tryz.ntmps47
  go_wp2
  exact bodyPost_ret (v := .agg #[.string x, .string y]) (by simp [results, Tryz.results47, go_sem]) rfl ⟨rfl, (((Below.refl _ _).alloc (Nat.le_refl _) _).alloc (by simp) _).alloc (by simp; omega) _⟩
set_option maxRecDepth 100000 in
set_option maxHeartbeats 1000000 in
theorem toFieldS_any (v : Value) (l : List Fld) (w : World) (h : Is w v l) (hl : l.length ≤ 1048576) :
    Calls Tryz.prog 26 #[v] w fun e w' => ∃ v', e = .returned v' ∧ Own w.heap.size w' v' l ∧ Below w.heap.size w w' := by
  obtain ⟨a, c, rfl, h2⟩ := is_form h
  have HA := Num.hide h2
  clear h h2
  obtain ⟨i0, hi0, hz0, hz1, hz2⟩ := info_parts infoF
  go_enter Tryz.func26, Tryz.ntmps26
  go_wp2_with (at_make; refine wpList_make_full _ rfl (.tmp 6) (.tmp 6) 30 rfl w.heap.size 47 i0 _ 2 Tryz.underlying30 hi0 hz0 hz1 .i64 .i64 (l.length : Int) (l.length : Int) l.length rfl rfl rfl rfl ?c1 ?c2 ?c3 ?_)
  case c1 => rw [hz2]; omega
  case c2 => unfold maxLen; omega
  case c3 => exact Nat.le_refl _
  intro w1 hown hgrow
  rw [made_rec] at hown
  have HO : Hid (Own w.heap.size w1 (.slice (some ⟨w.heap.size, 0, none⟩) l.length l.length) (List.replicate l.length zeroF)) := by
    show w1.ownsRow _ _ _ _ _ _
    rw [List.length_replicate]; exact hown
  have HB : Hid (Below w.heap.size w w1) := (Below.refl _ _).grown hgrow (Nat.le_refl _) (fun k h => by cases h)
  clear hown hgrow
  go_wp2
  go_loopw [4] (fun iv wr => ∃ i : Nat, i ≤ l.length ∧ iv = .int .i64 (i : Int) ∧ Hid (Own w.heap.size wr (.slice (some ⟨w.heap.size, 0, none⟩) l.length l.length) (l.take i ++ List.replicate (l.length - i) zeroF)) ∧ Hid (Below w.heap.size w wr)) (fun iv _ => l.length - (intOf iv).toNat)
  case atStart => exact ⟨0, by omega, rfl, HO, HB⟩
  case round =>
    clear HO HB
    obtain ⟨i, hi, rfl, HO, HB⟩ := hrel
    by_cases hlt : i < l.length
    · obtain ⟨b, o, rfl, hc, hmx, hblt, hcell⟩ := Num.unhide HA (by omega)
      obtain ⟨hc1, hc2⟩ := hcell i hlt
      have c1 : wr.cell? ⟨b, o + i * 2, none⟩ = some (.string l[i].1) := by rw [HB.out.cell (p := ⟨b, o + i * 2, none⟩) hblt]; exact hc1
      have c2 : wr.cell? ⟨b, o + i * 2 + 1, none⟩ = some (.string l[i].2) := by rw [HB.out.cell (p := ⟨b, o + i * 2 + 1, none⟩) hblt]; exact hc2
      have HT := Num.hide (take_set l i hlt)
      clear hcell hc1 hc2
      generalize l[i] = f at c1 c2 HT
      obtain ⟨x, y⟩ := f
      simp only at c1 c2
      go_wp2_with fail
      refine (toField_any x y _).mono ?_
      rintro e w2 ⟨rfl, hb2⟩
      have hlen : (l.take i ++ List.replicate (l.length - i) zeroF).length = l.length := by rw [List.length_append, List.length_take, List.length_replicate]; omega
      obtain ⟨g, c', hv, hc', hm', hB', hg', k1, k2, hfz, q1, q2, hput⟩ := own_put (Recs.own_below HO.out hb2) i (by omega)
      simp only [Value.slice.injEq, Option.some.injEq, Addr.mk.injEq, and_true] at hv
      obtain ⟨rfl, e9, rfl⟩ := hv
      clear e9
      obtain ⟨hp1, hp2⟩ := hput x y
      rw [HT.out] at hp1
      have HP1 := Num.hide hp1
      have HP2 := Num.hide (HB.out.trans ((hb2.mono HB.out.size).trans (Recs.below_mark (Recs.own_below HO.out hb2) (Nat.le_refl _) (Nat.le_trans HB.out.size hb2.size) hp2)))
      obtain ⟨o1, ho1⟩ : ∃ u, w2.cell? ⟨w.heap.size, i * 2, none⟩ = some u := ⟨_, k1⟩
      obtain ⟨o2, ho2⟩ : ∃ u, w2.cell? ⟨w.heap.size, i * 2 + 1, none⟩ = some u := ⟨_, k2⟩
      have f1 := hfz (i * 2)
      have f2 := hfz (i * 2 + 1)
      clear q1 q2 hput hp1 hp2 k1 k2 hfz hlen
      clear hb2 hc' hg' hm'
      go_wp2
      go_roundw
      case rel => exact ⟨i + 1, by omega, by go_num, HP1, HP2⟩
      case measure => simp [intOf]; omega
    · obtain rfl : i = l.length := by omega
      have ho := HO.out
      rw [List.take_of_length_le (Nat.le_refl _), Nat.sub_self, List.replicate_zero, List.append_nil] at ho
      have HO2 := Num.hide ho
      clear ho HO
      go_wp2
      go_ret
      exact ⟨_, rfl, HO2.out, HB.out⟩
end Flds
end Go.Proofs.YtbcjpjhpobmpbaaGreatDoor
namespace Go.Proofs.YtbcjpjhpobmpbaaGreatDoor
open Go.ChangeShapes Go.WideShapes Go.ChangeAt Go.RowKit Go.Deep
set_option linter.unusedVariables false
namespace Flds

/-- what the walk is told of a list of fields that came in -/
def Arg (w : World) (v : Value) (l : List Fld) : Prop := Is w v l ∧ ∀ f ∈ l, f.1.size ≤ maxLen ∧ f.2.size ≤ maxLen
def textOf : Value → ByteArray | .string s => s | _ => ⟨#[]⟩
theorem spot_none {w : World} {a : Addr} {v : Value} (h : w.cell? (a.add 0) = some v) : ∃ b o, a = ⟨b, o, none⟩ ∧ ∀ j, a.add j = ⟨b, o + j, none⟩ := by
  obtain ⟨b, o, sp⟩ := a
  have hspot : sp = none := by simpa [Addr.add] using World.cell?_spot h
  subst hspot
  exact ⟨b, o, rfl, fun j => Go.WideShapes.add_plain ..⟩
set_option maxRecDepth 100000 in
/-- a list of fields among the cells that came in -/
theorem opened_cells {H : Type} {enc : TypeId × Value → H} {W : World} {fuel : Nat} {cs : List Value} {x : DataW H × List MemPlace}
    (hf : DataW.trod enc Tryz.prog W 0 (fun _ => true) true fuel 22 cs = some x) : ∃ a0 len0 cap0 l, cs = [.slice a0 len0 cap0] ∧ Arg W (.slice a0 len0 cap0) l := by
  rcases open_slice_pairs Tryz.underlying22 Tryz.underlying80 (by kernel_rfl) rfl rfl (by kernel_rfl) (by kernel_rfl) hf with ⟨hcs, _⟩ | ⟨a, len0, cap0, m, n, V0, V1, D0, D1, P0, P1, hcs, _, hl, hm, hmm, _, hcell⟩
  · exact ⟨none, 0, 0, [], hcs, ⟨none, 0, rfl, fun h => by simp at h⟩, fun f hf => by cases hf⟩
  · have hlm : len0 ≤ m := by rw [hmm]; split <;> omega
    have each : ∀ i, i < len0 → W.cell? (a.add (i * 2)) = some (.string (textOf (V0 i))) ∧ W.cell? (a.add (i * 2 + 1)) = some (.string (textOf (V1 i))) ∧ (textOf (V0 i)).size ≤ maxLen ∧ (textOf (V1 i)).size ≤ maxLen := by
      intro i hi
      obtain ⟨h1, h2, h3, h4⟩ := hcell i (by omega)
      obtain ⟨s, e1, _, hs⟩ := DataW.trod_string Tryz.underlying9 h3
      obtain ⟨t, e2, _, ht⟩ := DataW.trod_string Tryz.underlying9 h4
      simp only [List.cons.injEq, and_true] at e1 e2
      rw [e1] at h1 ⊢
      rw [e2] at h2 ⊢
      exact ⟨h1, h2, hs, ht⟩
    refine ⟨some a, len0, cap0, (List.range len0).map fun i => (textOf (V0 i), textOf (V1 i)), hcs, ⟨some a, cap0, by simp, fun h0 => ?_⟩, ?_⟩
    · simp at h0
      obtain ⟨b, o, rfl, hadd⟩ := spot_none (show W.cell? (a.add 0) = _ from (each 0 h0).1)
      refine ⟨b, o, rfl, by simpa using hl, hm, ?_, ?_⟩
      · have := (each 0 h0).1
        rw [hadd] at this
        exact Recs.lt_of_cell this
      · intro i hi j u hu
        simp at hi
        have hh := each i hi
        rw [hadd, hadd] at hh
        rw [List.getElem_map, List.getElem_range] at hu
        match j, hu with
        | 0, hu => simp [cells] at hu; subst hu; exact hh.1
        | 1, hu => simp [cells] at hu; subst hu; exact hh.2.1
        | j + 2, hu => simp [cells] at hu
    · intro f hf
      obtain ⟨i, hi, rfl⟩ := List.mem_map.1 hf
      exact (each i (List.mem_range.1 hi)).2.2
set_option maxRecDepth 100000 in
theorem opened {H : Type} {enc : TypeId × Value → H} {W : World} {base : Nat} {v : Value} {d : DataW H} {p : List MemPlace}
    (hok : Value.okWide Tryz.prog W .any base 22 v) (h : DataW.Trod enc Tryz.prog W 0 (fun _ => true) true 22 v d p) : ∃ l, Arg W v l := by
  obtain ⟨a0, len0, cap0, rfl⟩ := okWide_slice Tryz.underlying22 hok
  obtain ⟨fuel, hf⟩ := h
  obtain ⟨a, n, c, l, hcs, hl⟩ := opened_cells hf
  simp [Value.cells] at hcs
  obtain ⟨rfl, rfl, rfl⟩ := hcs
  exact ⟨l, hl⟩
theorem arg_stay {C : Nat} {w w' : World} {v : Value} {l : List Fld} (h : Arg w v l) (hC : w.heap.size ≤ C) (hb : Below C w w') : Arg w' v l := ⟨Recs.is_stay h.1 hC hb, h.2⟩
theorem left_no {n : Int} {k : Nat} (h : ¬ (k : Int) ≤ n) : left n k = -1 := by unfold left; rw [if_pos (by omega)]
theorem left_yes {n : Int} {k : Nat} (h : (k : Int) ≤ n) : left n k = n - k := by unfold left; rw [if_neg (by omega)]
theorem len_le (l : List Fld) : l.length ≤ bulk l := by unfold bulk; omega
end Flds
end Go.Proofs.YtbcjpjhpobmpbaaGreatDoor
namespace Go.Proofs.YtbcjpjhpobmpbaaGreatDoor
open Go.RowKit
set_option linter.unusedVariables false
namespace Resp

set_option maxRecDepth 100000 in
set_option maxHeartbeats 2000000 in
theorem sz_any (s : Int) (v : Value) (l : List Flds.Fld) (b : ByteArray) (n : Int) (w : World) (h : Flds.Arg w v l) (hb : b.size ≤ maxLen) (h0 : 0 ≤ n) (h1 : n ≤ 1048576) :
    Calls Tryz.prog 7 #[val s v b, .int .i64 n] w fun e w' => e = .returned (.int .i64 (Flds.left n (bulk l b))) ∧ Below w.heap.size w w' := by
  unfold val bulk
  unfold maxLen at hb
  obtain ⟨r, hr⟩ : ∃ r, Flds.left n (Flds.bulk l + b.size) = r := ⟨_, rfl⟩
  rw [hr]
  obtain ⟨a1, c1, rfl, _⟩ := Flds.is_form h.1
  have hb0 := (Below.refl w.heap.size w).alloc (Nat.le_refl _) (.cells #[.int .i64 s, .slice a1 l.length c1, .string b] 26)
  have HB0 := Num.hide hb0
  have HZ := Num.hide (Flds.szFieldS_any _ l n _ (Recs.is_stay h.1 (Nat.le_refl _) hb0) h.2 h0 h1)
  clear h hb0
  have hq0 : (0 : Int) ≤ (Flds.bulk l : Int) := by omega
  by_cases hl : (Flds.bulk l : Int) ≤ n
  · rw [Flds.left_yes hl] at HZ
    have dl : decide (n - (Flds.bulk l : Int) < 0) = false := by rw [decide_eq_false_iff_not]; omega
    by_cases hbb : n - (Flds.bulk l : Int) - (b.size : Int) < 0
    · obtain rfl : r = -1 := by rw [← hr]; exact Flds.left_no (by omega)
      clear hr
      generalize (Flds.bulk l : Int) = q at *
      go_enter Tryz.func7, Tryz.ntmps7
      go_wp2_with fail
      refine HZ.out.mono ?_
      rintro e w1 ⟨rfl, hb1⟩
      have k1 := (hb1.cell (p := ⟨w.heap.size, 2, none⟩) (by show w.heap.size < _; rw [World.size_alloc]; omega)).trans (cell_of_row _ _ _ _ _ _ (heap_alloc_new w _))
      simp only [List.getElem?_toArray, List.getElem?_cons_succ, List.getElem?_cons_zero] at k1
      have HB1 := Num.hide (HB0.out.trans (hb1.mono HB0.out.size))
      clear hb1 HB0 HZ
      go_wp2
      go_ret
      exact ⟨rfl, HB1.out⟩
    · have db : decide (n - (Flds.bulk l : Int) - (b.size : Int) < 0) = false := by rw [decide_eq_false_iff_not]; exact hbb
      obtain rfl : r = n - (Flds.bulk l : Int) - (b.size : Int) := by rw [← hr, Flds.left_yes (by omega)]; omega
      clear hr
      generalize (Flds.bulk l : Int) = q at *
      go_enter Tryz.func7, Tryz.ntmps7
      go_wp2_with fail
      refine HZ.out.mono ?_
      rintro e w1 ⟨rfl, hb1⟩
      have k1 := (hb1.cell (p := ⟨w.heap.size, 2, none⟩) (by show w.heap.size < _; rw [World.size_alloc]; omega)).trans (cell_of_row _ _ _ _ _ _ (heap_alloc_new w _))
      simp only [List.getElem?_toArray, List.getElem?_cons_succ, List.getElem?_cons_zero] at k1
      have HB1 := Num.hide (HB0.out.trans (hb1.mono HB0.out.size))
      clear hb1 HB0 HZ
      go_wp2
      go_ret
      exact ⟨rfl, HB1.out⟩
  · rw [Flds.left_no hl] at HZ
    obtain rfl : r = -1 := by rw [← hr]; exact Flds.left_no (by omega)
    clear hr
    go_enter Tryz.func7, Tryz.ntmps7
    go_wp2_with fail
    refine HZ.out.mono ?_
    rintro e w1 ⟨rfl, hb1⟩
    have HB1 := Num.hide (HB0.out.trans (hb1.mono HB0.out.size))
    clear hb1 HB0 HZ
    go_wp2
    go_ret
    exact ⟨rfl, HB1.out⟩
end Resp
end Go.Proofs.YtbcjpjhpobmpbaaGreatDoor
namespace Go.Proofs.YtbcjpjhpobmpbaaGreatDoor
open Go.RowKit
set_option linter.unusedVariables false
namespace Resp

set_option maxRecDepth 100000 in
set_option maxHeartbeats 2000000 in
theorem to_any (s : Int) (v : Value) (l : List Flds.Fld) (b : ByteArray) (w : World) (h : Flds.Is w v l) (hl : l.length ≤ 1048576) :
    Calls Tryz.prog 10 #[val s v b] w fun e w' => ∃ v', e = .returned (val s v' b) ∧ Flds.Own w.heap.size w' v' l ∧ Below w.heap.size w w' := by
  unfold val
  obtain ⟨a1, c1, rfl, _⟩ := Flds.is_form h
  have HI := Num.hide h
  clear h
  go_enter Tryz.func10, Tryz.ntmps10
  have HT := Num.hide (fun W h => Flds.toFieldS_any (.slice a1 l.length c1) l W h hl)
  have HB0 := Num.hide ((((Below.refl w.heap.size w).alloc (Nat.le_refl _) (.cells #[.int .i64 s, .slice a1 l.length c1, .string b] 26)).alloc (by simp) (.cells #[.int .i64 0, .slice none 0 0, .string ⟨#[]⟩] 35)).alloc (by simp; omega) (.cells #[.int .i64 s, .slice none 0 0, .string ⟨#[]⟩] 35))
  go_wp2_with fail
  refine (HT.out _ (Recs.is_stay HI.out (Nat.le_refl _) HB0.out)).mono ?_
  rintro e W1 ⟨v', rfl, ho, hb⟩
  obtain ⟨r0, r1, r2⟩ := Recs.three_rows w W1 _ _ _ hb
  obtain ⟨a2, c2, rfl⟩ := Recs.own_len ho
  have HO := Num.hide ho
  have HB1 := Num.hide (HB0.out.trans (hb.mono HB0.out.size))
  have k0 := Recs.box_cell r0 2
  have o0 := Recs.box_cell r2 0
  have o1 := Recs.box_cell r2 1
  have o2 := Recs.box_cell r2 2
  have t0 := Recs.box_cell r1 0
  have t1 := Recs.box_cell r1 1
  have t2 := Recs.box_cell r1 2
  have z0 := Recs.box_thaw r2 0
  have z1 := Recs.box_thaw r2 1
  have z2 := Recs.box_thaw r2 2
  have y0 := Recs.box_thaw r1 0
  have y1 := Recs.box_thaw r1 1
  have y2 := Recs.box_thaw r1 2
  simp only [List.getElem?_toArray, List.getElem?_cons_succ, List.getElem?_cons_zero] at k0 o0 o1 o2 t0 t1 t2
  clear ho hb r0 r1 r2 HT HI
  have hS : (((w.alloc (.cells #[.int .i64 s, .slice a1 l.length c1, .string b] 26)).alloc (.cells #[.int .i64 0, .slice none 0 0, .string ⟨#[]⟩] 35)).alloc (.cells #[.int .i64 s, .slice none 0 0, .string ⟨#[]⟩] 35)).heap.size = w.heap.size + 1 + 1 + 1 := by rw [World.size_alloc, World.size_alloc, World.size_alloc]
  have HP := Num.hide (((((((Recs.Past.refl w.heap.size (w.heap.size + 1 + 1 + 1) W1).set (w.heap.size + 1 + 1) 1 (.slice a2 l.length c2) (by omega) (by omega)).set (w.heap.size + 1 + 1) 2 (.string b) (by omega) (by omega)).set (w.heap.size + 1) 0 (.int .i64 s) (by omega) (by omega)).set (w.heap.size + 1) 1 (.slice a2 l.length c2) (by omega) (by omega)).set (w.heap.size + 1) 2 (.string b) (by omega) (by omega)))
  have HO2 : Hid (Flds.Own (w.heap.size + 1 + 1 + 1) W1 (.slice a2 l.length c2) l) := by rw [← hS]; exact HO
  clear hS HO HB0
  go_wp2
  exact bodyPost_ret (v := .agg #[.int .i64 s, .slice a2 l.length c2, .string b]) (by simp [results, Tryz.results10, go_sem, *]) rfl ⟨_, rfl, Recs.own_mono (Recs.own_past HO2.out HP.out) (by omega), HB1.out.trans HP.out.below⟩
end Resp
end Go.Proofs.YtbcjpjhpobmpbaaGreatDoor
