/-
  eqFieldS, markFieldS and heldFieldS of the laws: lists of fields compared, marked, and held against their marks.
-/
import Derived.Test.YtbeljhonikhdjaaDoorFldTo
import Derived.Test.YtbeljhonikhdjaaDoorMarkText
import Derived.Deep.QuietTactic
import Derived.BigQuiet
import Derived.Deep.RegionWith
namespace Go.Proofs.YtbeljhonikhdjaaDoor
open Go.RowKit
set_option linter.unusedVariables false
namespace Flds

theorem text_ne {x y : ByteArray} (h : ¬ x = y) : (x.toList == y.toList) = false := by
  rw [beq_eq_false_iff_ne, ByteArray.toList_eq, ByteArray.toList_eq]
  intro e; exact h (ByteArray.ext (Array.toList_inj.1 e))
set_option maxRecDepth 100000 in
set_option maxHeartbeats 1000000 in
theorem eqField_any (x y x' y' : ByteArray) (w : World) : Calls Tryd.prog 47 #[.agg #[.string x, .string y], .agg #[.string x', .string y']] w fun e w' => e = .returned (.bool (decide (((x, y) : Fld) = (x', y')))) ∧ Below w.heap.size w w' := by
  obtain ⟨r, hr⟩ : ∃ r, decide (((x, y) : Fld) = (x', y')) = r := ⟨_, rfl⟩
  rw [hr]
  by_cases h1 : x = x'
  · subst h1
    by_cases h2 : y = y'
    · subst h2
      rw [decide_eq_true rfl] at hr
      subst hr
      go_enter Tryd.func47, Tryd.ntmps47
      go_wp2
      go_ret
      exact ⟨rfl, ((Below.refl _ _).alloc (Nat.le_refl _) _).alloc (by simp) _⟩
    · rw [decide_eq_false (fun h => h2 (congrArg Prod.snd h))] at hr
      subst hr
      have d := text_ne h2
      have d' : (y.toList != y'.toList) = true := by rw [bne, d]; rfl
      clear h2
      go_enter Tryd.func47, Tryd.ntmps47
      go_wp2
      go_ret
      exact ⟨rfl, ((Below.refl _ _).alloc (Nat.le_refl _) _).alloc (by simp) _⟩
  · rw [decide_eq_false (fun h => h1 (congrArg Prod.fst h))] at hr
    subst hr
    have d := text_ne h1
    have d' : (x.toList != x'.toList) = true := by rw [bne, d]; rfl
    clear h1
    go_enter Tryd.func47, Tryd.ntmps47
    go_wp2
    go_ret
    exact ⟨rfl, ((Below.refl _ _).alloc (Nat.le_refl _) _).alloc (by simp) _⟩

theorem take_succ_eq {α : Type} (a b : List α) (k : Nat) (ha : k < a.length) (hb : k < b.length) : a.take (k + 1) = b.take (k + 1) ↔ a.take k = b.take k ∧ a[k] = b[k] := by
  rw [List.take_succ_eq_append_getElem ha, List.take_succ_eq_append_getElem hb]
  constructor
  · intro h
    have h1 := List.append_inj h (by rw [List.length_take, List.length_take]; omega)
    exact ⟨h1.1, by simpa using h1.2⟩
  · rintro ⟨h1, h2⟩; rw [h1, h2]

set_option maxRecDepth 100000 in
set_option maxHeartbeats 2000000 in
theorem eq_any (va vb : Value) (la lb : List Fld) (w : World) (ha : Is w va la) (hb : Is w vb lb) (hla : la.length ≤ 1099511627776) : Calls Tryd.prog 21 #[va, vb] w fun e w' => e = .returned (.bool (decide (la = lb))) ∧ Below w.heap.size w w' := by
  obtain ⟨aa, ca, rfl, ha2⟩ := is_form ha
  obtain ⟨ab, cb, rfl, hb2⟩ := is_form hb
  have HA := Num.hide ha2
  have HB := Num.hide hb2
  clear ha hb ha2 hb2
  obtain ⟨r, hr⟩ : ∃ r, decide (la = lb) = r := ⟨_, rfl⟩
  rw [hr]
  have HR := Num.hide hr
  clear hr
  by_cases hl : la.length = lb.length
  · have hne : ((la.length : Int) != (lb.length : Int)) = false := by rw [hl]; simp
    have HL := Num.hide hl
    clear hl
    go_enter Tryd.func21, Tryd.ntmps21
    go_wp2
    clear hne
    go_loopw [5] (fun i wr => ∃ k : Nat, k ≤ la.length ∧ i = .int .i64 (k : Int) ∧ Hid (Below w.heap.size w wr) ∧ Hid (la.take k = lb.take k)) (fun i _ => la.length - (intOf i).toNat)
    case atStart => exact ⟨0, by omega, rfl, Below.refl _ _, by simp [Hid]⟩
    case round =>
      obtain ⟨k, hk, rfl, HW, HT⟩ := hrel
      by_cases hlt : k < la.length
      · have hlt2 : k < lb.length := by have := HL.out; omega
        obtain ⟨ba, oa, rfl, hca, hma, hba, hcella⟩ := Num.unhide HA (by omega)
        obtain ⟨bb, ob, rfl, hcb, hmb, hbb, hcellb⟩ := Num.unhide HB (by omega)
        obtain ⟨ga1, ga2⟩ := hcella k hlt
        obtain ⟨gb1, gb2⟩ := hcellb k hlt2
        have c1 : wr.cell? ⟨ba, oa + k * 2, none⟩ = some (.string la[k].1) := by rw [HW.out.cell (p := ⟨ba, oa + k * 2, none⟩) hba]; exact ga1
        have c2 : wr.cell? ⟨ba, oa + k * 2 + 1, none⟩ = some (.string la[k].2) := by rw [HW.out.cell (p := ⟨ba, oa + k * 2 + 1, none⟩) hba]; exact ga2
        have c3 : wr.cell? ⟨bb, ob + k * 2, none⟩ = some (.string lb[k].1) := by rw [HW.out.cell (p := ⟨bb, ob + k * 2, none⟩) hbb]; exact gb1
        have c4 : wr.cell? ⟨bb, ob + k * 2 + 1, none⟩ = some (.string lb[k].2) := by rw [HW.out.cell (p := ⟨bb, ob + k * 2 + 1, none⟩) hbb]; exact gb2
        have HS := Num.hide (take_succ_eq la lb k hlt hlt2)
        clear hcella hcellb ga1 ga2 gb1 gb2
        generalize la[k] = f at c1 c2 HS
        generalize lb[k] = g at c3 c4 HS
        obtain ⟨x, y⟩ := f
        obtain ⟨x', y'⟩ := g
        simp only at c1 c2 c3 c4
        have HC := Num.hide (fun W => eqField_any x y x' y' W)
        by_cases he : ((x, y) : Fld) = (x', y')
        · rw [decide_eq_true he] at HC
          have HT2 : Hid (la.take (k + 1) = lb.take (k + 1)) := HS.out.2 ⟨HT.out, he⟩
          clear he
          go_wp2
          go_region_with (go_at_call 47; refine (Num.unhide HC _).mono ?_; rintro e w2 ⟨rfl, hb2⟩)
          all_goals
            have HW2 := Num.hide (HW.out.drew.trans (hb2.mono HW.out.size))
            clear hb2
            go_wp2
            go_roundw
            case rel => exact ⟨k + 1, by omega, by go_num, HW2, HT2⟩
            case measure => simp [intOf]; omega
        · rw [decide_eq_false he] at HC
          have hf : r = false := by
            rw [← HR.out]
            refine decide_eq_false (fun h => he ?_)
            exact (HS.out.1 (by rw [h])).2
          subst hf
          clear he
          go_wp2
          go_region_with (go_at_call 47; refine (Num.unhide HC _).mono ?_; rintro e w2 ⟨rfl, hb2⟩)
          all_goals
            have HW2 := Num.hide (HW.out.drew.trans (hb2.mono HW.out.size))
            clear hb2
            go_wp2
            go_ret
            exact ⟨rfl, HW2.out⟩
      · have ht : r = true := by
          rw [← HR.out]
          refine decide_eq_true ?_
          have h := HT.out
          rwa [List.take_of_length_le (by omega), List.take_of_length_le (by have := HL.out; omega)] at h
        subst ht
        go_wp2
        go_ret
        exact ⟨rfl, HW.out⟩
  · have hne : ((la.length : Int) != (lb.length : Int)) = true := by rw [bne_iff_ne]; omega
    have hf : r = false := by rw [← HR.out]; exact decide_eq_false (fun h => hl (by rw [h]))
    subst hf
    go_enter Tryd.func21, Tryd.ntmps21
    go_wp2
    go_ret
    exact ⟨rfl, Below.refl _ _⟩

/-- so many marked fields from k on -/
def marks (k : Int) (n : Nat) : List Fld := (List.range n).map fun (i : Nat) => (Mark.text (k + 2 * (i : Int)), Mark.text (k + 2 * (i : Int) + 1))
theorem length_marks (k : Int) (n : Nat) : (marks k n).length = n := by simp [marks]
theorem marks_succ (k : Int) (n : Nat) : marks k (n + 1) = marks k n ++ [(Mark.text (k + 2 * (n : Int)), Mark.text (k + 2 * (n : Int) + 1))] := by simp [marks, List.range_succ]
theorem marks_at (k : Int) (n i : Nat) (h : i < n) : (marks k n)[i]'(by rw [length_marks]; exact h) = (Mark.text (k + 2 * (i : Int)), Mark.text (k + 2 * (i : Int) + 1)) := by simp [marks]
theorem set_marks (k : Int) (l : List Fld) (i : Nat) (h : i < l.length) : (marks k i ++ l.drop i).set i (Mark.text (k + 2 * (i : Int)), Mark.text (k + 2 * (i : Int) + 1)) = marks k (i + 1) ++ l.drop (i + 1) := by
  rw [List.set_append_right _ _ (by rw [length_marks]; exact Nat.le_refl _), length_marks, Nat.sub_self, List.drop_eq_getElem_cons h, List.set_cons_zero, marks_succ, List.append_assoc]; rfl

set_option maxRecDepth 100000 in
set_option maxHeartbeats 1000000 in
theorem mark_any (B : Nat) (v : Value) (l : List Fld) (k : Int) (w : World) (h : Own B w v l) (hl : l.length ≤ 1099511627776) (h0 : 0 ≤ k) (h1 : k ≤ 1099511627776) :
    Calls Tryd.prog 24 #[v, .int .i64 k] w fun e w' => e = .returned (.int .i64 (k + 2 * l.length)) ∧ Own B w' v (marks k l.length) ∧ w.grownBy w' v.ownBlock := by
  have HO := Num.hide h
  obtain ⟨a, c, rfl⟩ := Recs.own_len h
  clear h
  go_enter Tryd.func24, Tryd.ntmps24
  go_wp2
  go_loopw [1, 5] (fun kv iv wr => ∃ i : Nat, i ≤ l.length ∧ kv = .int .i64 (k + 2 * i) ∧ iv = .int .i64 (i : Int) ∧ Hid (Own B wr (.slice a l.length c) (marks k i ++ l.drop i)) ∧ Hid (w.grownBy wr (Value.slice a l.length c).ownBlock)) (fun _ iv _ => l.length - (intOf iv).toNat)
  case atStart => exact ⟨0, by omega, by simp, rfl, HO, Recs.grown_refl _ _⟩
  case round =>
    obtain ⟨i, hi, rfl, rfl, HO2, HG⟩ := hrel
    by_cases hlt : i < l.length
    · have hlen : (marks k i ++ l.drop i).length = l.length := by rw [List.length_append, length_marks, List.length_drop]; omega
      have HM1 := Num.hide (fun W => Mark.markText_any (k + 2 * (i : Int)) W (by omega))
      have HM2 := Num.hide (fun W => Mark.markText_any (k + 2 * (i : Int) + 1) W (by omega))
      have HT := Num.hide (set_marks k l i hlt)
      generalize Mark.text (k + 2 * (i : Int)) = t1 at HM1 HT
      generalize Mark.text (k + 2 * (i : Int) + 1) = t2 at HM2 HT
      generalize marks k i ++ l.drop i = L at HO2 hlen HT
      go_wp2_with fail
      refine (HM1.out _).mono ?_
      rintro e w1 ⟨rfl, hb1⟩
      have HO3 := Num.hide (Recs.own_below HO2.out hb1)
      obtain ⟨g, c', hv, hc, hm, hB, hg, k1, k2, hfz, q1, q2, q3⟩ := own_put HO3.out i (by omega)
      rw [hlen] at hv hc
      simp only [Value.slice.injEq, true_and] at hv
      obtain ⟨rfl, rfl⟩ := hv
      obtain ⟨hs1, hs2⟩ := q1 t1
      have HS1 := Num.hide hs1
      have HG2 := Num.hide (Recs.grown_trans HG.out (Recs.grown_trans (Recs.grown_of_below hb1 _) hs2))
      obtain ⟨o1, ho1⟩ : ∃ u, w1.cell? ⟨g, i * 2, none⟩ = some u := ⟨_, k1⟩
      have f1 := hfz (i * 2)
      have HX : Hid (∃ x, L[i]? = some x) := ⟨_, List.getElem?_eq_getElem (by omega)⟩
      have HS1' : Hid (∃ z, Own B (w1.setCell ⟨g, i * 2, none⟩ (.string t1)) (.slice (some ⟨g, 0, none⟩) l.length c) (L.set i (t1, z))) := ⟨_, hs1⟩
      have HLen := Num.hide hlen
      clear hs1 hs2 q1 q2 q3 k1 k2 hfz HS1 hb1 hlen
      go_wp2_with fail
      refine (HM2.out _).mono ?_
      rintro e w2 ⟨rfl, hb2⟩
      obtain ⟨z, hz⟩ := HS1'.out
      have HO4 := Num.hide (Recs.own_below hz hb2)
      obtain ⟨g', c2, hv, hc2, hm2, hB2, hg2, k1, k2, hfz, q1, q2, q3⟩ := own_put HO4.out i (by rw [List.length_set]; have := HLen.out; omega)
      rw [List.length_set, HLen.out] at hv hc2
      simp only [Value.slice.injEq, Option.some.injEq, Addr.mk.injEq, and_true, true_and] at hv
      obtain ⟨rfl, rfl⟩ := hv
      obtain ⟨hs1, hs2⟩ := q2 t2
      rw [List.set_set] at hs1
      have HS2 : Hid (Own B (w2.setCell ⟨g, i * 2 + 1, none⟩ (.string t2)) (.slice (some ⟨g, 0, none⟩) l.length c) (marks k (i + 1) ++ l.drop (i + 1))) := by
        rw [List.getElem_set_self, HT.out] at hs1; exact hs1
      have HG3 := Num.hide (Recs.grown_trans HG2.out (Recs.grown_trans (Recs.grown_of_below hb2 _) hs2))
      obtain ⟨o2, ho2⟩ : ∃ u, w2.cell? ⟨g, i * 2 + 1, none⟩ = some u := ⟨_, k2⟩
      have f2 := hfz (i * 2 + 1)
      clear hs1 hs2 q1 q2 q3 k1 k2 hfz hb2 hz ho1 f1
      go_wp2
      go_roundw
      case rel => exact ⟨i + 1, by omega, by go_num, by go_num, HS2, HG3⟩
      case measure => simp [intOf]; omega
    · obtain rfl : i = l.length := by omega
      have ho := HO2.out
      rw [List.drop_length, List.append_nil] at ho
      have HO4 := Num.hide ho
      clear ho
      go_wp2
      go_ret
      exact ⟨rfl, HO4.out, HG.out⟩
end Flds
end Go.Proofs.YtbeljhonikhdjaaDoor
