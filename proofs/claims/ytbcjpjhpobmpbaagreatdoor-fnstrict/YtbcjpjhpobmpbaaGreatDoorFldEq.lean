/-
  eqField and eqFieldS of the laws: fields held against each other.
-/
import Derived.Test.YtbcjpjhpobmpbaaGreatDoorFldOwn
import Derived.Deep.QuietTactic
import Derived.BigQuiet
import Derived.Deep.RegionWith
namespace Go.Proofs.YtbcjpjhpobmpbaaGreatDoor
open Go.RowKit
set_option linter.unusedVariables false
namespace Flds

theorem text_ne {x y : ByteArray} (h : ¬ x = y) : (x.toList == y.toList) = false := by
  rw [beq_eq_false_iff_ne, ByteArray.toList_eq, ByteArray.toList_eq]
  intro e; exact h (ByteArray.ext (Array.toList_inj.1 e))
set_option maxRecDepth 100000 in
set_option maxHeartbeats 1000000 in
theorem eqField_any (x y x' y' : ByteArray) (w : World) : Calls Tryz.prog 62 #[.agg #[.string x, .string y], .agg #[.string x', .string y']] w fun e w' => e = .returned (.bool (decide (((x, y) : Fld) = (x', y')))) ∧ Below w.heap.size w w' := by
  obtain ⟨r, hr⟩ : ∃ r, decide (((x, y) : Fld) = (x', y')) = r := ⟨_, rfl⟩
  rw [hr]
  by_cases h1 : x = x'
  · subst h1
    by_cases h2 : y = y'
    · subst h2
      rw [decide_eq_true rfl] at hr
      subst hr
      go_enter Tryz.func62, Tryz.ntmps62
      go_wp2
      go_ret
      exact ⟨rfl, ((Below.refl _ _).alloc (Nat.le_refl _) _).alloc (by simp) _⟩
    · rw [decide_eq_false (fun h => h2 (congrArg Prod.snd h))] at hr
      subst hr
      have d := text_ne h2
      have d' : (y.toList != y'.toList) = true := by rw [bne, d]; rfl
      clear h2
      go_enter Tryz.func62, Tryz.ntmps62
      go_wp2
      go_ret
      exact ⟨rfl, ((Below.refl _ _).alloc (Nat.le_refl _) _).alloc (by simp) _⟩
  · rw [decide_eq_false (fun h => h1 (congrArg Prod.fst h))] at hr
    subst hr
    have d := text_ne h1
    have d' : (x.toList != x'.toList) = true := by rw [bne, d]; rfl
    clear h1
    go_enter Tryz.func62, Tryz.ntmps62
    go_wp2
    go_ret
    exact ⟨rfl, ((Below.refl _ _).alloc (Nat.le_refl _) _).alloc (by simp) _⟩

theorem take_succ_eq {α : Type} (a b : List α) (k : Nat) (ha : k < a.length) (hb : k < b.length) : a.take (k + 1) = b.take (k + 1) ↔ a.take k = b.take k ∧ a[k] = b[k] := by
  rw [List.take_succ_eq_append_getElem ha, List.take_succ_eq_append_getElem hb]
  constructor
  · intro h
    have h1 := List.append_inj h (by rw [List.length_take, List.length_take]; omega)
    exact ⟨h1.1, by simpa using h1.2⟩
  · rintro ⟨h1, h2⟩; rw [h1, h2]

set_option maxRecDepth 100000 in
set_option maxHeartbeats 2000000 in
theorem eq_any (va vb : Value) (la lb : List Fld) (w : World) (ha : Is w va la) (hb : Is w vb lb) (hla : la.length ≤ 1099511627776) : Calls Tryz.prog 29 #[va, vb] w fun e w' => e = .returned (.bool (decide (la = lb))) ∧ Below w.heap.size w w' := by
  obtain ⟨aa, ca, rfl, ha2⟩ := is_form ha
  obtain ⟨ab, cb, rfl, hb2⟩ := is_form hb
  have HA := Num.hide ha2
  have HB := Num.hide hb2
  clear ha hb ha2 hb2
  obtain ⟨r, hr⟩ : ∃ r, decide (la = lb) = r := ⟨_, rfl⟩
  rw [hr]
  have HR := Num.hide hr
  clear hr
  by_cases hl : la.length = lb.length
  · have hne : ((la.length : Int) != (lb.length : Int)) = false := by rw [hl]; simp
    have HL := Num.hide hl
    clear hl
    go_enter Tryz.func29, Tryz.ntmps29
    go_wp2
    clear hne
    go_loopw [5] (fun i wr => ∃ k : Nat, k ≤ la.length ∧ i = .int .i64 (k : Int) ∧ Hid (Below w.heap.size w wr) ∧ Hid (la.take k = lb.take k)) (fun i _ => la.length - (intOf i).toNat)
    case atStart => exact ⟨0, by omega, rfl, Below.refl _ _, by simp [Hid]⟩
    case round =>
      obtain ⟨k, hk, rfl, HW, HT⟩ := hrel
      by_cases hlt : k < la.length
      · have hlt2 : k < lb.length := by have := HL.out; omega
        obtain ⟨ba, oa, rfl, hca, hma, hba, hcella⟩ := Num.unhide HA (by omega)
        obtain ⟨bb, ob, rfl, hcb, hmb, hbb, hcellb⟩ := Num.unhide HB (by omega)
        obtain ⟨ga1, ga2⟩ := hcella k hlt
        obtain ⟨gb1, gb2⟩ := hcellb k hlt2
        have c1 : wr.cell? ⟨ba, oa + k * 2, none⟩ = some (.string la[k].1) := by rw [HW.out.cell (p := ⟨ba, oa + k * 2, none⟩) hba]; exact ga1
        have c2 : wr.cell? ⟨ba, oa + k * 2 + 1, none⟩ = some (.string la[k].2) := by rw [HW.out.cell (p := ⟨ba, oa + k * 2 + 1, none⟩) hba]; exact ga2
        have c3 : wr.cell? ⟨bb, ob + k * 2, none⟩ = some (.string lb[k].1) := by rw [HW.out.cell (p := ⟨bb, ob + k * 2, none⟩) hbb]; exact gb1
        have c4 : wr.cell? ⟨bb, ob + k * 2 + 1, none⟩ = some (.string lb[k].2) := by rw [HW.out.cell (p := ⟨bb, ob + k * 2 + 1, none⟩) hbb]; exact gb2
        have HS := Num.hide (take_succ_eq la lb k hlt hlt2)
        clear hcella hcellb ga1 ga2 gb1 gb2
        generalize la[k] = f at c1 c2 HS
        generalize lb[k] = g at c3 c4 HS
        obtain ⟨x, y⟩ := f
        obtain ⟨x', y'⟩ := g
        simp only at c1 c2 c3 c4
        have HC := Num.hide (fun W => eqField_any x y x' y' W)
        by_cases he : ((x, y) : Fld) = (x', y')
        · rw [decide_eq_true he] at HC
          have HT2 : Hid (la.take (k + 1) = lb.take (k + 1)) := HS.out.2 ⟨HT.out, he⟩
          clear he
          go_wp2
          go_region_with (go_at_call 62; refine (Num.unhide HC _).mono ?_; rintro e w2 ⟨rfl, hb2⟩)
          all_goals
            have HW2 := Num.hide (HW.out.drew.trans (hb2.mono HW.out.size))
            clear hb2
            go_wp2
            go_roundw
            case rel => exact ⟨k + 1, by omega, by go_num, HW2, HT2⟩
            case measure => simp [intOf]; omega
        · rw [decide_eq_false he] at HC
          have hf : r = false := by
            rw [← HR.out]
            refine decide_eq_false (fun h => he ?_)
            exact (HS.out.1 (by rw [h])).2
          subst hf
          clear he
          go_wp2
          go_region_with (go_at_call 62; refine (Num.unhide HC _).mono ?_; rintro e w2 ⟨rfl, hb2⟩)
          all_goals
            have HW2 := Num.hide (HW.out.drew.trans (hb2.mono HW.out.size))
            clear hb2
            go_wp2
            go_ret
            exact ⟨rfl, HW2.out⟩
      · have ht : r = true := by
          rw [← HR.out]
          refine decide_eq_true ?_
          have h := HT.out
          rwa [List.take_of_length_le (by omega), List.take_of_length_le (by have := HL.out; omega)] at h
        subst ht
        go_wp2
        go_ret
        exact ⟨rfl, HW.out⟩
  · have hne : ((la.length : Int) != (lb.length : Int)) = true := by rw [bne_iff_ne]; omega
    have hf : r = false := by rw [← HR.out]; exact decide_eq_false (fun h => hl (by rw [h]))
    subst hf
    go_enter Tryz.func29, Tryz.ntmps29
    go_wp2
    go_ret
    exact ⟨rfl, Below.refl _ _⟩
end Flds
end Go.Proofs.YtbcjpjhpobmpbaaGreatDoor
