/-
  FieldsOk of the specification: are fields right? What was there stays.
-/
import Derived.Test.YtbcjpjhpobmpbaaGreatDoorFldOkSpec
namespace Go.Proofs.YtbcjpjhpobmpbaaGreatDoor
open Go.RowKit
set_option linter.unusedVariables false
namespace Flds

theorem all_more (l : List Fld) (k : Nat) (h : k < l.length) : (l.take (k + 1)).all okF = ((l.take k).all okF && okF l[k]) := by
  rw [List.take_succ_eq_append_getElem h, List.all_append]; simp
theorem not_ok (l : List Fld) (k : Nat) (h : k < l.length) (hf : okF l[k] = false) : ok l = false := by
  unfold ok
  have : l.all okF = false := by rw [List.all_eq_false]; exact ⟨l[k], List.getElem_mem h, by rw [hf]; decide⟩
  rw [this, Bool.false_and]
set_option maxRecDepth 100000 in
set_option maxHeartbeats 1000000 in
theorem ok_spec (v : Value) (l : List Fld) (w : World) (h : Is w v l) (hz : ∀ f ∈ l, f.1.size ≤ maxLen ∧ f.2.size ≤ maxLen) (hl : l.length ≤ 1099511627776) :
    Calls Tryz.prog 87 #[v] w fun e w' => e = .returned (.bool (ok l)) ∧ Below w.heap.size w w' := by
  obtain ⟨a, c, rfl, h2⟩ := is_form h
  have HA := Num.hide h2
  have HZ := Num.hide hz
  clear h h2 hz
  obtain ⟨r, hr⟩ : ∃ r, ok l = r := ⟨_, rfl⟩
  rw [hr]
  have HR := Num.hide hr
  clear hr
  go_enter Tryz.func87, Tryz.ntmps87
  go_wp2
  go_loopw [3] (fun iv wr => ∃ i : Nat, i ≤ l.length ∧ iv = .int .i64 (i : Int) ∧ Hid ((l.take i).all okF = true) ∧ Hid (Below w.heap.size w wr)) (fun iv _ => l.length - (intOf iv).toNat)
  case atStart => exact ⟨0, by omega, rfl, Num.hide (by simp), Below.refl _ _⟩
  case round =>
    obtain ⟨i, hi, rfl, HO, HB⟩ := hrel
    by_cases hlt : i < l.length
    · obtain ⟨b, o, rfl, hc, hmx, hblt, hcell⟩ := Num.unhide HA (by omega)
      obtain ⟨g1, g2⟩ := hcell i hlt
      have hz := Num.unhide HZ l[i] (List.getElem_mem hlt)
      have c1 : wr.cell? ⟨b, o + i * 2, none⟩ = some (.string l[i].1) := by rw [HB.out.cell (p := ⟨b, o + i * 2, none⟩) hblt]; exact g1
      have c2 : wr.cell? ⟨b, o + i * 2 + 1, none⟩ = some (.string l[i].2) := by rw [HB.out.cell (p := ⟨b, o + i * 2 + 1, none⟩) hblt]; exact g2
      have HM := Num.hide (all_more l i hlt)
      have HN := Num.hide (not_ok l i hlt)
      clear hcell g1 g2
      generalize l[i] = f at c1 c2 hz HM HN
      obtain ⟨x, y⟩ := f
      simp only at c1 c2 hz
      have HC := Num.hide (fun W => okF_spec x y W hz.1 hz.2)
      cases hok : okF (x, y) with
      | true =>
        rw [hok] at HC
        have HO2 : Hid ((l.take (i + 1)).all okF = true) := by show _ = _; rw [HM.out, HO.out, hok]; rfl
        clear hok
        go_wp2_with fail
        refine (Num.unhide HC _).mono ?_
        rintro e w1 ⟨rfl, hb⟩
        have HB2 := Num.hide (HB.out.trans (hb.mono HB.out.size))
        clear hb
        go_wp2
        go_roundw
        case rel => exact ⟨i + 1, by omega, by go_num, HO2, HB2⟩
        case measure => simp [intOf]; omega
      | false =>
        rw [hok] at HC
        have hf := Num.unhide HN hok
        rw [HR.out] at hf
        subst hf
        clear hok
        go_wp2_with fail
        refine (Num.unhide HC _).mono ?_
        rintro e w1 ⟨rfl, hb⟩
        have HB2 := Num.hide (HB.out.trans (hb.mono HB.out.size))
        clear hb
        go_wp2
        go_ret
        exact ⟨rfl, HB2.out⟩
    · obtain rfl : i = l.length := by omega
      have hr := HR.out
      have ho := HO.out
      rw [List.take_of_length_le (Nat.le_refl _)] at ho
      unfold ok at hr
      rw [ho, Bool.true_and] at hr
      have HR2 := Num.hide hr
      clear hr ho
      by_cases h12 : l.length ≤ 12
      · have d : decide ((l.length : Int) ≤ 12) = true := by simp; omega
        have ht : r = true := by rw [← HR2.out]; exact decide_eq_true h12
        subst ht
        go_wp2
        all_goals go_ret
        all_goals exact ⟨rfl, HB.out⟩
      · have d : decide ((l.length : Int) ≤ 12) = false := by simp; omega
        have ht : r = false := by rw [← HR2.out]; exact decide_eq_false h12
        subst ht
        go_wp2
        all_goals go_ret
        all_goals exact ⟨rfl, HB.out⟩
end Flds
end Go.Proofs.YtbcjpjhpobmpbaaGreatDoor
