/-
  markFieldS of the laws: a list of fields marked.
-/
import Derived.Test.YtanimnjiolgknaaDoorFldEq
import Derived.Test.YtanimnjiolgknaaDoorMarkText
namespace Go.Proofs.YtanimnjiolgknaaDoor
open Go.RowKit
set_option linter.unusedVariables false
namespace Flds

/-- so many marked fields from k on -/
def marks (k : Int) (n : Nat) : List Fld := (List.range n).map fun (i : Nat) => (Mark.text (k + 2 * (i : Int)), Mark.text (k + 2 * (i : Int) + 1))
theorem length_marks (k : Int) (n : Nat) : (marks k n).length = n := by simp [marks]
theorem marks_succ (k : Int) (n : Nat) : marks k (n + 1) = marks k n ++ [(Mark.text (k + 2 * (n : Int)), Mark.text (k + 2 * (n : Int) + 1))] := by simp [marks, List.range_succ]
theorem marks_at (k : Int) (n i : Nat) (h : i < n) : (marks k n)[i]'(by rw [length_marks]; exact h) = (Mark.text (k + 2 * (i : Int)), Mark.text (k + 2 * (i : Int) + 1)) := by simp [marks]
theorem set_marks (k : Int) (l : List Fld) (i : Nat) (h : i < l.length) : (marks k i ++ l.drop i).set i (Mark.text (k + 2 * (i : Int)), Mark.text (k + 2 * (i : Int) + 1)) = marks k (i + 1) ++ l.drop (i + 1) := by
  rw [List.set_append_right _ _ (by rw [length_marks]; exact Nat.le_refl _), length_marks, Nat.sub_self, List.drop_eq_getElem_cons h, List.set_cons_zero, marks_succ, List.append_assoc]; rfl

set_option maxRecDepth 100000 in
set_option maxHeartbeats 1000000 in
theorem mark_any (B : Nat) (v : Value) (l : List Fld) (k : Int) (w : World) (h : Own B w v l) (hl : l.length ≤ 1099511627776) (h0 : 0 ≤ k) (h1 : k ≤ 1099511627776) :
    Calls Tryd.prog 20 #[v, .int .i64 k] w fun e w' => e = .returned (.int .i64 (k + 2 * l.length)) ∧ Own B w' v (marks k l.length) ∧ w.grownBy w' v.ownBlock := by
  have HO := Num.hide h
  obtain ⟨a, c, rfl⟩ := Recs.own_len h
  clear h
  go_enter Tryd.func20, Tryd.ntmps20
  go_wp2
  go_loopw [1, 5] (fun kv iv wr => ∃ i : Nat, i ≤ l.length ∧ kv = .int .i64 (k + 2 * i) ∧ iv = .int .i64 (i : Int) ∧ Hid (Own B wr (.slice a l.length c) (marks k i ++ l.drop i)) ∧ Hid (w.grownBy wr (Value.slice a l.length c).ownBlock)) (fun _ iv _ => l.length - (intOf iv).toNat)
  case atStart => exact ⟨0, by omega, by simp, rfl, HO, Recs.grown_refl _ _⟩
  case round =>
    obtain ⟨i, hi, rfl, rfl, HO2, HG⟩ := hrel
    by_cases hlt : i < l.length
    · have hlen : (marks k i ++ l.drop i).length = l.length := by rw [List.length_append, length_marks, List.length_drop]; omega
      have HM1 := Num.hide (fun W => Mark.markText_any (k + 2 * (i : Int)) W (by omega))
      have HM2 := Num.hide (fun W => Mark.markText_any (k + 2 * (i : Int) + 1) W (by omega))
      have HT := Num.hide (set_marks k l i hlt)
      generalize Mark.text (k + 2 * (i : Int)) = t1 at HM1 HT
      generalize Mark.text (k + 2 * (i : Int) + 1) = t2 at HM2 HT
      generalize marks k i ++ l.drop i = L at HO2 hlen HT
      go_wp2_with fail
      refine (HM1.out _).mono ?_
      rintro e w1 ⟨rfl, hb1⟩
      have HO3 := Num.hide (Recs.own_below HO2.out hb1)
      obtain ⟨g, c', hv, hc, hm, hB, hg, k1, k2, hfz, q1, q2, q3⟩ := own_put HO3.out i (by omega)
      rw [hlen] at hv hc
      simp only [Value.slice.injEq, true_and] at hv
      obtain ⟨rfl, rfl⟩ := hv
      obtain ⟨hs1, hs2⟩ := q1 t1
      have HS1 := Num.hide hs1
      have HG2 := Num.hide (Recs.grown_trans HG.out (Recs.grown_trans (Recs.grown_of_below hb1 _) hs2))
      obtain ⟨o1, ho1⟩ : ∃ u, w1.cell? ⟨g, i * 2, none⟩ = some u := ⟨_, k1⟩
      have f1 := hfz (i * 2)
      have HX : Hid (∃ x, L[i]? = some x) := ⟨_, List.getElem?_eq_getElem (by omega)⟩
      have HS1' : Hid (∃ z, Own B (w1.setCell ⟨g, i * 2, none⟩ (.string t1)) (.slice (some ⟨g, 0, none⟩) l.length c) (L.set i (t1, z))) := ⟨_, hs1⟩
      have HLen := Num.hide hlen
      clear hs1 hs2 q1 q2 q3 k1 k2 hfz HS1 hb1 hlen
      go_wp2_with fail
      refine (HM2.out _).mono ?_
      rintro e w2 ⟨rfl, hb2⟩
      obtain ⟨z, hz⟩ := HS1'.out
      have HO4 := Num.hide (Recs.own_below hz hb2)
      obtain ⟨g', c2, hv, hc2, hm2, hB2, hg2, k1, k2, hfz, q1, q2, q3⟩ := own_put HO4.out i (by rw [List.length_set]; have := HLen.out; omega)
      rw [List.length_set, HLen.out] at hv hc2
      simp only [Value.slice.injEq, Option.some.injEq, Addr.mk.injEq, and_true, true_and] at hv
      obtain ⟨rfl, rfl⟩ := hv
      obtain ⟨hs1, hs2⟩ := q2 t2
      rw [List.set_set] at hs1
      have HS2 : Hid (Own B (w2.setCell ⟨g, i * 2 + 1, none⟩ (.string t2)) (.slice (some ⟨g, 0, none⟩) l.length c) (marks k (i + 1) ++ l.drop (i + 1))) := by
        rw [List.getElem_set_self, HT.out] at hs1; exact hs1
      have HG3 := Num.hide (Recs.grown_trans HG2.out (Recs.grown_trans (Recs.grown_of_below hb2 _) hs2))
      obtain ⟨o2, ho2⟩ : ∃ u, w2.cell? ⟨g, i * 2 + 1, none⟩ = some u := ⟨_, k2⟩
      have f2 := hfz (i * 2 + 1)
      clear hs1 hs2 q1 q2 q3 k1 k2 hfz hb2 hz ho1 f1
      go_wp2
      go_roundw
      case rel => exact ⟨i + 1, by omega, by go_num, by go_num, HS2, HG3⟩
      case measure => simp [intOf]; omega
    · obtain rfl : i = l.length := by omega
      have ho := HO2.out
      rw [List.drop_length, List.append_nil] at ho
      have HO4 := Num.hide ho
      clear ho
      go_wp2
      go_ret
      exact ⟨rfl, HO4.out, HG.out⟩
end Flds
end Go.Proofs.YtanimnjiolgknaaDoor
