/-
  A list of fields in a row of the call's own.
-/
import Derived.Test.YtbcjpjhpobmpbaaGreatDoorFlds
namespace Go.Proofs.YtbcjpjhpobmpbaaGreatDoor
open Go.RowKit
set_option linter.unusedVariables false
namespace Flds

/-- a list of fields whose row the call itself made -/
def Own (B : Nat) (w : World) (v : Value) (l : List Fld) : Prop := Recs.Own 47 2 cells B w v l
theorem infoF : (Tryz.prog.info? 47).map (fun i => (i.zero, i.size, i.bytes)) = some (some (.agg #[.string ⟨#[]⟩, .string ⟨#[]⟩]), 2, 32) := by kernel_rfl
def zeroF : Fld := (⟨#[]⟩, ⟨#[]⟩)
theorem made_rec (n : Nat) : (madeCells #[.string ⟨#[]⟩, .string ⟨#[]⟩] (n * 2)).toList = (List.replicate n zeroF).flatMap cells := by
  apply List.ext_getElem?
  intro k
  by_cases hk : k < n * 2
  · obtain ⟨i, j, hj, rfl⟩ : ∃ i j, j < 2 ∧ k = i * 2 + j := ⟨k / 2, k % 2, Nat.mod_lt _ (by decide), by omega⟩
    rw [Recs.flat_at cells_len _ i j (by rw [List.length_replicate]; omega) hj]
    have h2 : (madeCells #[.string ⟨#[]⟩, .string ⟨#[]⟩] (n * 2)).toList[i * 2 + j]? = some (.string ⟨#[]⟩) := by
      have hlt : i * 2 + j < n * 2 := by omega
      simp only [madeCells, Array.toList_map, Array.toList_range, List.getElem?_map, List.getElem?_range hlt, Option.map_some]
      rw [show (i * 2 + j) % (#[Value.string ⟨#[]⟩, Value.string ⟨#[]⟩] : Array Value).size = j by simp; omega]
      rcases (show j = 0 ∨ j = 1 by omega) with rfl | rfl <;> rfl
    rw [h2, List.getElem_replicate]
    rcases (show j = 0 ∨ j = 1 by omega) with rfl | rfl <;> rfl
  · rw [List.getElem?_eq_none (by simp [size_madeCells]; omega), List.getElem?_eq_none (by rw [Recs.flat_length cells_len, List.length_replicate]; omega)]

theorem take_set (l : List Fld) (i : Nat) (h : i < l.length) : (l.take i ++ List.replicate (l.length - i) zeroF).set i l[i] = l.take (i + 1) ++ List.replicate (l.length - (i + 1)) zeroF := by
  rw [List.set_append_right _ _ (by rw [List.length_take]; omega), List.length_take, show i - min i l.length = 0 by omega, show l.length - i = (l.length - (i + 1)) + 1 by omega, List.replicate_succ, List.set_cons_zero, List.take_succ_eq_append_getElem h, List.append_assoc]; rfl
/-- a field stored into a row of one's own -/
theorem own_put {B : Nat} {w : World} {v : Value} {l : List Fld} (h : Own B w v l) (i : Nat) (hi : i < l.length) : ∃ g c, v = .slice (some ⟨g, 0, none⟩) l.length c ∧ l.length ≤ c ∧ c ≤ maxLen ∧ B ≤ g ∧ g < w.heap.size ∧
    w.cell? ⟨g, i * 2, none⟩ = some (.string l[i].1) ∧ w.cell? ⟨g, i * 2 + 1, none⟩ = some (.string l[i].2) ∧ (∀ o, w.frozen? ⟨g, o, none⟩ = false) ∧
    (∀ x, Own B (w.setCell ⟨g, i * 2, none⟩ (.string x)) v (l.set i (x, l[i].2)) ∧ w.grownBy (w.setCell ⟨g, i * 2, none⟩ (.string x)) v.ownBlock) ∧
    (∀ y, Own B (w.setCell ⟨g, i * 2 + 1, none⟩ (.string y)) v (l.set i (l[i].1, y)) ∧ w.grownBy (w.setCell ⟨g, i * 2 + 1, none⟩ (.string y)) v.ownBlock) ∧
    ∀ x y, Own B ((w.setCell ⟨g, i * 2, none⟩ (.string x)).setCell ⟨g, i * 2 + 1, none⟩ (.string y)) v (l.set i (x, y)) ∧ w.grownBy ((w.setCell ⟨g, i * 2, none⟩ (.string x)).setCell ⟨g, i * 2 + 1, none⟩ (.string y)) v.ownBlock := by
  obtain ⟨g, c, hv, hc, hm, hB, hg, hcell, hfz, hset⟩ := Recs.own_row cells_len h (by omega)
  refine ⟨g, c, hv, hc, hm, hB, hg, hcell i hi 0 _ (by decide) rfl, hcell i hi 1 _ (by decide) rfl, hfz, fun x => hset i hi 0 (.string x) (x, l[i].2) (by decide) rfl, fun y => hset i hi 1 (.string y) (l[i].1, y) (by decide) rfl, fun x y => ?_⟩
  obtain ⟨h1, h2⟩ := hset i hi 0 (.string x) (x, l[i].2) (by decide) rfl
  obtain ⟨g', c', hv', _, _, _, _, _, _, hset'⟩ := Recs.own_row cells_len h1 (by rw [List.length_set]; omega)
  have hgg : g' = g := by rw [hv] at hv'; simp at hv'; exact hv'.1.symm
  subst hgg
  obtain ⟨h3, h4⟩ := hset' i (by rw [List.length_set]; exact hi) 1 (.string y) (x, y) (by decide) (by rw [List.getElem_set_self]; rfl)
  rw [List.set_set] at h3
  exact ⟨h3, Recs.grown_trans h2 h4⟩
end Flds
end Go.Proofs.YtbcjpjhpobmpbaaGreatDoor
