/-
  DirOwn: A list of directives in a row of the call's own.
-/
import Derived.Test.YtjeokackmkfooaaDoorFlds
namespace Go.Proofs.YtjeokackmkfooaaDoor
open Go.RowKit
set_option linter.unusedVariables false
namespace Dirs
open Flds (Fld cells cells_len Is is_form)

/-- a list of directives whose row the call itself made -/
def Own (B : Nat) (w : World) (v : Value) (l : List Fld) : Prop := Recs.Own 42 2 cells B w v l
theorem infoD : (Tryd.prog.info? 42).map (fun i => (i.zero, i.size, i.bytes)) = some (some (.agg #[.string ⟨#[]⟩, .string ⟨#[]⟩]), 2, 32) := by kernel_rfl
/-- a directive stored into a row of one's own -/
theorem own_put {B : Nat} {w : World} {v : Value} {l : List Fld} (h : Own B w v l) (i : Nat) (hi : i < l.length) : ∃ g c, v = .slice (some ⟨g, 0, none⟩) l.length c ∧ l.length ≤ c ∧ c ≤ maxLen ∧ B ≤ g ∧ g < w.heap.size ∧
    w.cell? ⟨g, i * 2, none⟩ = some (.string l[i].1) ∧ w.cell? ⟨g, i * 2 + 1, none⟩ = some (.string l[i].2) ∧ (∀ o, w.frozen? ⟨g, o, none⟩ = false) ∧
    (∀ x, Own B (w.setCell ⟨g, i * 2, none⟩ (.string x)) v (l.set i (x, l[i].2)) ∧ w.grownBy (w.setCell ⟨g, i * 2, none⟩ (.string x)) v.ownBlock) ∧
    (∀ y, Own B (w.setCell ⟨g, i * 2 + 1, none⟩ (.string y)) v (l.set i (l[i].1, y)) ∧ w.grownBy (w.setCell ⟨g, i * 2 + 1, none⟩ (.string y)) v.ownBlock) ∧
    ∀ x y, Own B ((w.setCell ⟨g, i * 2, none⟩ (.string x)).setCell ⟨g, i * 2 + 1, none⟩ (.string y)) v (l.set i (x, y)) ∧ w.grownBy ((w.setCell ⟨g, i * 2, none⟩ (.string x)).setCell ⟨g, i * 2 + 1, none⟩ (.string y)) v.ownBlock := by
  obtain ⟨g, c, hv, hc, hm, hB, hg, hcell, hfz, hset⟩ := Recs.own_row cells_len h (by omega)
  refine ⟨g, c, hv, hc, hm, hB, hg, hcell i hi 0 _ (by decide) rfl, hcell i hi 1 _ (by decide) rfl, hfz, fun x => hset i hi 0 (.string x) (x, l[i].2) (by decide) rfl, fun y => hset i hi 1 (.string y) (l[i].1, y) (by decide) rfl, fun x y => ?_⟩
  obtain ⟨h1, h2⟩ := hset i hi 0 (.string x) (x, l[i].2) (by decide) rfl
  obtain ⟨g', c', hv', _, _, _, _, _, _, hset'⟩ := Recs.own_row cells_len h1 (by rw [List.length_set]; omega)
  have hgg : g' = g := by rw [hv] at hv'; simp at hv'; exact hv'.1.symm
  subst hgg
  obtain ⟨h3, h4⟩ := hset' i (by rw [List.length_set]; exact hi) 1 (.string y) (x, y) (by decide) (by rw [List.getElem_set_self]; rfl)
  rw [List.set_set] at h3
  exact ⟨h3, Recs.grown_trans h2 h4⟩
end Dirs
end Go.Proofs.YtjeokackmkfooaaDoor
