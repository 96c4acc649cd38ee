/-
  FldOpen: A list of fields that came in, as the law's argument: what it reads as.
-/
import Derived.Test.YtjeokackmkfooaaDoorQaq
import Derived.ProofKit
import Derived.OpenShut
import Derived.Deep.SlicePairs
namespace Go.Proofs.YtjeokackmkfooaaDoor
open Go.ChangeShapes Go.WideShapes Go.ChangeAt Go.RowKit Go.Deep
set_option linter.unusedVariables false
namespace Flds

/-- what the walk is told of a list of fields that came in -/
def Arg (w : World) (v : Value) (l : List Fld) : Prop := Is w v l ∧ ∀ f ∈ l, f.1.size ≤ maxLen ∧ f.2.size ≤ maxLen
def textOf : Value → ByteArray | .string s => s | _ => ⟨#[]⟩
theorem spot_none {w : World} {a : Addr} {v : Value} (h : w.cell? (a.add 0) = some v) : ∃ b o, a = ⟨b, o, none⟩ ∧ ∀ j, a.add j = ⟨b, o + j, none⟩ := by
  obtain ⟨b, o, sp⟩ := a
  have hspot : sp = none := by simpa [Addr.add] using World.cell?_spot h
  subst hspot
  exact ⟨b, o, rfl, fun j => Go.WideShapes.add_plain ..⟩
set_option maxRecDepth 100000 in
/-- a list of fields among the cells that came in -/
theorem opened_cells {H : Type} {enc : TypeId × Value → H} {W : World} {fuel : Nat} {cs : List Value} {x : DataW H × List MemPlace}
    (hf : DataW.trod enc Tryd.prog W 0 (fun _ => true) true fuel 22 cs = some x) : ∃ a0 len0 cap0 l, cs = [.slice a0 len0 cap0] ∧ Arg W (.slice a0 len0 cap0) l := by
  rcases open_slice_pairs Tryd.underlying22 Tryd.underlying39 (by kernel_rfl) rfl rfl (by kernel_rfl) (by kernel_rfl) hf with ⟨hcs, _⟩ | ⟨a, len0, cap0, m, n, V0, V1, D0, D1, P0, P1, hcs, _, hl, hm, hmm, _, hcell⟩
  · exact ⟨none, 0, 0, [], hcs, ⟨none, 0, rfl, fun h => by simp at h⟩, fun f hf => by cases hf⟩
  · have hlm : len0 ≤ m := by rw [hmm]; split <;> omega
    have each : ∀ i, i < len0 → W.cell? (a.add (i * 2)) = some (.string (textOf (V0 i))) ∧ W.cell? (a.add (i * 2 + 1)) = some (.string (textOf (V1 i))) ∧ (textOf (V0 i)).size ≤ maxLen ∧ (textOf (V1 i)).size ≤ maxLen := by
      intro i hi
      obtain ⟨h1, h2, h3, h4⟩ := hcell i (by omega)
      obtain ⟨s, e1, _, hs⟩ := DataW.trod_string Tryd.underlying9 h3
      obtain ⟨t, e2, _, ht⟩ := DataW.trod_string Tryd.underlying9 h4
      simp only [List.cons.injEq, and_true] at e1 e2
      rw [e1] at h1 ⊢
      rw [e2] at h2 ⊢
      exact ⟨h1, h2, hs, ht⟩
    refine ⟨some a, len0, cap0, (List.range len0).map fun i => (textOf (V0 i), textOf (V1 i)), hcs, ⟨some a, cap0, by simp, fun h0 => ?_⟩, ?_⟩
    · simp at h0
      obtain ⟨b, o, rfl, hadd⟩ := spot_none (show W.cell? (a.add 0) = _ from (each 0 h0).1)
      refine ⟨b, o, rfl, by simpa using hl, hm, ?_, ?_⟩
      · have := (each 0 h0).1
        rw [hadd] at this
        exact Recs.lt_of_cell this
      · intro i hi j u hu
        simp at hi
        have hh := each i hi
        rw [hadd, hadd] at hh
        rw [List.getElem_map, List.getElem_range] at hu
        match j, hu with
        | 0, hu => simp [cells] at hu; subst hu; exact hh.1
        | 1, hu => simp [cells] at hu; subst hu; exact hh.2.1
        | j + 2, hu => simp [cells] at hu
    · intro f hf
      obtain ⟨i, hi, rfl⟩ := List.mem_map.1 hf
      exact (each i (List.mem_range.1 hi)).2.2
set_option maxRecDepth 100000 in
theorem opened {H : Type} {enc : TypeId × Value → H} {W : World} {base : Nat} {v : Value} {d : DataW H} {p : List MemPlace}
    (hok : Value.okWide Tryd.prog W .any base 22 v) (h : DataW.Trod enc Tryd.prog W 0 (fun _ => true) true 22 v d p) : ∃ l, Arg W v l := by
  obtain ⟨a0, len0, cap0, rfl⟩ := okWide_slice Tryd.underlying22 hok
  obtain ⟨fuel, hf⟩ := h
  obtain ⟨a, n, c, l, hcs, hl⟩ := opened_cells hf
  simp [Value.cells] at hcs
  obtain ⟨rfl, rfl, rfl⟩ := hcs
  exact ⟨l, hl⟩
theorem arg_stay {C : Nat} {w w' : World} {v : Value} {l : List Fld} (h : Arg w v l) (hC : w.heap.size ≤ C) (hb : Below C w w') : Arg w' v l := ⟨Recs.is_stay h.1 hC hb, h.2⟩
theorem left_no {n : Int} {k : Nat} (h : ¬ (k : Int) ≤ n) : left n k = -1 := by unfold left; rw [if_pos (by omega)]
theorem left_yes {n : Int} {k : Nat} (h : (k : Int) ≤ n) : left n k = n - k := by unfold left; rw [if_neg (by omega)]
theorem len_le (l : List Fld) : l.length ≤ bulk l := by unfold bulk; omega
end Flds
end Go.Proofs.YtjeokackmkfooaaDoor
