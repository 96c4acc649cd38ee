/-
  RespOpen: A response that came in, as the law's argument: what it reads as.
-/
import Derived.Test.YtihiljickefanaaDoorPaw
import Derived.Deep.Strs
namespace Go.Proofs.YtihiljickefanaaDoor
open Go.ChangeShapes Go.WideShapes Go.ChangeAt Go.RowKit Go.Deep
set_option linter.unusedVariables false
namespace Resp

/-- what the walk is told of a response that came in -/
def Arg (w : World) (v : Value) (s : Int) (l : List Flds.Fld) (b : ByteArray) : Prop := ∃ u, v = val s u b ∧ Flds.Arg w u l ∧ b.size ≤ maxLen ∧ (Lit.int .i64 s).wf = true
theorem three {α : Type} {cs : Array α} (h : cs.size = 3) : ∃ c0 c1 c2, cs = #[c0, c1, c2] := by
  obtain ⟨l⟩ := cs
  match l, h with
  | [c0, c1, c2], _ => exact ⟨c0, c1, c2, rfl⟩
set_option maxRecDepth 100000 in
theorem opened {H : Type} {enc : TypeId × Value → H} {W : World} {base : Nat} {v : Value} {d : DataW H} {p : List MemPlace}
    (hok : Value.okWide Tryd.prog W .any base 31 v) (h : DataW.Trod enc Tryd.prog W 0 (fun _ => true) true 31 v d p) : ∃ s l b, Arg W v s l b := by
  obtain ⟨cs, rfl, hz⟩ := okWide_struct Tryd.underlying31 hok
  obtain ⟨fuel, hf⟩ := h
  obtain ⟨c0, c1, c2, rfl⟩ := three (hz.trans (by kernel_rfl))
  obtain ⟨y0, y1, y2, n, _, hl, h0, h1, h2⟩ := trod_struct3 Tryd.underlying31 hf
  have e0 : Tryd.prog.cellsOf 3 = 1 := by kernel_rfl
  have e1 : Tryd.prog.cellsOf 22 = 1 := by kernel_rfl
  have e2 : Tryd.prog.cellsOf 9 = 1 := by kernel_rfl
  simp only [Value.cells] at h0 h1 h2
  rw [e0] at h0
  rw [e1] at h1
  rw [e2] at h2
  simp only [List.drop_zero, List.drop_succ_cons, List.take_succ_cons, List.take_zero] at h0 h1 h2
  obtain ⟨a0, len0, cap0, l, hcs, hla⟩ := Flds.opened_cells h1
  obtain ⟨t, et, _, ht⟩ := DataW.trod_string Tryd.underlying9 h2
  obtain ⟨k, ek, _, hk⟩ := DataW.trod_int Tryd.underlying3 h0
  simp only [List.cons.injEq, and_true] at hcs et ek
  subst hcs et ek
  exact ⟨k, l, t, _, rfl, hla, ht, hk⟩
theorem arg_stay {C : Nat} {w w' : World} {v : Value} {s : Int} {l : List Flds.Fld} {b : ByteArray} (h : Arg w v s l b) (hC : w.heap.size ≤ C) (hb : Below C w w') : Arg w' v s l b := by
  obtain ⟨u, h1, h2, h3⟩ := h
  exact ⟨u, h1, Flds.arg_stay h2 hC hb, h3⟩
end Resp
end Go.Proofs.YtihiljickefanaaDoor
