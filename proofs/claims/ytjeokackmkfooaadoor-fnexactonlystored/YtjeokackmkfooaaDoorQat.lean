/-
  ReqTo: toRequest of the laws: a request taken over, its fields in a row of the call's own; a request that came in, as the law's argument.
  RegLaw: One step through a region that draws its order: an operation taken first (its place and its slot written out), one whose guard says no, and a call that comes up alone.
-/
import Derived.Test.YtjeokackmkfooaaDoorQas
import Derived.Test.YtjeokackmkfooaaDoorQan
import Derived.Lib.SmallJoins
import Derived.Test.YtjeokackmkfooaaDoorNum
import Derived.Deep.RegionHeld
namespace Go.Proofs.YtjeokackmkfooaaDoor
open Go.ChangeShapes Go.WideShapes Go.ChangeAt Go.RowKit Go.Deep
set_option linter.unusedVariables false
namespace Req

set_option maxRecDepth 100000 in
set_option maxHeartbeats 2000000 in
theorem to_any (m u : ByteArray) (v : Value) (l : List Flds.Fld) (b : ByteArray) (w : World) (h : Flds.Is w v l) (hl : l.length ≤ 1048576) :
    Calls Tryd.prog 6 #[val m u v b] w fun e w' => ∃ v', e = .returned (val m u v' b) ∧ Flds.Own w.heap.size w' v' l ∧ Below w.heap.size w w' := by
  unfold val
  obtain ⟨a1, c1, rfl, _⟩ := Flds.is_form h
  have HI := Num.hide h
  clear h
  go_enter Tryd.func6, Tryd.ntmps6
  have HT := Num.hide (fun W h => Flds.toFieldS_any (.slice a1 l.length c1) l W h hl)
  have HB0 := Num.hide ((((Below.refl w.heap.size w).alloc (Nat.le_refl _) (.cells #[.string m, .string u, .slice a1 l.length c1, .string b] 24)).alloc (by simp) (.cells #[.string ⟨#[]⟩, .string ⟨#[]⟩, .slice none 0 0, .string ⟨#[]⟩] 29)).alloc (by simp; omega) (.cells #[.string m, .string u, .slice none 0 0, .string ⟨#[]⟩] 29))
  go_wp2_with fail
  refine (HT.out _ (Recs.is_stay HI.out (Nat.le_refl _) HB0.out)).mono ?_
  rintro e W1 ⟨v', rfl, ho, hb⟩
  obtain ⟨r0, r1, r2⟩ := Recs.three_rows w W1 _ _ _ hb
  obtain ⟨a2, c2, rfl⟩ := Recs.own_len ho
  have HO := Num.hide ho
  have HB1 := Num.hide (HB0.out.trans (hb.mono HB0.out.size))
  have k0 := Recs.box_cell r0 3
  have o0 := Recs.box_cell r2 0
  have o1 := Recs.box_cell r2 1
  have o2 := Recs.box_cell r2 2
  have o3 := Recs.box_cell r2 3
  have t0 := Recs.box_cell r1 0
  have t1 := Recs.box_cell r1 1
  have t2 := Recs.box_cell r1 2
  have t3 := Recs.box_cell r1 3
  have z0 := Recs.box_thaw r2 0
  have z1 := Recs.box_thaw r2 1
  have z2 := Recs.box_thaw r2 2
  have z3 := Recs.box_thaw r2 3
  have y0 := Recs.box_thaw r1 0
  have y1 := Recs.box_thaw r1 1
  have y2 := Recs.box_thaw r1 2
  have y3 := Recs.box_thaw r1 3
  simp only [List.getElem?_toArray, List.getElem?_cons_succ, List.getElem?_cons_zero] at k0 o0 o1 o2 o3 t0 t1 t2 t3
  clear ho hb r0 r1 r2 HT HI
  have hS : (((w.alloc (.cells #[.string m, .string u, .slice a1 l.length c1, .string b] 24)).alloc (.cells #[.string ⟨#[]⟩, .string ⟨#[]⟩, .slice none 0 0, .string ⟨#[]⟩] 29)).alloc (.cells #[.string m, .string u, .slice none 0 0, .string ⟨#[]⟩] 29)).heap.size = w.heap.size + 1 + 1 + 1 := by rw [World.size_alloc, World.size_alloc, World.size_alloc]
  have HP := Num.hide ((((((((Recs.Past.refl w.heap.size (w.heap.size + 1 + 1 + 1) W1).set (w.heap.size + 1 + 1) 2 (.slice a2 l.length c2) (by omega) (by omega)).set (w.heap.size + 1 + 1) 3 (.string b) (by omega) (by omega)).set (w.heap.size + 1) 0 (.string m) (by omega) (by omega)).set (w.heap.size + 1) 1 (.string u) (by omega) (by omega)).set (w.heap.size + 1) 2 (.slice a2 l.length c2) (by omega) (by omega)).set (w.heap.size + 1) 3 (.string b) (by omega) (by omega)))
  have HO2 : Hid (Flds.Own (w.heap.size + 1 + 1 + 1) W1 (.slice a2 l.length c2) l) := by rw [← hS]; exact HO
  clear hS HO HB0
  go_wp2
  exact bodyPost_ret (v := .agg #[.string m, .string u, .slice a2 l.length c2, .string b]) (by simp [results, Tryd.results6, go_sem, *]) rfl ⟨_, rfl, Recs.own_mono (Recs.own_past HO2.out HP.out) (by omega), HB1.out.trans HP.out.below⟩
/-- what the walk is told of a request that came in -/
def Arg (w : World) (v : Value) (m u : ByteArray) (l : List Flds.Fld) (b : ByteArray) : Prop := ∃ x, v = val m u x b ∧ Flds.Arg w x l ∧ m.size ≤ maxLen ∧ u.size ≤ maxLen ∧ b.size ≤ maxLen
theorem four {α : Type} {cs : Array α} (h : cs.size = 4) : ∃ c0 c1 c2 c3, cs = #[c0, c1, c2, c3] := by
  obtain ⟨l⟩ := cs
  match l, h with
  | [c0, c1, c2, c3], _ => exact ⟨c0, c1, c2, c3, rfl⟩
set_option maxRecDepth 100000 in
theorem opened {H : Type} {enc : TypeId × Value → H} {W : World} {base : Nat} {v : Value} {d : DataW H} {p : List MemPlace}
    (hok : Value.okWide Tryd.prog W .any base 24 v) (h : DataW.Trod enc Tryd.prog W 0 (fun _ => true) true 24 v d p) : ∃ m u l b, Arg W v m u l b := by
  obtain ⟨cs, rfl, hz⟩ := okWide_struct Tryd.underlying24 hok
  obtain ⟨fuel, hf⟩ := h
  obtain ⟨c0, c1, c2, c3, rfl⟩ := four (hz.trans (by kernel_rfl))
  obtain ⟨y0, y1, y2, y3, n, _, hl, h0, h1, h2, h3⟩ := Go.Joins.trod_struct4 Tryd.underlying24 hf
  have e1 : Tryd.prog.cellsOf 22 = 1 := by kernel_rfl
  have e2 : Tryd.prog.cellsOf 9 = 1 := by kernel_rfl
  simp only [Value.cells] at h0 h1 h2 h3
  rw [e2] at h0 h1 h3
  rw [e1] at h2
  simp only [List.drop_zero, List.drop_succ_cons, List.take_succ_cons, List.take_zero] at h0 h1 h2 h3
  obtain ⟨a0, len0, cap0, l, hcs, hla⟩ := Flds.opened_cells h2
  obtain ⟨t, et, _, ht⟩ := DataW.trod_string Tryd.underlying9 h3
  obtain ⟨x, ex, _, hx⟩ := DataW.trod_string Tryd.underlying9 h0
  obtain ⟨y, ey, _, hy⟩ := DataW.trod_string Tryd.underlying9 h1
  simp only [List.cons.injEq, and_true] at hcs et ex ey
  subst hcs et ex ey
  exact ⟨x, y, l, t, _, rfl, hla, hx, hy, ht⟩
end Req
end Go.Proofs.YtjeokackmkfooaaDoor
namespace Go.Proofs.YtjeokackmkfooaaDoor
open Go.RowKit
set_option linter.unusedVariables false
namespace Reg

variable {P : Program} {ops : Array Oper} {Q : Exit → Act → World → Prop} {md : Region.Mode} {S : World → Prop}
theorem at_ {i : Nat} {o : Oper} (h : ops.toList[i]? = some o) : ops[i]? = some o := by rw [← Array.getElem?_toList]; exact h
/-- what is wanted and yields in every world that meets S is taken first -/
theorem take {i d : Nat} {o : Oper} {v : Value} {fuel : Nat} {listed : Array Bool} {a : Act} {w : World} (hi : ops.toList[i]? = some o) (hd : o.dst = some d)
    (hs : Region.noSelect ops = true) (hf : Region.free md ops listed i = true) (hr : (Region.ready md ops listed).contains i = true)
    (hQ : ∀ c a w, Q (.panic c) (a.put (some d) v) w → Q (.panic c) a w) (hw : Region.wanted o (yielded ops a.tmps) = true) (hy : ∀ w, S w → (execOp a.eval o).run P w = .ok (.value v) w) (hS : S w)
    (h : wpAnyH P md ops Q S fuel (listed.setIfInBounds i true) (a.put (some d) v) w) : wpAnyH P md ops Q S (fuel + 1) listed a w := by
  rw [← hd] at hQ h
  exact wpAnyH_take (at_ hi) hs hf hr hQ (.inl ⟨hw, hy⟩) hS h
/-- what is not wanted is passed by -/
theorem pass {i d : Nat} {o : Oper} {fuel : Nat} {listed : Array Bool} {a : Act} {w : World} (hi : ops.toList[i]? = some o) (hd : o.dst = some d)
    (hs : Region.noSelect ops = true) (hf : Region.free md ops listed i = true) (hr : (Region.ready md ops listed).contains i = true)
    (hQ : ∀ c a w, Q (.panic c) (a.put (some d) undef) w → Q (.panic c) a w) (hw : Region.wanted o (yielded ops a.tmps) = false) (hS : S w)
    (h : wpAnyH P md ops Q S fuel (listed.setIfInBounds i true) (a.put (some d) undef) w) : wpAnyH P md ops Q S (fuel + 1) listed a w := by
  rw [← hd] at hQ h
  exact wpAnyH_take (at_ hi) hs hf hr hQ (.inr ⟨hw, rfl⟩) hS h
/-- a call that comes up alone -/
theorem call {i : Nat} {o : Oper} {fuel : Nat} {listed : Array Bool} {a : Act} {w : World} (hi : ops.toList[i]? = some o) (hr : Region.ready md ops listed = [i]) (hw : Region.wanted o (yielded ops a.tmps) = true)
    (h : ∀ K' : Act → World → Prop, Shut (∀ a w, S w → (S w → wpAnyH P md ops Q S fuel (listed.setIfInBounds i true) a w) → K' a w) → Oper.wp P o a w K' Q) : wpAnyH P md ops Q S (fuel + 1) listed a w := by
  refine wpAnyH_ready hr (by simp) (AllReadyH.cons (at_ hi) (fun K hK => ?_) AllReadyH.nil)
  rw [if_pos hw]
  exact h K hK
end Reg
end Go.Proofs.YtjeokackmkfooaaDoor
