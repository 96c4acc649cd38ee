/-
  RespTo: toResponse of the laws: a response taken over, its fields in a row of the call's own.
  FldLaw: markFieldS of the laws: a list of fields marked.
  RespMark: markResponse of the laws: the fields of one marked.
  StrEqB: eqStringS of the laws leaves what was there.
  RegLaw: One step through a region that draws its order: an operation taken first (its place and its slot written out), one whose guard says no, and a call that comes up alone.
-/
import Derived.Test.YtkogcbnbmdeolaaDoorPae
import Derived.Test.YtkogcbnbmdeolaaDoorPad
import Derived.Test.YtkogcbnbmdeolaaDoorFldEq
import Derived.Test.YtkogcbnbmdeolaaDoorMarkText
import Derived.Test.YtkogcbnbmdeolaaDoorPac
import Derived.Test.YtkogcbnbmdeolaaDoorStrLaw
import Derived.Test.YtkogcbnbmdeolaaDoorNum
import Derived.Deep.RegionHeld
namespace Go.Proofs.YtkogcbnbmdeolaaDoor
open Go.RowKit
set_option linter.unusedVariables false
namespace Resp

set_option maxRecDepth 100000 in
set_option maxHeartbeats 2000000 in
theorem to_any (s : Int) (v : Value) (l : List Flds.Fld) (b : ByteArray) (w : World) (h : Flds.Is w v l) (hl : l.length ≤ 1048576) :
    Calls Tryd.prog 26 #[val s v b] w fun e w' => ∃ v', e = .returned (val s v' b) ∧ Flds.Own w.heap.size w' v' l ∧ Below w.heap.size w w' := by
  unfold val
  obtain ⟨a1, c1, rfl, _⟩ := Flds.is_form h
  have HI := Num.hide h
  clear h
  go_enter Tryd.func26, Tryd.ntmps26
  have HT := Num.hide (fun W h => Flds.toFieldS_any (.slice a1 l.length c1) l W h hl)
  have HB0 := Num.hide ((((Below.refl w.heap.size w).alloc (Nat.le_refl _) (.cells #[.int .i64 s, .slice a1 l.length c1, .string b] 46)).alloc (by simp) (.cells #[.int .i64 0, .slice none 0 0, .string ⟨#[]⟩] 34)).alloc (by simp; omega) (.cells #[.int .i64 s, .slice none 0 0, .string ⟨#[]⟩] 34))
  go_wp2_with fail
  refine (HT.out _ (Recs.is_stay HI.out (Nat.le_refl _) HB0.out)).mono ?_
  rintro e W1 ⟨v', rfl, ho, hb⟩
  obtain ⟨r0, r1, r2⟩ := Recs.three_rows w W1 _ _ _ hb
  obtain ⟨a2, c2, rfl⟩ := Recs.own_len ho
  have HO := Num.hide ho
  have HB1 := Num.hide (HB0.out.trans (hb.mono HB0.out.size))
  have k0 := Recs.box_cell r0 2
  have o0 := Recs.box_cell r2 0
  have o1 := Recs.box_cell r2 1
  have o2 := Recs.box_cell r2 2
  have t0 := Recs.box_cell r1 0
  have t1 := Recs.box_cell r1 1
  have t2 := Recs.box_cell r1 2
  have z0 := Recs.box_thaw r2 0
  have z1 := Recs.box_thaw r2 1
  have z2 := Recs.box_thaw r2 2
  have y0 := Recs.box_thaw r1 0
  have y1 := Recs.box_thaw r1 1
  have y2 := Recs.box_thaw r1 2
  simp only [List.getElem?_toArray, List.getElem?_cons_succ, List.getElem?_cons_zero] at k0 o0 o1 o2 t0 t1 t2
  clear ho hb r0 r1 r2 HT HI
  have hS : (((w.alloc (.cells #[.int .i64 s, .slice a1 l.length c1, .string b] 46)).alloc (.cells #[.int .i64 0, .slice none 0 0, .string ⟨#[]⟩] 34)).alloc (.cells #[.int .i64 s, .slice none 0 0, .string ⟨#[]⟩] 34)).heap.size = w.heap.size + 1 + 1 + 1 := by rw [World.size_alloc, World.size_alloc, World.size_alloc]
  have HP := Num.hide (((((((Recs.Past.refl w.heap.size (w.heap.size + 1 + 1 + 1) W1).set (w.heap.size + 1 + 1) 1 (.slice a2 l.length c2) (by omega) (by omega)).set (w.heap.size + 1 + 1) 2 (.string b) (by omega) (by omega)).set (w.heap.size + 1) 0 (.int .i64 s) (by omega) (by omega)).set (w.heap.size + 1) 1 (.slice a2 l.length c2) (by omega) (by omega)).set (w.heap.size + 1) 2 (.string b) (by omega) (by omega)))
  have HO2 : Hid (Flds.Own (w.heap.size + 1 + 1 + 1) W1 (.slice a2 l.length c2) l) := by rw [← hS]; exact HO
  clear hS HO HB0
  go_wp2
  exact bodyPost_ret (v := .agg #[.int .i64 s, .slice a2 l.length c2, .string b]) (by simp [results, Tryd.results26, go_sem, *]) rfl ⟨_, rfl, Recs.own_mono (Recs.own_past HO2.out HP.out) (by omega), HB1.out.trans HP.out.below⟩
end Resp
end Go.Proofs.YtkogcbnbmdeolaaDoor
namespace Go.Proofs.YtkogcbnbmdeolaaDoor
open Go.RowKit
set_option linter.unusedVariables false
namespace Flds

/-- so many marked fields from k on -/
def marks (k : Int) (n : Nat) : List Fld := (List.range n).map fun (i : Nat) => (Mark.text (k + 2 * (i : Int)), Mark.text (k + 2 * (i : Int) + 1))
theorem length_marks (k : Int) (n : Nat) : (marks k n).length = n := by simp [marks]
theorem marks_succ (k : Int) (n : Nat) : marks k (n + 1) = marks k n ++ [(Mark.text (k + 2 * (n : Int)), Mark.text (k + 2 * (n : Int) + 1))] := by simp [marks, List.range_succ]
theorem marks_at (k : Int) (n i : Nat) (h : i < n) : (marks k n)[i]'(by rw [length_marks]; exact h) = (Mark.text (k + 2 * (i : Int)), Mark.text (k + 2 * (i : Int) + 1)) := by simp [marks]
theorem set_marks (k : Int) (l : List Fld) (i : Nat) (h : i < l.length) : (marks k i ++ l.drop i).set i (Mark.text (k + 2 * (i : Int)), Mark.text (k + 2 * (i : Int) + 1)) = marks k (i + 1) ++ l.drop (i + 1) := by
  rw [List.set_append_right _ _ (by rw [length_marks]; exact Nat.le_refl _), length_marks, Nat.sub_self, List.drop_eq_getElem_cons h, List.set_cons_zero, marks_succ, List.append_assoc]; rfl

set_option maxRecDepth 100000 in
set_option maxHeartbeats 1000000 in
theorem mark_any (B : Nat) (v : Value) (l : List Fld) (k : Int) (w : World) (h : Own B w v l) (hl : l.length ≤ 1099511627776) (h0 : 0 ≤ k) (h1 : k ≤ 1099511627776) :
    Calls Tryd.prog 39 #[v, .int .i64 k] w fun e w' => e = .returned (.int .i64 (k + 2 * l.length)) ∧ Own B w' v (marks k l.length) ∧ w.grownBy w' v.ownBlock := by
  have HO := Num.hide h
  obtain ⟨a, c, rfl⟩ := Recs.own_len h
  clear h
  go_enter Tryd.func39, Tryd.ntmps39
  go_wp2
  go_loopw [1, 5] (fun kv iv wr => ∃ i : Nat, i ≤ l.length ∧ kv = .int .i64 (k + 2 * i) ∧ iv = .int .i64 (i : Int) ∧ Hid (Own B wr (.slice a l.length c) (marks k i ++ l.drop i)) ∧ Hid (w.grownBy wr (Value.slice a l.length c).ownBlock)) (fun _ iv _ => l.length - (intOf iv).toNat)
  case atStart => exact ⟨0, by omega, by simp, rfl, HO, Recs.grown_refl _ _⟩
  case round =>
    obtain ⟨i, hi, rfl, rfl, HO2, HG⟩ := hrel
    by_cases hlt : i < l.length
    · have hlen : (marks k i ++ l.drop i).length = l.length := by rw [List.length_append, length_marks, List.length_drop]; omega
      have HM1 := Num.hide (fun W => Mark.markText_any (k + 2 * (i : Int)) W (by omega))
      have HM2 := Num.hide (fun W => Mark.markText_any (k + 2 * (i : Int) + 1) W (by omega))
      have HT := Num.hide (set_marks k l i hlt)
      generalize Mark.text (k + 2 * (i : Int)) = t1 at HM1 HT
      generalize Mark.text (k + 2 * (i : Int) + 1) = t2 at HM2 HT
      generalize marks k i ++ l.drop i = L at HO2 hlen HT
      go_wp2_with fail
      refine (HM1.out _).mono ?_
      rintro e w1 ⟨rfl, hb1⟩
      have HO3 := Num.hide (Recs.own_below HO2.out hb1)
      obtain ⟨g, c', hv, hc, hm, hB, hg, k1, k2, hfz, q1, q2, q3⟩ := own_put HO3.out i (by omega)
      rw [hlen] at hv hc
      simp only [Value.slice.injEq, true_and] at hv
      obtain ⟨rfl, rfl⟩ := hv
      obtain ⟨hs1, hs2⟩ := q1 t1
      have HS1 := Num.hide hs1
      have HG2 := Num.hide (Recs.grown_trans HG.out (Recs.grown_trans (Recs.grown_of_below hb1 _) hs2))
      obtain ⟨o1, ho1⟩ : ∃ u, w1.cell? ⟨g, i * 2, none⟩ = some u := ⟨_, k1⟩
      have f1 := hfz (i * 2)
      have HX : Hid (∃ x, L[i]? = some x) := ⟨_, List.getElem?_eq_getElem (by omega)⟩
      have HS1' : Hid (∃ z, Own B (w1.setCell ⟨g, i * 2, none⟩ (.string t1)) (.slice (some ⟨g, 0, none⟩) l.length c) (L.set i (t1, z))) := ⟨_, hs1⟩
      have HLen := Num.hide hlen
      clear hs1 hs2 q1 q2 q3 k1 k2 hfz HS1 hb1 hlen
      go_wp2_with fail
      refine (HM2.out _).mono ?_
      rintro e w2 ⟨rfl, hb2⟩
      obtain ⟨z, hz⟩ := HS1'.out
      have HO4 := Num.hide (Recs.own_below hz hb2)
      obtain ⟨g', c2, hv, hc2, hm2, hB2, hg2, k1, k2, hfz, q1, q2, q3⟩ := own_put HO4.out i (by rw [List.length_set]; have := HLen.out; omega)
      rw [List.length_set, HLen.out] at hv hc2
      simp only [Value.slice.injEq, Option.some.injEq, Addr.mk.injEq, and_true, true_and] at hv
      obtain ⟨rfl, rfl⟩ := hv
      obtain ⟨hs1, hs2⟩ := q2 t2
      rw [List.set_set] at hs1
      have HS2 : Hid (Own B (w2.setCell ⟨g, i * 2 + 1, none⟩ (.string t2)) (.slice (some ⟨g, 0, none⟩) l.length c) (marks k (i + 1) ++ l.drop (i + 1))) := by
        rw [List.getElem_set_self, HT.out] at hs1; exact hs1
      have HG3 := Num.hide (Recs.grown_trans HG2.out (Recs.grown_trans (Recs.grown_of_below hb2 _) hs2))
      obtain ⟨o2, ho2⟩ : ∃ u, w2.cell? ⟨g, i * 2 + 1, none⟩ = some u := ⟨_, k2⟩
      have f2 := hfz (i * 2 + 1)
      clear hs1 hs2 q1 q2 q3 k1 k2 hfz hb2 hz ho1 f1
      go_wp2
      go_roundw
      case rel => exact ⟨i + 1, by omega, by go_num, by go_num, HS2, HG3⟩
      case measure => simp [intOf]; omega
    · obtain rfl : i = l.length := by omega
      have ho := HO2.out
      rw [List.drop_length, List.append_nil] at ho
      have HO4 := Num.hide ho
      clear ho
      go_wp2
      go_ret
      exact ⟨rfl, HO4.out, HG.out⟩
end Flds
end Go.Proofs.YtkogcbnbmdeolaaDoor
namespace Go.Proofs.YtkogcbnbmdeolaaDoor
open Go.RowKit
set_option linter.unusedVariables false
namespace Resp

set_option maxRecDepth 100000 in
set_option maxHeartbeats 1000000 in
theorem mark_any (s : Int) (b : ByteArray) (B : Nat) (v : Value) (l : List Flds.Fld) (k : Int) (w : World) (h : Flds.Own B w v l) (hl : l.length ≤ 1099511627776) (h0 : 0 ≤ k) (h1 : k ≤ 1099511627776) :
    Calls Tryd.prog 29 #[val s v b, .int .i64 k] w fun e w' => e = .returned (.int .i64 (k + 2 * l.length)) ∧ Flds.Own B w' v (Flds.marks k l.length) ∧ w.grownBy w' v.ownBlock := by
  obtain ⟨a, c, rfl⟩ := Recs.own_len h
  unfold val
  have HO := Num.hide (World.ownsRow.alloc h (.cells #[.int .i64 s, .slice a l.length c, .string b] 34))
  have HM := Num.hide (fun W h => Flds.mark_any B (.slice a l.length c) l k W h hl h0 h1)
  clear h
  go_enter Tryd.func29, Tryd.ntmps29
  go_wp2_with fail
  refine (HM.out _ HO.out).mono ?_
  rintro e W1 ⟨rfl, ho, hg⟩
  have HO1 := Num.hide ho
  have HG1 := Num.hide (Recs.grown_trans (Recs.grown_of_below ((Below.refl w.heap.size w).alloc (Nat.le_refl _) _) _) hg)
  clear ho hg HO HM
  go_wp2
  go_ret
  exact ⟨rfl, HO1.out, HG1.out⟩
end Resp
end Go.Proofs.YtkogcbnbmdeolaaDoor
namespace Go.Proofs.YtkogcbnbmdeolaaDoor
open Go.RowKit
set_option linter.unusedVariables false
namespace Strs

theorem eq_b (va vb : Value) (la lb : List ByteArray) (w : World) (ha : Is w va la) (hb : Is w vb lb) (hla : la.length ≤ 1099511627776) : Calls Tryd.prog 27 #[va, vb] w fun e w' => e = .returned (.bool (decide (la = lb))) ∧ Below w.heap.size w w' :=
  (eq_any va vb la lb w ha hb hla).mono fun e w' ⟨h1, n, h2⟩ => ⟨h1, by subst h2; exact below_drewN (Below.refl _ _) n⟩
end Strs
end Go.Proofs.YtkogcbnbmdeolaaDoor
namespace Go.Proofs.YtkogcbnbmdeolaaDoor
open Go.RowKit
set_option linter.unusedVariables false
namespace Reg

variable {P : Program} {ops : Array Oper} {Q : Exit → Act → World → Prop} {md : Region.Mode} {S : World → Prop}
theorem at_ {i : Nat} {o : Oper} (h : ops.toList[i]? = some o) : ops[i]? = some o := by rw [← Array.getElem?_toList]; exact h
/-- what is wanted and yields in every world that meets S is taken first -/
theorem take {i d : Nat} {o : Oper} {v : Value} {fuel : Nat} {listed : Array Bool} {a : Act} {w : World} (hi : ops.toList[i]? = some o) (hd : o.dst = some d)
    (hs : Region.noSelect ops = true) (hf : Region.free md ops listed i = true) (hr : (Region.ready md ops listed).contains i = true)
    (hQ : ∀ c a w, Q (.panic c) (a.put (some d) v) w → Q (.panic c) a w) (hw : Region.wanted o (yielded ops a.tmps) = true) (hy : ∀ w, S w → (execOp a.eval o).run P w = .ok (.value v) w) (hS : S w)
    (h : wpAnyH P md ops Q S fuel (listed.setIfInBounds i true) (a.put (some d) v) w) : wpAnyH P md ops Q S (fuel + 1) listed a w := by
  rw [← hd] at hQ h
  exact wpAnyH_take (at_ hi) hs hf hr hQ (.inl ⟨hw, hy⟩) hS h
/-- what is not wanted is passed by -/
theorem pass {i d : Nat} {o : Oper} {fuel : Nat} {listed : Array Bool} {a : Act} {w : World} (hi : ops.toList[i]? = some o) (hd : o.dst = some d)
    (hs : Region.noSelect ops = true) (hf : Region.free md ops listed i = true) (hr : (Region.ready md ops listed).contains i = true)
    (hQ : ∀ c a w, Q (.panic c) (a.put (some d) undef) w → Q (.panic c) a w) (hw : Region.wanted o (yielded ops a.tmps) = false) (hS : S w)
    (h : wpAnyH P md ops Q S fuel (listed.setIfInBounds i true) (a.put (some d) undef) w) : wpAnyH P md ops Q S (fuel + 1) listed a w := by
  rw [← hd] at hQ h
  exact wpAnyH_take (at_ hi) hs hf hr hQ (.inr ⟨hw, rfl⟩) hS h
/-- a call that comes up alone -/
theorem call {i : Nat} {o : Oper} {fuel : Nat} {listed : Array Bool} {a : Act} {w : World} (hi : ops.toList[i]? = some o) (hr : Region.ready md ops listed = [i]) (hw : Region.wanted o (yielded ops a.tmps) = true)
    (h : ∀ K' : Act → World → Prop, Shut (∀ a w, S w → (S w → wpAnyH P md ops Q S fuel (listed.setIfInBounds i true) a w) → K' a w) → Oper.wp P o a w K' Q) : wpAnyH P md ops Q S (fuel + 1) listed a w := by
  refine wpAnyH_ready hr (by simp) (AllReadyH.cons (at_ hi) (fun K hK => ?_) AllReadyH.nil)
  rw [if_pos hw]
  exact h K hK
end Reg
end Go.Proofs.YtkogcbnbmdeolaaDoor
