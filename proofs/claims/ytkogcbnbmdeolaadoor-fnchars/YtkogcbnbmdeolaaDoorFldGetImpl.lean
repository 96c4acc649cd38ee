/-
  FieldGet of the program: all values of a name, joined; what was there stays.
-/
import Derived.Test.YtkogcbnbmdeolaaDoorChsStr
import Derived.Test.YtkogcbnbmdeolaaDoorFldGets
import Derived.Test.YtkogcbnbmdeolaaDoorShelfClone
import Derived.Test.YtkogcbnbmdeolaaDoorShelfJoin
namespace Go.Proofs.YtkogcbnbmdeolaaDoor
open Go.RowKit
set_option linter.unusedVariables false
namespace Flds

/-- the values of a name -/
def vals (l : List Fld) (name : ByteArray) : List ByteArray := l.foldl (fun r f => r ++ (if f.1 = name then [f.2] else [])) []
theorem vals_take (l : List Fld) (name : ByteArray) (k : Nat) (h : k < l.length) : vals (l.take (k + 1)) name = vals (l.take k) name ++ (if l[k].1 = name then [l[k].2] else []) := by
  unfold vals
  rw [List.take_succ_eq_append_getElem h, List.foldl_append]; rfl
theorem vals_snoc (l : List Fld) (f : Fld) (name : ByteArray) : vals (l ++ [f]) name = vals l name ++ (if f.1 = name then [f.2] else []) := by
  unfold vals
  rw [List.foldl_append]; rfl
theorem vals_length (l : List Fld) (name : ByteArray) : (vals l name).length ≤ l.length := by
  refine Num.snoc_ind (P := fun l => (vals l name).length ≤ l.length) (Nat.le_refl _) ?_ l
  intro l f ih
  rw [vals_snoc, List.length_append, List.length_append]
  split <;> simp <;> omega
theorem join_snoc (xs : List (List UInt8)) (x sep : List UInt8) : Lib.join (xs ++ [x]) sep = if xs = [] then x else Lib.join xs sep ++ sep ++ x := by
  cases xs with
  | nil => simp [Lib.join_one]
  | cons a t => rw [List.cons_append, Lib.join_cons, Lib.join_cons]; simp [Lib.joinTail]
/-- what is joined of the values is what is got -/
theorem get_join (l : List Fld) (name : ByteArray) : get l name = (⟨(Lib.join ((vals l name).map (·.data.toList)) [44, 32]).toArray⟩, decide (0 < (vals l name).length)) := by
  refine Num.snoc_ind (P := fun l => get l name = (⟨(Lib.join ((vals l name).map (·.data.toList)) [44, 32]).toArray⟩, decide (0 < (vals l name).length))) rfl ?_ l
  intro l f ih
  have e : get (l ++ [f]) name = getStep name (get l name) f := by unfold get; rw [List.foldl_append]; rfl
  rw [e, ih, vals_snoc]
  unfold getStep
  by_cases h : f.1 = name
  · rw [if_pos h, if_pos h, List.map_append, List.map_cons, List.map_nil, join_snoc]
    generalize vals l name = V
    cases V with
    | nil =>
      simp only [List.map_nil, Lib.join_nil, List.length_nil, Nat.lt_irrefl, decide_false, Bool.false_eq_true, if_false, List.nil_append, List.length_cons, Nat.lt_add_one, decide_true, if_true, Prod.mk.injEq, and_true]
      apply ByteArray.ext; simp
    | cons a t =>
      simp only [List.length_cons, Nat.zero_lt_succ, decide_true, if_true, List.length_append, List.map_cons, reduceCtorEq, if_false, Prod.mk.injEq, Nat.add_pos_left, and_true]
      apply ByteArray.ext; simp
  · rw [if_neg h, if_neg h, List.append_nil]
set_option maxRecDepth 100000 in
set_option maxHeartbeats 1000000 in
theorem getF_other (x y name : ByteArray) (nb : Nat) (w : World) (hn : w.cell? ⟨nb, 0, none⟩ = some (.string name)) (hne : ¬ x = name) :
    Calls Tryd.prog 89 #[.agg #[.string x, .string y], .pointer (some ⟨nb, 0, none⟩)] w fun e w' => e = .returned (.tuple #[.string ⟨#[]⟩, .bool false]) ∧ Below w.heap.size w w' := by
  have d := text_ne' hne
  have d' : (x.toList != name.toList) = true := by rw [bne, d]; rfl
  have hlt := Recs.lt_of_cell hn
  clear hne
  go_enter Tryd.func89, Tryd.ntmps89
  go_wp2
  go_ret2
  exact ⟨rfl, (Below.refl _ _).alloc (Nat.le_refl _) _⟩
set_option maxRecDepth 100000 in
set_option maxHeartbeats 1000000 in
theorem getF_same (y name : ByteArray) (nb : Nat) (w : World) (hn : w.cell? ⟨nb, 0, none⟩ = some (.string name)) (hy : y.size ≤ 281474976710656) :
    Calls Tryd.prog 89 #[.agg #[.string name, .string y], .pointer (some ⟨nb, 0, none⟩)] w fun e w' => e = .returned (.tuple #[.string y, .bool true]) ∧ Below w.heap.size w w' := by
  have hlt := Recs.lt_of_cell hn
  have HB := Num.hide ((Below.refl w.heap.size w).alloc (Nat.le_refl _) (.cells #[.string name, .string y] 40))
  go_enter Tryd.func89, Tryd.ntmps89
  go_wp2_with fail
  refine (Shelf.clone y _ hy).mono ?_
  rintro e w1 ⟨rfl, hb⟩
  have HB1 := Num.hide (HB.out.trans (hb.mono (by simp)))
  clear hb HB
  go_wp2
  go_ret2
  exact ⟨rfl, HB1.out⟩
theorem get_choice (w0 w : World) (l : List Fld) (name : ByteArray) (nb : Nat) (hz : ∀ f ∈ l, f.1.size ≤ 281474976710656 ∧ f.2.size ≤ 281474976710656) :
    ChoiceS 89 #[.pointer (some ⟨nb, 0, none⟩)] w0.heap.size w.heap.size w0 l (fun k => vals (l.take k) name) (fun _ W => W.cell? ⟨nb, 0, none⟩ = some (.string name)) := by
  intro k hk W hB hn hQ
  have hzk := hz l[k] (List.getElem_mem hk)
  have hT := vals_take l name k hk
  simp only
  rw [hT]
  generalize l[k] = f at hzk
  obtain ⟨x, y⟩ := f
  simp only at hzk
  by_cases e : x = name
  · subst e
    refine (getF_same y x nb W hQ hzk.2).mono ?_
    rintro e W' ⟨rfl, hb2⟩
    exact ⟨y, true, rfl, by simp, (hb2.cell (p := ⟨nb, 0, none⟩) (Recs.lt_of_cell hQ)).trans hQ, Far.of_below hb2 hB.size⟩
  · refine (getF_other x y name nb W hQ e).mono ?_
    rintro e2 W' ⟨rfl, hb2⟩
    exact ⟨⟨#[]⟩, false, rfl, by simp [e], (hb2.cell (p := ⟨nb, 0, none⟩) (Recs.lt_of_cell hQ)).trans hQ, Far.of_below hb2 hB.size⟩
theorem sizes_get {l : List Fld} (h : bulk l ≤ 1099511627776) : ∀ f ∈ l, f.1.size ≤ 281474976710656 ∧ f.2.size ≤ 281474976710656 := by
  intro f hf
  obtain ⟨i, hi, rfl⟩ := List.getElem_of_mem hf
  have h1 := bulk_take l i hi
  have h2 := bulk_le l (i + 1)
  unfold bulk at h
  omega
/-- strings.Join at a list of texts, however it lies -/
theorem join_any (v : Value) (xs : List ByteArray) (sep : ByteArray) (B : Nat) (w : World) (ho : Strs.OwnS B w v xs) (hN : xs.length ≤ 1073741824) (hlen : (Lib.join (xs.map (·.data.toList)) sep.data.toList).length ≤ 140737488355328) :
    Calls Tryd.prog 52 #[v, .string sep] w fun e w' => e = .returned (.string ⟨(Lib.join (xs.map (·.data.toList)) sep.data.toList).toArray⟩) ∧ Below w.heap.size w w' := by
  by_cases h0 : xs.length = 0
  · obtain ⟨a, c, rfl⟩ := Strs.own_len ho
    obtain rfl : xs = [] := List.eq_nil_of_length_eq_zero h0
    exact (Shelf.strings_Join_none a c sep w).mono fun e w' ⟨h1, h2⟩ => ⟨h1, h2 ▸ Below.refl _ _⟩
  · rcases Strs.own_is ho with ⟨h1, _⟩ | ⟨b, o, c, rfl, hc, hm, hcell⟩
    · exact absurd (by rw [h1]; rfl) h0
    · exact Shelf.strings_Join b o c xs sep w (fun j x hj => by obtain ⟨hj2, rfl⟩ := List.getElem?_eq_some_iff.1 hj; exact hcell j hj2) (Recs.lt_of_cell (hcell 0 (by omega))) (by omega) hc hlen
set_option maxRecDepth 100000 in
set_option maxHeartbeats 1000000 in
theorem get_impl (v : Value) (l : List Fld) (name : ByteArray) (w : World) (h : Is w v l) (hl : bulk l ≤ 1073741824) :
    Calls Tryd.prog 61 #[v, .string name] w fun e w' => e = .returned (.tuple #[.string (get l name).1, .bool (get l name).2]) ∧ Below w.heap.size w w' := by
  have hlen : l.length ≤ 1073741824 := by unfold bulk at hl; omega
  have hb := (Below.refl w.heap.size w).alloc (Nat.le_refl _) (.cells #[.string name] 9)
  have HC := Num.hide (chosenS_any 89 #[.pointer (some ⟨w.heap.size, 0, none⟩)] w.heap.size w (w.alloc (.cells #[.string name] 9)) v l (fun k => vals (l.take k) name) (fun _ W => W.cell? ⟨w.heap.size, 0, none⟩ = some (.string name)) h rfl hb (by simp) rfl
    (fun k hk => by have := vals_length (l.take k) name; rw [List.length_take] at this; omega) hlen (by simp)
    (fun k W W' hQ hb2 => (hb2.cell (p := ⟨w.heap.size, 0, none⟩) (by simp)).trans hQ) (get_choice w _ l name w.heap.size (sizes_get (by omega))) (enters_of Tryd.func89 (by kernel_rfl) rfl))
  simp only [List.take_length] at HC
  have hgs := get_size l name
  have hvl := vals_length l name
  have hg := get_join l name
  generalize vals l name = V at HC hg hvl
  generalize get l name = r at hg hgs
  obtain ⟨g, t⟩ := r
  simp only [Prod.mk.injEq] at hg hgs ⊢
  obtain ⟨hg1, hg2⟩ := hg
  have HJ := Num.hide (fun vv B W ho => join_any vv V ⟨#[44, 32]⟩ B W ho (by omega) (by
    have e : (Lib.join (V.map (·.data.toList)) [44, 32]).length = g.size := by rw [hg1]; show _ = Array.size _; simp
    show (Lib.join (V.map (·.data.toList)) [44, 32]).length ≤ _
    rw [e]; unfold bulk at hl; omega))
  have HJ2 : Hid (∀ vv B W, Strs.OwnS B W vv V → Calls Tryd.prog 52 #[vv, .string ⟨#[44, 32]⟩] W fun e w' => e = .returned (.string g) ∧ Below W.heap.size W w') := fun vv B W ho => by rw [hg1]; exact HJ.out vv B W ho
  have HT := Num.hide hg2
  clear h hb HJ hg1 hg2 hgs
  go_enter Tryd.func61, Tryd.ntmps61
  go_wp2_with fail
  refine HC.out.mono ?_
  rintro e w1 ⟨v', rfl, ho, hb1, _⟩
  obtain ⟨va, vc, rfl⟩ := Strs.own_len ho
  have HO := Num.hide ho
  have HB := Num.hide hb1
  clear ho hb1
  go_wp2_with fail
  refine (HJ2.out _ _ _ HO.out).mono ?_
  rintro e w2 ⟨rfl, hb2⟩
  have HB2 := Num.hide (HB.out.trans (hb2.mono HB.out.size))
  clear hb2 HB HO
  go_wp2
  go_ret2
  exact ⟨by rw [HT.out]; rfl, HB2.out⟩
end Flds
end Go.Proofs.YtkogcbnbmdeolaaDoor
