/-
  FieldDrop and FieldSet of the specification: a list of fields in a row of the call's own; what was there stays.
-/
import Derived.Test.YtbeljhonikhdjaaFldPut
namespace Go.Proofs.Ytbeljhonikhdjaa
open Go.RowKit
set_option linter.unusedVariables false
namespace Flds

/-- those of another name -/
def drop (l : List Fld) (name : ByteArray) : List Fld := l.filter fun f => decide (¬ f.1 = name)
theorem drop_take (l : List Fld) (name : ByteArray) (k : Nat) (h : k < l.length) : drop (l.take (k + 1)) name = drop (l.take k) name ++ (if l[k].1 = name then [] else [l[k]]) := by
  unfold drop
  rw [List.take_succ_eq_append_getElem h, List.filter_append]
  by_cases e : l[k].1 = name
  · rw [if_pos e]; simp [e]
  · rw [if_neg e]; simp [e]
theorem drop_length (l : List Fld) (name : ByteArray) : (drop l name).length ≤ l.length := List.length_filter_le _ _
/-- one field more, as it is set -/
def setStep (name value : ByteArray) (r : List Fld × Bool) (f : Fld) : List Fld × Bool :=
  if f.1 = name then (if r.2 = true then r else (r.1 ++ [(name, value)], true)) else (r.1 ++ [f], r.2)
def setGo (l : List Fld) (name value : ByteArray) : List Fld × Bool := l.foldl (setStep name value) ([], false)
/-- the first of that name has the value, others of it are gone; else it is put behind all -/
def set (l : List Fld) (name value : ByteArray) : List Fld := if (setGo l name value).2 = true then (setGo l name value).1 else (setGo l name value).1 ++ [(name, value)]
theorem setGo_take (l : List Fld) (name value : ByteArray) (k : Nat) (h : k < l.length) : setGo (l.take (k + 1)) name value = setStep name value (setGo (l.take k) name value) l[k] := by
  unfold setGo
  rw [List.take_succ_eq_append_getElem h, List.foldl_append]; rfl
theorem setGo_length (l : List Fld) (name value : ByteArray) : (setGo l name value).1.length ≤ l.length := by
  refine Num.snoc_ind (P := fun l => (setGo l name value).1.length ≤ l.length) (by simp [setGo]) ?_ l
  intro l f ih
  have e : setGo (l ++ [f]) name value = setStep name value (setGo l name value) f := by unfold setGo; rw [List.foldl_append]; rfl
  rw [e, List.length_append]
  unfold setStep
  split
  · split
    · simp; omega
    · simp; omega
  · simp; omega
theorem set_length (l : List Fld) (name value : ByteArray) : (set l name value).length ≤ l.length + 1 := by
  have := setGo_length l name value
  unfold set
  split
  · omega
  · rw [List.length_append]; simp; omega
set_option maxRecDepth 100000 in
set_option maxHeartbeats 1000000 in
theorem drop_spec (v : Value) (l : List Fld) (name : ByteArray) (w : World) (h : Is w v l) (hl : l.length ≤ 1073741824) :
    Calls Try.prog 16 #[v, .string name] w fun e w' => ∃ v', e = .returned v' ∧ Own w.heap.size w' v' (drop l name) ∧ Below w.heap.size w w' := by
  obtain ⟨a, c, rfl, h2⟩ := is_form h
  have HA := Num.hide h2
  clear h h2
  obtain ⟨i0, hi0, hz0, hz1, hz2⟩ := info_parts infoF
  have HD := Num.hide (made_nil w)
  go_enter Try.func16, Try.ntmps16
  go_wp2
  go_loopw [5, 6] (fun ov iv wr => ∃ i : Nat, i ≤ l.length ∧ iv = .int .i64 (i : Int) ∧ Hid (Own w.heap.size wr ov (drop (l.take i) name)) ∧ Hid (Below w.heap.size w wr)) (fun _ iv _ => l.length - (intOf iv).toNat)
  case atStart => exact ⟨0, by omega, rfl, HD, (Below.refl _ _).alloc (Nat.le_refl _) _⟩
  case round =>
    clear HD
    obtain ⟨i, hi, rfl, HO, HB⟩ := hrel
    by_cases hlt : i < l.length
    · obtain ⟨bk, o, rfl, hc, hmx, hblt, hcell⟩ := Num.unhide HA (by omega)
      obtain ⟨g1, g2⟩ := hcell i hlt
      have c1 : wr.cell? ⟨bk, o + i * 2, none⟩ = some (.string l[i].1) := by rw [HB.out.cell (p := ⟨bk, o + i * 2, none⟩) hblt]; exact g1
      have c2 : wr.cell? ⟨bk, o + i * 2 + 1, none⟩ = some (.string l[i].2) := by rw [HB.out.cell (p := ⟨bk, o + i * 2 + 1, none⟩) hblt]; exact g2
      have HT := Num.hide (drop_take l name i hlt)
      have hdl : (drop (l.take i) name).length ≤ 1073741824 := by have := drop_length (l.take i) name; rw [List.length_take] at this; omega
      have hsz := HB.out.size
      clear hcell g1 g2
      generalize l[i] = f at c1 c2 HT
      generalize drop (l.take i) name = D at HO HT hdl
      obtain ⟨x, y⟩ := f
      simp only at c1 c2
      by_cases he : x = name
      · subst he
        have HO2 : Hid (Own w.heap.size wr u5 (drop (l.take (i + 1)) x)) := by
          rw [HT.out, if_pos rfl, List.append_nil]; exact HO
        go_wp2
        go_roundw
        case rel => exact ⟨i + 1, by omega, by go_num, HO2, HB⟩
        case measure => simp [intOf]; omega
      · have d := ne_text he
        have d' : (x.toList != name.toList) = true := by rw [bne, d]; rfl
        have HT2 : Hid (drop (l.take (i + 1)) name = D ++ [(x, y)]) := by show _ = _; rw [HT.out, if_neg he]
        clear he
        go_wp2_with (at_builtin; refine wpList_append_own _ rfl _ _ 26 rfl w.heap.size 38 i0 _ 2 32 Try.underlying26 hi0 hz0 hz1 hz2 rfl (by decide) _ _ _ rfl (World.ownsRow.alloc HO.out _) ⟨wr.heap.size, 0, none⟩ 1 1 [.string x, .string y] rfl rfl (cells_two wr x y) (two_ok x y) (by unfold maxLen; omega) (by omega) ?c5 ?_)
        case c5 => first | omega | (simp; omega)
        intro v' w2 ho2 hg2 _
        obtain ⟨hp1, hp2⟩ := put_more hsz HO.out HB.out ho2 hg2
        have HP1 : Hid (Own w.heap.size w2 v' (drop (l.take (i + 1)) name)) := by rw [HT2.out]; exact hp1
        have HP2 := Num.hide hp2
        clear ho2 hg2 hp1 hp2
        go_wp2
        go_roundw
        case rel => exact ⟨i + 1, by omega, by go_num, HP1, HP2⟩
        case measure => simp [intOf]; omega
    · obtain rfl : i = l.length := by omega
      have ho := HO.out
      rw [List.take_of_length_le (Nat.le_refl _)] at ho
      have HO2 := Num.hide ho
      clear ho HO
      go_wp2
      go_ret
      exact ⟨_, rfl, HO2.out, HB.out⟩

set_option maxRecDepth 100000 in
set_option maxHeartbeats 1000000 in
theorem set_spec (v : Value) (l : List Fld) (name value : ByteArray) (w : World) (h : Is w v l) (hl : l.length ≤ 1073741824) :
    Calls Try.prog 12 #[v, .string name, .string value] w fun e w' => ∃ v', e = .returned v' ∧ Own w.heap.size w' v' (set l name value) ∧ Below w.heap.size w w' := by
  obtain ⟨a, c, rfl, h2⟩ := is_form h
  have HA := Num.hide h2
  clear h h2
  obtain ⟨i0, hi0, hz0, hz1, hz2⟩ := info_parts infoF
  have HD := Num.hide (made_nil w)
  obtain ⟨R, hR⟩ : ∃ R, set l name value = R := ⟨_, rfl⟩
  rw [hR]
  have HR := Num.hide hR
  clear hR
  go_enter Try.func12, Try.ntmps12
  go_wp2
  go_loopw [7, 8, 9] (fun ov dv iv wr => ∃ i : Nat, i ≤ l.length ∧ iv = .int .i64 (i : Int) ∧ (∃ L b, dv = .bool b ∧ Hid (setGo (l.take i) name value = (L, b)) ∧ Hid (Own w.heap.size wr ov L)) ∧ Hid (Below w.heap.size w wr)) (fun _ _ iv _ => l.length - (intOf iv).toNat)
  case atStart => exact ⟨0, by omega, rfl, ⟨[], false, rfl, rfl, HD⟩, (Below.refl _ _).alloc (Nat.le_refl _) _⟩
  case round =>
    clear HD
    obtain ⟨i, hi, rfl, ⟨L, b, rfl, HS, HO⟩, HB⟩ := hrel
    have hdl : L.length ≤ 1073741824 := by
      have := setGo_length (l.take i) name value
      rw [HS.out, List.length_take] at this
      simp only at this
      omega
    have hsz := HB.out.size
    by_cases hlt : i < l.length
    · obtain ⟨bk, o, rfl, hc, hmx, hblt, hcell⟩ := Num.unhide HA (by omega)
      obtain ⟨g1, g2⟩ := hcell i hlt
      have c1 : wr.cell? ⟨bk, o + i * 2, none⟩ = some (.string l[i].1) := by rw [HB.out.cell (p := ⟨bk, o + i * 2, none⟩) hblt]; exact g1
      have c2 : wr.cell? ⟨bk, o + i * 2 + 1, none⟩ = some (.string l[i].2) := by rw [HB.out.cell (p := ⟨bk, o + i * 2 + 1, none⟩) hblt]; exact g2
      have hT := setGo_take l name value i hlt
      rw [HS.out] at hT
      have HT := Num.hide hT
      clear hcell g1 g2 hT
      generalize l[i] = f at c1 c2 HT
      obtain ⟨x, y⟩ := f
      simp only at c1 c2
      by_cases he : x = name
      · subst he
        cases b with
        | true =>
          have HT2 : Hid (setGo (l.take (i + 1)) x value = (L, true)) := by show _ = _; rw [HT.out]; unfold setStep; rw [if_pos rfl, if_pos rfl]
          go_wp2
          go_roundw
          case rel => exact ⟨i + 1, by omega, by go_num, ⟨L, true, rfl, HT2, HO⟩, HB⟩
          case measure => simp [intOf]; omega
        | false =>
          have HT2 : Hid (setGo (l.take (i + 1)) x value = (L ++ [(x, value)], true)) := by show _ = _; rw [HT.out]; unfold setStep; rw [if_pos rfl, if_neg (by simp)]
          go_wp2_with (at_builtin; refine wpList_append_own _ rfl _ _ 26 rfl w.heap.size 38 i0 _ 2 32 Try.underlying26 hi0 hz0 hz1 hz2 rfl (by decide) _ _ _ rfl (World.ownsRow.alloc HO.out _) ⟨wr.heap.size, 0, none⟩ 1 1 [.string x, .string value] rfl rfl (cells_two wr x value) (two_ok x value) (by unfold maxLen; omega) (by omega) ?c5 ?_)
          case c5 => first | omega | (simp; omega)
          intro v' w2 ho2 hg2 _
          obtain ⟨hp1, hp2⟩ := put_more hsz HO.out HB.out ho2 hg2
          have HP1 := Num.hide hp1
          have HP2 := Num.hide hp2
          clear ho2 hg2 hp1 hp2
          go_wp2
          go_roundw
          case rel => exact ⟨i + 1, by omega, by go_num, ⟨_, true, rfl, HT2, HP1⟩, HP2⟩
          case measure => simp [intOf]; omega
      · have d := ne_text he
        have d' : (x.toList != name.toList) = true := by rw [bne, d]; rfl
        have HT2 : Hid (setGo (l.take (i + 1)) name value = (L ++ [(x, y)], b)) := by show _ = _; rw [HT.out]; unfold setStep; rw [if_neg he]
        clear he
        go_wp2_with (at_builtin; refine wpList_append_own _ rfl _ _ 26 rfl w.heap.size 38 i0 _ 2 32 Try.underlying26 hi0 hz0 hz1 hz2 rfl (by decide) _ _ _ rfl (World.ownsRow.alloc HO.out _) ⟨wr.heap.size, 0, none⟩ 1 1 [.string x, .string y] rfl rfl (cells_two wr x y) (two_ok x y) (by unfold maxLen; omega) (by omega) ?c6 ?_)
        case c6 => first | omega | (simp; omega)
        intro v' w2 ho2 hg2 _
        obtain ⟨hp1, hp2⟩ := put_more hsz HO.out HB.out ho2 hg2
        have HP1 := Num.hide hp1
        have HP2 := Num.hide hp2
        clear ho2 hg2 hp1 hp2
        go_wp2
        go_roundw
        case rel => exact ⟨i + 1, by omega, by go_num, ⟨_, b, rfl, HT2, HP1⟩, HP2⟩
        case measure => simp [intOf]; omega
    · obtain rfl : i = l.length := by omega
      have hs := HS.out
      rw [List.take_of_length_le (Nat.le_refl _)] at hs
      have hR := HR.out
      unfold set at hR
      rw [hs] at hR
      cases b with
      | true =>
        rw [if_pos rfl] at hR
        have HR2 : Hid (L = R) := hR
        clear hR hs
        go_wp2
        go_ret
        exact ⟨_, rfl, by rw [← HR2.out]; exact HO.out, HB.out⟩
      | false =>
        rw [if_neg (by simp)] at hR
        have HR2 : Hid (L ++ [(name, value)] = R) := hR
        clear hR hs
        go_wp2_with (at_builtin; refine wpList_append_own _ rfl _ _ 26 rfl w.heap.size 38 i0 _ 2 32 Try.underlying26 hi0 hz0 hz1 hz2 rfl (by decide) _ _ _ rfl (World.ownsRow.alloc HO.out _) ⟨wr.heap.size, 0, none⟩ 1 1 [.string name, .string value] rfl rfl (cells_two wr name value) (two_ok name value) (by unfold maxLen; omega) (by omega) ?c7 ?_)
        case c7 => first | omega | (simp; omega)
        intro v' w2 ho2 hg2 _
        obtain ⟨hp1, hp2⟩ := put_more hsz HO.out HB.out ho2 hg2
        have HP1 := Num.hide hp1
        have HP2 := Num.hide hp2
        clear ho2 hg2 hp1 hp2
        go_wp2
        go_ret
        exact ⟨_, rfl, by rw [← HR2.out]; exact HP1.out, HP2.out⟩
end Flds
end Go.Proofs.Ytbeljhonikhdjaa
