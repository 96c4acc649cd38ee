/-
  FldSz: szField and szFieldS of the laws: how large a list of fields is.
  FldTo: toField and toFieldS of the laws: a copy of a list of fields, in a row of the call's own.
-/
import Derived.Test.YtjeokackmkfooaaDoorFlds
import Derived.Test.YtjeokackmkfooaaDoorFldOwn
namespace Go.Proofs.YtjeokackmkfooaaDoor
open Go.RowKit
set_option linter.unusedVariables false
namespace Flds

theorem ret_int {k : IntKind} {a b : Int} (h : a = b) : Ending.returned (.int k a) = .returned (.int k b) := by rw [h]
set_option maxRecDepth 100000 in
set_option maxHeartbeats 1000000 in
theorem szField_any (f : Fld) (n : Int) (w : World) (h0 : 0 ≤ n) (h1 : n ≤ 1048576) (hf : f.1.size ≤ 9223372036854775807 ∧ f.2.size ≤ 9223372036854775807) :
    Calls Tryd.prog 14 #[.agg #[.string f.1, .string f.2], .int .i64 n] w fun e w' => e = .returned (.int .i64 (left n (f.1.size + f.2.size))) ∧ Below w.heap.size w w' := by
  obtain ⟨x, y⟩ := f
  simp only at hf ⊢
  obtain ⟨r, hr⟩ : ∃ r, left n (x.size + y.size) = r := ⟨_, rfl⟩
  rw [hr]
  unfold left at hr
  by_cases hx : n - x.size < 0
  · rw [if_pos (by omega)] at hr
    subst hr
    go_enter Tryd.func14, Tryd.ntmps14
    go_wp2
    go_ret
    exact ⟨rfl, (Below.refl _ _).alloc (Nat.le_refl _) _⟩
  · by_cases hy : n - x.size - y.size < 0
    · rw [if_pos (by omega)] at hr
      subst hr
      go_enter Tryd.func14, Tryd.ntmps14
      go_wp2
      go_ret
      exact ⟨rfl, (Below.refl _ _).alloc (Nat.le_refl _) _⟩
    · rw [if_neg (by omega)] at hr
      have HR := Num.hide hr
      clear hr
      go_enter Tryd.func14, Tryd.ntmps14
      go_wp2
      go_ret
      exact ⟨ret_int (by rw [← HR.out]; omega), (Below.refl _ _).alloc (Nat.le_refl _) _⟩

set_option maxRecDepth 100000 in
set_option maxHeartbeats 1000000 in
theorem szFieldS_any (v : Value) (l : List Fld) (n : Int) (w : World) (h : Is w v l) (hz : ∀ f ∈ l, f.1.size ≤ maxLen ∧ f.2.size ≤ maxLen) (h0 : 0 ≤ n) (h1 : n ≤ 1048576) :
    Calls Tryd.prog 9 #[v, .int .i64 n] w fun e w' => e = .returned (.int .i64 (left n (bulk l))) ∧ Below w.heap.size w w' := by
  obtain ⟨a, c, rfl, h2⟩ := is_form h
  have HA := Num.hide h2
  have HZ := Num.hide hz
  have hlen : l.length ≤ 9223372036854775807 := by
    by_cases h0 : 0 < l.length
    · obtain ⟨b, o, _, h3, h4, _⟩ := h2 h0
      unfold maxLen at h4; omega
    · omega
  clear h h2 hz
  obtain ⟨r, hr⟩ : ∃ r, left n (bulk l) = r := ⟨_, rfl⟩
  rw [hr]
  have HR := Num.hide hr
  clear hr
  by_cases hneg : n - l.length < 0
  · have hr : r = -1 := by
      rw [← HR.out]; unfold left bulk; rw [if_pos (by omega)]
    subst hr
    go_enter Tryd.func9, Tryd.ntmps9
    go_wp2
    go_ret
    exact ⟨rfl, Below.refl _ _⟩
  · go_enter Tryd.func9, Tryd.ntmps9
    go_wp2
    go_loopw [1, 5] (fun nv iv wr => ∃ i : Nat, i ≤ l.length ∧ iv = .int .i64 (i : Int) ∧ (∃ m : Int, nv = .int .i64 m ∧ 0 ≤ m ∧ m ≤ 1048576 ∧ Hid (m = n - l.length - (((l.take i).map fun f => f.1.size + f.2.size).sum : Nat))) ∧ Hid (Below w.heap.size w wr)) (fun _ iv _ => l.length - (intOf iv).toNat)
    case atStart => exact ⟨0, by omega, rfl, ⟨_, rfl, by omega, by omega, by simp [Hid]⟩, Below.refl _ _⟩
    case round =>
      obtain ⟨i, hi, rfl, ⟨m, rfl, hm0, hm1, HM⟩, HB⟩ := hrel
      by_cases hlt : i < l.length
      · obtain ⟨b, o, rfl, hc, hmx, hblt, hcell⟩ := Num.unhide HA (by omega)
        obtain ⟨hc1, hc2⟩ := hcell i hlt
        have hz := Num.unhide HZ l[i] (List.getElem_mem hlt)
        have c1 : wr.cell? ⟨b, o + i * 2, none⟩ = some (.string l[i].1) := by rw [HB.out.cell (p := ⟨b, o + i * 2, none⟩) hblt]; exact hc1
        have c2 : wr.cell? ⟨b, o + i * 2 + 1, none⟩ = some (.string l[i].2) := by rw [HB.out.cell (p := ⟨b, o + i * 2 + 1, none⟩) hblt]; exact hc2
        have HT := Num.hide (bulk_take l i hlt)
        have HL := Num.hide (bulk_le l (i + 1))
        clear hcell hc1 hc2
        generalize l[i] = f at c1 c2 hz HT
        obtain ⟨x, y⟩ := f
        simp only at c1 c2 hz
        unfold maxLen at hz
        have hsum : Hid (((l.take (i + 1)).map fun f => f.1.size + f.2.size).sum = ((l.take i).map fun f => f.1.size + f.2.size).sum + (x.size + y.size)) := HT.out
        by_cases hn : m - (x.size + y.size : Nat) < 0
        · have hl : left m (x.size + y.size) = -1 := by unfold left; rw [if_pos hn]
          have hr : r = -1 := by
            have e1 := HM.out; have e2 := HL.out; have e3 := hsum.out
            rw [← HR.out]; unfold left bulk; rw [if_pos (by omega)]
          subst hr
          have HL2 := Num.hide hl
          clear hl
          go_wp2_with fail
          refine (szField_any (x, y) m _ hm0 hm1 hz).mono ?_
          rintro e w1 ⟨rfl, hb1⟩
          rw [show left m (((x, y) : Fld).1.size + ((x, y) : Fld).2.size) = -1 from HL2.out]
          go_wp2
          go_ret
          exact ⟨rfl, HB.out.trans (hb1.mono HB.out.size)⟩
        · have hl : left m (x.size + y.size) = m - (x.size + y.size : Nat) := by unfold left; rw [if_neg hn]
          have HL2 := Num.hide hl
          have hmm : Hid (m - (x.size + y.size : Nat) = n - l.length - (((l.take (i + 1)).map fun f => f.1.size + f.2.size).sum : Nat)) := by
            have e1 := HM.out; have e3 := hsum.out
            show _ = _
            omega
          clear hl
          go_wp2_with fail
          refine (szField_any (x, y) m _ hm0 hm1 hz).mono ?_
          rintro e w1 ⟨rfl, hb1⟩
          rw [show left m (((x, y) : Fld).1.size + ((x, y) : Fld).2.size) = m - (x.size + y.size : Nat) from HL2.out]
          have HB1 := Num.hide (HB.out.trans (hb1.mono HB.out.size))
          clear hb1
          go_wp2
          go_roundw
          case rel => exact ⟨i + 1, by omega, by go_num, ⟨_, rfl, by omega, by omega, hmm⟩, HB1⟩
          case measure => simp [intOf]; omega
      · obtain rfl : i = l.length := by omega
        have hr : r = m := by
          have e1 := HM.out
          rw [List.take_of_length_le (Nat.le_refl _)] at e1
          rw [← HR.out]; unfold left bulk; rw [if_neg (by omega)]; omega
        subst hr
        go_wp2
        go_ret
        exact ⟨rfl, HB.out⟩
end Flds
end Go.Proofs.YtjeokackmkfooaaDoor
namespace Go.Proofs.YtjeokackmkfooaaDoor
open Go.RowKit
set_option linter.unusedVariables false
namespace Flds

set_option maxRecDepth 100000 in
set_option maxHeartbeats 1000000 in
theorem toField_any (x y : ByteArray) (w : World) : Calls Tryd.prog 16 #[.agg #[.string x, .string y]] w fun e w' => e = .returned (.agg #[.string x, .string y]) ∧ Below w.heap.size w w' := by
  go_enter Tryd.func16, Tryd.ntmps16
  go_wp2
  exact bodyPost_ret (v := .agg #[.string x, .string y]) (by simp [results, Tryd.results16, go_sem]) rfl ⟨rfl, (((Below.refl _ _).alloc (Nat.le_refl _) _).alloc (by simp) _).alloc (by simp; omega) _⟩
set_option maxRecDepth 100000 in
set_option maxHeartbeats 1000000 in
theorem toFieldS_any (v : Value) (l : List Fld) (w : World) (h : Is w v l) (hl : l.length ≤ 1048576) :
    Calls Tryd.prog 11 #[v] w fun e w' => ∃ v', e = .returned v' ∧ Own w.heap.size w' v' l ∧ Below w.heap.size w w' := by
  obtain ⟨a, c, rfl, h2⟩ := is_form h
  have HA := Num.hide h2
  clear h h2
  obtain ⟨i0, hi0, hz0, hz1, hz2⟩ := info_parts infoF
  go_enter Tryd.func11, Tryd.ntmps11
  go_wp2_with (at_make; refine wpList_make_full _ rfl (.tmp 6) (.tmp 6) 27 rfl w.heap.size 43 i0 _ 2 Tryd.underlying27 hi0 hz0 hz1 .i64 .i64 (l.length : Int) (l.length : Int) l.length rfl rfl rfl rfl ?c1 ?c2 ?c3 ?_)
  case c1 => rw [hz2]; omega
  case c2 => unfold maxLen; omega
  case c3 => exact Nat.le_refl _
  intro w1 hown hgrow
  rw [made_rec] at hown
  have HO : Hid (Own w.heap.size w1 (.slice (some ⟨w.heap.size, 0, none⟩) l.length l.length) (List.replicate l.length zeroF)) := by
    show w1.ownsRow _ _ _ _ _ _
    rw [List.length_replicate]; exact hown
  have HB : Hid (Below w.heap.size w w1) := (Below.refl _ _).grown hgrow (Nat.le_refl _) (fun k h => by cases h)
  clear hown hgrow
  go_wp2
  go_loopw [4] (fun iv wr => ∃ i : Nat, i ≤ l.length ∧ iv = .int .i64 (i : Int) ∧ Hid (Own w.heap.size wr (.slice (some ⟨w.heap.size, 0, none⟩) l.length l.length) (l.take i ++ List.replicate (l.length - i) zeroF)) ∧ Hid (Below w.heap.size w wr)) (fun iv _ => l.length - (intOf iv).toNat)
  case atStart => exact ⟨0, by omega, rfl, HO, HB⟩
  case round =>
    clear HO HB
    obtain ⟨i, hi, rfl, HO, HB⟩ := hrel
    by_cases hlt : i < l.length
    · obtain ⟨b, o, rfl, hc, hmx, hblt, hcell⟩ := Num.unhide HA (by omega)
      obtain ⟨hc1, hc2⟩ := hcell i hlt
      have c1 : wr.cell? ⟨b, o + i * 2, none⟩ = some (.string l[i].1) := by rw [HB.out.cell (p := ⟨b, o + i * 2, none⟩) hblt]; exact hc1
      have c2 : wr.cell? ⟨b, o + i * 2 + 1, none⟩ = some (.string l[i].2) := by rw [HB.out.cell (p := ⟨b, o + i * 2 + 1, none⟩) hblt]; exact hc2
      have HT := Num.hide (take_set l i hlt)
      clear hcell hc1 hc2
      generalize l[i] = f at c1 c2 HT
      obtain ⟨x, y⟩ := f
      simp only at c1 c2
      go_wp2_with fail
      refine (toField_any x y _).mono ?_
      rintro e w2 ⟨rfl, hb2⟩
      have hlen : (l.take i ++ List.replicate (l.length - i) zeroF).length = l.length := by rw [List.length_append, List.length_take, List.length_replicate]; omega
      obtain ⟨g, c', hv, hc', hm', hB', hg', k1, k2, hfz, q1, q2, hput⟩ := own_put (Recs.own_below HO.out hb2) i (by omega)
      simp only [Value.slice.injEq, Option.some.injEq, Addr.mk.injEq, and_true] at hv
      obtain ⟨rfl, e9, rfl⟩ := hv
      clear e9
      obtain ⟨hp1, hp2⟩ := hput x y
      rw [HT.out] at hp1
      have HP1 := Num.hide hp1
      have HP2 := Num.hide (HB.out.trans ((hb2.mono HB.out.size).trans (Recs.below_mark (Recs.own_below HO.out hb2) (Nat.le_refl _) (Nat.le_trans HB.out.size hb2.size) hp2)))
      obtain ⟨o1, ho1⟩ : ∃ u, w2.cell? ⟨w.heap.size, i * 2, none⟩ = some u := ⟨_, k1⟩
      obtain ⟨o2, ho2⟩ : ∃ u, w2.cell? ⟨w.heap.size, i * 2 + 1, none⟩ = some u := ⟨_, k2⟩
      have f1 := hfz (i * 2)
      have f2 := hfz (i * 2 + 1)
      clear q1 q2 hput hp1 hp2 k1 k2 hfz hlen
      clear hb2 hc' hg' hm'
      go_wp2
      go_roundw
      case rel => exact ⟨i + 1, by omega, by go_num, HP1, HP2⟩
      case measure => simp [intOf]; omega
    · obtain rfl : i = l.length := by omega
      have ho := HO.out
      rw [List.take_of_length_le (Nat.le_refl _), Nat.sub_self, List.replicate_zero, List.append_nil] at ho
      have HO2 := Num.hide ho
      clear ho HO
      go_wp2
      go_ret
      exact ⟨_, rfl, HO2.out, HB.out⟩
end Flds
end Go.Proofs.YtjeokackmkfooaaDoor
