/-
  eqStringS, markStringS and heldStringS of the laws: lists of texts compared, marked, and held against their marks.
-/
import Derived.Test.YtkogcbnbmdeolaaDoorStrs
import Derived.Test.YtkogcbnbmdeolaaDoorMarkText
import Derived.Deep.QuietTactic
import Derived.BigQuiet
import Derived.Deep.RegionWith
namespace Go.Proofs.YtkogcbnbmdeolaaDoor
open Go.RowKit
set_option linter.unusedVariables false
namespace Strs

theorem take_succ_eq {α : Type} (a b : List α) (k : Nat) (ha : k < a.length) (hb : k < b.length) : a.take (k + 1) = b.take (k + 1) ↔ a.take k = b.take k ∧ a[k] = b[k] := by
  rw [List.take_succ_eq_append_getElem ha, List.take_succ_eq_append_getElem hb]
  constructor
  · intro h
    have h1 := List.append_inj h (by rw [List.length_take, List.length_take]; omega)
    exact ⟨h1.1, by simpa using h1.2⟩
  · rintro ⟨h1, h2⟩; rw [h1, h2]

theorem is_form {w : World} {v : Value} {l : List ByteArray} (h : Is w v l) : ∃ a c, v = .slice a l.length c ∧ (0 < l.length → ∃ b o, a = some ⟨b, o, none⟩ ∧ l.length ≤ c ∧ c ≤ maxLen ∧ ∀ i (h : i < l.length), w.cell? ⟨b, o + i, none⟩ = some (.string l[i])) := by
  rcases h with ⟨rfl, a, c, rfl⟩ | ⟨b, o, c, rfl, h1, h2, h3⟩
  · exact ⟨a, c, rfl, fun h => by simp at h⟩
  · exact ⟨_, c, rfl, fun _ => ⟨b, o, rfl, h1, h2, h3⟩⟩

set_option maxRecDepth 100000 in
set_option maxHeartbeats 1000000 in
theorem eq_any (va vb : Value) (la lb : List ByteArray) (w : World) (ha : Is w va la) (hb : Is w vb lb) (hla : la.length ≤ 1099511627776) : Calls Tryd.prog 27 #[va, vb] w fun e w' => e = .returned (.bool (decide (la = lb))) ∧ ∃ n, w' = w.drewN n := by
  obtain ⟨aa, ca, rfl, ha2⟩ := is_form ha
  obtain ⟨ab, cb, rfl, hb2⟩ := is_form hb
  have HA := Num.hide ha2
  have HB := Num.hide hb2
  clear ha hb ha2 hb2
  obtain ⟨r, hr⟩ : ∃ r, decide (la = lb) = r := ⟨_, rfl⟩
  rw [hr]
  have HR := Num.hide hr
  clear hr
  by_cases hl : la.length = lb.length
  · have hne : ((la.length : Int) != (lb.length : Int)) = false := by rw [hl]; simp
    have HL := Num.hide hl
    clear hl
    go_enter Tryd.func27, Tryd.ntmps27
    go_wp2
    clear hne
    go_loopw [5] (fun i wr => ∃ k n : Nat, k ≤ la.length ∧ i = .int .i64 (k : Int) ∧ Hid (wr = w.drewN n) ∧ Hid (la.take k = lb.take k)) (fun i _ => la.length - (intOf i).toNat)
    case atStart => exact ⟨0, 0, by omega, rfl, rfl, by simp [Hid]⟩
    case round =>
      obtain ⟨k, n, hk, rfl, HW, HT⟩ := hrel
      by_cases hlt : k < la.length
      · have hlt2 : k < lb.length := by have := HL.out; omega
        obtain ⟨ba, oa, rfl, hca, hma, hcella⟩ := Num.unhide HA (by omega)
        obtain ⟨bb, ob, rfl, hcb, hmb, hcellb⟩ := Num.unhide HB (by omega)
        have c1 : wr.cell? ⟨ba, oa + k, none⟩ = some (.string la[k]) := by rw [HW.out]; exact hcella k hlt
        have c2 : wr.cell? ⟨bb, ob + k, none⟩ = some (.string lb[k]) := by rw [HW.out]; exact hcellb k hlt2
        have HS := Num.hide (take_succ_eq la lb k hlt hlt2)
        clear hcella hcellb
        generalize la[k] = x at c1 HS
        generalize lb[k] = y at c2 HS
        by_cases he : x = y
        · subst he
          have HT2 : Hid (la.take (k + 1) = lb.take (k + 1)) := HS.out.2 ⟨HT.out, rfl⟩
          go_wp2
          go_quiet (fail)
          go_wp2
          go_roundw
          case rel => exact ⟨k + 1, n + nq, by omega, by go_num, by show _ = _; rw [HW.out, World.drewN_drewN], HT2⟩
          case measure => simp [intOf]; omega
        · have hxy : (x.toList == y.toList) = false := by
            rw [beq_eq_false_iff_ne, ByteArray.toList_eq, ByteArray.toList_eq]
            intro h; exact he (ByteArray.ext (Array.toList_inj.1 h))
          have hxy2 : (x.toList != y.toList) = true := by rw [bne, hxy]; rfl
          have hf : r = false := by
            rw [← HR.out]
            refine decide_eq_false (fun h => he ?_)
            exact (HS.out.1 (by rw [h])).2
          subst hf
          clear he
          go_wp2
          go_quiet (fail)
          go_wp2
          go_ret
          exact ⟨rfl, n + nq, by rw [HW.out, World.drewN_drewN]⟩
      · have ht : r = true := by
          rw [← HR.out]
          refine decide_eq_true ?_
          have h := HT.out
          rwa [List.take_of_length_le (by omega), List.take_of_length_le (by have := HL.out; omega)] at h
        subst ht
        go_wp2
        go_ret
        exact ⟨rfl, n, HW.out⟩
  · have hne : ((la.length : Int) != (lb.length : Int)) = true := by rw [bne_iff_ne]; omega
    have hf : r = false := by rw [← HR.out]; exact decide_eq_false (fun h => hl (by rw [h]))
    subst hf
    go_enter Tryd.func27, Tryd.ntmps27
    go_wp2
    go_ret
    exact ⟨rfl, 0, rfl⟩

/-- so many marks from k on -/
def marks (k : Int) (n : Nat) : List ByteArray := (List.range n).map fun (i : Nat) => Mark.text (k + (i : Int))
theorem length_marks (k : Int) (n : Nat) : (marks k n).length = n := by simp [marks]
theorem marks_succ (k : Int) (n : Nat) : marks k (n + 1) = marks k n ++ [Mark.text (k + (n : Int))] := by simp [marks, List.range_succ]
theorem marks_at (k : Int) (n i : Nat) (h : i < n) : (marks k n)[i]'(by rw [length_marks]; exact h) = Mark.text (k + (i : Int)) := by simp [marks]
theorem own_set {B : Nat} {w : World} {v : Value} {l : List ByteArray} (h : OwnS B w v l) (i : Nat) (hi : i < l.length) : ∃ g c, v = .slice (some ⟨g, 0, none⟩) l.length c ∧ l.length ≤ c ∧ c ≤ maxLen ∧ B ≤ g ∧ g < w.heap.size ∧ w.cell? ⟨g, i, none⟩ = some (.string l[i]) ∧ w.frozen? ⟨g, i, none⟩ = false ∧
    ∀ t, OwnS B (w.setCell ⟨g, i, none⟩ (.string t)) v (l.set i t) ∧ w.grownBy (w.setCell ⟨g, i, none⟩ (.string t)) v.ownBlock := by
  have hlt := own_lt h
  rcases h.2 with ⟨h1, h2⟩ | ⟨g, cap, cur, h1, hB, hg, hc, hm, hs, ht⟩
  · omega
  · subst h1
    have hcs : (cur.toList.take (l.length * 1))[i]? = (l.map Value.string)[i]? := by rw [ht]
    rw [List.getElem?_take_of_lt (by omega), List.getElem?_map, List.getElem?_eq_getElem hi] at hcs
    have hcell : w.cell? ⟨g, i, none⟩ = some (.string l[i]) := by rw [cell_of_row w g i cur _ _ hg]; simpa using hcs
    refine ⟨g, cap, rfl, hc, hm, hB, (hlt g rfl).2, hcell, by simp [World.frozen?, hg], fun t => ⟨⟨by rw [List.length_map, List.length_set]; omega, .inr ⟨g, cap, cur.setIfInBounds i (.string t), by rw [List.length_set], hB, ?_, by rw [List.length_set]; exact hc, hm, by rw [Array.size_setIfInBounds]; exact hs, ?_⟩⟩, ⟨rfl, rfl, rfl, by simp, fun k hk hne => ?_⟩⟩⟩
    · exact heap_setCell_same w g i cur _ _ hg
    · rw [List.length_set, List.map_set, ← ht, Array.toList_setIfInBounds, List.take_set]
    · exact heap_setCell_other w _ k _ (fun e => hne (by rw [e]; rfl))
theorem set_marks (k : Int) (l : List ByteArray) (i : Nat) (h : i < l.length) : (marks k i ++ l.drop i).set i (Mark.text (k + (i : Int))) = marks k (i + 1) ++ l.drop (i + 1) := by
  rw [List.set_append_right _ _ (by rw [length_marks]; exact Nat.le_refl _), length_marks, Nat.sub_self, List.drop_eq_getElem_cons h, List.set_cons_zero, marks_succ, List.append_assoc]; rfl

set_option maxRecDepth 100000 in
set_option maxHeartbeats 1000000 in
theorem mark_any (B : Nat) (v : Value) (l : List ByteArray) (k : Int) (w : World) (h : OwnS B w v l) (hl : l.length ≤ 1099511627776) (h0 : 0 ≤ k) (h1 : k ≤ 1099511627776) :
    Calls Tryd.prog 30 #[v, .int .i64 k] w fun e w' => e = .returned (.int .i64 (k + l.length)) ∧ OwnS B w' v (marks k l.length) ∧ w.grownBy w' v.ownBlock := by
  have HO := Num.hide h
  obtain ⟨a, c, rfl⟩ := own_len h
  clear h
  go_enter Tryd.func30, Tryd.ntmps30
  go_wp2
  go_loopw [1, 5] (fun kv iv wr => ∃ i : Nat, i ≤ l.length ∧ kv = .int .i64 (k + i) ∧ iv = .int .i64 (i : Int) ∧ Hid (OwnS B wr (.slice a l.length c) (marks k i ++ l.drop i)) ∧ Hid (w.grownBy wr (Value.slice a l.length c).ownBlock)) (fun _ iv _ => l.length - (intOf iv).toNat)
  case atStart => exact ⟨0, by omega, by simp, rfl, HO, ⟨rfl, rfl, rfl, Nat.le_refl _, fun _ _ _ => rfl⟩⟩
  case round =>
    obtain ⟨i, hi, rfl, rfl, HO2, HG⟩ := hrel
    have hlen : (marks k i ++ l.drop i).length = l.length := by rw [List.length_append, length_marks, List.length_drop]; omega
    have HLen := Num.hide hlen
    by_cases hlt : i < l.length
    · go_wp2_with fail
      refine (Mark.markText_any _ _ (by omega)).mono ?_
      rintro e w1 ⟨rfl, hb1⟩
      have HO3 := Num.hide (own_below HO2.out hb1)
      obtain ⟨g, c', hv, hc, hm, hB, hg, hcell, hfree, hset⟩ := own_set HO3.out i (by omega)
      rw [hlen] at hv hc
      simp only [Value.slice.injEq, true_and] at hv
      obtain ⟨rfl, rfl⟩ := hv
      obtain ⟨hs1, hs2⟩ := hset (Mark.text (k + (i : Int)))
      rw [set_marks k l i hlt] at hs1
      have HS1 := Num.hide hs1
      have HS2 := Num.hide (grown_trans HG.out (grown_trans (grown_of_below hb1 _) hs2))
      obtain ⟨old, hold⟩ : ∃ o, w1.cell? ⟨g, i, none⟩ = some (.string o) := ⟨_, hcell⟩
      clear hcell hs1 hs2 hset hlen
      go_wp2
      go_roundw
      case rel => exact ⟨i + 1, by omega, by go_num, by go_num, HS1, HS2⟩
      case measure => simp [intOf]; omega
    · obtain rfl : i = l.length := by omega
      have ho := HO2.out
      rw [List.drop_length, List.append_nil] at ho
      have HO4 := Num.hide ho
      clear ho hlen
      go_wp2
      go_ret
      exact ⟨rfl, HO4.out, HG.out⟩

set_option maxRecDepth 100000 in
set_option maxHeartbeats 2000000 in
theorem held_any (v : Value) (n : Nat) (k : Int) (w : World) (h : Is w v (marks k n)) (hl : n ≤ 1099511627776) (h0 : 0 ≤ k) (h1 : k ≤ 1099511627776) :
    Calls Tryd.prog 31 #[v, .int .i64 k] w fun e w' => e = .returned (.int .i64 (k + n)) ∧ Below w.heap.size w w' := by
  obtain ⟨a, c, rfl, h2⟩ := is_form h
  have h3 : 0 < n → ∃ b o, a = some ⟨b, o, none⟩ ∧ n ≤ c ∧ c ≤ maxLen ∧ ∀ i, i < n → w.cell? ⟨b, o + i, none⟩ = some (.string (Mark.text (k + (i : Int)))) := by
    intro hn
    obtain ⟨b, o, h4, h5, h6, h7⟩ := h2 (by rw [length_marks]; exact hn)
    refine ⟨b, o, h4, by rw [length_marks] at h5; exact h5, h6, fun i hi => ?_⟩
    rw [h7 i (by rw [length_marks]; exact hi), marks_at k n i hi]
  rw [length_marks]
  have HA := Num.hide h3
  clear h h2 h3
  go_enter Tryd.func31, Tryd.ntmps31
  go_wp2
  go_loopw [1, 5] (fun kv iv wr => ∃ i : Nat, i ≤ n ∧ kv = .int .i64 (k + i) ∧ iv = .int .i64 (i : Int) ∧ Hid (Below w.heap.size w wr)) (fun _ iv _ => n - (intOf iv).toNat)
  case atStart => exact ⟨0, by omega, by simp, rfl, Below.refl _ _⟩
  case round =>
    obtain ⟨i, hi, rfl, rfl, HB⟩ := hrel
    by_cases hlt : i < n
    · obtain ⟨b, o, rfl, hc, hm, hcell⟩ := Num.unhide HA (by omega)
      have hc0 := hcell i hlt
      have hblt : b < w.heap.size := by
        by_cases hz : b < w.heap.size
        · exact hz
        · exfalso
          have : w.heap[b]? = none := Array.getElem?_eq_none (by omega)
          simp [World.cell?, this] at hc0
      have c1 : wr.cell? ⟨b, o + i, none⟩ = some (.string (Mark.text (k + (i : Int)))) := by rw [HB.out.cell (p := ⟨b, o + i, none⟩) hblt]; exact hc0
      have HM := Num.hide (fun W => Mark.markText_any (k + (i : Int)) W (by omega))
      have hsz := HB.out.size
      generalize Mark.text (k + (i : Int)) = t at c1 HM
      clear hcell hc0
      go_wp2
      go_region_with (go_at_call 67; refine (Num.unhide HM _).mono ?_; rintro e w2 ⟨rfl, hb2⟩; have c2 := (hb2.cell (p := ⟨b, o + i, none⟩) (by simp; omega)).trans c1)
      all_goals
        have HB2 := Num.hide (HB.out.drew.trans (hb2.mono hsz))
        clear hb2 c2
        go_wp2
        go_roundw
        case rel => exact ⟨i + 1, by omega, by go_num, by go_num, HB2⟩
        case measure => simp [intOf]; omega
    · obtain rfl : i = n := by omega
      go_wp2
      go_ret
      exact ⟨rfl, HB.out⟩
end Strs
end Go.Proofs.YtkogcbnbmdeolaaDoor
