/-
  SecondsSpec: Seconds of the specification: what the call returns, for every text; the world stays.
  RespVal: A response as a value.
  Boxes: Boxes of a call's own: what a store into one leaves of what lies below and of the rows behind.
-/
import Derived.Test.YtihiljickefanaaGreatDoorPaa
import Derived.Test.YtihiljickefanaaGreatDoorRows
import Derived.Laws.Strings
import Derived.Test.YtihiljickefanaaGreatDoorFlds
import Derived.Test.YtihiljickefanaaGreatDoorRecs
namespace Go.Proofs.YtihiljickefanaaGreatDoor
open Go.RowKit
set_option linter.unusedVariables false
namespace Sign

set_option maxRecDepth 100000 in
set_option maxHeartbeats 1000000 in
theorem seconds_spec (s : ByteArray) (w : World) (hs : s.size ≤ maxLen) : Calls Tryz.prog 54 #[.string s] w fun e w' => e = .returned (.tuple #[.int .i64 (secs s).1, .bool (secs s).2]) ∧ w = w' := by
  unfold maxLen at hs
  obtain ⟨r, hr⟩ : ∃ r, secs s = r := ⟨_, rfl⟩
  rw [hr]
  have HR := Num.hide hr
  clear hr
  go_enter Tryz.func54, Tryz.ntmps54
  go_wp2
  go_loop [4, 5] (fun n i => ∃ k : Nat, k ≤ s.size ∧ i = .int .i64 k ∧ n = .int .i64 (sec (s.data.toList.take k)) ∧ (s.data.toList.take k).all (fun b => decide (dig (b.toNat : Int))) = true) (fun _ i => s.size - (intOf i).toNat)
  case atStart => exact ⟨0, by omega, rfl, rfl, by simp⟩
  case round =>
    obtain ⟨k, hk, rfl, rfl, hall⟩ := hrel
    have hb := sec_bd _ hall
    have HA := Num.hide hall
    clear hall
    by_cases hlt : k < s.size
    · have hstep := Num.hide (all_take s (fun b => decide (dig (b.toNat : Int))) k hlt)
      have hsec := Num.hide (sec_take s k hlt)
      have hn := Num.hide (fun h => not_all s (fun b => decide (dig (b.toNat : Int))) k hlt h)
      have hc := s[k].toNat_lt
      obtain ⟨x, hx⟩ : ∃ x, sec (s.data.toList.take k) = x := ⟨_, rfl⟩
      rw [hx] at hb ⊢
      have HX := Num.hide hx
      clear hx
      by_cases h1 : 48 ≤ (s[k].toNat : Int)
      · have d1 : decide ((s[k].toNat : Int) < 48) = false := by simp; omega
        by_cases h2 : (s[k].toNat : Int) ≤ 57
        · have d2 : decide (57 < (s[k].toNat : Int)) = false := by simp; omega
          have hd := Num.hide (show decide (dig (s[k].toNat : Int)) = true from decide_eq_true (by unfold dig; omega))
          go_wp2
          all_goals go_round
          case rel => exact ⟨k + 1, by omega, by go_num, by rw [Num.unhide hsec, Num.unhide HX] <;> go_num, by rw [Num.unhide hstep, Num.unhide HA, Num.unhide hd]; rfl⟩
          case measure => simp [intOf]; omega
        · have d2 : decide (57 < (s[k].toNat : Int)) = true := by simp; omega
          have hr : secs s = (0, false) := by
            unfold secs
            rw [if_neg]
            intro h
            rw [Num.unhide hn (decide_eq_false (by unfold dig; omega))] at h
            simp at h
          rw [Num.unhide HR] at hr
          subst hr
          go_wp2
          all_goals go_ret2
          all_goals exact ⟨rfl, rfl⟩
      · have d1 : decide ((s[k].toNat : Int) < 48) = true := by simp; omega
        have hr : secs s = (0, false) := by
          unfold secs
          rw [if_neg]
          intro h
          rw [Num.unhide hn (decide_eq_false (by unfold dig; omega))] at h
          simp at h
        rw [Num.unhide HR] at hr
        subst hr
        go_wp2
        all_goals go_ret2
        all_goals exact ⟨rfl, rfl⟩
    · obtain rfl : k = s.size := by omega
      have hfull : s.data.toList.take s.size = s.data.toList := List.take_of_length_le (by rw [Array.length_toList]; exact Nat.le_refl _)
      have hall := Num.unhide HA
      have hr := Num.unhide HR
      rw [hfull] at hall hb ⊢
      unfold secs at hr
      by_cases h0 : 0 < s.size
      · rw [if_pos ⟨h0, hall⟩] at hr
        subst hr
        have h0' : decide (0 < (s.size : Int)) = true := by simp; omega
        clear HR HA hall hfull
        obtain ⟨x, hx⟩ : ∃ x, sec s.data.toList = x := ⟨_, rfl⟩
        rw [hx] at hb ⊢
        have HX := Num.hide hx
        clear hx
        go_wp2
        all_goals go_ret2
        all_goals exact ⟨by rw [Num.unhide HX]; rfl, rfl⟩
      · rw [if_neg (fun h => h0 h.1)] at hr
        subst hr
        have hz : s.size = 0 := by omega
        have h0' : decide (0 < (s.size : Int)) = false := by rw [hz]; rfl
        have e0 : sec s.data.toList = 0 := by
          rw [List.eq_nil_of_length_eq_zero (show s.data.toList.length = 0 by rw [Array.length_toList]; exact hz)]; rfl
        rw [e0]
        clear HR HA hall hfull
        go_wp2
        all_goals go_ret2
        all_goals exact ⟨rfl, rfl⟩
end Sign
end Go.Proofs.YtihiljickefanaaGreatDoor
namespace Go.Proofs.YtihiljickefanaaGreatDoor
open Go.RowKit
set_option linter.unusedVariables false
namespace Resp

/-- a response: its status, its fields, its body -/
abbrev R := Int × List Flds.Fld × ByteArray
/-- the value of a response whose fields lie at v -/
def val (s : Int) (v : Value) (b : ByteArray) : Value := .agg #[.int .i64 s, v, .string b]
/-- how much a response holds -/
def bulk (l : List Flds.Fld) (b : ByteArray) : Nat := Flds.bulk l + b.size
end Resp
end Go.Proofs.YtihiljickefanaaGreatDoor
namespace Go.Proofs.YtihiljickefanaaGreatDoor
open Go.RowKit
set_option linter.unusedVariables false
namespace Recs

/-- what lies below B, and the rows from n on that were there, are as they were -/
structure Past (B n : Nat) (W W' : World) : Prop where
  below : Below B W W'
  rows : ∀ j, n ≤ j → j < W.heap.size → W'.heap[j]? = W.heap[j]?
theorem Past.refl (B n : Nat) (W : World) : Past B n W W := ⟨Below.refl _ _, fun _ _ _ => rfl⟩
theorem Past.set {B n : Nat} {W W' : World} (h : Past B n W W') (g i : Nat) (u : Value) (hB : B ≤ g) (hn : g < n) : Past B n W (W'.setCell ⟨g, i, none⟩ u) :=
  ⟨h.below.setCell (p := ⟨g, i, none⟩) hB u, fun j hj hl => (heap_setCell_other W' ⟨g, i, none⟩ j u (fun e => by have e2 : j = g := e; omega)).trans (h.rows j hj hl)⟩
theorem Past.drew {B n : Nat} {W W' : World} (h : Past B n W W') : Past B n W W'.drew := ⟨h.below.drew, h.rows⟩
theorem own_past {α : Type} {e : TypeId} {sz : Nat} {enc : α → List Value} {B n : Nat} {W W' : World} {v : Value} {l : List α} (h : Own e sz enc n W v l) (hf : Past B n W W') : Own e sz enc n W' v l := by
  refine ⟨h.1, ?_⟩
  have hlt := own_lt h
  rcases h.2 with h1 | ⟨g, cap, cur, h1, hB, hg, rest⟩
  · exact .inl h1
  · subst h1
    exact .inr ⟨g, cap, cur, rfl, hB, by rw [hf.rows g hB (hlt g rfl).2]; exact hg, rest⟩
/-- the cells of a box that is known whole -/
theorem box_cell {w : World} {g : Nat} {cs : Array Value} {T : TypeId} (h : w.heap[g]? = some (.cells cs T (0, 0))) (i : Nat) : w.cell? ⟨g, i, none⟩ = cs[i]? := cell_of_row w g _ _ _ _ h
theorem box_thaw {w : World} {g : Nat} {cs : Array Value} {T : TypeId} (h : w.heap[g]? = some (.cells cs T (0, 0))) (i : Nat) : w.frozen? ⟨g, i, none⟩ = false := frozen_of_row w g i _ _ h
theorem box_set {w : World} {g : Nat} {cs : Array Value} {T : TypeId} (h : w.heap[g]? = some (.cells cs T (0, 0))) (i : Nat) (u : Value) : (w.setCell ⟨g, i, none⟩ u).heap[g]? = some (.cells (cs.setIfInBounds i u) T (0, 0)) := heap_setCell_same w g i cs _ u h
theorem box_far {w : World} {g k i : Nat} {o : Option Obj} (h : w.heap[k]? = o) (u : Value) (hne : k ≠ g) : (w.setCell ⟨g, i, none⟩ u).heap[k]? = o := (heap_setCell_other w ⟨g, i, none⟩ k u (fun e => hne e)).trans h
/-- three boxes that were just laid, behind whatever was laid since -/
theorem three_rows (w W : World) (p r o : Obj) (hb : Below (((w.alloc p).alloc r).alloc o).heap.size (((w.alloc p).alloc r).alloc o) W) : W.heap[w.heap.size]? = some p ∧ W.heap[w.heap.size + 1]? = some r ∧ W.heap[w.heap.size + 1 + 1]? = some o := by
  have e1 : (w.alloc p).heap.size = w.heap.size + 1 := by rw [World.size_alloc]
  have e2 : ((w.alloc p).alloc r).heap.size = w.heap.size + 1 + 1 := by rw [World.size_alloc, World.size_alloc]
  have e3 : (((w.alloc p).alloc r).alloc o).heap.size = w.heap.size + 1 + 1 + 1 := by rw [World.size_alloc, World.size_alloc, World.size_alloc]
  refine ⟨?_, ?_, ?_⟩
  · rw [hb.block _ (by omega), heap_alloc_old _ _ (by omega), heap_alloc_old _ _ (by omega), heap_alloc_new]
  · rw [hb.block _ (by omega), heap_alloc_old _ _ (by omega), ← e1, heap_alloc_new]
  · rw [hb.block _ (by omega), ← e2, heap_alloc_new]
/-- a row of one's own is as it was behind a store into another block -/
theorem own_set {α : Type} {e : TypeId} {sz : Nat} {enc : α → List Value} {B : Nat} {W : World} {v : Value} {l : List α} (h : Own e sz enc B W v l) (g i : Nat) (u : Value) (hne : ∀ k, v.ownBlock = some k → k ≠ g) : Own e sz enc B (W.setCell ⟨g, i, none⟩ u) v l := by
  have hg : W.grownBy (W.setCell ⟨g, i, none⟩ u) (some g) := ⟨rfl, rfl, rfl, by simp, fun j hj hr => heap_setCell_other W ⟨g, i, none⟩ j u (fun e => hr (by rw [show j = g from e]))⟩
  refine own_kept h hg ?_
  cases hv : v.ownBlock with
  | none => exact .inl rfl
  | some k => exact .inr (fun e => hne k hv (Option.some.inj e))
end Recs
end Go.Proofs.YtihiljickefanaaGreatDoor
