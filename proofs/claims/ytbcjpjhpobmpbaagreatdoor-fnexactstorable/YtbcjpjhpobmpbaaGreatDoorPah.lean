/-
  RespVal: A response as a value.
  ReqVal: A request as a value.
  Boxes: Boxes of a call's own: what a store into one leaves of what lies below and of the rows behind.
  PolAt: A request and an answer in boxes of a call of its own.
  HeurSpec: Heuristic of the specification: one of some numbers.
  UnqNum: A value without quotes around it, by cases.
  UnqSpec: l7Unquote of the specification: a value without quotes around it; the world stays.
-/
import Derived.Test.YtbcjpjhpobmpbaaGreatDoorFlds
import Derived.Test.YtbcjpjhpobmpbaaGreatDoorRecs
import Derived.Test.YtbcjpjhpobmpbaaGreatDoorPag
import Derived.Test.YtbcjpjhpobmpbaaGreatDoorRows
import Derived.WalkKit
import Derived.Test.YtbcjpjhpobmpbaaGreatDoorNum
import Derived.Test.YtbcjpjhpobmpbaaGreatDoorPaa
import Derived.Laws.Strings
namespace Go.Proofs.YtbcjpjhpobmpbaaGreatDoor
open Go.RowKit
set_option linter.unusedVariables false
namespace Resp

/-- a response: its status, its fields, its body -/
abbrev R := Int × List Flds.Fld × ByteArray
/-- the value of a response whose fields lie at v -/
def val (s : Int) (v : Value) (b : ByteArray) : Value := .agg #[.int .i64 s, v, .string b]
/-- how much a response holds -/
def bulk (l : List Flds.Fld) (b : ByteArray) : Nat := Flds.bulk l + b.size
end Resp
end Go.Proofs.YtbcjpjhpobmpbaaGreatDoor
namespace Go.Proofs.YtbcjpjhpobmpbaaGreatDoor
open Go.RowKit
set_option linter.unusedVariables false
namespace Req

/-- the value of a request whose fields lie at v -/
def val (m u : ByteArray) (v : Value) (b : ByteArray) : Value := .agg #[.string m, .string u, v, .string b]
/-- how much a request holds -/
def bulk (m u : ByteArray) (l : List Flds.Fld) (b : ByteArray) : Nat := m.size + u.size + Flds.bulk l + b.size
end Req
end Go.Proofs.YtbcjpjhpobmpbaaGreatDoor
namespace Go.Proofs.YtbcjpjhpobmpbaaGreatDoor
open Go.RowKit
set_option linter.unusedVariables false
namespace Recs

/-- what lies below B, and the rows from n on that were there, are as they were -/
structure Past (B n : Nat) (W W' : World) : Prop where
  below : Below B W W'
  rows : ∀ j, n ≤ j → j < W.heap.size → W'.heap[j]? = W.heap[j]?
theorem Past.refl (B n : Nat) (W : World) : Past B n W W := ⟨Below.refl _ _, fun _ _ _ => rfl⟩
theorem Past.set {B n : Nat} {W W' : World} (h : Past B n W W') (g i : Nat) (u : Value) (hB : B ≤ g) (hn : g < n) : Past B n W (W'.setCell ⟨g, i, none⟩ u) :=
  ⟨h.below.setCell (p := ⟨g, i, none⟩) hB u, fun j hj hl => (heap_setCell_other W' ⟨g, i, none⟩ j u (fun e => by have e2 : j = g := e; omega)).trans (h.rows j hj hl)⟩
theorem Past.drew {B n : Nat} {W W' : World} (h : Past B n W W') : Past B n W W'.drew := ⟨h.below.drew, h.rows⟩
theorem own_past {α : Type} {e : TypeId} {sz : Nat} {enc : α → List Value} {B n : Nat} {W W' : World} {v : Value} {l : List α} (h : Own e sz enc n W v l) (hf : Past B n W W') : Own e sz enc n W' v l := by
  refine ⟨h.1, ?_⟩
  have hlt := own_lt h
  rcases h.2 with h1 | ⟨g, cap, cur, h1, hB, hg, rest⟩
  · exact .inl h1
  · subst h1
    exact .inr ⟨g, cap, cur, rfl, hB, by rw [hf.rows g hB (hlt g rfl).2]; exact hg, rest⟩
/-- the cells of a box that is known whole -/
theorem box_cell {w : World} {g : Nat} {cs : Array Value} {T : TypeId} (h : w.heap[g]? = some (.cells cs T (0, 0))) (i : Nat) : w.cell? ⟨g, i, none⟩ = cs[i]? := cell_of_row w g _ _ _ _ h
theorem box_thaw {w : World} {g : Nat} {cs : Array Value} {T : TypeId} (h : w.heap[g]? = some (.cells cs T (0, 0))) (i : Nat) : w.frozen? ⟨g, i, none⟩ = false := frozen_of_row w g i _ _ h
theorem box_set {w : World} {g : Nat} {cs : Array Value} {T : TypeId} (h : w.heap[g]? = some (.cells cs T (0, 0))) (i : Nat) (u : Value) : (w.setCell ⟨g, i, none⟩ u).heap[g]? = some (.cells (cs.setIfInBounds i u) T (0, 0)) := heap_setCell_same w g i cs _ u h
theorem box_far {w : World} {g k i : Nat} {o : Option Obj} (h : w.heap[k]? = o) (u : Value) (hne : k ≠ g) : (w.setCell ⟨g, i, none⟩ u).heap[k]? = o := (heap_setCell_other w ⟨g, i, none⟩ k u (fun e => hne e)).trans h
/-- three boxes that were just laid, behind whatever was laid since -/
theorem three_rows (w W : World) (p r o : Obj) (hb : Below (((w.alloc p).alloc r).alloc o).heap.size (((w.alloc p).alloc r).alloc o) W) : W.heap[w.heap.size]? = some p ∧ W.heap[w.heap.size + 1]? = some r ∧ W.heap[w.heap.size + 1 + 1]? = some o := by
  have e1 : (w.alloc p).heap.size = w.heap.size + 1 := by rw [World.size_alloc]
  have e2 : ((w.alloc p).alloc r).heap.size = w.heap.size + 1 + 1 := by rw [World.size_alloc, World.size_alloc]
  have e3 : (((w.alloc p).alloc r).alloc o).heap.size = w.heap.size + 1 + 1 + 1 := by rw [World.size_alloc, World.size_alloc, World.size_alloc]
  refine ⟨?_, ?_, ?_⟩
  · rw [hb.block _ (by omega), heap_alloc_old _ _ (by omega), heap_alloc_old _ _ (by omega), heap_alloc_new]
  · rw [hb.block _ (by omega), heap_alloc_old _ _ (by omega), ← e1, heap_alloc_new]
  · rw [hb.block _ (by omega), ← e2, heap_alloc_new]
/-- a row of one's own is as it was behind a store into another block -/
theorem own_set {α : Type} {e : TypeId} {sz : Nat} {enc : α → List Value} {B : Nat} {W : World} {v : Value} {l : List α} (h : Own e sz enc B W v l) (g i : Nat) (u : Value) (hne : ∀ k, v.ownBlock = some k → k ≠ g) : Own e sz enc B (W.setCell ⟨g, i, none⟩ u) v l := by
  have hg : W.grownBy (W.setCell ⟨g, i, none⟩ u) (some g) := ⟨rfl, rfl, rfl, by simp, fun j hj hr => heap_setCell_other W ⟨g, i, none⟩ j u (fun e => hr (by rw [show j = g from e]))⟩
  refine own_kept h hg ?_
  cases hv : v.ownBlock with
  | none => exact .inl rfl
  | some k => exact .inr (fun e => hne k hv (Option.some.inj e))
end Recs
end Go.Proofs.YtbcjpjhpobmpbaaGreatDoor
namespace Go.Proofs.YtbcjpjhpobmpbaaGreatDoor
open Go.RowKit
set_option linter.unusedVariables false
set_option linter.unusedSimpArgs false
namespace Pol
open Flds (Fld ret_int)

/-- the two boxes, cell by cell, and what they lead to -/
abbrev PAt (w : World) (g : Nat) (m u : ByteArray) (v1 : Value) (l1 : List Fld) (b1 : ByteArray) (st : Int) (v2 : Value) (l2 : List Fld) (b2 : ByteArray) (W : World) : Prop :=
  W.cell? ⟨g, 0, none⟩ = some (.string m) ∧ W.cell? ⟨g, 1, none⟩ = some (.string u) ∧ W.cell? ⟨g, 2, none⟩ = some v1 ∧ W.cell? ⟨g, 3, none⟩ = some (.string b1) ∧
  W.cell? ⟨g + 1, 0, none⟩ = some (.int .i64 st) ∧ W.cell? ⟨g + 1, 1, none⟩ = some v2 ∧ W.cell? ⟨g + 1, 2, none⟩ = some (.string b2) ∧ Flds.Is W v1 l1 ∧ Flds.Is W v2 l2 ∧ Below w.heap.size w W
theorem PAt.step {w : World} {g : Nat} {m u : ByteArray} {v1 : Value} {l1 : List Fld} {b1 : ByteArray} {st : Int} {v2 : Value} {l2 : List Fld} {b2 : ByteArray} {W W' : World} (h : PAt w g m u v1 l1 b1 st v2 l2 b2 W) (hb : Below W.heap.size W W') : PAt w g m u v1 l1 b1 st v2 l2 b2 W' := by
  obtain ⟨h0, h1, h2, h3, h4, h5, h6, h7, h8, h9⟩ := h
  have l0 : g < W.heap.size := Recs.lt_of_cell h0
  have l1 : g + 1 < W.heap.size := Recs.lt_of_cell h4
  exact ⟨(hb.cell (p := ⟨g, 0, none⟩) l0).trans h0, (hb.cell (p := ⟨g, 1, none⟩) l0).trans h1, (hb.cell (p := ⟨g, 2, none⟩) l0).trans h2, (hb.cell (p := ⟨g, 3, none⟩) l0).trans h3, (hb.cell (p := ⟨g + 1, 0, none⟩) l1).trans h4, (hb.cell (p := ⟨g + 1, 1, none⟩) l1).trans h5, (hb.cell (p := ⟨g + 1, 2, none⟩) l1).trans h6, Recs.is_below h7 hb, Recs.is_below h8 hb, h9.trans (hb.mono h9.size)⟩
theorem pat_first (w : World) (m u : ByteArray) (v1 : Value) (l1 : List Fld) (b1 : ByteArray) (st : Int) (v2 : Value) (l2 : List Fld) (b2 : ByteArray) (h1 : Flds.Is w v1 l1) (h2 : Flds.Is w v2 l2) :
    PAt w w.heap.size m u v1 l1 b1 st v2 l2 b2 ((w.alloc (.cells #[.string m, .string u, v1, .string b1] 32)).alloc (.cells #[.int .i64 st, v2, .string b2] 35)) := by
  have e0 : (w.alloc (.cells #[.string m, .string u, v1, .string b1] 32)).heap.size = w.heap.size + 1 := by rw [World.size_alloc]
  have hb : Below w.heap.size w ((w.alloc (.cells #[.string m, .string u, v1, .string b1] 32)).alloc (.cells #[.int .i64 st, v2, .string b2] 35)) := ((Below.refl _ w).alloc (Nat.le_refl _) _).alloc (by simp) _
  have x0 : ((w.alloc (.cells #[.string m, .string u, v1, .string b1] 32)).alloc (.cells #[.int .i64 st, v2, .string b2] 35)).heap[w.heap.size]? = some (.cells #[.string m, .string u, v1, .string b1] 32) := (heap_alloc_old _ _ (by omega)).trans (heap_alloc_new w _)
  have y0 : ((w.alloc (.cells #[.string m, .string u, v1, .string b1] 32)).alloc (.cells #[.int .i64 st, v2, .string b2] 35)).heap[w.heap.size + 1]? = some (.cells #[.int .i64 st, v2, .string b2] 35) := by
    have := heap_alloc_new (w.alloc (.cells #[.string m, .string u, v1, .string b1] 32)) (.cells #[.int .i64 st, v2, .string b2] 35)
    rw [e0] at this
    exact this
  exact ⟨Recs.box_cell x0 0, Recs.box_cell x0 1, Recs.box_cell x0 2, Recs.box_cell x0 3, Recs.box_cell y0 0, Recs.box_cell y0 1, Recs.box_cell y0 2, Recs.is_below h1 hb, Recs.is_below h2 hb, hb⟩
end Pol
end Go.Proofs.YtbcjpjhpobmpbaaGreatDoor
namespace Go.Proofs.YtbcjpjhpobmpbaaGreatDoor
open Go.RowKit
set_option linter.unusedVariables false
namespace Pol

theorem not_more {L : List Int} {x : Int} {i : Nat} (h : x ∉ L.take i) (hi : i < L.length) (hn : ¬ L[i] = x) : x ∉ L.take (i + 1) := by
  rw [List.take_succ_eq_append_getElem hi, List.mem_append, List.mem_singleton]
  rintro (h1 | h1)
  · exact h h1
  · exact hn h1.symm
set_option maxRecDepth 100000 in
set_option maxHeartbeats 1000000 in
theorem isOne_spec (b : Nat) (L : List Int) (hL : L.length ≤ 1048576) (c : Nat) (hcap : L.length ≤ c ∧ c ≤ maxLen) (x : Int) (w : World) (hc : ∀ i (h : i < L.length), w.cell? ⟨b, i, none⟩ = some (.int .i64 L[i])) :
    Calls Tryz.prog 46 #[.slice (some ⟨b, 0, none⟩) L.length c, .int .i64 x] w fun e w' => e = .returned (.bool (decide (x ∈ L))) ∧ w = w' := by
  have HC := Num.hide hc
  clear hc
  obtain ⟨hc1, hc2⟩ := hcap
  obtain ⟨r, hr⟩ : ∃ r, decide (x ∈ L) = r := ⟨_, rfl⟩
  rw [hr]
  have HR := Num.hide hr
  clear hr
  go_enter Tryz.func46, Tryz.ntmps46
  go_wp2
  go_loop [5] (fun kv => ∃ i : Nat, i ≤ L.length ∧ kv = .int .i64 (i : Int) ∧ Hid (x ∉ L.take i)) (fun kv => L.length - (intOf kv).toNat)
  case atStart => exact ⟨0, by omega, rfl, by show x ∉ L.take 0; simp⟩
  case round =>
    obtain ⟨i, hi, rfl, HN⟩ := hrel
    by_cases hlt : i < L.length
    · have c1 := HC.out i hlt
      have HM := Num.hide (fun h => not_more HN.out hlt h)
      by_cases he : L[i] = x
      · have e1 : (L[i] == x) = true := beq_iff_eq.2 he
        obtain rfl : r = true := by rw [← HR.out, decide_eq_true]; rw [← he]; exact List.getElem_mem hlt
        clear HR HC HM he HN
        generalize L[i] = y at c1 e1
        go_wp2
        go_ret
        exact ⟨rfl, rfl⟩
      · have e1 : (L[i] == x) = false := beq_eq_false_iff_ne.2 he
        have HN2 := Num.hide (HM.out he)
        clear HM he HN HC HR
        generalize L[i] = y at c1 e1
        go_wp2
        go_round
        case rel => exact ⟨i + 1, by omega, by go_num, HN2⟩
        case measure => simp [intOf]; omega
    · obtain rfl : i = L.length := by omega
      obtain rfl : r = false := by rw [← HR.out, decide_eq_false]; have := HN.out; rwa [List.take_length] at this
      clear HN HR HC
      go_wp2
      go_ret
      exact ⟨rfl, rfl⟩
set_option maxRecDepth 100000 in
set_option maxHeartbeats 1000000 in
theorem heuristic_spec (st : Int) (w : World) : Calls Tryz.prog 25 #[.int .i64 st] w fun e w' => e = .returned (.bool (heuristic st)) ∧ Below w.heap.size w w' := by
  unfold heuristic
  have hx : ∀ T, (w.alloc (.cells #[.int .i64 200, .int .i64 203, .int .i64 204, .int .i64 300, .int .i64 301, .int .i64 404, .int .i64 410] T)).heap[w.heap.size]? = some (.cells #[.int .i64 200, .int .i64 203, .int .i64 204, .int .i64 300, .int .i64 301, .int .i64 404, .int .i64 410] T) := fun T => heap_alloc_new w _
  have HO := Num.hide (isOne_spec w.heap.size heurList (by decide) 7 ⟨by decide, by decide⟩ st (w.alloc (.cells #[.int .i64 200, .int .i64 203, .int .i64 204, .int .i64 300, .int .i64 301, .int .i64 404, .int .i64 410] 3)) (fun i h => by
    rw [cell_of_row _ _ _ _ _ _ (hx 3)]
    have key : ∀ i, i < 7 → (#[Value.int .i64 200, .int .i64 203, .int .i64 204, .int .i64 300, .int .i64 301, .int .i64 404, .int .i64 410] : Array Value)[i]? = some (.int .i64 (heurList.getD i 0)) := by
      intro i hi
      rcases (by omega : i = 0 ∨ i = 1 ∨ i = 2 ∨ i = 3 ∨ i = 4 ∨ i = 5 ∨ i = 6) with rfl | rfl | rfl | rfl | rfl | rfl | rfl <;> rfl
    rw [key i h, List.getD_eq_getElem?_getD, List.getElem?_eq_getElem h]; rfl))
  have HB := Num.hide ((Below.refl w.heap.size w).alloc (Nat.le_refl _) (.cells #[.int .i64 200, .int .i64 203, .int .i64 204, .int .i64 300, .int .i64 301, .int .i64 404, .int .i64 410] 3))
  change Hid (Calls _ _ #[.slice (some ⟨w.heap.size, 0, none⟩) 7 7, .int .i64 st] _ _) at HO
  generalize decide (st ∈ heurList) = r at HO ⊢
  clear hx
  go_enter Tryz.func25, Tryz.ntmps25
  go_wp2_with fail
  refine HO.out.mono ?_
  rintro e w1 ⟨rfl, rfl⟩
  go_wp2
  go_ret
  exact ⟨rfl, HB.out⟩
end Pol
end Go.Proofs.YtbcjpjhpobmpbaaGreatDoor
namespace Go.Proofs.YtbcjpjhpobmpbaaGreatDoor
open Go.RowKit
set_option linter.unusedVariables false
namespace Cc
open Line (byteAt byteAt_eq)

theorem unq_short {s : ByteArray} (h : s.size < 2) : unq s = s := by unfold unq; rw [if_neg (by omega)]
theorem unq_front {s : ByteArray} (h0 : 0 < s.size) (h : (s[0]).toNat ≠ 34) : unq s = s := by
  unfold unq; rw [if_neg]; rintro ⟨_, h2, _⟩; rw [byteAt_eq s 0 h0] at h2; exact h h2
theorem unq_back {s : ByteArray} {n : Nat} (hn : s.size = n + 1) (h : (s[n]'(by omega)).toNat ≠ 34) : unq s = s := by
  unfold unq; rw [if_neg]; rintro ⟨_, _, h2⟩; rw [show s.size - 1 = n by omega, byteAt_eq s n (by omega)] at h2; exact h h2
theorem unq_both {s : ByteArray} {n : Nat} (hn : s.size = n + 1) (h2 : 2 ≤ s.size) (h0 : (s[0]'(by omega)).toNat = 34) (h1 : (s[n]'(by omega)).toNat = 34) : unq s = s.extract 1 n := by
  unfold unq; rw [show s.size - 1 = n by omega, if_pos ⟨h2, by rw [byteAt_eq s 0 (by omega)]; exact h0, by rw [byteAt_eq s n (by omega)]; exact h1⟩]

end Cc
end Go.Proofs.YtbcjpjhpobmpbaaGreatDoor
namespace Go.Proofs.YtbcjpjhpobmpbaaGreatDoor
open Go.RowKit
set_option linter.unusedVariables false
namespace Cc
open Line (byteAt byteAt_eq)

set_option maxRecDepth 100000 in
set_option maxHeartbeats 1000000 in
theorem unq_spec (s : ByteArray) (w : World) (hs : s.size ≤ maxLen) : Calls Tryz.prog 85 #[.string s] w fun e w' => e = .returned (.string (unq s)) ∧ w = w' := by
  unfold maxLen at hs
  obtain ⟨r, hr⟩ : ∃ r, unq s = r := ⟨_, rfl⟩
  rw [hr]
  by_cases h2 : 2 ≤ s.size
  · obtain ⟨n, hn⟩ : ∃ n, s.size = n + 1 := ⟨s.size - 1, by omega⟩
    have h0 : 0 < s.size := by omega
    have hnl : n < s.size := by omega
    have i0 : ((n : Int) + 1 - 1) = n := by omega
    have hn1 : (1 : Int) ≤ (n : Int) := by omega
    have hn2 : (n : Int) ≤ (n : Int) + 1 := by omega
    by_cases ha : (s[0]).toNat = 34
    · have da : (((s[0]).toNat : Int) == 34) = true := by rw [beq_iff_eq]; omega
      by_cases hb : (s[n]).toNat = 34
      · have db : (((s[n]).toNat : Int) == 34) = true := by rw [beq_iff_eq]; omega
        rw [unq_both hn h2 ha hb] at hr
        have HR := Num.hide hr
        have d2 : decide ((2 : Int) ≤ (n : Int) + 1) = true := by simp; omega
        clear hr ha hb
        go_enter Tryz.func85, Tryz.ntmps85
        go_wp2
        all_goals go_ret
        all_goals exact ⟨by rw [← HR.out]; rfl, rfl⟩
      · have db : (((s[n]).toNat : Int) == 34) = false := by rw [beq_eq_false_iff_ne]; omega
        rw [unq_back hn hb] at hr
        subst hr
        have d2 : decide ((2 : Int) ≤ (n : Int) + 1) = true := by simp; omega
        clear ha hb
        go_enter Tryz.func85, Tryz.ntmps85
        go_wp2
        all_goals go_ret
        all_goals exact ⟨rfl, rfl⟩
    · have da : (((s[0]).toNat : Int) == 34) = false := by rw [beq_eq_false_iff_ne]; omega
      rw [unq_front h0 ha] at hr
      subst hr
      have d2 : decide ((2 : Int) ≤ (n : Int) + 1) = true := by simp; omega
      clear ha
      go_enter Tryz.func85, Tryz.ntmps85
      go_wp2
      all_goals go_ret
      all_goals exact ⟨rfl, rfl⟩
  · rw [unq_short (by omega)] at hr
    subst hr
    have d2 : decide ((2 : Int) ≤ (s.size : Int)) = false := by simp; omega
    go_enter Tryz.func85, Tryz.ntmps85
    go_wp2
    all_goals go_ret
    all_goals exact ⟨rfl, rfl⟩
end Cc
end Go.Proofs.YtbcjpjhpobmpbaaGreatDoor
