/-
  PolAt: A request and an answer in boxes of a call of its own.
  HeurSpec: Heuristic of the specification: one of some numbers.
  UnqNum: A value without quotes around it, by cases.
  UnqSpec: l7Unquote of the specification: a value without quotes around it; the world stays.
  FldGetSpec: FieldGet of the specification: all values of a name, joined; the world stays.
  Strs: Lists of texts in memory: a slice of texts as it is read (Strs), and one whose row the call itself made (OwnS).
-/
import Derived.Test.YtjeokackmkfooaaGreatDoorPag
import Derived.Test.YtjeokackmkfooaaGreatDoorRows
import Derived.WalkKit
import Derived.Test.YtjeokackmkfooaaGreatDoorRecs
import Derived.Test.YtjeokackmkfooaaGreatDoorNum
import Derived.Test.YtjeokackmkfooaaGreatDoorPaa
import Derived.Laws.Strings
import Derived.WalkLawsBesides
import Derived.WalkSmall
import Derived.Below
namespace Go.Proofs.YtjeokackmkfooaaGreatDoor
open Go.RowKit
set_option linter.unusedVariables false
set_option linter.unusedSimpArgs false
namespace Pol
open Flds (Fld ret_int)

/-- the two boxes, cell by cell, and what they lead to -/
abbrev PAt (w : World) (g : Nat) (m u : ByteArray) (v1 : Value) (l1 : List Fld) (b1 : ByteArray) (st : Int) (v2 : Value) (l2 : List Fld) (b2 : ByteArray) (W : World) : Prop :=
  W.cell? ⟨g, 0, none⟩ = some (.string m) ∧ W.cell? ⟨g, 1, none⟩ = some (.string u) ∧ W.cell? ⟨g, 2, none⟩ = some v1 ∧ W.cell? ⟨g, 3, none⟩ = some (.string b1) ∧
  W.cell? ⟨g + 1, 0, none⟩ = some (.int .i64 st) ∧ W.cell? ⟨g + 1, 1, none⟩ = some v2 ∧ W.cell? ⟨g + 1, 2, none⟩ = some (.string b2) ∧ Flds.Is W v1 l1 ∧ Flds.Is W v2 l2 ∧ Below w.heap.size w W
theorem PAt.step {w : World} {g : Nat} {m u : ByteArray} {v1 : Value} {l1 : List Fld} {b1 : ByteArray} {st : Int} {v2 : Value} {l2 : List Fld} {b2 : ByteArray} {W W' : World} (h : PAt w g m u v1 l1 b1 st v2 l2 b2 W) (hb : Below W.heap.size W W') : PAt w g m u v1 l1 b1 st v2 l2 b2 W' := by
  obtain ⟨h0, h1, h2, h3, h4, h5, h6, h7, h8, h9⟩ := h
  have l0 : g < W.heap.size := Recs.lt_of_cell h0
  have l1 : g + 1 < W.heap.size := Recs.lt_of_cell h4
  exact ⟨(hb.cell (p := ⟨g, 0, none⟩) l0).trans h0, (hb.cell (p := ⟨g, 1, none⟩) l0).trans h1, (hb.cell (p := ⟨g, 2, none⟩) l0).trans h2, (hb.cell (p := ⟨g, 3, none⟩) l0).trans h3, (hb.cell (p := ⟨g + 1, 0, none⟩) l1).trans h4, (hb.cell (p := ⟨g + 1, 1, none⟩) l1).trans h5, (hb.cell (p := ⟨g + 1, 2, none⟩) l1).trans h6, Recs.is_below h7 hb, Recs.is_below h8 hb, h9.trans (hb.mono h9.size)⟩
theorem pat_first (w : World) (m u : ByteArray) (v1 : Value) (l1 : List Fld) (b1 : ByteArray) (st : Int) (v2 : Value) (l2 : List Fld) (b2 : ByteArray) (h1 : Flds.Is w v1 l1) (h2 : Flds.Is w v2 l2) :
    PAt w w.heap.size m u v1 l1 b1 st v2 l2 b2 ((w.alloc (.cells #[.string m, .string u, v1, .string b1] 26)).alloc (.cells #[.int .i64 st, v2, .string b2] 28)) := by
  have e0 : (w.alloc (.cells #[.string m, .string u, v1, .string b1] 26)).heap.size = w.heap.size + 1 := by rw [World.size_alloc]
  have hb : Below w.heap.size w ((w.alloc (.cells #[.string m, .string u, v1, .string b1] 26)).alloc (.cells #[.int .i64 st, v2, .string b2] 28)) := ((Below.refl _ w).alloc (Nat.le_refl _) _).alloc (by simp) _
  have x0 : ((w.alloc (.cells #[.string m, .string u, v1, .string b1] 26)).alloc (.cells #[.int .i64 st, v2, .string b2] 28)).heap[w.heap.size]? = some (.cells #[.string m, .string u, v1, .string b1] 26) := (heap_alloc_old _ _ (by omega)).trans (heap_alloc_new w _)
  have y0 : ((w.alloc (.cells #[.string m, .string u, v1, .string b1] 26)).alloc (.cells #[.int .i64 st, v2, .string b2] 28)).heap[w.heap.size + 1]? = some (.cells #[.int .i64 st, v2, .string b2] 28) := by
    have := heap_alloc_new (w.alloc (.cells #[.string m, .string u, v1, .string b1] 26)) (.cells #[.int .i64 st, v2, .string b2] 28)
    rw [e0] at this
    exact this
  exact ⟨Recs.box_cell x0 0, Recs.box_cell x0 1, Recs.box_cell x0 2, Recs.box_cell x0 3, Recs.box_cell y0 0, Recs.box_cell y0 1, Recs.box_cell y0 2, Recs.is_below h1 hb, Recs.is_below h2 hb, hb⟩
end Pol
end Go.Proofs.YtjeokackmkfooaaGreatDoor
namespace Go.Proofs.YtjeokackmkfooaaGreatDoor
open Go.RowKit
set_option linter.unusedVariables false
namespace Pol

theorem not_more {L : List Int} {x : Int} {i : Nat} (h : x ∉ L.take i) (hi : i < L.length) (hn : ¬ L[i] = x) : x ∉ L.take (i + 1) := by
  rw [List.take_succ_eq_append_getElem hi, List.mem_append, List.mem_singleton]
  rintro (h1 | h1)
  · exact h h1
  · exact hn h1.symm
set_option maxRecDepth 100000 in
set_option maxHeartbeats 1000000 in
theorem isOne_spec (b : Nat) (L : List Int) (hL : L.length ≤ 1048576) (c : Nat) (hcap : L.length ≤ c ∧ c ≤ maxLen) (x : Int) (w : World) (hc : ∀ i (h : i < L.length), w.cell? ⟨b, i, none⟩ = some (.int .i64 L[i])) :
    Calls Tryz.prog 81 #[.slice (some ⟨b, 0, none⟩) L.length c, .int .i64 x] w fun e w' => e = .returned (.bool (decide (x ∈ L))) ∧ w = w' := by
  have HC := Num.hide hc
  clear hc
  obtain ⟨hc1, hc2⟩ := hcap
  obtain ⟨r, hr⟩ : ∃ r, decide (x ∈ L) = r := ⟨_, rfl⟩
  rw [hr]
  have HR := Num.hide hr
  clear hr
  go_enter Tryz.func81, Tryz.ntmps81
  go_wp2
  go_loop [5] (fun kv => ∃ i : Nat, i ≤ L.length ∧ kv = .int .i64 (i : Int) ∧ Hid (x ∉ L.take i)) (fun kv => L.length - (intOf kv).toNat)
  case atStart => exact ⟨0, by omega, rfl, by show x ∉ L.take 0; simp⟩
  case round =>
    obtain ⟨i, hi, rfl, HN⟩ := hrel
    by_cases hlt : i < L.length
    · have c1 := HC.out i hlt
      have HM := Num.hide (fun h => not_more HN.out hlt h)
      by_cases he : L[i] = x
      · have e1 : (L[i] == x) = true := beq_iff_eq.2 he
        obtain rfl : r = true := by rw [← HR.out, decide_eq_true]; rw [← he]; exact List.getElem_mem hlt
        clear HR HC HM he HN
        generalize L[i] = y at c1 e1
        go_wp2
        go_ret
        exact ⟨rfl, rfl⟩
      · have e1 : (L[i] == x) = false := beq_eq_false_iff_ne.2 he
        have HN2 := Num.hide (HM.out he)
        clear HM he HN HC HR
        generalize L[i] = y at c1 e1
        go_wp2
        go_round
        case rel => exact ⟨i + 1, by omega, by go_num, HN2⟩
        case measure => simp [intOf]; omega
    · obtain rfl : i = L.length := by omega
      obtain rfl : r = false := by rw [← HR.out, decide_eq_false]; have := HN.out; rwa [List.take_length] at this
      clear HN HR HC
      go_wp2
      go_ret
      exact ⟨rfl, rfl⟩
set_option maxRecDepth 100000 in
set_option maxHeartbeats 1000000 in
theorem heuristic_spec (st : Int) (w : World) : Calls Tryz.prog 35 #[.int .i64 st] w fun e w' => e = .returned (.bool (heuristic st)) ∧ Below w.heap.size w w' := by
  unfold heuristic
  have hx : ∀ T, (w.alloc (.cells #[.int .i64 200, .int .i64 203, .int .i64 204, .int .i64 300, .int .i64 301, .int .i64 404, .int .i64 410] T)).heap[w.heap.size]? = some (.cells #[.int .i64 200, .int .i64 203, .int .i64 204, .int .i64 300, .int .i64 301, .int .i64 404, .int .i64 410] T) := fun T => heap_alloc_new w _
  have HO := Num.hide (isOne_spec w.heap.size heurList (by decide) 7 ⟨by decide, by decide⟩ st (w.alloc (.cells #[.int .i64 200, .int .i64 203, .int .i64 204, .int .i64 300, .int .i64 301, .int .i64 404, .int .i64 410] 3)) (fun i h => by
    rw [cell_of_row _ _ _ _ _ _ (hx 3)]
    have key : ∀ i, i < 7 → (#[Value.int .i64 200, .int .i64 203, .int .i64 204, .int .i64 300, .int .i64 301, .int .i64 404, .int .i64 410] : Array Value)[i]? = some (.int .i64 (heurList.getD i 0)) := by
      intro i hi
      rcases (by omega : i = 0 ∨ i = 1 ∨ i = 2 ∨ i = 3 ∨ i = 4 ∨ i = 5 ∨ i = 6) with rfl | rfl | rfl | rfl | rfl | rfl | rfl <;> rfl
    rw [key i h, List.getD_eq_getElem?_getD, List.getElem?_eq_getElem h]; rfl))
  have HB := Num.hide ((Below.refl w.heap.size w).alloc (Nat.le_refl _) (.cells #[.int .i64 200, .int .i64 203, .int .i64 204, .int .i64 300, .int .i64 301, .int .i64 404, .int .i64 410] 3))
  change Hid (Calls _ _ #[.slice (some ⟨w.heap.size, 0, none⟩) 7 7, .int .i64 st] _ _) at HO
  generalize decide (st ∈ heurList) = r at HO ⊢
  clear hx
  go_enter Tryz.func35, Tryz.ntmps35
  go_wp2_with fail
  refine HO.out.mono ?_
  rintro e w1 ⟨rfl, rfl⟩
  go_wp2
  go_ret
  exact ⟨rfl, HB.out⟩
end Pol
end Go.Proofs.YtjeokackmkfooaaGreatDoor
namespace Go.Proofs.YtjeokackmkfooaaGreatDoor
open Go.RowKit
set_option linter.unusedVariables false
namespace Cc
open Line (byteAt byteAt_eq)

theorem unq_short {s : ByteArray} (h : s.size < 2) : unq s = s := by unfold unq; rw [if_neg (by omega)]
theorem unq_front {s : ByteArray} (h0 : 0 < s.size) (h : (s[0]).toNat ≠ 34) : unq s = s := by
  unfold unq; rw [if_neg]; rintro ⟨_, h2, _⟩; rw [byteAt_eq s 0 h0] at h2; exact h h2
theorem unq_back {s : ByteArray} {n : Nat} (hn : s.size = n + 1) (h : (s[n]'(by omega)).toNat ≠ 34) : unq s = s := by
  unfold unq; rw [if_neg]; rintro ⟨_, _, h2⟩; rw [show s.size - 1 = n by omega, byteAt_eq s n (by omega)] at h2; exact h h2
theorem unq_both {s : ByteArray} {n : Nat} (hn : s.size = n + 1) (h2 : 2 ≤ s.size) (h0 : (s[0]'(by omega)).toNat = 34) (h1 : (s[n]'(by omega)).toNat = 34) : unq s = s.extract 1 n := by
  unfold unq; rw [show s.size - 1 = n by omega, if_pos ⟨h2, by rw [byteAt_eq s 0 (by omega)]; exact h0, by rw [byteAt_eq s n (by omega)]; exact h1⟩]

end Cc
end Go.Proofs.YtjeokackmkfooaaGreatDoor
namespace Go.Proofs.YtjeokackmkfooaaGreatDoor
open Go.RowKit
set_option linter.unusedVariables false
namespace Cc
open Line (byteAt byteAt_eq)

set_option maxRecDepth 100000 in
set_option maxHeartbeats 1000000 in
theorem unq_spec (s : ByteArray) (w : World) (hs : s.size ≤ maxLen) : Calls Tryz.prog 75 #[.string s] w fun e w' => e = .returned (.string (unq s)) ∧ w = w' := by
  unfold maxLen at hs
  obtain ⟨r, hr⟩ : ∃ r, unq s = r := ⟨_, rfl⟩
  rw [hr]
  by_cases h2 : 2 ≤ s.size
  · obtain ⟨n, hn⟩ : ∃ n, s.size = n + 1 := ⟨s.size - 1, by omega⟩
    have h0 : 0 < s.size := by omega
    have hnl : n < s.size := by omega
    have i0 : ((n : Int) + 1 - 1) = n := by omega
    have hn1 : (1 : Int) ≤ (n : Int) := by omega
    have hn2 : (n : Int) ≤ (n : Int) + 1 := by omega
    by_cases ha : (s[0]).toNat = 34
    · have da : (((s[0]).toNat : Int) == 34) = true := by rw [beq_iff_eq]; omega
      by_cases hb : (s[n]).toNat = 34
      · have db : (((s[n]).toNat : Int) == 34) = true := by rw [beq_iff_eq]; omega
        rw [unq_both hn h2 ha hb] at hr
        have HR := Num.hide hr
        have d2 : decide ((2 : Int) ≤ (n : Int) + 1) = true := by simp; omega
        clear hr ha hb
        go_enter Tryz.func75, Tryz.ntmps75
        go_wp2
        all_goals go_ret
        all_goals exact ⟨by rw [← HR.out]; rfl, rfl⟩
      · have db : (((s[n]).toNat : Int) == 34) = false := by rw [beq_eq_false_iff_ne]; omega
        rw [unq_back hn hb] at hr
        subst hr
        have d2 : decide ((2 : Int) ≤ (n : Int) + 1) = true := by simp; omega
        clear ha hb
        go_enter Tryz.func75, Tryz.ntmps75
        go_wp2
        all_goals go_ret
        all_goals exact ⟨rfl, rfl⟩
    · have da : (((s[0]).toNat : Int) == 34) = false := by rw [beq_eq_false_iff_ne]; omega
      rw [unq_front h0 ha] at hr
      subst hr
      have d2 : decide ((2 : Int) ≤ (n : Int) + 1) = true := by simp; omega
      clear ha
      go_enter Tryz.func75, Tryz.ntmps75
      go_wp2
      all_goals go_ret
      all_goals exact ⟨rfl, rfl⟩
  · rw [unq_short (by omega)] at hr
    subst hr
    have d2 : decide ((2 : Int) ≤ (s.size : Int)) = false := by simp; omega
    go_enter Tryz.func75, Tryz.ntmps75
    go_wp2
    all_goals go_ret
    all_goals exact ⟨rfl, rfl⟩
end Cc
end Go.Proofs.YtjeokackmkfooaaGreatDoor
namespace Go.Proofs.YtjeokackmkfooaaGreatDoor
open Go.RowKit
set_option linter.unusedVariables false
namespace Flds

set_option maxRecDepth 100000 in
set_option maxHeartbeats 1000000 in
theorem get_spec (v : Value) (l : List Fld) (name : ByteArray) (w : World) (h : Is w v l) (hl : bulk l ≤ 1099511627776) :
    Calls Tryz.prog 33 #[v, .string name] w fun e w' => e = .returned (.tuple #[.string (get l name).1, .bool (get l name).2]) ∧ w = w' := by
  obtain ⟨a, c, rfl, h2⟩ := is_form h
  have HA := Num.hide h2
  have hlen : l.length ≤ 1099511627776 := by unfold bulk at hl; omega
  clear h h2
  obtain ⟨r, hr⟩ : ∃ r, get l name = r := ⟨_, rfl⟩
  rw [hr]
  have HR := Num.hide hr
  clear hr
  go_enter Tryz.func33, Tryz.ntmps33
  go_wp2
  go_loop [6, 7, 8] (fun sv bv iv => ∃ i : Nat, i ≤ l.length ∧ iv = .int .i64 (i : Int) ∧ (∃ s b, sv = .string s ∧ bv = .bool b ∧ Hid (get (l.take i) name = (s, b)))) (fun _ _ iv => l.length - (intOf iv).toNat)
  case atStart => exact ⟨0, by omega, rfl, _, _, rfl, rfl, rfl⟩
  case round =>
    obtain ⟨i, hi, rfl, s, b, rfl, rfl, HG⟩ := hrel
    by_cases hlt : i < l.length
    · obtain ⟨bk, o, rfl, hc, hmx, hblt, hcell⟩ := Num.unhide HA (by omega)
      obtain ⟨c1, c2⟩ := hcell i hlt
      have HT := Num.hide (get_take l name i hlt)
      have hsz := get_size (l.take i) name
      rw [HG.out] at hsz
      have hb1 := bulk_le l i
      have hss : s.size ≤ 4398046511104 := by
        simp only at hsz
        rw [List.length_take] at hsz
        unfold bulk at hl
        omega
      have hys : (l[i]).2.size ≤ 4398046511104 := by
        have h3 := bulk_take l i hlt
        have h4 := bulk_le l (i + 1)
        unfold bulk at hl
        omega
      clear hcell hsz hb1
      generalize l[i] = f at c1 c2 HT hys
      obtain ⟨x, y⟩ := f
      simp only at c1 c2 hys
      by_cases he : x = name
      · subst he
        cases b with
        | true =>
          have HT2 : Hid (get (l.take (i + 1)) x = (s ++ ⟨#[44, 32]⟩ ++ y, true)) := by
            have := HT.out
            rw [HG.out] at this
            rw [this]; unfold getStep; rw [if_pos rfl, if_pos rfl]; rfl
          go_wp2
          go_round
          case rel => exact ⟨i + 1, by omega, by go_num, _, _, rfl, rfl, HT2⟩
          case measure => simp [intOf]; omega
        | false =>
          have HT2 : Hid (get (l.take (i + 1)) x = (s ++ y, true)) := by
            have := HT.out
            rw [HG.out] at this
            rw [this]; unfold getStep; rw [if_pos rfl, if_neg (by simp)]; rfl
          go_wp2
          go_round
          case rel => exact ⟨i + 1, by omega, by go_num, _, _, rfl, rfl, HT2⟩
          case measure => simp [intOf]; omega
      · have d := text_ne' he
        have d' : (x.toList != name.toList) = true := by rw [bne, d]; rfl
        have HT2 : Hid (get (l.take (i + 1)) name = (s, b)) := by
          have := HT.out
          rw [HG.out] at this
          rw [this]; unfold getStep; rw [if_neg he]; rfl
        clear he
        go_wp2
        go_round
        case rel => exact ⟨i + 1, by omega, by go_num, _, _, rfl, rfl, HT2⟩
        case measure => simp [intOf]; omega
    · obtain rfl : i = l.length := by omega
      have hg := HG.out
      rw [List.take_of_length_le (Nat.le_refl _), HR.out] at hg
      subst hg
      go_wp2
      go_ret2
      exact ⟨rfl, rfl⟩
theorem get_spec_b (v : Value) (l : List Fld) (name : ByteArray) (w : World) (h : Is w v l) (hl : bulk l ≤ 1099511627776) :
    Calls Tryz.prog 33 #[v, .string name] w fun e w' => e = .returned (.tuple #[.string (get l name).1, .bool (get l name).2]) ∧ Below w.heap.size w w' :=
  (get_spec v l name w h hl).mono fun e w' ⟨h1, h2⟩ => ⟨h1, by subst h2; exact Below.refl _ _⟩
end Flds
end Go.Proofs.YtjeokackmkfooaaGreatDoor
namespace Go.Proofs.YtjeokackmkfooaaGreatDoor
open Go.RowKit
set_option linter.unusedVariables false
namespace Strs

theorem infoS : (Tryz.prog.info? 9).map (fun i => (i.zero, i.size, i.bytes)) = some (some (.string ⟨#[]⟩), 1, 16) := by kernel_rfl
theorem grown_trans {a b c : World} {r : Option Nat} (h : a.grownBy b r) (k : b.grownBy c r) : a.grownBy c r :=
  ⟨k.os.trans h.os, k.tape.trans h.tape, k.output.trans h.output, Nat.le_trans h.size k.size, fun j hj hr => (k.block j (Nat.lt_of_lt_of_le hj h.size) hr).trans (h.block j hj hr)⟩
theorem grown_of_below {a b : World} (h : Below a.heap.size a b) (r : Option Nat) : a.grownBy b r :=
  ⟨h.os, h.tape, h.output, h.size, fun j hj _ => h.block j hj⟩
theorem grown_drew {a b : World} {r : Option Nat} (h : a.grownBy b r) : a.grownBy b.drew r := ⟨h.os, h.tape, h.output, h.size, h.block⟩
theorem grown_drewN {a b : World} {r : Option Nat} (h : a.grownBy b r) (n : Nat) : a.grownBy (b.drewN n) r := ⟨h.os, h.tape, h.output, h.size, h.block⟩
theorem below_drewN {B : Nat} {a b : World} (h : Below B a b) (n : Nat) : Below B a (b.drewN n) := ⟨h.os, h.tape, h.output, h.size, h.block⟩
theorem below_grown {B : Nat} {a b c : World} {r : Option Nat} (h : Below B a b) (k : b.grownBy c r) (hr : ∀ j, r = some j → B ≤ j) (hB : B ≤ b.heap.size) : Below B a c := h.grown k hB hr

/-- the slice's row is the call's own: from block B on, not marked; it bears these texts -/
def OwnS (B : Nat) (w : World) (v : Value) (l : List ByteArray) : Prop := w.ownsRow B 9 1 v l.length (l.map Value.string)
/-- a slice of texts as it is read -/
def Is (w : World) (v : Value) (l : List ByteArray) : Prop :=
  (l = [] ∧ ∃ a c, v = .slice a 0 c) ∨ ∃ b o c, v = .slice (some ⟨b, o, none⟩) l.length c ∧ l.length ≤ c ∧ c ≤ maxLen ∧ ∀ i (h : i < l.length), w.cell? ⟨b, o + i, none⟩ = some (.string l[i])

theorem own_nil (B : Nat) (w : World) : OwnS B w (.slice none 0 0) [] := World.ownsRow_nil w B _ 1
theorem own_len {B : Nat} {w : World} {v : Value} {l : List ByteArray} (h : OwnS B w v l) : ∃ a c, v = .slice a l.length c := by
  rcases h.2 with ⟨h1, h2⟩ | ⟨g, cap, cur, h1, _⟩
  · exact ⟨none, 0, by rw [h1, h2]⟩
  · exact ⟨_, _, h1⟩
theorem own_kept {B : Nat} {w w' : World} {v : Value} {l : List ByteArray} {r : Option Nat} (h : OwnS B w v l) (hg : w.grownBy w' r) (hne : v.ownBlock = none ∨ v.ownBlock ≠ r) : OwnS B w' v l := World.ownsRow.kept h hg hne
theorem own_below {B : Nat} {w w' : World} {v : Value} {l : List ByteArray} (h : OwnS B w v l) (hb : Below w.heap.size w w') : OwnS B w' v l :=
  own_kept h (grown_of_below hb none) (by cases e : v.ownBlock with
    | none => exact .inl rfl
    | some k => exact .inr (by intro h; cases h))
theorem own_drew {B : Nat} {w : World} {v : Value} {l : List ByteArray} (h : OwnS B w v l) : OwnS B w.drew v l := h
theorem own_drewN {B : Nat} {w : World} {v : Value} {l : List ByteArray} (h : OwnS B w v l) (n : Nat) : OwnS B (w.drewN n) v l := h
theorem own_lt {B : Nat} {w : World} {v : Value} {l : List ByteArray} (h : OwnS B w v l) : ∀ k, v.ownBlock = some k → B ≤ k ∧ k < w.heap.size := World.ownsRow.lt h
theorem own_is {B : Nat} {w : World} {v : Value} {l : List ByteArray} (h : OwnS B w v l) : Is w v l := by
  rcases h.2 with ⟨h1, h2⟩ | ⟨g, cap, cur, h1, hB, hg, hc, hm, hs, ht⟩
  · left; exact ⟨List.eq_nil_of_length_eq_zero h2, none, 0, h1⟩
  · right
    refine ⟨g, 0, cap, h1, hc, hm, fun i hi => ?_⟩
    rw [Nat.zero_add, cell_of_row w g i cur _ _ hg]
    have h2 : (cur.toList.take (l.length * 1))[i]? = (l.map Value.string)[i]? := by rw [ht]
    rw [List.getElem?_take_of_lt (by omega), List.getElem?_map, List.getElem?_eq_getElem hi] at h2
    simpa using h2
theorem is_below {B : Nat} {w w' : World} {v : Value} {l : List ByteArray} (h : Is w v l) (hb : Below w.heap.size w w') : Is w' v l := by
  rcases h with h | ⟨b, o, c, h1, h2, h3, h4⟩
  · exact .inl h
  · refine .inr ⟨b, o, c, h1, h2, h3, fun i hi => ?_⟩
    have e := h4 i hi
    have hlt : b < w.heap.size := by
      by_cases hz : b < w.heap.size
      · exact hz
      · exfalso
        have : w.heap[b]? = none := Array.getElem?_eq_none (by omega)
        simp [World.cell?, this] at e
    rw [hb.cell (p := ⟨b, o + i, none⟩) hlt]; exact e
/-- a row that lies below block C stays with what lies there -/
theorem own_stay {B C : Nat} {w w' : World} {v : Value} {l : List ByteArray} (h : OwnS B w v l) (hC : ∀ k, v.ownBlock = some k → k < C) (hb : Below C w w') : OwnS B w' v l := by
  refine ⟨h.1, ?_⟩
  rcases h.2 with h1 | ⟨g, cap, cur, h1, hB, hg, rest⟩
  · exact .inl h1
  · subst h1
    exact .inr ⟨g, cap, cur, rfl, hB, by rw [hb.block g (hC g rfl)]; exact hg, rest⟩
/-- what a marking of one's own row leaves of what lay below it -/
theorem below_mark {B C : Nat} {w w' : World} {v : Value} {l : List ByteArray} (h : OwnS B w v l) (hCB : C ≤ B) (hC : C ≤ w.heap.size) (hg : w.grownBy w' v.ownBlock) : Below C w w' :=
  (Below.refl C w).grown hg hC (fun j hj => Nat.le_trans hCB (own_lt h j hj).1)
theorem cells_one (w : World) (t : ByteArray) : ∀ j u, [Value.string t][j]? = some u → (w.alloc (.cells #[.string t] 9)).cell? ((⟨w.heap.size, 0, none⟩ : Addr).add j) = some u := by
  intro j u hj
  match j, hj with
  | 0, hj => simp at hj; subst hj; simp [Addr.add]
theorem one_ok (t : ByteArray) : ∀ u ∈ [Value.string t], u.oneCell' = true := by intro u hu; simp at hu; subst hu; rfl
theorem own_snoc {B : Nat} {w : World} {v : Value} {l : List ByteArray} {t : ByteArray} (h : w.ownsRow B 9 1 v (l.length + 1) (l.map Value.string ++ [.string t])) : OwnS B w v (l ++ [t]) := by
  unfold OwnS
  rw [List.length_append, List.map_append]
  exact h
end Strs
end Go.Proofs.YtjeokackmkfooaaGreatDoor
