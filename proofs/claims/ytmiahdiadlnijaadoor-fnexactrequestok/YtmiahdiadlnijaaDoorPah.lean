/-
  PlainSpec: l6Plain of the specification: has a message no field that says how long its body is?
  ReqVal: A request as a value.
  Boxes: Boxes of a call's own: what a store into one leaves of what lies below and of the rows behind.
  ReqOkSpec: RequestOk of the specification: is a request right?
-/
import Derived.Test.YtmiahdiadlnijaaDoorPag
import Derived.Test.YtmiahdiadlnijaaDoorFldsOkSpec
import Derived.Test.YtmiahdiadlnijaaDoorFlds
import Derived.Test.YtmiahdiadlnijaaDoorRecs
import Derived.Test.YtmiahdiadlnijaaDoorPaa
namespace Go.Proofs.YtmiahdiadlnijaaDoor
open Go.RowKit
set_option linter.unusedVariables false
namespace Msg

theorem bulk_each {l : List Flds.Fld} (h : Flds.bulk l ≤ 1099511627776) : ∀ f ∈ l, f.1.size ≤ maxLen ∧ f.2.size ≤ maxLen := by
  intro f hf
  obtain ⟨i, hi, rfl⟩ := List.getElem_of_mem hf
  have h3 := Flds.bulk_take l i hi
  have h4 := Flds.bulk_le l (i + 1)
  unfold Flds.bulk at h; unfold maxLen
  omega
set_option maxRecDepth 100000 in
set_option maxHeartbeats 2000000 in
theorem plain_spec (v : Value) (l : List Flds.Fld) (w : World) (h : Flds.Is w v l) (hl : Flds.bulk l ≤ 1099511627776) :
    Calls Tryd.prog 24 #[v] w fun e w' => e = .returned (.bool (plain l)) ∧ Below w.heap.size w w' := by
  have hlen : l.length ≤ 1099511627776 := by unfold Flds.bulk at hl; omega
  have HG1 := Num.hide (Flds.get_spec v l Body.teName w h hl)
  have HG2 := Num.hide (Flds.get_spec v l Body.clName w h hl)
  have HO := Num.hide (Flds.ok_spec v l w h (bulk_each hl) hlen)
  obtain ⟨a, c, rfl, _⟩ := Flds.is_form h
  clear h
  obtain ⟨r, hr⟩ : ∃ r, plain l = r := ⟨_, rfl⟩
  rw [hr]
  unfold plain at hr
  unfold Body.teName at HG1
  unfold Body.clName at HG2
  generalize hx : Flds.get l Body.teName = x at hr
  generalize hy : Flds.get l Body.clName = y at hr
  have hx' : Flds.get l ⟨#[116, 114, 97, 110, 115, 102, 101, 114, 45, 101, 110, 99, 111, 100, 105, 110, 103]⟩ = x := hx
  have hy' : Flds.get l ⟨#[99, 111, 110, 116, 101, 110, 116, 45, 108, 101, 110, 103, 116, 104]⟩ = y := hy
  rw [hx'] at HG1
  rw [hy'] at HG2
  generalize Flds.ok l = o at HO hr
  obtain ⟨x1, x2⟩ := x
  obtain ⟨y1, y2⟩ := y
  simp only at hr HG1 HG2
  clear hx hy hx' hy' hl
  cases x2 with
  | true =>
    obtain rfl : false = r := by rw [← hr]; rfl
    clear hr
    go_enter Tryd.func24, Tryd.ntmps24
    go_wp2_with fail
    refine HG1.out.mono ?_
    rintro e w1 ⟨rfl, rfl⟩
    go_wp2_with fail
    refine HG2.out.mono ?_
    rintro e w1 ⟨rfl, rfl⟩
    go_wp2
    go_ret
    exact ⟨rfl, Below.refl _ _⟩
  | false =>
    cases y2 with
    | true =>
      obtain rfl : false = r := by rw [← hr]; rfl
      clear hr
      go_enter Tryd.func24, Tryd.ntmps24
      go_wp2_with fail
      refine HG1.out.mono ?_
      rintro e w1 ⟨rfl, rfl⟩
      go_wp2_with fail
      refine HG2.out.mono ?_
      rintro e w1 ⟨rfl, rfl⟩
      go_wp2
      go_ret
      exact ⟨rfl, Below.refl _ _⟩
    | false =>
      by_cases h12 : (l.length : Int) < 12
      · obtain rfl : o = r := by rw [← hr, decide_eq_true (by omega)]; rfl
        clear hr
        go_enter Tryd.func24, Tryd.ntmps24
        go_wp2_with fail
        refine HG1.out.mono ?_
        rintro e w1 ⟨rfl, rfl⟩
        go_wp2_with fail
        refine HG2.out.mono ?_
        rintro e w1 ⟨rfl, rfl⟩
        go_wp2_with fail
        refine HO.out.mono ?_
        rintro e w2 ⟨rfl, hb⟩
        have HB := Num.hide hb
        clear hb
        go_wp2
        go_ret
        exact ⟨rfl, HB.out⟩
      · obtain rfl : false = r := by rw [← hr, decide_eq_false (by omega)]; rfl
        have d12 : decide ((l.length : Int) < 12) = false := decide_eq_false h12
        clear hr
        go_enter Tryd.func24, Tryd.ntmps24
        go_wp2_with fail
        refine HG1.out.mono ?_
        rintro e w1 ⟨rfl, rfl⟩
        go_wp2_with fail
        refine HG2.out.mono ?_
        rintro e w1 ⟨rfl, rfl⟩
        go_wp2
        go_ret
        exact ⟨rfl, Below.refl _ _⟩
end Msg
end Go.Proofs.YtmiahdiadlnijaaDoor
namespace Go.Proofs.YtmiahdiadlnijaaDoor
open Go.RowKit
set_option linter.unusedVariables false
namespace Req

/-- the value of a request whose fields lie at v -/
def val (m u : ByteArray) (v : Value) (b : ByteArray) : Value := .agg #[.string m, .string u, v, .string b]
/-- how much a request holds -/
def bulk (m u : ByteArray) (l : List Flds.Fld) (b : ByteArray) : Nat := m.size + u.size + Flds.bulk l + b.size
end Req
end Go.Proofs.YtmiahdiadlnijaaDoor
namespace Go.Proofs.YtmiahdiadlnijaaDoor
open Go.RowKit
set_option linter.unusedVariables false
namespace Recs

/-- what lies below B, and the rows from n on that were there, are as they were -/
structure Past (B n : Nat) (W W' : World) : Prop where
  below : Below B W W'
  rows : ∀ j, n ≤ j → j < W.heap.size → W'.heap[j]? = W.heap[j]?
theorem Past.refl (B n : Nat) (W : World) : Past B n W W := ⟨Below.refl _ _, fun _ _ _ => rfl⟩
theorem Past.set {B n : Nat} {W W' : World} (h : Past B n W W') (g i : Nat) (u : Value) (hB : B ≤ g) (hn : g < n) : Past B n W (W'.setCell ⟨g, i, none⟩ u) :=
  ⟨h.below.setCell (p := ⟨g, i, none⟩) hB u, fun j hj hl => (heap_setCell_other W' ⟨g, i, none⟩ j u (fun e => by have e2 : j = g := e; omega)).trans (h.rows j hj hl)⟩
theorem Past.drew {B n : Nat} {W W' : World} (h : Past B n W W') : Past B n W W'.drew := ⟨h.below.drew, h.rows⟩
theorem own_past {α : Type} {e : TypeId} {sz : Nat} {enc : α → List Value} {B n : Nat} {W W' : World} {v : Value} {l : List α} (h : Own e sz enc n W v l) (hf : Past B n W W') : Own e sz enc n W' v l := by
  refine ⟨h.1, ?_⟩
  have hlt := own_lt h
  rcases h.2 with h1 | ⟨g, cap, cur, h1, hB, hg, rest⟩
  · exact .inl h1
  · subst h1
    exact .inr ⟨g, cap, cur, rfl, hB, by rw [hf.rows g hB (hlt g rfl).2]; exact hg, rest⟩
/-- the cells of a box that is known whole -/
theorem box_cell {w : World} {g : Nat} {cs : Array Value} {T : TypeId} (h : w.heap[g]? = some (.cells cs T (0, 0))) (i : Nat) : w.cell? ⟨g, i, none⟩ = cs[i]? := cell_of_row w g _ _ _ _ h
theorem box_thaw {w : World} {g : Nat} {cs : Array Value} {T : TypeId} (h : w.heap[g]? = some (.cells cs T (0, 0))) (i : Nat) : w.frozen? ⟨g, i, none⟩ = false := frozen_of_row w g i _ _ h
theorem box_set {w : World} {g : Nat} {cs : Array Value} {T : TypeId} (h : w.heap[g]? = some (.cells cs T (0, 0))) (i : Nat) (u : Value) : (w.setCell ⟨g, i, none⟩ u).heap[g]? = some (.cells (cs.setIfInBounds i u) T (0, 0)) := heap_setCell_same w g i cs _ u h
theorem box_far {w : World} {g k i : Nat} {o : Option Obj} (h : w.heap[k]? = o) (u : Value) (hne : k ≠ g) : (w.setCell ⟨g, i, none⟩ u).heap[k]? = o := (heap_setCell_other w ⟨g, i, none⟩ k u (fun e => hne e)).trans h
/-- three boxes that were just laid, behind whatever was laid since -/
theorem three_rows (w W : World) (p r o : Obj) (hb : Below (((w.alloc p).alloc r).alloc o).heap.size (((w.alloc p).alloc r).alloc o) W) : W.heap[w.heap.size]? = some p ∧ W.heap[w.heap.size + 1]? = some r ∧ W.heap[w.heap.size + 1 + 1]? = some o := by
  have e1 : (w.alloc p).heap.size = w.heap.size + 1 := by rw [World.size_alloc]
  have e2 : ((w.alloc p).alloc r).heap.size = w.heap.size + 1 + 1 := by rw [World.size_alloc, World.size_alloc]
  have e3 : (((w.alloc p).alloc r).alloc o).heap.size = w.heap.size + 1 + 1 + 1 := by rw [World.size_alloc, World.size_alloc, World.size_alloc]
  refine ⟨?_, ?_, ?_⟩
  · rw [hb.block _ (by omega), heap_alloc_old _ _ (by omega), heap_alloc_old _ _ (by omega), heap_alloc_new]
  · rw [hb.block _ (by omega), heap_alloc_old _ _ (by omega), ← e1, heap_alloc_new]
  · rw [hb.block _ (by omega), ← e2, heap_alloc_new]
/-- a row of one's own is as it was behind a store into another block -/
theorem own_set {α : Type} {e : TypeId} {sz : Nat} {enc : α → List Value} {B : Nat} {W : World} {v : Value} {l : List α} (h : Own e sz enc B W v l) (g i : Nat) (u : Value) (hne : ∀ k, v.ownBlock = some k → k ≠ g) : Own e sz enc B (W.setCell ⟨g, i, none⟩ u) v l := by
  have hg : W.grownBy (W.setCell ⟨g, i, none⟩ u) (some g) := ⟨rfl, rfl, rfl, by simp, fun j hj hr => heap_setCell_other W ⟨g, i, none⟩ j u (fun e => hr (by rw [show j = g from e]))⟩
  refine own_kept h hg ?_
  cases hv : v.ownBlock with
  | none => exact .inl rfl
  | some k => exact .inr (fun e => hne k hv (Option.some.inj e))
end Recs
end Go.Proofs.YtmiahdiadlnijaaDoor
namespace Go.Proofs.YtmiahdiadlnijaaDoor
open Go.RowKit
set_option linter.unusedVariables false
namespace Msg

set_option maxRecDepth 100000 in
set_option maxHeartbeats 2000000 in
theorem reqOk_spec (m u : ByteArray) (v : Value) (l : List Flds.Fld) (b : ByteArray) (w : World) (h : Flds.Is w v l) (hl : Flds.bulk l ≤ 1099511627776) (hm : m.size ≤ 1099511627776) (hu : u.size ≤ 1099511627776) (hb : b.size ≤ 1099511627776) :
    Calls Tryd.prog 8 #[Req.val m u v b] w fun e w' => e = .returned (.bool (reqOk m u l b)) ∧ Below w.heap.size w w' := by
  unfold Req.val
  have HT := Num.hide (fun W => Sign.isTok_spec m W (by unfold maxLen; omega))
  have HU := Num.hide (fun W => uri_spec u W (by unfold maxLen; omega))
  obtain ⟨a, c, rfl, _⟩ := Flds.is_form h
  have hb0 := (Below.refl w.heap.size w).alloc (Nat.le_refl _) (.cells #[.string m, .string u, .slice a l.length c, .string b] 29)
  have HB0 := Num.hide hb0
  have HP := Num.hide (plain_spec (.slice a l.length c) l _ (Recs.is_stay h (Nat.le_refl _) hb0) hl)
  clear h hb0 hl
  obtain ⟨r, hr⟩ : ∃ r, reqOk m u l b = r := ⟨_, rfl⟩
  rw [hr]
  unfold reqOk at hr
  generalize Sign.isTok m = t1 at HT hr
  generalize uriOk u = t2 at HU hr
  generalize plain l = t3 at HP hr
  cases t1 with
  | false =>
    obtain rfl : false = r := by rw [← hr]; rfl
    clear hr HU HP
    go_enter Tryd.func8, Tryd.ntmps8
    go_wp2_with fail
    refine (HT.out _).mono ?_
    rintro e w1 ⟨rfl, rfl⟩
    go_wp2
    go_ret
    exact ⟨rfl, HB0.out⟩
  | true =>
    by_cases h10 : (m.size : Int) ≤ 10
    · have e10 : decide (m.size ≤ 10) = true := decide_eq_true (by omega)
      rw [e10] at hr
      clear e10
      cases t2 with
      | false =>
        obtain rfl : false = r := by rw [← hr]; rfl
        clear hr HP
        go_enter Tryd.func8, Tryd.ntmps8
        go_wp2_with fail
        refine (HT.out _).mono ?_
        rintro e w1 ⟨rfl, rfl⟩
        go_wp2_with fail
        refine (HU.out _).mono ?_
        rintro e w1 ⟨rfl, rfl⟩
        go_wp2
        go_ret
        exact ⟨rfl, HB0.out⟩
      | true =>
        cases t3 with
        | false =>
          obtain rfl : false = r := by rw [← hr]; rfl
          clear hr
          go_enter Tryd.func8, Tryd.ntmps8
          go_wp2_with fail
          refine (HT.out _).mono ?_
          rintro e w1 ⟨rfl, rfl⟩
          go_wp2_with fail
          refine (HU.out _).mono ?_
          rintro e w1 ⟨rfl, rfl⟩
          go_wp2_with fail
          refine HP.out.mono ?_
          rintro e w2 ⟨rfl, hb2⟩
          have HB2 := Num.hide (HB0.out.trans (hb2.mono HB0.out.size))
          have k3 := (hb2.cell (p := ⟨w.heap.size, 3, none⟩) (by show w.heap.size < _; rw [World.size_alloc]; omega)).trans (cell_of_row _ _ _ _ _ _ (heap_alloc_new w _))
          simp only [List.getElem?_toArray, List.getElem?_cons_succ, List.getElem?_cons_zero] at k3
          clear hb2 HP
          go_wp2
          go_ret
          exact ⟨rfl, HB2.out⟩
        | true =>
          by_cases h60 : (b.size : Int) ≤ 60
          · obtain rfl : true = r := by rw [← hr, decide_eq_true (by omega : b.size ≤ 60)]; rfl
            clear hr
            go_enter Tryd.func8, Tryd.ntmps8
            go_wp2_with fail
            refine (HT.out _).mono ?_
            rintro e w1 ⟨rfl, rfl⟩
            go_wp2_with fail
            refine (HU.out _).mono ?_
            rintro e w1 ⟨rfl, rfl⟩
            go_wp2_with fail
            refine HP.out.mono ?_
            rintro e w2 ⟨rfl, hb2⟩
            have HB2 := Num.hide (HB0.out.trans (hb2.mono HB0.out.size))
            have k3 := (hb2.cell (p := ⟨w.heap.size, 3, none⟩) (by show w.heap.size < _; rw [World.size_alloc]; omega)).trans (cell_of_row _ _ _ _ _ _ (heap_alloc_new w _))
            simp only [List.getElem?_toArray, List.getElem?_cons_succ, List.getElem?_cons_zero] at k3
            clear hb2 HP
            go_wp2
            go_ret
            exact ⟨rfl, HB2.out⟩
          · obtain rfl : false = r := by rw [← hr, decide_eq_false (by omega : ¬ b.size ≤ 60)]; rfl
            have d60 : decide ((b.size : Int) ≤ 60) = false := decide_eq_false h60
            clear hr
            go_enter Tryd.func8, Tryd.ntmps8
            go_wp2_with fail
            refine (HT.out _).mono ?_
            rintro e w1 ⟨rfl, rfl⟩
            go_wp2_with fail
            refine (HU.out _).mono ?_
            rintro e w1 ⟨rfl, rfl⟩
            go_wp2_with fail
            refine HP.out.mono ?_
            rintro e w2 ⟨rfl, hb2⟩
            have HB2 := Num.hide (HB0.out.trans (hb2.mono HB0.out.size))
            have k3 := (hb2.cell (p := ⟨w.heap.size, 3, none⟩) (by show w.heap.size < _; rw [World.size_alloc]; omega)).trans (cell_of_row _ _ _ _ _ _ (heap_alloc_new w _))
            simp only [List.getElem?_toArray, List.getElem?_cons_succ, List.getElem?_cons_zero] at k3
            clear hb2 HP
            go_wp2
            go_ret
            exact ⟨rfl, HB2.out⟩
    · obtain rfl : false = r := by rw [← hr, decide_eq_false (by omega : ¬ m.size ≤ 10)]; rfl
      have d10 : decide ((m.size : Int) ≤ 10) = false := decide_eq_false h10
      clear hr HU HP
      go_enter Tryd.func8, Tryd.ntmps8
      go_wp2_with fail
      refine (HT.out _).mono ?_
      rintro e w1 ⟨rfl, rfl⟩
      go_wp2
      go_ret
      exact ⟨rfl, HB0.out⟩
end Msg
end Go.Proofs.YtmiahdiadlnijaaDoor
