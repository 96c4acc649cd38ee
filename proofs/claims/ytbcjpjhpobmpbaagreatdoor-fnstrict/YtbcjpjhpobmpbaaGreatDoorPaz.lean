/-
  PutAll: append of one list of fields behind another, in a row of the call's own: as one step of a walk, whether the second is nil or not.
  StrictMid: What a list of fields with one more behind it leaves, made by a call of its own and stored in a box of its own; and the boxes of a request, an answer and two fields.
  AtZero: at of the laws: a byte of the code, or none.
  Code: The bytes that a law is handed, as the draws read them.
-/
import Derived.Test.YtbcjpjhpobmpbaaGreatDoorPae
import Derived.Laws.OwnMore
import Derived.Laws.AppendOwn
import Derived.Test.YtbcjpjhpobmpbaaGreatDoorPah
import Derived.Test.YtbcjpjhpobmpbaaGreatDoorPat
import Derived.OpenShut
namespace Go.Proofs.YtbcjpjhpobmpbaaGreatDoor
open Go.RowKit
set_option linter.unusedVariables false
namespace Flds

theorem texts_ok (l : List Fld) : ∀ u ∈ l.flatMap cells, u.oneCell' = true := by
  intro u hu
  obtain ⟨f, _, hf⟩ := List.mem_flatMap.1 hu
  unfold cells at hf
  simp at hf
  rcases hf with rfl | rfl <;> rfl
theorem wp_put_all {o : Oper} {a : Act} {w : World} {K : Act → World → Prop} {Q : Exit → Act → World → Prop} (s x : Operand)
    (ho : o.op = .call { callee := .builtin .append, args := #[s, x], argTypes := #[30, 30] })
    (base B : Nat) (v : Value) (pre : List Fld) (hs : a.eval s = v) (hown : Own base w v pre) (vx : Value) (l : List Fld) (hx : a.eval x = vx) (hI : Own B w vx l)
    (hz : pre.length + l.length ≤ 4194304) (hbase : base ≤ w.heap.size)
    (h : ∀ v' w', Own base w' v' (pre ++ l) → w.grownBy w' v.ownBlock → K (a.put o.dst v') w') : o.wp Tryz.prog a w K Q := by
  obtain ⟨i0, hi0, hz0, hz1, hz2⟩ := info_parts infoF
  rcases hI.2 with ⟨h1, h2⟩ | ⟨g, cap, cur, h1, hB, hg, hc, hm, hsz, htake⟩
  · subst h1
    obtain rfl : l = [] := List.eq_nil_of_length_eq_zero h2
    rw [List.append_nil] at h
    have hrun := run_append_owned_none (P := Tryz.prog) (w := w) base 30 o.type 47 i0 2 Tryz.underlying30 hi0 v pre.length (pre.flatMap cells) hown
    unfold Oper.wp
    simp [execOp, ho, resolve, invoke, builtin, hs, hx, hrun, Result.andThen]
    exact h _ _ hown (Recs.grown_refl _ _)
  · subst h1
    refine wp_append_own w s x 30 ho base 47 i0 _ 2 32 Tryz.underlying30 hi0 hz0 hz1 hz2 rfl (by decide) v pre.length (pre.flatMap cells) hs hown ⟨g, 0, none⟩ l.length cap (l.flatMap cells) hx (by rw [Recs.flat_length cells_len]) (World.ownsRow.cells hI (g := g) rfl) (texts_ok l) (by unfold maxLen; omega) (by omega) hbase ?_
    intro v' w' ho' hg' _
    refine h v' w' ?_ hg'
    unfold Own Recs.Own
    rw [List.length_append, List.flatMap_append]
    exact ho'
theorem wpList_put_all {ops : Array Oper} {rest : List Oper} {o : Oper} {a : Act} {w : World} {Q : Exit → Act → World → Prop} (hgd : o.guard = none) (s x : Operand)
    (ho : o.op = .call { callee := .builtin .append, args := #[s, x], argTypes := #[30, 30] })
    (base B : Nat) (v : Value) (pre : List Fld) (hs : a.eval s = v) (hown : Own base w v pre) (vx : Value) (l : List Fld) (hx : a.eval x = vx) (hI : Own B w vx l)
    (hz : pre.length + l.length ≤ 4194304) (hbase : base ≤ w.heap.size)
    (h : ∀ v' w', Own base w' v' (pre ++ l) → w.grownBy w' v.ownBlock → wpList Tryz.prog ops Q rest (a.put o.dst v') w') : wpList Tryz.prog ops Q (o :: rest) a w :=
  wpList_plain hgd fun _ hK => wp_put_all s x ho base B v pre hs hown vx l hx hI hz hbase fun v' w' h1 h2 => hK _ _ (h v' w' h1 h2)
end Flds
end Go.Proofs.YtbcjpjhpobmpbaaGreatDoor
namespace Go.Proofs.YtbcjpjhpobmpbaaGreatDoor
open Go.RowKit
set_option linter.unusedVariables false
namespace Strict
open Flds (Fld)

/-- what was there stays; a box was laid behind it -/
structure Mid (wj : World) (C : Array Value) (T : TypeId) (X : World) : Prop where
  below : Below wj.heap.size wj X
  box : X.heap[wj.heap.size]? = some (.cells C T (0, 0))
theorem Mid.lt {wj : World} {C : Array Value} {T : TypeId} {X : World} (h : Mid wj C T X) : wj.heap.size < X.heap.size := (Array.getElem?_eq_some_iff.1 h.box).1
theorem mid_first (wj : World) (C : Array Value) (T : TypeId) : Mid wj C T (wj.alloc (.cells C T)) := ⟨(Below.refl _ _).alloc (Nat.le_refl _) _, heap_alloc_new wj _⟩
theorem Mid.step {wj : World} {C : Array Value} {T : TypeId} {X X' : World} (h : Mid wj C T X) (hb : Below X.heap.size X X') : Mid wj C T X' :=
  ⟨h.below.trans (hb.mono h.below.size), (hb.block _ h.lt).trans h.box⟩
theorem Mid.grown {wj : World} {C : Array Value} {T : TypeId} {X X' : World} {r : Option Nat} (h : Mid wj C T X) (hg : X.grownBy X' r) (hv : ∀ j, r = some j → wj.heap.size + 1 ≤ j) : Mid wj C T X' :=
  ⟨h.below.grown hg h.below.size (fun j hj => by have := hv j hj; omega), (hg.block _ h.lt (fun e => by have := hv _ e.symm; omega)).trans h.box⟩
/-- what every step of a region keeps: what was there, and that a box lies behind it -/
def SM (wj : World) (T : TypeId) (X : World) : Prop := Below wj.heap.size wj X ∧ wj.heap.size < X.heap.size
theorem Mid.mid {wj : World} {C : Array Value} {T : TypeId} {X : World} (h : Mid wj C T X) : SM wj T X := ⟨h.below, h.lt⟩
/-- the box with its new list -/
structure Got (wj : World) (C : Array Value) (k : Nat) (T : TypeId) (l : List Fld) (v : Value) (X : World) : Prop where
  below : Below wj.heap.size wj X
  box : X.heap[wj.heap.size]? = some (.cells (C.setIfInBounds k v) T (0, 0))
  is : Flds.Is X v l
theorem Got.mid {wj : World} {C : Array Value} {k : Nat} {T : TypeId} {l : List Fld} {v : Value} {X : World} (h : Got wj C k T l v X) : SM wj T X := ⟨h.below, (Array.getElem?_eq_some_iff.1 h.box).1⟩
theorem Got.mk' {wj : World} {C : Array Value} {T : TypeId} {X : World} {l : List Fld} {v : Value} (h : Mid wj C T X) (k : Nat) (ho : Flds.Own (wj.heap.size + 1) X v l) : Got wj C k T l v (X.setCell ⟨wj.heap.size, k, none⟩ v) :=
  ⟨h.below.setCell (p := ⟨wj.heap.size, k, none⟩) (Nat.le_refl _) v, Recs.box_set h.box k v, Recs.own_is Flds.cells_len (Recs.own_set ho wj.heap.size k v (fun j hj => by have := (Recs.own_lt ho j hj).1; omega))⟩
/-- the boxes of the law: the request, the answer, the two fields -/
structure Base (G : World → Prop) (w : World) (gq : Nat) (q r no look : Array Value) (v1 v2 : Value) (l1 l2 : List Fld) (W : World) : Prop where
  q : W.heap[gq]? = some (.cells q 32 (0, 0))
  r : W.heap[gq + 1]? = some (.cells r 35 (0, 0))
  no : W.heap[gq + 1 + 1]? = some (.cells no 47 (0, 0))
  look : W.heap[gq + 1 + 1 + 1]? = some (.cells look 47 (0, 0))
  o1 : Flds.Own w.heap.size W v1 l1
  o2 : Flds.Own w.heap.size W v2 l2
  g : G W
  below : Below w.heap.size w W
theorem lt_of_row {W : World} {g : Nat} {o : Obj} (h : W.heap[g]? = some o) : g < W.heap.size := (Array.getElem?_eq_some_iff.1 h).1
theorem row_below {W W' : World} {g : Nat} {o : Obj} (h : W.heap[g]? = some o) (hb : Below W.heap.size W W') : W'.heap[g]? = some o := (hb.block g (lt_of_row h)).trans h
section
variable {G : World → Prop} {w : World} {gq : Nat} {q r no look : Array Value} {v1 v2 : Value} {l1 l2 : List Fld} {W W' : World}
theorem Base.ltq (h : Base G w gq q r no look v1 v2 l1 l2 W) : gq < W.heap.size := lt_of_row h.q
theorem Base.ltr (h : Base G w gq q r no look v1 v2 l1 l2 W) : gq + 1 < W.heap.size := lt_of_row h.r
theorem Base.ltno (h : Base G w gq q r no look v1 v2 l1 l2 W) : gq + 1 + 1 < W.heap.size := lt_of_row h.no
theorem Base.ltlook (h : Base G w gq q r no look v1 v2 l1 l2 W) : gq + 1 + 1 + 1 < W.heap.size := lt_of_row h.look
theorem Base.step (HG : ∀ W W', G W → Below W.heap.size W W' → G W') (h : Base G w gq q r no look v1 v2 l1 l2 W) (hb : Below W.heap.size W W') : Base G w gq q r no look v1 v2 l1 l2 W' :=
  ⟨row_below h.q hb, row_below h.r hb, row_below h.no hb, row_below h.look hb, Recs.own_below h.o1 hb, Recs.own_below h.o2 hb, HG _ _ h.g hb, h.below.trans (hb.mono h.below.size)⟩
end
/-- a box and the list that it leads to -/
structure Bx (g : Nat) (C : Array Value) (T : TypeId) (l : List Fld) (v : Value) (X : World) : Prop where
  box : X.heap[g]? = some (.cells C T (0, 0))
  is : Flds.Is X v l
theorem Bx.step {g : Nat} {C : Array Value} {T : TypeId} {l : List Fld} {v : Value} {X X' : World} (h : Bx g C T l v X) (hb : Below X.heap.size X X') : Bx g C T l v X' := ⟨row_below h.box hb, Recs.is_below h.is hb⟩
theorem Got.bx {wj : World} {C : Array Value} {k : Nat} {T : TypeId} {l : List Fld} {v : Value} {X : World} (h : Got wj C k T l v X) : Bx wj.heap.size (C.setIfInBounds k v) T l v X := ⟨h.box, h.is⟩
/-- all that the law's tests read -/
structure All (G : World → Prop) (w : World) (gq : Nat) (q r no look : Array Value) (v1 v2 : Value) (l1 l2 : List Fld) (ga gb gc gd : Nat) (a b c d : Array Value) (va vb vc vd : Value) (la lb lc ld : List Fld) (W : World) : Prop where
  base : Base G w gq q r no look v1 v2 l1 l2 W
  a : Bx ga a 32 la va W
  b : Bx gb b 35 lb vb W
  c : Bx gc c 32 lc vc W
  d : Bx gd d 35 ld vd W
theorem All.step {G : World → Prop} {w : World} {gq : Nat} {q r no look : Array Value} {v1 v2 : Value} {l1 l2 : List Fld} {ga gb gc gd : Nat} {a b c d : Array Value} {va vb vc vd : Value} {la lb lc ld : List Fld} {W W' : World}
    (HG : ∀ W W', G W → Below W.heap.size W W' → G W') (h : All G w gq q r no look v1 v2 l1 l2 ga gb gc gd a b c d va vb vc vd la lb lc ld W) (hb : Below W.heap.size W W') : All G w gq q r no look v1 v2 l1 l2 ga gb gc gd a b c d va vb vc vd la lb lc ld W' :=
  ⟨h.base.step HG hb, h.a.step hb, h.b.step hb, h.c.step hb, h.d.step hb⟩
/-- what the last test reads, cell by cell -/
abbrev Fin (G : World → Prop) (w : World) (gq : Nat) (m u : ByteArray) (v1 : Value) (l1 : List Fld) (b1 : ByteArray) (st : Int) (v2 : Value) (l2 : List Fld) (b2 : ByteArray) (W : World) : Prop :=
  W.cell? ⟨gq, 0, none⟩ = some (.string m) ∧ W.cell? ⟨gq, 1, none⟩ = some (.string u) ∧ W.cell? ⟨gq, 2, none⟩ = some v1 ∧ W.cell? ⟨gq, 3, none⟩ = some (.string b1) ∧
  W.cell? ⟨gq + 1, 0, none⟩ = some (.int .i64 st) ∧ W.cell? ⟨gq + 1, 1, none⟩ = some v2 ∧ W.cell? ⟨gq + 1, 2, none⟩ = some (.string b2) ∧ Flds.Is W v1 l1 ∧ Flds.Is W v2 l2 ∧ G W ∧ Below w.heap.size w W
theorem Fin.step {G : World → Prop} {w : World} {gq : Nat} {m u : ByteArray} {v1 : Value} {l1 : List Fld} {b1 : ByteArray} {st : Int} {v2 : Value} {l2 : List Fld} {b2 : ByteArray} {W W' : World} (HG : ∀ W W', G W → Below W.heap.size W W' → G W')
    (h : Fin G w gq m u v1 l1 b1 st v2 l2 b2 W) (hb : Below W.heap.size W W') : Fin G w gq m u v1 l1 b1 st v2 l2 b2 W' := by
  obtain ⟨h0, h1, h2, h3, h4, h5, h6, h7, h8, h9, h10⟩ := h
  have l0 : gq < W.heap.size := Recs.lt_of_cell h0
  have l1 : gq + 1 < W.heap.size := Recs.lt_of_cell h4
  exact ⟨(hb.cell (p := ⟨gq, 0, none⟩) l0).trans h0, (hb.cell (p := ⟨gq, 1, none⟩) l0).trans h1, (hb.cell (p := ⟨gq, 2, none⟩) l0).trans h2, (hb.cell (p := ⟨gq, 3, none⟩) l0).trans h3, (hb.cell (p := ⟨gq + 1, 0, none⟩) l1).trans h4, (hb.cell (p := ⟨gq + 1, 1, none⟩) l1).trans h5, (hb.cell (p := ⟨gq + 1, 2, none⟩) l1).trans h6, Recs.is_below h7 hb, Recs.is_below h8 hb, HG _ _ h9 hb, h10.trans (hb.mono h10.size)⟩
end Strict
end Go.Proofs.YtbcjpjhpobmpbaaGreatDoor
namespace Go.Proofs.YtbcjpjhpobmpbaaGreatDoor
open Go.RowKit
set_option linter.unusedVariables false
namespace Draw

set_option maxRecDepth 100000 in
set_option maxHeartbeats 1000000 in
theorem at_zero (B cap : Nat) (a : Option Addr) (l : List Int) (w : World) (hcode : CodeAt B w a l) (hl : l.length ≤ 1048576) :
    Calls Tryz.prog 19 #[.slice a l.length cap, .int .i64 0] w fun e w' => ∃ z : Int, e = .returned (.int .i64 z) ∧ 0 ≤ z ∧ z ≤ 255 ∧ w = w' := by
  by_cases h0 : (0 : Int) < (l.length : Int)
  · rcases hcode.2 with hn | ⟨b, off, rfl, hbB, hc⟩
    · rw [hn] at h0; simp at h0
    · have hz := hcode.1 0 (by omega)
      have hck := hc 0 (by omega)
      rw [Nat.add_zero] at hck
      generalize l[0]'(by omega) = z at hz hck
      have HC := Num.hide hcode
      clear hcode hc HC
      go_enter Tryz.func19, Tryz.ntmps19
      go_wp2
      go_ret
      exact ⟨z, rfl, hz.1, hz.2, rfl⟩
  · have d0 : decide ((0 : Int) < (l.length : Int)) = false := by rw [decide_eq_false_iff_not]; exact h0
    clear hcode
    go_enter Tryz.func19, Tryz.ntmps19
    go_wp2
    go_ret
    exact ⟨_, rfl, by omega, by omega, rfl⟩
end Draw
end Go.Proofs.YtbcjpjhpobmpbaaGreatDoor
namespace Go.Proofs.YtbcjpjhpobmpbaaGreatDoor
open Go.RowKit
set_option linter.unusedVariables false
namespace Draw

theorem CodeAt.mono {B B' : Nat} {w : World} {a : Option Addr} {l : List Int} (h : CodeAt B w a l) (hB : B ≤ B') : CodeAt B' w a l := by
  refine ⟨h.1, ?_⟩
  rcases h.2 with h | ⟨b, off, ha, hb, hc⟩
  · exact .inl h
  · exact .inr ⟨b, off, ha, by omega, hc⟩
theorem lt_of_cell {w : World} {a : Addr} {v : Value} (h : w.cell? a = some v) : a.block < w.heap.size := by
  apply Decidable.byContradiction
  intro hc
  have hn : w.heap[a.block]? = none := Array.getElem?_eq_none (by omega)
  simp [World.cell?, hn] at h
theorem code_of (w : World) (x : Addr) (len : Nat) (zs : List Int) (hl : len ≤ zs.length) (hcell : ∀ i, i < zs.length → w.cell? (x.add i) = some (.int .u8 (zs.getD i 0))) (hwz : ∀ n ∈ zs, (Lit.int .u8 n).wf = true) :
    (zs.take len).length = len ∧ CodeAt w.heap.size w (some x) (zs.take len) := by
  have hlen : (zs.take len).length = len := by rw [List.length_take]; omega
  refine ⟨hlen, ?_, ?_⟩
  · intro i hi
    have hm : (zs.take len)[i] ∈ zs := List.mem_of_mem_take (List.getElem_mem hi)
    have := bounds_u8 (hwz _ hm)
    omega
  · by_cases h0 : len = 0
    · left; subst h0; rfl
    · right
      obtain ⟨b, off, spot⟩ := x
      have hc := hcell 0 (by omega)
      have hspot : spot = none := by simpa [Addr.add] using World.cell?_spot hc
      subst hspot
      have hadd : ∀ i, (⟨b, off, none⟩ : Addr).add i = ⟨b, off + i, none⟩ := fun i => by unfold Addr.add; split <;> simp_all
      refine ⟨b, off, rfl, ?_, ?_⟩
      · have := lt_of_cell hc
        rw [hadd] at this
        exact this
      · intro i hi
        have h2 := hcell i (by omega)
        rw [hadd] at h2
        rw [h2, List.getElem_take, List.getD_eq_getElem?_getD, List.getElem?_eq_getElem (by omega)]
        rfl
set_option maxHeartbeats 400000 in
theorem big_any (a : Option Addr) (n cap : Nat) (w : World) (h : n ≤ 9223372036854775807) : Calls Tryz.prog 16 #[.slice a n cap] w fun e w' => e = .returned (.bool (decide (1048576 < (n : Int)))) ∧ w = w' := by
  go_enter Tryz.func16, Tryz.ntmps16
  go_wp2
  go_ret
  exact ⟨by simp, rfl⟩
end Draw
end Go.Proofs.YtbcjpjhpobmpbaaGreatDoor
