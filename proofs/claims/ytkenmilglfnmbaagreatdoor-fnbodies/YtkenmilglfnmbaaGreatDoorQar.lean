/-
  JoinInv: joinPieces of the program: what its boxes hold between two pieces, and that it stays.
-/
import Derived.Test.YtkenmilglfnmbaaGreatDoorQaq
namespace Go.Proofs.YtkenmilglfnmbaaGreatDoor
open Go.RowKit Go.Shelf
set_option linter.unusedVariables false
namespace Body

theorem catB_le (l : List Pc) : (catB l).size ≤ 60 * l.length := by
  refine Num.snoc_ind (P := fun l => (catB l).size ≤ 60 * l.length) (by decide) ?_ l
  intro l x ih
  have := x.2.1
  rw [catB_snoc, ByteArray.size_append, List.length_append, List.length_singleton]
  omega
theorem sumU_le (l : List Pc) : sumU l ≤ 4194304 * l.length := by
  refine Num.snoc_ind (P := fun l => sumU l ≤ 4194304 * l.length) (by decide) ?_ l
  intro l x ih
  have := x.2.2.1
  rw [sumU_snoc, List.length_append, List.length_singleton]
  omega
theorem boxed_rows {W W' : World} {k : Nat} {t : TypeId} {v : Value} (h : Boxed W k t v) (hr : RowsStay W W') : Boxed W' k t v := hr _ _ _ _ h
/-- all rows but one stay -/
theorem isb_set {T e : TypeId} {B b q : Nat} {bs : List Value} {W : World} {t : TypeId} {v : Value} (h : Lib.IsBuilderF T e B b bs W) (hq : Boxed W q t v) (ht : t ≠ e) (hb : q ≠ b) (u : Value) : Lib.IsBuilderF T e B b bs (W.setCell ⟨q, 0, none⟩ u) := by
  have hk : ∀ k, k ≠ q → (W.setCell ⟨q, 0, none⟩ u).heap[k]? = W.heap[k]? := fun k hk => Below.heap_setCell _ _ _ _ (fun e => hk e)
  have key : ∀ p, Lib.BuilderAtF T e B b p bs W → Lib.BuilderAtF T e B b p bs (W.setCell ⟨q, 0, none⟩ u) := by
    rintro p ⟨hB, v', hb', ⟨h1, h2⟩, hne⟩
    refine ⟨hB, v', (hk b (fun e => hb e.symm)).trans hb', ⟨h1, ?_⟩, hne⟩
    rcases h2 with h2 | ⟨g, cap, cur, fz, e1, e2, e3, e4⟩
    · exact .inl h2
    · refine .inr ⟨g, cap, cur, fz, e1, e2, (hk g ?_).trans e3, e4⟩
      rintro rfl
      rw [show W.heap[g]? = _ from hq] at e3
      cases e3
      exact ht rfl
  exact h.elim (fun x => .inl (key _ x)) (fun x => .inr (key _ x))
/-- between two pieces -/
structure JInv (w : World) (q1 q2 q3 q4 : Nat) (pre : List Pc) (W : World) : Prop where
  r0 : Boxed W w.heap.size 9 (.string ⟨#[]⟩)
  r1 : Boxed W q1 3 (.int .i64 0)
  r2 : Boxed W q2 71 .nilIface
  bd : Lib.IsBuilderF 66 5 q3 q3 (Lib.byteCells (catB pre).data.toList) W
  us : Boxed W q4 3 (.int .i64 (sumU pre : Int))
  be : Below w.heap.size w W
  ok : ∀ x ∈ pre, x.1.2.2 = 0
theorem jinv_rows {w : World} {q1 q2 q3 q4 : Nat} {pre : List Pc} {W W' : World} (h : JInv w q1 q2 q3 q4 pre W) (hr : RowsStay W W') (hb : Below w.heap.size w W') : JInv w q1 q2 q3 q4 pre W' :=
  ⟨boxed_rows h.r0 hr, boxed_rows h.r1 hr, boxed_rows h.r2 hr, isb_rows h.bd hr, boxed_rows h.us hr, hb, h.ok⟩
theorem jinv_own {n : Nat} (w : World) (q1 q2 q3 q4 : Nat) (hn : w.heap.size ≤ n) : OwnFrom n (fun pre W => JInv w q1 q2 q3 q4 pre W) := fun s W W' row hs hg hr =>
  jinv_rows hs (rows_turn hg (fun r e => (hr r e).2)) ((ownFrom_below (β := Unit) (Nat.le_refl _) hn) () W W' row hs.be hg hr)
/-- where a piece at fault has been told -/
structure JOut (w : World) (q1 q2 : Nat) (m b : Addr) (c : Code) (pre : List Pc) (W : World) : Prop where
  cr : c = .ret
  last : ∃ init x, pre = init ++ [x] ∧ x.1.2.2 ≠ 0 ∧ Boxed W q2 71 (errV m b x.1.2.2)
  r0 : Boxed W w.heap.size 9 (.string ⟨#[]⟩)
  r1 : Boxed W q1 3 (.int .i64 0)
  be : Below w.heap.size w W
theorem jout_own {n : Nat} (w : World) (q1 q2 : Nat) (m b : Addr) (c : Code) (hn : w.heap.size ≤ n) : OwnFrom n (fun pre W => JOut w q1 q2 m b c pre W) := fun s W W' row hs hg hr => by
  have hrs := rows_turn hg (fun r e => (hr r e).2)
  obtain ⟨init, x, h1, h2, h3⟩ := hs.last
  exact ⟨hs.cr, ⟨init, x, h1, h2, boxed_rows h3 hrs⟩, boxed_rows hs.r0 hrs, boxed_rows hs.r1 hrs, (ownFrom_below (β := Unit) (Nat.le_refl _) hn) () W W' row hs.be hg hr⟩
/-- the piece in its box -/
def JBox (Bx : Nat) (x : Pc) (W : World) : Prop := W.heap[Bx]? = some (.cells #[.string x.1.1, .int .i64 (x.1.2.1 : Int)] 117 (0, 0))
theorem rows_alloc (W : World) (o : Obj) : RowsStay W (W.alloc o) := fun k c t fz hk => (Below.heap_alloc W o k (Array.getElem?_eq_some_iff.1 hk).1).trans hk
end Body
end Go.Proofs.YtkenmilglfnmbaaGreatDoor
