/-
  BuildK: WriteString and String of a strings.Builder at this program, with what else of the call's own they leave as it lay; a builder in a range over a function.
-/
import Derived.Test.YtkenmilglfnmbaaDoorPas
import Derived.Shelf.Strings.BuilderK
import Derived.RangeFuncNested
namespace Go.Proofs.YtkenmilglfnmbaaDoor
open Go.Shelf Go.RowKit
set_option linter.unusedVariables false
theorem Shelf.writeStringK (B b : Nat) (bs : List Value) (s : ByteArray) (w : World) (h : Lib.IsBuilderF 56 5 B b bs w) (hlen : bs.length + s.size ≤ 140737488355328) (hBw : B ≤ w.heap.size) :
    Calls Tryd.prog 26 #[.pointer (some ⟨b, 0, none⟩), .string s] w fun e w' => e = .returned (.tuple #[.int .i64 s.size, .nilIface]) ∧ (Lib.BuilderAtF 56 5 B b (.pointer (some ⟨b, 0, none⟩)) (bs ++ Lib.strCells s) w' ∧ Below B w w' ∧ Lib.OthersKept 5 (some b) w w') :=
  Any.Builder_WriteString_k Shelf.lays166 Shelf.build_extra B b bs s w h hlen hBw
theorem Shelf.builderStringK (B b : Nat) (l : List UInt8) (w : World) (h : Lib.IsBuilderF 56 5 B b (Lib.byteCells l) w) (hBw : B ≤ w.heap.size) :
    Calls Tryd.prog 27 #[.pointer (some ⟨b, 0, none⟩)] w fun e w' => e = .returned (.string ⟨l.toArray⟩) ∧ (Lib.IsBuilderF 56 5 B b (Lib.byteCells l) w' ∧ Below B w w' ∧ Lib.OthersKept 5 (some b) w w') :=
  Any.Builder_String_any_k Shelf.lays169 Shelf.build_extra B b l w h hBw
namespace Body
/-- rows of cells that are there stay -/
def RowsStay (W W' : World) : Prop := ∀ (k : Nat) (c : Array Value) (t : TypeId) (fz : Nat × Nat), W.heap[k]? = some (Obj.cells c t fz) → W'.heap[k]? = some (Obj.cells c t fz)
theorem rows_below {W W' : World} (h : Below W.heap.size W W') : RowsStay W W' := fun k c t fz hk => (h.block k (Array.getElem?_eq_some_iff.1 hk).1).trans hk
theorem isb_rows {T e : TypeId} {B b : Nat} {bs : List Value} {W W' : World} (h : Lib.IsBuilderF T e B b bs W) (hr : RowsStay W W') : Lib.IsBuilderF T e B b bs W' := by
  have key : ∀ p, Lib.BuilderAtF T e B b p bs W → Lib.BuilderAtF T e B b p bs W' := by
    rintro p ⟨hB, v, hb, ⟨h1, h2⟩, hne⟩
    refine ⟨hB, v, hr _ _ _ _ hb, ⟨h1, ?_⟩, hne⟩
    rcases h2 with h2 | ⟨g, cap, cur, fz, e1, e2, e3, e4⟩
    · exact .inl h2
    · exact .inr ⟨g, cap, cur, fz, e1, e2, hr _ _ _ _ e3, e4⟩
  exact h.elim (fun x => .inl (key _ x)) (fun x => .inr (key _ x))
theorem rows_turn {W W' : World} {row : Option Nat} (hg : W.grownBy W' row) (hr : ∀ r, row = some r → ∃ o : Obj, W.heap[r]? = some o ∧ o.isCells = false) : RowsStay W W' := fun k c t fz hk =>
  (hg.block k (Array.getElem?_eq_some_iff.1 hk).1 (fun e => by
    obtain ⟨o, ho, hc⟩ := hr k e.symm
    rw [hk] at ho
    cases ho
    cases hc)).trans hk
theorem isb_own {β : Type} (n : Nat) (T e : TypeId) (B b : Nat) (f : β → List Value) : OwnFrom n (fun s W => Lib.IsBuilderF T e B b (f s) W) := fun s W W' row hs hg hr => isb_rows hs (rows_turn hg (fun r e => (hr r e).2))
/-- a block that is there stays as it is -/
def KeepB (k : Nat) (W W' : World) : Prop := ∀ o, W.heap[k]? = some o → W'.heap[k]? = some o
theorem keepB_t {k : Nat} {A B C : World} (h : KeepB k A B) (g : KeepB k B C) : KeepB k A C := fun o ho => g o (h o ho)
theorem keepB_b {k : Nat} {w : World} (hk : k < w.heap.size) (W : World) (l : Nat) (o o' : Obj) (hl : w.heap.size ≤ l) (h : W.heap[l]? = some o) (_ : o.isCells = false) (_ : o.isWalk = false) : KeepB k W (W.putObj l o') := fun x hx => (World.putObj_heap_other (by omega)).trans hx
theorem keepB_below {k : Nat} {W W' : World} (h : Below W.heap.size W W') : KeepB k W W' := fun o ho => (h.block k (Array.getElem?_eq_some_iff.1 ho).1).trans ho
theorem keepB_others {k b : Nat} {e : TypeId} {W W' : World} (h : Lib.OthersKept e (some b) W W') (hk : k ≠ b) {c : Array Value} {t : TypeId} {fz : Nat × Nat} (hc : W.heap[k]? = some (.cells c t fz)) (ht : t ≠ e) : KeepB k W W' := fun o ho => by
  rw [hc] at ho
  cases ho
  exact h k _ hc (fun e => hk (by cases e; rfl)) (fun c' fz' e => by cases e; exact ht rfl)
theorem from_others {b n : Nat} {e : TypeId} {W W' : World} (h : Lib.OthersKept e (some b) W W') (hs : W.heap.size ≤ W'.heap.size) (hn : b < n) : KeepsFrom n W W' :=
  ⟨hs, fun k o hk ho hc => h k o ho (fun e => by cases e; omega) (fun c fz e => by subst e; cases hc)⟩
theorem from_below {n : Nat} {W W' : World} (h : Below W.heap.size W W') : KeepsFrom n W W' := ⟨h.size, fun k o _ ho _ => (h.block k (Array.getElem?_eq_some_iff.1 ho).1).trans ho⟩
end Body
end Go.Proofs.YtkenmilglfnmbaaDoor
