/-
  Lists of records in memory: a slice whose elements take so many cells each, as it is read (Is), and one whose row the call itself made (Own). 'enc': the cells of an element.
-/
import Derived.Test.YtbcjpjhpobmpbaaGreatDoorNum
import Derived.WalkKit
import Derived.WalkLawsBesides
import Derived.WalkSmall
import Derived.Below
namespace Go.Proofs.YtbcjpjhpobmpbaaGreatDoor
open Go.RowKit
set_option linter.unusedVariables false
namespace Recs

theorem grown_trans {a b c : World} {r : Option Nat} (h : a.grownBy b r) (k : b.grownBy c r) : a.grownBy c r :=
  ⟨k.os.trans h.os, k.tape.trans h.tape, k.output.trans h.output, Nat.le_trans h.size k.size, fun j hj hr => (k.block j (Nat.lt_of_lt_of_le hj h.size) hr).trans (h.block j hj hr)⟩
theorem grown_refl (a : World) (r : Option Nat) : a.grownBy a r := ⟨rfl, rfl, rfl, Nat.le_refl _, fun _ _ _ => rfl⟩
theorem grown_of_below {a b : World} (h : Below a.heap.size a b) (r : Option Nat) : a.grownBy b r :=
  ⟨h.os, h.tape, h.output, h.size, fun j hj _ => h.block j hj⟩
theorem grown_drew {a b : World} {r : Option Nat} (h : a.grownBy b r) : a.grownBy b.drew r := ⟨h.os, h.tape, h.output, h.size, h.block⟩
theorem grown_drewN {a b : World} {r : Option Nat} (h : a.grownBy b r) (n : Nat) : a.grownBy (b.drewN n) r := ⟨h.os, h.tape, h.output, h.size, h.block⟩
theorem below_drewN {B : Nat} {a b : World} (h : Below B a b) (n : Nat) : Below B a (b.drewN n) := ⟨h.os, h.tape, h.output, h.size, h.block⟩
theorem lt_of_cell {w : World} {b o : Nat} {v : Value} (h : w.cell? ⟨b, o, none⟩ = some v) : b < w.heap.size := by
  by_cases hz : b < w.heap.size
  · exact hz
  · exfalso
    have : w.heap[b]? = none := Array.getElem?_eq_none (by omega)
    simp [World.cell?, this] at h

/-- rows from two stretches of blocks are two -/
theorem apart {x y : Value} {a b c d : Nat} (hy : ∀ k, y.ownBlock = some k → a ≤ k ∧ k < b) (hx : ∀ k, x.ownBlock = some k → c ≤ k ∧ k < d) (h : b ≤ c ∨ d ≤ a) : y.ownBlock = none ∨ y.ownBlock ≠ x.ownBlock := by
  cases e : y.ownBlock with
  | none => exact .inl rfl
  | some k =>
    refine .inr (fun h2 => ?_)
    have h3 := hy k e
    have h4 := hx k h2.symm
    omega
theorem below_step {w a b : World} (h : Below w.heap.size w a) (k : Below a.heap.size a b) : Below w.heap.size w b := h.trans (k.mono h.size)
section
variable {α : Type} {e : TypeId} {sz : Nat} {enc : α → List Value}
theorem flat_length (henc : ∀ a, (enc a).length = sz) (l : List α) : (l.flatMap enc).length = l.length * sz := by
  induction l with
  | nil => simp
  | cons a l ih => rw [List.flatMap_cons, List.length_append, ih, henc, List.length_cons, Nat.add_mul]; omega
theorem flat_at (henc : ∀ a, (enc a).length = sz) : ∀ (l : List α) (i j : Nat) (h : i < l.length), j < sz → (l.flatMap enc)[i * sz + j]? = (enc l[i])[j]? := by
  intro l
  induction l with
  | nil => intro i j h; simp at h
  | cons a l ih =>
    intro i j h hj
    rw [List.flatMap_cons]
    cases i with
    | zero => rw [Nat.zero_mul, Nat.zero_add, List.getElem?_append_left (by rw [henc]; exact hj)]; rfl
    | succ i =>
      rw [List.getElem?_append_right (by rw [henc, Nat.succ_mul]; omega), henc, show (i + 1) * sz + j - sz = i * sz + j by rw [Nat.succ_mul]; omega, ih i j (by simpa using h) hj]; rfl
theorem flat_set (henc : ∀ a, (enc a).length = sz) : ∀ (l : List α) (i j : Nat) (h : i < l.length) (a : α) (u : Value), j < sz → enc a = (enc l[i]).set j u → (l.flatMap enc).set (i * sz + j) u = (l.set i a).flatMap enc := by
  intro l
  induction l with
  | nil => intro i j h; simp at h
  | cons b l ih =>
    intro i j h a u hj he
    rw [List.flatMap_cons]
    cases i with
    | zero => rw [Nat.zero_mul, Nat.zero_add, List.set_append_left _ _ (by rw [henc]; exact hj), List.set_cons_zero, List.flatMap_cons]; rw [he]; rfl
    | succ i =>
      rw [List.set_append_right _ _ (by rw [henc, Nat.succ_mul]; omega), henc, show (i + 1) * sz + j - sz = i * sz + j by rw [Nat.succ_mul]; omega, List.set_cons_succ, List.flatMap_cons, ih i j (by simpa using h) a u hj he]
theorem flat_snoc (l : List α) (a : α) : (l ++ [a]).flatMap enc = l.flatMap enc ++ enc a := by simp

/-- the slice's row is the call's own: from block B on, not marked; it bears these elements -/
def Own (e : TypeId) (sz : Nat) (enc : α → List Value) (B : Nat) (w : World) (v : Value) (l : List α) : Prop := w.ownsRow B e sz v l.length (l.flatMap enc)
/-- a slice as it is read -/
def Is (sz : Nat) (enc : α → List Value) (w : World) (v : Value) (l : List α) : Prop :=
  ∃ a c, v = .slice a l.length c ∧ (0 < l.length → ∃ b o, a = some ⟨b, o, none⟩ ∧ l.length ≤ c ∧ c ≤ maxLen ∧ b < w.heap.size ∧ ∀ i (h : i < l.length) j u, (enc l[i])[j]? = some u → w.cell? ⟨b, o + (i * sz + j), none⟩ = some u)

theorem own_nil (B : Nat) (w : World) : Own e sz enc B w (.slice none 0 0) [] := World.ownsRow_nil w B _ sz
theorem own_len {B : Nat} {w : World} {v : Value} {l : List α} (h : Own e sz enc B w v l) : ∃ a c, v = .slice a l.length c := by
  rcases h.2 with ⟨h1, h2⟩ | ⟨g, cap, cur, h1, _⟩
  · exact ⟨none, 0, by rw [h1, h2]⟩
  · exact ⟨_, _, h1⟩
theorem own_kept {B : Nat} {w w' : World} {v : Value} {l : List α} {r : Option Nat} (h : Own e sz enc B w v l) (hg : w.grownBy w' r) (hne : v.ownBlock = none ∨ v.ownBlock ≠ r) : Own e sz enc B w' v l := World.ownsRow.kept h hg hne
theorem own_lt {B : Nat} {w : World} {v : Value} {l : List α} (h : Own e sz enc B w v l) : ∀ k, v.ownBlock = some k → B ≤ k ∧ k < w.heap.size := World.ownsRow.lt h
/-- a row that lies below block C stays with what lies there -/
theorem own_stay {B C : Nat} {w w' : World} {v : Value} {l : List α} (h : Own e sz enc B w v l) (hC : ∀ k, v.ownBlock = some k → k < C) (hb : Below C w w') : Own e sz enc B w' v l := by
  refine ⟨h.1, ?_⟩
  rcases h.2 with h1 | ⟨g, cap, cur, h1, hB, hg, rest⟩
  · exact .inl h1
  · subst h1
    exact .inr ⟨g, cap, cur, rfl, hB, by rw [hb.block g (hC g rfl)]; exact hg, rest⟩
theorem own_below {B : Nat} {w w' : World} {v : Value} {l : List α} (h : Own e sz enc B w v l) (hb : Below w.heap.size w w') : Own e sz enc B w' v l :=
  own_stay h (fun k hk => (own_lt h k hk).2) hb
theorem own_drew {B : Nat} {w : World} {v : Value} {l : List α} (h : Own e sz enc B w v l) : Own e sz enc B w.drew v l := h
theorem own_drewN {B : Nat} {w : World} {v : Value} {l : List α} (h : Own e sz enc B w v l) (n : Nat) : Own e sz enc B (w.drewN n) v l := h
theorem own_mono {B B' : Nat} {w : World} {v : Value} {l : List α} (h : Own e sz enc B w v l) (hB : B' ≤ B) : Own e sz enc B' w v l := by
  refine ⟨h.1, ?_⟩
  rcases h.2 with h1 | ⟨g, cap, cur, h1, hb, rest⟩
  · exact .inl h1
  · exact .inr ⟨g, cap, cur, h1, Nat.le_trans hB hb, rest⟩
/-- what a writing of one's own row leaves of what lay below it -/
theorem below_mark {B C : Nat} {w w' : World} {v : Value} {l : List α} (h : Own e sz enc B w v l) (hCB : C ≤ B) (hC : C ≤ w.heap.size) (hg : w.grownBy w' v.ownBlock) : Below C w w' :=
  (Below.refl C w).grown hg hC (fun j hj => Nat.le_trans hCB (own_lt h j hj).1)
theorem own_snoc {B : Nat} {w : World} {v : Value} {l : List α} {a : α} (h : w.ownsRow B e sz v (l.length + 1) (l.flatMap enc ++ enc a)) : Own e sz enc B w v (l ++ [a]) := by
  unfold Own
  rw [List.length_append, flat_snoc]
  exact h
/-- the row's block, its cells, and what a store into it leaves -/
theorem own_row (henc : ∀ a, (enc a).length = sz) {B : Nat} {w : World} {v : Value} {l : List α} (h : Own e sz enc B w v l) (hl : 0 < l.length) : ∃ g c, v = .slice (some ⟨g, 0, none⟩) l.length c ∧ l.length ≤ c ∧ c ≤ maxLen ∧ B ≤ g ∧ g < w.heap.size ∧
    (∀ i (hi : i < l.length) j u, j < sz → (enc l[i])[j]? = some u → w.cell? ⟨g, i * sz + j, none⟩ = some u) ∧ (∀ o, w.frozen? ⟨g, o, none⟩ = false) ∧
    ∀ i (hi : i < l.length) j u a, j < sz → enc a = (enc l[i]).set j u → Own e sz enc B (w.setCell ⟨g, i * sz + j, none⟩ u) v (l.set i a) ∧ w.grownBy (w.setCell ⟨g, i * sz + j, none⟩ u) v.ownBlock := by
  have hlt := own_lt h
  rcases h.2 with ⟨h1, h2⟩ | ⟨g, cap, cur, h1, hB, hg, hc, hm, hs, ht⟩
  · omega
  · subst h1
    have hsmall : ∀ i j, i < l.length → j < sz → i * sz + j < l.length * sz := fun i j hi hj => by
      have : (i + 1) * sz ≤ l.length * sz := Nat.mul_le_mul_right sz hi
      rw [Nat.succ_mul] at this; omega
    refine ⟨g, cap, rfl, hc, hm, hB, (hlt g rfl).2, fun i hi j u hj hu => ?_, fun o => by simp [World.frozen?, hg], fun i hi j u a hj he => ⟨⟨by rw [flat_length henc], .inr ⟨g, cap, cur.setIfInBounds (i * sz + j) u, by rw [List.length_set], hB, ?_, by rw [List.length_set]; exact hc, hm, by rw [Array.size_setIfInBounds]; exact hs, ?_⟩⟩, ⟨rfl, rfl, rfl, by simp, fun k hk hne => ?_⟩⟩⟩
    · rw [cell_of_row w g _ cur _ _ hg]
      have hcs : (cur.toList.take (l.length * sz))[i * sz + j]? = (l.flatMap enc)[i * sz + j]? := by rw [ht]
      rw [List.getElem?_take_of_lt (hsmall i j hi hj), flat_at henc l i j hi hj, hu] at hcs
      simpa using hcs
    · exact heap_setCell_same w g _ cur _ _ hg
    · rw [List.length_set, Array.toList_setIfInBounds, List.take_set, ht, flat_set henc l i j hi a u hj he]
    · exact heap_setCell_other w _ k _ (fun e => hne (by rw [e]; rfl))
theorem own_is (henc : ∀ a, (enc a).length = sz) {B : Nat} {w : World} {v : Value} {l : List α} (h : Own e sz enc B w v l) : Is sz enc w v l := by
  obtain ⟨a, c, rfl⟩ := own_len h
  refine ⟨a, c, rfl, fun hl => ?_⟩
  obtain ⟨g, c', hv, hc, hm, hB, hg, hcell, _⟩ := own_row henc h hl
  simp only [Value.slice.injEq, true_and] at hv
  obtain ⟨rfl, rfl⟩ := hv
  refine ⟨g, 0, rfl, hc, hm, hg, fun i hi j u hu => ?_⟩
  rw [Nat.zero_add]
  exact hcell i hi j u (by rw [← henc l[i]]; exact (List.getElem?_eq_some_iff.1 hu).1) hu
theorem is_stay {C : Nat} {w w' : World} {v : Value} {l : List α} (h : Is sz enc w v l) (hC : w.heap.size ≤ C) (hb : Below C w w') : Is sz enc w' v l := by
  obtain ⟨a, c, rfl, h2⟩ := h
  refine ⟨a, c, rfl, fun hl => ?_⟩
  obtain ⟨b, o, rfl, h3, h4, h5, h6⟩ := h2 hl
  refine ⟨b, o, rfl, h3, h4, Nat.lt_of_lt_of_le h5 hb.size, fun i hi j u hu => ?_⟩
  rw [hb.cell (p := ⟨b, o + (i * sz + j), none⟩) (Nat.lt_of_lt_of_le h5 hC)]
  exact h6 i hi j u hu
theorem is_below {w w' : World} {v : Value} {l : List α} (h : Is sz enc w v l) (hb : Below w.heap.size w w') : Is sz enc w' v l := is_stay h (Nat.le_refl _) hb
theorem is_drewN {w : World} {v : Value} {l : List α} (h : Is sz enc w v l) (n : Nat) : Is sz enc (w.drewN n) v l := h
end
end Recs
end Go.Proofs.YtbcjpjhpobmpbaaGreatDoor
