/-
  l1Pick of the draws, of a cursor in whatever state.
-/
import Derived.Test.YtkogcbnbmdeolaaDoorDrawLive
namespace Go.Proofs.YtkogcbnbmdeolaaDoor
open Go.RowKit
set_option linter.unusedVariables false
namespace Draw

/-- are they texts of at most 64 bytes? -/
def textsB (cs : Array Value) : Bool := cs.toList.all fun v => match v with | .string x => decide (x.size ≤ 64) | _ => false
theorem texts_at {cs : Array Value} (h : textsB cs = true) (i : Nat) (hi : i < cs.size) : ∃ x, cs[i]? = some (.string x) ∧ x.size ≤ 64 := by
  unfold textsB at h
  rw [List.all_eq_true] at h
  have h2 := h (cs[i]) (by simp)
  rw [Array.getElem?_eq_getElem hi]
  generalize cs[i] = v at h2
  cases v with
  | string x => exact ⟨x, rfl, of_decide_eq_true h2⟩
  | _ => cases h2
/-- are they such, too? -/
def textsQ (q : ByteArray → Bool) (cs : Array Value) : Bool := cs.toList.all fun v => match v with | .string x => decide (x.size ≤ 64) && q x | _ => false
theorem textsQ_at {q : ByteArray → Bool} {cs : Array Value} (h : textsQ q cs = true) (i : Nat) (hi : i < cs.size) : ∃ x, cs[i]? = some (.string x) ∧ x.size ≤ 64 ∧ q x = true := by
  unfold textsQ at h
  rw [List.all_eq_true] at h
  have h2 := h (cs[i]) (by simp)
  rw [Array.getElem?_eq_getElem hi]
  generalize cs[i] = v at h2
  cases v with
  | string x =>
    simp only [Bool.and_eq_true] at h2
    exact ⟨x, rfl, of_decide_eq_true h2.1, h2.2⟩
  | _ => cases h2
theorem textsQ_true {cs : Array Value} (h : textsB cs = true) : textsQ (fun _ => true) cs = true := by
  unfold textsB at h
  unfold textsQ
  rw [List.all_eq_true] at h ⊢
  intro v hv
  have h2 := h v hv
  cases v with
  | string x => simpa using h2
  | _ => cases h2
set_option maxRecDepth 100000 in
set_option maxHeartbeats 1000000 in
theorem pick_p (P : ByteArray → Prop) (B C R : Nat) (cs : Array Value) (n : Nat) (w : World) (h : Live B C w) (hR : R ≠ C) (hrow : w.heap[R]? = some (.cells cs 9)) (hn : cs.size = n) (h0 : 0 < n) (h1 : n ≤ 256) (ht : ∀ i, i < cs.size → ∃ x, cs[i]? = some (.string x) ∧ P x) :
    Calls Tryd.prog 45 #[.pointer (some ⟨C, 0, none⟩), .slice (some ⟨R, 0, none⟩) n n] w fun e w' => ∃ x, e = .returned (.string x) ∧ P x ∧ Live B C w' ∧ Only C w w' := by
  have HR := Num.hide hrow
  have HT := Num.hide ht
  have HN := Num.hide hn
  clear hrow ht hn
  go_enter Tryd.func45, Tryd.ntmps45
  go_wp2_with fail
  refine (below_live B C n _ h (by omega) (by omega)).mono ?_
  rintro e w1 ⟨z, rfl, hz0, hz1, hl, ho⟩
  obtain ⟨j, rfl⟩ := Int.eq_ofNat_of_zero_le hz0
  obtain ⟨x, hx, hq⟩ := Num.unhide HT j (by have := HN.out; omega)
  have hc : w1.cell? ⟨R, j, none⟩ = some (.string x) := by
    rw [cell_of_row w1 R j _ _ _ ((ho.block R (Array.getElem?_eq_some_iff.1 (Num.unhide HR)).1 hR).trans (Num.unhide HR))]
    exact hx
  have HQ := Num.hide hq
  clear hx hq
  have HL := Num.hide hl
  have HO := Num.hide ho
  clear hl ho
  go_wp2
  go_ret
  exact ⟨x, rfl, HQ.out, HL.out, HO.out⟩
theorem pick_q (q : ByteArray → Bool) (B C R : Nat) (cs : Array Value) (n : Nat) (w : World) (h : Live B C w) (hR : R ≠ C) (hrow : w.heap[R]? = some (.cells cs 9)) (hn : cs.size = n) (h0 : 0 < n) (h1 : n ≤ 256) (ht : textsQ q cs = true) :
    Calls Tryd.prog 45 #[.pointer (some ⟨C, 0, none⟩), .slice (some ⟨R, 0, none⟩) n n] w fun e w' => ∃ x, e = .returned (.string x) ∧ x.size ≤ 64 ∧ q x = true ∧ Live B C w' ∧ Only C w w' :=
  (pick_p (fun x => x.size ≤ 64 ∧ q x = true) B C R cs n w h hR hrow hn h0 h1 (fun i hi => textsQ_at ht i hi)).mono fun e w' ⟨x, h1, ⟨h2, h3⟩, h4⟩ => ⟨x, h1, h2, h3, h4⟩
theorem pick_live (B C R : Nat) (cs : Array Value) (n : Nat) (w : World) (h : Live B C w) (hR : R ≠ C) (hrow : w.heap[R]? = some (.cells cs 9)) (hn : cs.size = n) (h0 : 0 < n) (h1 : n ≤ 256) (ht : textsB cs = true) :
    Calls Tryd.prog 45 #[.pointer (some ⟨C, 0, none⟩), .slice (some ⟨R, 0, none⟩) n n] w fun e w' => ∃ x, e = .returned (.string x) ∧ x.size ≤ 64 ∧ Live B C w' ∧ Only C w w' :=
  (pick_q (fun _ => true) B C R cs n w h hR hrow hn h0 h1 (textsQ_true ht)).mono fun e w' ⟨x, h1, h2, _, h3, h4⟩ => ⟨x, h1, h2, h3, h4⟩
end Draw
end Go.Proofs.YtkogcbnbmdeolaaDoor
