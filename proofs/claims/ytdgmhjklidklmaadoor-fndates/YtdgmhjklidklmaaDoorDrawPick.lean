/-
  l1Pick of the draws, of a cursor in whatever state.
-/
import Derived.Test.YtdgmhjklidklmaaDoorDrawLive
namespace Go.Proofs.YtdgmhjklidklmaaDoor
open Go.RowKit
set_option linter.unusedVariables false
namespace Draw

/-- are they texts of at most 64 bytes? -/
def textsB (cs : Array Value) : Bool := cs.toList.all fun v => match v with | .string x => decide (x.size ≤ 64) | _ => false
theorem texts_at {cs : Array Value} (h : textsB cs = true) (i : Nat) (hi : i < cs.size) : ∃ x, cs[i]? = some (.string x) ∧ x.size ≤ 64 := by
  unfold textsB at h
  rw [List.all_eq_true] at h
  have h2 := h (cs[i]) (by simp)
  rw [Array.getElem?_eq_getElem hi]
  generalize cs[i] = v at h2
  cases v with
  | string x => exact ⟨x, rfl, of_decide_eq_true h2⟩
  | _ => cases h2
set_option maxRecDepth 100000 in
set_option maxHeartbeats 1000000 in
theorem pick_live (B C R : Nat) (cs : Array Value) (n : Nat) (w : World) (h : Live B C w) (hR : R ≠ C) (hrow : w.heap[R]? = some (.cells cs 9)) (hn : cs.size = n) (h0 : 0 < n) (h1 : n ≤ 256) (ht : textsB cs = true) :
    Calls Tryd.prog 29 #[.pointer (some ⟨C, 0, none⟩), .slice (some ⟨R, 0, none⟩) n n] w fun e w' => ∃ x, e = .returned (.string x) ∧ x.size ≤ 64 ∧ Live B C w' ∧ Only C w w' := by
  have HR := Num.hide hrow
  have HT := Num.hide ht
  have HN := Num.hide hn
  clear hrow ht hn
  go_enter Tryd.func29, Tryd.ntmps29
  go_wp2_with fail
  refine (below_live B C n _ h (by omega) (by omega)).mono ?_
  rintro e w1 ⟨z, rfl, hz0, hz1, hl, ho⟩
  obtain ⟨j, rfl⟩ := Int.eq_ofNat_of_zero_le hz0
  obtain ⟨x, hx, hxs⟩ := texts_at (Num.unhide HT) j (by have := HN.out; omega)
  have hc : w1.cell? ⟨R, j, none⟩ = some (.string x) := by
    rw [cell_of_row w1 R j _ _ _ ((ho.block R (Array.getElem?_eq_some_iff.1 (Num.unhide HR)).1 hR).trans (Num.unhide HR))]
    exact hx
  clear hx
  have HL := Num.hide hl
  have HO := Num.hide ho
  clear hl ho
  go_wp2
  go_ret
  exact ⟨x, rfl, hxs, HL.out, HO.out⟩
end Draw
end Go.Proofs.YtdgmhjklidklmaaDoor
