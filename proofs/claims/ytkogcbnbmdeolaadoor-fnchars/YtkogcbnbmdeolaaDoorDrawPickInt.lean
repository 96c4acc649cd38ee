/-
  l1PickInt of the draws, of a cursor in whatever state.
-/
import Derived.Test.YtkogcbnbmdeolaaDoorDrawLive
namespace Go.Proofs.YtkogcbnbmdeolaaDoor
open Go.RowKit
set_option linter.unusedVariables false
namespace Draw

/-- numbers within bounds -/
def IntsIn (lo hi : Int) : List Value → Prop
  | [] => True
  | .int .i64 z :: l => (lo ≤ z ∧ z ≤ hi) ∧ IntsIn lo hi l
  | _ :: _ => False
theorem ints_at {lo hi : Int} : ∀ {l : List Value}, IntsIn lo hi l → ∀ i, i < l.length → ∃ z, l[i]? = some (.int .i64 z) ∧ lo ≤ z ∧ z ≤ hi
  | [], _, i, hi => by simp at hi
  | v :: l, h, i, hi => by
    cases v with
    | int k z =>
      cases k with
      | i64 =>
        obtain ⟨h1, h2⟩ := h
        cases i with
        | zero => exact ⟨z, rfl, h1⟩
        | succ i => exact ints_at h2 i (by simpa using hi)
      | _ => cases h
    | _ => cases h
set_option maxRecDepth 100000 in
set_option maxHeartbeats 1000000 in
theorem pickInt_live (B C R : Nat) (lo hi : Int) (cs : Array Value) (n : Nat) (w : World) (h : Live B C w) (hR : R ≠ C) (hrow : w.heap[R]? = some (.cells cs 3)) (hn : cs.size = n) (h0 : 0 < n) (h1 : n ≤ 256) (ht : IntsIn lo hi cs.toList) :
    Calls Tryd.prog 108 #[.pointer (some ⟨C, 0, none⟩), .slice (some ⟨R, 0, none⟩) n n] w fun e w' => ∃ z : Int, e = .returned (.int .i64 z) ∧ lo ≤ z ∧ z ≤ hi ∧ Live B C w' ∧ Only C w w' := by
  have HR := Num.hide hrow
  have HT := Num.hide ht
  have HN := Num.hide hn
  clear hrow ht hn
  go_enter Tryd.func108, Tryd.ntmps108
  go_wp2_with fail
  refine (below_live B C n _ h (by omega) (by omega)).mono ?_
  rintro e w1 ⟨z, rfl, hz0, hz1, hl, ho⟩
  obtain ⟨j, rfl⟩ := Int.eq_ofNat_of_zero_le hz0
  obtain ⟨x, hx, hx0, hx1⟩ := ints_at HT.out j (by have := HN.out; rw [Array.length_toList]; omega)
  have hc : w1.cell? ⟨R, j, none⟩ = some (.int .i64 x) := by
    rw [cell_of_row w1 R j _ _ _ ((ho.block R (Array.getElem?_eq_some_iff.1 (Num.unhide HR)).1 hR).trans (Num.unhide HR))]
    rw [← hx, Array.getElem?_toList]
  have HX0 := Num.hide hx0
  have HX1 := Num.hide hx1
  clear hx hx0 hx1
  have HL := Num.hide hl
  have HO := Num.hide ho
  clear hl ho
  go_wp2
  go_ret
  exact ⟨x, rfl, HX0.out, HX1.out, HL.out, HO.out⟩
end Draw
end Go.Proofs.YtkogcbnbmdeolaaDoor
