/-
  The bytes that a law is handed, as the draws read them.
-/
import Derived.Test.YtkogcbnbmdeolaaDoorDrawByte
import Derived.OpenShut
namespace Go.Proofs.YtkogcbnbmdeolaaDoor
open Go.RowKit
set_option linter.unusedVariables false
namespace Draw

theorem CodeAt.mono {B B' : Nat} {w : World} {a : Option Addr} {l : List Int} (h : CodeAt B w a l) (hB : B ≤ B') : CodeAt B' w a l := by
  refine ⟨h.1, ?_⟩
  rcases h.2 with h | ⟨b, off, ha, hb, hc⟩
  · exact .inl h
  · exact .inr ⟨b, off, ha, by omega, hc⟩
theorem lt_of_cell {w : World} {a : Addr} {v : Value} (h : w.cell? a = some v) : a.block < w.heap.size := by
  apply Decidable.byContradiction
  intro hc
  have hn : w.heap[a.block]? = none := Array.getElem?_eq_none (by omega)
  simp [World.cell?, hn] at h
theorem code_of (w : World) (x : Addr) (len : Nat) (zs : List Int) (hl : len ≤ zs.length) (hcell : ∀ i, i < zs.length → w.cell? (x.add i) = some (.int .u8 (zs.getD i 0))) (hwz : ∀ n ∈ zs, (Lit.int .u8 n).wf = true) :
    (zs.take len).length = len ∧ CodeAt w.heap.size w (some x) (zs.take len) := by
  have hlen : (zs.take len).length = len := by rw [List.length_take]; omega
  refine ⟨hlen, ?_, ?_⟩
  · intro i hi
    have hm : (zs.take len)[i] ∈ zs := List.mem_of_mem_take (List.getElem_mem hi)
    have := bounds_u8 (hwz _ hm)
    omega
  · by_cases h0 : len = 0
    · left; subst h0; rfl
    · right
      obtain ⟨b, off, spot⟩ := x
      have hc := hcell 0 (by omega)
      have hspot : spot = none := by simpa [Addr.add] using World.cell?_spot hc
      subst hspot
      have hadd : ∀ i, (⟨b, off, none⟩ : Addr).add i = ⟨b, off + i, none⟩ := fun i => by unfold Addr.add; split <;> simp_all
      refine ⟨b, off, rfl, ?_, ?_⟩
      · have := lt_of_cell hc
        rw [hadd] at this
        exact this
      · intro i hi
        have h2 := hcell i (by omega)
        rw [hadd] at h2
        rw [h2, List.getElem_take, List.getD_eq_getElem?_getD, List.getElem?_eq_getElem (by omega)]
        rfl
set_option maxHeartbeats 400000 in
theorem big_any (a : Option Addr) (n cap : Nat) (w : World) (h : n ≤ 9223372036854775807) : Calls Tryd.prog 9 #[.slice a n cap] w fun e w' => e = .returned (.bool (decide (1048576 < (n : Int)))) ∧ w = w' := by
  go_enter Tryd.func9, Tryd.ntmps9
  go_wp2
  go_ret
  exact ⟨by simp, rfl⟩
end Draw
end Go.Proofs.YtkogcbnbmdeolaaDoor
