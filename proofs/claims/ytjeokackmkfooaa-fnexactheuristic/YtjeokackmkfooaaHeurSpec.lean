/-
  Heuristic of the specification: one of some numbers.
-/
import Derived.Test.YtjeokackmkfooaaHeurNum
import Derived.Test.YtjeokackmkfooaaRecs
import Derived.Test.YtjeokackmkfooaaNum
import Derived.Test.YtjeokackmkfooaaRows
import Derived.WalkKit
namespace Go.Proofs.Ytjeokackmkfooaa
open Go.RowKit
set_option linter.unusedVariables false
namespace Pol

theorem not_more {L : List Int} {x : Int} {i : Nat} (h : x ∉ L.take i) (hi : i < L.length) (hn : ¬ L[i] = x) : x ∉ L.take (i + 1) := by
  rw [List.take_succ_eq_append_getElem hi, List.mem_append, List.mem_singleton]
  rintro (h1 | h1)
  · exact h h1
  · exact hn h1.symm
set_option maxRecDepth 100000 in
set_option maxHeartbeats 1000000 in
theorem isOne_spec (b : Nat) (L : List Int) (hL : L.length ≤ 1048576) (c : Nat) (hcap : L.length ≤ c ∧ c ≤ maxLen) (x : Int) (w : World) (hc : ∀ i (h : i < L.length), w.cell? ⟨b, i, none⟩ = some (.int .i64 L[i])) :
    Calls Try.prog 12 #[.slice (some ⟨b, 0, none⟩) L.length c, .int .i64 x] w fun e w' => e = .returned (.bool (decide (x ∈ L))) ∧ w = w' := by
  have HC := Num.hide hc
  clear hc
  obtain ⟨hc1, hc2⟩ := hcap
  obtain ⟨r, hr⟩ : ∃ r, decide (x ∈ L) = r := ⟨_, rfl⟩
  rw [hr]
  have HR := Num.hide hr
  clear hr
  go_enter Try.func12, Try.ntmps12
  go_wp2
  go_loop [5] (fun kv => ∃ i : Nat, i ≤ L.length ∧ kv = .int .i64 (i : Int) ∧ Hid (x ∉ L.take i)) (fun kv => L.length - (intOf kv).toNat)
  case atStart => exact ⟨0, by omega, rfl, by show x ∉ L.take 0; simp⟩
  case round =>
    obtain ⟨i, hi, rfl, HN⟩ := hrel
    by_cases hlt : i < L.length
    · have c1 := HC.out i hlt
      have HM := Num.hide (fun h => not_more HN.out hlt h)
      by_cases he : L[i] = x
      · have e1 : (L[i] == x) = true := beq_iff_eq.2 he
        obtain rfl : r = true := by rw [← HR.out, decide_eq_true]; rw [← he]; exact List.getElem_mem hlt
        clear HR HC HM he HN
        generalize L[i] = y at c1 e1
        go_wp2
        go_ret
        exact ⟨rfl, rfl⟩
      · have e1 : (L[i] == x) = false := beq_eq_false_iff_ne.2 he
        have HN2 := Num.hide (HM.out he)
        clear HM he HN HC HR
        generalize L[i] = y at c1 e1
        go_wp2
        go_round
        case rel => exact ⟨i + 1, by omega, by go_num, HN2⟩
        case measure => simp [intOf]; omega
    · obtain rfl : i = L.length := by omega
      obtain rfl : r = false := by rw [← HR.out, decide_eq_false]; have := HN.out; rwa [List.take_length] at this
      clear HN HR HC
      go_wp2
      go_ret
      exact ⟨rfl, rfl⟩
set_option maxRecDepth 100000 in
set_option maxHeartbeats 1000000 in
theorem heuristic_spec (st : Int) (w : World) : Calls Try.prog 8 #[.int .i64 st] w fun e w' => e = .returned (.bool (heuristic st)) ∧ Below w.heap.size w w' := by
  unfold heuristic
  have hx : ∀ T, (w.alloc (.cells #[.int .i64 200, .int .i64 203, .int .i64 204, .int .i64 300, .int .i64 301, .int .i64 404, .int .i64 410] T)).heap[w.heap.size]? = some (.cells #[.int .i64 200, .int .i64 203, .int .i64 204, .int .i64 300, .int .i64 301, .int .i64 404, .int .i64 410] T) := fun T => heap_alloc_new w _
  have HO := Num.hide (isOne_spec w.heap.size heurList (by decide) 7 ⟨by decide, by decide⟩ st (w.alloc (.cells #[.int .i64 200, .int .i64 203, .int .i64 204, .int .i64 300, .int .i64 301, .int .i64 404, .int .i64 410] 3)) (fun i h => by
    rw [cell_of_row _ _ _ _ _ _ (hx 3)]
    have key : ∀ i, i < 7 → (#[Value.int .i64 200, .int .i64 203, .int .i64 204, .int .i64 300, .int .i64 301, .int .i64 404, .int .i64 410] : Array Value)[i]? = some (.int .i64 (heurList.getD i 0)) := by
      intro i hi
      rcases (by omega : i = 0 ∨ i = 1 ∨ i = 2 ∨ i = 3 ∨ i = 4 ∨ i = 5 ∨ i = 6) with rfl | rfl | rfl | rfl | rfl | rfl | rfl <;> rfl
    rw [key i h, List.getD_eq_getElem?_getD, List.getElem?_eq_getElem h]; rfl))
  have HB := Num.hide ((Below.refl w.heap.size w).alloc (Nat.le_refl _) (.cells #[.int .i64 200, .int .i64 203, .int .i64 204, .int .i64 300, .int .i64 301, .int .i64 404, .int .i64 410] 3))
  change Hid (Calls _ _ #[.slice (some ⟨w.heap.size, 0, none⟩) 7 7, .int .i64 st] _ _) at HO
  generalize decide (st ∈ heurList) = r at HO ⊢
  clear hx
  go_enter Try.func8, Try.ntmps8
  go_wp2_with fail
  refine HO.out.mono ?_
  rintro e w1 ⟨rfl, rfl⟩
  go_wp2
  go_ret
  exact ⟨rfl, HB.out⟩
end Pol
end Go.Proofs.Ytjeokackmkfooaa
