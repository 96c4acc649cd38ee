/-
  The specification's draws of numbers and texts: what each call returns is settled by the bytes of the draw alone.
-/
import Derived.Test.YtfmfidlhbephmaaDoorDrawByte
import Derived.Test.YtfmfidlhbephmaaDoorLayRow
namespace Go.Proofs.YtfmfidlhbephmaaDoor
open Go.RowKit
set_option linter.unusedVariables false
namespace Draw

/-- the numbers that a draw picks from -/
def edges : List Int := [-1, 0, 127, 128, 255, 256, 16383, 16384, 65535, 65536, 562949953421311, 562949953421312, 999999999, 1000000000, -999999999, 9223372036854775807, -9223372036854775808]
set_option maxRecDepth 100000 in
set_option maxHeartbeats 1000000 in
theorem pick_at (B C R cap : Nat) (a : Option Addr) (l xs : List Int) (w : World) (s : Nat × Int) (h : At B C cap a l w s) (hR : R ≠ C) (hrow : w.heap[R]? = some (.cells (xs.map (Value.int .i64)).toArray 3 (0, 0))) (h0 : 0 < xs.length) (h1 : xs.length ≤ 256) :
    Calls Tryd.prog 31 #[.pointer (some ⟨C, 0, none⟩), .slice (some ⟨R, 0, none⟩) xs.length xs.length] w fun e w' =>
      e = .returned (.int .i64 (xs.getD (blv l xs.length s).toNat 0)) ∧ At B C cap a l w' (bls l xs.length s) ∧ Only C w w' := by
  have hb := blv_bd l xs.length s (by omega)
  have HR := Num.hide hrow
  clear hrow
  go_enter Tryd.func31, Tryd.ntmps31
  go_wp2_with fail
  refine (below_at B C cap a l xs.length _ s h (by omega)).mono ?_
  rintro e w1 ⟨rfl, h1, ho⟩
  have hrow1 : w1.heap[R]? = some (.cells (xs.map (Value.int .i64)).toArray 3 (0, 0)) := by
    rw [ho.block R (Array.getElem?_eq_some_iff.1 (Num.unhide HR)).1 hR]; exact Num.unhide HR
  generalize hj : blv l xs.length s = j at *
  have HJ := Num.hide hj
  obtain ⟨j, rfl⟩ := Int.eq_ofNat_of_zero_le hb.1
  have hc : w1.cell? ⟨R, j, none⟩ = some (.int .i64 (xs.getD j 0)) := by
    rw [cell_of_row w1 R j _ _ _ hrow1]
    simp only [List.getElem?_toArray, List.getElem?_map]
    rw [List.getElem?_eq_getElem (by omega), List.getD_eq_getElem?_getD, List.getElem?_eq_getElem (by omega)]
    rfl
  clear hrow1 hj
  go_wp2
  go_ret
  exact ⟨by rw [Num.unhide HJ]; simp, h1, ho⟩
/-- a number, and the state behind it -/
def nv (l : List Int) (s : Nat × Int) : Int :=
  if blv l 8 s = 0 then edges.getD (blv l 17 (bls l 8 s)).toNat 0
  else if blv l 8 s = 1 then blv l 1000000000 (bls l 8 s) * blv l 1000000000 (bls l 1000000000 (bls l 8 s))
  else if blv l 8 s = 2 then -blv l 100000 (bls l 8 s) else blv l 70000 (bls l 8 s)
def nvs (l : List Int) (s : Nat × Int) : Nat × Int :=
  if blv l 8 s = 0 then bls l 17 (bls l 8 s)
  else if blv l 8 s = 1 then bls l 1000000000 (bls l 1000000000 (bls l 8 s))
  else if blv l 8 s = 2 then bls l 100000 (bls l 8 s) else bls l 70000 (bls l 8 s)
theorem edges_bd (j : Nat) : -9223372036854775808 ≤ edges.getD j 0 ∧ edges.getD j 0 ≤ 9223372036854775807 := by
  by_cases h : j < edges.length
  · have hm : edges.getD j 0 ∈ edges := by
      rw [List.getD_eq_getElem?_getD, List.getElem?_eq_getElem h]; exact List.getElem_mem h
    have hall : ∀ x ∈ edges, -9223372036854775808 ≤ x ∧ x ≤ 9223372036854775807 := by decide
    exact hall _ hm
  · rw [List.getD_eq_getElem?_getD, List.getElem?_eq_none (by omega)]; decide
theorem mul_bd (x y : Int) (h0 : 0 ≤ x) (h1 : x < 1000000000) (h2 : 0 ≤ y) (h3 : y < 1000000000) : 0 ≤ x * y ∧ x * y ≤ 1000000000000000000 := by
  refine ⟨Int.mul_nonneg h0 h2, ?_⟩
  have := Int.mul_le_mul (show x ≤ 1000000000 by omega) (show y ≤ 1000000000 by omega) h2 (show (0 : Int) ≤ 1000000000 by omega)
  omega
theorem nv_bd (l : List Int) (s : Nat × Int) : -9223372036854775808 ≤ nv l s ∧ nv l s ≤ 9223372036854775807 := by
  unfold nv
  split
  · exact edges_bd _
  · split
    · have h1 := blv_bd l 1000000000 (bls l 8 s) (by decide)
      have h2 := blv_bd l 1000000000 (bls l 1000000000 (bls l 8 s)) (by decide)
      have := mul_bd _ _ h1.1 h1.2 h2.1 h2.2
      omega
    · split
      · have h1 := blv_bd l 100000 (bls l 8 s) (by decide); omega
      · have h1 := blv_bd l 70000 (bls l 8 s) (by decide); omega
set_option maxRecDepth 100000 in
set_option maxHeartbeats 1000000 in
theorem num_at (B C cap : Nat) (a : Option Addr) (l : List Int) (w : World) (s : Nat × Int) (h : At B C cap a l w s) :
    Calls Tryd.prog 21 #[.pointer (some ⟨C, 0, none⟩)] w fun e w' => e = .returned (.int .i64 (nv l s)) ∧ At B C cap a l w' (nvs l s) ∧ Only C w w' := by
  have hlt := h.lt
  by_cases t0 : blv l 8 s = 0
  · have e1 : nv l s = edges.getD (blv l 17 (bls l 8 s)).toNat 0 := if_pos t0
    have e2 : nvs l s = bls l 17 (bls l 8 s) := if_pos t0
    rw [e1, e2]
    clear e1 e2
    have HT := Num.hide t0
    clear t0
    go_enter Tryd.func21, Tryd.ntmps21
    go_wp2_with fail
    refine (below_at B C cap a l 8 _ s h (by omega)).mono ?_
    rintro e w1 ⟨rfl, h1, o1⟩
    rw [Num.unhide HT]
    go_wp2_with fail
    refine (pick_at B C w1.heap.size cap a l edges _ _ (h1.alloc _) (by have := h1.lt; omega) (heap_alloc_new w1 _) (by decide) (by decide)).mono ?_
    rintro e w2 ⟨rfl, h2, o2⟩
    go_wp2
    go_ret
    exact ⟨rfl, h2, (o1.alloc _).trans o2⟩
  · by_cases t1 : blv l 8 s = 1
    · have e1 : nv l s = blv l 1000000000 (bls l 8 s) * blv l 1000000000 (bls l 1000000000 (bls l 8 s)) := by unfold nv; rw [if_neg t0, if_pos t1]
      have e2 : nvs l s = bls l 1000000000 (bls l 1000000000 (bls l 8 s)) := by unfold nvs; rw [if_neg t0, if_pos t1]
      rw [e1, e2]
      have b1 := blv_bd l 1000000000 (bls l 8 s) (by decide)
      have b2 := blv_bd l 1000000000 (bls l 1000000000 (bls l 8 s)) (by decide)
      have b3 := mul_bd _ _ b1.1 b1.2 b2.1 b2.2
      clear e1 e2
      have HT := Num.hide t1
      clear t0 t1
      go_enter Tryd.func21, Tryd.ntmps21
      go_wp2_with fail
      refine (below_at B C cap a l 8 _ s h (by omega)).mono ?_
      rintro e w1 ⟨rfl, h1, o1⟩
      rw [Num.unhide HT]
      go_wp2_with fail
      refine (below_at B C cap a l 1000000000 _ _ h1 (by omega)).mono ?_
      rintro e w2 ⟨rfl, h2, o2⟩
      go_wp2_with fail
      refine (below_at B C cap a l 1000000000 _ _ h2 (by omega)).mono ?_
      rintro e w3 ⟨rfl, h3, o3⟩
      go_wp2
      go_ret
      exact ⟨rfl, h3, (o1.trans o2).trans o3⟩
    · by_cases t2 : blv l 8 s = 2
      · have e1 : nv l s = -blv l 100000 (bls l 8 s) := by unfold nv; rw [if_neg t0, if_neg t1, if_pos t2]
        have e2 : nvs l s = bls l 100000 (bls l 8 s) := by unfold nvs; rw [if_neg t0, if_neg t1, if_pos t2]
        rw [e1, e2]
        have b1 := blv_bd l 100000 (bls l 8 s) (by decide)
        clear e1 e2
        have HT := Num.hide t2
        clear t0 t1 t2
        go_enter Tryd.func21, Tryd.ntmps21
        go_wp2_with fail
        refine (below_at B C cap a l 8 _ s h (by omega)).mono ?_
        rintro e w1 ⟨rfl, h1, o1⟩
        rw [Num.unhide HT]
        go_wp2_with fail
        refine (below_at B C cap a l 100000 _ _ h1 (by omega)).mono ?_
        rintro e w2 ⟨rfl, h2, o2⟩
        go_wp2
        go_ret
        exact ⟨rfl, h2, o1.trans o2⟩
      · have e1 : nv l s = blv l 70000 (bls l 8 s) := by unfold nv; rw [if_neg t0, if_neg t1, if_neg t2]
        have e2 : nvs l s = bls l 70000 (bls l 8 s) := by unfold nvs; rw [if_neg t0, if_neg t1, if_neg t2]
        rw [e1, e2]
        clear e1 e2
        have c0 : (blv l 8 s == 0) = false := beq_eq_false_iff_ne.2 t0
        have c1 : (blv l 8 s == 1) = false := beq_eq_false_iff_ne.2 t1
        have c2 : (blv l 8 s == 2) = false := beq_eq_false_iff_ne.2 t2
        clear t0 t1 t2
        go_enter Tryd.func21, Tryd.ntmps21
        go_wp2_with fail
        refine (below_at B C cap a l 8 _ s h (by omega)).mono ?_
        rintro e w1 ⟨rfl, h1, o1⟩
        go_wp2_with fail
        refine (below_at B C cap a l 70000 _ _ h1 (by omega)).mono ?_
        rintro e w2 ⟨rfl, h2, o2⟩
        go_wp2
        go_ret
        exact ⟨rfl, h2, o1.trans o2⟩
end Draw
end Go.Proofs.YtfmfidlhbephmaaDoor
