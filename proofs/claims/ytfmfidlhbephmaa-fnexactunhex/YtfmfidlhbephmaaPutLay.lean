/-
  put, one byte and two bytes, into a row of which the beginning is laid down.
-/
import Derived.Test.YtfmfidlhbephmaaPutCall
import Derived.Test.YtfmfidlhbephmaaLayRow
namespace Go.Proofs.Ytfmfidlhbephmaa
open Go.RowKit
set_option linter.unusedVariables false
namespace Put

theorem lay_one (N : Nat) (out : List UInt8) (x : Int) (h0 : 0 ≤ x) (h1 : x < 256) (h : out.length + 1 ≤ N) :
    splice (Put.lay N out) out.length [Value.int .u8 x] = Put.lay N (out ++ [Num.byte x]) := by
  rw [← Put.lay_put N out [Num.byte x] (by simpa using h)]
  have e : ((Num.byte x).toNat : Int) = x := by rw [Num.byte_val]; omega
  simp [Put.cell, e]
theorem put_one (N : Nat) (out : List UInt8) (x : Int) (w wr : World) (g : Nat) (hg : w.heap.size ≤ g) (hx0 : 0 ≤ x) (hx1 : x < 256) (h : out.length + 1 ≤ N) (hN : N ≤ maxLen)
    (hrow : wr.heap[g]? = some (.cells (Put.lay N out).toArray 5 (0, 0))) (hbel : Below w.heap.size w wr) :
    Calls Try.prog 22 #[.slice (some ⟨g, 0, none⟩) N N, .int .i64 (out.length : Int), .slice (some ⟨wr.heap.size, 0, none⟩) 1 1] (wr.alloc (.cells #[.int .u8 x] 5)) fun e w' =>
      e = .returned (.int .i64 (out.length + 1 : Nat)) ∧ Hid (w'.heap[g]? = some (.cells (Put.lay N (out ++ [Num.byte x])).toArray 5 (0, 0))) ∧ Below w.heap.size w w' := by
  have hgs := Mem.lt_of_row hrow
  refine (Put.put_any g N out.length 1 (Put.lay N out) [.int .u8 x] ⟨wr.heap.size, 0, none⟩ 1 w.heap.size w _ ?a1 ?a2 rfl (by omega) h hN (Put.cells_one wr _ 5) ?a3 (hbel.alloc (by omega) _) hg).mono ?_
  case a1 => rw [Below.heap_alloc _ _ _ hgs]; exact hrow
  case a2 => exact Put.length_lay N out (by omega)
  case a3 => intro v hv; simp at hv; subst hv; rfl
  rintro e w2 ⟨rfl, hr2, hb2⟩
  rw [lay_one N out x hx0 hx1 h] at hr2
  exact ⟨rfl, hr2, hb2⟩
theorem put_two (N : Nat) (out : List UInt8) (x y : UInt8) (k : Int) (w wr : World) (g : Nat) (hg : w.heap.size ≤ g) (hk : k = (out.length : Int)) (h : out.length + 2 ≤ N) (hN : N ≤ maxLen)
    (hrow : wr.heap[g]? = some (.cells (Put.lay N out).toArray 5 (0, 0))) (hbel : Below w.heap.size w wr) :
    Calls Try.prog 22 #[.slice (some ⟨g, 0, none⟩) N N, .int .i64 k, .slice (some ⟨wr.heap.size, 0, none⟩) 2 2] (wr.alloc (.cells #[.int .u8 (x.toNat : Int), .int .u8 (y.toNat : Int)] 5)).drew fun e w' =>
      e = .returned (.int .i64 (k + 2)) ∧ Hid (w'.heap[g]? = some (.cells (Put.lay N (out ++ [x, y])).toArray 5 (0, 0))) ∧ Below w.heap.size w w' := by
  subst hk
  have hgs := Mem.lt_of_row hrow
  refine (Put.put_any g N out.length 2 (Put.lay N out) ([x, y].map Put.cell) ⟨wr.heap.size, 0, none⟩ 2 w.heap.size w _ ?a1 ?a2 rfl (by omega) h hN ?a4 ?a3 (hbel.alloc (by omega) _).drew hg).mono ?_
  case a1 => exact (Below.heap_alloc wr _ _ hgs).trans hrow
  case a2 => exact Put.length_lay N out (by omega)
  case a4 => exact Put.cells_two wr _ _ 5
  case a3 =>
    intro v hv
    simp only [List.map_cons, List.map_nil, List.mem_cons, List.not_mem_nil, or_false] at hv
    rcases hv with rfl | rfl <;> rfl
  rintro e w2 ⟨rfl, hr2, hb2⟩
  rw [Put.lay_put N out [x, y] (by simpa using h)] at hr2
  exact ⟨by simp, hr2, hb2⟩
end Put
end Go.Proofs.Ytfmfidlhbephmaa
