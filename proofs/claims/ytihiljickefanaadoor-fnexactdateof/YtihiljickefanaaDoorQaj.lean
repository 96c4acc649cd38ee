/-
  Mem: New rows of bytes and the texts that are made of them.
  TwoSpec: l4Two of the specification: two digits; what was there stays.
-/
import Derived.Test.YtihiljickefanaaDoorRows
import Derived.Test.YtihiljickefanaaDoorNum
import Derived.WalkKit
import Derived.WalkLawsBesides
import Derived.Laws.CopyOwn
import Derived.Laws.IdiomStrings
import Derived.Test.YtihiljickefanaaDoorQaf
import Derived.Below
namespace Go.Proofs.YtihiljickefanaaDoor
open Go.RowKit
set_option linter.unusedVariables false
namespace Mem


theorem info5 : (Tryd.prog.info? 5).map (fun i => (i.zero, i.size, i.bytes)) = some (some (.int .u8 0), 1, 1) := by kernel_rfl
theorem made_zero (n : Nat) : (madeCells (Value.int .u8 0).cells (n * 1)).toList = List.replicate n (Value.int .u8 0) := by
  apply List.ext_getElem
  · simp [size_madeCells]
  · intro i h1 h2
    have e : i % 1 = 0 := by omega
    simp [madeCells, Value.cells, e]
theorem made_row {w w1 : World} {n : Nat} (h : w1.ownsRow w.heap.size 5 1 (.slice (some ⟨w.heap.size, 0, none⟩) n n) n (madeCells (Value.int .u8 0).cells (n * 1)).toList) :
    w1.heap[w.heap.size]? = some (.cells (List.replicate n (Value.int .u8 0)).toArray 5 (0, 0)) := by
  rcases h.2 with ⟨h', _⟩ | ⟨g', cap', cur, h', _, hg, _, _, hcs, htake⟩
  · simp at h'
  · simp only [Value.slice.injEq, Option.some.injEq, Addr.mk.injEq, and_true, true_and] at h'
    obtain ⟨rfl, rfl⟩ := h'
    rw [hg, ← made_zero n, ← htake, List.take_of_length_le (by rw [Array.length_toList, hcs]; exact Nat.le_refl _)]
theorem lt_of_row {w : World} {g : Nat} {o : Obj} (h : w.heap[g]? = some o) : g < w.heap.size := (Array.getElem?_eq_some_iff.1 h).1
theorem one_cell (w : World) (v : Value) (t : TypeId) : ∀ j u, [v][j]? = some u → (w.alloc (.cells #[v] t)).cell? ((⟨w.heap.size, 0, none⟩ : Addr).add j) = some u := by
  intro j u hj
  match j, hj with
  | 0, hj => simp at hj; subst hj; simp [Addr.add]
theorem conv_one (w : World) (x : Int) (h0 : 0 ≤ x) (h1 : x < 256) :
    (convert 69 9 (.slice (some ⟨w.heap.size, 0, none⟩) 1 1)).run Tryd.prog (w.alloc (.cells #[.int .u8 x] 5)) = .ok (.string ⟨[Num.byte x].toArray⟩) (w.alloc (.cells #[.int .u8 x] 5)) := by
  refine run_convert_bytes_back (P := Tryd.prog) (w.alloc (.cells #[.int .u8 x] 5)) 69 9 5 ⟨w.heap.size, 0, none⟩ 1 [Num.byte x] Tryd.underlying69 Tryd.underlying5 Tryd.underlying9 ?_
  intro j hj
  obtain rfl : j = 0 := by simp at hj; omega
  have e : ((Num.byte x).toNat : Int) = x := by rw [Num.byte_val]; omega
  simp [Addr.add, e]
end Mem
end Go.Proofs.YtihiljickefanaaDoor
namespace Go.Proofs.YtihiljickefanaaDoor
open Go.RowKit
set_option linter.unusedVariables false
namespace Date

/-- two digits of a number -/
def two (n : Int) : ByteArray := ⟨#[Num.byte (48 + n / 10 % 10), Num.byte (48 + n % 10)]⟩
theorem size_two (n : Int) : (two n).size = 2 := rfl
theorem conv_two (w : World) (x y : Int) (hx : 0 ≤ x) (hx2 : x < 256) (hy : 0 ≤ y) (hy2 : y < 256) :
    (convert 69 9 (.slice (some ⟨w.heap.size, 0, none⟩) 2 2)).run Tryd.prog (w.alloc (.cells #[.int .u8 x, .int .u8 y] 5)) = .ok (.string ⟨#[Num.byte x, Num.byte y]⟩) (w.alloc (.cells #[.int .u8 x, .int .u8 y] 5)) := by
  refine run_convert_bytes_back (P := Tryd.prog) (w.alloc (.cells #[.int .u8 x, .int .u8 y] 5)) 69 9 5 ⟨w.heap.size, 0, none⟩ 2 [Num.byte x, Num.byte y] Tryd.underlying69 Tryd.underlying5 Tryd.underlying9 ?_
  intro j hj
  have e1 : ((Num.byte x).toNat : Int) = x := by rw [Num.byte_val]; omega
  have e2 : ((Num.byte y).toNat : Int) = y := by rw [Num.byte_val]; omega
  match j, hj with
  | 0, _ => simp [Addr.add, e1]
  | 1, _ => simp [Addr.add, e2]
set_option maxRecDepth 100000 in
set_option maxHeartbeats 1000000 in
theorem two_spec (n : Int) (w : World) (h0 : 0 ≤ n) (h1 : n ≤ 99) : Calls Tryd.prog 47 #[.int .i64 n] w fun e w' => e = .returned (.string (two n)) ∧ Below w.heap.size w w' := by
  have hc := conv_two w (48 + n / 10 % 10) (48 + n % 10) (by omega) (by omega) (by omega) (by omega)
  go_enter Tryd.func47, Tryd.ntmps47
  go_wp2
  go_ret
  exact ⟨rfl, (Below.refl _ _).alloc (Nat.le_refl _) _⟩
end Date
end Go.Proofs.YtihiljickefanaaDoor
