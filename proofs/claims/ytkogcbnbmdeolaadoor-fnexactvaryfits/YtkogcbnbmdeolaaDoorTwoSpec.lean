/-
  l4Two of the specification: two digits; what was there stays.
-/
import Derived.Test.YtkogcbnbmdeolaaDoorDateNum
import Derived.Test.YtkogcbnbmdeolaaDoorMem
import Derived.Below
namespace Go.Proofs.YtkogcbnbmdeolaaDoor
open Go.RowKit
set_option linter.unusedVariables false
namespace Date

/-- two digits of a number -/
def two (n : Int) : ByteArray := ⟨#[Num.byte (48 + n / 10 % 10), Num.byte (48 + n % 10)]⟩
theorem size_two (n : Int) : (two n).size = 2 := rfl
theorem conv_two (w : World) (x y : Int) (hx : 0 ≤ x) (hx2 : x < 256) (hy : 0 ≤ y) (hy2 : y < 256) :
    (convert 22 9 (.slice (some ⟨w.heap.size, 0, none⟩) 2 2)).run Tryd.prog (w.alloc (.cells #[.int .u8 x, .int .u8 y] 5)) = .ok (.string ⟨#[Num.byte x, Num.byte y]⟩) (w.alloc (.cells #[.int .u8 x, .int .u8 y] 5)) := by
  refine run_convert_bytes_back (P := Tryd.prog) (w.alloc (.cells #[.int .u8 x, .int .u8 y] 5)) 22 9 5 ⟨w.heap.size, 0, none⟩ 2 [Num.byte x, Num.byte y] Tryd.underlying22 Tryd.underlying5 Tryd.underlying9 ?_
  intro j hj
  have e1 : ((Num.byte x).toNat : Int) = x := by rw [Num.byte_val]; omega
  have e2 : ((Num.byte y).toNat : Int) = y := by rw [Num.byte_val]; omega
  match j, hj with
  | 0, _ => simp [Addr.add, e1]
  | 1, _ => simp [Addr.add, e2]
set_option maxRecDepth 100000 in
set_option maxHeartbeats 1000000 in
theorem two_spec (n : Int) (w : World) (h0 : 0 ≤ n) (h1 : n ≤ 99) : Calls Tryd.prog 107 #[.int .i64 n] w fun e w' => e = .returned (.string (two n)) ∧ Below w.heap.size w w' := by
  have hc := conv_two w (48 + n / 10 % 10) (48 + n % 10) (by omega) (by omega) (by omega) (by omega)
  go_enter Tryd.func107, Tryd.ntmps107
  go_wp2
  go_ret
  exact ⟨rfl, (Below.refl _ _).alloc (Nat.le_refl _) _⟩
end Date
end Go.Proofs.YtkogcbnbmdeolaaDoor
