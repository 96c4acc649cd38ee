/-
  TwoSpec: l4Two of the specification: two digits; what was there stays.
  DecNum: Plain facts on decimal digits: the digits of a number, one by one from the lowest on.
-/
import Derived.Test.YtihiljickefanaaDoorPac
import Derived.Test.YtihiljickefanaaDoorPaf
import Derived.Below
import Derived.Test.YtihiljickefanaaDoorNum
import Derived.Lib.ItoaNum
import Derived.Lib.ItoaLen
namespace Go.Proofs.YtihiljickefanaaDoor
open Go.RowKit
set_option linter.unusedVariables false
namespace Date

/-- two digits of a number -/
def two (n : Int) : ByteArray := ⟨#[Num.byte (48 + n / 10 % 10), Num.byte (48 + n % 10)]⟩
theorem size_two (n : Int) : (two n).size = 2 := rfl
theorem conv_two (w : World) (x y : Int) (hx : 0 ≤ x) (hx2 : x < 256) (hy : 0 ≤ y) (hy2 : y < 256) :
    (convert 69 9 (.slice (some ⟨w.heap.size, 0, none⟩) 2 2)).run Tryd.prog (w.alloc (.cells #[.int .u8 x, .int .u8 y] 5)) = .ok (.string ⟨#[Num.byte x, Num.byte y]⟩) (w.alloc (.cells #[.int .u8 x, .int .u8 y] 5)) := by
  refine run_convert_bytes_back (P := Tryd.prog) (w.alloc (.cells #[.int .u8 x, .int .u8 y] 5)) 69 9 5 ⟨w.heap.size, 0, none⟩ 2 [Num.byte x, Num.byte y] Tryd.underlying69 Tryd.underlying5 Tryd.underlying9 ?_
  intro j hj
  have e1 : ((Num.byte x).toNat : Int) = x := by rw [Num.byte_val]; omega
  have e2 : ((Num.byte y).toNat : Int) = y := by rw [Num.byte_val]; omega
  match j, hj with
  | 0, _ => simp [Addr.add, e1]
  | 1, _ => simp [Addr.add, e2]
set_option maxRecDepth 100000 in
set_option maxHeartbeats 1000000 in
theorem two_spec (n : Int) (w : World) (h0 : 0 ≤ n) (h1 : n ≤ 99) : Calls Tryd.prog 47 #[.int .i64 n] w fun e w' => e = .returned (.string (two n)) ∧ Below w.heap.size w w' := by
  have hc := conv_two w (48 + n / 10 % 10) (48 + n % 10) (by omega) (by omega) (by omega) (by omega)
  go_enter Tryd.func47, Tryd.ntmps47
  go_wp2
  go_ret
  exact ⟨rfl, (Below.refl _ _).alloc (Nat.le_refl _) _⟩
end Date
end Go.Proofs.YtihiljickefanaaDoor
namespace Go.Proofs.YtihiljickefanaaDoor
open Go.RowKit
set_option linter.unusedVariables false
namespace Dec

/-- the digits of a number, none for 0 -/
def dd (u : Nat) : List UInt8 := if u = 0 then [] else Lib.decDigits u
theorem dd_zero : dd 0 = [] := rfl
theorem dd_pos (u : Nat) (h : u ≠ 0) : dd u = Lib.decDigits u := if_neg h
theorem dd_step (u : Nat) (h : u ≠ 0) : dd u = dd (u / 10) ++ [Num.byte (48 + (u % 10 : Nat))] := by
  have e : Num.byte (48 + ((u % 10 : Nat) : Int)) = UInt8.ofNat (48 + u % 10) := by
    apply UInt8.toNat_inj.1
    have hb := Num.byte_val (48 + ((u % 10 : Nat) : Int))
    rw [UInt8.toNat_ofNat']
    omega
  rw [dd_pos u h, Lib.decDigits, e]
  by_cases h10 : u < 10
  · rw [dif_pos h10, show u / 10 = 0 by omega, dd_zero, show u % 10 = u by omega]; rfl
  · rw [dif_neg h10, dd_pos (u / 10) (by omega)]
theorem length_dd (u : Nat) (h : u < 18446744073709551616) : (dd u).length ≤ 20 := by
  by_cases h0 : u = 0
  · subst h0; simp [dd_zero]
  · rw [dd_pos u h0, Lib.decDigits_length]; exact Lib.nDigits_le20 u h
theorem itoa_zero : Lib.itoa 0 = [48] := by
  have h : Lib.decDigits 0 = [48] := by rw [Lib.decDigits_one (by decide)]; rfl
  exact h
theorem itoa_pos (n : Int) (h : 0 < n) : Lib.itoa n = dd n.natAbs := by
  unfold Lib.itoa
  rw [if_neg (by omega), dd_pos _ (by omega), show n.toNat = n.natAbs by omega]
theorem itoa_neg (n : Int) (h : n < 0) : Lib.itoa n = 45 :: dd n.natAbs := by
  unfold Lib.itoa
  rw [if_pos h, dd_pos _ (by omega)]
end Dec
end Go.Proofs.YtihiljickefanaaDoor
