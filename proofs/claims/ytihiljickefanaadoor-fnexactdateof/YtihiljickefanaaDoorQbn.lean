/-
  ArrEq: Three numbers held against three numbers, as an array.
-/
import Derived.Test.YtihiljickefanaaDoorQaf
import Derived.Test.YtihiljickefanaaDoorRows
import Derived.WalkKit
import Derived.WalkLawsBesides
import Derived.ChangeKeysEq
namespace Go.Proofs.YtihiljickefanaaDoor
open Go.RowKit
set_option linter.unusedVariables false
namespace Date

set_option maxRecDepth 100000 in
theorem eq_arr (a b c a' b' c' : Int) (w : World) : (Op.equalIn 10000 79 (.agg #[.int .i64 a, .int .i64 b, .int .i64 c]) (.agg #[.int .i64 a', .int .i64 b', .int .i64 c'])).run Tryd.prog w = .ok (decide (a = a' ∧ b = b' ∧ c = c')) w := by
  obtain ⟨i, hi⟩ : ∃ i, Tryd.prog.info? 3 = some i := ⟨_, rfl⟩
  have hc : Tryd.prog.cellsOf 3 = 1 := by kernel_rfl
  rw [show (10000 : Nat) = 9999 + 1 from rfl, run_equalIn_array w 9999 _ _ Tryd.underlying79 hi, hc]
  have hr : List.range 3 = [0, 1, 2] := rfl
  rw [hr]
  by_cases e1 : a = a'
  · by_cases e2 : b = b'
    · by_cases e3 : c = c'
      · simp [Op.eqItems, go_sem, e1, e2, e3]
      · simp [Op.eqItems, go_sem, e1, e2, e3]
    · simp [Op.eqItems, go_sem, e1, e2]
  · simp [Op.eqItems, go_sem, e1]
end Date
end Go.Proofs.YtihiljickefanaaDoor
