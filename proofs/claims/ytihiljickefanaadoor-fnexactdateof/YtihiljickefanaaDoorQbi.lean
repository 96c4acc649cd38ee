/-
  DecTab: The library's table of powers, kept by whatever makes new memory alone.
-/
import Derived.Test.YtihiljickefanaaDoorQbh
import Derived.WalkSmall
namespace Go.Proofs.YtihiljickefanaaDoor
open Go.RowKit
set_option linter.unusedVariables false
namespace Dec

/-- the library's table of powers lies as it is laid -/
def Tab (w : World) : Prop := Lib.TabIs Tryd.prog w "internal/strconv.uint64pow10" .u64 Lib.pow10Tab
theorem g_tab : Tryd.prog.globalNamed "internal/strconv.uint64pow10" = some 1 := by kernel_rfl
theorem Tab.lt {w : World} (h : Tab w) : 1 < w.heap.size := lt_of_cell (Lib.TabIs.cell h g_tab 0 (by simp [Lib.pow10Tab]))
theorem Tab.below {w w' : World} (h : Tab w) (hb : Below w.heap.size w w') : Tab w' := var?_below hb g_tab h.lt h
theorem Tab.under {w w' : World} {B : Nat} (h : Tab w) (hB : 1 < B) (hb : Below B w w') : Tab w' := var?_below hb g_tab hB h
end Dec
end Go.Proofs.YtihiljickefanaaDoor
