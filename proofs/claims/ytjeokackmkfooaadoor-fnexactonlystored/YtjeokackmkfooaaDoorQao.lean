/-
  OnlySpec: OnlyStored of the specification.
  Pairs: Two boxes that were just laid.
-/
import Derived.Test.YtjeokackmkfooaaDoorQae
import Derived.Test.YtjeokackmkfooaaDoorQam
import Derived.Test.YtjeokackmkfooaaDoorQan
import Derived.Deep.Cut
import Derived.Test.YtjeokackmkfooaaDoorRecs
namespace Go.Proofs.YtjeokackmkfooaaDoor
open Go.RowKit
set_option linter.unusedVariables false
namespace Pol
open Flds (Fld)

set_option maxRecDepth 100000 in
set_option maxHeartbeats 1000000 in
theorem onlyStored_spec (m u : ByteArray) (v : Value) (l : List Fld) (b : ByteArray) (w : World) (h : Flds.Is w v l) (hl : Flds.bulk l ≤ 1048576) :
    Calls Tryd.prog 5 #[Req.val m u v b] w fun e w' => e = .returned (.bool (onlyStored l)) ∧ Below w.heap.size w w' := by
  have hb0 : Below w.heap.size w (w.alloc (.cells #[.string m, .string u, v, .string b] 29)) := (Below.refl _ _).alloc (Nat.le_refl _) _
  have HI := Num.hide (Recs.is_below h hb0)
  have HB := Num.hide hb0
  have HH := Num.hide (fun W h => Cc.has_spec v l onlyIf W h hl)
  obtain ⟨av, cv, rfl, _⟩ := Flds.is_form h
  have X0 := Num.hide (heap_alloc_new w (.cells #[.string m, .string u, .slice av l.length cv, .string b] 29))
  unfold onlyStored said Req.val
  generalize Cc.has (Cc.dirs l) onlyIf = r at HH ⊢
  clear h hb0
  go_enter Tryd.func5, Tryd.ntmps5
  go_upto_region 1 with fail
  generalize w.alloc (.cells #[.string m, .string u, .slice av l.length cv, .string b] 29) = w0 at HI HB X0 ⊢
  have c2 : w0.cell? ⟨w.heap.size, 2, none⟩ = some (.slice av l.length cv) := Recs.box_cell X0.out 2
  go_wp2_with fail
  refine (HH.out _ HI.out).mono ?_
  rintro e w1 ⟨rfl, hb⟩
  have HB1 := Num.hide (HB.out.trans (hb.mono HB.out.size))
  clear hb HB HI
  go_wp2
  go_ret
  exact ⟨rfl, HB1.out⟩
end Pol
end Go.Proofs.YtjeokackmkfooaaDoor
namespace Go.Proofs.YtjeokackmkfooaaDoor
open Go.RowKit
set_option linter.unusedVariables false
namespace Resp

/-- two boxes that were just laid -/
theorem box_one (w : World) (c1 c2 : Array Value) (t1 t2 : TypeId) (j : Nat) : ((w.alloc (.cells c1 t1)).alloc (.cells c2 t2)).cell? ⟨w.heap.size, j, none⟩ = c1[j]? := by
  rw [World.cell?_alloc_lt _ _ _ (by simp), cell_of_row _ _ _ _ _ _ (heap_alloc_new w _)]
theorem box_two (w : World) (c1 c2 : Array Value) (t1 t2 : TypeId) (j : Nat) : ((w.alloc (.cells c1 t1)).alloc (.cells c2 t2)).cell? ⟨w.heap.size + 1, j, none⟩ = c2[j]? := by
  have e : w.heap.size + 1 = (w.alloc (.cells c1 t1)).heap.size := by rw [World.size_alloc]
  rw [e, cell_of_row _ _ _ _ _ _ (heap_alloc_new _ _)]
end Resp
end Go.Proofs.YtjeokackmkfooaaDoor
