/-
  newField of the program: a field of two texts, in memory of its own.
-/
import Derived.Test.YtbeljhonikhdjaaDoorShelfClone
import Derived.Test.YtbeljhonikhdjaaDoorFldPut
namespace Go.Proofs.YtbeljhonikhdjaaDoor
open Go.RowKit
set_option linter.unusedVariables false
namespace Flds

set_option maxRecDepth 100000 in
set_option maxHeartbeats 1000000 in
theorem new_any (x y : ByteArray) (w : World) (hx : x.size ≤ 281474976710656) (hy : y.size ≤ 281474976710656) :
    Calls Tryd.prog 32 #[.string x, .string y] w fun e w' => e = .returned (.agg #[.string x, .string y]) ∧ Below w.heap.size w w' := by
  have c0 : (w.alloc (.cells #[.string ⟨#[]⟩, .string ⟨#[]⟩] 33)).heap[w.heap.size]? = some (.cells #[.string ⟨#[]⟩, .string ⟨#[]⟩] 33) := heap_alloc_new w _
  have HC := Num.hide c0
  have HB0 := Num.hide ((Below.refl w.heap.size w).alloc (Nat.le_refl _) (.cells #[.string ⟨#[]⟩, .string ⟨#[]⟩] 33))
  have hz0 : w.heap.size + 1 = (w.alloc (.cells #[.string ⟨#[]⟩, .string ⟨#[]⟩] 33)).heap.size := by simp
  clear c0
  go_enter Tryd.func32, Tryd.ntmps32
  go_wp2_with fail
  refine (Shelf.clone x _ hx).mono ?_
  rintro e w1 ⟨rfl, hb1⟩
  go_wp2_with fail
  refine (Shelf.clone y _ hy).mono ?_
  rintro e w2 ⟨rfl, hb2⟩
  obtain ⟨k0, k1, f0, f1⟩ := two_cells (show w2.heap[w.heap.size]? = _ from by rw [hb2.block _ (by have := hb1.size; omega), hb1.block _ (by omega)]; exact HC.out)
  have HB := Num.hide (HB0.out.trans (((hb1.mono (by omega : w.heap.size ≤ _)).trans (hb2.mono (by have := hb1.size; omega)))))
  clear hb1 hb2 HB0 HC hz0
  have r0 := Num.hide (box_first (x := x) (y := y) k0)
  have r1 := Num.hide (box_second (x := x) (y := y) k1)
  have HB1 := Num.hide ((HB.out.setCell (p := ⟨w.heap.size, 0, none⟩) (Nat.le_refl _) (.string x)).setCell (p := ⟨w.heap.size, 1, none⟩) (Nat.le_refl _) (.string y))
  go_wp2
  generalize ((w2.setCell ⟨w.heap.size, 0, none⟩ (.string x)).setCell ⟨w.heap.size, 1, none⟩ (.string y)) = w3 at r0 r1 HB1 ⊢
  have r0 := r0.out
  have r1 := r1.out
  exact bodyPost_ret (v := .agg #[.string x, .string y]) (by simp [results, Tryd.results32, go_sem, r0, r1]) rfl ⟨rfl, HB1.out⟩
end Flds
end Go.Proofs.YtbeljhonikhdjaaDoor
