/-
  ReadDirImpl: readDirective of the program: the directive of a part, and whether it is one.
-/
import Derived.Test.YtjeokackmkfooaaDoorQax
import Derived.Test.YtjeokackmkfooaaDoorQay
import Derived.Test.YtjeokackmkfooaaDoorTokenImpl
import Derived.Test.YtjeokackmkfooaaDoorQak
import Derived.Test.YtjeokackmkfooaaDoorQag
namespace Go.Proofs.YtjeokackmkfooaaDoor
open Go.RowKit
set_option linter.unusedVariables false
namespace Cc
open Flds (Fld two_cells box_first box_second)

theorem signs_lt {w : World} (h : Sign.Signs w) : 0 < w.heap.size := Recs.lt_of_cell (h 0 (by decide))
theorem signs_below {w w' : World} {B : Nat} (h : Sign.Signs w) (hb : Below B w w') (hB : 0 < B) : Sign.Signs w' :=
  fun i hi => (hb.cell (p := ⟨0, i, none⟩) hB).trans (h i hi)
set_option maxRecDepth 100000 in
set_option maxHeartbeats 2000000 in
theorem readDir_impl (s : ByteArray) (w : World) (hs : s.size ≤ 1048576) (hm : Lim w) (hS : Sign.Signs w) :
    Calls Tryd.prog 31 #[.string s] w fun e w' => e = .returned (.tuple #[.agg #[.string (dirOf s).1, .string (dirOf s).2], .bool (isDir s)]) ∧ Below w.heap.size w w' := by
  have c0 : (w.alloc (.cells #[.string ⟨#[]⟩, .string ⟨#[]⟩] 42)).heap[w.heap.size]? = some (.cells #[.string ⟨#[]⟩, .string ⟨#[]⟩] 42) := heap_alloc_new w _
  have HC := Num.hide c0
  have hb0 := (Below.refl w.heap.size w).alloc (Nat.le_refl _) (.cells #[.string ⟨#[]⟩, .string ⟨#[]⟩] 42)
  have HB0 := Num.hide hb0
  have hz0 : w.heap.size + 1 = (w.alloc (.cells #[.string ⟨#[]⟩, .string ⟨#[]⟩] 42)).heap.size := by simp
  have HM := Num.hide (cut_eq s _ hs (lim_below hm hb0 (lim_lt hm)))
  have hsl := signs_lt hS
  have HS := Num.hide hS
  have hn := name_size s
  have hv := behind_size s
  unfold dirOf isDir
  generalize nameOf s = nm at HM hn ⊢
  generalize behind s = bh at HM hv ⊢
  obtain ⟨tb, htb⟩ : ∃ tb, Sign.isTok nm = tb := ⟨_, rfl⟩
  obtain ⟨lw, hlw⟩ : ∃ lw, Sign.lower nm = lw := ⟨_, rfl⟩
  obtain ⟨uq, huq⟩ : ∃ uq, unq bh = uq := ⟨_, rfl⟩
  have HT := Num.hide (fun W hW => htb ▸ Sign.isTok_impl nm W (by unfold maxLen; omega) hW)
  have HL := Num.hide (fun W => hlw ▸ Sign.lower_impl nm W (by unfold maxLen; omega))
  have HU := Num.hide (fun W => huq ▸ unq_impl bh W (by unfold maxLen; omega))
  simp only [htb, hlw, huq]
  clear c0 hb0 hm htb hlw huq hS
  go_enter Tryd.func31, Tryd.ntmps31
  go_wp2_with fail
  refine HM.out.mono ?_
  rintro e w0 ⟨b, rfl, n, rfl⟩
  go_wp2_with fail
  refine (HL.out _).mono ?_
  rintro e w1 ⟨rfl, hb1⟩
  have hb2 := (Strs.below_drewN HB0.out n).trans (hb1.mono (by show _ ≤ (w.alloc _).heap.size; omega : w.heap.size ≤ _))
  have HB := Num.hide hb2
  have HW := Num.hide (signs_below HS.out hb2 hsl)
  have hbox : w1.heap[w.heap.size]? = some (.cells #[.string ⟨#[]⟩, .string ⟨#[]⟩] 42) := by rw [hb1.block _ (by show _ < (w.alloc _).heap.size; omega)]; exact HC.out
  have HX := Num.hide hbox
  clear hb1 hb2 hbox HC HB0 HL HM hz0
  go_wp2_with fail
  refine (HU.out _).mono ?_
  rintro e w2 ⟨rfl, rfl⟩
  go_wp2_with fail
  refine (HT.out _ HW.out).mono ?_
  rintro e w3 ⟨rfl, rfl⟩
  obtain ⟨k0, k1, g0, g1⟩ := two_cells HX.out
  have r0 := Num.hide (box_first (x := lw) (y := uq) k0)
  have r1 := Num.hide (box_second (x := lw) (y := uq) k1)
  have HB1 := Num.hide ((HB.out.setCell (p := ⟨w.heap.size, 0, none⟩) (Nat.le_refl _) (.string lw)).setCell (p := ⟨w.heap.size, 1, none⟩) (Nat.le_refl _) (.string uq))
  go_wp2
  generalize ((w1.setCell ⟨w.heap.size, 0, none⟩ (.string lw)).setCell ⟨w.heap.size, 1, none⟩ (.string uq)) = w4 at r0 r1 HB1 ⊢
  have r0 := r0.out
  have r1 := r1.out
  exact bodyPost_ret (v := .tuple #[.agg #[.string lw, .string uq], .bool tb]) (by simp [results, Tryd.results31, go_sem, r0, r1]) rfl ⟨rfl, HB1.out⟩
end Cc
end Go.Proofs.YtjeokackmkfooaaDoor
