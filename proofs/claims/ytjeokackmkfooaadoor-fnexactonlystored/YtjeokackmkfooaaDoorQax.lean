/-
  ShelfCut: Library contracts at this program: strings_Cut, strings_Cut_shaped.
  CcCut: Cut at the first '=': what the library's call tells of a part.
-/
import Derived.Shelf.Strings.Builder1
import Derived.Shelf.Strings.Builder2
import Derived.Shelf.Strings.OnBuilder
import Derived.Shelf.Strings.Trim
import Derived.Shelf.Small.Utf8
import Derived.Shelf.Small.Strs
import Derived.Shelf.Strings.BuilderF
import Derived.Shelf.Strings.BuilderK
import Derived.Shelf.LaysM
import Derived.Shelf.Strconv.Clone
import Derived.Shelf.Strings.Search1
import Derived.Shelf.Strings.Search2
import Derived.Shelf.Strings.Cut
import Derived.Shelf.Strings.Shaped
import Derived.Shelf.Unicode.Decode
import Derived.Shelf.Strings.Runes
import Derived.Shelf.Strings.AsciiSet
import Derived.Shelf.Unicode.DecodeSlow
import Derived.Shelf.Unicode.DecodeAny
import Derived.Shelf.Unicode.DecodeLast
import Derived.Test.YtjeokackmkfooaaDoorRows
import Derived.Test.YtjeokackmkfooaaDoorQad
import Derived.Test.YtjeokackmkfooaaDoorQaw
namespace Go.Proofs.YtjeokackmkfooaaDoor
open Go.Shelf
def Shelf.lays145_ren : Go.Shelf.Ren := ⟨fun | 145 => 39 | 220 => 48 | 219 => 54 | 217 => 65 | 225 => 66 | 224 => 67 | 267 => 68 | 266 => 73 | 314 => 74 | n => n, fun | 9 => 9 | 4 => 4 | 59 => 65 | 3 => 3 | 5 => 5 | 46 => 92 | 146 => 97 | 51 => 96 | n => n, fun | 1 => 1 | n => n⟩
theorem Shelf.lays145 : Go.Proofs.Lays.n145 Tryd.prog Shelf.lays145_ren := {
  mixed := by kernel_rfl
  f145 := Tryd.func39.trans (congrArg some (by kernel_rfl))
  f217 := Tryd.func65.trans (congrArg some (by kernel_rfl))
  f219 := Tryd.func54.trans (congrArg some (by kernel_rfl))
  f220 := Tryd.func48.trans (congrArg some (by kernel_rfl))
  f224 := Tryd.func67.trans (congrArg some (by kernel_rfl))
  f225 := Tryd.func66.trans (congrArg some (by kernel_rfl))
  f266 := Tryd.func73.trans (congrArg some (by kernel_rfl))
  f267 := Tryd.func68.trans (congrArg some (by kernel_rfl))
  f314 := Tryd.func74.trans (congrArg some (by kernel_rfl))
  t3 := Tryd.underlying3
  a3 := Tryd.isAgg3
  z3 := Tryd.sizeOf3
  v3 := Tryd.zeroValue3
  t4 := Tryd.underlying4
  a4 := Tryd.isAgg4
  z4 := Tryd.sizeOf4
  v4 := Tryd.zeroValue4
  t5 := Tryd.underlying5
  a5 := Tryd.isAgg5
  z5 := Tryd.sizeOf5
  v5 := Tryd.zeroValue5
  t9 := Tryd.underlying9
  a9 := Tryd.isAgg9
  z9 := Tryd.sizeOf9
  v9 := Tryd.zeroValue9
  t46 := Tryd.underlying92
  a46 := Tryd.isAgg92
  z46 := Tryd.sizeOf92
  v46 := Tryd.zeroValue92
  t51 := Tryd.underlying96
  a51 := Tryd.isAgg96
  z51 := Tryd.sizeOf96
  v51 := Tryd.zeroValue96
  t59 := Tryd.underlying65
  a59 := Tryd.isAgg65
  z59 := Tryd.sizeOf65
  v59 := Tryd.zeroValue65
  t146 := Tryd.underlying97
  a146 := Tryd.isAgg97
  z146 := Tryd.sizeOf97
  v146 := Tryd.zeroValue97
  g1 := by kernel_rfl }
open Go.RowKit Go.Lib in
theorem Shelf.strings_Cut (s sep : ByteArray) (m : Int) (w : World) (hs : s.size < 4294967281) (hm : w.cell? ⟨1, 0, none⟩ = some (.int .i64 m)) :
    Calls Tryd.prog 39 #[.string s, .string sep] w fun e w' => e = .returned (.tuple #[.string ⟨(Lib.cut s.data.toList sep.data.toList).1.toArray⟩, .string ⟨(Lib.cut s.data.toList sep.data.toList).2.1.toArray⟩, .bool (Lib.cut s.data.toList sep.data.toList).2.2]) ∧ ∃ n, w' = w.drewN n := Any.strings_Cut Shelf.lays145 s sep m w hs hm
def Shelf.laysM145_ren : Go.Shelf.Ren := ⟨fun | 145 => 39 | 220 => 48 | 219 => 54 | 217 => 65 | 225 => 66 | 224 => 67 | 267 => 68 | 266 => 73 | 314 => 74 | n => n, fun | 9 => 9 | 4 => 4 | 59 => 65 | 3 => 3 | 5 => 5 | 46 => 92 | 146 => 97 | 51 => 96 | n => n, fun | 1 => 1 | n => n⟩
theorem Shelf.laysM145 : Go.Proofs.LaysM.n145 Tryd.prog Shelf.laysM145_ren := {
  mixed := by kernel_rfl
  f145 := Tryd.func39.trans (congrArg some (by kernel_rfl))
  f217 := Tryd.func65.trans (congrArg some (by kernel_rfl))
  f219 := Tryd.func54.trans (congrArg some (by kernel_rfl))
  f220 := Tryd.func48.trans (congrArg some (by kernel_rfl))
  f224 := Tryd.func67.trans (congrArg some (by kernel_rfl))
  f225 := Tryd.func66.trans (congrArg some (by kernel_rfl))
  f266 := Tryd.func73.trans (congrArg some (by kernel_rfl))
  f267 := Tryd.func68.trans (congrArg some (by kernel_rfl))
  f314 := Tryd.func74.trans (congrArg some (by kernel_rfl))
  t3 := Tryd.underlying3
  a3 := Tryd.isAgg3
  z3 := Tryd.sizeOf3
  v3 := Tryd.zeroValue3
  t4 := Tryd.underlying4
  a4 := Tryd.isAgg4
  z4 := Tryd.sizeOf4
  v4 := Tryd.zeroValue4
  t5 := Tryd.underlying5
  a5 := Tryd.isAgg5
  z5 := Tryd.sizeOf5
  v5 := Tryd.zeroValue5
  t9 := Tryd.underlying9
  a9 := Tryd.isAgg9
  z9 := Tryd.sizeOf9
  v9 := Tryd.zeroValue9
  t46 := Tryd.underlying92
  a46 := Tryd.isAgg92
  z46 := Tryd.sizeOf92
  v46 := Tryd.zeroValue92
  t51 := Tryd.underlying96
  a51 := Tryd.isAgg96
  z51 := Tryd.sizeOf96
  v51 := Tryd.zeroValue96
  t59 := Tryd.underlying65
  a59 := Tryd.isAgg65
  z59 := Tryd.sizeOf65
  v59 := Tryd.zeroValue65
  t146 := Tryd.underlying97
  a146 := Tryd.isAgg97
  z146 := Tryd.sizeOf97
  v146 := Tryd.zeroValue97
  g1 := by kernel_rfl
  i3 := by kernel_rfl
  i4 := by kernel_rfl
  i5 := by kernel_rfl
  i9 := by kernel_rfl
  i46 := by kernel_rfl
  i51 := by kernel_rfl
  i59 := by kernel_rfl
  i146 := by kernel_rfl
  m1 := by kernel_rfl
  s1_3 := fun w h => Go.Proofs.cell_of_shapedOpen_int (zero := #[.int .i64 0]) (t := 3) h (of_decide_eq_true (by kernel_rfl)) (by kernel_rfl) rfl (by kernel_rfl) (by kernel_rfl) Tryd.underlying3 }
open Go.RowKit Go.Lib in
theorem Shelf.strings_Cut_shaped (s sep : ByteArray) (w : World) (h : w.ShapedOpen Tryd.prog) (hs : s.size < 4294967281) :
    Calls Tryd.prog 39 #[.string s, .string sep] w fun e w' => e = .returned (.tuple #[.string ⟨(Lib.cut s.data.toList sep.data.toList).1.toArray⟩, .string ⟨(Lib.cut s.data.toList sep.data.toList).2.1.toArray⟩, .bool (Lib.cut s.data.toList sep.data.toList).2.2]) ∧ ∃ n, w' = w.drewN n := Any.strings_Cut_shaped Shelf.laysM145 s sep w h hs
end Go.Proofs.YtjeokackmkfooaaDoor
namespace Go.Proofs.YtjeokackmkfooaaDoor
open Go.RowKit
set_option linter.unusedVariables false
namespace Cc
open Line (byteAt byteAt_eq byteAt_list drop_end)

/-- the library's variable holds some number -/
def Lim (w : World) : Prop := ∃ m, w.cell? ⟨1, 0, none⟩ = some (.int .i64 m)
theorem lim_lt {w : World} (h : Lim w) : 1 < w.heap.size := by obtain ⟨m, hm⟩ := h; exact Recs.lt_of_cell hm
theorem lim_of {w : World} (h : w.ShapedOpen Tryd.prog) : Lim w := Shelf.laysM145.s1_3 w h
theorem lim_below {w w' : World} {B : Nat} (h : Lim w) (hb : Below B w w') (hB : 1 < B) : Lim w' := by
  obtain ⟨m, hm⟩ := h
  exact ⟨m, (hb.cell (p := ⟨1, 0, none⟩) hB).trans hm⟩
def eqI (r : Option Nat) (i : Nat) : Int := match r with | some k => (k : Int) - (i : Int) | none => -1
theorem index_eqGo (s : ByteArray) : ∀ (n i : Nat), n = s.size - i → Lib.index (s.data.toList.drop i) [61] = eqI (eqGo s n i) i := by
  intro n
  induction n with
  | zero => intro i h; rw [drop_end s i (by omega)]; rfl
  | succ n ih =>
    intro i h
    obtain ⟨b, e, hb⟩ := byteAt_list s i (by omega)
    have ih2 := ih (i + 1) (by omega)
    rw [e]
    unfold Lib.index eqGo
    rw [ih2]
    by_cases hc : byteAt s i = 61
    · rw [if_pos hc, if_pos]
      · show (0 : Int) = (i : Int) - (i : Int); omega
      · have h61 : b = 61 := by rw [← UInt8.toNat_inj, ← hb]; exact hc
        rw [h61]; rfl
    · rw [if_neg hc, if_neg]
      · cases hg : eqGo s n (i + 1) with
        | none => rfl
        | some k =>
          have := eqGo_in s _ _ _ hg
          show (if ((k : Int) - ((i + 1 : Nat) : Int) == -1) = true then (-1 : Int) else (k : Int) - ((i + 1 : Nat) : Int) + 1) = (k : Int) - (i : Int)
          rw [if_neg (by rw [beq_iff_eq]; omega)]; omega
      · intro hp
        apply hc
        simp only [List.isPrefixOf, Bool.and_eq_true, beq_iff_eq, and_true] at hp
        rw [hb, ← hp]; rfl
theorem index_eq (s : ByteArray) : Lib.indexB s ⟨#[61]⟩ = eqI (eqAt s) 0 := by
  show Lib.index s.data.toList [61] = _
  have := index_eqGo s s.size 0 rfl
  rw [List.drop_zero] at this
  exact this
theorem cut_eq (s : ByteArray) (w : World) (hs : s.size ≤ 1048576) (hm : Lim w) :
    Calls Tryd.prog 39 #[.string s, .string ⟨#[61]⟩] w fun e w' => ∃ b, e = .returned (.tuple #[.string (nameOf s), .string (behind s), .bool b]) ∧ ∃ n, w.drewN n = w' := by
  obtain ⟨m, hm⟩ := hm
  refine (Shelf.strings_Cut s ⟨#[61]⟩ m w (by omega) hm).mono ?_
  rintro e w' ⟨rfl, n, rfl⟩
  cases he : eqAt s with
  | none =>
    obtain ⟨e1, e2, e3⟩ := Lib.cutB_miss s ⟨#[61]⟩ (by rw [index_eq, he]; rfl)
    obtain ⟨n1, n2⟩ := name_none he
    exact ⟨_, by rw [e1, e2, e3, n1, n2]; rfl, n, rfl⟩
  | some k =>
    obtain ⟨e1, e2, e3⟩ := Lib.cutB_hit s ⟨#[61]⟩ k (by rw [index_eq, he]; show (k : Int) - ((0 : Nat) : Int) = (k : Int); omega)
    obtain ⟨n1, n2⟩ := name_some he
    exact ⟨_, by rw [e1, e2, e3, n1, n2]; rfl, n, rfl⟩
end Cc
end Go.Proofs.YtjeokackmkfooaaDoor
