/-
  ShelfCut: Library contracts at this program: strings_Cut, strings_Cut_shaped.
  CcCut: Cut at the first '=': what the library's call tells of a part.
  UnqImpl: withoutQuotes of the program: a value without quotes around it; the world stays.
-/
import Derived.Shelf.Strings.Builder1
import Derived.Shelf.Strings.Builder2
import Derived.Shelf.Strings.OnBuilder
import Derived.Shelf.Strings.Trim
import Derived.Shelf.Small.Utf8
import Derived.Shelf.Small.Strs
import Derived.Shelf.Strings.BuilderF
import Derived.Shelf.Strings.BuilderK
import Derived.Shelf.Strconv.Itoa0
import Derived.Shelf.Strconv.Itoa1
import Derived.Shelf.LaysM
import Derived.Shelf.Strconv.Itoa2
import Derived.Shelf.Strconv.Itoa3
import Derived.Shelf.Strconv.Clone
import Derived.Shelf.Strings.Search1
import Derived.Shelf.Strings.Search2
import Derived.Shelf.Strings.Search3
import Derived.Shelf.Strings.Cut
import Derived.Shelf.Strings.Shaped
import Derived.Shelf.Unicode.Decode
import Derived.Shelf.Strings.Runes
import Derived.Shelf.Strings.AsciiSet
import Derived.Shelf.Unicode.DecodeSlow
import Derived.Shelf.Unicode.DecodeAny
import Derived.Shelf.Unicode.DecodeLast
import Derived.Test.YtihiljickefanaaGreatDoorRows
import Derived.Test.YtihiljickefanaaGreatDoorPai
import Derived.Test.YtihiljickefanaaGreatDoorPav
import Derived.Laws.Strings
import Derived.WalkKit
namespace Go.Proofs.YtihiljickefanaaGreatDoor
open Go.Shelf
def Shelf.lays145_ren : Go.Shelf.Ren := ⟨fun | 145 => 114 | 220 => 122 | 219 => 91 | 217 => 105 | 225 => 106 | 224 => 107 | 267 => 108 | 266 => 118 | 314 => 119 | n => n, fun | 9 => 9 | 4 => 4 | 59 => 125 | 3 => 3 | 5 => 5 | 46 => 88 | 146 => 128 | 51 => 127 | n => n, fun | 1 => 0 | n => n⟩
theorem Shelf.lays145 : Go.Proofs.Lays.n145 Tryz.prog Shelf.lays145_ren := {
  mixed := by kernel_rfl
  f145 := Tryz.func114.trans (congrArg some (by kernel_rfl))
  f217 := Tryz.func105.trans (congrArg some (by kernel_rfl))
  f219 := Tryz.func91.trans (congrArg some (by kernel_rfl))
  f220 := Tryz.func122.trans (congrArg some (by kernel_rfl))
  f224 := Tryz.func107.trans (congrArg some (by kernel_rfl))
  f225 := Tryz.func106.trans (congrArg some (by kernel_rfl))
  f266 := Tryz.func118.trans (congrArg some (by kernel_rfl))
  f267 := Tryz.func108.trans (congrArg some (by kernel_rfl))
  f314 := Tryz.func119.trans (congrArg some (by kernel_rfl))
  t3 := Tryz.underlying3
  a3 := Tryz.isAgg3
  z3 := Tryz.sizeOf3
  v3 := Tryz.zeroValue3
  t4 := Tryz.underlying4
  a4 := Tryz.isAgg4
  z4 := Tryz.sizeOf4
  v4 := Tryz.zeroValue4
  t5 := Tryz.underlying5
  a5 := Tryz.isAgg5
  z5 := Tryz.sizeOf5
  v5 := Tryz.zeroValue5
  t9 := Tryz.underlying9
  a9 := Tryz.isAgg9
  z9 := Tryz.sizeOf9
  v9 := Tryz.zeroValue9
  t46 := Tryz.underlying88
  a46 := Tryz.isAgg88
  z46 := Tryz.sizeOf88
  v46 := Tryz.zeroValue88
  t51 := Tryz.underlying127
  a51 := Tryz.isAgg127
  z51 := Tryz.sizeOf127
  v51 := Tryz.zeroValue127
  t59 := Tryz.underlying125
  a59 := Tryz.isAgg125
  z59 := Tryz.sizeOf125
  v59 := Tryz.zeroValue125
  t146 := Tryz.underlying128
  a146 := Tryz.isAgg128
  z146 := Tryz.sizeOf128
  v146 := Tryz.zeroValue128
  g1 := by kernel_rfl }
open Go.RowKit Go.Lib in
theorem Shelf.strings_Cut (s sep : ByteArray) (m : Int) (w : World) (hs : s.size < 4294967281) (hm : w.cell? ⟨0, 0, none⟩ = some (.int .i64 m)) :
    Calls Tryz.prog 114 #[.string s, .string sep] w fun e w' => e = .returned (.tuple #[.string ⟨(Lib.cut s.data.toList sep.data.toList).1.toArray⟩, .string ⟨(Lib.cut s.data.toList sep.data.toList).2.1.toArray⟩, .bool (Lib.cut s.data.toList sep.data.toList).2.2]) ∧ ∃ n, w' = w.drewN n := Any.strings_Cut Shelf.lays145 s sep m w hs hm
def Shelf.laysM145_ren : Go.Shelf.Ren := ⟨fun | 145 => 114 | 220 => 122 | 219 => 91 | 217 => 105 | 225 => 106 | 224 => 107 | 267 => 108 | 266 => 118 | 314 => 119 | n => n, fun | 9 => 9 | 4 => 4 | 59 => 125 | 3 => 3 | 5 => 5 | 46 => 88 | 146 => 128 | 51 => 127 | n => n, fun | 1 => 0 | n => n⟩
theorem Shelf.laysM145 : Go.Proofs.LaysM.n145 Tryz.prog Shelf.laysM145_ren := {
  mixed := by kernel_rfl
  f145 := Tryz.func114.trans (congrArg some (by kernel_rfl))
  f217 := Tryz.func105.trans (congrArg some (by kernel_rfl))
  f219 := Tryz.func91.trans (congrArg some (by kernel_rfl))
  f220 := Tryz.func122.trans (congrArg some (by kernel_rfl))
  f224 := Tryz.func107.trans (congrArg some (by kernel_rfl))
  f225 := Tryz.func106.trans (congrArg some (by kernel_rfl))
  f266 := Tryz.func118.trans (congrArg some (by kernel_rfl))
  f267 := Tryz.func108.trans (congrArg some (by kernel_rfl))
  f314 := Tryz.func119.trans (congrArg some (by kernel_rfl))
  t3 := Tryz.underlying3
  a3 := Tryz.isAgg3
  z3 := Tryz.sizeOf3
  v3 := Tryz.zeroValue3
  t4 := Tryz.underlying4
  a4 := Tryz.isAgg4
  z4 := Tryz.sizeOf4
  v4 := Tryz.zeroValue4
  t5 := Tryz.underlying5
  a5 := Tryz.isAgg5
  z5 := Tryz.sizeOf5
  v5 := Tryz.zeroValue5
  t9 := Tryz.underlying9
  a9 := Tryz.isAgg9
  z9 := Tryz.sizeOf9
  v9 := Tryz.zeroValue9
  t46 := Tryz.underlying88
  a46 := Tryz.isAgg88
  z46 := Tryz.sizeOf88
  v46 := Tryz.zeroValue88
  t51 := Tryz.underlying127
  a51 := Tryz.isAgg127
  z51 := Tryz.sizeOf127
  v51 := Tryz.zeroValue127
  t59 := Tryz.underlying125
  a59 := Tryz.isAgg125
  z59 := Tryz.sizeOf125
  v59 := Tryz.zeroValue125
  t146 := Tryz.underlying128
  a146 := Tryz.isAgg128
  z146 := Tryz.sizeOf128
  v146 := Tryz.zeroValue128
  g1 := by kernel_rfl
  i3 := by kernel_rfl
  i4 := by kernel_rfl
  i5 := by kernel_rfl
  i9 := by kernel_rfl
  i46 := by kernel_rfl
  i51 := by kernel_rfl
  i59 := by kernel_rfl
  i146 := by kernel_rfl
  m1 := by kernel_rfl
  s1_3 := fun w h => Go.Proofs.cell_of_shapedOpen_int (zero := #[.int .i64 0]) (t := 3) h (of_decide_eq_true (by kernel_rfl)) (by kernel_rfl) rfl (by kernel_rfl) (by kernel_rfl) Tryz.underlying3 }
open Go.RowKit Go.Lib in
theorem Shelf.strings_Cut_shaped (s sep : ByteArray) (w : World) (h : w.ShapedOpen Tryz.prog) (hs : s.size < 4294967281) :
    Calls Tryz.prog 114 #[.string s, .string sep] w fun e w' => e = .returned (.tuple #[.string ⟨(Lib.cut s.data.toList sep.data.toList).1.toArray⟩, .string ⟨(Lib.cut s.data.toList sep.data.toList).2.1.toArray⟩, .bool (Lib.cut s.data.toList sep.data.toList).2.2]) ∧ ∃ n, w' = w.drewN n := Any.strings_Cut_shaped Shelf.laysM145 s sep w h hs
end Go.Proofs.YtihiljickefanaaGreatDoor
namespace Go.Proofs.YtihiljickefanaaGreatDoor
open Go.RowKit
set_option linter.unusedVariables false
namespace Cc
open Line (byteAt byteAt_eq byteAt_list drop_end)

/-- the library's variable holds some number -/
def Lim (w : World) : Prop := ∃ m, w.cell? ⟨0, 0, none⟩ = some (.int .i64 m)
theorem lim_lt {w : World} (h : Lim w) : 0 < w.heap.size := by obtain ⟨m, hm⟩ := h; exact Recs.lt_of_cell hm
theorem lim_of {w : World} (h : w.ShapedOpen Tryz.prog) : Lim w := Shelf.laysM145.s1_3 w h
theorem lim_below {w w' : World} {B : Nat} (h : Lim w) (hb : Below B w w') (hB : 0 < B) : Lim w' := by
  obtain ⟨m, hm⟩ := h
  exact ⟨m, (hb.cell (p := ⟨0, 0, none⟩) hB).trans hm⟩
def eqI (r : Option Nat) (i : Nat) : Int := match r with | some k => (k : Int) - (i : Int) | none => -1
theorem index_eqGo (s : ByteArray) : ∀ (n i : Nat), n = s.size - i → Lib.index (s.data.toList.drop i) [61] = eqI (eqGo s n i) i := by
  intro n
  induction n with
  | zero => intro i h; rw [drop_end s i (by omega)]; rfl
  | succ n ih =>
    intro i h
    obtain ⟨b, e, hb⟩ := byteAt_list s i (by omega)
    have ih2 := ih (i + 1) (by omega)
    rw [e]
    unfold Lib.index eqGo
    rw [ih2]
    by_cases hc : byteAt s i = 61
    · rw [if_pos hc, if_pos]
      · show (0 : Int) = (i : Int) - (i : Int); omega
      · have h61 : b = 61 := by rw [← UInt8.toNat_inj, ← hb]; exact hc
        rw [h61]; rfl
    · rw [if_neg hc, if_neg]
      · cases hg : eqGo s n (i + 1) with
        | none => rfl
        | some k =>
          have := eqGo_in s _ _ _ hg
          show (if ((k : Int) - ((i + 1 : Nat) : Int) == -1) = true then (-1 : Int) else (k : Int) - ((i + 1 : Nat) : Int) + 1) = (k : Int) - (i : Int)
          rw [if_neg (by rw [beq_iff_eq]; omega)]; omega
      · intro hp
        apply hc
        simp only [List.isPrefixOf, Bool.and_eq_true, beq_iff_eq, and_true] at hp
        rw [hb, ← hp]; rfl
theorem index_eq (s : ByteArray) : Lib.indexB s ⟨#[61]⟩ = eqI (eqAt s) 0 := by
  show Lib.index s.data.toList [61] = _
  have := index_eqGo s s.size 0 rfl
  rw [List.drop_zero] at this
  exact this
theorem cut_eq (s : ByteArray) (w : World) (hs : s.size ≤ 1048576) (hm : Lim w) :
    Calls Tryz.prog 114 #[.string s, .string ⟨#[61]⟩] w fun e w' => ∃ b, e = .returned (.tuple #[.string (nameOf s), .string (behind s), .bool b]) ∧ ∃ n, w.drewN n = w' := by
  obtain ⟨m, hm⟩ := hm
  refine (Shelf.strings_Cut s ⟨#[61]⟩ m w (by omega) hm).mono ?_
  rintro e w' ⟨rfl, n, rfl⟩
  cases he : eqAt s with
  | none =>
    obtain ⟨e1, e2, e3⟩ := Lib.cutB_miss s ⟨#[61]⟩ (by rw [index_eq, he]; rfl)
    obtain ⟨n1, n2⟩ := name_none he
    exact ⟨_, by rw [e1, e2, e3, n1, n2]; rfl, n, rfl⟩
  | some k =>
    obtain ⟨e1, e2, e3⟩ := Lib.cutB_hit s ⟨#[61]⟩ k (by rw [index_eq, he]; show (k : Int) - ((0 : Nat) : Int) = (k : Int); omega)
    obtain ⟨n1, n2⟩ := name_some he
    exact ⟨_, by rw [e1, e2, e3, n1, n2]; rfl, n, rfl⟩
end Cc
end Go.Proofs.YtihiljickefanaaGreatDoor
namespace Go.Proofs.YtihiljickefanaaGreatDoor
open Go.RowKit
set_option linter.unusedVariables false
namespace Cc
open Line (byteAt byteAt_eq)

set_option maxRecDepth 100000 in
set_option maxHeartbeats 1000000 in
theorem unq_impl (s : ByteArray) (w : World) (hs : s.size ≤ maxLen) : Calls Tryz.prog 116 #[.string s] w fun e w' => e = .returned (.string (unq s)) ∧ w = w' := by
  unfold maxLen at hs
  obtain ⟨r, hr⟩ : ∃ r, unq s = r := ⟨_, rfl⟩
  rw [hr]
  by_cases h2 : 2 ≤ s.size
  · obtain ⟨n, hn⟩ : ∃ n, s.size = n + 1 := ⟨s.size - 1, by omega⟩
    have h0 : 0 < s.size := by omega
    have hnl : n < s.size := by omega
    have i0 : ((n : Int) + 1 - 1) = n := by omega
    have hn1 : (1 : Int) ≤ (n : Int) := by omega
    have hn2 : (n : Int) ≤ (n : Int) + 1 := by omega
    by_cases ha : (s[0]).toNat = 34
    · have da : (((s[0]).toNat : Int) != 34) = false := by rw [bne_eq_false_iff_eq]; omega
      by_cases hb : (s[n]).toNat = 34
      · have db : (((s[n]).toNat : Int) != 34) = false := by rw [bne_eq_false_iff_eq]; omega
        rw [unq_both hn h2 ha hb] at hr
        have HR := Num.hide hr
        have d2 : decide ((n : Int) + 1 < 2) = false := by simp; omega
        clear hr ha hb
        go_enter Tryz.func116, Tryz.ntmps116
        go_wp2
        all_goals go_ret
        all_goals exact ⟨by rw [← HR.out]; rfl, rfl⟩
      · have db : (((s[n]).toNat : Int) != 34) = true := by rw [bne_iff_ne]; omega
        rw [unq_back hn hb] at hr
        subst hr
        have d2 : decide ((n : Int) + 1 < 2) = false := by simp; omega
        clear ha hb
        go_enter Tryz.func116, Tryz.ntmps116
        go_wp2
        all_goals go_ret
        all_goals exact ⟨rfl, rfl⟩
    · have da : (((s[0]).toNat : Int) != 34) = true := by rw [bne_iff_ne]; omega
      rw [unq_front h0 ha] at hr
      subst hr
      have d2 : decide ((n : Int) + 1 < 2) = false := by simp; omega
      clear ha
      go_enter Tryz.func116, Tryz.ntmps116
      go_wp2
      all_goals go_ret
      all_goals exact ⟨rfl, rfl⟩
  · rw [unq_short (by omega)] at hr
    subst hr
    have d2 : decide ((s.size : Int) < 2) = true := by simp; omega
    go_enter Tryz.func116, Tryz.ntmps116
    go_wp2
    all_goals go_ret
    all_goals exact ⟨rfl, rfl⟩
end Cc
end Go.Proofs.YtihiljickefanaaGreatDoor
