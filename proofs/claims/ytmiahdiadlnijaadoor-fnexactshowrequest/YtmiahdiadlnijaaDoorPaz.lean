/-
  DecTab: The library's table of powers, kept by whatever makes new memory alone.
  LengthImpl: withLength of the program: the field that says where a body ends is set.
  ShelfBuild: WriteString and String of a strings.Builder at this program, off the library's contracts (their layings typed by hand: lay-plain drops WriteString's).
-/
import Derived.Test.YtmiahdiadlnijaaDoorPay
import Derived.WalkSmall
import Derived.Test.YtmiahdiadlnijaaDoorPam
import Derived.Shelf.Strings.BuilderF
import Derived.Test.YtmiahdiadlnijaaDoorRows
import Derived.WalkKit
namespace Go.Proofs.YtmiahdiadlnijaaDoor
open Go.RowKit
set_option linter.unusedVariables false
namespace Dec

/-- the library's table of powers lies as it is laid -/
def Tab (w : World) : Prop := Lib.TabIs Tryd.prog w "internal/strconv.uint64pow10" .u64 Lib.pow10Tab
theorem g_tab : Tryd.prog.globalNamed "internal/strconv.uint64pow10" = some 1 := by kernel_rfl
theorem Tab.lt {w : World} (h : Tab w) : 1 < w.heap.size := lt_of_cell (Lib.TabIs.cell h g_tab 0 (by simp [Lib.pow10Tab]))
theorem Tab.below {w w' : World} (h : Tab w) (hb : Below w.heap.size w w') : Tab w' := var?_below hb g_tab h.lt h
theorem Tab.under {w w' : World} {B : Nat} (h : Tab w) (hB : 1 < B) (hb : Below B w w') : Tab w' := var?_below hb g_tab hB h
end Dec
end Go.Proofs.YtmiahdiadlnijaaDoor
namespace Go.Proofs.YtmiahdiadlnijaaDoor
open Go.RowKit
set_option linter.unusedVariables false
namespace Msg

set_option maxRecDepth 100000 in
set_option maxHeartbeats 2000000 in
theorem length_impl (v : Value) (l : List Flds.Fld) (b : ByteArray) (w : World) (h : Flds.Is w v l) (hl : Flds.bulk l ≤ 1048576) (hb : b.size ≤ 60) (hT : Dec.Tab w) :
    Calls Tryd.prog 33 #[v, .string b] w fun e w' => ∃ v', e = .returned v' ∧ Flds.Own w.heap.size w' v' (Flds.set l Body.clName (decB b.size)) ∧ Below w.heap.size w w' := by
  have hdz : (decB b.size).size ≤ 281474976710656 := by
    have h1 := (dec_small b.size hb).1
    unfold Flds.okF at h1
    simp only [Bool.and_eq_true, decide_eq_true_iff] at h1
    omega
  have HD : Hid (∀ W, Dec.Tab W → Calls Tryd.prog 38 #[.int .i64 (b.size : Int)] W fun e w' => e = .returned (.string (decB b.size)) ∧ Below W.heap.size W w') := fun W h => Dec.impl_any (b.size : Int) W (by omega) (by omega) h
  have HS := Num.hide (fun W h => Flds.set_impl v l Body.clName (decB b.size) W h (by omega) (by decide) hdz)
  have HI := Num.hide h
  have HT := Num.hide hT
  generalize decB b.size = D at HD HS
  generalize Flds.set l Body.clName D = L at HS
  obtain ⟨a, c, rfl, _⟩ := Flds.is_form h
  clear h hT hdz
  go_enter Tryd.func33, Tryd.ntmps33
  go_wp2_with fail
  refine (HD.out _ HT.out).mono ?_
  rintro e w1 ⟨rfl, hb1⟩
  have HB1 := Num.hide hb1
  clear hb1
  go_wp2_with fail
  refine (HS.out _ (Recs.is_below HI.out HB1.out)).mono ?_
  rintro e w2 ⟨v2, rfl, ho2, hb2⟩
  have HO2 := Num.hide (Recs.own_mono ho2 HB1.out.size)
  have HB2 := Num.hide (HB1.out.trans (hb2.mono HB1.out.size))
  clear ho2 hb2
  go_wp2
  go_ret
  exact ⟨_, rfl, HO2.out, HB2.out⟩
end Msg
end Go.Proofs.YtmiahdiadlnijaaDoor
namespace Go.Proofs.YtmiahdiadlnijaaDoor
open Go.Shelf Go.RowKit
set_option linter.unusedVariables false
def Shelf.build_ren : Go.Shelf.Ren := ⟨fun | 166 => 51 | 169 => 52 | 240 => 60 | 276 => 73 | n => n, fun | 0 => 0 | 3 => 3 | 4 => 4 | 9 => 9 | 20 => 20 | 37 => 65 | 70 => 64 | 72 => 67 | 75 => 69 | 127 => 77 | 164 => 83 | 5 => 5 | 80 => 72 | n => n, fun | n => n⟩
theorem Shelf.lays166 : Go.Proofs.Lays.n166 Tryd.prog Shelf.build_ren := {
  mixed := by kernel_rfl
  f166 := Tryd.func51.trans (congrArg some (by kernel_rfl))
  f240 := Tryd.func60.trans (congrArg some (by kernel_rfl))
  f276 := Tryd.func73.trans (congrArg some (by kernel_rfl))
  t0 := Tryd.underlying0
  a0 := Tryd.isAgg0
  z0 := Tryd.sizeOf0
  v0 := Tryd.zeroValue0
  t3 := Tryd.underlying3
  a3 := Tryd.isAgg3
  z3 := Tryd.sizeOf3
  v3 := Tryd.zeroValue3
  t4 := Tryd.underlying4
  a4 := Tryd.isAgg4
  z4 := Tryd.sizeOf4
  v4 := Tryd.zeroValue4
  t9 := Tryd.underlying9
  a9 := Tryd.isAgg9
  z9 := Tryd.sizeOf9
  v9 := Tryd.zeroValue9
  t20 := Tryd.underlying20
  a20 := Tryd.isAgg20
  z20 := Tryd.sizeOf20
  v20 := Tryd.zeroValue20
  t37 := Tryd.underlying65
  a37 := Tryd.isAgg65
  z37 := Tryd.sizeOf65
  v37 := Tryd.zeroValue65
  t70 := Tryd.underlying64
  a70 := Tryd.isAgg64
  z70 := Tryd.sizeOf64
  v70 := Tryd.zeroValue64
  t72 := Tryd.underlying67
  a72 := Tryd.isAgg67
  z72 := Tryd.sizeOf67
  v72 := Tryd.zeroValue67
  t75 := Tryd.underlying69
  a75 := Tryd.isAgg69
  z75 := Tryd.sizeOf69
  v75 := Tryd.zeroValue69
  t164 := Tryd.underlying83
  a164 := Tryd.isAgg83
  z164 := Tryd.sizeOf83
  v164 := Tryd.zeroValue83 }
theorem Shelf.lays169 : Go.Proofs.Lays.n169 Tryd.prog Shelf.build_ren := {
  mixed := by kernel_rfl
  f169 := Tryd.func52.trans (congrArg some (by kernel_rfl))
  t0 := Tryd.underlying0
  a0 := Tryd.isAgg0
  z0 := Tryd.sizeOf0
  v0 := Tryd.zeroValue0
  t3 := Tryd.underlying3
  a3 := Tryd.isAgg3
  z3 := Tryd.sizeOf3
  v3 := Tryd.zeroValue3
  t9 := Tryd.underlying9
  a9 := Tryd.isAgg9
  z9 := Tryd.sizeOf9
  v9 := Tryd.zeroValue9
  t37 := Tryd.underlying65
  a37 := Tryd.isAgg65
  z37 := Tryd.sizeOf65
  v37 := Tryd.zeroValue65
  t70 := Tryd.underlying64
  a70 := Tryd.isAgg64
  z70 := Tryd.sizeOf64
  v70 := Tryd.zeroValue64
  t72 := Tryd.underlying67
  a72 := Tryd.isAgg67
  z72 := Tryd.sizeOf67
  v72 := Tryd.zeroValue67
  t127 := Tryd.underlying77
  a127 := Tryd.isAgg77
  z127 := Tryd.sizeOf77
  v127 := Tryd.zeroValue77 }
theorem Shelf.build_extra : Builder.Extra Tryd.prog Shelf.build_ren := {
  sizeBuilder := by kernel_rfl
  liesBuilder := by kernel_rfl
  t5 := Tryd.underlying5
  a5 := Tryd.isAgg5
  z5 := Tryd.sizeOf5
  v5 := Tryd.zeroValue5
  infoByte := by kernel_rfl
  cellsByte := by kernel_rfl
  sizeByte := by kernel_rfl
  neB5 := by decide }
theorem Shelf.writeString (B b : Nat) (bs : List Value) (s : ByteArray) (w : World) (h : Lib.IsBuilderF 67 5 B b bs w) (hlen : bs.length + s.size ≤ 140737488355328) (hBw : B ≤ w.heap.size) :
    Calls Tryd.prog 51 #[.pointer (some ⟨b, 0, none⟩), .string s] w fun e w' => e = .returned (.tuple #[.int .i64 s.size, .nilIface]) ∧ (Lib.BuilderAtF 67 5 B b (.pointer (some ⟨b, 0, none⟩)) (bs ++ Lib.strCells s) w' ∧ Below B w w') :=
  Any.Builder_WriteString_f Shelf.lays166 Shelf.build_extra B b bs s w h hlen hBw
theorem Shelf.builderString (B b : Nat) (l : List UInt8) (w : World) (h : Lib.IsBuilderF 67 5 B b (Lib.byteCells l) w) (hBw : B ≤ w.heap.size) :
    Calls Tryd.prog 52 #[.pointer (some ⟨b, 0, none⟩)] w fun e w' => e = .returned (.string ⟨l.toArray⟩) ∧ (Lib.IsBuilderF 67 5 B b (Lib.byteCells l) w' ∧ Below B w w') :=
  Any.Builder_String_any_f Shelf.lays169 Shelf.build_extra B b l w h hBw
end Go.Proofs.YtmiahdiadlnijaaDoor
