/-
  ShelfItoa: Library contracts at this program: strconv_Itoa.
  DecImpl: Dec of the program: what the call returns, for every number, where the library's table of powers lies as it is laid; old memory stays as it was.
  DecTab: The library's table of powers, kept by whatever makes new memory alone.
  LengthImpl: withLength of the program: the field that says where a body ends is set.
  ShelfBuild: WriteString and String of a strings.Builder at this program, off the library's contracts (their layings typed by hand: lay-plain drops WriteString's).
  FldShowImpl: ShowFields of the program: the text of fields, put together in a builder; what was there stays.
  ReqShowImpl: ShowRequest of the program: the text of a request.
-/
import Derived.Shelf.Strings.Builder1
import Derived.Shelf.Strings.Builder2
import Derived.Shelf.Strings.OnBuilder
import Derived.Shelf.Strings.Trim
import Derived.Shelf.Small.Utf8
import Derived.Shelf.Small.Strs
import Derived.Shelf.Strings.BuilderF
import Derived.Shelf.Strings.BuilderK
import Derived.Shelf.Strconv.Atoi
import Derived.Shelf.Strconv.Itoa0
import Derived.Shelf.Strconv.Itoa1
import Derived.Shelf.LaysM
import Derived.Shelf.Strconv.Itoa2
import Derived.Shelf.Strconv.Itoa3
import Derived.Shelf.Strconv.AtoiErrFast
import Derived.Shelf.Strconv.ParseIntEmpty
import Derived.Shelf.Strconv.AtoiFail
import Derived.Shelf.Strconv.Clone
import Derived.Shelf.Strconv.SyntaxError
import Derived.Shelf.LaysC
import Derived.Shelf.Strconv.ToError
import Derived.Shelf.Strconv.AtoiErr
import Derived.Shelf.Strconv.ErrVar
import Derived.Shelf.Strings.Search1
import Derived.Shelf.Strings.Search2
import Derived.Shelf.Strings.Search3
import Derived.Shelf.Strings.Cut
import Derived.Shelf.Strings.Shaped
import Derived.Shelf.Strings.Prefix
import Derived.Shelf.Unicode.Decode
import Derived.Shelf.Strings.Runes
import Derived.Shelf.Strings.AsciiSet
import Derived.Shelf.Unicode.DecodeSlow
import Derived.Shelf.Unicode.DecodeAny
import Derived.Shelf.Unicode.DecodeLast
import Derived.Test.YtbajfklnekfeoaaGreatDoorRows
import Derived.Test.YtbajfklnekfeoaaGreatDoorPab
import Derived.WalkKit
import Derived.WalkLawsBesides
import Derived.WalkSmall
import Derived.Test.YtbajfklnekfeoaaGreatDoorPal
import Derived.Test.YtbajfklnekfeoaaGreatDoorPam
import Derived.Test.YtbajfklnekfeoaaGreatDoorPaj
import Derived.Test.YtbajfklnekfeoaaGreatDoorPah
import Derived.Test.YtbajfklnekfeoaaGreatDoorRegLaw
import Derived.Deep.Cut
namespace Go.Proofs.YtbajfklnekfeoaaGreatDoor
open Go.Shelf
def Shelf.laysM171_ren : Go.Shelf.Ren := ⟨fun | 171 => 113 | 243 => 163 | 246 => 89 | 283 => 140 | 284 => 141 | 285 => 142 | 286 => 143 | 129 => 172 | 317 => 171 | 318 => 173 | 319 => 174 | 320 => 175 | 337 => 192 | 338 => 193 | n => n, fun | 3 => 3 | 9 => 9 | 2 => 2 | 4 => 4 | 171 => 157 | 0 => 0 | 53 => 80 | 37 => 22 | 5 => 5 | 173 => 160 | 212 => 187 | 51 => 188 | 20 => 20 | 213 => 189 | 46 => 141 | 232 => 207 | 233 => 208 | n => n, fun | 17 => 4 | 18 => 6 | 19 => 7 | n => n⟩
theorem Shelf.laysM171 : Go.Proofs.LaysM.n171 Tryz.prog Shelf.laysM171_ren := {
  mixed := by kernel_rfl
  f129 := Tryz.func172.trans (congrArg some (by kernel_rfl))
  f171 := Tryz.func113.trans (congrArg some (by kernel_rfl))
  f243 := Tryz.func163.trans (congrArg some (by kernel_rfl))
  f246 := Tryz.func89.trans (congrArg some (by kernel_rfl))
  f283 := Tryz.func140.trans (congrArg some (by kernel_rfl))
  f284 := Tryz.func141.trans (congrArg some (by kernel_rfl))
  f285 := Tryz.func142.trans (congrArg some (by kernel_rfl))
  f286 := Tryz.func143.trans (congrArg some (by kernel_rfl))
  f317 := Tryz.func171.trans (congrArg some (by kernel_rfl))
  f318 := Tryz.func173.trans (congrArg some (by kernel_rfl))
  f319 := Tryz.func174.trans (congrArg some (by kernel_rfl))
  f320 := Tryz.func175.trans (congrArg some (by kernel_rfl))
  f337 := Tryz.func192.trans (congrArg some (by kernel_rfl))
  f338 := Tryz.func193.trans (congrArg some (by kernel_rfl))
  t0 := Tryz.underlying0
  a0 := Tryz.isAgg0
  z0 := Tryz.sizeOf0
  v0 := Tryz.zeroValue0
  t2 := Tryz.underlying2
  a2 := Tryz.isAgg2
  z2 := Tryz.sizeOf2
  v2 := Tryz.zeroValue2
  t3 := Tryz.underlying3
  a3 := Tryz.isAgg3
  z3 := Tryz.sizeOf3
  v3 := Tryz.zeroValue3
  t4 := Tryz.underlying4
  a4 := Tryz.isAgg4
  z4 := Tryz.sizeOf4
  v4 := Tryz.zeroValue4
  t5 := Tryz.underlying5
  a5 := Tryz.isAgg5
  z5 := Tryz.sizeOf5
  v5 := Tryz.zeroValue5
  t9 := Tryz.underlying9
  a9 := Tryz.isAgg9
  z9 := Tryz.sizeOf9
  v9 := Tryz.zeroValue9
  t20 := Tryz.underlying20
  a20 := Tryz.isAgg20
  z20 := Tryz.sizeOf20
  v20 := Tryz.zeroValue20
  t37 := Tryz.underlying22
  a37 := Tryz.isAgg22
  z37 := Tryz.sizeOf22
  v37 := Tryz.zeroValue22
  t46 := Tryz.underlying141
  a46 := Tryz.isAgg141
  z46 := Tryz.sizeOf141
  v46 := Tryz.zeroValue141
  t51 := Tryz.underlying188
  a51 := Tryz.isAgg188
  z51 := Tryz.sizeOf188
  v51 := Tryz.zeroValue188
  t53 := Tryz.underlying80
  a53 := Tryz.isAgg80
  z53 := Tryz.sizeOf80
  v53 := Tryz.zeroValue80
  t171 := Tryz.underlying157
  a171 := Tryz.isAgg157
  z171 := Tryz.sizeOf157
  v171 := Tryz.zeroValue157
  t173 := Tryz.underlying160
  a173 := Tryz.isAgg160
  z173 := Tryz.sizeOf160
  v173 := Tryz.zeroValue160
  t212 := Tryz.underlying187
  a212 := Tryz.isAgg187
  z212 := Tryz.sizeOf187
  v212 := Tryz.zeroValue187
  t213 := Tryz.underlying189
  a213 := Tryz.isAgg189
  z213 := Tryz.sizeOf189
  t232 := Tryz.underlying207
  a232 := Tryz.isAgg207
  z232 := Tryz.sizeOf207
  v232 := Tryz.zeroValue207
  t233 := Tryz.underlying208
  a233 := Tryz.isAgg208
  z233 := Tryz.sizeOf208
  v233 := Tryz.zeroValue208
  g17 := by kernel_rfl
  g18 := by kernel_rfl
  g19 := by kernel_rfl
  i0 := by kernel_rfl
  i2 := by kernel_rfl
  i3 := by kernel_rfl
  i4 := by kernel_rfl
  i5 := by kernel_rfl
  i9 := by kernel_rfl
  i20 := by kernel_rfl
  i37 := by kernel_rfl
  i46 := by kernel_rfl
  i51 := by kernel_rfl
  i53 := by kernel_rfl
  i171 := by kernel_rfl
  i173 := by kernel_rfl
  i212 := by kernel_rfl
  i232 := by kernel_rfl
  i233 := by kernel_rfl
  m17 := by kernel_rfl
  m18 := by kernel_rfl
  m19 := by kernel_rfl }
open Go.RowKit Go.Sort Go.Lib in
theorem Shelf.strconv_Itoa (n : Int) (h0 : -9223372036854775808 ≤ n) (h1 : n ≤ 9223372036854775807) (w : World) (htab : Lib.TabIs Tryz.prog w "internal/strconv.uint64pow10" .u64 Lib.pow10Tab) :
    Calls Tryz.prog 113 #[.int .i64 n] w fun e w' => e = .returned (.string ⟨(Lib.itoa n).toArray⟩) ∧ ∃ k os, w' = grow (w.drewN k) os := Any.strconv_Itoa Shelf.laysM171 n h0 h1 w htab
end Go.Proofs.YtbajfklnekfeoaaGreatDoor
namespace Go.Proofs.YtbajfklnekfeoaaGreatDoor
open Go.RowKit
set_option linter.unusedVariables false
namespace Dec

theorem below_grow (w : World) (k : Nat) (os : Array Obj) : Below w.heap.size w (Sort.grow (w.drewN k) os) :=
  (below_drewN (Below.refl _ _) k).trans ⟨rfl, rfl, rfl, by simp, fun i hi => by
    show (w.heap ++ os)[i]? = w.heap[i]?
    exact Array.getElem?_append_left hi⟩
theorem lt_of_cell {w : World} {a : Addr} {v : Value} (h : w.cell? a = some v) : a.block < w.heap.size := by
  apply Decidable.byContradiction
  intro hc
  have hn : w.heap[a.block]? = none := Array.getElem?_eq_none (by omega)
  simp [World.cell?, hn] at h
theorem impl_any (n : Int) (w : World) (h0 : -9223372036854775808 ≤ n) (h1 : n ≤ 9223372036854775807) (htab : Lib.TabIs Tryz.prog w "internal/strconv.uint64pow10" .u64 Lib.pow10Tab) :
    Calls Tryz.prog 60 #[.int .i64 n] w fun e w' => e = .returned (.string ⟨(Lib.itoa n).toArray⟩) ∧ Below w.heap.size w w' := by
  have hI := Num.hide (Shelf.strconv_Itoa n h0 h1 w htab)
  clear htab
  go_enter Tryz.func60, Tryz.ntmps60
  go_wp2_with fail
  refine (Num.unhide hI).mono ?_
  rintro e w1 ⟨rfl, k, os, rfl⟩
  have hb := below_grow w k os
  go_wp2
  go_ret
  exact ⟨rfl, hb⟩
end Dec
end Go.Proofs.YtbajfklnekfeoaaGreatDoor
namespace Go.Proofs.YtbajfklnekfeoaaGreatDoor
open Go.RowKit
set_option linter.unusedVariables false
namespace Dec

/-- the library's table of powers lies as it is laid -/
def Tab (w : World) : Prop := Lib.TabIs Tryz.prog w "internal/strconv.uint64pow10" .u64 Lib.pow10Tab
theorem g_tab : Tryz.prog.globalNamed "internal/strconv.uint64pow10" = some 4 := by kernel_rfl
theorem Tab.lt {w : World} (h : Tab w) : 4 < w.heap.size := lt_of_cell (Lib.TabIs.cell h g_tab 0 (by simp [Lib.pow10Tab]))
theorem Tab.below {w w' : World} (h : Tab w) (hb : Below w.heap.size w w') : Tab w' := var?_below hb g_tab h.lt h
theorem Tab.under {w w' : World} {B : Nat} (h : Tab w) (hB : 4 < B) (hb : Below B w w') : Tab w' := var?_below hb g_tab hB h
end Dec
end Go.Proofs.YtbajfklnekfeoaaGreatDoor
namespace Go.Proofs.YtbajfklnekfeoaaGreatDoor
open Go.RowKit
set_option linter.unusedVariables false
namespace Msg

set_option maxRecDepth 100000 in
set_option maxHeartbeats 2000000 in
theorem length_impl (v : Value) (l : List Flds.Fld) (b : ByteArray) (w : World) (h : Flds.Is w v l) (hl : Flds.bulk l ≤ 1048576) (hb : b.size ≤ 60) (hT : Dec.Tab w) :
    Calls Tryz.prog 52 #[v, .string b] w fun e w' => ∃ v', e = .returned v' ∧ Flds.Own w.heap.size w' v' (Flds.set l Body.clName (decB b.size)) ∧ Below w.heap.size w w' := by
  have hdz : (decB b.size).size ≤ 281474976710656 := by
    have h1 := (dec_small b.size hb).1
    unfold Flds.okF at h1
    simp only [Bool.and_eq_true, decide_eq_true_iff] at h1
    omega
  have HD : Hid (∀ W, Dec.Tab W → Calls Tryz.prog 60 #[.int .i64 (b.size : Int)] W fun e w' => e = .returned (.string (decB b.size)) ∧ Below W.heap.size W w') := fun W h => Dec.impl_any (b.size : Int) W (by omega) (by omega) h
  have HS := Num.hide (fun W h => Flds.set_impl v l Body.clName (decB b.size) W h (by omega) (by decide) hdz)
  have HI := Num.hide h
  have HT := Num.hide hT
  generalize decB b.size = D at HD HS
  generalize Flds.set l Body.clName D = L at HS
  obtain ⟨a, c, rfl, _⟩ := Flds.is_form h
  clear h hT hdz
  go_enter Tryz.func52, Tryz.ntmps52
  go_wp2_with fail
  refine (HD.out _ HT.out).mono ?_
  rintro e w1 ⟨rfl, hb1⟩
  have HB1 := Num.hide hb1
  clear hb1
  go_wp2_with fail
  refine (HS.out _ (Recs.is_below HI.out HB1.out)).mono ?_
  rintro e w2 ⟨v2, rfl, ho2, hb2⟩
  have HO2 := Num.hide (Recs.own_mono ho2 HB1.out.size)
  have HB2 := Num.hide (HB1.out.trans (hb2.mono HB1.out.size))
  clear ho2 hb2
  go_wp2
  go_ret
  exact ⟨_, rfl, HO2.out, HB2.out⟩
end Msg
end Go.Proofs.YtbajfklnekfeoaaGreatDoor
namespace Go.Proofs.YtbajfklnekfeoaaGreatDoor
open Go.Shelf Go.RowKit
set_option linter.unusedVariables false
def Shelf.build_ren : Go.Shelf.Ren := ⟨fun | 166 => 40 | 169 => 42 | 240 => 84 | 276 => 129 | n => n, fun | 0 => 0 | 3 => 3 | 4 => 4 | 9 => 9 | 20 => 20 | 37 => 22 | 70 => 64 | 72 => 66 | 75 => 71 | 127 => 111 | 164 => 142 | 5 => 5 | 80 => 75 | n => n, fun | n => n⟩
theorem Shelf.lays166 : Go.Proofs.Lays.n166 Tryz.prog Shelf.build_ren := {
  mixed := by kernel_rfl
  f166 := Tryz.func40.trans (congrArg some (by kernel_rfl))
  f240 := Tryz.func84.trans (congrArg some (by kernel_rfl))
  f276 := Tryz.func129.trans (congrArg some (by kernel_rfl))
  t0 := Tryz.underlying0
  a0 := Tryz.isAgg0
  z0 := Tryz.sizeOf0
  v0 := Tryz.zeroValue0
  t3 := Tryz.underlying3
  a3 := Tryz.isAgg3
  z3 := Tryz.sizeOf3
  v3 := Tryz.zeroValue3
  t4 := Tryz.underlying4
  a4 := Tryz.isAgg4
  z4 := Tryz.sizeOf4
  v4 := Tryz.zeroValue4
  t9 := Tryz.underlying9
  a9 := Tryz.isAgg9
  z9 := Tryz.sizeOf9
  v9 := Tryz.zeroValue9
  t20 := Tryz.underlying20
  a20 := Tryz.isAgg20
  z20 := Tryz.sizeOf20
  v20 := Tryz.zeroValue20
  t37 := Tryz.underlying22
  a37 := Tryz.isAgg22
  z37 := Tryz.sizeOf22
  v37 := Tryz.zeroValue22
  t70 := Tryz.underlying64
  a70 := Tryz.isAgg64
  z70 := Tryz.sizeOf64
  v70 := Tryz.zeroValue64
  t72 := Tryz.underlying66
  a72 := Tryz.isAgg66
  z72 := Tryz.sizeOf66
  v72 := Tryz.zeroValue66
  t75 := Tryz.underlying71
  a75 := Tryz.isAgg71
  z75 := Tryz.sizeOf71
  v75 := Tryz.zeroValue71
  t164 := Tryz.underlying142
  a164 := Tryz.isAgg142
  z164 := Tryz.sizeOf142
  v164 := Tryz.zeroValue142 }
theorem Shelf.lays169 : Go.Proofs.Lays.n169 Tryz.prog Shelf.build_ren := {
  mixed := by kernel_rfl
  f169 := Tryz.func42.trans (congrArg some (by kernel_rfl))
  t0 := Tryz.underlying0
  a0 := Tryz.isAgg0
  z0 := Tryz.sizeOf0
  v0 := Tryz.zeroValue0
  t3 := Tryz.underlying3
  a3 := Tryz.isAgg3
  z3 := Tryz.sizeOf3
  v3 := Tryz.zeroValue3
  t9 := Tryz.underlying9
  a9 := Tryz.isAgg9
  z9 := Tryz.sizeOf9
  v9 := Tryz.zeroValue9
  t37 := Tryz.underlying22
  a37 := Tryz.isAgg22
  z37 := Tryz.sizeOf22
  v37 := Tryz.zeroValue22
  t70 := Tryz.underlying64
  a70 := Tryz.isAgg64
  z70 := Tryz.sizeOf64
  v70 := Tryz.zeroValue64
  t72 := Tryz.underlying66
  a72 := Tryz.isAgg66
  z72 := Tryz.sizeOf66
  v72 := Tryz.zeroValue66
  t127 := Tryz.underlying111
  a127 := Tryz.isAgg111
  z127 := Tryz.sizeOf111
  v127 := Tryz.zeroValue111 }
theorem Shelf.build_extra : Builder.Extra Tryz.prog Shelf.build_ren := {
  sizeBuilder := by kernel_rfl
  liesBuilder := by kernel_rfl
  t5 := Tryz.underlying5
  a5 := Tryz.isAgg5
  z5 := Tryz.sizeOf5
  v5 := Tryz.zeroValue5
  infoByte := by kernel_rfl
  cellsByte := by kernel_rfl
  sizeByte := by kernel_rfl
  neB5 := by decide }
theorem Shelf.writeString (B b : Nat) (bs : List Value) (s : ByteArray) (w : World) (h : Lib.IsBuilderF 66 5 B b bs w) (hlen : bs.length + s.size ≤ 140737488355328) (hBw : B ≤ w.heap.size) :
    Calls Tryz.prog 40 #[.pointer (some ⟨b, 0, none⟩), .string s] w fun e w' => e = .returned (.tuple #[.int .i64 s.size, .nilIface]) ∧ (Lib.BuilderAtF 66 5 B b (.pointer (some ⟨b, 0, none⟩)) (bs ++ Lib.strCells s) w' ∧ Below B w w') :=
  Any.Builder_WriteString_f Shelf.lays166 Shelf.build_extra B b bs s w h hlen hBw
theorem Shelf.builderString (B b : Nat) (l : List UInt8) (w : World) (h : Lib.IsBuilderF 66 5 B b (Lib.byteCells l) w) (hBw : B ≤ w.heap.size) :
    Calls Tryz.prog 42 #[.pointer (some ⟨b, 0, none⟩)] w fun e w' => e = .returned (.string ⟨l.toArray⟩) ∧ (Lib.IsBuilderF 66 5 B b (Lib.byteCells l) w' ∧ Below B w w') :=
  Any.Builder_String_any_f Shelf.lays169 Shelf.build_extra B b l w h hBw
end Go.Proofs.YtbajfklnekfeoaaGreatDoor
namespace Go.Proofs.YtbajfklnekfeoaaGreatDoor
open Go.RowKit
set_option linter.unusedVariables false
namespace Flds

theorem str_app (a b : ByteArray) : Lib.strCells a ++ Lib.strCells b = Lib.strCells (a ++ b) := by
  unfold Lib.strCells
  rw [← List.map_append]
  congr 1
theorem one_line (x y : ByteArray) (s : ByteArray) : s ++ (x ++ ⟨#[58]⟩ ++ ⟨#[32]⟩ ++ y ++ ⟨#[13, 10]⟩) = showStep s (x, y) := by
  have e : (⟨#[58, 32]⟩ : ByteArray) = ⟨#[58]⟩ ++ ⟨#[32]⟩ := by decide
  unfold showStep
  rw [e]
  simp only [ByteArray.append_assoc]
theorem bulk_sizes {l : List Fld} {m : Nat} (hl : bulk l ≤ m) : ∀ f ∈ l, f.1.size ≤ m ∧ f.2.size ≤ m := by
  intro f hf
  obtain ⟨i, hi, rfl⟩ := List.getElem_of_mem hf
  have h3 := bulk_take l i hi
  have h4 := bulk_le l (i + 1)
  unfold bulk at hl
  omega
set_option maxRecDepth 100000 in
set_option maxHeartbeats 2000000 in
theorem show_impl (v : Value) (l : List Fld) (w : World) (h : Is w v l) (hl : bulk l ≤ 1048576) (hS : Sign.Signs w) :
    Calls Tryz.prog 51 #[v] w fun e w' => e = .returned (.string (shown l)) ∧ Below w.heap.size w w' := by
  have HC := Num.hide (ok_impl v l w h (fun f hf => by have := bulk_sizes hl f hf; unfold maxLen; omega) hS)
  have hlen : l.length ≤ 1048576 := by unfold bulk at hl; omega
  obtain ⟨a, c, rfl, h2⟩ := is_form h
  have HA := Num.hide h2
  clear h h2 hS
  obtain ⟨r, hr⟩ : ∃ r, shown l = r := ⟨_, rfl⟩
  rw [hr]
  unfold shown at hr
  cases hok : ok l with
  | false =>
    rw [hok, if_neg (by simp)] at hr
    rw [hok] at HC
    subst hr
    clear hok
    go_enter Tryz.func51, Tryz.ntmps51
    go_wp2_with fail
    refine HC.out.mono ?_
    rintro e w1 ⟨rfl, hb⟩
    have HB := Num.hide hb
    clear hb
    go_wp2
    go_ret
    exact ⟨rfl, HB.out⟩
  | true =>
    rw [hok, if_pos rfl] at hr
    rw [hok] at HC
    have HR := Num.hide hr
    clear hok hr
    go_enter Tryz.func51, Tryz.ntmps51
    go_wp2_with fail
    refine HC.out.mono ?_
    rintro e w1 ⟨rfl, hb⟩
    have HB := Num.hide hb
    have hs1 := hb.size
    clear hb HC
    have H0 := Num.hide (Lib.IsBuilderF.of (Lib.fresh_isBuilder 66 5 w1))
    have HL0 := Num.hide ((Below.refl w1.heap.size w1).alloc (Nat.le_refl _) (.cells #[.pointer none, .slice none 0 0] 66))
    go_wp2
    go_loopw [11] (fun iv wr => ∃ (i : Nat) (s : ByteArray), i ≤ l.length ∧ iv = .int .i64 (i : Int) ∧ Hid (showGo (l.take i) = s) ∧ Hid (Lib.IsBuilderF 66 5 w1.heap.size w1.heap.size (Lib.strCells s) wr) ∧ Hid (Below w1.heap.size w1 wr)) (fun iv _ => l.length - (intOf iv).toNat)
    case atStart => exact ⟨0, _, by omega, rfl, rfl, H0, HL0⟩
    case round =>
      clear H0 HL0
      obtain ⟨i, s, hi, rfl, HS, HU, HL⟩ := hrel
      have hss : s.size ≤ 8796093022208 := by
        have h1 := showGo_size (l.take i)
        have h2 := bulk_le l i
        rw [HS.out, List.length_take] at h1
        unfold bulk at hl
        omega
      have hs2 := HL.out.size
      by_cases hlt : i < l.length
      · obtain ⟨b, o, rfl, hc, hmx, hblt, hcell⟩ := Num.unhide HA (by omega)
        obtain ⟨g1, g2⟩ := hcell i hlt
        have c1 : wr.cell? ⟨b, o + i * 2, none⟩ = some (.string l[i].1) := by rw [HL.out.cell (p := ⟨b, o + i * 2, none⟩) (by show b < _; omega), HB.out.cell (p := ⟨b, o + i * 2, none⟩) hblt]; exact g1
        have c2 : wr.cell? ⟨b, o + i * 2 + 1, none⟩ = some (.string l[i].2) := by rw [HL.out.cell (p := ⟨b, o + i * 2 + 1, none⟩) (by show b < _; omega), HB.out.cell (p := ⟨b, o + i * 2 + 1, none⟩) hblt]; exact g2
        have hT := showGo_take l i hlt
        rw [HS.out] at hT
        have HT := Num.hide hT
        have hxy : (l[i]).1.size ≤ 1048576 ∧ (l[i]).2.size ≤ 1048576 := bulk_sizes hl _ (List.getElem_mem hlt)
        clear hcell g1 g2 hT
        generalize l[i] = f at c1 c2 HT hxy
        obtain ⟨x, y⟩ := f
        simp only at c1 c2 hxy
        have HW := Num.hide (Shelf.writeString w1.heap.size w1.heap.size (Lib.strCells s) (x ++ ⟨#[58]⟩ ++ ⟨#[32]⟩ ++ y ++ ⟨#[13, 10]⟩) (wr.alloc (.cells #[.string x, .string y] 36)) (HU.out.alloc _) (by rw [Lib.strCells_length]; simp only [ByteArray.size_append]; have h1 : (⟨#[58]⟩ : ByteArray).size = 1 := rfl; have h2 : (⟨#[32]⟩ : ByteArray).size = 1 := rfl; have h3 : (⟨#[13, 10]⟩ : ByteArray).size = 2 := rfl; omega) (by simp; omega))
        have HL2 := Num.hide (HL.out.alloc hs2 (.cells #[.string x, .string y] 36))
        go_wp2_with fail
        refine (Num.unhide HW).mono ?_
        rintro e w2 ⟨rfl, hu, hb2⟩
        have HU2 : Hid (Lib.IsBuilderF 66 5 w1.heap.size w1.heap.size (Lib.strCells (showStep s (x, y))) w2) := by
          rw [← one_line, ← str_app]; exact Or.inr hu
        have HL3 := Num.hide (HL2.out.trans hb2)
        clear hu hb2 HL2 HW HL HU
        go_wp2
        go_roundw
        case rel => exact ⟨i + 1, _, by omega, by go_num, HT, HU2, HL3⟩
        case measure => simp [intOf]; omega
      · obtain rfl : i = l.length := by omega
        have hs := HS.out
        rw [List.take_of_length_le (Nat.le_refl _)] at hs
        have hr := HR.out
        rw [hs] at hr
        subst hr
        clear hs
        have HW := Num.hide (Shelf.writeString w1.heap.size w1.heap.size (Lib.strCells s) ⟨#[13, 10]⟩ wr HU.out (by rw [Lib.strCells_length]; have h3 : (⟨#[13, 10]⟩ : ByteArray).size = 2 := rfl; omega) hs2)
        rw [str_app] at HW
        have HF := Num.hide (fun W k => Shelf.builderString w1.heap.size w1.heap.size (s ++ ⟨#[13, 10]⟩).data.toList W k)
        go_wp2_with fail
        refine (Num.unhide HW).mono ?_
        rintro e w2 ⟨rfl, hu, hb2⟩
        have HU2 := Num.hide hu
        have HL2 := Num.hide (HL.out.trans hb2)
        have hs3 := HL2.out.size
        clear hu hb2
        go_wp2_with fail
        refine (Num.unhide HF _ (Or.inr HU2.out) (by omega)).mono ?_
        rintro e w3 ⟨rfl, hu, hb3⟩
        have HL3 := Num.hide (HB.out.trans ((HL2.out.trans hb3).mono hs1))
        clear hu hb3
        go_wp2
        go_ret
        exact ⟨rfl, HL3.out⟩
end Flds
end Go.Proofs.YtbajfklnekfeoaaGreatDoor
namespace Go.Proofs.YtbajfklnekfeoaaGreatDoor
open Go.RowKit
set_option linter.unusedVariables false
set_option linter.unusedSimpArgs false
namespace Msg

set_option maxRecDepth 100000 in
set_option maxHeartbeats 4000000 in
theorem showReq_impl (m u : ByteArray) (v : Value) (l : List Flds.Fld) (b : ByteArray) (w : World) (h : Flds.Is w v l) (hl : Flds.bulk l ≤ 1048576) (hm : m.size ≤ 1048576) (hu : u.size ≤ 1048576) (hb : b.size ≤ 1048576) (hS : Sign.Signs w) (hT : Dec.Tab w) :
    Calls Tryz.prog 18 #[Req.val m u v b] w fun e w' => e = .returned (.string (showReq m u l b)) ∧ Below w.heap.size w w' := by
  have HOk := Num.hide (fun v W h hS => reqOk_impl m u v l b W h hl hm hu hb hS)
  have HSg := Num.hide hS
  have hsg := Flds.signs_lt hS
  have HI := Num.hide h
  unfold Req.val at HOk ⊢
  obtain ⟨a, c, rfl, _⟩ := Flds.is_form h
  have HB0 := Num.hide ((Below.refl w.heap.size w).alloc (Nat.le_refl _) (.cells #[.string m, .string u, .slice a l.length c, .string b] 39))
  clear h hS
  cases hok : reqOk m u l b with
  | true =>
    obtain ⟨h1, h2, h3, h4, h5⟩ := req_parts hok
    have hfo := ok_framed h4 b h5
    have hsm := shown_small hfo
    have HSh := Num.hide (fun v W h hS => Flds.show_impl v (framed l b) W h (ok_bulk hfo) hS)
    have HF := Num.hide (fun W h (hT : Dec.Tab W) => length_impl (.slice a l.length c) l b W h hl h5 hT)
    rw [set_plain h4] at HF
    have HTb := Num.hide hT
    have hsr : showReq m u l b = reqText m u l b := by unfold showReq; rw [if_pos hok]
    rw [hsr]
    obtain ⟨r, hr⟩ : ∃ r, reqText m u l b = r := ⟨_, rfl⟩
    rw [hr]
    unfold reqText at hr
    rw [hok] at HOk
    generalize Flds.shown (framed l b) = S at HSh hr hsm
    have hu20 : u.size ≤ 20 := by
      unfold uriOk at h3
      simp only [Bool.and_eq_true, decide_eq_true_iff] at h3
      exact h3.1.2.2
    have e32 : (⟨#[32, 72, 84, 84, 80, 47, 49, 46, 49, 13, 10]⟩ : ByteArray) = ⟨#[32]⟩ ++ ⟨#[72, 84, 84, 80, 47, 49, 46, 49]⟩ ++ ⟨#[13, 10]⟩ := by decide
    rw [e32, ← ByteArray.append_assoc, ← ByteArray.append_assoc] at hr
    have HR := Num.hide hr
    have f1 : ¬ 9223372036854775807 < m.size + 1 := by omega
    have f2 : ¬ 9223372036854775807 < m.size + 1 + u.size := by omega
    have f3 : ¬ 9223372036854775807 < m.size + 1 + u.size + 1 := by omega
    have f4 : ¬ 9223372036854775807 < m.size + 1 + u.size + 1 + 8 := by omega
    have f5 : ¬ 9223372036854775807 < m.size + 1 + u.size + 1 + 8 + 2 := by omega
    have f6 : ¬ 9223372036854775807 < m.size + 1 + u.size + 1 + 8 + 2 + S.size := by omega
    have f7 : ¬ 9223372036854775807 < m.size + 1 + u.size + 1 + 8 + 2 + S.size + b.size := by omega
    clear hr hok h1 h3 h4 hfo hsr hT e32
    go_enter Tryz.func18, Tryz.ntmps18
    go_wp2_with fail
    refine (HOk.out _ _ (Recs.is_stay HI.out (Nat.le_refl _) HB0.out) (Flds.signs_below HSg.out HB0.out hsg)).mono ?_
    rintro e W2 ⟨rfl, hb2⟩
    have HK := Num.hide (Box4.first w _ _ _ _ _ hb2)
    obtain ⟨g0, g1, g2, g3, _⟩ := HK.out
    clear hb2 HOk
    go_upto_region 4 with fail
    refine wp_region_held_drew (S := Box4 w (.string m) (.string u) (.slice a l.length c) (.string b)) (by kernel_rfl) HK.out.drew (fun hHeld => ?_)
    clear g0 g1 g2 g3
    refine Reg.take (i := 0) (d := 16) (v := ?_) rfl rfl (by kernel_rfl) (by kernel_rfl) (by kernel_rfl) (fun _ _ _ h => h) (by rfl) ?_ hHeld ?_
    rotate_left
    · rintro W ⟨g0, g1, g2, g3, g4⟩
      first | (go_simp; done) | (go_simp; with_reducible rfl)
    simp only [Act.put, List.setIfInBounds_toArray, List.set_cons_zero, List.set_cons_succ]
    refine Reg.take (i := 1) (d := 17) (v := ?_) rfl rfl (by kernel_rfl) (by kernel_rfl) (by kernel_rfl) (fun _ _ _ h => h) (by rfl) ?_ hHeld ?_
    rotate_left
    · rintro W ⟨g0, g1, g2, g3, g4⟩
      first | (go_simp; done) | (go_simp; with_reducible rfl)
    simp only [Act.put, List.setIfInBounds_toArray, List.set_cons_zero, List.set_cons_succ]
    refine Reg.take (i := 2) (d := 18) (v := ?_) rfl rfl (by kernel_rfl) (by kernel_rfl) (by kernel_rfl) (fun _ _ _ h => h) (by rfl) ?_ hHeld ?_
    rotate_left
    · rintro W ⟨g0, g1, g2, g3, g4⟩
      first | (go_simp; done) | (go_simp; with_reducible rfl)
    simp only [Act.put, List.setIfInBounds_toArray, List.set_cons_zero, List.set_cons_succ]
    refine Reg.take (i := 3) (d := 19) (v := ?_) rfl rfl (by kernel_rfl) (by kernel_rfl) (by kernel_rfl) (fun _ _ _ h => h) (by rfl) ?_ hHeld ?_
    rotate_left
    · rintro W ⟨g0, g1, g2, g3, g4⟩
      first | (go_simp; done) | (go_simp; with_reducible rfl)
    simp only [Act.put, List.setIfInBounds_toArray, List.set_cons_zero, List.set_cons_succ]
    refine Reg.take (i := 4) (d := 20) (v := ?_) rfl rfl (by kernel_rfl) (by kernel_rfl) (by kernel_rfl) (fun _ _ _ h => h) (by rfl) ?_ hHeld ?_
    rotate_left
    · rintro W ⟨g0, g1, g2, g3, g4⟩
      first | (go_simp; done) | (go_simp; with_reducible rfl)
    simp only [Act.put, List.setIfInBounds_toArray, List.set_cons_zero, List.set_cons_succ]
    refine Reg.take (i := 8) (d := 24) (v := ?_) rfl rfl (by kernel_rfl) (by kernel_rfl) (by kernel_rfl) (fun _ _ _ h => h) (by rfl) ?_ hHeld ?_
    rotate_left
    · rintro W ⟨g0, g1, g2, g3, g4⟩
      first | (go_simp; done) | (go_simp; with_reducible rfl)
    simp only [Act.put, List.setIfInBounds_toArray, List.set_cons_zero, List.set_cons_succ]
    refine Reg.take (i := 9) (d := 25) (v := ?_) rfl rfl (by kernel_rfl) (by kernel_rfl) (by kernel_rfl) (fun _ _ _ h => h) (by rfl) ?_ hHeld ?_
    rotate_left
    · rintro W ⟨g0, g1, g2, g3, g4⟩
      first | (go_simp; done) | (go_simp; with_reducible rfl)
    simp only [Act.put, List.setIfInBounds_toArray, List.set_cons_zero, List.set_cons_succ]
    refine Reg.call (i := 5) rfl (by kernel_rfl) (by rfl) (fun K hK => ?_)
    go_wp2_with (first | (go_at_call 52; refine (HF.out _ (Recs.is_stay HI.out (Nat.le_refl _) hHeld.2.2.2.2) (HTb.out.below hHeld.2.2.2.2)).mono ?_; rintro e W3 ⟨v3, rfl, ho3, hb3⟩))
    have HO3 := Num.hide ho3
    have HB3 := Num.hide hb3
    clear hb3 ho3
    refine hK.out _ _ ?_ (fun hHeld2 => ?_)
    · exact Box4.step hHeld HB3.out
    clear hK K
    replace hHeld := hHeld2
    clear hHeld2
    refine Reg.call (i := 6) rfl (by kernel_rfl) (by rfl) (fun K hK => ?_)
    go_wp2_with (first | (go_at_call 51; refine (HSh.out v3 _ (Recs.own_is Flds.cells_len HO3.out) (Flds.signs_below HSg.out hHeld.2.2.2.2 hsg)).mono ?_; rintro e W4 ⟨rfl, hb4⟩))
    have HB4 := Num.hide hb4
    clear hb4
    refine hK.out _ _ ?_ (fun hHeld2 => ?_)
    · exact Box4.step hHeld HB4.out
    clear hK K
    replace hHeld := hHeld2
    clear hHeld2
    refine Reg.take (i := 7) (d := 23) (v := ?_) rfl rfl (by kernel_rfl) (by kernel_rfl) (by kernel_rfl) (fun _ _ _ h => h) (by rfl) ?_ hHeld ?_
    rotate_left
    · rintro W ⟨g0, g1, g2, g3, g4⟩
      first | (go_simp; done) | (go_simp; with_reducible rfl)
    simp only [Act.put, List.setIfInBounds_toArray, List.set_cons_zero, List.set_cons_succ]
    refine Reg.take (i := 10) (d := 26) (v := ?_) rfl rfl (by kernel_rfl) (by kernel_rfl) (by kernel_rfl) (fun _ _ _ h => h) (by rfl) ?_ hHeld ?_
    rotate_left
    · rintro W ⟨g0, g1, g2, g3, g4⟩
      first | (go_simp; done) | (go_simp; with_reducible rfl)
    simp only [Act.put, List.setIfInBounds_toArray, List.set_cons_zero, List.set_cons_succ]
    refine Reg.take (i := 11) (d := 2) (v := ?_) rfl rfl (by kernel_rfl) (by kernel_rfl) (by kernel_rfl) (fun _ _ _ h => h) (by rfl) ?_ hHeld ?_
    rotate_left
    · rintro W ⟨g0, g1, g2, g3, g4⟩
      first | (go_simp; done) | (go_simp; with_reducible rfl)
    simp only [Act.put, List.setIfInBounds_toArray, List.set_cons_zero, List.set_cons_succ]
    refine wpAnyH_done (by kernel_rfl) ?_ _
    have HH := Num.hide hHeld.2.2.2.2
    have hr := HR.out
    subst hr
    go_wp2
    go_ret
    exact ⟨rfl, HH.out⟩
  | false =>
    have hsr : showReq m u l b = ⟨#[]⟩ := by unfold showReq; rw [if_neg (by rw [hok]; decide)]
    rw [hsr]
    rw [hok] at HOk
    clear hsr hok
    go_enter Tryz.func18, Tryz.ntmps18
    go_wp2_with fail
    refine (HOk.out _ _ (Recs.is_stay HI.out (Nat.le_refl _) HB0.out) (Flds.signs_below HSg.out HB0.out hsg)).mono ?_
    rintro e W2 ⟨rfl, hb2⟩
    have HB2 := Num.hide (HB0.out.trans (hb2.mono HB0.out.size))
    clear hb2 HOk
    go_wp2
    go_ret
    exact ⟨rfl, HB2.out⟩
end Msg
end Go.Proofs.YtbajfklnekfeoaaGreatDoor
