/-
  ShelfItoa: Library contracts at this program: strconv_Itoa.
  DecImpl: Dec of the program: what the call returns, for every number, where the library's table of powers lies as it is laid; old memory stays as it was.
  DecTab: The library's table of powers, kept by whatever makes new memory alone.
  DateWords: nameAt, twoDigits and showTime of the program; what was there stays.
-/
import Derived.Shelf.Strings.Builder1
import Derived.Shelf.Strings.Builder2
import Derived.Shelf.Strings.OnBuilder
import Derived.Shelf.Strings.Trim
import Derived.Shelf.Small.Utf8
import Derived.Shelf.Small.Strs
import Derived.Shelf.Strings.BuilderF
import Derived.Shelf.Strings.BuilderK
import Derived.Shelf.Strconv.Itoa0
import Derived.Shelf.Strconv.Itoa1
import Derived.Shelf.LaysM
import Derived.Shelf.Strconv.Itoa2
import Derived.Shelf.Strconv.Itoa3
import Derived.Shelf.Strconv.Clone
import Derived.Shelf.Strings.Search1
import Derived.Shelf.Strings.Search2
import Derived.Shelf.Strings.Search3
import Derived.Shelf.Strings.Cut
import Derived.Shelf.Strings.Shaped
import Derived.Shelf.Unicode.Decode
import Derived.Shelf.Strings.Runes
import Derived.Shelf.Strings.AsciiSet
import Derived.Shelf.Unicode.DecodeSlow
import Derived.Shelf.Unicode.DecodeAny
import Derived.Shelf.Unicode.DecodeLast
import Derived.Test.YtihiljickefanaaGreatDoorRows
import Derived.Test.YtihiljickefanaaGreatDoorPac
import Derived.WalkKit
import Derived.WalkLawsBesides
import Derived.WalkSmall
import Derived.Test.YtihiljickefanaaGreatDoorPaq
import Derived.Laws.Strings
import Derived.Laws.Strings2
namespace Go.Proofs.YtihiljickefanaaGreatDoor
open Go.Shelf
def Shelf.laysM171_ren : Go.Shelf.Ren := ⟨fun | 171 => 110 | 243 => 120 | 246 => 125 | 283 => 128 | 284 => 129 | 285 => 130 | 286 => 131 | 129 => 140 | 317 => 139 | 318 => 141 | 319 => 142 | 320 => 143 | 337 => 148 | 338 => 149 | n => n, fun | 3 => 3 | 9 => 9 | 2 => 2 | 4 => 4 | 171 => 133 | 0 => 0 | 53 => 134 | 37 => 22 | 5 => 5 | 173 => 137 | 212 => 147 | 51 => 127 | 20 => 20 | 213 => 148 | 46 => 88 | 232 => 155 | 233 => 156 | n => n, fun | 17 => 2 | 18 => 3 | 19 => 4 | n => n⟩
theorem Shelf.laysM171 : Go.Proofs.LaysM.n171 Tryz.prog Shelf.laysM171_ren := {
  mixed := by kernel_rfl
  f129 := Tryz.func140.trans (congrArg some (by kernel_rfl))
  f171 := Tryz.func110.trans (congrArg some (by kernel_rfl))
  f243 := Tryz.func120.trans (congrArg some (by kernel_rfl))
  f246 := Tryz.func125.trans (congrArg some (by kernel_rfl))
  f283 := Tryz.func128.trans (congrArg some (by kernel_rfl))
  f284 := Tryz.func129.trans (congrArg some (by kernel_rfl))
  f285 := Tryz.func130.trans (congrArg some (by kernel_rfl))
  f286 := Tryz.func131.trans (congrArg some (by kernel_rfl))
  f317 := Tryz.func139.trans (congrArg some (by kernel_rfl))
  f318 := Tryz.func141.trans (congrArg some (by kernel_rfl))
  f319 := Tryz.func142.trans (congrArg some (by kernel_rfl))
  f320 := Tryz.func143.trans (congrArg some (by kernel_rfl))
  f337 := Tryz.func148.trans (congrArg some (by kernel_rfl))
  f338 := Tryz.func149.trans (congrArg some (by kernel_rfl))
  t0 := Tryz.underlying0
  a0 := Tryz.isAgg0
  z0 := Tryz.sizeOf0
  v0 := Tryz.zeroValue0
  t2 := Tryz.underlying2
  a2 := Tryz.isAgg2
  z2 := Tryz.sizeOf2
  v2 := Tryz.zeroValue2
  t3 := Tryz.underlying3
  a3 := Tryz.isAgg3
  z3 := Tryz.sizeOf3
  v3 := Tryz.zeroValue3
  t4 := Tryz.underlying4
  a4 := Tryz.isAgg4
  z4 := Tryz.sizeOf4
  v4 := Tryz.zeroValue4
  t5 := Tryz.underlying5
  a5 := Tryz.isAgg5
  z5 := Tryz.sizeOf5
  v5 := Tryz.zeroValue5
  t9 := Tryz.underlying9
  a9 := Tryz.isAgg9
  z9 := Tryz.sizeOf9
  v9 := Tryz.zeroValue9
  t20 := Tryz.underlying20
  a20 := Tryz.isAgg20
  z20 := Tryz.sizeOf20
  v20 := Tryz.zeroValue20
  t37 := Tryz.underlying22
  a37 := Tryz.isAgg22
  z37 := Tryz.sizeOf22
  v37 := Tryz.zeroValue22
  t46 := Tryz.underlying88
  a46 := Tryz.isAgg88
  z46 := Tryz.sizeOf88
  v46 := Tryz.zeroValue88
  t51 := Tryz.underlying127
  a51 := Tryz.isAgg127
  z51 := Tryz.sizeOf127
  v51 := Tryz.zeroValue127
  t53 := Tryz.underlying134
  a53 := Tryz.isAgg134
  z53 := Tryz.sizeOf134
  v53 := Tryz.zeroValue134
  t171 := Tryz.underlying133
  a171 := Tryz.isAgg133
  z171 := Tryz.sizeOf133
  v171 := Tryz.zeroValue133
  t173 := Tryz.underlying137
  a173 := Tryz.isAgg137
  z173 := Tryz.sizeOf137
  v173 := Tryz.zeroValue137
  t212 := Tryz.underlying147
  a212 := Tryz.isAgg147
  z212 := Tryz.sizeOf147
  v212 := Tryz.zeroValue147
  t213 := Tryz.underlying148
  a213 := Tryz.isAgg148
  z213 := Tryz.sizeOf148
  t232 := Tryz.underlying155
  a232 := Tryz.isAgg155
  z232 := Tryz.sizeOf155
  v232 := Tryz.zeroValue155
  t233 := Tryz.underlying156
  a233 := Tryz.isAgg156
  z233 := Tryz.sizeOf156
  v233 := Tryz.zeroValue156
  g17 := by kernel_rfl
  g18 := by kernel_rfl
  g19 := by kernel_rfl
  i0 := by kernel_rfl
  i2 := by kernel_rfl
  i3 := by kernel_rfl
  i4 := by kernel_rfl
  i5 := by kernel_rfl
  i9 := by kernel_rfl
  i20 := by kernel_rfl
  i37 := by kernel_rfl
  i46 := by kernel_rfl
  i51 := by kernel_rfl
  i53 := by kernel_rfl
  i171 := by kernel_rfl
  i173 := by kernel_rfl
  i212 := by kernel_rfl
  i232 := by kernel_rfl
  i233 := by kernel_rfl
  m17 := by kernel_rfl
  m18 := by kernel_rfl
  m19 := by kernel_rfl }
open Go.RowKit Go.Sort Go.Lib in
theorem Shelf.strconv_Itoa (n : Int) (h0 : -9223372036854775808 ≤ n) (h1 : n ≤ 9223372036854775807) (w : World) (htab : Lib.TabIs Tryz.prog w "internal/strconv.uint64pow10" .u64 Lib.pow10Tab) :
    Calls Tryz.prog 110 #[.int .i64 n] w fun e w' => e = .returned (.string ⟨(Lib.itoa n).toArray⟩) ∧ ∃ k os, w' = grow (w.drewN k) os := Any.strconv_Itoa Shelf.laysM171 n h0 h1 w htab
end Go.Proofs.YtihiljickefanaaGreatDoor
namespace Go.Proofs.YtihiljickefanaaGreatDoor
open Go.RowKit
set_option linter.unusedVariables false
namespace Dec

theorem below_grow (w : World) (k : Nat) (os : Array Obj) : Below w.heap.size w (Sort.grow (w.drewN k) os) :=
  (below_drewN (Below.refl _ _) k).trans ⟨rfl, rfl, rfl, by simp, fun i hi => by
    show (w.heap ++ os)[i]? = w.heap[i]?
    exact Array.getElem?_append_left hi⟩
theorem lt_of_cell {w : World} {a : Addr} {v : Value} (h : w.cell? a = some v) : a.block < w.heap.size := by
  apply Decidable.byContradiction
  intro hc
  have hn : w.heap[a.block]? = none := Array.getElem?_eq_none (by omega)
  simp [World.cell?, hn] at h
theorem impl_any (n : Int) (w : World) (h0 : -9223372036854775808 ≤ n) (h1 : n ≤ 9223372036854775807) (htab : Lib.TabIs Tryz.prog w "internal/strconv.uint64pow10" .u64 Lib.pow10Tab) :
    Calls Tryz.prog 97 #[.int .i64 n] w fun e w' => e = .returned (.string ⟨(Lib.itoa n).toArray⟩) ∧ Below w.heap.size w w' := by
  have hI := Num.hide (Shelf.strconv_Itoa n h0 h1 w htab)
  clear htab
  go_enter Tryz.func97, Tryz.ntmps97
  go_wp2_with fail
  refine (Num.unhide hI).mono ?_
  rintro e w1 ⟨rfl, k, os, rfl⟩
  have hb := below_grow w k os
  go_wp2
  go_ret
  exact ⟨rfl, hb⟩
end Dec
end Go.Proofs.YtihiljickefanaaGreatDoor
namespace Go.Proofs.YtihiljickefanaaGreatDoor
open Go.RowKit
set_option linter.unusedVariables false
namespace Dec

/-- the library's table of powers lies as it is laid -/
def Tab (w : World) : Prop := Lib.TabIs Tryz.prog w "internal/strconv.uint64pow10" .u64 Lib.pow10Tab
theorem g_tab : Tryz.prog.globalNamed "internal/strconv.uint64pow10" = some 2 := by kernel_rfl
theorem Tab.lt {w : World} (h : Tab w) : 2 < w.heap.size := lt_of_cell (Lib.TabIs.cell h g_tab 0 (by simp [Lib.pow10Tab]))
theorem Tab.below {w w' : World} (h : Tab w) (hb : Below w.heap.size w w') : Tab w' := var?_below hb g_tab h.lt h
theorem Tab.under {w w' : World} {B : Nat} (h : Tab w) (hB : 2 < B) (hb : Below B w w') : Tab w' := var?_below hb g_tab hB h
end Dec
end Go.Proofs.YtihiljickefanaaGreatDoor
namespace Go.Proofs.YtihiljickefanaaGreatDoor
open Go.RowKit
set_option linter.unusedVariables false
namespace Date

theorem parts_of (D : Int) (h0 : 0 ≤ D) (h1 : D ≤ 24471) : Parts D (yr D) (mo D) (dy D) := by
  obtain ⟨p1, p2, p3, p4, p5, p6⟩ := parts_in D h0 h1
  exact ⟨by omega, p2, p3, p4, by unfold dy; omega⟩
def wnames : ByteArray := ⟨#[77, 111, 110, 84, 117, 101, 87, 101, 100, 84, 104, 117, 70, 114, 105, 83, 97, 116, 83, 117, 110]⟩
def mnames : ByteArray := ⟨#[74, 97, 110, 70, 101, 98, 77, 97, 114, 65, 112, 114, 77, 97, 121, 74, 117, 110, 74, 117, 108, 65, 117, 103, 83, 101, 112, 79, 99, 116, 78, 111, 118, 68, 101, 99]⟩
theorem week_cut (D : Int) (h : 0 ≤ D) : wnames.extract (((3 + D) % 7).toNat * 3) ((((3 + D) % 7).toNat + 1) * 3) = week (D % 7).toNat := by
  have key : ∀ r : Nat, r < 7 → (wnames.extract ((3 + r) % 7 * 3) (((3 + r) % 7 + 1) * 3)).data.toList = (week r).data.toList := by decide +kernel
  have e : ((3 + D) % 7).toNat = (3 + (D % 7).toNat) % 7 := by omega
  rw [e]
  exact ByteArray.ext (Array.toList_inj.1 (key _ (by omega)))
theorem name_cut (k : Nat) (h : k < 12) : mnames.extract (k * 3) ((k + 1) * 3) = name k := by
  have key : ∀ r : Nat, r < 12 → (mnames.extract (r * 3) ((r + 1) * 3)).data.toList = (name r).data.toList := by decide +kernel
  exact ByteArray.ext (Array.toList_inj.1 (key _ h))
theorem digit_dec (x : Int) (h0 : 0 ≤ x) (h1 : x < 10) : dec x = ⟨#[Num.byte (48 + x)]⟩ := by
  have key : ∀ r : Nat, r < 10 → (dec (r : Int)).data.toList = [Num.byte (48 + (r : Int))] := by decide +kernel
  have e : ((x.toNat : Nat) : Int) = x := by omega
  have := key x.toNat (by omega)
  rw [e] at this
  exact ByteArray.ext (Array.toList_inj.1 this)
theorem two_dec (n : Int) (h0 : 0 ≤ n) (h1 : n ≤ 99) : dec (n / 10) ++ dec (n % 10) = two n := by
  rw [digit_dec (n / 10) (by omega) (by omega), digit_dec (n % 10) (by omega) (by omega)]
  unfold two
  rw [show n / 10 % 10 = n / 10 by omega]
  rfl
set_option maxRecDepth 100000 in
set_option maxHeartbeats 1000000 in
theorem nameAt_impl (t : ByteArray) (i : Nat) (w : World) (hi : (i + 1) * 3 ≤ t.size) (hs : t.size ≤ 100) : Calls Tryz.prog 95 #[.string t, .int .i64 i] w fun e w' => e = .returned (.string (t.extract (i * 3) ((i + 1) * 3))) ∧ w = w' := by
  have h1 : ((i : Int) + 1) * 3 ≤ (t.size : Int) := by omega
  have h2 : (i : Int) * 3 ≤ ((i : Int) + 1) * 3 := by omega
  have e1 : ((i : Int) * 3).toNat = i * 3 := by omega
  have e2 : (((i : Int) + 1) * 3).toNat = (i + 1) * 3 := by omega
  have hs2 := run_slice_string (P := Tryz.prog) w 9 t .i64 .i64 ((i : Int) * 3) (((i : Int) + 1) * 3) Tryz.underlying9 (by omega) h2 h1
  rw [e1, e2] at hs2
  go_enter Tryz.func95, Tryz.ntmps95
  go_wp2
  go_ret
  exact ⟨rfl, rfl⟩
set_option maxRecDepth 100000 in
set_option maxHeartbeats 1000000 in
theorem two_impl (n : Int) (w : World) (h0 : 0 ≤ n) (h1 : n ≤ 99) (ht : Dec.Tab w) : Calls Tryz.prog 96 #[.int .i64 n] w fun e w' => e = .returned (.string (two n)) ∧ Below w.heap.size w w' := by
  have HA : Hid (∀ W, Dec.Tab W → Calls Tryz.prog 97 #[.int .i64 (n / 10)] W fun e w' => e = .returned (.string (dec (n / 10))) ∧ Below W.heap.size W w') := fun W h => Dec.impl_any (n / 10) W (by omega) (by omega) h
  have HB : Hid (∀ W, Dec.Tab W → Calls Tryz.prog 97 #[.int .i64 (n % 10)] W fun e w' => e = .returned (.string (dec (n % 10))) ∧ Below W.heap.size W w') := fun W h => Dec.impl_any (n % 10) W (by omega) (by omega) h
  have he := two_dec n h0 h1
  have s1 : (dec (n / 10)).size = 1 := by rw [digit_dec _ (by omega) (by omega)]; rfl
  have s2 : (dec (n % 10)).size = 1 := by rw [digit_dec _ (by omega) (by omega)]; rfl
  have HT := Num.hide ht
  clear ht
  generalize two n = r at he ⊢
  generalize dec (n / 10) = x at HA he s1
  generalize dec (n % 10) = y at HB he s2
  subst he
  go_enter Tryz.func96, Tryz.ntmps96
  go_wp2_with fail
  refine (HA.out _ HT.out).mono ?_
  rintro e w1 ⟨rfl, hb1⟩
  have HB1 := Num.hide hb1
  clear hb1
  go_wp2_with fail
  refine (HB.out _ (HT.out.below HB1.out)).mono ?_
  rintro e w2 ⟨rfl, hb2⟩
  have HB2 := Num.hide (HB1.out.trans (hb2.mono HB1.out.size))
  clear hb2
  go_wp2
  go_ret
  exact ⟨rfl, HB2.out⟩
set_option maxRecDepth 100000 in
set_option maxHeartbeats 1000000 in
theorem time_impl (n : Int) (w : World) (h0 : 0 ≤ n) (h1 : n < 86400) (ht : Dec.Tab w) : Calls Tryz.prog 98 #[.int .i64 n] w fun e w' => e = .returned (.string (two (n / 3600) ++ ⟨#[58]⟩ ++ two (n % 3600 / 60) ++ ⟨#[58]⟩ ++ two (n % 60))) ∧ Below w.heap.size w w' := by
  have HA := Num.hide (fun W h => two_impl (n / 3600) W (by omega) (by omega) h)
  have HB := Num.hide (fun W h => two_impl (n % 3600 / 60) W (by omega) (by omega) h)
  have HC := Num.hide (fun W h => two_impl (n % 60) W (by omega) (by omega) h)
  have s1 := size_two (n / 3600)
  have s2 := size_two (n % 3600 / 60)
  have s3 := size_two (n % 60)
  have HT := Num.hide ht
  clear ht
  generalize two (n / 3600) = x at HA s1 ⊢
  generalize two (n % 3600 / 60) = y at HB s2 ⊢
  generalize two (n % 60) = z at HC s3 ⊢
  obtain ⟨r, hr⟩ : ∃ r, x ++ ⟨#[58]⟩ ++ y ++ ⟨#[58]⟩ ++ z = r := ⟨_, rfl⟩
  rw [hr]
  have HR := Num.hide hr
  clear hr
  go_enter Tryz.func98, Tryz.ntmps98
  go_wp2_with fail
  refine (HA.out _ HT.out).mono ?_
  rintro e w1 ⟨rfl, hb1⟩
  have HB1 := Num.hide hb1
  clear hb1
  go_wp2_with fail
  refine (HB.out _ (HT.out.below HB1.out)).mono ?_
  rintro e w2 ⟨rfl, hb2⟩
  have HB2 := Num.hide (HB1.out.trans (hb2.mono HB1.out.size))
  clear hb2
  go_wp2_with fail
  refine (HC.out _ (HT.out.below HB2.out)).mono ?_
  rintro e w3 ⟨rfl, hb3⟩
  have HB3 := Num.hide (HB2.out.trans (hb3.mono HB2.out.size))
  clear hb3
  have hr := HR.out
  subst hr
  go_wp2
  go_ret
  exact ⟨rfl, HB3.out⟩
end Date
end Go.Proofs.YtihiljickefanaaGreatDoor
