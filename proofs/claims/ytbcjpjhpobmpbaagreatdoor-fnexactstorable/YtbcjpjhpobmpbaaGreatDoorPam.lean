/-
  ShelfCut: Library contracts at this program: strings_Cut, strings_Cut_shaped.
  CcCut: Cut at the first '=': what the library's call tells of a part.
  UnqImpl: withoutQuotes of the program: a value without quotes around it; the world stays.
  LowerImpl: isUpper and Lower of the program: what the calls return, for every byte and every text; what was there stays.
  ReadDirImpl: readDirective of the program: the directive of a part, and whether it is one.
  ChsDir: putChosen of the program from texts to directives: the directive of each part that is one, behind each other in a row of the call's own.
-/
import Derived.Shelf.Strings.Builder1
import Derived.Shelf.Strings.Builder2
import Derived.Shelf.Strings.OnBuilder
import Derived.Shelf.Strings.Trim
import Derived.Shelf.Small.Utf8
import Derived.Shelf.Small.Strs
import Derived.Shelf.Strings.BuilderF
import Derived.Shelf.Strings.BuilderK
import Derived.Shelf.Strconv.Itoa0
import Derived.Shelf.Strconv.Itoa1
import Derived.Shelf.LaysM
import Derived.Shelf.Strconv.Itoa2
import Derived.Shelf.Strconv.Itoa3
import Derived.Shelf.Strconv.Clone
import Derived.Shelf.Strings.Search1
import Derived.Shelf.Strings.Search2
import Derived.Shelf.Strings.Search3
import Derived.Shelf.Strings.Cut
import Derived.Shelf.Strings.Shaped
import Derived.Shelf.Unicode.Decode
import Derived.Shelf.Strings.Runes
import Derived.Shelf.Strings.AsciiSet
import Derived.Shelf.Unicode.DecodeSlow
import Derived.Shelf.Unicode.DecodeAny
import Derived.Shelf.Unicode.DecodeLast
import Derived.Test.YtbcjpjhpobmpbaaGreatDoorRows
import Derived.Test.YtbcjpjhpobmpbaaGreatDoorPaa
import Derived.Test.YtbcjpjhpobmpbaaGreatDoorPae
import Derived.Test.YtbcjpjhpobmpbaaGreatDoorPah
import Derived.Laws.Strings
import Derived.WalkKit
import Derived.Test.YtbcjpjhpobmpbaaGreatDoorLowerNum
import Derived.Test.YtbcjpjhpobmpbaaGreatDoorUpperImpl
import Derived.Test.YtbcjpjhpobmpbaaGreatDoorTokenImpl
import Derived.Test.YtbcjpjhpobmpbaaGreatDoorPai
namespace Go.Proofs.YtbcjpjhpobmpbaaGreatDoor
open Go.Shelf
def Shelf.lays145_ren : Go.Shelf.Ren := ⟨fun | 145 => 150 | 220 => 161 | 219 => 167 | 217 => 183 | 225 => 184 | 224 => 185 | 267 => 186 | 266 => 193 | 314 => 194 | n => n, fun | 9 => 9 | 4 => 4 | 59 => 147 | 3 => 3 | 5 => 5 | 46 => 118 | 146 => 174 | 51 => 173 | n => n, fun | 1 => 1 | n => n⟩
theorem Shelf.lays145 : Go.Proofs.Lays.n145 Tryz.prog Shelf.lays145_ren := {
  mixed := by kernel_rfl
  f145 := Tryz.func150.trans (congrArg some (by kernel_rfl))
  f217 := Tryz.func183.trans (congrArg some (by kernel_rfl))
  f219 := Tryz.func167.trans (congrArg some (by kernel_rfl))
  f220 := Tryz.func161.trans (congrArg some (by kernel_rfl))
  f224 := Tryz.func185.trans (congrArg some (by kernel_rfl))
  f225 := Tryz.func184.trans (congrArg some (by kernel_rfl))
  f266 := Tryz.func193.trans (congrArg some (by kernel_rfl))
  f267 := Tryz.func186.trans (congrArg some (by kernel_rfl))
  f314 := Tryz.func194.trans (congrArg some (by kernel_rfl))
  t3 := Tryz.underlying3
  a3 := Tryz.isAgg3
  z3 := Tryz.sizeOf3
  v3 := Tryz.zeroValue3
  t4 := Tryz.underlying4
  a4 := Tryz.isAgg4
  z4 := Tryz.sizeOf4
  v4 := Tryz.zeroValue4
  t5 := Tryz.underlying5
  a5 := Tryz.isAgg5
  z5 := Tryz.sizeOf5
  v5 := Tryz.zeroValue5
  t9 := Tryz.underlying9
  a9 := Tryz.isAgg9
  z9 := Tryz.sizeOf9
  v9 := Tryz.zeroValue9
  t46 := Tryz.underlying118
  a46 := Tryz.isAgg118
  z46 := Tryz.sizeOf118
  v46 := Tryz.zeroValue118
  t51 := Tryz.underlying173
  a51 := Tryz.isAgg173
  z51 := Tryz.sizeOf173
  v51 := Tryz.zeroValue173
  t59 := Tryz.underlying147
  a59 := Tryz.isAgg147
  z59 := Tryz.sizeOf147
  v59 := Tryz.zeroValue147
  t146 := Tryz.underlying174
  a146 := Tryz.isAgg174
  z146 := Tryz.sizeOf174
  v146 := Tryz.zeroValue174
  g1 := by kernel_rfl }
open Go.RowKit Go.Lib in
theorem Shelf.strings_Cut (s sep : ByteArray) (m : Int) (w : World) (hs : s.size < 4294967281) (hm : w.cell? ⟨1, 0, none⟩ = some (.int .i64 m)) :
    Calls Tryz.prog 150 #[.string s, .string sep] w fun e w' => e = .returned (.tuple #[.string ⟨(Lib.cut s.data.toList sep.data.toList).1.toArray⟩, .string ⟨(Lib.cut s.data.toList sep.data.toList).2.1.toArray⟩, .bool (Lib.cut s.data.toList sep.data.toList).2.2]) ∧ ∃ n, w' = w.drewN n := Any.strings_Cut Shelf.lays145 s sep m w hs hm
def Shelf.laysM145_ren : Go.Shelf.Ren := ⟨fun | 145 => 150 | 220 => 161 | 219 => 167 | 217 => 183 | 225 => 184 | 224 => 185 | 267 => 186 | 266 => 193 | 314 => 194 | n => n, fun | 9 => 9 | 4 => 4 | 59 => 147 | 3 => 3 | 5 => 5 | 46 => 118 | 146 => 174 | 51 => 173 | n => n, fun | 1 => 1 | n => n⟩
theorem Shelf.laysM145 : Go.Proofs.LaysM.n145 Tryz.prog Shelf.laysM145_ren := {
  mixed := by kernel_rfl
  f145 := Tryz.func150.trans (congrArg some (by kernel_rfl))
  f217 := Tryz.func183.trans (congrArg some (by kernel_rfl))
  f219 := Tryz.func167.trans (congrArg some (by kernel_rfl))
  f220 := Tryz.func161.trans (congrArg some (by kernel_rfl))
  f224 := Tryz.func185.trans (congrArg some (by kernel_rfl))
  f225 := Tryz.func184.trans (congrArg some (by kernel_rfl))
  f266 := Tryz.func193.trans (congrArg some (by kernel_rfl))
  f267 := Tryz.func186.trans (congrArg some (by kernel_rfl))
  f314 := Tryz.func194.trans (congrArg some (by kernel_rfl))
  t3 := Tryz.underlying3
  a3 := Tryz.isAgg3
  z3 := Tryz.sizeOf3
  v3 := Tryz.zeroValue3
  t4 := Tryz.underlying4
  a4 := Tryz.isAgg4
  z4 := Tryz.sizeOf4
  v4 := Tryz.zeroValue4
  t5 := Tryz.underlying5
  a5 := Tryz.isAgg5
  z5 := Tryz.sizeOf5
  v5 := Tryz.zeroValue5
  t9 := Tryz.underlying9
  a9 := Tryz.isAgg9
  z9 := Tryz.sizeOf9
  v9 := Tryz.zeroValue9
  t46 := Tryz.underlying118
  a46 := Tryz.isAgg118
  z46 := Tryz.sizeOf118
  v46 := Tryz.zeroValue118
  t51 := Tryz.underlying173
  a51 := Tryz.isAgg173
  z51 := Tryz.sizeOf173
  v51 := Tryz.zeroValue173
  t59 := Tryz.underlying147
  a59 := Tryz.isAgg147
  z59 := Tryz.sizeOf147
  v59 := Tryz.zeroValue147
  t146 := Tryz.underlying174
  a146 := Tryz.isAgg174
  z146 := Tryz.sizeOf174
  v146 := Tryz.zeroValue174
  g1 := by kernel_rfl
  i3 := by kernel_rfl
  i4 := by kernel_rfl
  i5 := by kernel_rfl
  i9 := by kernel_rfl
  i46 := by kernel_rfl
  i51 := by kernel_rfl
  i59 := by kernel_rfl
  i146 := by kernel_rfl
  m1 := by kernel_rfl
  s1_3 := fun w h => Go.Proofs.cell_of_shapedOpen_int (zero := #[.int .i64 0]) (t := 3) h (of_decide_eq_true (by kernel_rfl)) (by kernel_rfl) rfl (by kernel_rfl) (by kernel_rfl) Tryz.underlying3 }
open Go.RowKit Go.Lib in
theorem Shelf.strings_Cut_shaped (s sep : ByteArray) (w : World) (h : w.ShapedOpen Tryz.prog) (hs : s.size < 4294967281) :
    Calls Tryz.prog 150 #[.string s, .string sep] w fun e w' => e = .returned (.tuple #[.string ⟨(Lib.cut s.data.toList sep.data.toList).1.toArray⟩, .string ⟨(Lib.cut s.data.toList sep.data.toList).2.1.toArray⟩, .bool (Lib.cut s.data.toList sep.data.toList).2.2]) ∧ ∃ n, w' = w.drewN n := Any.strings_Cut_shaped Shelf.laysM145 s sep w h hs
end Go.Proofs.YtbcjpjhpobmpbaaGreatDoor
namespace Go.Proofs.YtbcjpjhpobmpbaaGreatDoor
open Go.RowKit
set_option linter.unusedVariables false
namespace Cc
open Line (byteAt byteAt_eq byteAt_list drop_end)

/-- the library's variable holds some number -/
def Lim (w : World) : Prop := ∃ m, w.cell? ⟨1, 0, none⟩ = some (.int .i64 m)
theorem lim_lt {w : World} (h : Lim w) : 1 < w.heap.size := by obtain ⟨m, hm⟩ := h; exact Recs.lt_of_cell hm
theorem lim_of {w : World} (h : w.ShapedOpen Tryz.prog) : Lim w := Shelf.laysM145.s1_3 w h
theorem lim_below {w w' : World} {B : Nat} (h : Lim w) (hb : Below B w w') (hB : 1 < B) : Lim w' := by
  obtain ⟨m, hm⟩ := h
  exact ⟨m, (hb.cell (p := ⟨1, 0, none⟩) hB).trans hm⟩
def eqI (r : Option Nat) (i : Nat) : Int := match r with | some k => (k : Int) - (i : Int) | none => -1
theorem index_eqGo (s : ByteArray) : ∀ (n i : Nat), n = s.size - i → Lib.index (s.data.toList.drop i) [61] = eqI (eqGo s n i) i := by
  intro n
  induction n with
  | zero => intro i h; rw [drop_end s i (by omega)]; rfl
  | succ n ih =>
    intro i h
    obtain ⟨b, e, hb⟩ := byteAt_list s i (by omega)
    have ih2 := ih (i + 1) (by omega)
    rw [e]
    unfold Lib.index eqGo
    rw [ih2]
    by_cases hc : byteAt s i = 61
    · rw [if_pos hc, if_pos]
      · show (0 : Int) = (i : Int) - (i : Int); omega
      · have h61 : b = 61 := by rw [← UInt8.toNat_inj, ← hb]; exact hc
        rw [h61]; rfl
    · rw [if_neg hc, if_neg]
      · cases hg : eqGo s n (i + 1) with
        | none => rfl
        | some k =>
          have := eqGo_in s _ _ _ hg
          show (if ((k : Int) - ((i + 1 : Nat) : Int) == -1) = true then (-1 : Int) else (k : Int) - ((i + 1 : Nat) : Int) + 1) = (k : Int) - (i : Int)
          rw [if_neg (by rw [beq_iff_eq]; omega)]; omega
      · intro hp
        apply hc
        simp only [List.isPrefixOf, Bool.and_eq_true, beq_iff_eq, and_true] at hp
        rw [hb, ← hp]; rfl
theorem index_eq (s : ByteArray) : Lib.indexB s ⟨#[61]⟩ = eqI (eqAt s) 0 := by
  show Lib.index s.data.toList [61] = _
  have := index_eqGo s s.size 0 rfl
  rw [List.drop_zero] at this
  exact this
theorem cut_eq (s : ByteArray) (w : World) (hs : s.size ≤ 1048576) (hm : Lim w) :
    Calls Tryz.prog 150 #[.string s, .string ⟨#[61]⟩] w fun e w' => ∃ b, e = .returned (.tuple #[.string (nameOf s), .string (behind s), .bool b]) ∧ ∃ n, w.drewN n = w' := by
  obtain ⟨m, hm⟩ := hm
  refine (Shelf.strings_Cut s ⟨#[61]⟩ m w (by omega) hm).mono ?_
  rintro e w' ⟨rfl, n, rfl⟩
  cases he : eqAt s with
  | none =>
    obtain ⟨e1, e2, e3⟩ := Lib.cutB_miss s ⟨#[61]⟩ (by rw [index_eq, he]; rfl)
    obtain ⟨n1, n2⟩ := name_none he
    exact ⟨_, by rw [e1, e2, e3, n1, n2]; rfl, n, rfl⟩
  | some k =>
    obtain ⟨e1, e2, e3⟩ := Lib.cutB_hit s ⟨#[61]⟩ k (by rw [index_eq, he]; show (k : Int) - ((0 : Nat) : Int) = (k : Int); omega)
    obtain ⟨n1, n2⟩ := name_some he
    exact ⟨_, by rw [e1, e2, e3, n1, n2]; rfl, n, rfl⟩
end Cc
end Go.Proofs.YtbcjpjhpobmpbaaGreatDoor
namespace Go.Proofs.YtbcjpjhpobmpbaaGreatDoor
open Go.RowKit
set_option linter.unusedVariables false
namespace Cc
open Line (byteAt byteAt_eq)

set_option maxRecDepth 100000 in
set_option maxHeartbeats 1000000 in
theorem unq_impl (s : ByteArray) (w : World) (hs : s.size ≤ maxLen) : Calls Tryz.prog 152 #[.string s] w fun e w' => e = .returned (.string (unq s)) ∧ w = w' := by
  unfold maxLen at hs
  obtain ⟨r, hr⟩ : ∃ r, unq s = r := ⟨_, rfl⟩
  rw [hr]
  by_cases h2 : 2 ≤ s.size
  · obtain ⟨n, hn⟩ : ∃ n, s.size = n + 1 := ⟨s.size - 1, by omega⟩
    have h0 : 0 < s.size := by omega
    have hnl : n < s.size := by omega
    have i0 : ((n : Int) + 1 - 1) = n := by omega
    have hn1 : (1 : Int) ≤ (n : Int) := by omega
    have hn2 : (n : Int) ≤ (n : Int) + 1 := by omega
    by_cases ha : (s[0]).toNat = 34
    · have da : (((s[0]).toNat : Int) != 34) = false := by rw [bne_eq_false_iff_eq]; omega
      by_cases hb : (s[n]).toNat = 34
      · have db : (((s[n]).toNat : Int) != 34) = false := by rw [bne_eq_false_iff_eq]; omega
        rw [unq_both hn h2 ha hb] at hr
        have HR := Num.hide hr
        have d2 : decide ((n : Int) + 1 < 2) = false := by simp; omega
        clear hr ha hb
        go_enter Tryz.func152, Tryz.ntmps152
        go_wp2
        all_goals go_ret
        all_goals exact ⟨by rw [← HR.out]; rfl, rfl⟩
      · have db : (((s[n]).toNat : Int) != 34) = true := by rw [bne_iff_ne]; omega
        rw [unq_back hn hb] at hr
        subst hr
        have d2 : decide ((n : Int) + 1 < 2) = false := by simp; omega
        clear ha hb
        go_enter Tryz.func152, Tryz.ntmps152
        go_wp2
        all_goals go_ret
        all_goals exact ⟨rfl, rfl⟩
    · have da : (((s[0]).toNat : Int) != 34) = true := by rw [bne_iff_ne]; omega
      rw [unq_front h0 ha] at hr
      subst hr
      have d2 : decide ((n : Int) + 1 < 2) = false := by simp; omega
      clear ha
      go_enter Tryz.func152, Tryz.ntmps152
      go_wp2
      all_goals go_ret
      all_goals exact ⟨rfl, rfl⟩
  · rw [unq_short (by omega)] at hr
    subst hr
    have d2 : decide ((s.size : Int) < 2) = true := by simp; omega
    go_enter Tryz.func152, Tryz.ntmps152
    go_wp2
    all_goals go_ret
    all_goals exact ⟨rfl, rfl⟩
end Cc
end Go.Proofs.YtbcjpjhpobmpbaaGreatDoor
namespace Go.Proofs.YtbcjpjhpobmpbaaGreatDoor
open Go.RowKit
set_option linter.unusedVariables false
namespace Sign

theorem u8_add (c : Int) (h0 : 65 ≤ c) (h1 : c ≤ 90) : IntKind.u8.wrap (c + 32) = c + 32 := by
  rw [IntKind.wrap_u8]; omega

set_option maxRecDepth 100000 in
set_option maxHeartbeats 1000000 in
theorem lower_impl (s : ByteArray) (w : World) (hs : s.size ≤ maxLen) : Calls Tryz.prog 151 #[.string s] w fun e w' => e = .returned (.string (lower s)) ∧ Below w.heap.size w w' := by
  unfold maxLen at hs
  have hconv := Lib.run_convert_string_bytes (P := Tryz.prog) w 9 42 5 s (u := .string) Tryz.underlying9 Tryz.underlying42 Tryz.underlying5
  have hP := Num.hide (bytes_part w 5 s)
  have hB := Num.hide (bytes_below w 5 s)
  generalize Lib.bytesWorld w 5 s = W0 at hconv hP hB
  generalize grownCap w s.size 0 5 = cap at hconv
  go_enter Tryz.func151, Tryz.ntmps151
  go_wp2
  clear hconv
  go_loopw [10] (fun i W => ∃ k : Nat, k ≤ s.size ∧ i = .int .i64 k ∧ Hid (Part w.heap.size s k W) ∧ Hid (Below w.heap.size w W)) (fun i _ => s.size - (intOf i).toNat)
  case atStart => exact ⟨0, by omega, rfl, hP, hB⟩
  case round =>
    clear hP hB
    obtain ⟨k, hk, rfl, hP, hB⟩ := hrel
    by_cases hlt : k < s.size
    · have hcell := hP.out.todo k hlt (Nat.le_refl _)
      have hfree := hP.out.free k hlt
      by_cases hu : up (s[k].toNat : Int)
      · have hut := Num.hide (decide_eq_true hu)
        have hP2 := Num.hide (part_up hP.out hlt hu)
        have hw := u8_add _ hu.1 hu.2
        clear hu
        go_wp2_with (go_at_call 162; refine (isUpper_any _ _).mono ?_; rintro e w' ⟨rfl, rfl⟩; rw [Num.unhide hut])
        go_roundw
        case rel => exact ⟨k + 1, by omega, by go_num, hP2, Num.hide (hB.out.setCell (Nat.le_refl _) _)⟩
        case measure => simp [intOf]; omega
      · have hut := Num.hide (decide_eq_false hu)
        have hP2 := Num.hide (part_no hP.out hlt hu)
        clear hu
        go_wp2_with (go_at_call 162; refine (isUpper_any _ _).mono ?_; rintro e w' ⟨rfl, rfl⟩; rw [Num.unhide hut])
        go_roundw
        case rel => exact ⟨k + 1, by omega, by go_num, hP2, hB⟩
        case measure => simp [intOf]; omega
    · obtain rfl : k = s.size := by omega
      have hback := part_back hP.out cap
      go_wp2
      go_ret
      exact ⟨rfl, hB.out⟩
end Sign
end Go.Proofs.YtbcjpjhpobmpbaaGreatDoor
namespace Go.Proofs.YtbcjpjhpobmpbaaGreatDoor
open Go.RowKit
set_option linter.unusedVariables false
namespace Cc
open Flds (Fld two_cells box_first box_second)

theorem signs_lt {w : World} (h : Sign.Signs w) : 0 < w.heap.size := Recs.lt_of_cell (h 0 (by decide))
theorem signs_below {w w' : World} {B : Nat} (h : Sign.Signs w) (hb : Below B w w') (hB : 0 < B) : Sign.Signs w' :=
  fun i hi => (hb.cell (p := ⟨0, i, none⟩) hB).trans (h i hi)
set_option maxRecDepth 100000 in
set_option maxHeartbeats 2000000 in
theorem readDir_impl (s : ByteArray) (w : World) (hs : s.size ≤ 1048576) (hm : Lim w) (hS : Sign.Signs w) :
    Calls Tryz.prog 136 #[.string s] w fun e w' => e = .returned (.tuple #[.agg #[.string (dirOf s).1, .string (dirOf s).2], .bool (isDir s)]) ∧ Below w.heap.size w w' := by
  have c0 : (w.alloc (.cells #[.string ⟨#[]⟩, .string ⟨#[]⟩] 78)).heap[w.heap.size]? = some (.cells #[.string ⟨#[]⟩, .string ⟨#[]⟩] 78) := heap_alloc_new w _
  have HC := Num.hide c0
  have hb0 := (Below.refl w.heap.size w).alloc (Nat.le_refl _) (.cells #[.string ⟨#[]⟩, .string ⟨#[]⟩] 78)
  have HB0 := Num.hide hb0
  have hz0 : w.heap.size + 1 = (w.alloc (.cells #[.string ⟨#[]⟩, .string ⟨#[]⟩] 78)).heap.size := by simp
  have HM := Num.hide (cut_eq s _ hs (lim_below hm hb0 (lim_lt hm)))
  have hsl := signs_lt hS
  have HS := Num.hide hS
  have hn := name_size s
  have hv := behind_size s
  unfold dirOf isDir
  generalize nameOf s = nm at HM hn ⊢
  generalize behind s = bh at HM hv ⊢
  obtain ⟨tb, htb⟩ : ∃ tb, Sign.isTok nm = tb := ⟨_, rfl⟩
  obtain ⟨lw, hlw⟩ : ∃ lw, Sign.lower nm = lw := ⟨_, rfl⟩
  obtain ⟨uq, huq⟩ : ∃ uq, unq bh = uq := ⟨_, rfl⟩
  have HT := Num.hide (fun W hW => htb ▸ Sign.isTok_impl nm W (by unfold maxLen; omega) hW)
  have HL := Num.hide (fun W => hlw ▸ Sign.lower_impl nm W (by unfold maxLen; omega))
  have HU := Num.hide (fun W => huq ▸ unq_impl bh W (by unfold maxLen; omega))
  simp only [htb, hlw, huq]
  clear c0 hb0 hm htb hlw huq hS
  go_enter Tryz.func136, Tryz.ntmps136
  go_wp2_with fail
  refine HM.out.mono ?_
  rintro e w0 ⟨b, rfl, n, rfl⟩
  go_wp2_with fail
  refine (HL.out _).mono ?_
  rintro e w1 ⟨rfl, hb1⟩
  have hb2 := (Strs.below_drewN HB0.out n).trans (hb1.mono (by show _ ≤ (w.alloc _).heap.size; omega : w.heap.size ≤ _))
  have HB := Num.hide hb2
  have HW := Num.hide (signs_below HS.out hb2 hsl)
  have hbox : w1.heap[w.heap.size]? = some (.cells #[.string ⟨#[]⟩, .string ⟨#[]⟩] 78) := by rw [hb1.block _ (by show _ < (w.alloc _).heap.size; omega)]; exact HC.out
  have HX := Num.hide hbox
  clear hb1 hb2 hbox HC HB0 HL HM hz0
  go_wp2_with fail
  refine (HU.out _).mono ?_
  rintro e w2 ⟨rfl, rfl⟩
  go_wp2_with fail
  refine (HT.out _ HW.out).mono ?_
  rintro e w3 ⟨rfl, rfl⟩
  obtain ⟨k0, k1, g0, g1⟩ := two_cells HX.out
  have r0 := Num.hide (box_first (x := lw) (y := uq) k0)
  have r1 := Num.hide (box_second (x := lw) (y := uq) k1)
  have HB1 := Num.hide ((HB.out.setCell (p := ⟨w.heap.size, 0, none⟩) (Nat.le_refl _) (.string lw)).setCell (p := ⟨w.heap.size, 1, none⟩) (Nat.le_refl _) (.string uq))
  go_wp2
  generalize ((w1.setCell ⟨w.heap.size, 0, none⟩ (.string lw)).setCell ⟨w.heap.size, 1, none⟩ (.string uq)) = w4 at r0 r1 HB1 ⊢
  have r0 := r0.out
  have r1 := r1.out
  exact bodyPost_ret (v := .tuple #[.agg #[.string lw, .string uq], .bool tb]) (by simp [results, Tryz.results136, go_sem, r0, r1]) rfl ⟨rfl, HB1.out⟩
end Cc
end Go.Proofs.YtbcjpjhpobmpbaaGreatDoor
namespace Go.Proofs.YtbcjpjhpobmpbaaGreatDoor
open Go.RowKit
set_option linter.unusedVariables false
namespace Cc
open Flds (Fld)

set_option maxRecDepth 100000 in
set_option maxHeartbeats 2000000 in
theorem dirsOf_any (v : Value) (L : List ByteArray) (w : World) (h : Strs.Is w v L) (hl : L.length ≤ 2097152) (hz : ∀ t ∈ L, t.size ≤ 1048576) (hm : Lim w) (hS : Sign.Signs w) :
    Calls Tryz.prog 135 #[v, .func (.func 136) #[] #[]] w fun e w' => ∃ v', e = .returned v' ∧ Dirs.Own w.heap.size w' v' (ofParts L) ∧ Below w.heap.size w w' := by
  have h2 : ∃ a c, v = .slice a L.length c ∧ (0 < L.length → ∃ b o, a = some ⟨b, o, none⟩ ∧ L.length ≤ c ∧ c ≤ maxLen ∧ b < w.heap.size ∧ ∀ i (h : i < L.length), w.cell? ⟨b, o + i, none⟩ = some (.string L[i])) := by
    rcases h with ⟨rfl, a, c, rfl⟩ | ⟨b, o, c, rfl, h1, h2, h3⟩
    · exact ⟨a, c, rfl, fun h => by simp at h⟩
    · refine ⟨_, c, rfl, fun hp => ⟨b, o, rfl, h1, h2, ?_, h3⟩⟩
      exact Recs.lt_of_cell (h3 0 hp)
  obtain ⟨a, c, rfl, h2⟩ := h2
  have HA := Num.hide h2
  have HZ := Num.hide hz
  have HM := Num.hide hm
  have HS := Num.hide hS
  have hsl := signs_lt hS
  have hlm := lim_lt hm
  have hent : ∀ args W, (callFunc 136 args).run Tryz.prog W = .ok (.enter 136 args) W := enters_of Tryz.func136 (by kernel_rfl) rfl
  clear h h2 hz hm hS
  obtain ⟨i0, hi0, hz0, hz1, hz2⟩ := info_parts Dirs.infoD
  have HA0 : Hid (Dirs.Own w.heap.size w (.slice none 0 0) (ofParts (L.take 0))) := Recs.own_nil _ _
  go_enter Tryz.func135, Tryz.ntmps135
  go_wp2
  go_loopw [5, 12] (fun ov iv wr => ∃ i : Nat, i ≤ L.length ∧ iv = .int .i64 (i : Int) ∧ Hid (Dirs.Own w.heap.size wr ov (ofParts (L.take i))) ∧ Hid (Below w.heap.size w wr)) (fun _ iv _ => L.length - (intOf iv).toNat)
  case atStart => exact ⟨0, by omega, rfl, HA0, Below.refl _ _⟩
  case round =>
    clear HA0
    obtain ⟨i, hi, rfl, HO, HB⟩ := hrel
    have hsz := HB.out.size
    by_cases hlt : i < L.length
    · obtain ⟨bk, o, rfl, hc, hmx, hblt, hcell⟩ := Num.unhide HA (by omega)
      have c1 : wr.cell? ⟨bk, o + i, none⟩ = some (.string L[i]) := by rw [HB.out.cell (p := ⟨bk, o + i, none⟩) hblt]; exact hcell i hlt
      have HCi := Num.hide (readDir_impl L[i] wr (HZ.out _ (List.getElem_mem hlt)) (lim_below HM.out HB.out hlm) (signs_below HS.out HB.out hsl))
      have HF := Num.hide (ofParts_take L i hlt)
      have hdl : (ofParts (L.take i)).length ≤ 2097152 := by have := ofParts_len (L.take i); rw [List.length_take] at this; omega
      clear hcell
      generalize L[i] = t at c1 HCi HF
      generalize dirOf t = f at HCi HF
      generalize isDir t = tb at HCi HF
      obtain ⟨m1, m2⟩ := f
      simp only at HCi
      go_wp2_with fail
      refine HCi.out.mono ?_
      rintro e w1 ⟨rfl, hb1⟩
      have HO2 := Num.hide (Recs.own_below HO.out hb1)
      have HB2 := Num.hide (HB.out.trans (hb1.mono hsz))
      have hsz2 := Nat.le_trans hsz hb1.size
      clear hb1 HO HB c1 HCi
      have hsz3 : w.heap.size ≤ (w1.alloc (.cells #[.string m1, .string m2] 78)).heap.size := by simp; omega
      have HB3 := Num.hide (HB2.out.alloc hsz2 (.cells #[.string m1, .string m2] 78))
      have HO3 := Num.hide (World.ownsRow.alloc HO2.out (.cells #[.string m1, .string m2] 78))
      clear HO2 HB2
      cases tb with
      | false =>
        have HO4 : Hid (Dirs.Own w.heap.size (w1.alloc (.cells #[.string m1, .string m2] 78)) u5 (ofParts (L.take (i + 1)))) := by
          rw [HF.out, if_neg (by simp), List.append_nil]; exact HO3
        clear HO3
        go_wp2
        go_roundw
        case rel => exact ⟨i + 1, by omega, by go_num, HO4, HB3⟩
        case measure => simp [intOf]; omega
      | true =>
        have HF2 : Hid (ofParts (L.take (i + 1)) = ofParts (L.take i) ++ [(m1, m2)]) := by show _ = _; rw [HF.out, if_pos rfl]
        clear HF
        go_wp2_with (at_builtin; refine wpList_append_own _ rfl _ _ 76 rfl w.heap.size 78 i0 _ 2 32 Tryz.underlying76 hi0 hz0 hz1 hz2 rfl (by decide) _ _ _ rfl (World.ownsRow.alloc HO3.out _) ⟨w1.heap.size + 1, 0, none⟩ 1 1 [.string m1, .string m2] rfl rfl (by simpa using Dirs.cells_two (w1.alloc (.cells #[.string m1, .string m2] 78)) m1 m2) (Flds.two_ok m1 m2) (by unfold maxLen; omega) (by omega) ?c5 ?_)
        case c5 => first | omega | (simp; omega)
        intro v' w2 ho2 hg2 _
        obtain ⟨hp1, hp2⟩ := Dirs.put_more hsz3 HO3.out (Below.refl w.heap.size _) ho2 hg2
        have HP1 : Hid (Dirs.Own w.heap.size w2 v' (ofParts (L.take (i + 1)))) := by rw [HF2.out]; exact hp1
        have HP2 := Num.hide (HB3.out.trans hp2)
        clear ho2 hg2 hp1 hp2
        go_wp2
        go_roundw
        case rel => exact ⟨i + 1, by omega, by go_num, HP1, HP2⟩
        case measure => simp [intOf]; omega
    · obtain rfl : i = L.length := by omega
      have ho := HO.out
      rw [List.take_length] at ho
      have HO2 := Num.hide ho
      clear ho HO
      go_wp2
      go_ret
      exact ⟨_, rfl, HO2.out, HB.out⟩
end Cc
end Go.Proofs.YtbcjpjhpobmpbaaGreatDoor
