/-
  LowerImpl: isUpper and Lower of the program: what the calls return, for every byte and every text; what was there stays.
  ReadDirImpl: readDirective of the program: the directive of a part, and whether it is one.
  ChsDir: putChosen of the program from texts to directives: the directive of each part that is one, behind each other in a row of the call's own.
  ShelfTrim: Library contracts at this program: strings_Trim_one.
-/
import Derived.Test.YtihiljickefanaaGreatDoorPah
import Derived.Test.YtihiljickefanaaGreatDoorUpperImpl
import Derived.Test.YtihiljickefanaaGreatDoorPaw
import Derived.Test.YtihiljickefanaaGreatDoorTokenImpl
import Derived.Test.YtihiljickefanaaGreatDoorPak
import Derived.Test.YtihiljickefanaaGreatDoorPaj
import Derived.Shelf.Strings.Builder1
import Derived.Shelf.Strings.Builder2
import Derived.Shelf.Strings.OnBuilder
import Derived.Shelf.Strings.Trim
import Derived.Shelf.Small.Utf8
import Derived.Shelf.Small.Strs
import Derived.Shelf.Strings.BuilderF
import Derived.Shelf.Strings.BuilderK
import Derived.Shelf.Strconv.Itoa0
import Derived.Shelf.Strconv.Itoa1
import Derived.Shelf.LaysM
import Derived.Shelf.Strconv.Itoa2
import Derived.Shelf.Strconv.Itoa3
import Derived.Shelf.Strconv.Clone
import Derived.Shelf.Strings.Search1
import Derived.Shelf.Strings.Search2
import Derived.Shelf.Strings.Search3
import Derived.Shelf.Strings.Cut
import Derived.Shelf.Strings.Shaped
import Derived.Shelf.Unicode.Decode
import Derived.Shelf.Strings.Runes
import Derived.Shelf.Strings.AsciiSet
import Derived.Shelf.Unicode.DecodeSlow
import Derived.Shelf.Unicode.DecodeAny
import Derived.Shelf.Unicode.DecodeLast
import Derived.Test.YtihiljickefanaaGreatDoorRows
namespace Go.Proofs.YtihiljickefanaaGreatDoor
open Go.RowKit
set_option linter.unusedVariables false
namespace Sign

theorem u8_add (c : Int) (h0 : 65 ≤ c) (h1 : c ≤ 90) : IntKind.u8.wrap (c + 32) = c + 32 := by
  rw [IntKind.wrap_u8]; omega

set_option maxRecDepth 100000 in
set_option maxHeartbeats 1000000 in
theorem lower_impl (s : ByteArray) (w : World) (hs : s.size ≤ maxLen) : Calls Tryz.prog 115 #[.string s] w fun e w' => e = .returned (.string (lower s)) ∧ Below w.heap.size w w' := by
  unfold maxLen at hs
  have hconv := Lib.run_convert_string_bytes (P := Tryz.prog) w 9 22 5 s (u := .string) Tryz.underlying9 Tryz.underlying22 Tryz.underlying5
  have hP := Num.hide (bytes_part w 5 s)
  have hB := Num.hide (bytes_below w 5 s)
  generalize Lib.bytesWorld w 5 s = W0 at hconv hP hB
  generalize grownCap w s.size 0 5 = cap at hconv
  go_enter Tryz.func115, Tryz.ntmps115
  go_wp2
  clear hconv
  go_loopw [10] (fun i W => ∃ k : Nat, k ≤ s.size ∧ i = .int .i64 k ∧ Hid (Part w.heap.size s k W) ∧ Hid (Below w.heap.size w W)) (fun i _ => s.size - (intOf i).toNat)
  case atStart => exact ⟨0, by omega, rfl, hP, hB⟩
  case round =>
    clear hP hB
    obtain ⟨k, hk, rfl, hP, hB⟩ := hrel
    by_cases hlt : k < s.size
    · have hcell := hP.out.todo k hlt (Nat.le_refl _)
      have hfree := hP.out.free k hlt
      by_cases hu : up (s[k].toNat : Int)
      · have hut := Num.hide (decide_eq_true hu)
        have hP2 := Num.hide (part_up hP.out hlt hu)
        have hw := u8_add _ hu.1 hu.2
        clear hu
        go_wp2_with (go_at_call 123; refine (isUpper_any _ _).mono ?_; rintro e w' ⟨rfl, rfl⟩; rw [Num.unhide hut])
        go_roundw
        case rel => exact ⟨k + 1, by omega, by go_num, hP2, Num.hide (hB.out.setCell (Nat.le_refl _) _)⟩
        case measure => simp [intOf]; omega
      · have hut := Num.hide (decide_eq_false hu)
        have hP2 := Num.hide (part_no hP.out hlt hu)
        clear hu
        go_wp2_with (go_at_call 123; refine (isUpper_any _ _).mono ?_; rintro e w' ⟨rfl, rfl⟩; rw [Num.unhide hut])
        go_roundw
        case rel => exact ⟨k + 1, by omega, by go_num, hP2, hB⟩
        case measure => simp [intOf]; omega
    · obtain rfl : k = s.size := by omega
      have hback := part_back hP.out cap
      go_wp2
      go_ret
      exact ⟨rfl, hB.out⟩
end Sign
end Go.Proofs.YtihiljickefanaaGreatDoor
namespace Go.Proofs.YtihiljickefanaaGreatDoor
open Go.RowKit
set_option linter.unusedVariables false
namespace Cc
open Flds (Fld two_cells box_first box_second)

theorem signs_lt {w : World} (h : Sign.Signs w) : 1 < w.heap.size := Recs.lt_of_cell (h 0 (by decide))
theorem signs_below {w w' : World} {B : Nat} (h : Sign.Signs w) (hb : Below B w w') (hB : 1 < B) : Sign.Signs w' :=
  fun i hi => (hb.cell (p := ⟨1, i, none⟩) hB).trans (h i hi)
set_option maxRecDepth 100000 in
set_option maxHeartbeats 2000000 in
theorem readDir_impl (s : ByteArray) (w : World) (hs : s.size ≤ 1048576) (hm : Lim w) (hS : Sign.Signs w) :
    Calls Tryz.prog 103 #[.string s] w fun e w' => e = .returned (.tuple #[.agg #[.string (dirOf s).1, .string (dirOf s).2], .bool (isDir s)]) ∧ Below w.heap.size w w' := by
  have c0 : (w.alloc (.cells #[.string ⟨#[]⟩, .string ⟨#[]⟩] 81)).heap[w.heap.size]? = some (.cells #[.string ⟨#[]⟩, .string ⟨#[]⟩] 81) := heap_alloc_new w _
  have HC := Num.hide c0
  have hb0 := (Below.refl w.heap.size w).alloc (Nat.le_refl _) (.cells #[.string ⟨#[]⟩, .string ⟨#[]⟩] 81)
  have HB0 := Num.hide hb0
  have hz0 : w.heap.size + 1 = (w.alloc (.cells #[.string ⟨#[]⟩, .string ⟨#[]⟩] 81)).heap.size := by simp
  have HM := Num.hide (cut_eq s _ hs (lim_below hm hb0 (lim_lt hm)))
  have hsl := signs_lt hS
  have HS := Num.hide hS
  have hn := name_size s
  have hv := behind_size s
  unfold dirOf isDir
  generalize nameOf s = nm at HM hn ⊢
  generalize behind s = bh at HM hv ⊢
  obtain ⟨tb, htb⟩ : ∃ tb, Sign.isTok nm = tb := ⟨_, rfl⟩
  obtain ⟨lw, hlw⟩ : ∃ lw, Sign.lower nm = lw := ⟨_, rfl⟩
  obtain ⟨uq, huq⟩ : ∃ uq, unq bh = uq := ⟨_, rfl⟩
  have HT := Num.hide (fun W hW => htb ▸ Sign.isTok_impl nm W (by unfold maxLen; omega) hW)
  have HL := Num.hide (fun W => hlw ▸ Sign.lower_impl nm W (by unfold maxLen; omega))
  have HU := Num.hide (fun W => huq ▸ unq_impl bh W (by unfold maxLen; omega))
  simp only [htb, hlw, huq]
  clear c0 hb0 hm htb hlw huq hS
  go_enter Tryz.func103, Tryz.ntmps103
  go_wp2_with fail
  refine HM.out.mono ?_
  rintro e w0 ⟨b, rfl, n, rfl⟩
  go_wp2_with fail
  refine (HL.out _).mono ?_
  rintro e w1 ⟨rfl, hb1⟩
  have hb2 := (Strs.below_drewN HB0.out n).trans (hb1.mono (by show _ ≤ (w.alloc _).heap.size; omega : w.heap.size ≤ _))
  have HB := Num.hide hb2
  have HW := Num.hide (signs_below HS.out hb2 hsl)
  have hbox : w1.heap[w.heap.size]? = some (.cells #[.string ⟨#[]⟩, .string ⟨#[]⟩] 81) := by rw [hb1.block _ (by show _ < (w.alloc _).heap.size; omega)]; exact HC.out
  have HX := Num.hide hbox
  clear hb1 hb2 hbox HC HB0 HL HM hz0
  go_wp2_with fail
  refine (HU.out _).mono ?_
  rintro e w2 ⟨rfl, rfl⟩
  go_wp2_with fail
  refine (HT.out _ HW.out).mono ?_
  rintro e w3 ⟨rfl, rfl⟩
  obtain ⟨k0, k1, g0, g1⟩ := two_cells HX.out
  have r0 := Num.hide (box_first (x := lw) (y := uq) k0)
  have r1 := Num.hide (box_second (x := lw) (y := uq) k1)
  have HB1 := Num.hide ((HB.out.setCell (p := ⟨w.heap.size, 0, none⟩) (Nat.le_refl _) (.string lw)).setCell (p := ⟨w.heap.size, 1, none⟩) (Nat.le_refl _) (.string uq))
  go_wp2
  generalize ((w1.setCell ⟨w.heap.size, 0, none⟩ (.string lw)).setCell ⟨w.heap.size, 1, none⟩ (.string uq)) = w4 at r0 r1 HB1 ⊢
  have r0 := r0.out
  have r1 := r1.out
  exact bodyPost_ret (v := .tuple #[.agg #[.string lw, .string uq], .bool tb]) (by simp [results, Tryz.results103, go_sem, r0, r1]) rfl ⟨rfl, HB1.out⟩
end Cc
end Go.Proofs.YtihiljickefanaaGreatDoor
namespace Go.Proofs.YtihiljickefanaaGreatDoor
open Go.RowKit
set_option linter.unusedVariables false
namespace Cc
open Flds (Fld)

set_option maxRecDepth 100000 in
set_option maxHeartbeats 2000000 in
theorem dirsOf_any (v : Value) (L : List ByteArray) (w : World) (h : Strs.Is w v L) (hl : L.length ≤ 2097152) (hz : ∀ t ∈ L, t.size ≤ 1048576) (hm : Lim w) (hS : Sign.Signs w) :
    Calls Tryz.prog 101 #[v, .func (.func 103) #[] #[]] w fun e w' => ∃ v', e = .returned v' ∧ Dirs.Own w.heap.size w' v' (ofParts L) ∧ Below w.heap.size w w' := by
  have h2 : ∃ a c, v = .slice a L.length c ∧ (0 < L.length → ∃ b o, a = some ⟨b, o, none⟩ ∧ L.length ≤ c ∧ c ≤ maxLen ∧ b < w.heap.size ∧ ∀ i (h : i < L.length), w.cell? ⟨b, o + i, none⟩ = some (.string L[i])) := by
    rcases h with ⟨rfl, a, c, rfl⟩ | ⟨b, o, c, rfl, h1, h2, h3⟩
    · exact ⟨a, c, rfl, fun h => by simp at h⟩
    · refine ⟨_, c, rfl, fun hp => ⟨b, o, rfl, h1, h2, ?_, h3⟩⟩
      exact Recs.lt_of_cell (h3 0 hp)
  obtain ⟨a, c, rfl, h2⟩ := h2
  have HA := Num.hide h2
  have HZ := Num.hide hz
  have HM := Num.hide hm
  have HS := Num.hide hS
  have hsl := signs_lt hS
  have hlm := lim_lt hm
  have hent : ∀ args W, (callFunc 103 args).run Tryz.prog W = .ok (.enter 103 args) W := enters_of Tryz.func103 (by kernel_rfl) rfl
  clear h h2 hz hm hS
  obtain ⟨i0, hi0, hz0, hz1, hz2⟩ := info_parts Dirs.infoD
  have HA0 : Hid (Dirs.Own w.heap.size w (.slice none 0 0) (ofParts (L.take 0))) := Recs.own_nil _ _
  go_enter Tryz.func101, Tryz.ntmps101
  go_wp2
  go_loopw [5, 12] (fun ov iv wr => ∃ i : Nat, i ≤ L.length ∧ iv = .int .i64 (i : Int) ∧ Hid (Dirs.Own w.heap.size wr ov (ofParts (L.take i))) ∧ Hid (Below w.heap.size w wr)) (fun _ iv _ => L.length - (intOf iv).toNat)
  case atStart => exact ⟨0, by omega, rfl, HA0, Below.refl _ _⟩
  case round =>
    clear HA0
    obtain ⟨i, hi, rfl, HO, HB⟩ := hrel
    have hsz := HB.out.size
    by_cases hlt : i < L.length
    · obtain ⟨bk, o, rfl, hc, hmx, hblt, hcell⟩ := Num.unhide HA (by omega)
      have c1 : wr.cell? ⟨bk, o + i, none⟩ = some (.string L[i]) := by rw [HB.out.cell (p := ⟨bk, o + i, none⟩) hblt]; exact hcell i hlt
      have HCi := Num.hide (readDir_impl L[i] wr (HZ.out _ (List.getElem_mem hlt)) (lim_below HM.out HB.out hlm) (signs_below HS.out HB.out hsl))
      have HF := Num.hide (ofParts_take L i hlt)
      have hdl : (ofParts (L.take i)).length ≤ 2097152 := by have := ofParts_len (L.take i); rw [List.length_take] at this; omega
      clear hcell
      generalize L[i] = t at c1 HCi HF
      generalize dirOf t = f at HCi HF
      generalize isDir t = tb at HCi HF
      obtain ⟨m1, m2⟩ := f
      simp only at HCi
      go_wp2_with fail
      refine HCi.out.mono ?_
      rintro e w1 ⟨rfl, hb1⟩
      have HO2 := Num.hide (Recs.own_below HO.out hb1)
      have HB2 := Num.hide (HB.out.trans (hb1.mono hsz))
      have hsz2 := Nat.le_trans hsz hb1.size
      clear hb1 HO HB c1 HCi
      have hsz3 : w.heap.size ≤ (w1.alloc (.cells #[.string m1, .string m2] 81)).heap.size := by simp; omega
      have HB3 := Num.hide (HB2.out.alloc hsz2 (.cells #[.string m1, .string m2] 81))
      have HO3 := Num.hide (World.ownsRow.alloc HO2.out (.cells #[.string m1, .string m2] 81))
      clear HO2 HB2
      cases tb with
      | false =>
        have HO4 : Hid (Dirs.Own w.heap.size (w1.alloc (.cells #[.string m1, .string m2] 81)) u5 (ofParts (L.take (i + 1)))) := by
          rw [HF.out, if_neg (by simp), List.append_nil]; exact HO3
        clear HO3
        go_wp2
        go_roundw
        case rel => exact ⟨i + 1, by omega, by go_num, HO4, HB3⟩
        case measure => simp [intOf]; omega
      | true =>
        have HF2 : Hid (ofParts (L.take (i + 1)) = ofParts (L.take i) ++ [(m1, m2)]) := by show _ = _; rw [HF.out, if_pos rfl]
        clear HF
        go_wp2_with (at_builtin; refine wpList_append_own _ rfl _ _ 79 rfl w.heap.size 81 i0 _ 2 32 Tryz.underlying79 hi0 hz0 hz1 hz2 rfl (by decide) _ _ _ rfl (World.ownsRow.alloc HO3.out _) ⟨w1.heap.size + 1, 0, none⟩ 1 1 [.string m1, .string m2] rfl rfl (by simpa using Dirs.cells_two (w1.alloc (.cells #[.string m1, .string m2] 81)) m1 m2) (Flds.two_ok m1 m2) (by unfold maxLen; omega) (by omega) ?c5 ?_)
        case c5 => first | omega | (simp; omega)
        intro v' w2 ho2 hg2 _
        obtain ⟨hp1, hp2⟩ := Dirs.put_more hsz3 HO3.out (Below.refl w.heap.size _) ho2 hg2
        have HP1 : Hid (Dirs.Own w.heap.size w2 v' (ofParts (L.take (i + 1)))) := by rw [HF2.out]; exact hp1
        have HP2 := Num.hide (HB3.out.trans hp2)
        clear ho2 hg2 hp1 hp2
        go_wp2
        go_roundw
        case rel => exact ⟨i + 1, by omega, by go_num, HP1, HP2⟩
        case measure => simp [intOf]; omega
    · obtain rfl : i = L.length := by omega
      have ho := HO.out
      rw [List.take_length] at ho
      have HO2 := Num.hide ho
      clear ho HO
      go_wp2
      go_ret
      exact ⟨_, rfl, HO2.out, HB.out⟩
end Cc
end Go.Proofs.YtihiljickefanaaGreatDoor
namespace Go.Proofs.YtihiljickefanaaGreatDoor
open Go.Shelf
def Shelf.lays160_ren : Go.Shelf.Ren := ⟨fun | 160 => 126 | 232 => 133 | 231 => 132 | 227 => 134 | 234 => 136 | 233 => 135 | 236 => 138 | 235 => 137 | 228 => 144 | 271 => 147 | 151 => 146 | 197 => 145 | 120 => 152 | 152 => 151 | 260 => 150 | 137 => 153 | 119 => 154 | 224 => 107 | 225 => 106 | 217 => 105 | 266 => 118 | n => n, fun | 9 => 9 | 4 => 4 | 3 => 3 | 5 => 5 | 117 => 142 | 116 => 141 | 0 => 0 | 124 => 145 | 21 => 21 | 105 => 150 | 46 => 88 | 119 => 157 | 139 => 160 | 138 => 159 | n => n, fun | 3 => 5 | 4 => 6 | n => n⟩
theorem Shelf.lays160 : Go.Proofs.Lays.n160 Tryz.prog Shelf.lays160_ren := {
  mixed := by kernel_rfl
  f119 := Tryz.func154.trans (congrArg some (by kernel_rfl))
  f120 := Tryz.func152.trans (congrArg some (by kernel_rfl))
  f137 := Tryz.func153.trans (congrArg some (by kernel_rfl))
  f151 := Tryz.func146.trans (congrArg some (by kernel_rfl))
  f152 := Tryz.func151.trans (congrArg some (by kernel_rfl))
  f160 := Tryz.func126.trans (congrArg some (by kernel_rfl))
  f197 := Tryz.func145.trans (congrArg some (by kernel_rfl))
  f217 := Tryz.func105.trans (congrArg some (by kernel_rfl))
  f224 := Tryz.func107.trans (congrArg some (by kernel_rfl))
  f225 := Tryz.func106.trans (congrArg some (by kernel_rfl))
  f227 := Tryz.func134.trans (congrArg some (by kernel_rfl))
  f228 := Tryz.func144.trans (congrArg some (by kernel_rfl))
  f231 := Tryz.func132.trans (congrArg some (by kernel_rfl))
  f232 := Tryz.func133.trans (congrArg some (by kernel_rfl))
  f233 := Tryz.func135.trans (congrArg some (by kernel_rfl))
  f234 := Tryz.func136.trans (congrArg some (by kernel_rfl))
  f235 := Tryz.func137.trans (congrArg some (by kernel_rfl))
  f236 := Tryz.func138.trans (congrArg some (by kernel_rfl))
  f260 := Tryz.func150.trans (congrArg some (by kernel_rfl))
  f266 := Tryz.func118.trans (congrArg some (by kernel_rfl))
  f271 := Tryz.func147.trans (congrArg some (by kernel_rfl))
  t0 := Tryz.underlying0
  a0 := Tryz.isAgg0
  z0 := Tryz.sizeOf0
  v0 := Tryz.zeroValue0
  t3 := Tryz.underlying3
  a3 := Tryz.isAgg3
  z3 := Tryz.sizeOf3
  v3 := Tryz.zeroValue3
  t4 := Tryz.underlying4
  a4 := Tryz.isAgg4
  z4 := Tryz.sizeOf4
  v4 := Tryz.zeroValue4
  t5 := Tryz.underlying5
  a5 := Tryz.isAgg5
  z5 := Tryz.sizeOf5
  v5 := Tryz.zeroValue5
  t9 := Tryz.underlying9
  a9 := Tryz.isAgg9
  z9 := Tryz.sizeOf9
  v9 := Tryz.zeroValue9
  t21 := Tryz.underlying21
  a21 := Tryz.isAgg21
  z21 := Tryz.sizeOf21
  v21 := Tryz.zeroValue21
  t46 := Tryz.underlying88
  a46 := Tryz.isAgg88
  z46 := Tryz.sizeOf88
  v46 := Tryz.zeroValue88
  t105 := Tryz.underlying150
  a105 := Tryz.isAgg150
  z105 := Tryz.sizeOf150
  v105 := Tryz.zeroValue150
  t116 := Tryz.underlying141
  a116 := Tryz.isAgg141
  z116 := Tryz.sizeOf141
  t117 := Tryz.underlying142
  a117 := Tryz.isAgg142
  z117 := Tryz.sizeOf142
  v117 := Tryz.zeroValue142
  t119 := Tryz.underlying157
  a119 := Tryz.isAgg157
  z119 := Tryz.sizeOf157
  t124 := Tryz.underlying145
  a124 := Tryz.isAgg145
  z124 := Tryz.sizeOf145
  v124 := Tryz.zeroValue145
  t138 := Tryz.underlying159
  a138 := Tryz.isAgg159
  z138 := Tryz.sizeOf159
  v138 := Tryz.zeroValue159
  t139 := Tryz.underlying160
  a139 := Tryz.isAgg160
  z139 := Tryz.sizeOf160
  v139 := Tryz.zeroValue160
  g3 := by kernel_rfl
  g4 := by kernel_rfl }
open Go.RowKit in
theorem Shelf.strings_Trim_one (s : ByteArray) (c : UInt8) (hc : c.toNat < 128) (w : World) (hs : s.size ≤ 9223372036854775807) :
    Calls Tryz.prog 126 #[.string s, .string ⟨#[c]⟩] w fun e w' => e = .returned (.string ⟨(Lib.trimB s.data.toList c).toArray⟩) ∧ (w' = w ∨ w' = w.drew) := Any.strings_Trim_one Shelf.lays160 s c hc w hs
end Go.Proofs.YtihiljickefanaaGreatDoor
