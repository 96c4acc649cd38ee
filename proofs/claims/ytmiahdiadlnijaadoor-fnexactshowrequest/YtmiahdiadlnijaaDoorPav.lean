/-
  Mem: New rows of bytes and the texts that are made of them.
  DecSpec: Dec of the specification: what the call returns, for every number; old memory stays as it was.
  FramedSpec: l6Framed of the specification: a body's fields as a message has them that goes out, in a row of the call's own.
-/
import Derived.Test.YtmiahdiadlnijaaDoorRows
import Derived.Test.YtmiahdiadlnijaaDoorNum
import Derived.WalkKit
import Derived.WalkLawsBesides
import Derived.Laws.CopyOwn
import Derived.Laws.IdiomStrings
import Derived.Test.YtmiahdiadlnijaaDoorPag
import Derived.Test.YtmiahdiadlnijaaDoorPau
import Derived.Test.YtmiahdiadlnijaaDoorPac
namespace Go.Proofs.YtmiahdiadlnijaaDoor
open Go.RowKit
set_option linter.unusedVariables false
namespace Mem


theorem info5 : (Tryd.prog.info? 5).map (fun i => (i.zero, i.size, i.bytes)) = some (some (.int .u8 0), 1, 1) := by kernel_rfl
theorem made_zero (n : Nat) : (madeCells (Value.int .u8 0).cells (n * 1)).toList = List.replicate n (Value.int .u8 0) := by
  apply List.ext_getElem
  · simp [size_madeCells]
  · intro i h1 h2
    have e : i % 1 = 0 := by omega
    simp [madeCells, Value.cells, e]
theorem made_row {w w1 : World} {n : Nat} (h : w1.ownsRow w.heap.size 5 1 (.slice (some ⟨w.heap.size, 0, none⟩) n n) n (madeCells (Value.int .u8 0).cells (n * 1)).toList) :
    w1.heap[w.heap.size]? = some (.cells (List.replicate n (Value.int .u8 0)).toArray 5 (0, 0)) := by
  rcases h.2 with ⟨h', _⟩ | ⟨g', cap', cur, h', _, hg, _, _, hcs, htake⟩
  · simp at h'
  · simp only [Value.slice.injEq, Option.some.injEq, Addr.mk.injEq, and_true, true_and] at h'
    obtain ⟨rfl, rfl⟩ := h'
    rw [hg, ← made_zero n, ← htake, List.take_of_length_le (by rw [Array.length_toList, hcs]; exact Nat.le_refl _)]
theorem lt_of_row {w : World} {g : Nat} {o : Obj} (h : w.heap[g]? = some o) : g < w.heap.size := (Array.getElem?_eq_some_iff.1 h).1
theorem one_cell (w : World) (v : Value) (t : TypeId) : ∀ j u, [v][j]? = some u → (w.alloc (.cells #[v] t)).cell? ((⟨w.heap.size, 0, none⟩ : Addr).add j) = some u := by
  intro j u hj
  match j, hj with
  | 0, hj => simp at hj; subst hj; simp [Addr.add]
theorem conv_one (w : World) (x : Int) (h0 : 0 ≤ x) (h1 : x < 256) :
    (convert 65 9 (.slice (some ⟨w.heap.size, 0, none⟩) 1 1)).run Tryd.prog (w.alloc (.cells #[.int .u8 x] 5)) = .ok (.string ⟨[Num.byte x].toArray⟩) (w.alloc (.cells #[.int .u8 x] 5)) := by
  refine run_convert_bytes_back (P := Tryd.prog) (w.alloc (.cells #[.int .u8 x] 5)) 65 9 5 ⟨w.heap.size, 0, none⟩ 1 [Num.byte x] Tryd.underlying65 Tryd.underlying5 Tryd.underlying9 ?_
  intro j hj
  obtain rfl : j = 0 := by simp at hj; omega
  have e : ((Num.byte x).toNat : Int) = x := by rw [Num.byte_val]; omega
  simp [Addr.add, e]
end Mem
end Go.Proofs.YtmiahdiadlnijaaDoor
namespace Go.Proofs.YtmiahdiadlnijaaDoor
open Go.RowKit
set_option linter.unusedVariables false
namespace Dec

theorem lay_front (out : List UInt8) (u : Nat) (r : List UInt8) (x : Int) (h : u ≠ 0) (hx : x = 48 + ((u % 10 : Nat) : Int)) (he : r = dd u ++ out) :
    r = dd (u / 10) ++ (Num.byte x :: out) := by
  subst hx
  rw [he, dd_step u h, List.append_assoc]; rfl
theorem cons_text (c : UInt8) (out : List UInt8) : (⟨#[c]⟩ : ByteArray) ++ ⟨out.toArray⟩ = ⟨(c :: out).toArray⟩ := by
  rw [ByteArray.mk_append_mk]; simp
set_option maxRecDepth 100000 in
set_option maxHeartbeats 1000000 in
theorem spec_pos (n : Int) (w : World) (h0 : 0 < n) (h1 : n ≤ 9223372036854775807) :
    Calls Tryd.prog 36 #[.int .i64 n] w fun e w' => e = .returned (.string ⟨(dd n.natAbs).toArray⟩) ∧ Below w.heap.size w w' := by
  have hz : (n == 0) = false := by rw [beq_eq_false_iff_ne]; omega
  have hneg : decide (n < 0) = false := by simp; omega
  go_enter Tryd.func36, Tryd.ntmps36
  go_wp2
  go_loopw [0, 3] (fun q o wr => ∃ (r : Int) (out : List UInt8), 0 ≤ r ∧ r ≤ n ∧ Hid (dd n.natAbs = dd r.natAbs ++ out) ∧ q = .int .i64 r ∧ o = .string ⟨out.toArray⟩ ∧ Below w.heap.size w wr) (fun q _ _ => (intOf q).toNat)
  case atStart => exact ⟨n, [], by omega, by omega, by show _ = _; simp, rfl, rfl, Below.refl _ _⟩
  case round =>
    obtain ⟨r, out, hr0, hrn, hd, rfl, rfl, hbel⟩ := hrel
    have hl : out.length ≤ 20 := by
      have h2 := congrArg List.length hd.out
      rw [List.length_append] at h2
      have h3 := length_dd n.natAbs (by omega)
      omega
    by_cases hr : r = 0
    · subst hr
      have hne : ((0 : Int) != 0) = false := rfl
      go_wp2
      go_ret
      exact ⟨by rw [show dd n.natAbs = out from hd.out]; rfl, hbel⟩
    · have hne : (r != 0) = true := by rw [bne_iff_ne]; exact hr
      have hp : 0 < r := by omega
      have hc := Mem.conv_one wr (48 + r % 10) (by omega) (by omega)
      clear hr
      go_wp2
      go_roundw
      case rel => exact ⟨r / 10, Num.byte (48 + r % 10) :: out, by omega, by omega, by show _ = _; rw [lay_front out r.natAbs _ (48 + r % 10) (by omega) (by omega) hd.out, show (r / 10).natAbs = r.natAbs / 10 by omega], rfl, congrArg Value.string (cons_text _ _), hbel.alloc hbel.size _⟩
      case measure => simp [intOf]; omega
theorem neg_parts (r : Int) (h : r < 0) : r.tmod 10 = -((r.natAbs % 10 : Nat) : Int) ∧ r.tdiv 10 = -((r.natAbs / 10 : Nat) : Int) := by
  obtain ⟨u, rfl⟩ : ∃ u : Nat, r = -(u : Int) := ⟨r.natAbs, by omega⟩
  rw [Int.neg_tmod, Int.neg_tdiv, Int.natAbs_neg, Int.natAbs_natCast, Int.tmod_eq_emod_of_nonneg (by omega), Int.tdiv_eq_ediv_of_nonneg (by omega)]
  constructor <;> omega
set_option maxRecDepth 100000 in
set_option maxHeartbeats 1000000 in
theorem spec_neg (n : Int) (w : World) (h0 : n < 0) (h1 : -9223372036854775808 ≤ n) :
    Calls Tryd.prog 36 #[.int .i64 n] w fun e w' => e = .returned (.string ⟨(45 :: dd n.natAbs).toArray⟩) ∧ Below w.heap.size w w' := by
  have hz : (n == 0) = false := by rw [beq_eq_false_iff_ne]; omega
  have hneg : decide (n < 0) = true := by simp; omega
  go_enter Tryd.func36, Tryd.ntmps36
  go_wp2
  go_loopw [0, 3] (fun q o wr => ∃ (r : Int) (out : List UInt8), r ≤ 0 ∧ n ≤ r ∧ Hid (dd n.natAbs = dd r.natAbs ++ out) ∧ q = .int .i64 r ∧ o = .string ⟨out.toArray⟩ ∧ Below w.heap.size w wr) (fun q _ _ => (intOf q).natAbs)
  case atStart => exact ⟨n, [], by omega, by omega, by show _ = _; simp, rfl, rfl, Below.refl _ _⟩
  case round =>
    obtain ⟨r, out, hr0, hrn, hd, rfl, rfl, hbel⟩ := hrel
    have hl : out.length ≤ 20 := by
      have h2 := congrArg List.length hd.out
      rw [List.length_append] at h2
      have h3 := length_dd n.natAbs (by omega)
      omega
    by_cases hr : r = 0
    · subst hr
      have hne : ((0 : Int) != 0) = false := rfl
      go_wp2
      go_ret
      exact ⟨by rw [show dd n.natAbs = out from hd.out]; exact congrArg (fun x => Ending.returned (.string x)) (cons_text _ _), hbel⟩
    · have hne : (r != 0) = true := by rw [bne_iff_ne]; exact hr
      have hp : r < 0 := by omega
      clear hr
      have hnp := Num.hide (neg_parts r hp)
      have hb0 : -9 ≤ r.tmod 10 := by have := (Num.unhide hnp).1; omega
      have hb1 : r.tmod 10 ≤ 0 := by have := (Num.unhide hnp).1; omega
      have hq0 : r ≤ r.tdiv 10 := by have := (Num.unhide hnp).2; omega
      have hq1 : r.tdiv 10 ≤ 0 := by have := (Num.unhide hnp).2; omega
      by_cases ht : r.tmod 10 < 0
      · have hc := Mem.conv_one wr (48 + -r.tmod 10) (by omega) (by omega)
        go_wp2
        go_roundw
        case rel => exact ⟨r.tdiv 10, Num.byte (48 + -r.tmod 10) :: out, by omega, by omega, by show _ = _; rw [lay_front out r.natAbs _ (48 + -r.tmod 10) (by omega) (by have := (Num.unhide hnp).1; omega) hd.out, show (r.tdiv 10).natAbs = r.natAbs / 10 by have := (Num.unhide hnp).2; omega], rfl, congrArg Value.string (cons_text _ _), hbel.alloc hbel.size _⟩
        case measure => show (r.tdiv 10).natAbs < r.natAbs; have := (Num.unhide hnp).2; omega
      · have hc := Mem.conv_one wr (48 + r.tmod 10) (by omega) (by omega)
        go_wp2
        go_roundw
        case rel => exact ⟨r.tdiv 10, Num.byte (48 + r.tmod 10) :: out, by omega, by omega, by show _ = _; rw [lay_front out r.natAbs _ (48 + r.tmod 10) (by omega) (by have := (Num.unhide hnp).1; omega) hd.out, show (r.tdiv 10).natAbs = r.natAbs / 10 by have := (Num.unhide hnp).2; omega], rfl, congrArg Value.string (cons_text _ _), hbel.alloc hbel.size _⟩
        case measure => show (r.tdiv 10).natAbs < r.natAbs; have := (Num.unhide hnp).2; omega
set_option maxHeartbeats 400000 in
theorem spec_zero (w : World) : Calls Tryd.prog 36 #[.int .i64 0] w fun e w' => e = .returned (.string ⟨#[48]⟩) ∧ Below w.heap.size w w' := by
  have hz : ((0 : Int) == 0) = true := rfl
  go_enter Tryd.func36, Tryd.ntmps36
  go_wp2
  go_ret
  exact ⟨rfl, Below.refl _ _⟩
theorem spec_any (n : Int) (w : World) (h0 : -9223372036854775808 ≤ n) (h1 : n ≤ 9223372036854775807) :
    Calls Tryd.prog 36 #[.int .i64 n] w fun e w' => e = .returned (.string ⟨(Lib.itoa n).toArray⟩) ∧ Below w.heap.size w w' := by
  rcases Int.lt_trichotomy n 0 with h | h | h
  · rw [itoa_neg n h]; exact spec_neg n w h h0
  · subst h; rw [itoa_zero]; exact spec_zero w
  · rw [itoa_pos n h]; exact spec_pos n w h h1
end Dec
end Go.Proofs.YtmiahdiadlnijaaDoor
namespace Go.Proofs.YtmiahdiadlnijaaDoor
open Go.RowKit
set_option linter.unusedVariables false
namespace Msg
open Flds (infoF cells_two two_ok put_more)

set_option maxRecDepth 100000 in
set_option maxHeartbeats 2000000 in
theorem framed_spec (v : Value) (l : List Flds.Fld) (b : ByteArray) (w : World) (h : Flds.Is w v l) (hl : l.length ≤ 1073741824) (hb : b.size ≤ 1099511627776) :
    Calls Tryd.prog 31 #[v, .string b] w fun e w' => ∃ v', e = .returned v' ∧ Flds.Own w.heap.size w' v' (framed l b) ∧ Below w.heap.size w w' := by
  obtain ⟨i0, hi0, hz0, hz1, hz2⟩ := info_parts infoF
  have HD1 := Num.hide (Flds.drop_spec v l Body.teName w h hl)
  have HE : Hid (∀ W, Calls Tryd.prog 36 #[.int .i64 (b.size : Int)] W fun e w' => e = .returned (.string (decB b.size)) ∧ Below W.heap.size W w') := fun W => Dec.spec_any (b.size : Int) W (by omega) (by omega)
  have hl2 := Flds.drop_length l Body.teName
  have hl3 := Flds.drop_length (Flds.drop l Body.teName) Body.clName
  obtain ⟨R, hR⟩ : ∃ R, framed l b = R := ⟨_, rfl⟩
  rw [hR]
  unfold framed bare at hR
  have HD2 := Num.hide (fun v W h => Flds.drop_spec v (Flds.drop l Body.teName) Body.clName W h (by omega))
  obtain ⟨a, c, rfl, _⟩ := Flds.is_form h
  clear h
  generalize hL2 : Flds.drop (Flds.drop l Body.teName) Body.clName = L2 at hR HD2 hl3
  generalize hL1 : Flds.drop l Body.teName = L1 at HD1 HD2 hl2 hl3
  generalize decB b.size = t at hR HE
  have HR := Num.hide hR
  clear hR hL1 hL2
  unfold Body.teName at HD1
  unfold Body.clName at HD2 HR
  go_enter Tryd.func31, Tryd.ntmps31
  go_wp2_with fail
  refine HD1.out.mono ?_
  rintro e W1 ⟨v1, rfl, ho1, hb1⟩
  have HO1 := Num.hide ho1
  have HB1 := Num.hide hb1
  clear ho1 hb1 HD1
  go_wp2_with fail
  refine (HD2.out v1 W1 (Recs.own_is Flds.cells_len HO1.out)).mono ?_
  rintro e W2 ⟨v2, rfl, ho2, hb2⟩
  have HO2 := Num.hide (Recs.own_mono ho2 HB1.out.size)
  have HB2 := Num.hide (Recs.below_step HB1.out hb2)
  clear ho2 hb2 HD2 HO1 HB1
  go_wp2_with fail
  refine (HE.out _).mono ?_
  rintro e W3 ⟨rfl, hb3⟩
  have HO3 := Num.hide (Recs.own_below HO2.out hb3)
  have HB3 := Num.hide (Recs.below_step HB2.out hb3)
  have hsz := HB3.out.size
  obtain ⟨a2, c2, hv2⟩ := Recs.own_len HO3.out
  subst hv2
  clear hb3 HE HO2 HB2
  go_wp2_with (at_builtin; refine wpList_append_own _ rfl _ _ 27 rfl w.heap.size 60 i0 _ 2 32 Tryd.underlying27 hi0 hz0 hz1 hz2 rfl (by decide) _ _ _ rfl (World.ownsRow.alloc HO3.out _) ⟨W3.heap.size, 0, none⟩ 1 1 [.string ⟨#[99, 111, 110, 116, 101, 110, 116, 45, 108, 101, 110, 103, 116, 104]⟩, .string t] rfl rfl (cells_two W3 _ t) (two_ok _ t) (by unfold maxLen; omega) (by omega) ?c5 ?_)
  case c5 => first | omega | (simp; omega)
  intro v' w2 ho4 hg4 _
  obtain ⟨hp1, hp2⟩ := put_more hsz HO3.out HB3.out ho4 hg4
  have HP1 := Num.hide hp1
  have HP2 := Num.hide hp2
  clear ho4 hg4 hp1 hp2
  go_wp2
  go_ret
  exact ⟨_, rfl, by rw [← HR.out]; exact HP1.out, HP2.out⟩
end Msg
end Go.Proofs.YtmiahdiadlnijaaDoor
