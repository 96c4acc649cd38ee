/-
  Dec of the specification: what the call returns, for every number; old memory stays as it was.
-/
import Derived.Test.YtkogcbnbmdeolaaDoorDecNum
import Derived.Test.YtkogcbnbmdeolaaDoorMem
namespace Go.Proofs.YtkogcbnbmdeolaaDoor
open Go.RowKit
set_option linter.unusedVariables false
namespace Dec

theorem lay_front (out : List UInt8) (u : Nat) (r : List UInt8) (x : Int) (h : u ≠ 0) (hx : x = 48 + ((u % 10 : Nat) : Int)) (he : r = dd u ++ out) :
    r = dd (u / 10) ++ (Num.byte x :: out) := by
  subst hx
  rw [he, dd_step u h, List.append_assoc]; rfl
theorem cons_text (c : UInt8) (out : List UInt8) : (⟨#[c]⟩ : ByteArray) ++ ⟨out.toArray⟩ = ⟨(c :: out).toArray⟩ := by
  rw [ByteArray.mk_append_mk]; simp
set_option maxRecDepth 100000 in
set_option maxHeartbeats 1000000 in
theorem spec_pos (n : Int) (w : World) (h0 : 0 < n) (h1 : n ≤ 9223372036854775807) :
    Calls Tryd.prog 54 #[.int .i64 n] w fun e w' => e = .returned (.string ⟨(dd n.natAbs).toArray⟩) ∧ Below w.heap.size w w' := by
  have hz : (n == 0) = false := by rw [beq_eq_false_iff_ne]; omega
  have hneg : decide (n < 0) = false := by simp; omega
  go_enter Tryd.func54, Tryd.ntmps54
  go_wp2
  go_loopw [0, 3] (fun q o wr => ∃ (r : Int) (out : List UInt8), 0 ≤ r ∧ r ≤ n ∧ Hid (dd n.natAbs = dd r.natAbs ++ out) ∧ q = .int .i64 r ∧ o = .string ⟨out.toArray⟩ ∧ Below w.heap.size w wr) (fun q _ _ => (intOf q).toNat)
  case atStart => exact ⟨n, [], by omega, by omega, by show _ = _; simp, rfl, rfl, Below.refl _ _⟩
  case round =>
    obtain ⟨r, out, hr0, hrn, hd, rfl, rfl, hbel⟩ := hrel
    have hl : out.length ≤ 20 := by
      have h2 := congrArg List.length hd.out
      rw [List.length_append] at h2
      have h3 := length_dd n.natAbs (by omega)
      omega
    by_cases hr : r = 0
    · subst hr
      have hne : ((0 : Int) != 0) = false := rfl
      go_wp2
      go_ret
      exact ⟨by rw [show dd n.natAbs = out from hd.out]; rfl, hbel⟩
    · have hne : (r != 0) = true := by rw [bne_iff_ne]; exact hr
      have hp : 0 < r := by omega
      have hc := Mem.conv_one wr (48 + r % 10) (by omega) (by omega)
      clear hr
      go_wp2
      go_roundw
      case rel => exact ⟨r / 10, Num.byte (48 + r % 10) :: out, by omega, by omega, by show _ = _; rw [lay_front out r.natAbs _ (48 + r % 10) (by omega) (by omega) hd.out, show (r / 10).natAbs = r.natAbs / 10 by omega], rfl, congrArg Value.string (cons_text _ _), hbel.alloc hbel.size _⟩
      case measure => simp [intOf]; omega
theorem neg_parts (r : Int) (h : r < 0) : r.tmod 10 = -((r.natAbs % 10 : Nat) : Int) ∧ r.tdiv 10 = -((r.natAbs / 10 : Nat) : Int) := by
  obtain ⟨u, rfl⟩ : ∃ u : Nat, r = -(u : Int) := ⟨r.natAbs, by omega⟩
  rw [Int.neg_tmod, Int.neg_tdiv, Int.natAbs_neg, Int.natAbs_natCast, Int.tmod_eq_emod_of_nonneg (by omega), Int.tdiv_eq_ediv_of_nonneg (by omega)]
  constructor <;> omega
set_option maxRecDepth 100000 in
set_option maxHeartbeats 1000000 in
theorem spec_neg (n : Int) (w : World) (h0 : n < 0) (h1 : -9223372036854775808 ≤ n) :
    Calls Tryd.prog 54 #[.int .i64 n] w fun e w' => e = .returned (.string ⟨(45 :: dd n.natAbs).toArray⟩) ∧ Below w.heap.size w w' := by
  have hz : (n == 0) = false := by rw [beq_eq_false_iff_ne]; omega
  have hneg : decide (n < 0) = true := by simp; omega
  go_enter Tryd.func54, Tryd.ntmps54
  go_wp2
  go_loopw [0, 3] (fun q o wr => ∃ (r : Int) (out : List UInt8), r ≤ 0 ∧ n ≤ r ∧ Hid (dd n.natAbs = dd r.natAbs ++ out) ∧ q = .int .i64 r ∧ o = .string ⟨out.toArray⟩ ∧ Below w.heap.size w wr) (fun q _ _ => (intOf q).natAbs)
  case atStart => exact ⟨n, [], by omega, by omega, by show _ = _; simp, rfl, rfl, Below.refl _ _⟩
  case round =>
    obtain ⟨r, out, hr0, hrn, hd, rfl, rfl, hbel⟩ := hrel
    have hl : out.length ≤ 20 := by
      have h2 := congrArg List.length hd.out
      rw [List.length_append] at h2
      have h3 := length_dd n.natAbs (by omega)
      omega
    by_cases hr : r = 0
    · subst hr
      have hne : ((0 : Int) != 0) = false := rfl
      go_wp2
      go_ret
      exact ⟨by rw [show dd n.natAbs = out from hd.out]; exact congrArg (fun x => Ending.returned (.string x)) (cons_text _ _), hbel⟩
    · have hne : (r != 0) = true := by rw [bne_iff_ne]; exact hr
      have hp : r < 0 := by omega
      clear hr
      have hnp := Num.hide (neg_parts r hp)
      have hb0 : -9 ≤ r.tmod 10 := by have := (Num.unhide hnp).1; omega
      have hb1 : r.tmod 10 ≤ 0 := by have := (Num.unhide hnp).1; omega
      have hq0 : r ≤ r.tdiv 10 := by have := (Num.unhide hnp).2; omega
      have hq1 : r.tdiv 10 ≤ 0 := by have := (Num.unhide hnp).2; omega
      by_cases ht : r.tmod 10 < 0
      · have hc := Mem.conv_one wr (48 + -r.tmod 10) (by omega) (by omega)
        go_wp2
        go_roundw
        case rel => exact ⟨r.tdiv 10, Num.byte (48 + -r.tmod 10) :: out, by omega, by omega, by show _ = _; rw [lay_front out r.natAbs _ (48 + -r.tmod 10) (by omega) (by have := (Num.unhide hnp).1; omega) hd.out, show (r.tdiv 10).natAbs = r.natAbs / 10 by have := (Num.unhide hnp).2; omega], rfl, congrArg Value.string (cons_text _ _), hbel.alloc hbel.size _⟩
        case measure => show (r.tdiv 10).natAbs < r.natAbs; have := (Num.unhide hnp).2; omega
      · have hc := Mem.conv_one wr (48 + r.tmod 10) (by omega) (by omega)
        go_wp2
        go_roundw
        case rel => exact ⟨r.tdiv 10, Num.byte (48 + r.tmod 10) :: out, by omega, by omega, by show _ = _; rw [lay_front out r.natAbs _ (48 + r.tmod 10) (by omega) (by have := (Num.unhide hnp).1; omega) hd.out, show (r.tdiv 10).natAbs = r.natAbs / 10 by have := (Num.unhide hnp).2; omega], rfl, congrArg Value.string (cons_text _ _), hbel.alloc hbel.size _⟩
        case measure => show (r.tdiv 10).natAbs < r.natAbs; have := (Num.unhide hnp).2; omega
set_option maxHeartbeats 400000 in
theorem spec_zero (w : World) : Calls Tryd.prog 54 #[.int .i64 0] w fun e w' => e = .returned (.string ⟨#[48]⟩) ∧ Below w.heap.size w w' := by
  have hz : ((0 : Int) == 0) = true := rfl
  go_enter Tryd.func54, Tryd.ntmps54
  go_wp2
  go_ret
  exact ⟨rfl, Below.refl _ _⟩
theorem spec_any (n : Int) (w : World) (h0 : -9223372036854775808 ≤ n) (h1 : n ≤ 9223372036854775807) :
    Calls Tryd.prog 54 #[.int .i64 n] w fun e w' => e = .returned (.string ⟨(Lib.itoa n).toArray⟩) ∧ Below w.heap.size w w' := by
  rcases Int.lt_trichotomy n 0 with h | h | h
  · rw [itoa_neg n h]; exact spec_neg n w h h0
  · subst h; rw [itoa_zero]; exact spec_zero w
  · rw [itoa_pos n h]; exact spec_pos n w h h1
end Dec
end Go.Proofs.YtkogcbnbmdeolaaDoor
