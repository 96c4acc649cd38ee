/-
  Unhex of the specification: what the call returns, for every text of at most 2^20 bytes; old memory stays as it was.
-/
import Derived.Test.YtfmfidlhbephmaaUnhexNum
import Derived.Test.YtfmfidlhbephmaaHexSpecWalk
namespace Go.Proofs.Ytfmfidlhbephmaa
open Go.RowKit
set_option linter.unusedVariables false
namespace Unhex

set_option maxRecDepth 100000 in
set_option maxHeartbeats 400000 in
theorem spec_any (b : UInt8) (w : World) : Calls Try.prog 24 #[.int .u8 (b.toNat : Int)] w fun e w' => e = .returned (.int .i64 (ix b)) ∧ w = w' := by
  go_enter Try.func24, Try.ntmps24
  go_wp2
  go_loop [3] (fun i => ∃ k : Nat, k ≤ 16 ∧ i = .int .i64 k ∧ Hid (∀ j, j < k → Hex.hx j ≠ b)) (fun i => 16 - (intOf i).toNat)
  case atStart => exact ⟨0, by omega, rfl, fun j h => by omega⟩
  case round =>
    obtain ⟨k, hk, rfl, hno⟩ := hrel
    by_cases hlt : k < 16
    · go_wp2_with (go_at_call 23; refine (Hex.digit_any k _ hlt).mono ?_; rintro e w' ⟨rfl, rfl⟩)
      · have he : (((Hex.hx k).toNat : Int) == (b.toNat : Int)) = true := by assumption
        have he2 : Hex.hx k = b := UInt8.toNat_inj.1 (by rw [beq_iff_eq] at he; omega)
        go_ret
        refine ⟨?_, rfl⟩
        show Ending.returned (.int .i64 (k : Int)) = _
        rw [ix, index_at Hex.digits.data.toList b k hlt (fun j hj hjk => by rw [← hx_get j hj]; exact hno.out j hjk) (by rw [← hx_get k hlt]; exact he2)]
      · have he : (((Hex.hx k).toNat : Int) == (b.toNat : Int)) = false := by assumption
        have he2 : Hex.hx k ≠ b := by intro h; rw [h] at he; simp at he
        go_round
        case rel => exact ⟨k + 1, by omega, by go_num, fun j hj => by
          by_cases e : j = k
          · subst e; exact he2
          · exact hno.out j (by omega)⟩
        case measure => simp [intOf]; omega
    · obtain rfl : k = 16 := by omega
      go_wp2
      go_ret
      exact ⟨by rw [ix, index_none Hex.digits.data.toList b (fun j hj => by rw [← hx_get j hj]; exact hno.out j hj)]; rfl, rfl⟩

set_option maxRecDepth 100000 in
set_option maxHeartbeats 1000000 in
theorem spec_walk (s : ByteArray) (w : World) (hm : s.size ≤ 1048576) :
    Calls Try.prog 19 #[.string s] w fun e w' => ∃ l t, e = .returned (.tuple #[.string ⟨l.toArray⟩, .bool t]) ∧ Good s l t ∧ Below w.heap.size w w' := by
  obtain ⟨i0, hi, hz0, hz1, hz2⟩ := info_parts Mem.info5
  by_cases hodd : s.size % 2 = 1
  · have hg := Num.hide (show Good s [] false from .inl ⟨.inl hodd, rfl, rfl⟩)
    have ho : ((s.size : Int) % 2 == 1) = true := by rw [beq_iff_eq]; omega
    go_enter Try.func19, Try.ntmps19
    go_wp2
    go_ret2
    exact ⟨[], false, rfl, Num.unhide hg, (Below.refl _ _).alloc (Nat.le_refl _) _⟩
  · have ho : ((s.size : Int) % 2 == 1) = false := by rw [beq_eq_false_iff_ne]; omega
    have hev := Num.hide hodd
    clear hodd
    go_enter Try.func19, Try.ntmps19
    go_wp2
    go_loopw [4, 5] (fun v i wr => ∃ (m : Nat) (out : List UInt8), m ≤ s.size ∧ out.length ≤ s.size ∧ Hid (m % 2 = 0) ∧ i = .int .i64 m ∧ Hid (out = pairs (s.data.toList.take m)) ∧ Hid (∀ j (h : j < s.size), j < m → 0 ≤ ix (s[j]'h)) ∧
        wr.ownsRow w.heap.size 5 1 v out.length (out.map Put.cell) ∧ Below w.heap.size w wr) (fun _ i _ => s.size - (intOf i).toNat)
    case atStart => exact ⟨0, [], by omega, by simp, rfl, rfl, rfl, fun j h h' => by omega, World.ownsRow_lit (base := w.heap.size) (e := 5) (size := 1) w #[] 0 (Nat.le_refl _) (by unfold maxLen; omega) rfl, (Below.refl _ _).alloc (Nat.le_refl _) _⟩
    case round =>
      obtain ⟨m, out, hms, hol, hme, rfl, hout, hpos, hown, hbel⟩ := hrel
      by_cases hlt : m < s.size
      · have hlt1 : m + 1 < s.size := by have := hme.out; have := Num.unhide hev; omega
        have hlt2 : (m : Int) + 1 < (s.size : Int) := by omega
        have hlen : out.length + 1 ≤ s.size / 2 := by
          rw [hout.out, length_pairs (m / 2) _ (by rw [length_take_of s m (by omega)]; have := hme.out; omega)]; have := hme.out; omega
        have hp := Num.hide (pairs_take s m hme.out hlt1)
        have hb1 := Num.hide (ix_bd s[m])
        have hb2 := Num.hide (ix_bd s[m + 1])
        go_wp2_with fail
        refine (spec_any _ _).mono ?_
        rintro e wx ⟨rfl, rfl⟩
        go_wp2_with fail
        refine (spec_any _ _).mono ?_
        rintro e wx ⟨rfl, rfl⟩
        generalize hx : ix s[m] = x at *
        generalize hy : ix s[m + 1] = y at *
        have HX := Num.hide hx
        have HY := Num.hide hy
        have hb1' := Num.unhide hb1
        have hb2' := Num.unhide hb2
        clear hx hy hb1 hb2
        by_cases hx0 : x < 0
        · go_wp2
          go_ret2
          exact ⟨[], false, rfl, .inl ⟨.inr ⟨m, hlt, by rw [Num.unhide HX]; exact hx0⟩, rfl, rfl⟩, hbel⟩
        · by_cases hy0 : y < 0
          · go_wp2
            go_ret2
            exact ⟨[], false, rfl, .inl ⟨.inr ⟨m + 1, hlt1, by rw [Num.unhide HY]; exact hy0⟩, rfl, rfl⟩, hbel⟩
          · go_wp2_with (at_builtin; refine wpList_append_own _ rfl _ _ 36 rfl w.heap.size 5 i0 (.int .u8 0) 1 1 Try.underlying36 hi hz0 hz1 hz2 rfl (by decide) _ _ _ rfl (hown.alloc _) ⟨wr.heap.size, 0, none⟩ 1 1 [.int .u8 (16 * x + y)] rfl rfl (Put.cells_one wr _ 5) (Put.one_ok _) (by unfold maxLen; omega) (by omega) ?c5 ?_)
            case c5 => have := hbel.size; simp; omega
            intro v' w2 hown' hgrow _
            rw [Put.map_snoc out (16 * x + y) (by omega) (by omega)] at hown'
            have hb2 : Below w.heap.size w w2 := (hbel.alloc hbel.size _).grown hgrow (by have := hbel.size; simp; omega) (fun k h => (hown.lt k h).1)
            clear hgrow hown
            go_wp2
            go_roundw
            case rel => exact ⟨m + 2, out ++ [Num.byte (16 * x + y)], by omega, by simp; omega, by have := hme.out; show (m + 2) % 2 = 0; omega, by go_num, by show _ = _; rw [Num.unhide hp, hout.out], fun j h hj => by
              by_cases e : j < m
              · exact hpos.out j h e
              · by_cases e2 : j = m
                · subst e2; rw [Num.unhide HX]; omega
                · obtain rfl : j = m + 1 := by omega
                  rw [Num.unhide HY]; omega, by simpa using hown', hb2⟩
            case measure => simp [intOf]; omega
      · obtain rfl : m = s.size := by omega
        have hall : s.data.toList.take s.size = s.data.toList := List.take_of_length_le (by rw [Array.length_toList]; exact Nat.le_refl _)
        have ho2 : out = pairs s.data.toList := by rw [hout.out, hall]
        have hg := Num.hide (show Good s out true from .inr ⟨by
          rintro (hb | ⟨j, hj, hneg⟩)
          · exact Num.unhide hev hb
          · have := hpos.out j hj hj; omega, ho2, rfl⟩)
        have hconv := Put.conv_owned hown
        clear hown ho2 hall
        go_wp2
        go_ret2
        exact ⟨out, true, rfl, Num.unhide hg, hbel⟩
end Unhex
end Go.Proofs.Ytfmfidlhbephmaa
