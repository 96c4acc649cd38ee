/-
  Hex of the specification: what the call returns, for every text of at most 2^20 bytes; old memory stays as it was.
-/
import Derived.Test.YtfmfidlhbephmaaHexNum
import Derived.Test.YtfmfidlhbephmaaLayRow
import Derived.Deep.RegionLaw
namespace Go.Proofs.Ytfmfidlhbephmaa
open Go.RowKit
set_option linter.unusedVariables false
namespace Hex

set_option maxRecDepth 100000 in
theorem digit_any (k : Nat) (w : World) (h : k < 16) : Calls Try.prog 23 #[.int .i64 k] w fun e w' => e = .returned (.int .u8 ((hx k).toNat : Int)) ∧ w = w' := by
  have hd := Num.hide (digit_at k h)
  go_enter Try.func23, Try.ntmps23
  go_wp2
  go_ret
  exact ⟨by rw [← Num.unhide hd]; rfl, rfl⟩

theorem digit_int (x : Int) (w : World) (h0 : 0 ≤ x) (h : x < 16) : Calls Try.prog 23 #[.int .i64 x] w fun e w' => e = .returned (.int .u8 ((hx x.toNat).toNat : Int)) ∧ w = w' := by
  obtain ⟨k, rfl⟩ := Int.eq_ofNat_of_zero_le h0
  exact digit_any k w (by omega)
set_option maxRecDepth 100000 in
set_option maxHeartbeats 1000000 in
theorem spec_any (s : ByteArray) (w : World) (hm : s.size ≤ 1048576) :
    Calls Try.prog 17 #[.string s] w fun e w' => e = .returned (.string ⟨(hex s.data.toList).toArray⟩) ∧ Below w.heap.size w w' := by
  obtain ⟨i0, hi, hz0, hz1, hz2⟩ := info_parts Mem.info5
  go_enter Try.func17, Try.ntmps17
  go_wp2
  go_loopw [3, 4] (fun v i wr => ∃ k : Nat, k ≤ s.size ∧ i = .int .i64 k ∧ wr.ownsRow w.heap.size 5 1 v (2 * k) ((hex (s.data.toList.take k)).map Put.cell) ∧ Below w.heap.size w wr) (fun _ i _ => s.size - (intOf i).toNat)
  case atStart => exact ⟨0, by omega, rfl, World.ownsRow_lit (base := w.heap.size) (e := 5) (size := 1) w #[] 0 (Nat.le_refl _) (by unfold maxLen; omega) rfl, (Below.refl _ _).alloc (Nat.le_refl _) _⟩
  case round =>
    obtain ⟨k, hk, rfl, hown, hbel⟩ := hrel
    by_cases hlt : k < s.size
    · have hc0 : (0 : Int) ≤ (s[k].toNat : Int) := by omega
      have hc1 : (s[k].toNat : Int) < 256 := by have := s[k].toNat_lt; omega
      have hw1 : IntKind.i64.wrap (s[k].toNat : Int) = (s[k].toNat : Int) := Num.wraps_i64 _ (by omega) (by omega)
      have hw2 : (s[k].toNat : Int).tdiv 16 = (s[k].toNat : Int) / 16 := Int.tdiv_eq_ediv_of_nonneg (by omega)
      have hw3 : IntKind.i64.wrap ((s[k].toNat : Int) / 16) = (s[k].toNat : Int) / 16 := Num.wraps_i64 _ (by omega) (by omega)
      have hw4 : (s[k].toNat : Int).tmod 16 = (s[k].toNat : Int) % 16 := Int.tmod_eq_emod_of_nonneg (by omega)
      have ht := Num.hide (hex_take s k hlt)
      have hsz := hbel.size
      go_wp2
      go_region_law (first | (refine Put.step_append_own rfl (.tmp 12) (.tmp 25) 36 rfl w.heap.size 5 i0 (.int .u8 0) 1 1 Try.underlying36 hi hz0 hz1 hz2 rfl (by decide) _ _ _ rfl (hown.alloc _).drew ⟨wr.heap.size, 0, none⟩ 2 2 ([hx (s[k].toNat / 16), hx (s[k].toNat % 16)].map Put.cell) rfl rfl (Put.cells_two wr _ _ 5) (Put.two_ok _ _) ?_ ?_ ?_ ?_; unfold maxLen; omega; omega; simp; omega; intro v' w2 hown' hgrow') | (go_simp; go_at_call 23; refine (digit_int _ _ ?_ ?_).mono ?_; omega; omega; rintro e w' ⟨rfl, rfl⟩))
      all_goals
        have hown2 : w2.ownsRow w.heap.size 5 1 v' (2 * (k + 1)) ((hex (s.data.toList.take (k + 1))).map Put.cell) := by
          rw [Num.unhide ht, List.map_append]; exact hown'
        have hb2 : Below w.heap.size w w2 := (hbel.alloc hsz _).drew.grown hgrow' (by simp; omega) (fun k h => (hown.lt k h).1)
        clear hown' hgrow' hown
        go_wp2
        go_roundw
        case rel => exact ⟨k + 1, by omega, by go_num, hown2, hb2⟩
        case measure => simp [intOf]; omega
    · obtain rfl : k = s.size := by omega
      have hall : s.data.toList.take s.size = s.data.toList := List.take_of_length_le (by rw [Array.length_toList]; exact Nat.le_refl _)
      have hlen : (hex s.data.toList).length = 2 * s.size := by rw [length_hex, Array.length_toList]; rfl
      have hrow2 := hown
      rw [hall, ← hlen] at hrow2
      have hconv := Put.conv_owned hrow2
      clear hrow2 hall hown hlen
      go_wp2
      go_ret
      exact ⟨rfl, hbel⟩
end Hex
end Go.Proofs.Ytfmfidlhbephmaa
