/-
  Hex of the program: what the call returns, for every text of at most 2^20 bytes; old memory stays as it was.
-/
import Derived.Test.YtfmfidlhbephmaaHexNum
import Derived.Test.YtfmfidlhbephmaaPutLay
import Derived.Laws.BitsLemmas
import Derived.Deep.RegionWith
namespace Go.Proofs.Ytfmfidlhbephmaa
open Go.RowKit
set_option linter.unusedVariables false
namespace Hex

set_option maxRecDepth 100000 in
set_option maxHeartbeats 1000000 in
theorem impl_any (s : ByteArray) (w : World) (hm : s.size ≤ 1048576) :
    Calls Try.prog 18 #[.string s] w fun e w' => e = .returned (.string ⟨(hex s.data.toList).toArray⟩) ∧ Below w.heap.size w w' := by
  obtain ⟨i0, hi, hz0, hz1, hz2⟩ := info_parts Mem.info5
  go_enter Try.func18, Try.ntmps18
  go_wp2_with (at_make; refine wpList_make_full _ rfl (.tmp 8) (.tmp 8) 36 rfl w.heap.size 5 i0 (.int .u8 0) 1 Try.underlying36 hi hz0 hz1 .i64 .i64 (2 * (s.size : Int)) (2 * (s.size : Int)) (2 * s.size) rfl rfl (by omega) (by omega) ?c1 ?c2 ?c3 ?_)
  case c1 => rw [hz2]; omega
  case c2 => unfold maxLen; omega
  case c3 => exact Nat.le_refl _
  intro w1 hown hgrow
  have hrow : Hid (w1.heap[w.heap.size]? = some (.cells (Put.lay (2 * s.size) []).toArray 5 (0, 0))) := by
    rw [Put.lay_nil]; exact Mem.made_row (by simpa [Value.cells] using hown)
  have hbel : Below w.heap.size w w1 := (Below.refl _ _).grown hgrow (Nat.le_refl _) (fun k h => by cases h)
  clear hown hgrow
  go_wp2
  go_loopw [4, 12] (fun a i wr => ∃ k : Nat, k ≤ s.size ∧ i = .int .i64 k ∧ a = .int .i64 (2 * k : Nat) ∧ Hid (wr.heap[w.heap.size]? = some (.cells (Put.lay (2 * s.size) (hex (s.data.toList.take k))).toArray 5 (0, 0))) ∧ Below w.heap.size w wr) (fun _ i _ => s.size - (intOf i).toNat)
  case atStart => exact ⟨0, by omega, rfl, rfl, hrow, hbel⟩
  case round =>
    obtain ⟨k, hk, rfl, rfl, hrow', hbel'⟩ := hrel
    clear hrow hbel
    by_cases hlt : k < s.size
    · have hand := u8_and15 (s[k].toNat : Int) (by omega) (by have := s[k].toNat_lt; omega)
      have hq : (s[k].toNat : Int) / 16 < 16 := by have := s[k].toNat_lt; omega
      have hr : (s[k].toNat : Int) % 16 < 16 := by omega
      have hl := Num.hide (length_hex_take s k (by omega))
      have hd1 := Num.hide (digit_at ((s[k].toNat : Int) / 16).toNat (by omega))
      have hd2 := Num.hide (digit_at ((s[k].toNat : Int) % 16).toNat (by omega))
      have ht := Num.hide (hex_take s k hlt)
      go_wp2
      go_region_with (go_at_call 22; refine (Put.put_two (2 * s.size) (hex (s.data.toList.take k)) _ _ _ w wr w.heap.size (Nat.le_refl _) ?_ ?_ ?_ hrow'.out hbel').mono ?_; rw [Num.unhide hl]; omega; rw [Num.unhide hl]; omega; unfold maxLen; omega; rintro e w2 ⟨rfl, hr2, hb2⟩)
      all_goals
        have hr3 : Hid (w2.heap[w.heap.size]? = some (.cells (Put.lay (2 * s.size) (hex (s.data.toList.take (k + 1)))).toArray 5 (0, 0))) := by
          have h3 := hr2.out
          rw [Num.unhide hd1, Num.unhide hd2, show ((s[k].toNat : Int) / 16).toNat = s[k].toNat / 16 by omega, show ((s[k].toNat : Int) % 16).toNat = s[k].toNat % 16 by omega, ← Num.unhide ht] at h3
          exact h3
        clear hr2 hrow' hbel'
        go_wp2
        go_roundw
        case rel => exact ⟨k + 1, by omega, by go_num, by go_num, hr3, hb2⟩
        case measure => simp [intOf]; omega
    · obtain rfl : k = s.size := by omega
      have hall : s.data.toList.take s.size = s.data.toList := List.take_of_length_le (by rw [Array.length_toList]; exact Nat.le_refl _)
      have hrow2 := hrow'.out
      rw [hall] at hrow2
      have hconv := Put.conv_lay hrow2 (2 * s.size) (2 * s.size) (by rw [length_hex, Array.length_toList]; rfl)
      clear hrow' hrow2 hall
      go_wp2
      go_ret
      exact ⟨rfl, hbel'⟩
end Hex
end Go.Proofs.Ytfmfidlhbephmaa
