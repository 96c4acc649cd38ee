/-
  Unhex of the program: what the call returns, for every text of at most 2^20 bytes; old memory stays as it was.
-/
import Derived.Test.YtfmfidlhbephmaaUnhexNum
import Derived.Test.YtfmfidlhbephmaaPutLay
import Derived.Test.YtfmfidlhbephmaaShelf
namespace Go.Proofs.Ytfmfidlhbephmaa
open Go.RowKit
set_option linter.unusedVariables false
namespace Unhex

theorem impl_any (b : UInt8) (w : World) : Calls Try.prog 25 #[.string ⟨#[48, 49, 50, 51, 52, 53, 54, 55, 56, 57, 97, 98, 99, 100, 101, 102]⟩, .int .u8 (b.toNat : Int)] w fun e w' => e = .returned (.int .i64 (ix b)) ∧ w = w' := by
  refine (Shelf.index_byte Hex.digits (b.toNat : Int) w).mono ?_
  rintro e w' ⟨rfl, rfl⟩
  refine ⟨?_, rfl⟩
  simp [ix]
set_option maxRecDepth 100000 in
set_option maxHeartbeats 1000000 in
theorem impl_walk (s : ByteArray) (w : World) (hm : s.size ≤ 1048576) :
    Calls Try.prog 20 #[.string s] w fun e w' => ∃ l t, e = .returned (.tuple #[.string ⟨l.toArray⟩, .bool t]) ∧ Good s l t ∧ Below w.heap.size w w' := by
  obtain ⟨i0, hi, hz0, hz1, hz2⟩ := info_parts Mem.info5
  by_cases hodd : s.size % 2 = 1
  · have hg := Num.hide (show Good s [] false from .inl ⟨.inl hodd, rfl, rfl⟩)
    have ho : ((s.size : Int) % 2 != 0) = true := by rw [bne_iff_ne]; omega
    go_enter Try.func20, Try.ntmps20
    go_wp2
    go_ret2
    exact ⟨[], false, rfl, Num.unhide hg, Below.refl _ _⟩
  · have ho : ((s.size : Int) % 2 != 0) = false := by simp; omega
    have hev := Num.hide hodd
    clear hodd
    go_enter Try.func20, Try.ntmps20
    go_wp2_with (at_make; refine wpList_make_full _ rfl (.tmp 15) (.tmp 15) 36 rfl w.heap.size 5 i0 (.int .u8 0) 1 Try.underlying36 hi hz0 hz1 .i64 .i64 ((s.size : Int) / 2) ((s.size : Int) / 2) (s.size / 2) rfl rfl (by omega) (by omega) ?c1 ?c2 ?c3 ?_)
    case c1 => rw [hz2]; omega
    case c2 => unfold maxLen; omega
    case c3 => exact Nat.le_refl _
    intro w1 hown hgrow
    have hrow : Hid (w1.heap[w.heap.size]? = some (.cells (Put.lay (s.size / 2) []).toArray 5 (0, 0))) := by
      rw [Put.lay_nil]; exact Mem.made_row (by simpa [Value.cells] using hown)
    have hbel : Below w.heap.size w w1 := (Below.refl _ _).grown hgrow (Nat.le_refl _) (fun k h => by cases h)
    clear hown hgrow
    go_wp2
    go_loopw [5, 6] (fun a i wr => ∃ (m : Nat) (out : List UInt8), m ≤ s.size ∧ Hid (m % 2 = 0) ∧ i = .int .i64 m ∧ a = .int .i64 (out.length : Nat) ∧ Hid (out = pairs (s.data.toList.take m)) ∧ Hid (∀ j (h : j < s.size), j < m → 0 ≤ ix (s[j]'h)) ∧
        Hid (wr.heap[w.heap.size]? = some (.cells (Put.lay (s.size / 2) out).toArray 5 (0, 0))) ∧ Below w.heap.size w wr) (fun _ i _ => s.size - (intOf i).toNat)
    case atStart => exact ⟨0, [], by omega, rfl, rfl, rfl, rfl, fun j h h' => by omega, hrow, hbel⟩
    case round =>
      obtain ⟨m, out, hms, hme, rfl, rfl, hout, hpos, hrow', hbel'⟩ := hrel
      clear hrow hbel
      by_cases hlt : m < s.size
      · have hlt1 : m + 1 < s.size := by have := hme.out; have := Num.unhide hev; omega
        have hlt2 : (m : Int) + 1 < (s.size : Int) := by omega
        have hlen : out.length + 1 ≤ s.size / 2 := by
          rw [hout.out, length_pairs (m / 2) _ (by rw [length_take_of s m (by omega)]; have := hme.out; omega)]; have := hme.out; omega
        have hp := Num.hide (pairs_take s m hme.out hlt1)
        have hb1 := Num.hide (ix_bd s[m])
        have hb2 := Num.hide (ix_bd s[m + 1])
        go_wp2_with fail
        refine (impl_any _ _).mono ?_
        rintro e wx ⟨rfl, rfl⟩
        go_wp2_with fail
        refine (impl_any _ _).mono ?_
        rintro e wx ⟨rfl, rfl⟩
        generalize hx : ix s[m] = x at *
        generalize hy : ix s[m + 1] = y at *
        have HX := Num.hide hx
        have HY := Num.hide hy
        have hb1' := Num.unhide hb1
        have hb2' := Num.unhide hb2
        clear hx hy hb1 hb2
        by_cases hx0 : x < 0
        · go_wp2
          go_ret2
          exact ⟨[], false, rfl, .inl ⟨.inr ⟨m, hlt, by rw [Num.unhide HX]; exact hx0⟩, rfl, rfl⟩, hbel'⟩
        · by_cases hy0 : y < 0
          · go_wp2
            go_ret2
            exact ⟨[], false, rfl, .inl ⟨.inr ⟨m + 1, hlt1, by rw [Num.unhide HY]; exact hy0⟩, rfl, rfl⟩, hbel'⟩
          · have hor := or_16 x y (by omega) hb1'.2 (by omega) hb2'.2
            go_wp2_with fail
            refine (Put.put_one (s.size / 2) out (16 * x + y) w wr w.heap.size (Nat.le_refl _) (by omega) (by omega) hlen (by unfold maxLen; omega) hrow'.out hbel').mono ?_
            rintro e w2 ⟨rfl, hr2, hb2⟩
            clear hrow' hbel'
            go_wp2
            go_roundw
            case rel => exact ⟨m + 2, out ++ [Num.byte (16 * x + y)], by omega, by have := hme.out; show (m + 2) % 2 = 0; omega, by go_num, by simp, by show _ = _; rw [Num.unhide hp, hout.out], fun j h hj => by
              by_cases e : j < m
              · exact hpos.out j h e
              · by_cases e2 : j = m
                · subst e2; rw [Num.unhide HX]; omega
                · obtain rfl : j = m + 1 := by omega
                  rw [Num.unhide HY]; omega, hr2, hb2⟩
            case measure => simp [intOf]; omega
      · obtain rfl : m = s.size := by omega
        have hall : s.data.toList.take s.size = s.data.toList := List.take_of_length_le (by rw [Array.length_toList]; exact Nat.le_refl _)
        have ho2 : out = pairs s.data.toList := by rw [hout.out, hall]
        have hlen : out.length = s.size / 2 := by rw [ho2, length_pairs (s.size / 2) _ (by rw [Array.length_toList]; have : s.data.size = s.size := rfl; have := hme.out; omega)]
        have hg := Num.hide (show Good s out true from .inr ⟨by
          rintro (hb | ⟨j, hj, hneg⟩)
          · exact Num.unhide hev hb
          · have := hpos.out j hj hj; omega, ho2, rfl⟩)
        have hconv := Put.conv_lay hrow'.out (s.size / 2) (s.size / 2) hlen
        clear hrow' ho2 hall hlen
        go_wp2
        go_ret2
        exact ⟨out, true, rfl, Num.unhide hg, hbel'⟩
end Unhex
end Go.Proofs.Ytfmfidlhbephmaa
