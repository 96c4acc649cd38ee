/-
  Var of the program: what the call returns, for every number; old memory stays as it was.
-/
import Derived.Test.YtfmfidlhbephmaaVarNum
import Derived.Test.YtfmfidlhbephmaaPutLay
import Derived.Test.YtfmfidlhbephmaaVarTells
import Derived.Laws.Bits128
namespace Go.Proofs.Ytfmfidlhbephmaa
open Go.RowKit
set_option linter.unusedVariables false
namespace Var


theorem or_128 (r : Int) : bits .or .i64 (r % 128) 128 = 128 + r % 128 := by
  rw [Num.or_swap]
  exact Num.or_i64 7 128 (r % 128) (by decide) (by decide) (by decide) (by decide) (by omega) (by omega)
set_option maxHeartbeats 1000000 in
theorem impl_yes (n : Int) (w : World) (h0 : 0 ≤ n) (h1 : n ≤ 562949953421311) :
    Calls Try.prog 14 #[.int .i64 n] w fun e w' => e = .returned (.string ⟨(Num.vr 6 n).toArray⟩) ∧ Below w.heap.size w w' := by
  have h0' : decide (n < 0) = false := by simp; omega
  have h1' : decide (562949953421311 < n) = false := by simp; omega
  obtain ⟨i0, hi, hz0, hz1, hz2⟩ := info_parts Mem.info5
  go_enter Try.func14, Try.ntmps14
  go_wp2_with (at_make; refine wpList_make_full _ rfl (.const (.int .i64 7)) (.const (.int .i64 7)) 36 rfl w.heap.size 5 i0 (.int .u8 0) 1 Try.underlying36 hi hz0 hz1 .i64 .i64 7 7 7 rfl rfl rfl rfl ?c1 ?c2 ?c3 ?_)
  case c1 => rw [hz2]; omega
  case c2 => unfold maxLen; omega
  case c3 => exact Nat.le_refl _
  intro w1 hown hgrow
  have hrow : Hid (w1.heap[w.heap.size]? = some (.cells (Put.lay 7 []).toArray 5 (0, 0))) := by
    rw [Put.lay_nil]; exact Mem.made_row (by simpa [Value.cells] using hown)
  have hbel : Below w.heap.size w w1 := (Below.refl _ _).grown hgrow (Nat.le_refl _) (fun k h => by cases h)
  clear hown hgrow
  go_wp2
  go_loopw [0, 4] (fun q a wr => ∃ (f : Nat) (r : Int) (out : List UInt8), Hid (out.length + f = 6) ∧ out.length ≤ 6 ∧ 0 ≤ r ∧ r ≤ n ∧ Hid (r < 128 ^ (f + 1)) ∧ Hid (Num.vr 6 n = out ++ Num.vr f r) ∧ q = .int .i64 r ∧ a = .int .i64 out.length ∧
      Hid (wr.heap[w.heap.size]? = some (.cells (Put.lay 7 out).toArray 5 (0, 0))) ∧ Below w.heap.size w wr) (fun q _ _ => (intOf q).toNat)
  case atStart => exact ⟨6, n, [], rfl, by simp, h0, Int.le_refl _, by show n < 128 ^ (6 + 1); omega, rfl, rfl, rfl, hrow, hbel⟩
  case round =>
    obtain ⟨f, r, out, hf, ho, hr0, hrn, hrf, hv, rfl, rfl, hrow', hbel'⟩ := hrel
    clear hrow hbel
    have hgs := Mem.lt_of_row hrow'.out
    by_cases hlt : r < 128
    · have hfin : Hid (Num.vr 6 n = out ++ [Num.byte r]) := by show _ = _; rw [hv.out, Num.vr_small f r hlt]
      go_wp2_with fail
      refine (Put.put_one 7 out r w wr w.heap.size (Nat.le_refl _) hr0 (by omega) (by omega) (by unfold maxLen; omega) hrow'.out hbel').mono ?_
      rintro e w2 ⟨rfl, hr2, hb2⟩
      have hconv := Put.conv_lay hr2.out (out.length + 1) 7 (by simp)
      clear hrow' hbel'
      go_wp2
      go_ret
      exact ⟨by rw [hfin.out]; rfl, hb2⟩
    · have hand := i64_and127 r
      have hor := or_128 r
      obtain ⟨f', hf'⟩ : ∃ f', f = f' + 1 := by
        cases f with
        | zero => have := hrf.out; simp at this; omega
        | succ f' => exact ⟨f', rfl⟩
      subst hf'
      have hlen : out.length + 1 ≤ 6 := by have := hf.out; omega
      go_wp2_with fail
      refine (Put.put_one 7 out (128 + r % 128) w wr w.heap.size (Nat.le_refl _) (by omega) (by omega) (by omega) (by unfold maxLen; omega) hrow'.out hbel').mono ?_
      rintro e w2 ⟨rfl, hr2, hb2⟩
      clear hrow' hbel'
      go_wp2
      go_roundw
      case rel => exact ⟨f', r / 128, out ++ [Num.byte (128 + r % 128)], by have := hf.out; show _ = _; simp; omega, by simp; omega, by omega, by omega, by have := hrf.out; show _ < _; rw [Int.pow_succ] at this; omega, by show _ = _; rw [hv.out, Num.vr_great f' r (by omega), List.append_assoc]; rfl, rfl, by simp, hr2, hb2⟩
      case measure => simp [intOf]; omega
set_option maxHeartbeats 400000 in
theorem impl_no (n : Int) (w : World) (h : n < 0 ∨ 562949953421311 < n) :
    Calls Try.prog 14 #[.int .i64 n] w fun e w' => e = .returned (.string ⟨#[]⟩) ∧ Below w.heap.size w w' := by
  by_cases h0 : n < 0
  · go_enter Try.func14, Try.ntmps14
    go_wp2
    go_ret
    exact ⟨rfl, Below.refl _ _⟩
  · have h1 : 562949953421311 < n := by omega
    go_enter Try.func14, Try.ntmps14
    go_wp2
    go_ret
    exact ⟨rfl, Below.refl _ _⟩
theorem impl_any (n : Int) (w : World) : Calls Try.prog 14 #[.int .i64 n] w fun e w' => e = .returned (.string ⟨(tells n).toArray⟩) ∧ Below w.heap.size w w' := by
  unfold tells
  by_cases h : n < 0 ∨ 562949953421311 < n
  · rw [if_pos h]; exact impl_no n w h
  · rw [if_neg h]; exact impl_yes n w (by omega) (by omega)
end Var
end Go.Proofs.Ytfmfidlhbephmaa
