/-
  Var of the specification: what the call returns, for every number; old memory stays as it was.
-/
import Derived.Test.YtfmfidlhbephmaaVarNum
import Derived.Test.YtfmfidlhbephmaaLayRow
import Derived.Test.YtfmfidlhbephmaaIn
import Derived.Test.YtfmfidlhbephmaaVarTells
namespace Go.Proofs.Ytfmfidlhbephmaa
open Go.RowKit
set_option linter.unusedVariables false
namespace Var

set_option maxHeartbeats 400000 in
theorem spec_no (n : Int) (w : World) (h : n < 0 ∨ 562949953421311 < n) :
    Calls Try.prog 13 #[.int .i64 n] w fun e w' => e = .returned (.string ⟨#[]⟩) ∧ Below w.heap.size w w' := by
  have hin : (decide (0 ≤ n) && decide (n ≤ 562949953421311)) = false := by simp; omega
  go_enter Try.func13, Try.ntmps13
  go_wp2_with (go_at_call 21; refine (In.in_any _ _ _ _).mono ?_; rintro e w' ⟨rfl, rfl⟩)
  go_ret
  exact ⟨rfl, Below.refl _ _⟩
set_option maxHeartbeats 1000000 in
theorem spec_yes (n : Int) (w : World) (h0 : 0 ≤ n) (h1 : n ≤ 562949953421311) :
    Calls Try.prog 13 #[.int .i64 n] w fun e w' => e = .returned (.string ⟨(Num.vr 6 n).toArray⟩) ∧ Below w.heap.size w w' := by
  have hin : (decide (0 ≤ n) && decide (n ≤ 562949953421311)) = true := by simp; omega
  obtain ⟨i0, hi, hz0, hz1, hz2⟩ := info_parts Mem.info5
  go_enter Try.func13, Try.ntmps13
  go_wp2_with (go_at_call 21; refine (In.in_any _ _ _ _).mono ?_; rintro e w' ⟨rfl, rfl⟩)
  go_loopw [0, 3] (fun q v wr => ∃ (f : Nat) (r : Int) (out : List UInt8), Hid (out.length + f = 6) ∧ out.length ≤ 6 ∧ 0 ≤ r ∧ r ≤ n ∧ Hid (r < 128 ^ (f + 1)) ∧ Hid (Num.vr 6 n = out ++ Num.vr f r) ∧ q = .int .i64 r ∧
      wr.ownsRow w.heap.size 5 1 v out.length (out.map Put.cell) ∧ Below w.heap.size w wr) (fun q _ _ => (intOf q).toNat)
  case atStart =>
    exact ⟨6, n, [], rfl, by simp, h0, Int.le_refl _, by show n < 128 ^ (6 + 1); omega, rfl, rfl, World.ownsRow_lit (base := w.heap.size) (e := 5) (size := 1) w #[] 0 (Nat.le_refl _) (by unfold maxLen; omega) rfl, (Below.refl _ _).alloc (Nat.le_refl _) _⟩
  case round =>
    obtain ⟨f, r, out, hf, ho, hr0, hrn, hrf, hv, rfl, hown, hbel⟩ := hrel
    by_cases hlt : r < 128
    · have hfin : Hid (Num.vr 6 n = out ++ [Num.byte r]) := by show _ = _; rw [hv.out, Num.vr_small f r hlt]
      go_wp2_with (at_builtin; refine wpList_append_own _ rfl _ _ 36 rfl w.heap.size 5 i0 (.int .u8 0) 1 1 Try.underlying36 hi hz0 hz1 hz2 rfl (by decide) _ _ _ rfl (hown.alloc _) ⟨wr.heap.size, 0, none⟩ 1 1 [.int .u8 r] rfl rfl (Put.cells_one wr _ 5) (Put.one_ok _) (by unfold maxLen; omega) (by omega) ?c5 ?_)
      case c5 => have := hbel.size; simp; omega
      intro v' w2 hown' hgrow _
      rw [Put.map_snoc out r hr0 (by omega)] at hown'
      have hconv := Put.conv_own (l := out ++ [Num.byte r]) (by simpa using hown') (by simp)
      have hb2 : Below w.heap.size w w2 := (hbel.alloc hbel.size _).grown hgrow (by have := hbel.size; simp; omega) (fun k h => (hown.lt k h).1)
      clear hown' hgrow hown
      go_wp2
      go_ret
      exact ⟨by rw [hfin.out]; rfl, hb2⟩
    · obtain ⟨f', hf'⟩ : ∃ f', f = f' + 1 := by
        cases f with
        | zero => have := hrf.out; simp at this; omega
        | succ f' => exact ⟨f', rfl⟩
      subst hf'
      have hlen : out.length + 1 ≤ 6 := by have := hf.out; omega
      go_wp2_with (at_builtin; refine wpList_append_own _ rfl _ _ 36 rfl w.heap.size 5 i0 (.int .u8 0) 1 1 Try.underlying36 hi hz0 hz1 hz2 rfl (by decide) _ _ _ rfl (hown.alloc _) ⟨wr.heap.size, 0, none⟩ 1 1 [.int .u8 (128 + r % 128)] rfl rfl (Put.cells_one wr _ 5) (Put.one_ok _) (by unfold maxLen; omega) (by omega) ?d5 ?_)
      case d5 => have := hbel.size; simp; omega
      intro v' w2 hown' hgrow _
      rw [Put.map_snoc out (128 + r % 128) (by omega) (by omega)] at hown'
      have hb2 : Below w.heap.size w w2 := (hbel.alloc hbel.size _).grown hgrow (by have := hbel.size; simp; omega) (fun k h => (hown.lt k h).1)
      clear hgrow hown
      go_wp2
      go_roundw
      case rel => exact ⟨f', r / 128, out ++ [Num.byte (128 + r % 128)], by have := hf.out; show _ = _; simp; omega, by simp; omega, by omega, by omega, by have := hrf.out; show _ < _; rw [Int.pow_succ] at this; omega, by show _ = _; rw [hv.out, Num.vr_great f' r (by omega), List.append_assoc]; rfl, rfl, by simpa using hown', hb2⟩
      case measure => simp [intOf]; omega
theorem spec_any (n : Int) (w : World) : Calls Try.prog 13 #[.int .i64 n] w fun e w' => e = .returned (.string ⟨(tells n).toArray⟩) ∧ Below w.heap.size w w' := by
  unfold tells
  by_cases h : n < 0 ∨ 562949953421311 < n
  · rw [if_pos h]; exact spec_no n w h
  · rw [if_neg h]; exact spec_yes n w (by omega) (by omega)
end Var
end Go.Proofs.Ytfmfidlhbephmaa
