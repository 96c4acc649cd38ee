/-
  Var, of the program and of the specification: what each call returns, for every number; old memory stays as it was.
-/
import Derived.Test.YtfmfidlhbephmaaVarNum
import Derived.Test.YtfmfidlhbephmaaLay
import Derived.Laws.Bits128
namespace Go.Proofs.Ytfmfidlhbephmaa
open Go.RowKit
set_option linter.unusedVariables false
namespace Var

theorem or_swap (x y : Int) : bits .or .i64 x y = bits .or .i64 y x := by simp [bits, BitVec.or_comm]
theorem or_128 (r : Int) : bits .or .i64 (r % 128) 128 = 128 + r % 128 := by
  rw [or_swap]
  exact Num.or_i64 7 128 (r % 128) (by decide) (by decide) (by decide) (by decide) (by omega) (by omega)

theorem lay_one (N : Nat) (out : List UInt8) (x : Int) (h0 : 0 ≤ x) (h1 : x < 256) (h : out.length + 1 ≤ N) :
    splice (Put.lay N out) out.length [Value.int .u8 x] = Put.lay N (out ++ [Num.byte x]) := by
  rw [← Put.lay_put N out [Num.byte x] (by simpa using h)]
  have e : ((Num.byte x).toNat : Int) = x := by rw [Num.byte_val]; omega
  simp [Put.cell, e]
theorem put_one (N : Nat) (out : List UInt8) (x : Int) (w wr : World) (g : Nat) (hg : w.heap.size ≤ g) (hx0 : 0 ≤ x) (hx1 : x < 256) (h : out.length + 1 ≤ N) (hN : N ≤ maxLen)
    (hrow : wr.heap[g]? = some (.cells (Put.lay N out).toArray 5 (0, 0))) (hbel : Below w.heap.size w wr) :
    Calls Try.prog 22 #[.slice (some ⟨g, 0, none⟩) N N, .int .i64 (out.length : Int), .slice (some ⟨wr.heap.size, 0, none⟩) 1 1] (wr.alloc (.cells #[.int .u8 x] 5)) fun e w' =>
      e = .returned (.int .i64 (out.length + 1 : Nat)) ∧ Hid (w'.heap[g]? = some (.cells (Put.lay N (out ++ [Num.byte x])).toArray 5 (0, 0))) ∧ Below w.heap.size w w' := by
  have hgs := Fixed.lt_of_row hrow
  refine (Put.put_any g N out.length 1 (Put.lay N out) [.int .u8 x] ⟨wr.heap.size, 0, none⟩ 1 w.heap.size w _ ?a1 ?a2 rfl (by omega) h hN (Put.cells_one wr _ 5) ?a3 (hbel.alloc (by omega) _) hg).mono ?_
  case a1 => rw [Below.heap_alloc _ _ _ hgs]; exact hrow
  case a2 => exact Put.length_lay N out (by omega)
  case a3 => intro v hv; simp at hv; subst hv; rfl
  rintro e w2 ⟨rfl, hr2, hb2⟩
  rw [lay_one N out x hx0 hx1 h] at hr2
  exact ⟨rfl, hr2, hb2⟩

set_option maxHeartbeats 1000000 in
theorem impl_yes (n : Int) (w : World) (h0 : 0 ≤ n) (h1 : n ≤ 562949953421311) :
    Calls Try.prog 14 #[.int .i64 n] w fun e w' => e = .returned (.string ⟨(Num.vr 6 n).toArray⟩) ∧ Below w.heap.size w w' := by
  have h0' : decide (n < 0) = false := by simp; omega
  have h1' : decide (562949953421311 < n) = false := by simp; omega
  obtain ⟨i0, hi, hz0, hz1, hz2⟩ := info_parts Fixed.info5
  go_enter Try.func14, Try.ntmps14
  go_wp2_with (at_make; refine wpList_make_full _ rfl (.const (.int .i64 7)) (.const (.int .i64 7)) 36 rfl w.heap.size 5 i0 (.int .u8 0) 1 Try.underlying36 hi hz0 hz1 .i64 .i64 7 7 7 rfl rfl rfl rfl ?c1 ?c2 ?c3 ?_)
  case c1 => rw [hz2]; omega
  case c2 => unfold maxLen; omega
  case c3 => exact Nat.le_refl _
  intro w1 hown hgrow
  have hrow : Hid (w1.heap[w.heap.size]? = some (.cells (Put.lay 7 []).toArray 5 (0, 0))) := by
    rw [Put.lay_nil]; exact Fixed.made_row (by simpa [Value.cells] using hown)
  have hbel : Below w.heap.size w w1 := (Below.refl _ _).grown hgrow (Nat.le_refl _) (fun k h => by cases h)
  clear hown hgrow
  go_wp2
  go_loopw [0, 4] (fun q a wr => ∃ (f : Nat) (r : Int) (out : List UInt8), Hid (out.length + f = 6) ∧ out.length ≤ 6 ∧ 0 ≤ r ∧ r ≤ n ∧ Hid (r < 128 ^ (f + 1)) ∧ Hid (Num.vr 6 n = out ++ Num.vr f r) ∧ q = .int .i64 r ∧ a = .int .i64 out.length ∧
      Hid (wr.heap[w.heap.size]? = some (.cells (Put.lay 7 out).toArray 5 (0, 0))) ∧ Below w.heap.size w wr) (fun q _ _ => (intOf q).toNat)
  case atStart => exact ⟨6, n, [], rfl, by simp, h0, Int.le_refl _, by show n < 128 ^ (6 + 1); omega, rfl, rfl, rfl, hrow, hbel⟩
  case round =>
    obtain ⟨f, r, out, hf, ho, hr0, hrn, hrf, hv, rfl, rfl, hrow', hbel'⟩ := hrel
    clear hrow hbel
    have hgs := Fixed.lt_of_row hrow'.out
    by_cases hlt : r < 128
    · have hfin : Hid (Num.vr 6 n = out ++ [Num.byte r]) := by show _ = _; rw [hv.out, Num.vr_small f r hlt]
      go_wp2_with fail
      refine (put_one 7 out r w wr w.heap.size (Nat.le_refl _) hr0 (by omega) (by omega) (by unfold maxLen; omega) hrow'.out hbel').mono ?_
      rintro e w2 ⟨rfl, hr2, hb2⟩
      have hconv := Put.conv_lay hr2.out (out.length + 1) 7 (by simp)
      clear hrow' hbel'
      go_wp2
      go_ret
      exact ⟨by rw [hfin.out]; rfl, hb2⟩
    · have hand := i64_and127 r
      have hor := or_128 r
      obtain ⟨f', hf'⟩ : ∃ f', f = f' + 1 := by
        cases f with
        | zero => have := hrf.out; simp at this; omega
        | succ f' => exact ⟨f', rfl⟩
      subst hf'
      have hlen : out.length + 1 ≤ 6 := by have := hf.out; omega
      go_wp2_with fail
      refine (put_one 7 out (128 + r % 128) w wr w.heap.size (Nat.le_refl _) (by omega) (by omega) (by omega) (by unfold maxLen; omega) hrow'.out hbel').mono ?_
      rintro e w2 ⟨rfl, hr2, hb2⟩
      clear hrow' hbel'
      go_wp2
      go_roundw
      case rel => exact ⟨f', r / 128, out ++ [Num.byte (128 + r % 128)], by have := hf.out; show _ = _; simp; omega, by simp; omega, by omega, by omega, by have := hrf.out; show _ < _; rw [Int.pow_succ] at this; omega, by show _ = _; rw [hv.out, Num.vr_great f' r (by omega), List.append_assoc]; rfl, rfl, by simp, hr2, hb2⟩
      case measure => simp [intOf]; omega
set_option maxHeartbeats 400000 in
theorem impl_no (n : Int) (w : World) (h : n < 0 ∨ 562949953421311 < n) :
    Calls Try.prog 14 #[.int .i64 n] w fun e w' => e = .returned (.string ⟨#[]⟩) ∧ Below w.heap.size w w' := by
  by_cases h0 : n < 0
  · go_enter Try.func14, Try.ntmps14
    go_wp2
    go_ret
    exact ⟨rfl, Below.refl _ _⟩
  · have h1 : 562949953421311 < n := by omega
    go_enter Try.func14, Try.ntmps14
    go_wp2
    go_ret
    exact ⟨rfl, Below.refl _ _⟩
set_option maxHeartbeats 400000 in
theorem spec_no (n : Int) (w : World) (h : n < 0 ∨ 562949953421311 < n) :
    Calls Try.prog 13 #[.int .i64 n] w fun e w' => e = .returned (.string ⟨#[]⟩) ∧ Below w.heap.size w w' := by
  have hin : (decide (0 ≤ n) && decide (n ≤ 562949953421311)) = false := by simp; omega
  go_enter Try.func13, Try.ntmps13
  go_wp2_with (go_at_call 21; refine (ReadFixed.in_any _ _ _ _).mono ?_; rintro e w' ⟨rfl, rfl⟩)
  go_ret
  exact ⟨rfl, Below.refl _ _⟩
theorem one_ok (x : Int) : ∀ u ∈ [Value.int .u8 x], u.oneCell' = true := by intro u hu; simp at hu; subst hu; rfl
theorem map_snoc (out : List UInt8) (x : Int) (h0 : 0 ≤ x) (h1 : x < 256) : out.map Put.cell ++ [Value.int .u8 x] = (out ++ [Num.byte x]).map Put.cell := by
  have e : ((Num.byte x).toNat : Int) = x := by rw [Num.byte_val]; omega
  simp [Put.cell, e]
set_option maxHeartbeats 1000000 in
theorem spec_yes (n : Int) (w : World) (h0 : 0 ≤ n) (h1 : n ≤ 562949953421311) :
    Calls Try.prog 13 #[.int .i64 n] w fun e w' => e = .returned (.string ⟨(Num.vr 6 n).toArray⟩) ∧ Below w.heap.size w w' := by
  have hin : (decide (0 ≤ n) && decide (n ≤ 562949953421311)) = true := by simp; omega
  obtain ⟨i0, hi, hz0, hz1, hz2⟩ := info_parts Fixed.info5
  go_enter Try.func13, Try.ntmps13
  go_wp2_with (go_at_call 21; refine (ReadFixed.in_any _ _ _ _).mono ?_; rintro e w' ⟨rfl, rfl⟩)
  go_loopw [0, 3] (fun q v wr => ∃ (f : Nat) (r : Int) (out : List UInt8), Hid (out.length + f = 6) ∧ out.length ≤ 6 ∧ 0 ≤ r ∧ r ≤ n ∧ Hid (r < 128 ^ (f + 1)) ∧ Hid (Num.vr 6 n = out ++ Num.vr f r) ∧ q = .int .i64 r ∧
      wr.ownsRow w.heap.size 5 1 v out.length (out.map Put.cell) ∧ Below w.heap.size w wr) (fun q _ _ => (intOf q).toNat)
  case atStart =>
    exact ⟨6, n, [], rfl, by simp, h0, Int.le_refl _, by show n < 128 ^ (6 + 1); omega, rfl, rfl, World.ownsRow_lit (base := w.heap.size) (e := 5) (size := 1) w #[] 0 (Nat.le_refl _) (by unfold maxLen; omega) rfl, (Below.refl _ _).alloc (Nat.le_refl _) _⟩
  case round =>
    obtain ⟨f, r, out, hf, ho, hr0, hrn, hrf, hv, rfl, hown, hbel⟩ := hrel
    by_cases hlt : r < 128
    · have hfin : Hid (Num.vr 6 n = out ++ [Num.byte r]) := by show _ = _; rw [hv.out, Num.vr_small f r hlt]
      go_wp2_with (at_builtin; refine wpList_append_own _ rfl _ _ 36 rfl w.heap.size 5 i0 (.int .u8 0) 1 1 Try.underlying36 hi hz0 hz1 hz2 rfl (by decide) _ _ _ rfl (hown.alloc _) ⟨wr.heap.size, 0, none⟩ 1 1 [.int .u8 r] rfl rfl (Put.cells_one wr _ 5) (one_ok _) (by unfold maxLen; omega) (by omega) ?c5 ?_)
      case c5 => have := hbel.size; simp; omega
      intro v' w2 hown' hgrow _
      rw [map_snoc out r hr0 (by omega)] at hown'
      have hconv := Put.conv_own (l := out ++ [Num.byte r]) (by simpa using hown') (by simp)
      have hb2 : Below w.heap.size w w2 := (hbel.alloc hbel.size _).grown hgrow (by have := hbel.size; simp; omega) (fun k h => (hown.lt k h).1)
      clear hown' hgrow hown
      go_wp2
      go_ret
      exact ⟨by rw [hfin.out]; rfl, hb2⟩
    · obtain ⟨f', hf'⟩ : ∃ f', f = f' + 1 := by
        cases f with
        | zero => have := hrf.out; simp at this; omega
        | succ f' => exact ⟨f', rfl⟩
      subst hf'
      have hlen : out.length + 1 ≤ 6 := by have := hf.out; omega
      go_wp2_with (at_builtin; refine wpList_append_own _ rfl _ _ 36 rfl w.heap.size 5 i0 (.int .u8 0) 1 1 Try.underlying36 hi hz0 hz1 hz2 rfl (by decide) _ _ _ rfl (hown.alloc _) ⟨wr.heap.size, 0, none⟩ 1 1 [.int .u8 (128 + r % 128)] rfl rfl (Put.cells_one wr _ 5) (one_ok _) (by unfold maxLen; omega) (by omega) ?d5 ?_)
      case d5 => have := hbel.size; simp; omega
      intro v' w2 hown' hgrow _
      rw [map_snoc out (128 + r % 128) (by omega) (by omega)] at hown'
      have hb2 : Below w.heap.size w w2 := (hbel.alloc hbel.size _).grown hgrow (by have := hbel.size; simp; omega) (fun k h => (hown.lt k h).1)
      clear hgrow hown
      go_wp2
      go_roundw
      case rel => exact ⟨f', r / 128, out ++ [Num.byte (128 + r % 128)], by have := hf.out; show _ = _; simp; omega, by simp; omega, by omega, by omega, by have := hrf.out; show _ < _; rw [Int.pow_succ] at this; omega, by show _ = _; rw [hv.out, Num.vr_great f' r (by omega), List.append_assoc]; rfl, rfl, by simpa using hown', hb2⟩
      case measure => simp [intOf]; omega
/-- what both tell -/
def tells (n : Int) : List UInt8 := if n < 0 ∨ 562949953421311 < n then [] else Num.vr 6 n
theorem spec_any (n : Int) (w : World) : Calls Try.prog 13 #[.int .i64 n] w fun e w' => e = .returned (.string ⟨(tells n).toArray⟩) ∧ Below w.heap.size w w' := by
  unfold tells
  by_cases h : n < 0 ∨ 562949953421311 < n
  · rw [if_pos h]; exact spec_no n w h
  · rw [if_neg h]; exact spec_yes n w (by omega) (by omega)
theorem impl_any (n : Int) (w : World) : Calls Try.prog 14 #[.int .i64 n] w fun e w' => e = .returned (.string ⟨(tells n).toArray⟩) ∧ Below w.heap.size w w' := by
  unfold tells
  by_cases h : n < 0 ∨ 562949953421311 < n
  · rw [if_pos h]; exact impl_no n w h
  · rw [if_neg h]; exact impl_yes n w (by omega) (by omega)
end Var
end Go.Proofs.Ytfmfidlhbephmaa
