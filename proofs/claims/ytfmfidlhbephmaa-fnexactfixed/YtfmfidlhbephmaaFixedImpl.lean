/-
  Fixed of the program: what the call returns, for every number and every width; old memory stays as it was.
-/
import Derived.Test.YtfmfidlhbephmaaPutCall
import Derived.Test.YtfmfidlhbephmaaMem
namespace Go.Proofs.Ytfmfidlhbephmaa
open Go.RowKit
set_option linter.unusedVariables false
namespace Fixed

theorem fx_put (n : Int) (m t j : Nat) (h : t + (j + 1) = m) : splice (Put.row (Num.fx n m) t) t [Value.int .u8 (n / 2 ^ (8 * j) % 256)] = Put.row (Num.fx n m) (t + 1) := by
  rw [← Put.row_put (Num.fx n m) t 1 (by rw [Num.length_fx]; omega), Num.fx_at n m t (by omega), show m - 1 - t = j by omega]
  simp only [List.map_cons, List.map_nil]
  rw [Num.byte_val, Num.pow_8]
theorem cells_row {w : World} {g : Nat} {l : List UInt8} (h : w.heap[g]? = some (.cells (Put.row l l.length).toArray 5 (0, 0))) :
    ∀ j (hj : j < l.length), w.cell? ((⟨g, 0, none⟩ : Addr).add j) = some (.int .u8 (l[j].toNat : Int)) := by
  intro j hj
  have hadd : (⟨g, 0, none⟩ : Addr).add j = ⟨g, j, none⟩ := by unfold Addr.add; split <;> simp_all
  rw [hadd, cell_of_row w g j _ 5 (0, 0) h, Put.row_all]
  simp [hj]
set_option maxHeartbeats 1000000 in
theorem impl_yes (n : Int) (m : Nat) (w : World) (h1 : 1 ≤ m) (h7 : m ≤ 7) (h0 : 0 ≤ n) (hfit : n / 256 ^ m = 0) (hmax : n ≤ 9223372036854775807) :
    Calls Try.prog 10 #[.int .i64 n, .int .i64 m] w fun e w' => e = .returned (.string ⟨(Num.fx n m).toArray⟩) ∧ Below w.heap.size w w' := by
  have h1' : decide ((m : Int) < 1) = false := by simp; omega
  have h2' : decide (7 < (m : Int)) = false := by simp; omega
  have h3' : decide (n < 0) = false := by simp; omega
  have h8 : 8 * (m : Int) ≤ 64 := by omega
  have hsh : (n / 2 ^ (8 * m) != 0) = false := by rw [Num.pow_8, hfit]; rfl
  have HF : Hid (n / 256 ^ m = 0) := hfit
  clear hfit
  obtain ⟨i0, hi, hz0, hz1, hz2⟩ := info_parts Mem.info5
  go_enter Try.func10, Try.ntmps10
  go_wp2_with (at_make; refine wpList_make_full _ rfl (.tmp 25) (.tmp 25) 36 rfl w.heap.size 5 i0 (.int .u8 0) 1 Try.underlying36 hi hz0 hz1 .i64 .i64 (m : Int) (m : Int) m rfl rfl rfl rfl ?c1 ?c2 ?c3 ?_)
  case c1 => rw [hz2]; omega
  case c2 => unfold maxLen; omega
  case c3 => exact Nat.le_refl _
  intro w1 hown hgrow
  have hrow : Hid (w1.heap[w.heap.size]? = some (.cells (Put.row (Num.fx n m) 0).toArray 5 (0, 0))) := by
    rw [Put.row_none, Num.length_fx]; exact Mem.made_row (by simpa [Value.cells] using hown)
  have hbel : Below w.heap.size w w1 := (Below.refl _ _).grown hgrow (Nat.le_refl _) (fun k h => by cases h)
  clear hown hgrow
  go_wp2
  go_loopw [6, 7] (fun a i wr => ∃ t j : Nat, Hid (t + j = m) ∧ t ≤ m ∧ j ≤ m ∧ a = .int .i64 t ∧ i = .int .i64 ((j : Int) - 1) ∧ Hid (wr.heap[w.heap.size]? = some (.cells (Put.row (Num.fx n m) t).toArray 5 (0, 0))) ∧ Below w.heap.size w wr) (fun a _ _ => m - (intOf a).toNat)
  case atStart => exact ⟨0, m, by show 0 + m = m; omega, by omega, by omega, rfl, by go_num, hrow, hbel⟩
  case round =>
    obtain ⟨t, j, htj, ht, hj, rfl, rfl, hrow', hbel'⟩ := hrel
    clear hrow hbel
    cases j with
    | zero =>
      have hm : t = m := by have := htj.out; omega
      subst hm
      have hconv := run_convert_bytes_back (P := Try.prog) wr 36 9 5 ⟨w.heap.size, 0, none⟩ t (Num.fx n t) Try.underlying36 Try.underlying5 Try.underlying9 (cells_row (by rw [Num.length_fx]; exact hrow'.out))
      rw [Num.length_fx] at hconv
      go_wp2
      go_ret
      exact ⟨rfl, hbel'⟩
    | succ j =>
      have hlt : t + 1 ≤ m := by have := htj.out; omega
      have hgs := Mem.lt_of_row hrow'.out
      go_wp2_with fail
      refine (Put.put_any w.heap.size m t 1 (Put.row (Num.fx n m) t) [.int .u8 (n / 2 ^ (8 * j) % 256)] ⟨wr.heap.size, 0, none⟩ 1 w.heap.size w _ ?a1 ?a2 rfl (by omega) hlt (by unfold maxLen; omega) (Mem.one_cell wr _ 5) ?a3 (hbel'.alloc (by omega) _) (Nat.le_refl _)).mono ?_
      case a1 => rw [Below.heap_alloc _ _ _ hgs]; exact hrow'.out
      case a2 => rw [Put.length_row _ _ (by rw [Num.length_fx]; omega), Num.length_fx]
      case a3 => intro v hv; simp at hv; subst hv; rfl
      rintro e w2 ⟨rfl, hr2, hb2⟩
      rw [fx_put n m t j htj.out] at hr2
      have HR2 : Hid (w2.heap[w.heap.size]? = some (.cells (Put.row (Num.fx n m) (t + 1)).toArray 5 (0, 0))) := hr2
      clear hr2 hrow' hbel'
      go_wp2
      go_roundw
      case rel => exact ⟨t + 1, j, by have := htj.out; show t + 1 + j = m; omega, hlt, by omega, by go_num, by go_num, HR2, hb2⟩
      case measure => simp [intOf]; omega
set_option maxHeartbeats 400000 in
theorem impl_no (n m : Int) (w : World) (h : m < 1 ∨ 7 < m ∨ n < 0 ∨ n / 256 ^ m.toNat ≠ 0) :
    Calls Try.prog 10 #[.int .i64 n, .int .i64 m] w fun e w' => e = .returned (.string ⟨#[]⟩) ∧ Below w.heap.size w w' := by
  by_cases h1 : m < 1
  · go_enter Try.func10, Try.ntmps10
    go_wp2
    go_ret
    exact ⟨rfl, Below.refl _ _⟩
  · by_cases h7 : 7 < m
    · go_enter Try.func10, Try.ntmps10
      go_wp2
      go_ret
      exact ⟨rfl, Below.refl _ _⟩
    · by_cases h0 : n < 0
      · go_enter Try.func10, Try.ntmps10
        go_wp2
        go_ret
        exact ⟨rfl, Below.refl _ _⟩
      · obtain ⟨k, rfl⟩ := Int.eq_ofNat_of_zero_le (show 0 ≤ m by omega)
        have h8 : 8 * (k : Int) ≤ 64 := by omega
        have hsh : (n / 2 ^ (8 * k) != 0) = true := by
          rw [Num.pow_8, bne_iff_ne]
          rcases h with h | h | h | h
          · omega
          · omega
          · omega
          · simpa using h
        clear h
        go_enter Try.func10, Try.ntmps10
        go_wp2
        go_ret
        exact ⟨rfl, Below.refl _ _⟩
/-- what both tell -/
def tells (n m : Int) : List UInt8 := if m < 1 ∨ 7 < m ∨ n < 0 ∨ n / 256 ^ m.toNat ≠ 0 then [] else Num.fx n m.toNat
theorem impl_any (n m : Int) (w : World) (hmax : n ≤ 9223372036854775807) :
    Calls Try.prog 10 #[.int .i64 n, .int .i64 m] w fun e w' => e = .returned (.string ⟨(tells n m).toArray⟩) ∧ Below w.heap.size w w' := by
  unfold tells
  by_cases h : m < 1 ∨ 7 < m ∨ n < 0 ∨ n / 256 ^ m.toNat ≠ 0
  · rw [if_pos h]; exact impl_no n m w h
  · rw [if_neg h]
    obtain ⟨k, rfl⟩ := Int.eq_ofNat_of_zero_le (show 0 ≤ m by omega)
    have hz : n / 256 ^ k = 0 := Decidable.byContradiction fun hc => h (.inr (.inr (.inr (by simpa using hc))))
    have hr : ¬ ((k : Int) < 1) ∧ ¬ (7 < (k : Int)) ∧ ¬ n < 0 := ⟨fun hc => h (.inl hc), fun hc => h (.inr (.inl hc)), fun hc => h (.inr (.inr (.inl hc)))⟩
    exact impl_yes n k w (by omega) (by omega) (by omega) hz hmax
end Fixed
end Go.Proofs.Ytfmfidlhbephmaa
