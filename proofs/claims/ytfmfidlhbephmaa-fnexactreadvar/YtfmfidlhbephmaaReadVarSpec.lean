/-
  ReadVar of the specification: what the call returns, for every text; old memory stays as it was.
-/
import Derived.Test.YtfmfidlhbephmaaReadVarNum
import Derived.Test.YtfmfidlhbephmaaVarSpec
import Derived.Deep.RegionWith
namespace Go.Proofs.Ytfmfidlhbephmaa
open Go.RowKit
set_option linter.unusedVariables false
namespace ReadVar

theorem told (s : ByteArray) (k : Nat) (h7 : k ≤ 7) : Var.tells (Num.val (s.data.toList.take k)) = Num.vr 6 (Num.val (s.data.toList.take k)) := by
  have hb := val_drop_bd s k 0 h7
  rw [List.drop_zero] at hb
  exact if_neg (by omega)
theorem yes_is (s : ByteArray) (k : Nat) (h7 : k ≤ 7) (h : (Var.tells (Num.val (s.data.toList.take k)) == (s.extract 0 k).toList) = true) : Num.canon (s.data.toList.take k) := by
  have hb := val_take_bd s k
  rw [told s k h7, Lib.extract_toList, beq_iff_eq] at h
  simp only [List.drop_zero, Nat.sub_zero] at h
  have hc := (Num.vr_canon 6 _ hb.1 (Int.lt_of_lt_of_le hb.2 (Num.pow_up 128 k 7 (by decide) h7))).1
  rw [h] at hc
  exact hc
theorem no_is (s : ByteArray) (k : Nat) (h7 : k ≤ 7) (h : (Var.tells (Num.val (s.data.toList.take k)) == (s.extract 0 k).toList) = false) : ¬ Num.canon (s.data.toList.take k) := by
  intro hc
  rw [told s k h7, Lib.extract_toList, beq_eq_false_iff_ne] at h
  simp only [List.drop_zero, Nat.sub_zero] at h
  exact h (Num.canon_vr 6 _ hc (Nat.le_trans (List.length_take_le _ _) h7))
set_option maxRecDepth 100000 in
set_option maxHeartbeats 1000000 in
theorem spec_any (s : ByteArray) (w : World) (hm : s.size ≤ maxLen) :
    Calls Try.prog 15 #[.string s] w fun e w' => ∃ a b, e = .returned (.tuple #[.int .i64 a, .int .i64 b]) ∧ Good s a b ∧ Below w.heap.size w w' := by
  unfold maxLen at hm
  go_enter Try.func15, Try.ntmps15
  go_wp2
  go_loopw [4] (fun v wr => ∃ k : Nat, 1 ≤ k ∧ k ≤ 8 ∧ v = .int .i64 k ∧ Hid (∀ i, 1 ≤ i → i < k → i ≤ s.size → ¬ Num.canon (s.data.toList.take i)) ∧ Below w.heap.size w wr) (fun v _ => 8 - (intOf v).toNat)
  case atStart => exact ⟨1, by omega, by omega, rfl, fun i h1 h2 => by omega, Below.refl _ _⟩
  case round =>
    obtain ⟨k, hk1, hk8, rfl, hno, hbel⟩ := hrel
    by_cases hin : k ≤ 7 ∧ k ≤ s.size
    · obtain ⟨h7, hks⟩ := hin
      have h7' : (k : Int) ≤ 7 := by omega
      have hks' : (k : Int) ≤ (s.size : Int) := by omega
      go_wp2
      go_loop [5, 6] (fun n i => ∃ j : Nat, j ≤ k ∧ i = .int .i64 ((j : Int) - 1) ∧ n = .int .i64 (Num.val ((s.data.toList.take k).drop j))) (fun _ i => (intOf i + 1).toNat)
      case atStart => exact ⟨k, Nat.le_refl _, by go_num, by rw [List.drop_eq_nil_of_le (List.length_take_le _ _)]; rfl⟩
      case round =>
        obtain ⟨j, hj, rfl, rfl⟩ := hrel
        have hb := val_drop_bd s k j h7
        cases j with
        | zero =>
          go_wp2
          go_region_with (go_at_call 13; refine (Var.spec_any _ _).mono ?_; rintro e w2 ⟨rfl, hb2⟩)
          have hb3 : Below w.heap.size w w2 := (Below.drew hbel).trans (hb2.mono hbel.size)
          go_wp2
          · have ht : (Var.tells (Num.val (List.take k s.data.toList)) == (s.extract 0 k).toList) = true := by assumption
            go_ret2
            exact ⟨_, _, rfl, .inl ⟨k, hk1, h7, hks, yes_is s k h7 ht, rfl, rfl⟩, hb3⟩
          · have ht : (Var.tells (Num.val (List.take k s.data.toList)) == (s.extract 0 k).toList) = false := by assumption
            go_roundw
            case rel => exact ⟨k + 1, by omega, by omega, by go_num, fun i h1 h2 h3 => by
              by_cases e : i = k
              · subst e; exact no_is s i h7 ht
              · exact hno.out i h1 (by omega) h3, hb3⟩
            case measure => simp [intOf]; omega
        | succ j =>
          go_wp2
          go_round
          case rel => exact ⟨j, by omega, rfl, by rw [step_down _ _ hb.1 hb.2, val_drop s k j (by omega) hks]⟩
          case measure => simp [intOf]
    · have hg : Good s 0 0 := .inr ⟨fun i h1 h2 h3 => hno.out i h1 (by omega) h3, rfl, rfl⟩
      have HG := Num.hide hg
      clear hg
      by_cases h7 : k ≤ 7
      · go_wp2
        go_ret2
        exact ⟨0, 0, rfl, Num.unhide HG, hbel⟩
      · go_wp2
        go_ret2
        exact ⟨0, 0, rfl, Num.unhide HG, hbel⟩
end ReadVar
end Go.Proofs.Ytfmfidlhbephmaa
