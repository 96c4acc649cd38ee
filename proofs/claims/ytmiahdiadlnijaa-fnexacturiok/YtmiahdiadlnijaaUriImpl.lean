/-
  UriOk of the program.
-/
import Derived.Test.YtmiahdiadlnijaaUriNum
import Derived.Test.YtmiahdiadlnijaaSignNum
import Derived.Test.YtmiahdiadlnijaaByteAt
import Derived.Test.YtmiahdiadlnijaaRows
import Derived.Laws.Strings
namespace Go.Proofs.Ytmiahdiadlnijaa
open Go.RowKit
set_option linter.unusedVariables false
namespace Msg
open Line (byteAt byteAt_eq)

set_option maxRecDepth 100000 in
set_option maxHeartbeats 1000000 in
theorem uri_impl (s : ByteArray) (w : World) (hs : s.size ≤ maxLen) : Calls Try.prog 7 #[.string s] w fun e w' => e = .returned (.bool (uriOk s)) ∧ w = w' := by
  unfold maxLen at hs
  obtain ⟨r, hr⟩ : ∃ r, uriOk s = r := ⟨_, rfl⟩
  rw [hr]
  by_cases h0 : s.size = 0
  · have he : s.toList.isEmpty = true := by
      have : s = ⟨#[]⟩ := ByteArray.ext (Array.eq_empty_of_size_eq_zero h0)
      rw [this, ByteArray.toList_eq]; rfl
    obtain rfl : false = r := by rw [← hr]; unfold uriOk; rw [decide_eq_false (by omega : ¬ (1 ≤ s.size ∧ s.size ≤ 20)), Bool.and_false]; rfl
    clear hr
    go_enter Try.func7, Try.ntmps7
    go_wp2
    go_ret
    exact ⟨rfl, rfl⟩
  · have he : s.toList.isEmpty = false := Sign.empty_false s (by omega)
    by_cases h20 : (20 : Int) < (s.size : Int)
    · have d20 : decide ((20 : Int) < (s.size : Int)) = true := decide_eq_true h20
      obtain rfl : false = r := by rw [← hr]; unfold uriOk; rw [decide_eq_false (by omega : ¬ (1 ≤ s.size ∧ s.size ≤ 20)), Bool.and_false]; rfl
      clear hr
      go_enter Try.func7, Try.ntmps7
      go_wp2
      go_ret
      exact ⟨rfl, rfl⟩
    · have d20 : decide ((20 : Int) < (s.size : Int)) = false := decide_eq_false h20
      have hp : 0 < s.size := by omega
      have hz : (0 : Int) < (s.size : Int) := by omega
      unfold uriOk at hr
      rw [decide_eq_true (by omega : 1 ≤ s.size ∧ s.size ≤ 20), Bool.and_true, byteAt_eq s 0 hp] at hr
      by_cases h47 : (s[0]).toNat = 47
      · rw [decide_eq_true h47, Bool.and_true] at hr
        have d47 : (((s[0]).toNat : Int) != 47) = false := by rw [h47]; rfl
        have HR := Num.hide hr
        clear hr h47
        go_enter Try.func7, Try.ntmps7
        go_wp2
        go_loop [18] (fun iv => ∃ k : Nat, k ≤ s.size ∧ iv = .int .i64 (k : Int) ∧ Hid ((s.data.toList.take k).all uriB = true)) (fun iv => s.size - (intOf iv).toNat)
        case atStart => exact ⟨0, by omega, rfl, by show _ = _; simp⟩
        case round =>
          obtain ⟨k, hk, rfl, HA⟩ := hrel
          by_cases hlt : k < s.size
          · have hc := s[k].toNat_lt
            have HT := Num.hide (Sign.all_take s uriB k hlt)
            have HN := Num.hide (fun h => Sign.not_all s uriB k hlt h)
            by_cases h1 : (s[k].toNat : Int) < 33
            · obtain rfl : r = false := by rw [← HR.out]; exact HN.out (decide_eq_false (by omega))
              clear HR HA HT HN
              go_wp2
              all_goals go_ret
              all_goals exact ⟨rfl, rfl⟩
            · have d1 : decide ((s[k].toNat : Int) < 33) = false := decide_eq_false h1
              by_cases h2 : 126 < (s[k].toNat : Int)
              · obtain rfl : r = false := by rw [← HR.out]; exact HN.out (decide_eq_false (by omega))
                clear HR HA HT HN
                go_wp2
                all_goals go_ret
                all_goals exact ⟨rfl, rfl⟩
              · have d2 : decide (126 < (s[k].toNat : Int)) = false := decide_eq_false h2
                have HA2 : Hid ((s.data.toList.take (k + 1)).all uriB = true) := by
                  show _ = _; rw [HT.out, HA.out, Bool.true_and]; exact decide_eq_true (by omega)
                clear HA HT HN
                go_wp2
                all_goals go_round
                case rel => exact ⟨k + 1, by omega, by go_num, HA2⟩
                case measure => simp [intOf]; omega
          · obtain rfl : k = s.size := by omega
            obtain rfl : r = true := by rw [← HR.out]; exact Sign.all_full s uriB HA.out
            clear HA HR
            go_wp2
            go_ret
            exact ⟨rfl, rfl⟩
      · obtain rfl : false = r := by rw [← hr, decide_eq_false h47, Bool.and_false]
        have d47 : (((s[0]).toNat : Int) != 47) = true := by rw [bne_iff_ne]; omega
        clear hr h47
        go_enter Try.func7, Try.ntmps7
        go_wp2
        go_ret
        exact ⟨rfl, rfl⟩
theorem uri_impl_b (s : ByteArray) (w : World) (hs : s.size ≤ maxLen) : Calls Try.prog 7 #[.string s] w fun e w' => e = .returned (.bool (uriOk s)) ∧ Below w.heap.size w w' :=
  (uri_impl s w hs).mono (fun _ _ h => ⟨h.1, h.2 ▸ Below.refl _ _⟩)
end Msg
end Go.Proofs.Ytmiahdiadlnijaa
