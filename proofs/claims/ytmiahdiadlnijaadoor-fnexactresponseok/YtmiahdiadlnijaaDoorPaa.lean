/-
  ByteAt: The byte at a place of a text.
  UriNum: What a target looks like, plain.
  InSpec: l1In of the specification.
  UriSpec: UriOk of the specification.
-/
import Derived.Test.YtmiahdiadlnijaaDoorNum
import Derived.Test.YtmiahdiadlnijaaDoorSignNum
import Derived.Test.YtmiahdiadlnijaaDoorRows
import Derived.WalkKit
import Derived.WalkLawsBesides
import Derived.Laws.Strings
namespace Go.Proofs.YtmiahdiadlnijaaDoor
set_option linter.unusedVariables false
namespace Line

/-- the byte at a place; 256 where there is none -/
def byteAt (s : ByteArray) (i : Nat) : Nat := if h : i < s.size then s[i].toNat else 256
theorem byteAt_eq (s : ByteArray) (i : Nat) (h : i < s.size) : byteAt s i = s[i].toNat := by unfold byteAt; rw [dif_pos h]
end Line
end Go.Proofs.YtmiahdiadlnijaaDoor
namespace Go.Proofs.YtmiahdiadlnijaaDoor
open Go.RowKit
set_option linter.unusedVariables false
namespace Msg
open Line (byteAt byteAt_eq)

def uriB (b : UInt8) : Bool := decide (32 < (b.toNat : Int) ∧ (b.toNat : Int) < 127)
def uriOk (s : ByteArray) : Bool := s.data.toList.all uriB && decide (1 ≤ s.size ∧ s.size ≤ 20) && decide (byteAt s 0 = 47)
end Msg
end Go.Proofs.YtmiahdiadlnijaaDoor
namespace Go.Proofs.YtmiahdiadlnijaaDoor
open Go.RowKit
set_option linter.unusedVariables false
namespace Date

set_option maxRecDepth 100000 in
set_option maxHeartbeats 1000000 in
theorem in_spec (x lo hi : Int) (w : World) : Calls Tryd.prog 34 #[.int .i64 x, .int .i64 lo, .int .i64 hi] w fun e w' => e = .returned (.bool (decide (lo ≤ x ∧ x ≤ hi))) ∧ w = w' := by
  obtain ⟨r, hr⟩ : ∃ r, decide (lo ≤ x ∧ x ≤ hi) = r := ⟨_, rfl⟩
  rw [hr]
  by_cases h1 : lo ≤ x
  · obtain rfl : decide (x ≤ hi) = r := by rw [← hr]; simp [h1]
    clear hr
    go_enter Tryd.func34, Tryd.ntmps34
    go_wp2
    go_ret
    exact ⟨rfl, rfl⟩
  · obtain rfl : false = r := by rw [← hr]; simp [h1]
    clear hr
    go_enter Tryd.func34, Tryd.ntmps34
    go_wp2
    go_ret
    exact ⟨rfl, rfl⟩
end Date
end Go.Proofs.YtmiahdiadlnijaaDoor
namespace Go.Proofs.YtmiahdiadlnijaaDoor
open Go.RowKit
set_option linter.unusedVariables false
namespace Msg
open Line (byteAt byteAt_eq)

set_option maxRecDepth 100000 in
set_option maxHeartbeats 1000000 in
theorem uri_spec (s : ByteArray) (w : World) (hs : s.size ≤ maxLen) : Calls Tryd.prog 23 #[.string s] w fun e w' => e = .returned (.bool (uriOk s)) ∧ w = w' := by
  unfold maxLen at hs
  obtain ⟨r, hr⟩ : ∃ r, uriOk s = r := ⟨_, rfl⟩
  rw [hr]
  have HR := Num.hide hr
  clear hr
  go_enter Tryd.func23, Tryd.ntmps23
  go_wp2
  go_loop [3] (fun iv => ∃ k : Nat, k ≤ s.size ∧ iv = .int .i64 (k : Int) ∧ Hid ((s.data.toList.take k).all uriB = true)) (fun iv => s.size - (intOf iv).toNat)
  case atStart => exact ⟨0, by omega, rfl, by show _ = _; simp⟩
  case round =>
    obtain ⟨k, hk, rfl, HA⟩ := hrel
    by_cases hlt : k < s.size
    · have hc := s[k].toNat_lt
      have HT := Num.hide (Sign.all_take s uriB k hlt)
      have HN := Num.hide (fun h => Sign.not_all s uriB k hlt h)
      by_cases h1 : (s[k].toNat : Int) ≤ 32
      · obtain rfl : r = false := by rw [← HR.out]; unfold uriOk; rw [HN.out (decide_eq_false (by omega))]; rfl
        clear HR HA HT HN
        go_wp2
        all_goals go_ret
        all_goals exact ⟨rfl, rfl⟩
      · have d1 : decide ((s[k].toNat : Int) ≤ 32) = false := by rw [decide_eq_false_iff_not]; exact h1
        by_cases h2 : 127 ≤ (s[k].toNat : Int)
        · obtain rfl : r = false := by rw [← HR.out]; unfold uriOk; rw [HN.out (decide_eq_false (by omega))]; rfl
          clear HR HA HT HN
          go_wp2
          all_goals go_ret
          all_goals exact ⟨rfl, rfl⟩
        · have d2 : decide (127 ≤ (s[k].toNat : Int)) = false := by rw [decide_eq_false_iff_not]; exact h2
          have HA2 : Hid ((s.data.toList.take (k + 1)).all uriB = true) := by
            show _ = _; rw [HT.out, HA.out, Bool.true_and]; exact decide_eq_true (by omega)
          clear HA HT HN
          go_wp2
          all_goals go_round
          case rel => exact ⟨k + 1, by omega, by go_num, HA2⟩
          case measure => simp [intOf]; omega
    · obtain rfl : k = s.size := by omega
      have ha := Sign.all_full s uriB HA.out
      have hr := HR.out
      unfold uriOk at hr
      rw [ha, Bool.true_and] at hr
      clear HA ha
      by_cases h20 : (1 : Int) ≤ (s.size : Int) ∧ (s.size : Int) ≤ 20
      · rw [decide_eq_true (by omega : 1 ≤ s.size ∧ s.size ≤ 20), Bool.true_and, byteAt_eq s 0 (by omega)] at hr
        have h0 : 0 < s.size := by omega
        have hz : (0 : Int) < (s.size : Int) := by omega
        by_cases h47 : (s[0]).toNat = 47
        · have d47 : (((s[0]).toNat : Int) == 47) = true := by rw [beq_iff_eq]; omega
          rw [decide_eq_true h47] at hr
          subst hr
          clear HR h47
          go_wp2_with fail
          refine (Date.in_spec _ _ _ _).mono ?_
          rintro e w1 ⟨rfl, rfl⟩
          rw [decide_eq_true h20]
          go_wp2
          go_ret
          exact ⟨rfl, rfl⟩
        · have d47 : (((s[0]).toNat : Int) == 47) = false := by rw [beq_eq_false_iff_ne]; omega
          rw [decide_eq_false h47] at hr
          subst hr
          clear HR h47
          go_wp2_with fail
          refine (Date.in_spec _ _ _ _).mono ?_
          rintro e w1 ⟨rfl, rfl⟩
          rw [decide_eq_true h20]
          go_wp2
          go_ret
          exact ⟨rfl, rfl⟩
      · rw [decide_eq_false (by omega : ¬ (1 ≤ s.size ∧ s.size ≤ 20)), Bool.false_and] at hr
        subst hr
        clear HR
        go_wp2_with fail
        refine (Date.in_spec _ _ _ _).mono ?_
        rintro e w1 ⟨rfl, rfl⟩
        rw [decide_eq_false h20]
        go_wp2
        go_ret
        exact ⟨rfl, rfl⟩
theorem uri_spec_b (s : ByteArray) (w : World) (hs : s.size ≤ maxLen) : Calls Tryd.prog 23 #[.string s] w fun e w' => e = .returned (.bool (uriOk s)) ∧ Below w.heap.size w w' :=
  (uri_spec s w hs).mono (fun _ _ h => ⟨h.1, h.2 ▸ Below.refl _ _⟩)
end Msg
end Go.Proofs.YtmiahdiadlnijaaDoor
