/-
  UnqNum: A value without quotes around it, by cases.
  UnqSpec: l7Unquote of the specification: a value without quotes around it; the world stays.
-/
import Derived.Test.YtjeokackmkfooaaDoorQad
import Derived.Test.YtjeokackmkfooaaDoorRows
import Derived.Laws.Strings
import Derived.WalkKit
namespace Go.Proofs.YtjeokackmkfooaaDoor
open Go.RowKit
set_option linter.unusedVariables false
namespace Cc
open Line (byteAt byteAt_eq)

theorem unq_short {s : ByteArray} (h : s.size < 2) : unq s = s := by unfold unq; rw [if_neg (by omega)]
theorem unq_front {s : ByteArray} (h0 : 0 < s.size) (h : (s[0]).toNat ≠ 34) : unq s = s := by
  unfold unq; rw [if_neg]; rintro ⟨_, h2, _⟩; rw [byteAt_eq s 0 h0] at h2; exact h h2
theorem unq_back {s : ByteArray} {n : Nat} (hn : s.size = n + 1) (h : (s[n]'(by omega)).toNat ≠ 34) : unq s = s := by
  unfold unq; rw [if_neg]; rintro ⟨_, _, h2⟩; rw [show s.size - 1 = n by omega, byteAt_eq s n (by omega)] at h2; exact h h2
theorem unq_both {s : ByteArray} {n : Nat} (hn : s.size = n + 1) (h2 : 2 ≤ s.size) (h0 : (s[0]'(by omega)).toNat = 34) (h1 : (s[n]'(by omega)).toNat = 34) : unq s = s.extract 1 n := by
  unfold unq; rw [show s.size - 1 = n by omega, if_pos ⟨h2, by rw [byteAt_eq s 0 (by omega)]; exact h0, by rw [byteAt_eq s n (by omega)]; exact h1⟩]

end Cc
end Go.Proofs.YtjeokackmkfooaaDoor
namespace Go.Proofs.YtjeokackmkfooaaDoor
open Go.RowKit
set_option linter.unusedVariables false
namespace Cc
open Line (byteAt byteAt_eq)

set_option maxRecDepth 100000 in
set_option maxHeartbeats 1000000 in
theorem unq_spec (s : ByteArray) (w : World) (hs : s.size ≤ maxLen) : Calls Tryd.prog 23 #[.string s] w fun e w' => e = .returned (.string (unq s)) ∧ w = w' := by
  unfold maxLen at hs
  obtain ⟨r, hr⟩ : ∃ r, unq s = r := ⟨_, rfl⟩
  rw [hr]
  by_cases h2 : 2 ≤ s.size
  · obtain ⟨n, hn⟩ : ∃ n, s.size = n + 1 := ⟨s.size - 1, by omega⟩
    have h0 : 0 < s.size := by omega
    have hnl : n < s.size := by omega
    have i0 : ((n : Int) + 1 - 1) = n := by omega
    have hn1 : (1 : Int) ≤ (n : Int) := by omega
    have hn2 : (n : Int) ≤ (n : Int) + 1 := by omega
    by_cases ha : (s[0]).toNat = 34
    · have da : (((s[0]).toNat : Int) == 34) = true := by rw [beq_iff_eq]; omega
      by_cases hb : (s[n]).toNat = 34
      · have db : (((s[n]).toNat : Int) == 34) = true := by rw [beq_iff_eq]; omega
        rw [unq_both hn h2 ha hb] at hr
        have HR := Num.hide hr
        have d2 : decide ((2 : Int) ≤ (n : Int) + 1) = true := by simp; omega
        clear hr ha hb
        go_enter Tryd.func23, Tryd.ntmps23
        go_wp2
        all_goals go_ret
        all_goals exact ⟨by rw [← HR.out]; rfl, rfl⟩
      · have db : (((s[n]).toNat : Int) == 34) = false := by rw [beq_eq_false_iff_ne]; omega
        rw [unq_back hn hb] at hr
        subst hr
        have d2 : decide ((2 : Int) ≤ (n : Int) + 1) = true := by simp; omega
        clear ha hb
        go_enter Tryd.func23, Tryd.ntmps23
        go_wp2
        all_goals go_ret
        all_goals exact ⟨rfl, rfl⟩
    · have da : (((s[0]).toNat : Int) == 34) = false := by rw [beq_eq_false_iff_ne]; omega
      rw [unq_front h0 ha] at hr
      subst hr
      have d2 : decide ((2 : Int) ≤ (n : Int) + 1) = true := by simp; omega
      clear ha
      go_enter Tryd.func23, Tryd.ntmps23
      go_wp2
      all_goals go_ret
      all_goals exact ⟨rfl, rfl⟩
  · rw [unq_short (by omega)] at hr
    subst hr
    have d2 : decide ((2 : Int) ≤ (s.size : Int)) = false := by simp; omega
    go_enter Tryd.func23, Tryd.ntmps23
    go_wp2
    all_goals go_ret
    all_goals exact ⟨rfl, rfl⟩
end Cc
end Go.Proofs.YtjeokackmkfooaaDoor
