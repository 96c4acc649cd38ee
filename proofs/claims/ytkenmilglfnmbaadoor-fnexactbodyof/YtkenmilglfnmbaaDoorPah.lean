/-
  LineEol: l3Line of the specification: the line at a place.
-/
import Derived.Test.YtkenmilglfnmbaaDoorPaf
import Derived.Test.YtkenmilglfnmbaaDoorPac
import Derived.Test.YtkenmilglfnmbaaDoorRows
import Derived.Laws.Strings
namespace Go.Proofs.YtkenmilglfnmbaaDoor
open Go.RowKit
set_option linter.unusedVariables false
namespace Line

set_option maxRecDepth 100000 in
set_option maxHeartbeats 1000000 in
theorem line_spec (s : ByteArray) (a : Nat) (w : World) (hs : s.size ≤ 1152921504606846976) (ha : a ≤ s.size) : Calls Tryd.prog 12 #[.string s, .int .i64 a] w fun e w' => e = .returned (.tuple #[.string (lineOf s a).1, .int .i64 (lineOf s a).2]) ∧ w = w' := by
  obtain ⟨r, hr⟩ : ∃ r, lineOf s a = r := ⟨_, rfl⟩
  rw [hr]
  unfold lineOf at hr
  have HR := Num.hide hr
  clear hr
  go_enter Tryd.func12, Tryd.ntmps12
  go_wp2
  go_loop [6] (fun iv => ∃ i : Nat, a ≤ i ∧ i ≤ s.size ∧ iv = .int .i64 (i : Int) ∧ Hid (eol s a = eol s i)) (fun iv => s.size - (intOf iv).toNat)
  case atStart => exact ⟨a, Nat.le_refl _, ha, rfl, rfl⟩
  case round =>
    obtain ⟨i, hai, hi, rfl, HE⟩ := hrel
    by_cases hlt : i + 1 < s.size
    · have hlt' : ((i : Int) + 1) < s.size := by omega
      have hi2 : i < s.size := by omega
      by_cases h13 : (s[i]).toNat = 13
      · have d13 : (((s[i]).toNat : Int) == 13) = true := by rw [beq_iff_eq]; omega
        by_cases h10 : (s[i + 1]).toNat = 10
        · have d10 : (((s[i + 1]).toNat : Int) == 10) = true := by rw [beq_iff_eq]; omega
          have hr := HR.out
          rw [HE.out, eol_hit s i hlt h13 h10] at hr
          subst hr
          clear h13 h10 HR
          go_wp2
          all_goals go_ret2
          all_goals exact ⟨rfl, rfl⟩
        · have d10 : (((s[i + 1]).toNat : Int) == 10) = false := by rw [beq_eq_false_iff_ne]; omega
          have HE2 : Hid (eol s a = eol s (i + 1)) := by show _ = _; rw [HE.out, eol_next s i hlt (fun h => h10 h.2)]
          clear h13 h10
          go_wp2
          go_round
          case rel => exact ⟨i + 1, by omega, by omega, by go_num, HE2⟩
          case measure => simp [intOf]; omega
      · have d13 : (((s[i]).toNat : Int) == 13) = false := by rw [beq_eq_false_iff_ne]; omega
        have HE2 : Hid (eol s a = eol s (i + 1)) := by show _ = _; rw [HE.out, eol_next s i hlt (fun h => h13 h.1)]
        clear h13
        go_wp2
        go_round
        case rel => exact ⟨i + 1, by omega, by omega, by go_num, HE2⟩
        case measure => simp [intOf]; omega
    · have hr := HR.out
      rw [HE.out, eol_end s i (by omega)] at hr
      subst hr
      clear HR
      go_wp2
      go_ret2
      exact ⟨rfl, rfl⟩
end Line
end Go.Proofs.YtkenmilglfnmbaaDoor
