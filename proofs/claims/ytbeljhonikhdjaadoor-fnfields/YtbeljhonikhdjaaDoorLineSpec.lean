/-
  l3Line and l3Colon of the specification: the line at a place, the first colon.
-/
import Derived.Test.YtbeljhonikhdjaaDoorSignNum
import Derived.Test.YtbeljhonikhdjaaDoorRows
import Derived.Laws.Strings
namespace Go.Proofs.YtbeljhonikhdjaaDoor
open Go.RowKit
set_option linter.unusedVariables false
namespace Line

/-- the byte at a place; 256 where there is none -/
def byteAt (s : ByteArray) (i : Nat) : Nat := if h : i < s.size then s[i].toNat else 256
theorem byteAt_eq (s : ByteArray) (i : Nat) (h : i < s.size) : byteAt s i = s[i].toNat := by unfold byteAt; rw [dif_pos h]
/-- the first end of a line from i on, within n places -/
def eolGo (s : ByteArray) : Nat → Nat → Option Nat
  | 0, _ => none
  | n + 1, i => if byteAt s i = 13 ∧ byteAt s (i + 1) = 10 then some i else eolGo s n (i + 1)
/-- where the line at 'a' ends -/
def eol (s : ByteArray) (a : Nat) : Option Nat := eolGo s (s.size - a) a
theorem eolGo_in (s : ByteArray) : ∀ (n i k : Nat), eolGo s n i = some k → i ≤ k ∧ k + 1 < s.size := by
  intro n
  induction n with
  | zero => intro i k h; cases h
  | succ n ih =>
    intro i k h
    unfold eolGo at h
    split at h
    · next hc =>
      cases h
      refine ⟨Nat.le_refl _, ?_⟩
      by_cases hz : i + 1 < s.size
      · exact hz
      · exfalso; have := hc.2; unfold byteAt at this; rw [dif_neg hz] at this; omega
    · have := ih (i + 1) k h; omega
theorem eol_in {s : ByteArray} {a k : Nat} (h : eol s a = some k) : a ≤ k ∧ k + 1 < s.size := eolGo_in s _ a k h
theorem eol_hit (s : ByteArray) (i : Nat) (h : i + 1 < s.size) (h1 : (s[i]'(by omega)).toNat = 13) (h2 : (s[i + 1]).toNat = 10) : eol s i = some i := by
  unfold eol
  obtain ⟨n, hn⟩ : ∃ n, s.size - i = n + 1 := ⟨s.size - i - 1, by omega⟩
  rw [hn, eolGo, if_pos ⟨by rw [byteAt_eq s i (by omega)]; exact h1, by rw [byteAt_eq s (i + 1) h]; exact h2⟩]
theorem eol_next (s : ByteArray) (i : Nat) (h : i + 1 < s.size) (hn : ¬ ((s[i]'(by omega)).toNat = 13 ∧ (s[i + 1]).toNat = 10)) : eol s i = eol s (i + 1) := by
  unfold eol
  obtain ⟨n, e⟩ : ∃ n, s.size - i = n + 1 := ⟨s.size - i - 1, by omega⟩
  rw [e, eolGo, if_neg (by rw [byteAt_eq s i (by omega), byteAt_eq s (i + 1) h]; exact hn), show s.size - (i + 1) = n by omega]
theorem eol_end (s : ByteArray) (i : Nat) (h : s.size ≤ i + 1) : eol s i = none := by
  cases e : eol s i with
  | none => rfl
  | some k => have := eol_in e; omega
/-- what the call tells -/
def lineOf (s : ByteArray) (a : Nat) : ByteArray × Int := match eol s a with | some k => (s.extract a k, (k : Int) + 2) | none => (⟨#[]⟩, -1)

set_option maxRecDepth 100000 in
set_option maxHeartbeats 1000000 in
theorem line_spec (s : ByteArray) (a : Nat) (w : World) (hs : s.size ≤ 1152921504606846976) (ha : a ≤ s.size) : Calls Tryd.prog 48 #[.string s, .int .i64 a] w fun e w' => e = .returned (.tuple #[.string (lineOf s a).1, .int .i64 (lineOf s a).2]) ∧ w = w' := by
  obtain ⟨r, hr⟩ : ∃ r, lineOf s a = r := ⟨_, rfl⟩
  rw [hr]
  unfold lineOf at hr
  have HR := Num.hide hr
  clear hr
  go_enter Tryd.func48, Tryd.ntmps48
  go_wp2
  go_loop [6] (fun iv => ∃ i : Nat, a ≤ i ∧ i ≤ s.size ∧ iv = .int .i64 (i : Int) ∧ Hid (eol s a = eol s i)) (fun iv => s.size - (intOf iv).toNat)
  case atStart => exact ⟨a, Nat.le_refl _, ha, rfl, rfl⟩
  case round =>
    obtain ⟨i, hai, hi, rfl, HE⟩ := hrel
    by_cases hlt : i + 1 < s.size
    · have hlt' : ((i : Int) + 1) < s.size := by omega
      have hi2 : i < s.size := by omega
      by_cases h13 : (s[i]).toNat = 13
      · have d13 : (((s[i]).toNat : Int) == 13) = true := by rw [beq_iff_eq]; omega
        by_cases h10 : (s[i + 1]).toNat = 10
        · have d10 : (((s[i + 1]).toNat : Int) == 10) = true := by rw [beq_iff_eq]; omega
          have hr := HR.out
          rw [HE.out, eol_hit s i hlt h13 h10] at hr
          subst hr
          clear h13 h10 HR
          go_wp2
          all_goals go_ret2
          all_goals exact ⟨rfl, rfl⟩
        · have d10 : (((s[i + 1]).toNat : Int) == 10) = false := by rw [beq_eq_false_iff_ne]; omega
          have HE2 : Hid (eol s a = eol s (i + 1)) := by show _ = _; rw [HE.out, eol_next s i hlt (fun h => h10 h.2)]
          clear h13 h10
          go_wp2
          go_round
          case rel => exact ⟨i + 1, by omega, by omega, by go_num, HE2⟩
          case measure => simp [intOf]; omega
      · have d13 : (((s[i]).toNat : Int) == 13) = false := by rw [beq_eq_false_iff_ne]; omega
        have HE2 : Hid (eol s a = eol s (i + 1)) := by show _ = _; rw [HE.out, eol_next s i hlt (fun h => h13 h.1)]
        clear h13
        go_wp2
        go_round
        case rel => exact ⟨i + 1, by omega, by omega, by go_num, HE2⟩
        case measure => simp [intOf]; omega
    · have hr := HR.out
      rw [HE.out, eol_end s i (by omega)] at hr
      subst hr
      clear HR
      go_wp2
      go_ret2
      exact ⟨rfl, rfl⟩

/-- the first colon from i on, within n places -/
def colonGo (s : ByteArray) : Nat → Nat → Option Nat
  | 0, _ => none
  | n + 1, i => if byteAt s i = 58 then some i else colonGo s n (i + 1)
def colon (s : ByteArray) : Option Nat := colonGo s s.size 0
theorem colonGo_in (s : ByteArray) : ∀ (n i k : Nat), colonGo s n i = some k → i ≤ k ∧ k < s.size := by
  intro n
  induction n with
  | zero => intro i k h; cases h
  | succ n ih =>
    intro i k h
    unfold colonGo at h
    split at h
    · next hc =>
      cases h
      refine ⟨Nat.le_refl _, ?_⟩
      by_cases hz : i < s.size
      · exact hz
      · exfalso; unfold byteAt at hc; rw [dif_neg hz] at hc; omega
    · have := ih (i + 1) k h; omega
theorem colon_in {s : ByteArray} {k : Nat} (h : colon s = some k) : k < s.size := (colonGo_in s _ 0 k h).2
def colonOf (s : ByteArray) : Int := match colon s with | some k => (k : Int) | none => -1

set_option maxRecDepth 100000 in
set_option maxHeartbeats 1000000 in
theorem colon_spec (s : ByteArray) (w : World) (hs : s.size ≤ maxLen) : Calls Tryd.prog 49 #[.string s] w fun e w' => e = .returned (.int .i64 (colonOf s)) ∧ w = w' := by
  unfold maxLen at hs
  obtain ⟨r, hr⟩ : ∃ r, colonOf s = r := ⟨_, rfl⟩
  rw [hr]
  unfold colonOf at hr
  have HR := Num.hide hr
  clear hr
  go_enter Tryd.func49, Tryd.ntmps49
  go_wp2
  go_loop [3] (fun iv => ∃ i : Nat, i ≤ s.size ∧ iv = .int .i64 (i : Int) ∧ Hid (colon s = colonGo s (s.size - i) i)) (fun iv => s.size - (intOf iv).toNat)
  case atStart => exact ⟨0, Nat.zero_le _, rfl, rfl⟩
  case round =>
    obtain ⟨i, hi, rfl, HE⟩ := hrel
    by_cases hlt : i < s.size
    · obtain ⟨n, hn⟩ : ∃ n, s.size - i = n + 1 := ⟨s.size - i - 1, by omega⟩
      have he := HE.out
      rw [hn, colonGo, byteAt_eq s i hlt] at he
      have hn2 : s.size - (i + 1) = n := by omega
      by_cases h58 : (s[i]).toNat = 58
      · have d58 : (((s[i]).toNat : Int) == 58) = true := by rw [beq_iff_eq]; omega
        rw [if_pos h58] at he
        have hr := HR.out
        rw [he] at hr
        subst hr
        clear h58 HR he hn hn2
        go_wp2
        go_ret
        exact ⟨rfl, rfl⟩
      · have d58 : (((s[i]).toNat : Int) == 58) = false := by rw [beq_eq_false_iff_ne]; omega
        rw [if_neg h58] at he
        have HE2 : Hid (colon s = colonGo s (s.size - (i + 1)) (i + 1)) := by rw [hn2]; exact he
        clear h58 he hn hn2
        go_wp2
        go_round
        case rel => exact ⟨i + 1, by omega, by go_num, HE2⟩
        case measure => simp [intOf]; omega
    · have he := HE.out
      rw [show s.size - i = 0 by omega, colonGo] at he
      have hr := HR.out
      rw [he] at hr
      subst hr
      clear HR he
      go_wp2
      go_ret
      exact ⟨rfl, rfl⟩
end Line
end Go.Proofs.YtbeljhonikhdjaaDoor
