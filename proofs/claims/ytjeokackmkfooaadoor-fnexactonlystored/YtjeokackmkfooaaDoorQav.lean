/-
  LineDef: The line at a place, and the first colon, plain.
-/
import Derived.Test.YtjeokackmkfooaaDoorQac
namespace Go.Proofs.YtjeokackmkfooaaDoor
set_option linter.unusedVariables false
namespace Line

/-- the first end of a line from i on, within n places -/
def eolGo (s : ByteArray) : Nat → Nat → Option Nat
  | 0, _ => none
  | n + 1, i => if byteAt s i = 13 ∧ byteAt s (i + 1) = 10 then some i else eolGo s n (i + 1)
/-- where the line at 'a' ends -/
def eol (s : ByteArray) (a : Nat) : Option Nat := eolGo s (s.size - a) a
theorem eolGo_in (s : ByteArray) : ∀ (n i k : Nat), eolGo s n i = some k → i ≤ k ∧ k + 1 < s.size := by
  intro n
  induction n with
  | zero => intro i k h; cases h
  | succ n ih =>
    intro i k h
    unfold eolGo at h
    split at h
    · next hc =>
      cases h
      refine ⟨Nat.le_refl _, ?_⟩
      by_cases hz : i + 1 < s.size
      · exact hz
      · exfalso; have := hc.2; unfold byteAt at this; rw [dif_neg hz] at this; omega
    · have := ih (i + 1) k h; omega
theorem eol_in {s : ByteArray} {a k : Nat} (h : eol s a = some k) : a ≤ k ∧ k + 1 < s.size := eolGo_in s _ a k h
theorem eol_hit (s : ByteArray) (i : Nat) (h : i + 1 < s.size) (h1 : (s[i]'(by omega)).toNat = 13) (h2 : (s[i + 1]).toNat = 10) : eol s i = some i := by
  unfold eol
  obtain ⟨n, hn⟩ : ∃ n, s.size - i = n + 1 := ⟨s.size - i - 1, by omega⟩
  rw [hn, eolGo, if_pos ⟨by rw [byteAt_eq s i (by omega)]; exact h1, by rw [byteAt_eq s (i + 1) h]; exact h2⟩]
theorem eol_next (s : ByteArray) (i : Nat) (h : i + 1 < s.size) (hn : ¬ ((s[i]'(by omega)).toNat = 13 ∧ (s[i + 1]).toNat = 10)) : eol s i = eol s (i + 1) := by
  unfold eol
  obtain ⟨n, e⟩ : ∃ n, s.size - i = n + 1 := ⟨s.size - i - 1, by omega⟩
  rw [e, eolGo, if_neg (by rw [byteAt_eq s i (by omega), byteAt_eq s (i + 1) h]; exact hn), show s.size - (i + 1) = n by omega]
theorem eol_end (s : ByteArray) (i : Nat) (h : s.size ≤ i + 1) : eol s i = none := by
  cases e : eol s i with
  | none => rfl
  | some k => have := eol_in e; omega
/-- what the call tells -/
def lineOf (s : ByteArray) (a : Nat) : ByteArray × Int := match eol s a with | some k => (s.extract a k, (k : Int) + 2) | none => (⟨#[]⟩, -1)
/-- the first colon from i on, within n places -/
def colonGo (s : ByteArray) : Nat → Nat → Option Nat
  | 0, _ => none
  | n + 1, i => if byteAt s i = 58 then some i else colonGo s n (i + 1)
def colon (s : ByteArray) : Option Nat := colonGo s s.size 0
theorem colonGo_in (s : ByteArray) : ∀ (n i k : Nat), colonGo s n i = some k → i ≤ k ∧ k < s.size := by
  intro n
  induction n with
  | zero => intro i k h; cases h
  | succ n ih =>
    intro i k h
    unfold colonGo at h
    split at h
    · next hc =>
      cases h
      refine ⟨Nat.le_refl _, ?_⟩
      by_cases hz : i < s.size
      · exact hz
      · exfalso; unfold byteAt at hc; rw [dif_neg hz] at hc; omega
    · have := ih (i + 1) k h; omega
theorem colon_in {s : ByteArray} {k : Nat} (h : colon s = some k) : k < s.size := (colonGo_in s _ 0 k h).2
def colonOf (s : ByteArray) : Int := match colon s with | some k => (k : Int) | none => -1
end Line
end Go.Proofs.YtjeokackmkfooaaDoor
