/-
  Bodies in pieces, read, plain.
-/
import Derived.Test.YtkenmilglfnmbaaGreatDoorBodyNum
import Derived.Test.YtkenmilglfnmbaaGreatDoorLineDef
namespace Go.Proofs.YtkenmilglfnmbaaGreatDoor
open Go.RowKit
set_option linter.unusedVariables false
namespace Body
open Line (byteAt byteAt_eq)

/-- what is told: the text, how many bytes, and the code -/
abbrev Told := ByteArray × Int × Int
def bad : Told := (⟨#[]⟩, 0, 2)
def more : Told := (⟨#[]⟩, 0, 1)
/-- what is read from 'a' on behind 'out', in at most so many pieces -/
def unF (s : ByteArray) : Nat → Nat → ByteArray → Told
  | 0, _, _ => bad
  | f + 1, a, out =>
    match Line.eol s a with
    | none => if 8 < s.size - a then bad else more
    | some i =>
      match readHex (s.extract a i) with
      | none => bad
      | some n =>
        if 60 < out.size + n.toNat then bad
        else if s.size < i + 2 + n.toNat + 2 then more
        else if byteAt s (i + 2 + n.toNat) = 13 ∧ byteAt s (i + 2 + n.toNat + 1) = 10 then
          if n = 0 then (out ++ s.extract (i + 2) (i + 2 + n.toNat), ((i + 2 + n.toNat + 2 : Nat) : Int), 0)
          else unF s f (i + 2 + n.toNat + 2) (out ++ s.extract (i + 2) (i + 2 + n.toNat))
        else bad
def unchunk (s : ByteArray) : Told := unF s (s.size + 1) 0 ⟨#[]⟩
/-- where the reading stands -/
structure UnAt (s : ByteArray) (a : Nat) (out : ByteArray) : Prop where
  le : a ≤ s.size
  small : out.size ≤ 60
  same : ∃ f, s.size + 1 ≤ f + a ∧ unchunk s = unF s f a out
theorem un_start (s : ByteArray) : UnAt s 0 ⟨#[]⟩ := ⟨Nat.zero_le _, by decide, s.size + 1, by omega, rfl⟩
section
variable {s : ByteArray} {a : Nat} {out : ByteArray}
theorem un_step (h : UnAt s a out) : ∃ f, s.size ≤ f + a ∧ unchunk s = unF s (f + 1) a out := by
  obtain ⟨f, h1, h2⟩ := h.same
  have := h.le
  exact ⟨f - 1, by omega, by rw [show f - 1 + 1 = f by omega]; exact h2⟩
theorem un_long (h : UnAt s a out) (he : Line.eol s a = none) (hl : 8 < s.size - a) : unchunk s = bad := by
  obtain ⟨f, _, h2⟩ := un_step h
  rw [h2, unF, he]; simp only; rw [if_pos hl]
theorem un_more (h : UnAt s a out) (he : Line.eol s a = none) (hl : ¬ 8 < s.size - a) : unchunk s = more := by
  obtain ⟨f, _, h2⟩ := un_step h
  rw [h2, unF, he]; simp only; rw [if_neg hl]
theorem un_nohex (h : UnAt s a out) {i : Nat} (he : Line.eol s a = some i) (hx : readHex (s.extract a i) = none) : unchunk s = bad := by
  obtain ⟨f, _, h2⟩ := un_step h
  rw [h2, unF, he]; simp only; rw [hx]
theorem un_great (h : UnAt s a out) {i : Nat} {n : Int} (he : Line.eol s a = some i) (hx : readHex (s.extract a i) = some n) (hg : 60 < out.size + n.toNat) : unchunk s = bad := by
  obtain ⟨f, _, h2⟩ := un_step h
  rw [h2, unF, he]; simp only; rw [hx]; simp only; rw [if_pos hg]
theorem un_short (h : UnAt s a out) {i : Nat} {n : Int} (he : Line.eol s a = some i) (hx : readHex (s.extract a i) = some n) (hg : ¬ 60 < out.size + n.toNat) (hs : s.size < i + 2 + n.toNat + 2) : unchunk s = more := by
  obtain ⟨f, _, h2⟩ := un_step h
  rw [h2, unF, he]; simp only; rw [hx]; simp only; rw [if_neg hg, if_pos hs]
theorem un_noend (h : UnAt s a out) {i : Nat} {n : Int} (he : Line.eol s a = some i) (hx : readHex (s.extract a i) = some n) (hg : ¬ 60 < out.size + n.toNat) (hs : ¬ s.size < i + 2 + n.toNat + 2) (hb : ¬ (byteAt s (i + 2 + n.toNat) = 13 ∧ byteAt s (i + 2 + n.toNat + 1) = 10)) : unchunk s = bad := by
  obtain ⟨f, _, h2⟩ := un_step h
  rw [h2, unF, he]; simp only; rw [hx]; simp only; rw [if_neg hg, if_neg hs, if_neg hb]
theorem un_done (h : UnAt s a out) {i : Nat} (he : Line.eol s a = some i) (hx : readHex (s.extract a i) = some 0) (hg : ¬ 60 < out.size + (0 : Int).toNat) (hs : ¬ s.size < i + 2 + (0 : Int).toNat + 2) (hb : byteAt s (i + 2 + (0 : Int).toNat) = 13 ∧ byteAt s (i + 2 + (0 : Int).toNat + 1) = 10) :
    unchunk s = (out ++ s.extract (i + 2) (i + 2 + (0 : Int).toNat), ((i + 2 + (0 : Int).toNat + 2 : Nat) : Int), 0) := by
  obtain ⟨f, _, h2⟩ := un_step h
  rw [h2, unF, he]; simp only; rw [hx]; simp only; rw [if_neg hg, if_neg hs, if_pos hb, if_pos trivial]
theorem un_next (h : UnAt s a out) {i : Nat} {n : Int} (he : Line.eol s a = some i) (hx : readHex (s.extract a i) = some n) (hg : ¬ 60 < out.size + n.toNat) (hs : ¬ s.size < i + 2 + n.toNat + 2) (hb : byteAt s (i + 2 + n.toNat) = 13 ∧ byteAt s (i + 2 + n.toNat + 1) = 10) (h0 : ¬ n = 0) :
    UnAt s (i + 2 + n.toNat + 2) (out ++ s.extract (i + 2) (i + 2 + n.toNat)) := by
  have hin := Line.eol_in he
  obtain ⟨f, h1, h2⟩ := un_step h
  refine ⟨by omega, by rw [ByteArray.size_append, ByteArray.size_extract]; omega, f, by omega, ?_⟩
  rw [h2, unF, he]; simp only; rw [hx]; simp only; rw [if_neg hg, if_neg hs, if_pos hb, if_neg h0]
theorem readHex_bd {t : ByteArray} {n : Int} (h : readHex t = some n) : 0 ≤ n ∧ n ≤ 16777215 := by
  unfold readHex at h
  split at h
  · next hc => cases h; exact hexVal_six _ hc.1 (by rw [Array.length_toList]; exact hc.2.2)
  · cases h
theorem rh_some {t : ByteArray} {n : Int} (h : readHex t = some n) : rhN t = n ∧ rhB t = true := by unfold rhN rhB; rw [h]; exact ⟨rfl, rfl⟩
end
end Body
end Go.Proofs.YtkenmilglfnmbaaGreatDoor
