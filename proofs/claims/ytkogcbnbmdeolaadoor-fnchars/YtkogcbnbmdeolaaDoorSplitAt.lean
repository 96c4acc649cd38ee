/-
  SplitList of the program: the parts of a text, in a row of the call's own; what was there stays.
-/
import Derived.Test.YtkogcbnbmdeolaaDoorAddPart
import Derived.Lib.OthersKept
namespace Go.Proofs.YtkogcbnbmdeolaaDoor
open Go.RowKit
set_option linter.unusedVariables false
namespace Sign

/-- where the program stands within the text: what has been gathered and what is still to come make the parts -/
structure At (s : ByteArray) (pos : Nat) (E : Int) (a : Nat) (q : Bool) (l : List ByteArray) : Prop where
  le : pos ≤ s.size
  from_le : a ≤ pos
  esc_le : E ≤ (pos : Int)
  len : l.length ≤ pos
  skip : E = (pos : Int) → split s = l ++ rest s (s.size - (pos + 1)) a q
  next : E ≠ (pos : Int) → split s = l ++ rest s (s.size - pos) a q
theorem at_start (s : ByteArray) : At s 0 (-1) 0 false [] where
  le := Nat.zero_le _
  from_le := Nat.le_refl _
  esc_le := by omega
  len := Nat.le_refl _
  skip := fun h => by omega
  next := fun _ => by rw [List.nil_append, Nat.sub_zero]; rfl
theorem partOf_part (s : ByteArray) (a b : Nat) : partOf (s.extract a b) = part s a b := rfl
theorem length_part (s : ByteArray) (a b : Nat) : (part s a b).length ≤ 1 := by unfold part; split <;> simp
section
variable {s : ByteArray} {pos : Nat} {E : Int} {a : Nat} {q : Bool} {l : List ByteArray}
/-- a sign that was escaped, or one from 128 on -/
theorem at_wide (h : At s pos E a q l) (hp : pos < s.size) (d : Nat) (hd : 1 ≤ d) (hle : pos + d ≤ s.size) (hh : ∀ j (hj : j < s.size), pos < j → j < pos + d → 128 ≤ (s[j]).toNat) (hs : E = (pos : Int) ∨ 128 ≤ (s[pos]).toNat) : At s (pos + d) E a q l where
  le := hle
  from_le := Nat.le_trans h.from_le (by omega)
  esc_le := by have := h.esc_le; omega
  len := Nat.le_trans h.len (by omega)
  skip := fun e => by have := h.esc_le; omega
  next := fun _ => by
    have e1 : split s = l ++ rest s (s.size - (pos + 1)) a q := by
      by_cases e : E = (pos : Int)
      · exact h.skip e
      · have hb : 128 ≤ (s[pos]).toNat := hs.elim (fun h => absurd h e) id
        rw [h.next e, rest_else s pos a q hp (by omega) (by omega) (by omega)]
    rw [e1, rest_high s a q (d - 1) (pos + 1) (by omega) (fun j hj h1 h2 => hh j hj (by omega) (by omega)), show pos + 1 + (d - 1) = pos + d by omega]
theorem at_skip_one (h : At s pos E a q l) (hp : pos < s.size) (he : E = (pos : Int)) : At s (pos + 1) E a q l :=
  at_wide h hp 1 (Nat.le_refl _) hp (fun j hj h1 h2 => by omega) (.inl he)
theorem at_esc (h : At s pos E a true l) (hp : pos < s.size) (he : E ≠ (pos : Int)) (hc : (s[pos]).toNat = 92) : At s (pos + 1) ((pos : Int) + 1) a true l where
  le := hp
  from_le := Nat.le_trans h.from_le (by omega)
  esc_le := by omega
  len := Nat.le_trans h.len (by omega)
  skip := fun _ => by rw [h.next he, rest_esc s pos a hp hc]
  next := fun e => by omega
theorem at_quote (h : At s pos E a q l) (hp : pos < s.size) (he : E ≠ (pos : Int)) (hc : (s[pos]).toNat = 34) : At s (pos + 1) E a (!q) l where
  le := hp
  from_le := Nat.le_trans h.from_le (by omega)
  esc_le := by have := h.esc_le; omega
  len := Nat.le_trans h.len (by omega)
  skip := fun e => by have := h.esc_le; omega
  next := fun _ => by rw [h.next he, rest_quote s pos a q hp hc]
theorem at_comma (h : At s pos E a false l) (hp : pos < s.size) (he : E ≠ (pos : Int)) (hc : (s[pos]).toNat = 44) : At s (pos + 1) E (pos + 1) false (l ++ partOf (s.extract a pos)) where
  le := hp
  from_le := Nat.le_refl _
  esc_le := by have := h.esc_le; omega
  len := by rw [List.length_append, partOf_part]; have := length_part s a pos; have := h.len; omega
  skip := fun e => by have := h.esc_le; omega
  next := fun _ => by rw [h.next he, rest_comma s pos a hp hc, List.append_assoc, partOf_part]
theorem at_else (h : At s pos E a q l) (hp : pos < s.size) (he : E ≠ (pos : Int)) (h1 : (s[pos]).toNat ≠ 34) (h2 : ¬ (q = true ∧ (s[pos]).toNat = 92)) (h3 : ¬ ((s[pos]).toNat = 44 ∧ q = false)) : At s (pos + 1) E a q l where
  le := hp
  from_le := Nat.le_trans h.from_le (by omega)
  esc_le := by have := h.esc_le; omega
  len := Nat.le_trans h.len (by omega)
  skip := fun e => by have := h.esc_le; omega
  next := fun _ => by rw [h.next he, rest_else s pos a q hp h1 h2 h3]
theorem at_end (h : At s s.size E a q l) : l ++ partOf (s.extract a s.size) = split s := by
  by_cases e : E = (s.size : Int)
  · rw [h.skip e, rest_end s _ a q (by omega), partOf_part]
  · rw [h.next e, rest_end s _ a q (Nat.le_refl _), partOf_part]
end
end Sign
end Go.Proofs.YtkogcbnbmdeolaaDoor
