/-
  One piece of a body, read off a text from a place on, plain.
-/
import Derived.Test.YtkenmilglfnmbaaGreatDoorUnchunkNum
import Derived.Test.YtkenmilglfnmbaaGreatDoorLineNum
import Derived.Test.YtkenmilglfnmbaaGreatDoorSignNum
import Derived.Lib.Strings
namespace Go.Proofs.YtkenmilglfnmbaaGreatDoor
open Go.RowKit
set_option linter.unusedVariables false
namespace Body
open Line (byteAt byteAt_eq)

/-- a piece: its bytes, how many it takes up, and the code -/
abbrev Pc0 := ByteArray × Nat × Nat
def pcBad : Pc0 := (⟨#[]⟩, 0, 2)
def pcMore : Pc0 := (⟨#[]⟩, 0, 1)
def pieceAt (s : ByteArray) (a room : Nat) : Pc0 :=
  match Line.eol s a with
  | none => if 8 < s.size - a then pcBad else pcMore
  | some i =>
    match readHex (s.extract a i) with
    | none => pcBad
    | some n =>
      if room < n.toNat then pcBad
      else if s.size < i + 2 + n.toNat + 2 then pcMore
      else if byteAt s (i + 2 + n.toNat) = 13 ∧ byteAt s (i + 2 + n.toNat + 1) = 10 then (s.extract (i + 2) (i + 2 + n.toNat), (i - a) + n.toNat + 4, 0)
      else pcBad
section
variable {s : ByteArray} {a room : Nat}
theorem pc_long (he : Line.eol s a = none) (hl : 8 < s.size - a) : pieceAt s a room = pcBad := by unfold pieceAt; rw [he]; simp only; rw [if_pos hl]
theorem pc_more (he : Line.eol s a = none) (hl : ¬ 8 < s.size - a) : pieceAt s a room = pcMore := by unfold pieceAt; rw [he]; simp only; rw [if_neg hl]
theorem pc_nohex {i : Nat} (he : Line.eol s a = some i) (hx : readHex (s.extract a i) = none) : pieceAt s a room = pcBad := by unfold pieceAt; rw [he]; simp only; rw [hx]
theorem pc_great {i : Nat} {n : Int} (he : Line.eol s a = some i) (hx : readHex (s.extract a i) = some n) (hg : room < n.toNat) : pieceAt s a room = pcBad := by unfold pieceAt; rw [he]; simp only; rw [hx]; simp only; rw [if_pos hg]
theorem pc_short {i : Nat} {n : Int} (he : Line.eol s a = some i) (hx : readHex (s.extract a i) = some n) (hg : ¬ room < n.toNat) (hs : s.size < i + 2 + n.toNat + 2) : pieceAt s a room = pcMore := by unfold pieceAt; rw [he]; simp only; rw [hx]; simp only; rw [if_neg hg, if_pos hs]
theorem pc_noend {i : Nat} {n : Int} (he : Line.eol s a = some i) (hx : readHex (s.extract a i) = some n) (hg : ¬ room < n.toNat) (hs : ¬ s.size < i + 2 + n.toNat + 2) (hb : ¬ (byteAt s (i + 2 + n.toNat) = 13 ∧ byteAt s (i + 2 + n.toNat + 1) = 10)) : pieceAt s a room = pcBad := by unfold pieceAt; rw [he]; simp only; rw [hx]; simp only; rw [if_neg hg, if_neg hs, if_neg hb]
theorem pc_ok {i : Nat} {n : Int} (he : Line.eol s a = some i) (hx : readHex (s.extract a i) = some n) (hg : ¬ room < n.toNat) (hs : ¬ s.size < i + 2 + n.toNat + 2) (hb : byteAt s (i + 2 + n.toNat) = 13 ∧ byteAt s (i + 2 + n.toNat + 1) = 10) : pieceAt s a room = (s.extract (i + 2) (i + 2 + n.toNat), (i - a) + n.toNat + 4, 0) := by unfold pieceAt; rw [he]; simp only; rw [hx]; simp only; rw [if_neg hg, if_neg hs, if_pos hb]
/-- what a piece at fault says of the whole -/
theorem pc_told {out : ByteArray} (h : UnAt s a out) (hr : room + out.size = 60) (hc : (pieceAt s a room).2.2 ≠ 0) : unchunk s = (⟨#[]⟩, 0, ((pieceAt s a room).2.2 : Int)) ∧ (pieceAt s a room).1 = ⟨#[]⟩ ∧ (pieceAt s a room).2.1 = 0 := by
  cases he : Line.eol s a with
  | none =>
    by_cases hl : 8 < s.size - a
    · rw [pc_long he hl, un_long h he hl]; exact ⟨rfl, rfl, rfl⟩
    · rw [pc_more he hl, un_more h he hl]; exact ⟨rfl, rfl, rfl⟩
  | some i =>
    cases hx : readHex (s.extract a i) with
    | none => rw [pc_nohex he hx, un_nohex h he hx]; exact ⟨rfl, rfl, rfl⟩
    | some n =>
      by_cases hg : room < n.toNat
      · rw [pc_great he hx hg, un_great h he hx (by omega)]; exact ⟨rfl, rfl, rfl⟩
      · by_cases hs : s.size < i + 2 + n.toNat + 2
        · rw [pc_short he hx hg hs, un_short h he hx (by omega) hs]; exact ⟨rfl, rfl, rfl⟩
        · by_cases hb : byteAt s (i + 2 + n.toNat) = 13 ∧ byteAt s (i + 2 + n.toNat + 1) = 10
          · rw [pc_ok he hx hg hs hb] at hc
            exact absurd rfl hc
          · rw [pc_noend he hx hg hs hb, un_noend h he hx (by omega) hs hb]; exact ⟨rfl, rfl, rfl⟩
/-- a right piece: where it stands then -/
theorem pc_right {out : ByteArray} (h : UnAt s a out) (hr : room + out.size = 60) (hc : (pieceAt s a room).2.2 = 0) :
    (pieceAt s a room).1.size ≤ room ∧ a + (pieceAt s a room).2.1 ≤ s.size ∧ 4 ≤ (pieceAt s a room).2.1 ∧
    ((pieceAt s a room).1.size = 0 → unchunk s = (out ++ (pieceAt s a room).1, ((a + (pieceAt s a room).2.1 : Nat) : Int), 0)) ∧
    ((pieceAt s a room).1.size ≠ 0 → UnAt s (a + (pieceAt s a room).2.1) (out ++ (pieceAt s a room).1)) := by
  cases he : Line.eol s a with
  | none =>
    by_cases hl : 8 < s.size - a
    · rw [pc_long he hl] at hc; cases hc
    · rw [pc_more he hl] at hc; cases hc
  | some i =>
    have hin := Line.eol_in he
    cases hx : readHex (s.extract a i) with
    | none => rw [pc_nohex he hx] at hc; cases hc
    | some n =>
      have hn := readHex_bd hx
      by_cases hg : room < n.toNat
      · rw [pc_great he hx hg] at hc; cases hc
      · by_cases hs : s.size < i + 2 + n.toNat + 2
        · rw [pc_short he hx hg hs] at hc; cases hc
        · by_cases hb : byteAt s (i + 2 + n.toNat) = 13 ∧ byteAt s (i + 2 + n.toNat + 1) = 10
          · rw [pc_ok he hx hg hs hb]
            simp only
            have hz : (s.extract (i + 2) (i + 2 + n.toNat)).size = n.toNat := by rw [ByteArray.size_extract]; omega
            have e1 : a + (i - a + n.toNat + 4) = i + 2 + n.toNat + 2 := by omega
            refine ⟨by omega, by omega, by omega, fun h0 => ?_, fun h0 => ?_⟩
            · obtain rfl : n = 0 := by omega
              rw [un_done h he hx (by omega) hs hb, e1]
            · rw [e1]
              exact un_next h he hx (by omega) hs hb (by omega)
          · rw [pc_noend he hx hg hs hb] at hc; cases hc
theorem pc_code : (pieceAt s a room).2.2 ≤ 2 := by
  unfold pieceAt
  repeat' split
  all_goals first | exact Nat.zero_le _ | (unfold pcBad; decide) | (unfold pcMore; decide)
end
/-- the rest of a text behind a line -/
theorem cut_rest {s : ByteArray} {a i : Nat} (h : Line.eol s a = some i) : (⟨(Lib.cut (s.extract a s.size).data.toList (⟨#[13, 10]⟩ : ByteArray).data.toList).2.1.toArray⟩ : ByteArray) = s.extract (i + 2) s.size := by
  have hin := Line.eol_in h
  obtain ⟨_, h2, _⟩ := Lib.cutB_hit (s.extract a s.size) ⟨#[13, 10]⟩ (i - a) (by rw [Line.index_eol, h]; show (i : Int) - (a : Int) = ((i - a : Nat) : Int); omega)
  rw [h2, ByteArray.extract_extract, ByteArray.size_extract]
  have : (⟨#[13, 10]⟩ : ByteArray).size = 2 := rfl
  congr 1 <;> omega
/-- two bytes ahead of a rest -/
theorem pre_two (s : ByteArray) (k : Nat) (h : k + 1 < s.size) : Lib.hasPrefix (s.extract k s.size).data.toList (⟨#[13, 10]⟩ : ByteArray).data.toList = decide (byteAt s k = 13 ∧ byteAt s (k + 1) = 10) := by
  have hl : s.data.toList.length = s.size := by rw [Array.length_toList]; rfl
  have e : (s.extract k s.size).data.toList = s.data.toList.drop k := by
    rw [ByteArray.data_extract, Array.toList_extract, List.extract_eq_drop_take', List.take_of_length_le (by omega)]
  have hx : ∀ (b : UInt8) (n : Nat), n < 256 → (UInt8.ofNat n == b) = decide (b.toNat = n) := by
    intro b n hn
    by_cases h : b.toNat = n
    · rw [decide_eq_true h]
      subst h
      simp
    · rw [decide_eq_false h]
      have : UInt8.ofNat n ≠ b := fun h2 => h (by rw [← h2]; simp; omega)
      exact beq_false_of_ne this
  rw [e, List.drop_eq_getElem_cons (by omega), List.drop_eq_getElem_cons (by omega), byteAt_eq s k (by omega), byteAt_eq s (k + 1) h]
  show ((13 : UInt8) == s[k] && ((10 : UInt8) == s[k + 1] && true)) = _
  rw [Bool.and_true, show (13 : UInt8) = UInt8.ofNat 13 from rfl, show (10 : UInt8) = UInt8.ofNat 10 from rfl, hx _ 13 (by decide), hx _ 10 (by decide)]
  by_cases h1 : s[k].toNat = 13 <;> by_cases h2 : s[k + 1].toNat = 10 <;> simp [h1, h2]
end Body
end Go.Proofs.YtkenmilglfnmbaaGreatDoor
