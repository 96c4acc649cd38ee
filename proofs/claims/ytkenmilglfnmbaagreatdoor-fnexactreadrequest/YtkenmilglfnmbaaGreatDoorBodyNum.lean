/-
  Numbers in sixteen digits, and bodies in pieces, plain.
-/
import Derived.Test.YtkenmilglfnmbaaGreatDoorHexNum
import Derived.Test.YtkenmilglfnmbaaGreatDoorByteAt
namespace Go.Proofs.YtkenmilglfnmbaaGreatDoor
set_option linter.unusedVariables false
namespace Body

/-- the digits of a number, none of 0 -/
def hexF : Nat → Nat → List UInt8
  | 0, _ => []
  | f + 1, u => if u = 0 then [] else hexF f (u / 16) ++ [Hex.hx (u % 16)]
theorem hexF_more : ∀ (f u : Nat), u < 16 ^ f → hexF (f + 1) u = hexF f u := by
  intro f
  induction f with
  | zero =>
    intro u h
    simp only [Nat.pow_zero] at h
    obtain rfl : u = 0 := by omega
    rfl
  | succ f ih =>
    intro u h
    rw [hexF]
    conv => rhs; rw [hexF]
    by_cases h0 : u = 0
    · rw [if_pos h0, if_pos h0]
    · rw [if_neg h0, if_neg h0, ih (u / 16) (by rw [Nat.pow_succ] at h; omega)]
def dh (u : Nat) : List UInt8 := hexF 16 u
theorem dh_zero : dh 0 = [] := rfl
theorem dh_step (u : Nat) (h0 : u ≠ 0) (h : u < 16 ^ 16) : dh u = dh (u / 16) ++ [Hex.hx (u % 16)] := by
  show hexF 16 u = hexF 16 (u / 16) ++ _
  rw [show hexF 16 u = hexF 15 (u / 16) ++ [Hex.hx (u % 16)] from if_neg h0, hexF_more 15 (u / 16) (by rw [Nat.pow_succ] at h; omega)]
theorem hexF_len : ∀ (f u : Nat), (hexF f u).length ≤ f := by
  intro f
  induction f with
  | zero => intro u; exact Nat.le_refl _
  | succ f ih =>
    intro u
    rw [hexF]
    split
    · exact Nat.zero_le _
    · rw [List.length_append, List.length_singleton]; have := ih (u / 16); omega
theorem dh_len (u : Nat) : (dh u).length ≤ 16 := hexF_len 16 u
/-- a number in sixteen digits -/
def hexL (n : Int) : List UInt8 := if n < 0 then [] else if n = 0 then [48] else dh n.toNat
def hexNum (n : Int) : ByteArray := ⟨(hexL n).toArray⟩
theorem hexNum_size (n : Int) : (hexNum n).size ≤ 16 := by
  show (hexL n).toArray.size ≤ 16
  rw [List.size_toArray]
  unfold hexL
  split
  · exact Nat.zero_le _
  · split
    · decide
    · exact dh_len _
/-- what a digit counts; -1 where it is none -/
def hv (c : Int) : Int := if 48 ≤ c ∧ c ≤ 57 then c - 48 else if 97 ≤ c ∧ c ≤ 102 then c - 97 + 10 else if 65 ≤ c ∧ c ≤ 70 then c - 65 + 10 else -1
def isHex (b : UInt8) : Bool := decide (0 ≤ hv (b.toNat : Int))
def hexVal (l : List UInt8) : Int := l.foldl (fun n b => n * 16 + hv (b.toNat : Int)) 0
theorem hexVal_snoc (l : List UInt8) (b : UInt8) : hexVal (l ++ [b]) = hexVal l * 16 + hv (b.toNat : Int) := by unfold hexVal; rw [List.foldl_append]; rfl
theorem hv_bd (c : Int) : -1 ≤ hv c ∧ hv c ≤ 15 := by unfold hv; split; omega; split; omega; split; omega; omega
theorem hexVal_bd (l : List UInt8) (h : l.all isHex = true) : 0 ≤ hexVal l ∧ hexVal l < 16 ^ l.length := by
  revert h
  refine Num.snoc_ind (P := fun l => l.all isHex = true → 0 ≤ hexVal l ∧ hexVal l < 16 ^ l.length) (fun _ => by decide) ?_ l
  intro l b ih h
  rw [List.all_append, Bool.and_eq_true] at h
  have h1 := ih h.1
  have h2 : 0 ≤ hv (b.toNat : Int) := by have := h.2; simp [isHex] at this; exact this
  have h3 := hv_bd (b.toNat : Int)
  rw [hexVal_snoc, List.length_append, List.length_singleton, Int.pow_succ]
  omega
theorem hexVal_six (l : List UInt8) (h : l.all isHex = true) (hl : l.length ≤ 6) : 0 ≤ hexVal l ∧ hexVal l ≤ 16777215 := by
  have h1 := hexVal_bd l h
  have hp : (16 : Int) ^ l.length ≤ 16777216 := by
    generalize l.length = n at hl
    match n, hl with
    | 0, _ => decide
    | 1, _ => decide
    | 2, _ => decide
    | 3, _ => decide
    | 4, _ => decide
    | 5, _ => decide
    | 6, _ => decide
  omega
/-- the number of one to six such digits -/
def readHex (s : ByteArray) : Option Int := if s.data.toList.all isHex = true ∧ 1 ≤ s.size ∧ s.size ≤ 6 then some (hexVal s.data.toList) else none
def rhN (s : ByteArray) : Int := (readHex s).getD 0
def rhB (s : ByteArray) : Bool := (readHex s).isSome
theorem hexVal_take (s : ByteArray) (k : Nat) (h : k < s.size) : hexVal (s.data.toList.take (k + 1)) = hexVal (s.data.toList.take k) * 16 + hv ((s[k]).toNat : Int) := by
  rw [Num.take_snoc s k h, hexVal_snoc]
theorem rh_none {s : ByteArray} (h : readHex s = none) : rhN s = 0 ∧ rhB s = false := by unfold rhN rhB; rw [h]; exact ⟨rfl, rfl⟩
theorem rh_bad (s : ByteArray) (k : Nat) (h : k < s.size) (hb : hv ((s[k]).toNat : Int) = -1) : readHex s = none := by
  unfold readHex
  rw [if_neg]
  rintro ⟨h1, _⟩
  rw [List.all_eq_true] at h1
  have := h1 s[k] (by rw [show s[k] = s.data.toList[k]'(by simpa using h) from rfl]; exact List.getElem_mem _)
  unfold isHex at this
  rw [hb] at this
  cases this
/-- pieces of at most so many bytes -/
def chF (z : Nat) : Nat → List UInt8 → List UInt8
  | 0, _ => []
  | f + 1, l => if l = [] then [] else hexL (min z l.length : Nat) ++ [13, 10] ++ l.take (min z l.length) ++ [13, 10] ++ chF z f (l.drop (min z l.length))
def chunkL (z : Nat) (l : List UInt8) : List UInt8 := chF z l.length l
theorem chF_nil (z f : Nat) : chF z f [] = [] := by cases f <;> simp [chF]
theorem chF_enough (z : Nat) (hz : 1 ≤ z) : ∀ (f g : Nat) (l : List UInt8), l.length ≤ f → l.length ≤ g → chF z f l = chF z g l := by
  intro f
  induction f with
  | zero =>
    intro g l h1 h2
    obtain rfl : l = [] := List.eq_nil_of_length_eq_zero (by omega)
    rw [chF_nil, chF_nil]
  | succ f ih =>
    intro g l h1 h2
    by_cases h0 : l = []
    · subst h0
      rw [chF_nil, chF_nil]
    · have hl : 0 < l.length := List.length_pos_iff.2 h0
      obtain ⟨g, rfl⟩ : ∃ g', g = g' + 1 := ⟨g - 1, by omega⟩
      rw [chF, if_neg h0, chF, if_neg h0, ih g _ (by rw [List.length_drop]; omega) (by rw [List.length_drop]; omega)]
theorem chunkL_step (z : Nat) (hz : 1 ≤ z) (l : List UInt8) (h : l ≠ []) : chunkL z l = hexL (min z l.length : Nat) ++ [13, 10] ++ l.take (min z l.length) ++ [13, 10] ++ chunkL z (l.drop (min z l.length)) := by
  have hl : 0 < l.length := List.length_pos_iff.2 h
  unfold chunkL
  obtain ⟨f, hf⟩ : ∃ f, l.length = f + 1 := ⟨l.length - 1, by omega⟩
  rw [show chF z l.length l = chF z (f + 1) l by rw [hf], chF, if_neg h]
  congr 1
  exact chF_enough z hz _ _ _ (by rw [List.length_drop]; omega) (Nat.le_refl _)
theorem chunkL_nil (z : Nat) : chunkL z [] = [] := rfl
theorem hexL_len (n : Int) : (hexL n).length ≤ 16 := by
  have := hexNum_size n
  have e : (hexNum n).size = (hexL n).length := by show (hexL n).toArray.size = _; rw [List.size_toArray]
  omega
theorem chF_len (z : Nat) (hz : 1 ≤ z) : ∀ (f : Nat) (l : List UInt8), (chF z f l).length ≤ 21 * l.length := by
  intro f
  induction f with
  | zero => intro l; exact Nat.zero_le _
  | succ f ih =>
    intro l
    rw [chF]
    split
    · exact Nat.zero_le _
    · next h =>
      have hl : 0 < l.length := List.length_pos_iff.2 h
      have h1 := hexL_len (min z l.length : Nat)
      have h2 := ih (l.drop (min z l.length))
      rw [List.length_drop] at h2
      simp only [List.length_append, List.length_take, List.length_cons, List.length_nil]
      omega
theorem chunkL_len (z : Nat) (hz : 1 ≤ z) (l : List UInt8) : (chunkL z l).length ≤ 21 * l.length := chF_len z hz _ l
/-- a text in pieces, and the end -/
def chunk (s : ByteArray) (z : Int) : ByteArray := if z < 1 then ⟨#[]⟩ else ⟨(chunkL z.toNat s.data.toList ++ [48, 13, 10, 13, 10]).toArray⟩
end Body
end Go.Proofs.YtkenmilglfnmbaaGreatDoor
