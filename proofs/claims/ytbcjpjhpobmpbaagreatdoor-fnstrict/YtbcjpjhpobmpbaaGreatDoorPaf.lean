/-
  FldKeep: Plain facts on fields: what is set is there once, what is dropped is not, the rest stays.
  FldBack: Plain facts on fields: what is shown is read again.
  HexNum: The digits, and the text of two digits for each byte.
  BodyNum: Numbers in sixteen digits, and bodies in pieces, plain.
  UnchunkNum: Bodies in pieces, read, plain.
  BodyDef: Where a body ends, plain.
-/
import Derived.Test.YtbcjpjhpobmpbaaGreatDoorPae
import Derived.Test.YtbcjpjhpobmpbaaGreatDoorPaa
import Derived.Test.YtbcjpjhpobmpbaaGreatDoorNum
import Derived.Lib.Strings
import Derived.Test.YtbcjpjhpobmpbaaGreatDoorPad
import Derived.Test.YtbcjpjhpobmpbaaGreatDoorLowerNum
namespace Go.Proofs.YtbcjpjhpobmpbaaGreatDoor
open Go.RowKit
set_option linter.unusedVariables false
namespace Flds

theorem get_snoc (l : List Fld) (f : Fld) (name : ByteArray) : get (l ++ [f]) name = getStep name (get l name) f := by unfold get; rw [List.foldl_append]; rfl
theorem drop_snoc (l : List Fld) (f : Fld) (name : ByteArray) : drop (l ++ [f]) name = drop l name ++ (if f.1 = name then [] else [f]) := by
  unfold drop
  rw [List.filter_append]
  by_cases e : f.1 = name
  · rw [if_pos e]; simp [e]
  · rw [if_neg e]; simp [e]
theorem setGo_snoc (l : List Fld) (f : Fld) (name value : ByteArray) : setGo (l ++ [f]) name value = setStep name value (setGo l name value) f := by unfold setGo; rw [List.foldl_append]; rfl
theorem get_none (l : List Fld) (name : ByteArray) (h : ∀ f ∈ l, ¬ f.1 = name) : get l name = (⟨#[]⟩, false) := by
  revert h
  refine Num.snoc_ind (P := fun l => (∀ f ∈ l, ¬ f.1 = name) → get l name = (⟨#[]⟩, false)) (fun _ => rfl) ?_ l
  intro l f ih h
  rw [get_snoc, ih (fun g hg => h g (List.mem_append_left _ hg))]
  unfold getStep
  rw [if_neg (h f (by simp))]
theorem get_drop (l : List Fld) (name : ByteArray) : get (drop l name) name = (⟨#[]⟩, false) := by
  apply get_none
  intro f hf
  unfold drop at hf
  have := (List.mem_filter.1 hf).2
  simpa using this
theorem get_drop_other (l : List Fld) (name other : ByteArray) (h : ¬ other = name) : get (drop l name) other = get l other := by
  refine Num.snoc_ind (P := fun l => get (drop l name) other = get l other) rfl ?_ l
  intro l f ih
  rw [drop_snoc, get_snoc]
  by_cases e : f.1 = name
  · rw [if_pos e, List.append_nil, ih]
    unfold getStep
    rw [if_neg (by rw [e]; exact fun h2 => h h2.symm)]
  · rw [if_neg e, get_snoc, ih]
theorem get_is (l : List Fld) (i : Nat) (h : i < l.length) : (get l l[i].1).2 = true := by
  have key : ∀ (l : List Fld) (name : ByteArray), (∃ f ∈ l, f.1 = name) → (get l name).2 = true := by
    intro l name
    refine Num.snoc_ind (P := fun l => (∃ f ∈ l, f.1 = name) → (get l name).2 = true) (fun ⟨f, hf, _⟩ => by cases hf) ?_ l
    intro l f ih hx
    rw [get_snoc]
    unfold getStep
    by_cases e : f.1 = name
    · rw [if_pos e]
    · rw [if_neg e]
      obtain ⟨g, hg, he⟩ := hx
      rcases List.mem_append.1 hg with h1 | h1
      · exact ih ⟨g, h1, he⟩
      · exact absurd he (by rw [List.mem_singleton.1 h1]; exact e)
  exact key l l[i].1 ⟨l[i], List.getElem_mem h, rfl⟩
/-- what has been gone through of a list, and what is set of it -/
theorem empty_app (v : ByteArray) : (⟨#[]⟩ : ByteArray) ++ v = v := by apply ByteArray.ext; simp
theorem setGo_spec (l : List Fld) (name value : ByteArray) :
    ((setGo l name value).2 = false → (setGo l name value).1 = drop l name) ∧
    ((setGo l name value).2 = true → drop (setGo l name value).1 name = drop l name ∧ get (setGo l name value).1 name = (value, true) ∧ (setGo l name value).1.length = (drop l name).length + 1) := by
  refine Num.snoc_ind (P := fun l => ((setGo l name value).2 = false → (setGo l name value).1 = drop l name) ∧
    ((setGo l name value).2 = true → drop (setGo l name value).1 name = drop l name ∧ get (setGo l name value).1 name = (value, true) ∧ (setGo l name value).1.length = (drop l name).length + 1)) ⟨fun _ => rfl, fun h => by cases h⟩ ?_ l
  intro l f ih
  rw [setGo_snoc, drop_snoc]
  generalize setGo l name value = r at ih
  obtain ⟨m, b⟩ := r
  simp only at ih
  unfold setStep
  by_cases e : f.1 = name
  · rw [if_pos e, if_pos e, List.append_nil]
    cases b with
    | true =>
      rw [if_pos rfl]
      exact ih
    | false =>
      rw [if_neg (by simp)]
      obtain ⟨h1, _⟩ := ih
      have h1 := h1 rfl
      subst h1
      refine ⟨(fun h => by cases h), fun _ => ⟨?_, ?_, ?_⟩⟩
      · rw [drop_snoc, if_pos rfl, List.append_nil]
        unfold drop
        rw [List.filter_filter]; simp
      · rw [get_snoc, get_drop]
        unfold getStep
        rw [if_pos rfl, if_neg (by simp), empty_app]
      · simp
  · rw [if_neg e, if_neg e]
    refine ⟨fun h => ?_, fun h => ?_⟩
    · simp only at h ⊢
      rw [ih.1 h]
    · simp only at h ⊢
      obtain ⟨h1, h2, h3⟩ := ih.2 h
      refine ⟨?_, ?_, ?_⟩
      · rw [drop_snoc, if_neg e, h1]
      · rw [get_snoc, h2]
        unfold getStep
        rw [if_neg e]
      · rw [List.length_append, List.length_append, h3]; simp
theorem set_spec_all (l : List Fld) (name value : ByteArray) : drop (set l name value) name = drop l name ∧ get (set l name value) name = (value, true) ∧ (set l name value).length = (drop l name).length + 1 := by
  have h := setGo_spec l name value
  unfold set
  cases hb : (setGo l name value).2 with
  | true => rw [if_pos rfl]; exact h.2 hb
  | false =>
    rw [if_neg (by simp), h.1 hb]
    refine ⟨?_, ?_, ?_⟩
    · rw [drop_snoc, if_pos rfl, List.append_nil]
      unfold drop
      rw [List.filter_filter]; simp
    · rw [get_snoc, get_drop]
      unfold getStep
      rw [if_pos rfl, if_neg (by simp), empty_app]
    · simp
end Flds
end Go.Proofs.YtbcjpjhpobmpbaaGreatDoor
namespace Go.Proofs.YtbcjpjhpobmpbaaGreatDoor
open Go.RowKit
set_option linter.unusedVariables false
namespace Flds

/-- a line, as bytes -/
def enc (f : Fld) : List UInt8 := f.1.data.toList ++ [58, 32] ++ f.2.data.toList ++ [13, 10]
theorem tok_no {x : ByteArray} (h : Sign.isTok x = true) : ∀ b ∈ x.data.toList, ¬ b = 58 ∧ ¬ b = 13 := by
  intro b hb
  unfold Sign.isTok at h
  rw [Bool.and_eq_true, List.all_eq_true] at h
  have h1 := of_decide_eq_true (h.2 b hb)
  unfold Sign.tok at h1
  constructor
  · rintro rfl; revert h1; decide
  · rintro rfl; revert h1; decide
theorem val_no {y : ByteArray} (h : Sign.isVal y = true) : (∀ b ∈ y.data.toList, ¬ b = 13) ∧ Sign.trim y = y := by
  unfold Sign.isVal at h
  rw [Bool.and_eq_true, List.all_eq_true] at h
  refine ⟨?_, ?_⟩
  · intro b hb
    have h1 := of_decide_eq_true (h.1 b hb)
    unfold Sign.val at h1
    rintro rfl; revert h1; decide
  · have h2 := h.2
    rw [beq_iff_eq, ByteArray.toList_eq, ByteArray.toList_eq] at h2
    exact ByteArray.ext (Array.toList_inj.1 h2)
theorem field_line (f : Fld) (h : okF f = true) : fieldOf ⟨(f.1.data.toList ++ 58 :: 32 :: f.2.data.toList).toArray⟩ f.1.size = f := by
  obtain ⟨x, y⟩ := f
  unfold okF at h
  simp only [Bool.and_eq_true, decide_eq_true_iff] at h
  obtain ⟨⟨⟨⟨h1, h2⟩, h3⟩, h4⟩, h5⟩ := h
  have ex : x.data.toList.length = x.size := by rw [Array.length_toList]; rfl
  unfold fieldOf
  have e1 : (⟨(x.data.toList ++ 58 :: 32 :: y.data.toList).toArray⟩ : ByteArray).extract 0 x.size = x := by
    apply ByteArray.ext
    apply Array.toList_inj.1
    rw [ByteArray.data_extract, Array.toList_extract, List.extract_eq_drop_take', List.drop_zero, List.toList_toArray]
    rw [← ex, List.take_left]
  have e2 : Sign.trim ((⟨(x.data.toList ++ 58 :: 32 :: y.data.toList).toArray⟩ : ByteArray).extract (x.size + 1) (ByteArray.size ⟨(x.data.toList ++ 58 :: 32 :: y.data.toList).toArray⟩)) = Sign.trim y := by
    unfold Sign.trim
    have e3 : ((⟨(x.data.toList ++ 58 :: 32 :: y.data.toList).toArray⟩ : ByteArray).extract (x.size + 1) (ByteArray.size ⟨(x.data.toList ++ 58 :: 32 :: y.data.toList).toArray⟩)).data.toList = 32 :: y.data.toList := by
      rw [Line.extract_list, List.toList_toArray, ← ex]
      rw [List.drop_append]
      simp
    rw [e3, List.dropWhile_cons_of_pos (by decide)]
  show (Sign.lower _, Sign.trim _) = (x, y)
  rw [e1, e2, (val_no h4).2, ← h2]
theorem read_line (T : ByteArray) (p q : List UInt8) (f : Fld) (hT : T.data.toList = p ++ (enc f ++ q)) (h : okF f = true) (n : Nat) (l : List Fld) :
    readGo T (n + 1) p.length l = readGo T n (p ++ enc f).length (l ++ [f]) := by
  have h0 := h
  unfold okF at h0
  simp only [Bool.and_eq_true, decide_eq_true_iff] at h0
  obtain ⟨⟨⟨⟨h1, h2⟩, h3⟩, h4⟩, h5⟩ := h0
  have hT2 : T.data.toList = p ++ ((f.1.data.toList ++ 58 :: 32 :: f.2.data.toList) ++ 13 :: 10 :: q) := by rw [hT]; unfold enc; simp
  obtain ⟨he, hx⟩ := Line.eol_line T p _ q hT2 (by
    intro b hb
    rcases List.mem_append.1 hb with h6 | h6
    · exact (tok_no h1 b h6).2
    · rcases List.mem_cons.1 h6 with rfl | h7
      · decide
      · rcases List.mem_cons.1 h7 with rfl | h8
        · decide
        · exact (val_no h4).1 b h8)
  rw [readGo, he]
  simp only
  rw [if_neg (by simp), hx, Line.colon_line f.1 _ (fun b hb => (tok_no h1 b hb).1)]
  simp only
  rw [field_line f h, if_pos h]
  congr 1
  unfold enc
  simp only [List.length_append, List.length_cons, List.length_nil]
  omega
theorem read_many (T : ByteArray) (q : List UInt8) : ∀ (fs : List Fld) (p : List UInt8) (n : Nat) (l : List Fld), T.data.toList = p ++ (fs.flatMap enc ++ 13 :: 10 :: q) → fs.all okF = true → fs.length ≤ n →
    readGo T (n + 1) p.length l = some (l ++ fs, (p ++ fs.flatMap enc).length + 2) := by
  intro fs
  induction fs with
  | nil =>
    intro p n l hT _ _
    obtain ⟨he, _⟩ := Line.eol_line T p [] q (by simpa using hT) (fun b hb => by cases hb)
    rw [readGo, he]
    simp
  | cons f fs ih =>
    intro p n l hT ha hn
    rw [List.all_cons, Bool.and_eq_true] at ha
    rw [List.length_cons] at hn
    obtain ⟨m, rfl⟩ : ∃ m, n = m + 1 := ⟨n - 1, by omega⟩
    rw [List.flatMap_cons, List.append_assoc] at hT
    rw [read_line T p _ f hT ha.1]
    rw [ih (p ++ enc f) m (l ++ [f]) (by rw [hT]; simp) ha.2 (by omega)]
    simp
theorem showGo_list (l : List Fld) : (showGo l).data.toList = l.flatMap enc := by
  refine Num.snoc_ind (P := fun l => (showGo l).data.toList = l.flatMap enc) rfl ?_ l
  intro l f ih
  have e : showGo (l ++ [f]) = showStep (showGo l) f := by unfold showGo; rw [List.foldl_append]; rfl
  rw [e, List.flatMap_append, ← ih]
  unfold showStep enc
  simp
theorem read_shown (l : List Fld) (more : ByteArray) (h : ok l = true) : read (shown l ++ more) = some (l, (shown l).size) := by
  have hs : shown l = showGo l ++ ⟨#[13, 10]⟩ := by unfold shown; rw [if_pos h]
  unfold ok at h
  rw [Bool.and_eq_true, decide_eq_true_iff] at h
  have hT : (shown l ++ more).data.toList = [] ++ (l.flatMap enc ++ 13 :: 10 :: more.data.toList) := by
    rw [hs, ← showGo_list]; simp
  have := read_many (shown l ++ more) more.data.toList l [] 12 [] hT h.1 h.2
  unfold read
  rw [List.length_nil] at this
  rw [this]
  congr 2
  rw [hs, ByteArray.size_append, ← showGo_list]
  simp only [List.nil_append, Array.length_toList]
  rfl
theorem shown_empty (l : List Fld) : (shown l).toList.isEmpty = !(ok l) := by
  unfold shown
  cases h : ok l with
  | false => rw [if_neg (by simp), ByteArray.toList_eq]; rfl
  | true =>
    rw [if_pos rfl]
    refine (Sign.empty_false _ ?_).trans rfl
    rw [ByteArray.size_append]
    have : (⟨#[13, 10]⟩ : ByteArray).size = 2 := rfl
    omega
end Flds
end Go.Proofs.YtbcjpjhpobmpbaaGreatDoor
namespace Go.Proofs.YtbcjpjhpobmpbaaGreatDoor
open Go.RowKit
set_option linter.unusedVariables false
namespace Hex

/-- the sixteen digits -/
def digits : ByteArray := ⟨#[48, 49, 50, 51, 52, 53, 54, 55, 56, 57, 97, 98, 99, 100, 101, 102]⟩
def hx (k : Nat) : UInt8 := digits.data.toList.getD k 0
theorem digit_at (k : Nat) (h : k < 16) : (⟨#[48, 49, 50, 51, 52, 53, 54, 55, 56, 57, 97, 98, 99, 100, 101, 102]⟩ : ByteArray)[k]'h = hx k := by
  have hs : k < digits.data.toList.length := h
  simp only [hx, List.getD_eq_getElem?_getD, List.getElem?_eq_getElem hs, Option.getD_some, Array.getElem_toList]
  rfl
/-- two digits for each byte -/
def hex : List UInt8 → List UInt8
  | [] => []
  | c :: l => hx (c.toNat / 16) :: hx (c.toNat % 16) :: hex l
theorem hex_append (a b : List UInt8) : hex (a ++ b) = hex a ++ hex b := by
  induction a with
  | nil => rfl
  | cons c a ih => simp [hex, ih]
theorem length_hex (l : List UInt8) : (hex l).length = 2 * l.length := by
  induction l with
  | nil => rfl
  | cons c l ih => simp [hex, ih]; omega
theorem hex_take (s : ByteArray) (k : Nat) (h : k < s.size) : hex (s.data.toList.take (k + 1)) = hex (s.data.toList.take k) ++ [hx (s[k].toNat / 16), hx (s[k].toNat % 16)] := by
  rw [Num.take_snoc s k h, hex_append]; rfl
theorem length_hex_take (s : ByteArray) (k : Nat) (h : k ≤ s.size) : (hex (s.data.toList.take k)).length = 2 * k := by
  rw [length_hex, List.length_take, Array.length_toList]; have : s.data.size = s.size := rfl; omega
end Hex
end Go.Proofs.YtbcjpjhpobmpbaaGreatDoor
namespace Go.Proofs.YtbcjpjhpobmpbaaGreatDoor
set_option linter.unusedVariables false
namespace Body

/-- the digits of a number, none of 0 -/
def hexF : Nat → Nat → List UInt8
  | 0, _ => []
  | f + 1, u => if u = 0 then [] else hexF f (u / 16) ++ [Hex.hx (u % 16)]
theorem hexF_more : ∀ (f u : Nat), u < 16 ^ f → hexF (f + 1) u = hexF f u := by
  intro f
  induction f with
  | zero =>
    intro u h
    simp only [Nat.pow_zero] at h
    obtain rfl : u = 0 := by omega
    rfl
  | succ f ih =>
    intro u h
    rw [hexF]
    conv => rhs; rw [hexF]
    by_cases h0 : u = 0
    · rw [if_pos h0, if_pos h0]
    · rw [if_neg h0, if_neg h0, ih (u / 16) (by rw [Nat.pow_succ] at h; omega)]
def dh (u : Nat) : List UInt8 := hexF 16 u
theorem dh_zero : dh 0 = [] := rfl
theorem dh_step (u : Nat) (h0 : u ≠ 0) (h : u < 16 ^ 16) : dh u = dh (u / 16) ++ [Hex.hx (u % 16)] := by
  show hexF 16 u = hexF 16 (u / 16) ++ _
  rw [show hexF 16 u = hexF 15 (u / 16) ++ [Hex.hx (u % 16)] from if_neg h0, hexF_more 15 (u / 16) (by rw [Nat.pow_succ] at h; omega)]
theorem hexF_len : ∀ (f u : Nat), (hexF f u).length ≤ f := by
  intro f
  induction f with
  | zero => intro u; exact Nat.le_refl _
  | succ f ih =>
    intro u
    rw [hexF]
    split
    · exact Nat.zero_le _
    · rw [List.length_append, List.length_singleton]; have := ih (u / 16); omega
theorem dh_len (u : Nat) : (dh u).length ≤ 16 := hexF_len 16 u
/-- a number in sixteen digits -/
def hexL (n : Int) : List UInt8 := if n < 0 then [] else if n = 0 then [48] else dh n.toNat
def hexNum (n : Int) : ByteArray := ⟨(hexL n).toArray⟩
theorem hexNum_size (n : Int) : (hexNum n).size ≤ 16 := by
  show (hexL n).toArray.size ≤ 16
  rw [List.size_toArray]
  unfold hexL
  split
  · exact Nat.zero_le _
  · split
    · decide
    · exact dh_len _
/-- what a digit counts; -1 where it is none -/
def hv (c : Int) : Int := if 48 ≤ c ∧ c ≤ 57 then c - 48 else if 97 ≤ c ∧ c ≤ 102 then c - 97 + 10 else if 65 ≤ c ∧ c ≤ 70 then c - 65 + 10 else -1
def isHex (b : UInt8) : Bool := decide (0 ≤ hv (b.toNat : Int))
def hexVal (l : List UInt8) : Int := l.foldl (fun n b => n * 16 + hv (b.toNat : Int)) 0
theorem hexVal_snoc (l : List UInt8) (b : UInt8) : hexVal (l ++ [b]) = hexVal l * 16 + hv (b.toNat : Int) := by unfold hexVal; rw [List.foldl_append]; rfl
theorem hv_bd (c : Int) : -1 ≤ hv c ∧ hv c ≤ 15 := by unfold hv; split; omega; split; omega; split; omega; omega
theorem hexVal_bd (l : List UInt8) (h : l.all isHex = true) : 0 ≤ hexVal l ∧ hexVal l < 16 ^ l.length := by
  revert h
  refine Num.snoc_ind (P := fun l => l.all isHex = true → 0 ≤ hexVal l ∧ hexVal l < 16 ^ l.length) (fun _ => by decide) ?_ l
  intro l b ih h
  rw [List.all_append, Bool.and_eq_true] at h
  have h1 := ih h.1
  have h2 : 0 ≤ hv (b.toNat : Int) := by have := h.2; simp [isHex] at this; exact this
  have h3 := hv_bd (b.toNat : Int)
  rw [hexVal_snoc, List.length_append, List.length_singleton, Int.pow_succ]
  omega
theorem hexVal_six (l : List UInt8) (h : l.all isHex = true) (hl : l.length ≤ 6) : 0 ≤ hexVal l ∧ hexVal l ≤ 16777215 := by
  have h1 := hexVal_bd l h
  have hp : (16 : Int) ^ l.length ≤ 16777216 := by
    generalize l.length = n at hl
    match n, hl with
    | 0, _ => decide
    | 1, _ => decide
    | 2, _ => decide
    | 3, _ => decide
    | 4, _ => decide
    | 5, _ => decide
    | 6, _ => decide
  omega
/-- the number of one to six such digits -/
def readHex (s : ByteArray) : Option Int := if s.data.toList.all isHex = true ∧ 1 ≤ s.size ∧ s.size ≤ 6 then some (hexVal s.data.toList) else none
def rhN (s : ByteArray) : Int := (readHex s).getD 0
def rhB (s : ByteArray) : Bool := (readHex s).isSome
theorem hexVal_take (s : ByteArray) (k : Nat) (h : k < s.size) : hexVal (s.data.toList.take (k + 1)) = hexVal (s.data.toList.take k) * 16 + hv ((s[k]).toNat : Int) := by
  rw [Num.take_snoc s k h, hexVal_snoc]
theorem rh_none {s : ByteArray} (h : readHex s = none) : rhN s = 0 ∧ rhB s = false := by unfold rhN rhB; rw [h]; exact ⟨rfl, rfl⟩
theorem rh_bad (s : ByteArray) (k : Nat) (h : k < s.size) (hb : hv ((s[k]).toNat : Int) = -1) : readHex s = none := by
  unfold readHex
  rw [if_neg]
  rintro ⟨h1, _⟩
  rw [List.all_eq_true] at h1
  have := h1 s[k] (by rw [show s[k] = s.data.toList[k]'(by simpa using h) from rfl]; exact List.getElem_mem _)
  unfold isHex at this
  rw [hb] at this
  cases this
/-- pieces of at most so many bytes -/
def chF (z : Nat) : Nat → List UInt8 → List UInt8
  | 0, _ => []
  | f + 1, l => if l = [] then [] else hexL (min z l.length : Nat) ++ [13, 10] ++ l.take (min z l.length) ++ [13, 10] ++ chF z f (l.drop (min z l.length))
def chunkL (z : Nat) (l : List UInt8) : List UInt8 := chF z l.length l
theorem chF_nil (z f : Nat) : chF z f [] = [] := by cases f <;> simp [chF]
theorem chF_enough (z : Nat) (hz : 1 ≤ z) : ∀ (f g : Nat) (l : List UInt8), l.length ≤ f → l.length ≤ g → chF z f l = chF z g l := by
  intro f
  induction f with
  | zero =>
    intro g l h1 h2
    obtain rfl : l = [] := List.eq_nil_of_length_eq_zero (by omega)
    rw [chF_nil, chF_nil]
  | succ f ih =>
    intro g l h1 h2
    by_cases h0 : l = []
    · subst h0
      rw [chF_nil, chF_nil]
    · have hl : 0 < l.length := List.length_pos_iff.2 h0
      obtain ⟨g, rfl⟩ : ∃ g', g = g' + 1 := ⟨g - 1, by omega⟩
      rw [chF, if_neg h0, chF, if_neg h0, ih g _ (by rw [List.length_drop]; omega) (by rw [List.length_drop]; omega)]
theorem chunkL_step (z : Nat) (hz : 1 ≤ z) (l : List UInt8) (h : l ≠ []) : chunkL z l = hexL (min z l.length : Nat) ++ [13, 10] ++ l.take (min z l.length) ++ [13, 10] ++ chunkL z (l.drop (min z l.length)) := by
  have hl : 0 < l.length := List.length_pos_iff.2 h
  unfold chunkL
  obtain ⟨f, hf⟩ : ∃ f, l.length = f + 1 := ⟨l.length - 1, by omega⟩
  rw [show chF z l.length l = chF z (f + 1) l by rw [hf], chF, if_neg h]
  congr 1
  exact chF_enough z hz _ _ _ (by rw [List.length_drop]; omega) (Nat.le_refl _)
theorem chunkL_nil (z : Nat) : chunkL z [] = [] := rfl
theorem hexL_len (n : Int) : (hexL n).length ≤ 16 := by
  have := hexNum_size n
  have e : (hexNum n).size = (hexL n).length := by show (hexL n).toArray.size = _; rw [List.size_toArray]
  omega
theorem chF_len (z : Nat) (hz : 1 ≤ z) : ∀ (f : Nat) (l : List UInt8), (chF z f l).length ≤ 21 * l.length := by
  intro f
  induction f with
  | zero => intro l; exact Nat.zero_le _
  | succ f ih =>
    intro l
    rw [chF]
    split
    · exact Nat.zero_le _
    · next h =>
      have hl : 0 < l.length := List.length_pos_iff.2 h
      have h1 := hexL_len (min z l.length : Nat)
      have h2 := ih (l.drop (min z l.length))
      rw [List.length_drop] at h2
      simp only [List.length_append, List.length_take, List.length_cons, List.length_nil]
      omega
theorem chunkL_len (z : Nat) (hz : 1 ≤ z) (l : List UInt8) : (chunkL z l).length ≤ 21 * l.length := chF_len z hz _ l
/-- a text in pieces, and the end -/
def chunk (s : ByteArray) (z : Int) : ByteArray := if z < 1 then ⟨#[]⟩ else ⟨(chunkL z.toNat s.data.toList ++ [48, 13, 10, 13, 10]).toArray⟩
end Body
end Go.Proofs.YtbcjpjhpobmpbaaGreatDoor
namespace Go.Proofs.YtbcjpjhpobmpbaaGreatDoor
open Go.RowKit
set_option linter.unusedVariables false
namespace Body
open Line (byteAt byteAt_eq)

/-- what is told: the text, how many bytes, and the code -/
abbrev Told := ByteArray × Int × Int
def bad : Told := (⟨#[]⟩, 0, 2)
def more : Told := (⟨#[]⟩, 0, 1)
/-- what is read from 'a' on behind 'out', in at most so many pieces -/
def unF (s : ByteArray) : Nat → Nat → ByteArray → Told
  | 0, _, _ => bad
  | f + 1, a, out =>
    match Line.eol s a with
    | none => if 8 < s.size - a then bad else more
    | some i =>
      match readHex (s.extract a i) with
      | none => bad
      | some n =>
        if 60 < out.size + n.toNat then bad
        else if s.size < i + 2 + n.toNat + 2 then more
        else if byteAt s (i + 2 + n.toNat) = 13 ∧ byteAt s (i + 2 + n.toNat + 1) = 10 then
          if n = 0 then (out ++ s.extract (i + 2) (i + 2 + n.toNat), ((i + 2 + n.toNat + 2 : Nat) : Int), 0)
          else unF s f (i + 2 + n.toNat + 2) (out ++ s.extract (i + 2) (i + 2 + n.toNat))
        else bad
def unchunk (s : ByteArray) : Told := unF s (s.size + 1) 0 ⟨#[]⟩
/-- where the reading stands -/
structure UnAt (s : ByteArray) (a : Nat) (out : ByteArray) : Prop where
  le : a ≤ s.size
  small : out.size ≤ 60
  same : ∃ f, s.size + 1 ≤ f + a ∧ unchunk s = unF s f a out
theorem un_start (s : ByteArray) : UnAt s 0 ⟨#[]⟩ := ⟨Nat.zero_le _, by decide, s.size + 1, by omega, rfl⟩
section
variable {s : ByteArray} {a : Nat} {out : ByteArray}
theorem un_step (h : UnAt s a out) : ∃ f, s.size ≤ f + a ∧ unchunk s = unF s (f + 1) a out := by
  obtain ⟨f, h1, h2⟩ := h.same
  have := h.le
  exact ⟨f - 1, by omega, by rw [show f - 1 + 1 = f by omega]; exact h2⟩
theorem un_long (h : UnAt s a out) (he : Line.eol s a = none) (hl : 8 < s.size - a) : unchunk s = bad := by
  obtain ⟨f, _, h2⟩ := un_step h
  rw [h2, unF, he]; simp only; rw [if_pos hl]
theorem un_more (h : UnAt s a out) (he : Line.eol s a = none) (hl : ¬ 8 < s.size - a) : unchunk s = more := by
  obtain ⟨f, _, h2⟩ := un_step h
  rw [h2, unF, he]; simp only; rw [if_neg hl]
theorem un_nohex (h : UnAt s a out) {i : Nat} (he : Line.eol s a = some i) (hx : readHex (s.extract a i) = none) : unchunk s = bad := by
  obtain ⟨f, _, h2⟩ := un_step h
  rw [h2, unF, he]; simp only; rw [hx]
theorem un_great (h : UnAt s a out) {i : Nat} {n : Int} (he : Line.eol s a = some i) (hx : readHex (s.extract a i) = some n) (hg : 60 < out.size + n.toNat) : unchunk s = bad := by
  obtain ⟨f, _, h2⟩ := un_step h
  rw [h2, unF, he]; simp only; rw [hx]; simp only; rw [if_pos hg]
theorem un_short (h : UnAt s a out) {i : Nat} {n : Int} (he : Line.eol s a = some i) (hx : readHex (s.extract a i) = some n) (hg : ¬ 60 < out.size + n.toNat) (hs : s.size < i + 2 + n.toNat + 2) : unchunk s = more := by
  obtain ⟨f, _, h2⟩ := un_step h
  rw [h2, unF, he]; simp only; rw [hx]; simp only; rw [if_neg hg, if_pos hs]
theorem un_noend (h : UnAt s a out) {i : Nat} {n : Int} (he : Line.eol s a = some i) (hx : readHex (s.extract a i) = some n) (hg : ¬ 60 < out.size + n.toNat) (hs : ¬ s.size < i + 2 + n.toNat + 2) (hb : ¬ (byteAt s (i + 2 + n.toNat) = 13 ∧ byteAt s (i + 2 + n.toNat + 1) = 10)) : unchunk s = bad := by
  obtain ⟨f, _, h2⟩ := un_step h
  rw [h2, unF, he]; simp only; rw [hx]; simp only; rw [if_neg hg, if_neg hs, if_neg hb]
theorem un_done (h : UnAt s a out) {i : Nat} (he : Line.eol s a = some i) (hx : readHex (s.extract a i) = some 0) (hg : ¬ 60 < out.size + (0 : Int).toNat) (hs : ¬ s.size < i + 2 + (0 : Int).toNat + 2) (hb : byteAt s (i + 2 + (0 : Int).toNat) = 13 ∧ byteAt s (i + 2 + (0 : Int).toNat + 1) = 10) :
    unchunk s = (out ++ s.extract (i + 2) (i + 2 + (0 : Int).toNat), ((i + 2 + (0 : Int).toNat + 2 : Nat) : Int), 0) := by
  obtain ⟨f, _, h2⟩ := un_step h
  rw [h2, unF, he]; simp only; rw [hx]; simp only; rw [if_neg hg, if_neg hs, if_pos hb, if_pos trivial]
theorem un_next (h : UnAt s a out) {i : Nat} {n : Int} (he : Line.eol s a = some i) (hx : readHex (s.extract a i) = some n) (hg : ¬ 60 < out.size + n.toNat) (hs : ¬ s.size < i + 2 + n.toNat + 2) (hb : byteAt s (i + 2 + n.toNat) = 13 ∧ byteAt s (i + 2 + n.toNat + 1) = 10) (h0 : ¬ n = 0) :
    UnAt s (i + 2 + n.toNat + 2) (out ++ s.extract (i + 2) (i + 2 + n.toNat)) := by
  have hin := Line.eol_in he
  obtain ⟨f, h1, h2⟩ := un_step h
  refine ⟨by omega, by rw [ByteArray.size_append, ByteArray.size_extract]; omega, f, by omega, ?_⟩
  rw [h2, unF, he]; simp only; rw [hx]; simp only; rw [if_neg hg, if_neg hs, if_pos hb, if_neg h0]
theorem readHex_bd {t : ByteArray} {n : Int} (h : readHex t = some n) : 0 ≤ n ∧ n ≤ 16777215 := by
  unfold readHex at h
  split at h
  · next hc => cases h; exact hexVal_six _ hc.1 (by rw [Array.length_toList]; exact hc.2.2)
  · cases h
theorem rh_some {t : ByteArray} {n : Int} (h : readHex t = some n) : rhN t = n ∧ rhB t = true := by unfold rhN rhB; rw [h]; exact ⟨rfl, rfl⟩
end
end Body
end Go.Proofs.YtbcjpjhpobmpbaaGreatDoor
namespace Go.Proofs.YtbcjpjhpobmpbaaGreatDoor
open Go.RowKit
set_option linter.unusedVariables false
namespace Body

def teName : ByteArray := ⟨#[116, 114, 97, 110, 115, 102, 101, 114, 45, 101, 110, 99, 111, 100, 105, 110, 103]⟩
def clName : ByteArray := ⟨#[99, 111, 110, 116, 101, 110, 116, 45, 108, 101, 110, 103, 116, 104]⟩
def chName : ByteArray := ⟨#[99, 104, 117, 110, 107, 101, 100]⟩
/-- where a body ends, by what is said of it: te, cl: whether a field is there, and its value -/
def bodyBy (te cl : ByteArray × Bool) (s : ByteArray) (closing : Bool) : Told :=
  if te.2 = true then (if Sign.lower te.1 = chName ∧ cl.2 = false then unchunk s else bad)
  else if cl.2 = true then
    (if (Sign.secs cl.1).2 = false ∨ 60 < (Sign.secs cl.1).1 then bad
     else if (s.size : Int) < (Sign.secs cl.1).1 then more
     else (s.extract 0 (Sign.secs cl.1).1.toNat, (Sign.secs cl.1).1, 0))
  else if closing = true then (if 60 < s.size then bad else (s, (s.size : Int), 0))
  else (⟨#[]⟩, 0, 0)
def bodyOf (l : List Flds.Fld) (s : ByteArray) (closing : Bool) : Told := bodyBy (Flds.get l teName) (Flds.get l clName) s closing
theorem secs_bd (t : ByteArray) : 0 ≤ (Sign.secs t).1 ∧ (Sign.secs t).1 ≤ 1152921504606846976 := by
  unfold Sign.secs
  split
  · next h => have := Sign.sec_bd _ h.2; omega
  · decide
theorem get_small (l : List Flds.Fld) (name : ByteArray) (h : Flds.bulk l ≤ 1048576) : (Flds.get l name).1.size ≤ 4194304 := by
  have := Flds.get_size l name
  unfold Flds.bulk at h
  omega
theorem unF_bd (s : ByteArray) : ∀ (f a : Nat) (out : ByteArray), 0 ≤ (unF s f a out).2.1 ∧ (unF s f a out).2.1 ≤ (s.size : Int) := by
  have hb : (0 : Int) ≤ bad.2.1 ∧ bad.2.1 ≤ (s.size : Int) := ⟨Int.le_refl _, by show (0 : Int) ≤ _; omega⟩
  have hm : (0 : Int) ≤ more.2.1 ∧ more.2.1 ≤ (s.size : Int) := ⟨Int.le_refl _, by show (0 : Int) ≤ _; omega⟩
  intro f
  induction f with
  | zero => intro a out; exact hb
  | succ f ih =>
    intro a out
    rw [unF]
    cases Line.eol s a with
    | none =>
      simp only
      split
      · exact hb
      · exact hm
    | some i =>
      simp only
      cases readHex (s.extract a i) with
      | none => exact hb
      | some n =>
        simp only
        split
        · exact hb
        · split
          · exact hm
          · next hs =>
            split
            · split
              · refine ⟨?_, ?_⟩
                · show (0 : Int) ≤ ((_ : Nat) : Int); omega
                · show ((i + 2 + n.toNat + 2 : Nat) : Int) ≤ (s.size : Int); omega
              · exact ih _ _
            · exact hb
theorem body_bd (l : List Flds.Fld) (s : ByteArray) (c : Bool) : 0 ≤ (bodyOf l s c).2.1 ∧ (bodyOf l s c).2.1 ≤ (s.size : Int) + 60 := by
  have hb : (0 : Int) ≤ bad.2.1 ∧ bad.2.1 ≤ (s.size : Int) + 60 := ⟨Int.le_refl _, by show (0 : Int) ≤ _; omega⟩
  have hm : (0 : Int) ≤ more.2.1 ∧ more.2.1 ≤ (s.size : Int) + 60 := ⟨Int.le_refl _, by show (0 : Int) ≤ _; omega⟩
  unfold bodyOf bodyBy
  split
  · split
    · have := unF_bd s (s.size + 1) 0 ⟨#[]⟩
      unfold unchunk
      omega
    · exact hb
  · split
    · split
      · exact hb
      · next h =>
        split
        · exact hm
        · have := secs_bd (Flds.get l clName).1
          have h2 : ¬ 60 < (Sign.secs (Flds.get l clName).1).1 := fun h3 => h (.inr h3)
          show 0 ≤ (Sign.secs (Flds.get l clName).1).1 ∧ (Sign.secs (Flds.get l clName).1).1 ≤ (s.size : Int) + 60
          omega
    · split
      · split
        · exact hb
        · show (0 : Int) ≤ (s.size : Int) ∧ (s.size : Int) ≤ (s.size : Int) + 60; omega
      · show (0 : Int) ≤ 0 ∧ (0 : Int) ≤ (s.size : Int) + 60; omega
end Body
end Go.Proofs.YtbcjpjhpobmpbaaGreatDoor
