/-
  SafeNum: Which methods are safe, and which answers are successes, plain.
  SplitNum: Parts of a list: what SplitList makes of a text (no program in sight), and how a range over the text meets its bytes.
  SecondsNum: Seconds, plain: a number of digits, no greater than the bound.
  ByteAt: The byte at a place of a text.
  FldGets: What it is to get all values of a name of a list of fields.
  CcNum: What is said of caching, plain: the directives of a list of fields, and the least that is said of a name.
-/
import Derived.WalkKit
import Derived.Test.YtbcjpjhpobmpbaaGreatDoorTrimSpec
import Derived.Laws.RangeAny
import Derived.Laws.RangeString
import Derived.Test.YtbcjpjhpobmpbaaGreatDoorSignNum
import Derived.Test.YtbcjpjhpobmpbaaGreatDoorNum
import Derived.Test.YtbcjpjhpobmpbaaGreatDoorFlds
import Derived.Test.YtbcjpjhpobmpbaaGreatDoorLowerNum
namespace Go.Proofs.YtbcjpjhpobmpbaaGreatDoor
open Go.RowKit
namespace Pol

def getM : ByteArray := ⟨#[71, 69, 84]⟩
def headM : ByteArray := ⟨#[72, 69, 65, 68]⟩
def optM : ByteArray := ⟨#[79, 80, 84, 73, 79, 78, 83]⟩
def traceM : ByteArray := ⟨#[84, 82, 65, 67, 69]⟩
def isSafe (m : ByteArray) : Bool := decide (m = getM) || decide (m = headM) || decide (m = optM) || decide (m = traceM)
def succeeded (st : Int) : Bool := decide (200 ≤ st ∧ st ≤ 399)
theorem text_is {x : ByteArray} {y : List UInt8} (h : x = ⟨y.toArray⟩) : (x.toList == y) = true := by rw [h, ByteArray.toList_eq]; simp
theorem text_not {x : ByteArray} {y : List UInt8} (h : ¬ x = ⟨y.toArray⟩) : (x.toList == y) = false := by
  rw [beq_eq_false_iff_ne]
  intro e
  exact h (ByteArray.ext (Array.toList_inj.1 ((ByteArray.toList_eq (bs := x)).symm.trans e)))
end Pol
end Go.Proofs.YtbcjpjhpobmpbaaGreatDoor
namespace Go.Proofs.YtbcjpjhpobmpbaaGreatDoor
open Go.RowKit
set_option linter.unusedVariables false
namespace Sign

/-- a part, trimmed; none where it is empty -/
def part (s : ByteArray) (a b : Nat) : List ByteArray := if (trim (s.extract a b)).size = 0 then [] else [trim (s.extract a b)]
/-- the byte n ahead of the end -/
def fromEnd (s : ByteArray) (n : Nat) : Nat := (s.data.toList.getD (s.size - n) 0).toNat
/-- the parts that come of the last n bytes, where a part began at 'a' -/
def rest (s : ByteArray) : Nat → Nat → Bool → List ByteArray
  | 0, a, q => part s a s.size
  | n + 1, a, q =>
    if fromEnd s (n + 1) = 34 then rest s n a (!q)
    else if q = true ∧ fromEnd s (n + 1) = 92 then (match n with | 0 => part s a s.size | m + 1 => rest s m a q)
    else if fromEnd s (n + 1) = 44 ∧ q = false then part s a (s.size - (n + 1)) ++ rest s n (s.size - (n + 1) + 1) q
    else rest s n a q
/-- the parts of a text -/
def split (s : ByteArray) : List ByteArray := rest s s.size 0 false

theorem rest_succ (s : ByteArray) (n a : Nat) (q : Bool) : rest s (n + 1) a q =
    if fromEnd s (n + 1) = 34 then rest s n a (!q)
    else if q = true ∧ fromEnd s (n + 1) = 92 then rest s (n - 1) a q
    else if fromEnd s (n + 1) = 44 ∧ q = false then part s a (s.size - (n + 1)) ++ rest s n (s.size - (n + 1) + 1) q
    else rest s n a q := by
  cases n with
  | zero => rfl
  | succ m => rfl
theorem fromEnd_at (s : ByteArray) (i : Nat) (h : i < s.size) : fromEnd s (s.size - i) = (s[i]).toNat := by
  unfold fromEnd
  rw [show s.size - (s.size - i) = i by omega, List.getD, List.getElem?_eq_getElem (show i < s.data.toList.length by rw [Array.length_toList]; exact h)]
  rfl
theorem rest_quote (s : ByteArray) (i a : Nat) (q : Bool) (h : i < s.size) (hc : (s[i]).toNat = 34) : rest s (s.size - i) a q = rest s (s.size - (i + 1)) a (!q) := by
  have e := fromEnd_at s i h
  obtain ⟨n, hn⟩ : ∃ n, s.size - i = n + 1 := ⟨s.size - i - 1, by omega⟩
  rw [hn] at e
  rw [show s.size - (i + 1) = n by omega, hn]
  rw [rest_succ, if_pos (by rw [e]; exact hc)]
theorem rest_esc (s : ByteArray) (i a : Nat) (h : i < s.size) (hc : (s[i]).toNat = 92) : rest s (s.size - i) a true = rest s (s.size - (i + 2)) a true := by
  have e := fromEnd_at s i h
  obtain ⟨n, hn⟩ : ∃ n, s.size - i = n + 1 := ⟨s.size - i - 1, by omega⟩
  rw [hn] at e
  rw [show s.size - (i + 2) = n - 1 by omega, hn]
  rw [rest_succ, if_neg (by rw [e]; omega), if_pos ⟨rfl, by rw [e]; exact hc⟩]
theorem rest_comma (s : ByteArray) (i a : Nat) (h : i < s.size) (hc : (s[i]).toNat = 44) : rest s (s.size - i) a false = part s a i ++ rest s (s.size - (i + 1)) (i + 1) false := by
  have e := fromEnd_at s i h
  obtain ⟨n, hn⟩ : ∃ n, s.size - i = n + 1 := ⟨s.size - i - 1, by omega⟩
  have e2 : s.size - (n + 1) = i := by omega
  rw [hn] at e
  rw [show s.size - (i + 1) = n by omega, hn]
  rw [rest_succ, if_neg (by rw [e]; omega), if_neg (by rintro ⟨h, _⟩; cases h), if_pos ⟨by rw [e]; exact hc, rfl⟩, e2]
theorem rest_else (s : ByteArray) (i a : Nat) (q : Bool) (h : i < s.size) (h1 : (s[i]).toNat ≠ 34) (h2 : ¬ (q = true ∧ (s[i]).toNat = 92)) (h3 : ¬ ((s[i]).toNat = 44 ∧ q = false)) : rest s (s.size - i) a q = rest s (s.size - (i + 1)) a q := by
  have e := fromEnd_at s i h
  obtain ⟨n, hn⟩ : ∃ n, s.size - i = n + 1 := ⟨s.size - i - 1, by omega⟩
  rw [hn] at e
  rw [show s.size - (i + 1) = n by omega, hn]
  rw [rest_succ, if_neg (by rw [e]; exact h1), if_neg (by rw [e]; exact h2), if_neg (by rw [e]; exact h3)]
theorem rest_end (s : ByteArray) (i a : Nat) (q : Bool) (h : s.size ≤ i) : rest s (s.size - i) a q = part s a s.size := by
  rw [show s.size - i = 0 by omega]; rfl
/-- bytes from 128 on change nothing -/
theorem rest_high (s : ByteArray) (a : Nat) (q : Bool) : ∀ (d i : Nat), i + d ≤ s.size → (∀ j (h : j < s.size), i ≤ j → j < i + d → 128 ≤ (s[j]).toNat) → rest s (s.size - i) a q = rest s (s.size - (i + d)) a q := by
  intro d
  induction d with
  | zero => intro i _ _; rfl
  | succ d ih =>
    intro i hi hh
    have h := hh i (by omega) (Nat.le_refl _) (by omega)
    rw [rest_else s i a q (by omega) (by omega) (by omega) (by omega), ih (i + 1) (by omega) (fun j hj h1 h2 => hh j hj (by omega) (by omega)), show i + 1 + d = i + (d + 1) by omega]
theorem cont_high (s : ByteArray) (i k : Nat) (h : (decide (i + k < s.size) && (s.get! (i + k)).toNat / 64 == 2) = true) : ∃ h : i + k < s.size, 128 ≤ (s[i + k]).toNat := by
  rw [Bool.and_eq_true, decide_eq_true_iff, beq_iff_eq] at h
  refine ⟨h.1, ?_⟩
  have e : s.get! (i + k) = s[i + k]'h.1 := Go.get_at s (i + k) h.1
  rw [e] at h
  omega
theorem decode_wide (s : ByteArray) (i : Nat) (h : i < s.size) (ha : 128 ≤ (s[i]).toNat) : i + (Utf8.decode s i).2 ≤ s.size ∧ ∀ j (hj : j < s.size), i ≤ j → j < i + (Utf8.decode s i).2 → 128 ≤ (s[j]).toNat := by
  have one : i + 1 ≤ s.size ∧ ∀ j (hj : j < s.size), i ≤ j → j < i + 1 → 128 ≤ (s[j]).toNat := ⟨by omega, fun j hj h1 h2 => by obtain rfl : j = i := by omega
                                                                                                                               exact ha⟩
  unfold Utf8.decode
  simp only
  split
  · exact one
  · split
    · next hc =>
      rw [Bool.and_eq_true] at hc
      obtain ⟨h1, g1⟩ := cont_high s i 1 hc.2
      split
      · refine ⟨by simp only; omega, fun j hj a b => ?_⟩
        simp only at b
        rcases (show j = i ∨ j = i + 1 by omega) with rfl | rfl
        · exact ha
        · exact g1
      · exact one
    · split
      · next hc =>
        rw [Bool.and_eq_true, Bool.and_eq_true] at hc
        obtain ⟨h1, g1⟩ := cont_high s i 1 hc.1.2
        obtain ⟨h2, g2⟩ := cont_high s i 2 hc.2
        split
        · refine ⟨by simp only; omega, fun j hj a b => ?_⟩
          simp only at b
          rcases (show j = i ∨ j = i + 1 ∨ j = i + 2 by omega) with rfl | rfl | rfl
          · exact ha
          · exact g1
          · exact g2
        · exact one
      · split
        · next hc =>
          rw [Bool.and_eq_true, Bool.and_eq_true, Bool.and_eq_true] at hc
          obtain ⟨h1, g1⟩ := cont_high s i 1 hc.1.1.2
          obtain ⟨h2, g2⟩ := cont_high s i 2 hc.1.2
          obtain ⟨h3, g3⟩ := cont_high s i 3 hc.2
          split
          · refine ⟨by simp only; omega, fun j hj a b => ?_⟩
            simp only at b
            rcases (show j = i ∨ j = i + 1 ∨ j = i + 2 ∨ j = i + 3 by omega) with rfl | rfl | rfl | rfl
            · exact ha
            · exact g1
            · exact g2
            · exact g3
          · exact one
        · exact one
theorem length_rest (s : ByteArray) : ∀ (n a : Nat) (q : Bool), (rest s n a q).length ≤ n + 1 := by
  intro n
  induction n using Nat.strongRecOn with
  | _ n ih =>
    intro a q
    have hp : ∀ x y, (part s x y).length ≤ 1 := fun x y => by unfold part; split <;> simp
    cases n with
    | zero => rw [rest]; have := hp a s.size; omega
    | succ m =>
      rw [rest_succ]
      split
      · have := ih m (by omega) a (!q); omega
      · split
        · have := ih (m - 1) (by omega) a q; omega
        · split
          · rw [List.length_append]; have := ih m (by omega) (s.size - (m + 1) + 1) q; have := hp a (s.size - (m + 1)); omega
          · have := ih m (by omega) a q; omega
end Sign
end Go.Proofs.YtbcjpjhpobmpbaaGreatDoor
namespace Go.Proofs.YtbcjpjhpobmpbaaGreatDoor
open Go.RowKit
set_option linter.unusedVariables false
namespace Sign

/-- a number of digits, no greater than the bound -/
def sec (l : List UInt8) : Int := l.foldl (fun n c => min (n * 10 + ((c.toNat : Int) - 48)) 2147483648) 0
theorem sec_snoc (l : List UInt8) (c : UInt8) : sec (l ++ [c]) = min (sec l * 10 + ((c.toNat : Int) - 48)) 2147483648 := by simp [sec]
theorem sec_bd (l : List UInt8) (h : l.all (fun b => decide (dig (b.toNat : Int))) = true) : 0 ≤ sec l ∧ sec l ≤ 2147483648 := by
  revert h
  refine Num.snoc_ind (P := fun l => l.all (fun b => decide (dig (b.toNat : Int))) = true → 0 ≤ sec l ∧ sec l ≤ 2147483648) (by intro _; simp [sec]) ?_ l
  intro l c ih h
  rw [List.all_append, Bool.and_eq_true] at h
  have h1 := ih h.1
  have h2 : dig (c.toNat : Int) := by simpa using h.2
  unfold dig at h2
  rw [sec_snoc]
  omega
theorem sec_take (s : ByteArray) (k : Nat) (h : k < s.size) : sec (s.data.toList.take (k + 1)) = min (sec (s.data.toList.take k) * 10 + ((s[k].toNat : Int) - 48)) 2147483648 := by
  rw [Num.take_snoc s k h, sec_snoc]
def secs (s : ByteArray) : Int × Bool :=
  if 0 < s.size ∧ s.data.toList.all (fun b => decide (dig (b.toNat : Int))) = true then (sec s.data.toList, true) else (0, false)
end Sign
end Go.Proofs.YtbcjpjhpobmpbaaGreatDoor
namespace Go.Proofs.YtbcjpjhpobmpbaaGreatDoor
set_option linter.unusedVariables false
namespace Line

/-- the byte at a place; 256 where there is none -/
def byteAt (s : ByteArray) (i : Nat) : Nat := if h : i < s.size then s[i].toNat else 256
theorem byteAt_eq (s : ByteArray) (i : Nat) (h : i < s.size) : byteAt s i = s[i].toNat := by unfold byteAt; rw [dif_pos h]
end Line
end Go.Proofs.YtbcjpjhpobmpbaaGreatDoor
namespace Go.Proofs.YtbcjpjhpobmpbaaGreatDoor
open Go.RowKit
set_option linter.unusedVariables false
namespace Flds

/-- one field more -/
def getStep (name : ByteArray) (r : ByteArray × Bool) (f : Fld) : ByteArray × Bool :=
  if f.1 = name then ((if r.2 = true then r.1 ++ ⟨#[44, 32]⟩ else r.1) ++ f.2, true) else r
/-- all values of a name -/
def get (l : List Fld) (name : ByteArray) : ByteArray × Bool := l.foldl (getStep name) (⟨#[]⟩, false)
theorem get_take (l : List Fld) (name : ByteArray) (k : Nat) (h : k < l.length) : get (l.take (k + 1)) name = getStep name (get (l.take k) name) l[k] := by
  unfold get
  rw [List.take_succ_eq_append_getElem h, List.foldl_append]; rfl
theorem get_size (l : List Fld) (name : ByteArray) : (get l name).1.size ≤ 2 * l.length + (l.map fun f => f.1.size + f.2.size).sum := by
  refine Num.snoc_ind (P := fun l => (get l name).1.size ≤ 2 * l.length + (l.map fun f => f.1.size + f.2.size).sum) (Nat.zero_le _) ?_ l
  intro l f ih
  have e : get (l ++ [f]) name = getStep name (get l name) f := by unfold get; rw [List.foldl_append]; rfl
  have hz : (⟨#[44, 32]⟩ : ByteArray).size = 2 := rfl
  rw [e, List.length_append, List.map_append, List.sum_append]
  unfold getStep
  split
  · simp only [ByteArray.size_append, List.length_singleton, List.map_cons, List.map_nil, List.sum_cons, List.sum_nil]
    split
    · rw [ByteArray.size_append, hz]; omega
    · omega
  · simp only [List.length_singleton, List.map_cons, List.map_nil, List.sum_cons, List.sum_nil]; omega
theorem text_ne' {x y : ByteArray} (h : ¬ x = y) : (x.toList == y.toList) = false := by
  rw [beq_eq_false_iff_ne, ByteArray.toList_eq, ByteArray.toList_eq]
  intro e; exact h (ByteArray.ext (Array.toList_inj.1 e))

end Flds
end Go.Proofs.YtbcjpjhpobmpbaaGreatDoor
namespace Go.Proofs.YtbcjpjhpobmpbaaGreatDoor
open Go.RowKit
set_option linter.unusedVariables false
namespace Cc
open Line (byteAt byteAt_eq)
open Flds (Fld)

/-- the first '=' from i on, within n places -/
def eqGo (s : ByteArray) : Nat → Nat → Option Nat
  | 0, _ => none
  | n + 1, i => if byteAt s i = 61 then some i else eqGo s n (i + 1)
def eqAt (s : ByteArray) : Option Nat := eqGo s s.size 0
theorem eqGo_in (s : ByteArray) : ∀ (n i k : Nat), eqGo s n i = some k → i ≤ k ∧ k < s.size := by
  intro n
  induction n with
  | zero => intro i k h; cases h
  | succ n ih =>
    intro i k h
    unfold eqGo at h
    split at h
    · next hc =>
      cases h
      refine ⟨Nat.le_refl _, ?_⟩
      by_cases hz : i < s.size
      · exact hz
      · exfalso; unfold byteAt at hc; rw [dif_neg hz] at hc; omega
    · have := ih (i + 1) k h; omega
theorem eqAt_in {s : ByteArray} {k : Nat} (h : eqAt s = some k) : k < s.size := (eqGo_in s _ 0 k h).2
/-- where the name ends -/
def cutAt (s : ByteArray) : Nat := match eqAt s with | some k => k | none => s.size
theorem cutAt_le (s : ByteArray) : cutAt s ≤ s.size := by
  unfold cutAt
  cases h : eqAt s with
  | none => exact Nat.le_refl _
  | some k => have := eqAt_in h; simp only; omega
/-- the search for it -/
structure EqTo (s : ByteArray) (k : Nat) : Prop where
  le : k ≤ s.size
  same : eqAt s = eqGo s (s.size - k) k
theorem eq_start (s : ByteArray) : EqTo s 0 := ⟨Nat.zero_le _, rfl⟩
theorem eq_next {s : ByteArray} {k : Nat} (h : EqTo s k) (hk : k < s.size) (hc : (s[k]).toNat ≠ 61) : EqTo s (k + 1) where
  le := hk
  same := by
    rw [h.same]
    obtain ⟨n, hn⟩ : ∃ n, s.size - k = n + 1 := ⟨s.size - k - 1, by omega⟩
    rw [hn, eqGo, if_neg (by rw [byteAt_eq s k hk]; exact hc), show s.size - (k + 1) = n by omega]
theorem eq_hit {s : ByteArray} {k : Nat} (h : EqTo s k) (hk : k < s.size) (hc : (s[k]).toNat = 61) : eqAt s = some k := by
  rw [h.same]
  obtain ⟨n, hn⟩ : ∃ n, s.size - k = n + 1 := ⟨s.size - k - 1, by omega⟩
  rw [hn, eqGo, if_pos (by rw [byteAt_eq s k hk]; exact hc)]
theorem eq_miss {s : ByteArray} (h : EqTo s s.size) : eqAt s = none := by
  rw [h.same, Nat.sub_self]; rfl
/-- the name, as it stands -/
def nameOf (t : ByteArray) : ByteArray := t.extract 0 (cutAt t)
/-- a value without quotes around it -/
def unq (s : ByteArray) : ByteArray := if 2 ≤ s.size ∧ byteAt s 0 = 34 ∧ byteAt s (s.size - 1) = 34 then s.extract 1 (s.size - 1) else s
theorem unq_size (s : ByteArray) : (unq s).size ≤ s.size := by
  unfold unq
  split
  · rw [ByteArray.size_extract]; omega
  · exact Nat.le_refl _
/-- what stands behind the '=' -/
def behind (t : ByteArray) : ByteArray := match eqAt t with | some k => t.extract (k + 1) t.size | none => ⟨#[]⟩
theorem behind_size (t : ByteArray) : (behind t).size ≤ t.size := by
  unfold behind
  split
  · rw [ByteArray.size_extract]; omega
  · exact Nat.zero_le _
theorem name_size (t : ByteArray) : (nameOf t).size ≤ t.size := by
  unfold nameOf; rw [ByteArray.size_extract]; omega
theorem ext_all (t : ByteArray) : t.extract 0 t.size = t := by
  apply ByteArray.ext
  rw [ByteArray.data_extract]
  exact Array.extract_size
theorem name_none {t : ByteArray} (h : eqAt t = none) : nameOf t = t ∧ behind t = ⟨#[]⟩ := by
  unfold nameOf cutAt behind
  rw [h]
  exact ⟨ext_all t, rfl⟩
theorem name_some {t : ByteArray} {k : Nat} (h : eqAt t = some k) : nameOf t = t.extract 0 k ∧ behind t = t.extract (k + 1) t.size := by
  unfold nameOf cutAt behind
  rw [h]
  exact ⟨rfl, rfl⟩
/-- the directive of a part -/
def dirOf (t : ByteArray) : Fld := (Sign.lower (nameOf t), unq (behind t))
def isDir (t : ByteArray) : Bool := Sign.isTok (nameOf t)
def dirAt (t : ByteArray) : Option Fld := if isDir t = true then some (dirOf t) else none
/-- the field's name -/
def ccName : ByteArray := ⟨#[99, 97, 99, 104, 101, 45, 99, 111, 110, 116, 114, 111, 108]⟩
/-- the directives of a list of parts -/
def ofParts (L : List ByteArray) : List Fld := L.filterMap dirAt
/-- the directives of a list of fields -/
def dirs (l : List Fld) : List Fld := ofParts (Sign.split (Flds.get l ccName).1)
theorem ofParts_take (L : List ByteArray) (k : Nat) (h : k < L.length) : ofParts (L.take (k + 1)) = ofParts (L.take k) ++ (if isDir L[k] = true then [dirOf L[k]] else []) := by
  unfold ofParts
  rw [List.take_succ_eq_append_getElem h, List.filterMap_append]
  congr 1
  simp only [List.filterMap_cons, List.filterMap_nil]
  unfold dirAt
  by_cases h2 : isDir L[k] = true
  · rw [if_pos h2, if_pos h2]
  · rw [if_neg h2, if_neg h2]
theorem ofParts_len (L : List ByteArray) : (ofParts L).length ≤ L.length := List.length_filterMap_le _ _
theorem ofParts_small {L : List ByteArray} {n : Nat} (h : ∀ t ∈ L, t.size ≤ n) : ∀ f ∈ ofParts L, f.1.size ≤ n ∧ f.2.size ≤ n := by
  intro f hf
  obtain ⟨t, ht, he⟩ := List.mem_filterMap.1 hf
  unfold dirAt at he
  split at he
  · cases he
    have h1 := h t ht
    have h2 := name_size t
    have h3 := behind_size t
    have h4 := unq_size (behind t)
    unfold dirOf
    simp only
    rw [Sign.size_lower]
    omega
  · cases he
theorem part_small (s : ByteArray) (a b : Nat) : ∀ t ∈ Sign.part s a b, t.size ≤ s.size := by
  intro t ht
  unfold Sign.part at ht
  split at ht
  · cases ht
  · obtain rfl := List.mem_singleton.1 ht
    have h1 := Sign.trim_size (s.extract a b)
    have h2 : (s.extract a b).size ≤ s.size := by rw [ByteArray.size_extract]; omega
    omega
theorem rest_small (s : ByteArray) : ∀ (n a : Nat) (q : Bool), ∀ t ∈ Sign.rest s n a q, t.size ≤ s.size := by
  intro n
  induction n using Nat.strongRecOn with
  | _ n ih =>
    intro a q
    cases n with
    | zero => exact part_small s a s.size
    | succ m =>
      rw [Sign.rest_succ]
      split
      · exact ih m (by omega) a (!q)
      · split
        · exact ih (m - 1) (by omega) a q
        · split
          · intro t ht
            rcases List.mem_append.1 ht with h | h
            · exact part_small s a _ t h
            · exact ih m (by omega) _ q t h
          · exact ih m (by omega) a q
theorem split_small (s : ByteArray) : ∀ t ∈ Sign.split s, t.size ≤ s.size := rest_small s s.size 0 false
theorem split_len (s : ByteArray) : (Sign.split s).length ≤ s.size + 1 := Sign.length_rest s s.size 0 false
/-- what is got of a name that is not empty is no longer than the list -/
theorem get_bulk (l : List Fld) (name : ByteArray) (hn : 0 < name.size) : (Flds.get l name).1.size ≤ Flds.bulk l := by
  refine Num.snoc_ind (P := fun l => (Flds.get l name).1.size ≤ Flds.bulk l) (Nat.zero_le _) ?_ l
  intro l f ih
  have e : Flds.get (l ++ [f]) name = Flds.getStep name (Flds.get l name) f := by unfold Flds.get; rw [List.foldl_append]; rfl
  have hb : Flds.bulk (l ++ [f]) = Flds.bulk l + (1 + f.1.size + f.2.size) := by
    unfold Flds.bulk
    rw [List.length_append, List.map_append, List.sum_append]
    simp; omega
  have hz : (⟨#[44, 32]⟩ : ByteArray).size = 2 := rfl
  rw [e, hb]
  unfold Flds.getStep
  by_cases h : f.1 = name
  · rw [if_pos h]
    simp only [ByteArray.size_append]
    rw [h]
    split
    · rw [ByteArray.size_append, hz]; omega
    · omega
  · rw [if_neg h]; omega
theorem said_size (l : List Fld) : (Flds.get l ccName).1.size ≤ Flds.bulk l := get_bulk l ccName (by decide)
theorem dirs_len (l : List Fld) : (dirs l).length ≤ Flds.bulk l + 1 := by
  have h1 := ofParts_len (Sign.split (Flds.get l ccName).1)
  have h2 := split_len (Flds.get l ccName).1
  have h3 := said_size l
  unfold dirs
  omega
theorem dirs_small (l : List Fld) : ∀ f ∈ dirs l, f.1.size ≤ Flds.bulk l ∧ f.2.size ≤ Flds.bulk l :=
  ofParts_small (fun t ht => Nat.le_trans (split_small _ t ht) (said_size l))
/-- the lesser of what was told and a number -/
def lesser (o : Option Int) (n : Int) : Int := match o with | some b => min n b | none => n
/-- one directive more -/
def leastStep (name : ByteArray) (o : Option Int) (f : Fld) : Option Int :=
  if f.1 = name then some (lesser o (Sign.secs f.2).1) else o
/-- the least that is said of a name -/
def least (d : List Fld) (name : ByteArray) : Option Int := d.foldl (leastStep name) none
theorem least_take (d : List Fld) (name : ByteArray) (k : Nat) (h : k < d.length) : least (d.take (k + 1)) name = leastStep name (least (d.take k) name) d[k] := by
  unfold least
  rw [List.take_succ_eq_append_getElem h, List.foldl_append]; rfl
theorem least_snoc (d : List Fld) (f : Fld) (name : ByteArray) : least (d ++ [f]) name = leastStep name (least d name) f := by
  unfold least; rw [List.foldl_append]; rfl
theorem secs_bd (s : ByteArray) : 0 ≤ (Sign.secs s).1 ∧ (Sign.secs s).1 ≤ 2147483648 := by
  unfold Sign.secs
  split
  · next h => exact Sign.sec_bd _ h.2
  · exact ⟨Int.le_refl _, by decide⟩
theorem least_bd (d : List Fld) (name : ByteArray) : ∀ c, least d name = some c → 0 ≤ c ∧ c ≤ 2147483648 := by
  refine Num.snoc_ind (P := fun d => ∀ c, least d name = some c → 0 ≤ c ∧ c ≤ 2147483648) (by intro c h; cases h) ?_ d
  intro d f ih c h
  rw [least_snoc] at h
  unfold leastStep at h
  have hs := secs_bd f.2
  split at h
  · cases ho : least d name with
    | none => rw [ho] at h; unfold lesser at h; cases h; exact hs
    | some b => rw [ho] at h; unfold lesser at h; cases h; have := ih b ho; simp only; omega
  · exact ih c h
/-- is there one of that name? -/
def has (d : List Fld) (name : ByteArray) : Bool := d.any fun f => decide (f.1 = name)
theorem least_has (d : List Fld) (name : ByteArray) : (least d name).isSome = has d name := by
  refine Num.snoc_ind (P := fun d => (least d name).isSome = has d name) rfl ?_ d
  intro d f ih
  rw [least_snoc]
  unfold leastStep has at *
  rw [List.any_append, ← ih]
  by_cases h : f.1 = name
  · rw [if_pos h]; simp [h]
  · rw [if_neg h]; simp [h]
/-- the least and whether there is one -/
def sec (d : List Fld) (name : ByteArray) : Int × Bool := match least d name with | some c => (c, true) | none => (0, false)
theorem sec_two (d : List Fld) (name : ByteArray) : (sec d name).2 = has d name := by
  rw [← least_has]
  unfold sec
  cases least d name <;> rfl
/-- the specification's reckoning: the bound, and none -/
def best (d : List Fld) (name : ByteArray) : Int × Bool := match least d name with | some c => (c, true) | none => (2147483648, false)
theorem best_take (d : List Fld) (name : ByteArray) (k : Nat) (h : k < d.length) : best (d.take (k + 1)) name = if d[k].1 = name then (min (best (d.take k) name).1 (Sign.secs d[k].2).1, true) else best (d.take k) name := by
  unfold best
  rw [least_take d name k h]
  have hs := secs_bd d[k].2
  unfold leastStep
  by_cases h2 : d[k].1 = name
  · rw [if_pos h2, if_pos h2]
    cases least (d.take k) name with
    | none => unfold lesser; simp only; rw [Prod.mk.injEq]; exact ⟨by omega, rfl⟩
    | some b => unfold lesser; simp only; rw [Prod.mk.injEq]; exact ⟨by omega, rfl⟩
  · rw [if_neg h2, if_neg h2]
theorem best_bd (d : List Fld) (name : ByteArray) : 0 ≤ (best d name).1 ∧ (best d name).1 ≤ 2147483648 := by
  unfold best
  cases h : least d name with
  | none => exact ⟨by decide, by decide⟩
  | some c => exact least_bd d name c h
theorem sec_best (d : List Fld) (name : ByteArray) : sec d name = if (best d name).2 = true then ((best d name).1, true) else (0, false) := by
  unfold sec best
  cases least d name with
  | none => rfl
  | some c => rfl
end Cc
end Go.Proofs.YtbcjpjhpobmpbaaGreatDoor
