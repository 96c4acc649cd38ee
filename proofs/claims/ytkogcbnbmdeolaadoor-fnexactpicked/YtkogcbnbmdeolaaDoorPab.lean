/-
  SecondsNum: Seconds, plain: a number of digits, no greater than the bound.
  FldGets: What it is to get all values of a name of a list of fields.
  CcNum: What is said of caching, plain: the directives of a list of fields, and the least that is said of a name.
  VaryNum: On what an answer hangs, plain: the names in its vary, small, each once.
-/
import Derived.Test.YtkogcbnbmdeolaaDoorPaa
import Derived.Test.YtkogcbnbmdeolaaDoorFlds
import Derived.Test.YtkogcbnbmdeolaaDoorByteAt
namespace Go.Proofs.YtkogcbnbmdeolaaDoor
open Go.RowKit
set_option linter.unusedVariables false
namespace Sign

/-- a number of digits, no greater than the bound -/
def sec (l : List UInt8) : Int := l.foldl (fun n c => min (n * 10 + ((c.toNat : Int) - 48)) 2147483648) 0
theorem sec_snoc (l : List UInt8) (c : UInt8) : sec (l ++ [c]) = min (sec l * 10 + ((c.toNat : Int) - 48)) 2147483648 := by simp [sec]
theorem sec_bd (l : List UInt8) (h : l.all (fun b => decide (dig (b.toNat : Int))) = true) : 0 ≤ sec l ∧ sec l ≤ 2147483648 := by
  revert h
  refine Num.snoc_ind (P := fun l => l.all (fun b => decide (dig (b.toNat : Int))) = true → 0 ≤ sec l ∧ sec l ≤ 2147483648) (by intro _; simp [sec]) ?_ l
  intro l c ih h
  rw [List.all_append, Bool.and_eq_true] at h
  have h1 := ih h.1
  have h2 : dig (c.toNat : Int) := by simpa using h.2
  unfold dig at h2
  rw [sec_snoc]
  omega
theorem sec_take (s : ByteArray) (k : Nat) (h : k < s.size) : sec (s.data.toList.take (k + 1)) = min (sec (s.data.toList.take k) * 10 + ((s[k].toNat : Int) - 48)) 2147483648 := by
  rw [Num.take_snoc s k h, sec_snoc]
def secs (s : ByteArray) : Int × Bool :=
  if 0 < s.size ∧ s.data.toList.all (fun b => decide (dig (b.toNat : Int))) = true then (sec s.data.toList, true) else (0, false)
end Sign
end Go.Proofs.YtkogcbnbmdeolaaDoor
namespace Go.Proofs.YtkogcbnbmdeolaaDoor
open Go.RowKit
set_option linter.unusedVariables false
namespace Flds

/-- one field more -/
def getStep (name : ByteArray) (r : ByteArray × Bool) (f : Fld) : ByteArray × Bool :=
  if f.1 = name then ((if r.2 = true then r.1 ++ ⟨#[44, 32]⟩ else r.1) ++ f.2, true) else r
/-- all values of a name -/
def get (l : List Fld) (name : ByteArray) : ByteArray × Bool := l.foldl (getStep name) (⟨#[]⟩, false)
theorem get_take (l : List Fld) (name : ByteArray) (k : Nat) (h : k < l.length) : get (l.take (k + 1)) name = getStep name (get (l.take k) name) l[k] := by
  unfold get
  rw [List.take_succ_eq_append_getElem h, List.foldl_append]; rfl
theorem get_size (l : List Fld) (name : ByteArray) : (get l name).1.size ≤ 2 * l.length + (l.map fun f => f.1.size + f.2.size).sum := by
  refine Num.snoc_ind (P := fun l => (get l name).1.size ≤ 2 * l.length + (l.map fun f => f.1.size + f.2.size).sum) (Nat.zero_le _) ?_ l
  intro l f ih
  have e : get (l ++ [f]) name = getStep name (get l name) f := by unfold get; rw [List.foldl_append]; rfl
  have hz : (⟨#[44, 32]⟩ : ByteArray).size = 2 := rfl
  rw [e, List.length_append, List.map_append, List.sum_append]
  unfold getStep
  split
  · simp only [ByteArray.size_append, List.length_singleton, List.map_cons, List.map_nil, List.sum_cons, List.sum_nil]
    split
    · rw [ByteArray.size_append, hz]; omega
    · omega
  · simp only [List.length_singleton, List.map_cons, List.map_nil, List.sum_cons, List.sum_nil]; omega
theorem text_ne' {x y : ByteArray} (h : ¬ x = y) : (x.toList == y.toList) = false := by
  rw [beq_eq_false_iff_ne, ByteArray.toList_eq, ByteArray.toList_eq]
  intro e; exact h (ByteArray.ext (Array.toList_inj.1 e))

end Flds
end Go.Proofs.YtkogcbnbmdeolaaDoor
namespace Go.Proofs.YtkogcbnbmdeolaaDoor
open Go.RowKit
set_option linter.unusedVariables false
namespace Cc
open Line (byteAt byteAt_eq)
open Flds (Fld)

/-- the first '=' from i on, within n places -/
def eqGo (s : ByteArray) : Nat → Nat → Option Nat
  | 0, _ => none
  | n + 1, i => if byteAt s i = 61 then some i else eqGo s n (i + 1)
def eqAt (s : ByteArray) : Option Nat := eqGo s s.size 0
theorem eqGo_in (s : ByteArray) : ∀ (n i k : Nat), eqGo s n i = some k → i ≤ k ∧ k < s.size := by
  intro n
  induction n with
  | zero => intro i k h; cases h
  | succ n ih =>
    intro i k h
    unfold eqGo at h
    split at h
    · next hc =>
      cases h
      refine ⟨Nat.le_refl _, ?_⟩
      by_cases hz : i < s.size
      · exact hz
      · exfalso; unfold byteAt at hc; rw [dif_neg hz] at hc; omega
    · have := ih (i + 1) k h; omega
theorem eqAt_in {s : ByteArray} {k : Nat} (h : eqAt s = some k) : k < s.size := (eqGo_in s _ 0 k h).2
/-- where the name ends -/
def cutAt (s : ByteArray) : Nat := match eqAt s with | some k => k | none => s.size
theorem cutAt_le (s : ByteArray) : cutAt s ≤ s.size := by
  unfold cutAt
  cases h : eqAt s with
  | none => exact Nat.le_refl _
  | some k => have := eqAt_in h; simp only; omega
/-- the search for it -/
structure EqTo (s : ByteArray) (k : Nat) : Prop where
  le : k ≤ s.size
  same : eqAt s = eqGo s (s.size - k) k
theorem eq_start (s : ByteArray) : EqTo s 0 := ⟨Nat.zero_le _, rfl⟩
theorem eq_next {s : ByteArray} {k : Nat} (h : EqTo s k) (hk : k < s.size) (hc : (s[k]).toNat ≠ 61) : EqTo s (k + 1) where
  le := hk
  same := by
    rw [h.same]
    obtain ⟨n, hn⟩ : ∃ n, s.size - k = n + 1 := ⟨s.size - k - 1, by omega⟩
    rw [hn, eqGo, if_neg (by rw [byteAt_eq s k hk]; exact hc), show s.size - (k + 1) = n by omega]
theorem eq_hit {s : ByteArray} {k : Nat} (h : EqTo s k) (hk : k < s.size) (hc : (s[k]).toNat = 61) : eqAt s = some k := by
  rw [h.same]
  obtain ⟨n, hn⟩ : ∃ n, s.size - k = n + 1 := ⟨s.size - k - 1, by omega⟩
  rw [hn, eqGo, if_pos (by rw [byteAt_eq s k hk]; exact hc)]
theorem eq_miss {s : ByteArray} (h : EqTo s s.size) : eqAt s = none := by
  rw [h.same, Nat.sub_self]; rfl
/-- the name, as it stands -/
def nameOf (t : ByteArray) : ByteArray := t.extract 0 (cutAt t)
/-- a value without quotes around it -/
def unq (s : ByteArray) : ByteArray := if 2 ≤ s.size ∧ byteAt s 0 = 34 ∧ byteAt s (s.size - 1) = 34 then s.extract 1 (s.size - 1) else s
theorem unq_size (s : ByteArray) : (unq s).size ≤ s.size := by
  unfold unq
  split
  · rw [ByteArray.size_extract]; omega
  · exact Nat.le_refl _
/-- what stands behind the '=' -/
def behind (t : ByteArray) : ByteArray := match eqAt t with | some k => t.extract (k + 1) t.size | none => ⟨#[]⟩
theorem behind_size (t : ByteArray) : (behind t).size ≤ t.size := by
  unfold behind
  split
  · rw [ByteArray.size_extract]; omega
  · exact Nat.zero_le _
theorem name_size (t : ByteArray) : (nameOf t).size ≤ t.size := by
  unfold nameOf; rw [ByteArray.size_extract]; omega
theorem ext_all (t : ByteArray) : t.extract 0 t.size = t := by
  apply ByteArray.ext
  rw [ByteArray.data_extract]
  exact Array.extract_size
theorem name_none {t : ByteArray} (h : eqAt t = none) : nameOf t = t ∧ behind t = ⟨#[]⟩ := by
  unfold nameOf cutAt behind
  rw [h]
  exact ⟨ext_all t, rfl⟩
theorem name_some {t : ByteArray} {k : Nat} (h : eqAt t = some k) : nameOf t = t.extract 0 k ∧ behind t = t.extract (k + 1) t.size := by
  unfold nameOf cutAt behind
  rw [h]
  exact ⟨rfl, rfl⟩
/-- the directive of a part -/
def dirOf (t : ByteArray) : Fld := (Sign.lower (nameOf t), unq (behind t))
def isDir (t : ByteArray) : Bool := Sign.isTok (nameOf t)
def dirAt (t : ByteArray) : Option Fld := if isDir t = true then some (dirOf t) else none
/-- the field's name -/
def ccName : ByteArray := ⟨#[99, 97, 99, 104, 101, 45, 99, 111, 110, 116, 114, 111, 108]⟩
/-- the directives of a list of parts -/
def ofParts (L : List ByteArray) : List Fld := L.filterMap dirAt
/-- the directives of a list of fields -/
def dirs (l : List Fld) : List Fld := ofParts (Sign.split (Flds.get l ccName).1)
theorem ofParts_take (L : List ByteArray) (k : Nat) (h : k < L.length) : ofParts (L.take (k + 1)) = ofParts (L.take k) ++ (if isDir L[k] = true then [dirOf L[k]] else []) := by
  unfold ofParts
  rw [List.take_succ_eq_append_getElem h, List.filterMap_append]
  congr 1
  simp only [List.filterMap_cons, List.filterMap_nil]
  unfold dirAt
  by_cases h2 : isDir L[k] = true
  · rw [if_pos h2, if_pos h2]
  · rw [if_neg h2, if_neg h2]
theorem ofParts_len (L : List ByteArray) : (ofParts L).length ≤ L.length := List.length_filterMap_le _ _
theorem ofParts_small {L : List ByteArray} {n : Nat} (h : ∀ t ∈ L, t.size ≤ n) : ∀ f ∈ ofParts L, f.1.size ≤ n ∧ f.2.size ≤ n := by
  intro f hf
  obtain ⟨t, ht, he⟩ := List.mem_filterMap.1 hf
  unfold dirAt at he
  split at he
  · cases he
    have h1 := h t ht
    have h2 := name_size t
    have h3 := behind_size t
    have h4 := unq_size (behind t)
    unfold dirOf
    simp only
    rw [Sign.size_lower]
    omega
  · cases he
theorem part_small (s : ByteArray) (a b : Nat) : ∀ t ∈ Sign.part s a b, t.size ≤ s.size := by
  intro t ht
  unfold Sign.part at ht
  split at ht
  · cases ht
  · obtain rfl := List.mem_singleton.1 ht
    have h1 := Sign.trim_size (s.extract a b)
    have h2 : (s.extract a b).size ≤ s.size := by rw [ByteArray.size_extract]; omega
    omega
theorem rest_small (s : ByteArray) : ∀ (n a : Nat) (q : Bool), ∀ t ∈ Sign.rest s n a q, t.size ≤ s.size := by
  intro n
  induction n using Nat.strongRecOn with
  | _ n ih =>
    intro a q
    cases n with
    | zero => exact part_small s a s.size
    | succ m =>
      rw [Sign.rest_succ]
      split
      · exact ih m (by omega) a (!q)
      · split
        · exact ih (m - 1) (by omega) a q
        · split
          · intro t ht
            rcases List.mem_append.1 ht with h | h
            · exact part_small s a _ t h
            · exact ih m (by omega) _ q t h
          · exact ih m (by omega) a q
theorem split_small (s : ByteArray) : ∀ t ∈ Sign.split s, t.size ≤ s.size := rest_small s s.size 0 false
theorem split_len (s : ByteArray) : (Sign.split s).length ≤ s.size + 1 := Sign.length_rest s s.size 0 false
/-- what is got of a name that is not empty is no longer than the list -/
theorem get_bulk (l : List Fld) (name : ByteArray) (hn : 0 < name.size) : (Flds.get l name).1.size ≤ Flds.bulk l := by
  refine Num.snoc_ind (P := fun l => (Flds.get l name).1.size ≤ Flds.bulk l) (Nat.zero_le _) ?_ l
  intro l f ih
  have e : Flds.get (l ++ [f]) name = Flds.getStep name (Flds.get l name) f := by unfold Flds.get; rw [List.foldl_append]; rfl
  have hb : Flds.bulk (l ++ [f]) = Flds.bulk l + (1 + f.1.size + f.2.size) := by
    unfold Flds.bulk
    rw [List.length_append, List.map_append, List.sum_append]
    simp; omega
  have hz : (⟨#[44, 32]⟩ : ByteArray).size = 2 := rfl
  rw [e, hb]
  unfold Flds.getStep
  by_cases h : f.1 = name
  · rw [if_pos h]
    simp only [ByteArray.size_append]
    rw [h]
    split
    · rw [ByteArray.size_append, hz]; omega
    · omega
  · rw [if_neg h]; omega
theorem said_size (l : List Fld) : (Flds.get l ccName).1.size ≤ Flds.bulk l := get_bulk l ccName (by decide)
theorem dirs_len (l : List Fld) : (dirs l).length ≤ Flds.bulk l + 1 := by
  have h1 := ofParts_len (Sign.split (Flds.get l ccName).1)
  have h2 := split_len (Flds.get l ccName).1
  have h3 := said_size l
  unfold dirs
  omega
theorem dirs_small (l : List Fld) : ∀ f ∈ dirs l, f.1.size ≤ Flds.bulk l ∧ f.2.size ≤ Flds.bulk l :=
  ofParts_small (fun t ht => Nat.le_trans (split_small _ t ht) (said_size l))
/-- the lesser of what was told and a number -/
def lesser (o : Option Int) (n : Int) : Int := match o with | some b => min n b | none => n
/-- one directive more -/
def leastStep (name : ByteArray) (o : Option Int) (f : Fld) : Option Int :=
  if f.1 = name then some (lesser o (Sign.secs f.2).1) else o
/-- the least that is said of a name -/
def least (d : List Fld) (name : ByteArray) : Option Int := d.foldl (leastStep name) none
theorem least_take (d : List Fld) (name : ByteArray) (k : Nat) (h : k < d.length) : least (d.take (k + 1)) name = leastStep name (least (d.take k) name) d[k] := by
  unfold least
  rw [List.take_succ_eq_append_getElem h, List.foldl_append]; rfl
theorem least_snoc (d : List Fld) (f : Fld) (name : ByteArray) : least (d ++ [f]) name = leastStep name (least d name) f := by
  unfold least; rw [List.foldl_append]; rfl
theorem secs_bd (s : ByteArray) : 0 ≤ (Sign.secs s).1 ∧ (Sign.secs s).1 ≤ 2147483648 := by
  unfold Sign.secs
  split
  · next h => exact Sign.sec_bd _ h.2
  · exact ⟨Int.le_refl _, by decide⟩
theorem least_bd (d : List Fld) (name : ByteArray) : ∀ c, least d name = some c → 0 ≤ c ∧ c ≤ 2147483648 := by
  refine Num.snoc_ind (P := fun d => ∀ c, least d name = some c → 0 ≤ c ∧ c ≤ 2147483648) (by intro c h; cases h) ?_ d
  intro d f ih c h
  rw [least_snoc] at h
  unfold leastStep at h
  have hs := secs_bd f.2
  split at h
  · cases ho : least d name with
    | none => rw [ho] at h; unfold lesser at h; cases h; exact hs
    | some b => rw [ho] at h; unfold lesser at h; cases h; have := ih b ho; simp only; omega
  · exact ih c h
/-- is there one of that name? -/
def has (d : List Fld) (name : ByteArray) : Bool := d.any fun f => decide (f.1 = name)
theorem least_has (d : List Fld) (name : ByteArray) : (least d name).isSome = has d name := by
  refine Num.snoc_ind (P := fun d => (least d name).isSome = has d name) rfl ?_ d
  intro d f ih
  rw [least_snoc]
  unfold leastStep has at *
  rw [List.any_append, ← ih]
  by_cases h : f.1 = name
  · rw [if_pos h]; simp [h]
  · rw [if_neg h]; simp [h]
/-- the least and whether there is one -/
def sec (d : List Fld) (name : ByteArray) : Int × Bool := match least d name with | some c => (c, true) | none => (0, false)
theorem sec_two (d : List Fld) (name : ByteArray) : (sec d name).2 = has d name := by
  rw [← least_has]
  unfold sec
  cases least d name <;> rfl
/-- the specification's reckoning: the bound, and none -/
def best (d : List Fld) (name : ByteArray) : Int × Bool := match least d name with | some c => (c, true) | none => (2147483648, false)
theorem best_take (d : List Fld) (name : ByteArray) (k : Nat) (h : k < d.length) : best (d.take (k + 1)) name = if d[k].1 = name then (min (best (d.take k) name).1 (Sign.secs d[k].2).1, true) else best (d.take k) name := by
  unfold best
  rw [least_take d name k h]
  have hs := secs_bd d[k].2
  unfold leastStep
  by_cases h2 : d[k].1 = name
  · rw [if_pos h2, if_pos h2]
    cases least (d.take k) name with
    | none => unfold lesser; simp only; rw [Prod.mk.injEq]; exact ⟨by omega, rfl⟩
    | some b => unfold lesser; simp only; rw [Prod.mk.injEq]; exact ⟨by omega, rfl⟩
  · rw [if_neg h2, if_neg h2]
theorem best_bd (d : List Fld) (name : ByteArray) : 0 ≤ (best d name).1 ∧ (best d name).1 ≤ 2147483648 := by
  unfold best
  cases h : least d name with
  | none => exact ⟨by decide, by decide⟩
  | some c => exact least_bd d name c h
theorem sec_best (d : List Fld) (name : ByteArray) : sec d name = if (best d name).2 = true then ((best d name).1, true) else (0, false) := by
  unfold sec best
  cases least d name with
  | none => rfl
  | some c => rfl
end Cc
end Go.Proofs.YtkogcbnbmdeolaaDoor
namespace Go.Proofs.YtkogcbnbmdeolaaDoor
open Go.RowKit
set_option linter.unusedVariables false
namespace Vary
open Flds (Fld)

def varyName : ByteArray := ⟨#[118, 97, 114, 121]⟩
/-- is it one of them? -/
def inL (o : List ByteArray) (n : ByteArray) : Bool := o.any fun x => decide (x = n)
theorem inL_iff {o : List ByteArray} {n : ByteArray} : inL o n = true ↔ n ∈ o := by
  unfold inL
  rw [List.any_eq_true]
  exact ⟨fun ⟨x, hx, e⟩ => (of_decide_eq_true e) ▸ hx, fun h => ⟨n, h, decide_eq_true rfl⟩⟩
/-- a name more, where it is not there -/
def nameStep (o : List ByteArray) (t : ByteArray) : List ByteArray := if inL o (Sign.lower t) = true then o else o ++ [Sign.lower t]
def names (L : List ByteArray) : List ByteArray := L.foldl nameStep []
def varyNames (l : List Fld) : List ByteArray := names (Sign.split (Flds.get l varyName).1)
theorem names_take (L : List ByteArray) (i : Nat) (h : i < L.length) : names (L.take (i + 1)) = nameStep (names (L.take i)) L[i] := by
  unfold names
  rw [List.take_succ_eq_append_getElem h, List.foldl_append]; rfl
theorem names_snoc (L : List ByteArray) (t : ByteArray) : names (L ++ [t]) = nameStep (names L) t := by unfold names; rw [List.foldl_append]; rfl
theorem names_len (L : List ByteArray) : (names L).length ≤ L.length := by
  refine Num.snoc_ind (P := fun L => (names L).length ≤ L.length) (Nat.le_refl _) ?_ L
  intro l t ih
  rw [names_snoc, List.length_append, List.length_singleton]
  unfold nameStep
  split
  · omega
  · rw [List.length_append, List.length_singleton]; omega
/-- each is the small form of a part -/
theorem names_of (L : List ByteArray) : ∀ n ∈ names L, ∃ t ∈ L, n = Sign.lower t := by
  refine Num.snoc_ind (P := fun L => ∀ n ∈ names L, ∃ t ∈ L, n = Sign.lower t) (fun n hn => absurd hn List.not_mem_nil) ?_ L
  intro l t ih n hn
  rw [names_snoc] at hn
  unfold nameStep at hn
  have old : n ∈ names l → ∃ x ∈ l ++ [t], n = Sign.lower x := fun h => by
    obtain ⟨x, hx, e⟩ := ih n h
    exact ⟨x, List.mem_append_left _ hx, e⟩
  split at hn
  · exact old hn
  · rcases List.mem_append.1 hn with h | h
    · exact old h
    · exact ⟨t, by simp, List.mem_singleton.1 h⟩
/-- no two are alike -/
theorem names_once (L : List ByteArray) : (names L).Nodup := by
  refine Num.snoc_ind (P := fun L => (names L).Nodup) List.nodup_nil ?_ L
  intro l t ih
  rw [names_snoc]
  unfold nameStep
  split
  · exact ih
  · next h =>
    rw [List.nodup_append]
    exact ⟨ih, by simp, fun a ha b hb => by
      rw [List.mem_singleton.1 hb]
      intro e
      exact h (inL_iff.2 (e ▸ ha))⟩
theorem inL_take {L : List ByteArray} {x : ByteArray} {k : Nat} (hk : k < L.length) : inL (L.take (k + 1)) x = (inL (L.take k) x || decide (L[k] = x)) := by
  unfold inL
  rw [List.take_succ_eq_append_getElem hk, List.any_append, List.any_cons, List.any_nil, Bool.or_false]
end Vary
end Go.Proofs.YtkogcbnbmdeolaaDoor
