/-
  CcBack: What is said twice: the directives of a list of fields put behind itself, where each value's quotes end.
  NormNum: Parts of a list put together anew, plain: they are parted into no more than they were.
  CharsNum: What FnChars asks of texts, plain: a trimmed text is trimmed; blanks around a text are gone; each part of a list is one, and trimmed.
-/
import Derived.Test.YtkogcbnbmdeolaaDoorPab
import Derived.Test.YtkogcbnbmdeolaaDoorCalmNum
import Derived.Test.YtkogcbnbmdeolaaDoorPaa
namespace Go.Proofs.YtkogcbnbmdeolaaDoor
open Go.RowKit
set_option linter.unusedVariables false
namespace Cc
open Flds (Fld)
open Sign (rest split trim bl rest_quote rest_esc rest_comma rest_else rest_end)
open Calm (ends calm)

theorem drop_at (s : ByteArray) (i : Nat) (h : i < s.size) : s.data.toList.drop i = s[i] :: s.data.toList.drop (i + 1) := by
  have h2 : i < s.data.toList.length := by simpa using h
  rw [List.drop_eq_getElem_cons h2]; rfl
theorem take_drop_at (S : ByteArray) (d b : Nat) (hd : d < S.size) (hdb : d < b) : List.drop d (List.take b S.data.toList) = S[d] :: List.drop (d + 1) (List.take b S.data.toList) := by
  have h2 : d < (List.take b S.data.toList).length := by rw [List.length_take, Array.length_toList]; exact Nat.lt_min.2 ⟨hdb, hd⟩
  rw [List.drop_eq_getElem_cons h2, List.getElem_take]; rfl
/-- the front of a text that goes on -/
structure Front (S s : ByteArray) : Prop where
  le : s.size < S.size
  at_ : ∀ i (h : i < s.size) (h2 : i < S.size), S[i] = s[i]
  comma : ∀ h : s.size < S.size, (S[s.size]).toNat = 44
  ext : ∀ a b, b ≤ s.size → S.extract a b = s.extract a b
theorem front_part {S s : ByteArray} (h : Front S s) (a b : Nat) (hb : b ≤ s.size) : Sign.part S a b = Sign.part s a b := by
  unfold Sign.part; rw [h.ext a b hb]
theorem rest_front {S s : ByteArray} (h : Front S s) : ∀ (n i a : Nat) (q : Bool), s.size - i = n → i ≤ s.size → ends (s.data.toList.drop i) q = false → rest S (S.size - i) a q = rest s (s.size - i) a q ++ rest S (S.size - (s.size + 1)) (s.size + 1) false := by
  intro n
  induction n using Nat.strongRecOn with
  | _ n ih =>
    intro i a q hn hi he
    have hle := h.le
    by_cases hlt : i < s.size
    · have hS : i < S.size := by omega
      have hb := h.at_ i hlt hS
      rw [drop_at s i hlt] at he
      by_cases h34 : (s[i]).toNat = 34
      · rw [rest_quote S i a q hS (by rw [hb]; exact h34), rest_quote s i a q hlt h34]
        refine ih (s.size - (i + 1)) (by omega) (i + 1) a (!q) rfl (by omega) ?_
        rw [Calm.ends_quote _ _ _ h34] at he; exact he
      · by_cases h92 : q = true ∧ (s[i]).toNat = 92
        · obtain ⟨rfl, h92⟩ := h92
          rw [Calm.ends_esc _ _ h92] at he
          by_cases h2 : i + 1 < s.size
          · rw [drop_at s (i + 1) h2] at he
            rw [rest_esc S i a hS (by rw [hb]; exact h92), rest_esc s i a hlt h92]
            exact ih (s.size - (i + 2)) (by omega) (i + 2) a true rfl (by omega) he
          · rw [List.drop_eq_nil_of_le (by rw [Array.length_toList]; show s.size ≤ _; omega)] at he
            cases he
        · by_cases h44 : (s[i]).toNat = 44 ∧ q = false
          · obtain ⟨h44, rfl⟩ := h44
            rw [rest_comma S i a hS (by rw [hb]; exact h44), rest_comma s i a hlt h44, front_part h a i (by omega), List.append_assoc]
            congr 1
            refine ih (s.size - (i + 1)) (by omega) (i + 1) (i + 1) false rfl (by omega) ?_
            rw [Calm.ends_else _ _ _ h34 (by rintro ⟨e, _⟩; cases e)] at he; exact he
          · rw [rest_else S i a q hS (by rw [hb]; exact h34) (by rw [hb]; exact h92) (by rw [hb]; exact h44), rest_else s i a q hlt h34 h92 h44]
            refine ih (s.size - (i + 1)) (by omega) (i + 1) a q rfl (by omega) ?_
            rw [Calm.ends_else _ _ _ h34 h92] at he; exact he
    · obtain rfl : i = s.size := by omega
      rw [List.drop_eq_nil_of_le (by rw [Array.length_toList]; exact Nat.le_refl _)] at he
      have hq : q = false := he
      subst hq
      rw [rest_comma S s.size a hle (h.comma hle), rest_end s s.size a false (Nat.le_refl _), front_part h a s.size (Nat.le_refl _)]
/-- the back of a text, from d on -/
structure Back (S t : ByteArray) (d : Nat) : Prop where
  size : S.size = d + t.size
  at_ : ∀ i (h : i < t.size) (h2 : d + i < S.size), S[d + i] = t[i]
  ext : ∀ a b, S.extract (d + a) (d + b) = t.extract a b
theorem back_part {S t : ByteArray} {d : Nat} (h : Back S t d) (a b : Nat) : Sign.part S (d + a) (d + b) = Sign.part t a b := by
  unfold Sign.part; rw [h.ext a b]
theorem rest_back {S t : ByteArray} {d : Nat} (h : Back S t d) : ∀ (n i a : Nat) (q : Bool), t.size + 1 - i = n → i ≤ t.size + 1 → rest S (S.size - (d + i)) (d + a) q = rest t (t.size - i) a q := by
  intro n
  induction n using Nat.strongRecOn with
  | _ n ih =>
    intro i a q hn hi
    have hsz := h.size
    by_cases hlt : i < t.size
    · have hS : d + i < S.size := by omega
      have hb := h.at_ i hlt hS
      by_cases h34 : (t[i]).toNat = 34
      · rw [rest_quote S (d + i) (d + a) q hS (by rw [hb]; exact h34), rest_quote t i a q hlt h34]
        exact ih (t.size + 1 - (i + 1)) (by omega) (i + 1) a (!q) rfl (by omega)
      · by_cases h92 : q = true ∧ (t[i]).toNat = 92
        · obtain ⟨rfl, h92⟩ := h92
          rw [rest_esc S (d + i) (d + a) hS (by rw [hb]; exact h92), rest_esc t i a hlt h92]
          exact ih (t.size + 1 - (i + 2)) (by omega) (i + 2) a true rfl (by omega)
        · by_cases h44 : (t[i]).toNat = 44 ∧ q = false
          · obtain ⟨h44, rfl⟩ := h44
            rw [rest_comma S (d + i) (d + a) hS (by rw [hb]; exact h44), rest_comma t i a hlt h44, back_part h a i]
            congr 1
            exact ih (t.size + 1 - (i + 1)) (by omega) (i + 1) (i + 1) false rfl (by omega)
          · rw [rest_else S (d + i) (d + a) q hS (by rw [hb]; exact h34) (by rw [hb]; exact h92) (by rw [hb]; exact h44), rest_else t i a q hlt h34 h92 h44]
            exact ih (t.size + 1 - (i + 1)) (by omega) (i + 1) a q rfl (by omega)
    · rw [rest_end S (d + i) (d + a) q (by omega), rest_end t i a q (by omega), hsz, back_part h a t.size]
/-- a blank ahead of a part is trimmed -/
theorem rest_blank {S : ByteArray} {d : Nat} (hd : d < S.size) (hb : (S[d]).toNat = 32) : ∀ (n i : Nat) (q : Bool), S.size - i = n → d < i → rest S (S.size - i) d q = rest S (S.size - i) (d + 1) q := by
  have hp : ∀ b, d < b → Sign.part S d b = Sign.part S (d + 1) b := by
    intro b hdb
    have e : trim (S.extract d b) = trim (S.extract (d + 1) b) := by
      unfold Sign.trim
      have e1 : (S.extract d b).data.toList = S[d] :: (S.extract (d + 1) b).data.toList := by
        rw [ByteArray.data_extract, ByteArray.data_extract, Array.toList_extract, Array.toList_extract, List.extract_eq_drop_take', List.extract_eq_drop_take', take_drop_at S d b hd hdb]
      rw [e1, List.dropWhile_cons_of_pos (by unfold Sign.bl; exact decide_eq_true (Or.inl (by omega)))]
    unfold Sign.part; rw [e]
  intro n
  induction n using Nat.strongRecOn with
  | _ n ih =>
    intro i q hn hi
    by_cases hlt : i < S.size
    · by_cases h34 : (S[i]).toNat = 34
      · rw [rest_quote S i d q hlt h34, rest_quote S i (d + 1) q hlt h34]
        exact ih (S.size - (i + 1)) (by omega) (i + 1) (!q) rfl (by omega)
      · by_cases h92 : q = true ∧ (S[i]).toNat = 92
        · obtain ⟨rfl, h92⟩ := h92
          rw [rest_esc S i d hlt h92, rest_esc S i (d + 1) hlt h92]
          exact ih (S.size - (i + 2)) (by omega) (i + 2) true rfl (by omega)
        · by_cases h44 : (S[i]).toNat = 44 ∧ q = false
          · obtain ⟨h44, rfl⟩ := h44
            rw [rest_comma S i d hlt h44, rest_comma S i (d + 1) hlt h44, hp i hi]
          · rw [rest_else S i d q hlt h34 h92 h44, rest_else S i (d + 1) q hlt h34 h92 h44]
            exact ih (S.size - (i + 1)) (by omega) (i + 1) q rfl (by omega)
    · rw [rest_end S i d q (by omega), rest_end S i (d + 1) q (by omega), hp S.size hd]
theorem back_list (S t : ByteArray) (p : List UInt8) (h : S.data.toList = p ++ t.data.toList) : Back S t p.length where
  size := by
    have := congrArg List.length h
    rw [Array.length_toList, List.length_append, Array.length_toList] at this
    exact this
  at_ := by
    intro i hi h2
    have e1 : S[p.length + i] = S.data.toList[p.length + i]'(by rw [Array.length_toList]; exact h2) := by simp [ByteArray.getElem_eq_getElem_data]
    have e2 : t[i] = t.data.toList[i]'(by rw [Array.length_toList]; exact hi) := by simp [ByteArray.getElem_eq_getElem_data]
    rw [e1, e2]
    simp only [h]
    rw [List.getElem_append_right (by omega)]
    simp
  ext := by
    intro a b
    apply ByteArray.ext
    apply Array.toList_inj.1
    rw [ByteArray.data_extract, ByteArray.data_extract, Array.toList_extract, Array.toList_extract, List.extract_eq_drop_take', List.extract_eq_drop_take', h, List.take_length_add_append, List.drop_length_add_append]
theorem front_list (S s : ByteArray) (q : List UInt8) (h : S.data.toList = s.data.toList ++ 44 :: q) : Front S s where
  le := by
    have := congrArg List.length h
    rw [Array.length_toList, List.length_append, Array.length_toList, List.length_cons] at this
    have e1 : S.size = S.data.size := rfl
    have e2 : s.size = s.data.size := rfl
    omega
  at_ := by
    intro i hi h2
    have e1 : S[i] = S.data.toList[i]'(by rw [Array.length_toList]; exact h2) := by simp [ByteArray.getElem_eq_getElem_data]
    have e2 : s[i] = s.data.toList[i]'(by rw [Array.length_toList]; exact hi) := by simp [ByteArray.getElem_eq_getElem_data]
    rw [e1, e2]
    simp only [h]
    rw [List.getElem_append_left (by rw [Array.length_toList]; exact hi)]
  comma := by
    intro h2
    have e1 : S[s.size] = S.data.toList[s.size]'(by rw [Array.length_toList]; exact h2) := by simp [ByteArray.getElem_eq_getElem_data]
    have e3 : s.data.toList.length = s.size := by rw [Array.length_toList]; rfl
    rw [e1]
    simp only [h]
    rw [List.getElem_append_right (by omega)]
    simp [e3]
  ext := by
    intro a b hb
    apply ByteArray.ext
    apply Array.toList_inj.1
    have e3 : s.data.toList.length = s.size := by rw [Array.length_toList]; rfl
    rw [ByteArray.data_extract, ByteArray.data_extract, Array.toList_extract, Array.toList_extract, List.extract_eq_drop_take', List.extract_eq_drop_take', h]
    rw [List.take_append_of_le_length (by omega)]
/-- a list behind a comma and a blank: the parts of both -/
theorem split_app (s t : ByteArray) (h : calm s = true) : split (s ++ ⟨#[44, 32]⟩ ++ t) = split s ++ split t := by
  have hl : (s ++ ⟨#[44, 32]⟩ ++ t).data.toList = s.data.toList ++ 44 :: 32 :: t.data.toList := by simp [ByteArray.data_append]
  generalize s ++ ⟨#[44, 32]⟩ ++ t = S at hl
  have hf := front_list S s _ hl
  have e3 : s.data.toList.length = s.size := by rw [Array.length_toList]; rfl
  have hb := back_list S t (s.data.toList ++ [44, 32]) (by rw [hl]; simp)
  have hd : (s.data.toList ++ [44, 32]).length = s.size + 2 := by simp
  rw [hd] at hb
  have h32 : ∀ h : s.size + 1 < S.size, (S[s.size + 1]).toNat = 32 := by
    intro h2
    have e1 : S[s.size + 1] = S.data.toList[s.size + 1]'(by rw [Array.length_toList]; exact h2) := by simp [ByteArray.getElem_eq_getElem_data]
    rw [e1]
    simp only [hl]
    rw [List.getElem_append_right (by omega)]
    simp [e3, show s.size + 1 - s.size = 1 by omega]
  have hlt : s.size + 1 < S.size := by have := hb.size; omega
  have h1 := rest_front hf s.size 0 0 false rfl (Nat.zero_le _) (by rw [List.drop_zero]; exact Calm.calm_iff h)
  rw [Nat.sub_zero, Nat.sub_zero] at h1
  unfold Sign.split
  rw [h1]
  congr 1
  have hc := h32 hlt
  rw [rest_else S (s.size + 1) (s.size + 1) false hlt (by omega) (by rintro ⟨e, _⟩; cases e) (by omega)]
  rw [rest_blank hlt hc _ (s.size + 1 + 1) false rfl (by omega)]
  have h2 := rest_back hb _ 0 0 false rfl (Nat.zero_le _)
  rw [Nat.add_zero, Nat.sub_zero] at h2
  exact h2
theorem split_empty : split ⟨#[]⟩ = [] := by
  unfold Sign.split
  show Sign.part _ _ _ = []
  unfold Sign.part
  rw [if_pos]
  have := Sign.trim_size ((⟨#[]⟩ : ByteArray).extract 0 (⟨#[]⟩ : ByteArray).size)
  have e : ((⟨#[]⟩ : ByteArray).extract 0 (⟨#[]⟩ : ByteArray).size).size = 0 := by rw [ByteArray.size_extract]; rfl
  omega
/-- what is got of two lists -/
def both (r m : ByteArray × Bool) : ByteArray × Bool := if r.2 = true then (if m.2 = true then (r.1 ++ ⟨#[44, 32]⟩ ++ m.1, true) else r) else m
theorem get_two (l m : List Fld) (name : ByteArray) : Flds.get (l ++ m) name = both (Flds.get l name) (Flds.get m name) := by
  have hz : ∀ l : List Fld, (Flds.get l name).2 = false → (Flds.get l name).1 = ⟨#[]⟩ := by
    intro l
    refine Num.snoc_ind (P := fun l => (Flds.get l name).2 = false → (Flds.get l name).1 = ⟨#[]⟩) (fun _ => rfl) ?_ l
    intro l f ih h
    have e : Flds.get (l ++ [f]) name = Flds.getStep name (Flds.get l name) f := by unfold Flds.get; rw [List.foldl_append]; rfl
    rw [e] at h ⊢
    unfold Flds.getStep at *
    split at h
    · cases h
    · next hn => rw [if_neg hn]; exact ih h
  refine Num.snoc_ind (P := fun m => Flds.get (l ++ m) name = both (Flds.get l name) (Flds.get m name)) ?_ ?_ m
  · rw [List.append_nil]
    have e : Flds.get [] name = (⟨#[]⟩, false) := rfl
    rw [e]
    unfold both
    by_cases h : (Flds.get l name).2 = true
    · rw [if_pos h]; rfl
    · rw [if_neg h]
      have h2 : (Flds.get l name).2 = false := by simpa using h
      exact Prod.ext (hz l h2) h2
  · intro m f ih
    have e1 : Flds.get (l ++ (m ++ [f])) name = Flds.getStep name (Flds.get (l ++ m) name) f := by rw [← List.append_assoc]; unfold Flds.get; rw [List.foldl_append]; rfl
    have e2 : Flds.get (m ++ [f]) name = Flds.getStep name (Flds.get m name) f := by unfold Flds.get; rw [List.foldl_append]; rfl
    rw [e1, e2, ih]
    have hm := hz m
    generalize Flds.get l name = r
    generalize Flds.get m name = k at hm ⊢
    obtain ⟨r1, r2⟩ := r
    obtain ⟨k1, k2⟩ := k
    simp only at hm
    unfold both Flds.getStep
    by_cases hf : f.1 = name
    · rw [if_pos hf, if_pos hf]
      cases r2 <;> cases k2 <;> simp
      · rw [hm rfl]
        apply ByteArray.ext; simp [ByteArray.data_append]
      · apply ByteArray.ext; simp [ByteArray.data_append]
    · rw [if_neg hf, if_neg hf]
theorem cc_same : ccName = Calm.cc := rfl
/-- what is got of it ends its quotes -/
theorem get_calm (l : List Fld) (h : ∀ f ∈ l, Calm.Said f.1 f.2) : calm (Flds.get l ccName).1 = true := by
  revert h
  refine Num.snoc_ind (P := fun l => (∀ f ∈ l, Calm.Said f.1 f.2) → calm (Flds.get l ccName).1 = true) (fun _ => Calm.calm_empty) ?_ l
  intro l f ih h
  have e : Flds.get (l ++ [f]) ccName = Flds.getStep ccName (Flds.get l ccName) f := by unfold Flds.get; rw [List.foldl_append]; rfl
  have i1 := ih (fun g hg => h g (List.mem_append_left _ hg))
  rw [e]
  unfold Flds.getStep
  by_cases hn : f.1 = ccName
  · have i2 := h f (by simp) hn
    rw [if_pos hn]
    simp only
    refine Calm.calm_app ?_ i2
    split
    · exact Calm.calm_app i1 Calm.calm_comma
    · exact i1
  · rw [if_neg hn]; exact i1
theorem parts_app (L M : List ByteArray) : ofParts (L ++ M) = ofParts L ++ ofParts M := by unfold ofParts; exact List.filterMap_append
/-- what stands twice is said twice -/
theorem dirs_twice (l : List Fld) (h : ∀ f ∈ l, Calm.Said f.1 f.2) : dirs (l ++ l) = dirs l ++ dirs l := by
  have hc := get_calm l h
  unfold dirs
  rw [get_two]
  unfold both
  by_cases hb : (Flds.get l ccName).2 = true
  · rw [if_pos hb, if_pos hb]
    simp only
    rw [split_app _ _ hc, parts_app]
  · rw [if_neg hb]
    have h2 : (Flds.get l ccName).1 = ⟨#[]⟩ := by
      have := get_two l [] ccName
      rw [List.append_nil] at this
      unfold both at this
      rw [if_neg hb] at this
      rw [this]; rfl
    rw [h2, split_empty]; rfl
def comb : Option Int → Option Int → Option Int
  | none, y => y
  | some a, none => some a
  | some a, some b => some (min a b)
theorem least_two (d e : List Fld) (name : ByteArray) : least (d ++ e) name = comb (least d name) (least e name) := by
  refine Num.snoc_ind (P := fun e => least (d ++ e) name = comb (least d name) (least e name)) ?_ ?_ e
  · rw [List.append_nil]
    show _ = comb (least d name) none
    cases least d name <;> rfl
  · intro e f ih
    rw [← List.append_assoc, least_snoc, least_snoc, ih]
    unfold leastStep
    by_cases hf : f.1 = name
    · rw [if_pos hf, if_pos hf]
      cases least d name with
      | none => rfl
      | some a =>
        cases least e name with
        | none => simp [comb, lesser, Int.min_comm]
        | some b => simp only [comb, lesser, Option.some.injEq]; omega
    · rw [if_neg hf, if_neg hf]
theorem sec_twice (d : List Fld) (name : ByteArray) : sec (d ++ d) name = sec d name := by
  unfold sec
  rw [least_two]
  cases least d name with
  | none => rfl
  | some a => simp [comb]
theorem least_some (d : List Fld) (name : ByteArray) (i : Nat) (hi : i < d.length) (h : d[i].1 = name) : ∃ c, least d name = some c ∧ c ≤ (Sign.secs d[i].2).1 := by
  have hd : d = d.take (i + 1) ++ d.drop (i + 1) := (List.take_append_drop _ _).symm
  have h1 : least (d.take (i + 1)) name = some (lesser (least (d.take i) name) (Sign.secs d[i].2).1) := by
    rw [least_take d name i hi]; unfold leastStep; rw [if_pos h]
  have h2 : lesser (least (d.take i) name) (Sign.secs d[i].2).1 ≤ (Sign.secs d[i].2).1 := by
    unfold lesser
    split <;> omega
  have h3 : least d name = comb (least (d.take (i + 1)) name) (least (d.drop (i + 1)) name) := by
    rw [← least_two, List.take_append_drop]
  rw [h3, h1]
  generalize lesser (least (d.take i) name) (Sign.secs d[i].2).1 = a at h2
  cases least (d.drop (i + 1)) name with
  | none => exact ⟨a, rfl, h2⟩
  | some b => exact ⟨min a b, rfl, by omega⟩
theorem lower_twice (s : ByteArray) : Sign.lower (Sign.lower s) = Sign.lower s := by
  unfold Sign.lower
  apply ByteArray.ext
  apply Array.toList_inj.1
  simp only [List.map_map]
  apply List.map_congr_left
  intro b _
  show Sign.lowB (Sign.lowB b) = Sign.lowB b
  by_cases h : Sign.up (b.toNat : Int)
  · refine Sign.lowB_no _ ?_
    have := Sign.lowB_up b h
    unfold Sign.up at *
    omega
  · rw [Sign.lowB_no b h, Sign.lowB_no b h]
theorem dirs_small_names (l : List Fld) : ∀ f ∈ dirs l, Sign.lower f.1 = f.1 := by
  intro f hf
  obtain ⟨t, _, he⟩ := List.mem_filterMap.1 hf
  unfold dirAt at he
  split at he
  · cases he
    exact lower_twice _
  · cases he
end Cc
end Go.Proofs.YtkogcbnbmdeolaaDoor
namespace Go.Proofs.YtkogcbnbmdeolaaDoor
open Go.RowKit
set_option linter.unusedVariables false
namespace Norm
open Sign (rest split trim bl rest_quote rest_esc rest_comma rest_else rest_end)
open Calm (ends calm)

/-- one byte: within quotes (1), behind a sign of escape (2), outside (0); and whether no comma was met outside -/
def stp (p : Nat × Bool) (c : UInt8) : Nat × Bool :=
  (if p.1 = 2 then 1 else if c.toNat = 34 then (if p.1 = 0 then 1 else 0) else if p.1 = 1 ∧ c.toNat = 92 then 2 else p.1, p.2 && !(decide (p.1 = 0) && decide (c.toNat = 44)))
def run (l : List UInt8) : Nat × Bool := l.foldl stp (0, true)
theorem run_app (x y : List UInt8) : run (x ++ y) = y.foldl stp (run x) := List.foldl_append
theorem run_snoc (x : List UInt8) (c : UInt8) : run (x ++ [c]) = stp (run x) c := by rw [run_app]; rfl
theorem stays (l : List UInt8) : ∀ p : Nat × Bool, p.2 = false → (l.foldl stp p).2 = false := by
  induction l with
  | nil => intro p h; exact h
  | cons c t ih => intro p h; exact ih _ (by unfold stp; simp [h])
theorem run_front {x y : List UInt8} (h : (run (x ++ y)).2 = true) : (run x).2 = true := by
  rw [run_app] at h
  cases hx : (run x).2 with
  | true => rfl
  | false => rw [stays y _ hx] at h; cases h
theorem fst_same (l : List UInt8) : ∀ p q : Nat × Bool, p.1 = q.1 → (l.foldl stp p).1 = (l.foldl stp q).1 := by
  induction l with
  | nil => intro p q h; exact h
  | cons c t ih =>
    intro p q h
    rw [List.foldl_cons, List.foldl_cons]
    exact ih _ _ (by unfold stp; simp only [h])
theorem ends_run : ∀ (n : Nat) (l : List UInt8) (q : Bool), l.length = n → ends l q = decide ((l.foldl stp (if q = true then 1 else 0, true)).1 ≠ 0) := by
  intro n
  induction n using Nat.strongRecOn with
  | _ n ih =>
    intro l q hl
    cases l with
    | nil => cases q <;> rfl
    | cons c t =>
      simp only [List.length_cons] at hl
      rw [List.foldl_cons]
      by_cases h1 : c.toNat = 34
      · rw [Calm.ends_quote c t q h1, ih t.length (by omega) t (!q) rfl]
        refine congrArg (fun x => decide (x ≠ 0)) (fst_same _ _ _ ?_)
        cases q <;> simp [stp, h1]
      · by_cases h2 : q = true ∧ c.toNat = 92
        · obtain ⟨rfl, h2⟩ := h2
          rw [Calm.ends_esc c t h2]
          cases t with
          | nil => simp [stp, h2]
          | cons d u =>
            simp only [List.length_cons] at hl
            simp only [List.foldl_cons]
            rw [ih u.length (by omega) u true rfl]
            refine congrArg (fun x => decide (x ≠ 0)) (fst_same _ _ _ ?_)
            simp [stp, h2]
        · rw [Calm.ends_else c t q h1 h2, ih t.length (by omega) t q rfl]
          refine congrArg (fun x => decide (x ≠ 0)) (fst_same _ _ _ ?_)
          cases q with
          | false => simp [stp, h1]
          | true =>
            have h3 : ¬ c.toNat = 92 := fun h => h2 ⟨rfl, h⟩
            simp [stp, h1, h3]
theorem calm_run {s : ByteArray} (h : (run s.data.toList).1 = 0) : calm s = true := by
  refine Calm.of_ends ?_
  rw [ends_run _ _ false rfl]
  exact decide_eq_false (fun hn => hn h)
theorem bl_toNat {c : UInt8} (h : bl c = true) : c.toNat = 32 ∨ c.toNat = 9 := by
  unfold Sign.bl Sign.blank at h
  have := of_decide_eq_true h
  omega
theorem stp_blank {c : UInt8} (h : bl c = true) : stp (0, true) c = (0, true) := by
  have h := bl_toNat h
  have h1 : ¬ c.toNat = 34 := by omega
  have h2 : ¬ c.toNat = 44 := by omega
  simp [stp, h1, h2]
theorem run_blanks : ∀ l : List UInt8, (∀ b ∈ l, bl b = true) → run l = (0, true) := by
  intro l h
  unfold run
  induction l with
  | nil => rfl
  | cons c t ih =>
    rw [List.foldl_cons, stp_blank (h c (by simp))]
    exact ih (fun b hb => h b (List.mem_cons_of_mem _ hb))
theorem back_blanks (x : List UInt8) : ∀ l : List UInt8, (∀ b ∈ l, bl b = true) → (run (x ++ l)).1 = 0 → (run x).1 = 0 := by
  intro l
  refine Num.snoc_ind (P := fun l => (∀ b ∈ l, bl b = true) → (run (x ++ l)).1 = 0 → (run x).1 = 0) (fun _ h => by rwa [List.append_nil] at h) ?_ l
  intro l c ih hb h
  rw [← List.append_assoc, run_snoc] at h
  refine ih (fun b hb' => hb b (by simp [hb'])) ?_
  have hc := bl_toNat (hb c (by simp))
  have h1 : ¬ c.toNat = 34 := by omega
  have h2 : ¬ c.toNat = 92 := by omega
  unfold stp at h
  simp only [h1, h2, if_false, and_false] at h
  split at h
  · cases h
  · exact h
theorem all_take (l : List UInt8) : ∀ b ∈ l.takeWhile bl, bl b = true := by
  induction l with
  | nil => intro b hb; cases hb
  | cons c t ih =>
    intro b hb
    rw [List.takeWhile_cons] at hb
    by_cases hc : bl c = true
    · rw [if_pos hc] at hb
      rcases List.mem_cons.1 hb with rfl | h
      · exact hc
      · exact ih b h
    · rw [if_neg hc] at hb; cases hb
/-- what a text tells that is trimmed -/
theorem run_trim (s : ByteArray) (h : (run s.data.toList).2 = true) : (run (trim s).data.toList).2 = true ∧ ((run s.data.toList).1 = 0 → (run (trim s).data.toList).1 = 0) := by
  have e1 : (trim s).data.toList = ((s.data.toList.dropWhile bl).reverse.dropWhile bl).reverse := by unfold Sign.trim; simp
  rw [e1]
  generalize s.data.toList = x at h ⊢
  have e2 : run x = run (x.dropWhile bl) := by
    conv => lhs; rw [← List.takeWhile_append_dropWhile (p := bl) (l := x)]
    rw [run_app, run_blanks _ (all_take x)]
    rfl
  rw [e2] at h ⊢
  generalize x.dropWhile bl = y at h ⊢
  have e3 : y = (y.reverse.dropWhile bl).reverse ++ (y.reverse.takeWhile bl).reverse := by
    rw [← List.reverse_append, List.takeWhile_append_dropWhile, List.reverse_reverse]
  have hb : ∀ b ∈ (y.reverse.takeWhile bl).reverse, bl b = true := fun b hb => all_take _ b (List.mem_reverse.1 hb)
  generalize (y.reverse.dropWhile bl).reverse = z at e3 ⊢
  generalize (y.reverse.takeWhile bl).reverse = r at e3 hb
  subst e3
  exact ⟨run_front h, back_blanks z r hb⟩
/-- a stretch of a text -/
def seg (s : ByteArray) (a i : Nat) : List UInt8 := (s.data.toList.drop a).take (i - a)
theorem seg_extract (s : ByteArray) (a b : Nat) : (s.extract a b).data.toList = seg s a b := by
  unfold seg
  rw [ByteArray.data_extract, Array.toList_extract]
theorem seg_none (s : ByteArray) (a : Nat) : seg s a a = [] := by unfold seg; simp
theorem seg_next (s : ByteArray) (a i : Nat) (ha : a ≤ i) (hi : i < s.size) : seg s a (i + 1) = seg s a i ++ [s[i]] := by
  unfold seg
  have hl : i - a < (s.data.toList.drop a).length := by rw [List.length_drop, Array.length_toList]; show i - a < s.size - a; omega
  rw [show i + 1 - a = i - a + 1 by omega, List.take_succ_eq_append_getElem hl]
  congr 2
  rw [List.getElem_drop]
  have e : a + (i - a) = i := by omega
  simp only [e]
  rfl
theorem run_next (s : ByteArray) (a i : Nat) (ha : a ≤ i) (hi : i < s.size) (p : Nat × Bool) (h : run (seg s a i) = p) : run (seg s a (i + 1)) = stp p s[i] := by
  rw [seg_next s a i ha hi, run_snoc, h]
/-- each has no comma outside of quotes; but for the last one, each ends its quotes -/
def Good (L : List ByteArray) : Prop := (∀ p ∈ L, (run p.data.toList).2 = true) ∧ ∀ p ∈ L.dropLast, (run p.data.toList).1 = 0
theorem good_part (s : ByteArray) (a b : Nat) (h : (run (seg s a b)).2 = true) : Good (Sign.part s a b) := by
  unfold Sign.part
  split
  · exact ⟨fun p hp => absurd hp List.not_mem_nil, fun p hp => absurd hp List.not_mem_nil⟩
  · refine ⟨fun p hp => ?_, fun p hp => absurd hp List.not_mem_nil⟩
    rw [List.mem_singleton.1 hp]
    exact (run_trim _ (by rw [seg_extract]; exact h)).1
theorem part_calm (s : ByteArray) (a b : Nat) (h : run (seg s a b) = (0, true)) : ∀ p ∈ Sign.part s a b, (run p.data.toList).1 = 0 := by
  intro p hp
  unfold Sign.part at hp
  split at hp
  · cases hp
  · rw [List.mem_singleton.1 hp]
    exact (run_trim _ (by rw [seg_extract, h])).2 (by rw [seg_extract, h])
theorem good_app {P L : List ByteArray} (h1 : Good P) (h2 : ∀ p ∈ P, (run p.data.toList).1 = 0) (h3 : Good L) : Good (P ++ L) := by
  refine ⟨fun p hp => ?_, fun p hp => ?_⟩
  · rcases List.mem_append.1 hp with h | h
    · exact h1.1 p h
    · exact h3.1 p h
  · by_cases hl : L = []
    · subst hl
      rw [List.append_nil] at hp
      exact h1.2 p hp
    · rw [List.dropLast_append_of_ne_nil hl] at hp
      rcases List.mem_append.1 hp with h | h
      · exact h2 p h
      · exact h3.2 p h
theorem good_rest (s : ByteArray) : ∀ (n i a : Nat) (q : Bool), s.size - i = n → a ≤ i → i ≤ s.size → run (seg s a i) = (if q = true then 1 else 0, true) → Good (rest s (s.size - i) a q) := by
  intro n
  induction n using Nat.strongRecOn with
  | _ n ih =>
    intro i a q hn ha hi hr
    by_cases hlt : i < s.size
    · by_cases h1 : (s[i]).toNat = 34
      · rw [rest_quote s i a q hlt h1]
        refine ih (s.size - (i + 1)) (by omega) (i + 1) a (!q) rfl (by omega) (by omega) ?_
        rw [run_next s a i ha hlt _ hr]
        cases q <;> simp [stp, h1]
      · by_cases h2 : q = true ∧ (s[i]).toNat = 92
        · obtain ⟨rfl, h2⟩ := h2
          rw [rest_esc s i a hlt h2]
          have e1 := run_next s a i ha hlt _ hr
          have e2 : stp (if true = true then 1 else 0, true) s[i] = (2, true) := by simp [stp, h2]
          rw [e2] at e1
          by_cases hlt2 : i + 1 < s.size
          · refine ih (s.size - (i + 2)) (by omega) (i + 2) a true rfl (by omega) (by omega) ?_
            rw [run_next s a (i + 1) (by omega) hlt2 _ e1]
            simp [stp]
          · rw [rest_end s (i + 2) a true (by omega)]
            refine good_part s a s.size ?_
            rw [show s.size = i + 1 by omega, e1]
        · by_cases h3 : (s[i]).toNat = 44 ∧ q = false
          · obtain ⟨h3, rfl⟩ := h3
            rw [rest_comma s i a hlt h3]
            have hr0 : run (seg s a i) = (0, true) := hr
            exact good_app (good_part s a i (by rw [hr0])) (part_calm s a i hr0) (ih (s.size - (i + 1)) (by omega) (i + 1) (i + 1) false rfl (Nat.le_refl _) (by omega) (by rw [seg_none]; rfl))
          · rw [rest_else s i a q hlt h1 h2 h3]
            refine ih (s.size - (i + 1)) (by omega) (i + 1) a q rfl (by omega) (by omega) ?_
            rw [run_next s a i ha hlt _ hr]
            cases q with
            | false =>
              have h4 : ¬ (s[i]).toNat = 44 := fun h => h3 ⟨h, rfl⟩
              simp [stp, h1, h4]
            | true =>
              have h4 : ¬ (s[i]).toNat = 92 := fun h => h2 ⟨rfl, h⟩
              simp [stp, h1, h4]
    · rw [rest_end s i a q (by omega)]
      refine good_part s a s.size ?_
      rw [show s.size = i by omega, hr]
theorem good_split (s : ByteArray) : Good (split s) := by
  have h := good_rest s (s.size - 0) 0 0 false rfl (Nat.le_refl _) (Nat.zero_le _) (by rw [seg_none]; rfl)
  exact h
/-- a text without a comma outside of quotes is one part, or none -/
theorem one_rest (s : ByteArray) (h : (run s.data.toList).2 = true) : ∀ (n i : Nat) (q : Bool), s.size - i = n → i ≤ s.size → run (seg s 0 i) = (if q = true then 1 else 0, true) → rest s (s.size - i) 0 q = Sign.part s 0 s.size := by
  intro n
  induction n using Nat.strongRecOn with
  | _ n ih =>
    intro i q hn hi hr
    by_cases hlt : i < s.size
    · by_cases h1 : (s[i]).toNat = 34
      · rw [rest_quote s i 0 q hlt h1]
        refine ih (s.size - (i + 1)) (by omega) (i + 1) (!q) rfl (by omega) ?_
        rw [run_next s 0 i (Nat.zero_le _) hlt _ hr]
        cases q <;> simp [stp, h1]
      · by_cases h2 : q = true ∧ (s[i]).toNat = 92
        · obtain ⟨rfl, h2⟩ := h2
          rw [rest_esc s i 0 hlt h2]
          have e1 := run_next s 0 i (Nat.zero_le _) hlt _ hr
          have e2 : stp (if true = true then 1 else 0, true) s[i] = (2, true) := by simp [stp, h2]
          rw [e2] at e1
          by_cases hlt2 : i + 1 < s.size
          · refine ih (s.size - (i + 2)) (by omega) (i + 2) true rfl (by omega) ?_
            rw [run_next s 0 (i + 1) (by omega) hlt2 _ e1]
            simp [stp]
          · rw [rest_end s (i + 2) 0 true (by omega)]
        · by_cases h3 : (s[i]).toNat = 44 ∧ q = false
          · exfalso
            obtain ⟨h3, rfl⟩ := h3
            have hr0 : run (seg s 0 i) = (0, true) := hr
            have e1 := run_next s 0 i (Nat.zero_le _) hlt _ hr0
            have e2 : s.data.toList = seg s 0 (i + 1) ++ s.data.toList.drop (i + 1) := by unfold seg; simp
            rw [e2] at h
            have := run_front h
            rw [e1] at this
            simp [stp, h3] at this
          · rw [rest_else s i 0 q hlt h1 h2 h3]
            refine ih (s.size - (i + 1)) (by omega) (i + 1) q rfl (by omega) ?_
            rw [run_next s 0 i (Nat.zero_le _) hlt _ hr]
            cases q with
            | false =>
              have h4 : ¬ (s[i]).toNat = 44 := fun h => h3 ⟨h, rfl⟩
              simp [stp, h1, h4]
            | true =>
              have h4 : ¬ (s[i]).toNat = 92 := fun h => h2 ⟨rfl, h⟩
              simp [stp, h1, h4]
    · rw [rest_end s i 0 q (by omega)]
theorem one_part (s : ByteArray) (h : (run s.data.toList).2 = true) : (split s).length ≤ 1 := by
  have e : split s = Sign.part s 0 s.size := one_rest s h (s.size - 0) 0 false rfl (Nat.zero_le _) (by rw [seg_none]; rfl)
  rw [e]
  unfold Sign.part
  split <;> simp
/-- one part more, put behind what was put together -/
def putStep (o : ByteArray × Bool) (t : ByteArray) : ByteArray × Bool := (if o.2 = true then o.1 ++ ⟨#[44, 32]⟩ ++ t else t, true)
def joined (L : List ByteArray) : ByteArray := (L.foldl putStep (⟨#[]⟩, false)).1
/-- a value with its parts put together anew -/
def normal (s : ByteArray) : ByteArray := joined (split s)
theorem put_eq (o : ByteArray × Bool) (t : ByteArray) : (putStep o t).1 = if o.2 = true then o.1 ++ ⟨#[44, 32]⟩ ++ t else t := rfl
theorem put_flag (L : List ByteArray) : (L.foldl putStep (⟨#[]⟩, false)).2 = !L.isEmpty := by
  refine Num.snoc_ind (P := fun L => (L.foldl putStep (⟨#[]⟩, false)).2 = !L.isEmpty) rfl ?_ L
  intro l t _
  rw [List.foldl_append]
  simp [putStep]
theorem joined_snoc (L : List ByteArray) (t : ByteArray) : joined (L ++ [t]) = if L = [] then t else joined L ++ ⟨#[44, 32]⟩ ++ t := by
  unfold joined
  rw [List.foldl_append, List.foldl_cons, List.foldl_nil, put_eq, put_flag]
  cases L with
  | nil => rfl
  | cons x l => simp
theorem joined_calm (L : List ByteArray) : (∀ p ∈ L, calm p = true) → calm (joined L) = true := by
  refine Num.snoc_ind (P := fun L => (∀ p ∈ L, calm p = true) → calm (joined L) = true) (fun _ => Calm.calm_empty) ?_ L
  intro l t ih h
  rw [joined_snoc]
  split
  · exact h t (by simp)
  · exact Calm.calm_app (Calm.calm_app (ih (fun p hp => h p (by simp [hp]))) Calm.calm_comma) (h t (by simp))
theorem split_joined (L : List ByteArray) : (∀ p ∈ L, (split p).length ≤ 1) → (∀ p ∈ L.dropLast, calm p = true) → (split (joined L)).length ≤ L.length := by
  refine Num.snoc_ind (P := fun L => (∀ p ∈ L, (split p).length ≤ 1) → (∀ p ∈ L.dropLast, calm p = true) → (split (joined L)).length ≤ L.length) (fun _ _ => by rw [show joined [] = ⟨#[]⟩ from rfl, Cc.split_empty]; exact Nat.le_refl _) ?_ L
  intro l t ih h1 h2
  rw [List.dropLast_concat] at h2
  rw [joined_snoc, List.length_append, List.length_singleton]
  split
  · have := h1 t (by simp); omega
  · rw [Cc.split_app _ _ (joined_calm l h2), List.length_append]
    have h3 := ih (fun p hp => h1 p (by simp [hp])) (fun p hp => h2 p ((List.dropLast_sublist l).subset hp))
    have h4 := h1 t (by simp)
    omega
/-- put together anew it is parted into no more -/
theorem normal_parts (s : ByteArray) : (split (normal s)).length ≤ (split s).length := by
  have h := good_split s
  exact split_joined _ (fun p hp => one_part p (h.1 p hp)) (fun p hp => calm_run (h.2 p hp))
end Norm
end Go.Proofs.YtkogcbnbmdeolaaDoor
namespace Go.Proofs.YtkogcbnbmdeolaaDoor
open Go.RowKit
set_option linter.unusedVariables false
namespace Norm
open Sign (rest split trim bl)

theorem drop_head : ∀ (l : List UInt8) (c : UInt8) (t : List UInt8), l.dropWhile bl = c :: t → bl c = false := by
  intro l
  induction l with
  | nil => intro c t h; cases h
  | cons d u ih =>
    intro c t h
    by_cases hd : bl d = true
    · rw [List.dropWhile_cons_of_pos hd] at h; exact ih c t h
    · rw [List.dropWhile_cons_of_neg hd] at h
      cases h
      simpa using hd
def trimL (x : List UInt8) : List UInt8 := ((x.dropWhile bl).reverse.dropWhile bl).reverse
theorem trim_list (s : ByteArray) : trim s = ⟨(trimL s.data.toList).toArray⟩ := rfl
/-- a text is blanks, what is trimmed of it, and blanks -/
theorem trim_form (x : List UInt8) : ∃ l r, x = l ++ trimL x ++ r ∧ (∀ b ∈ l, bl b = true) ∧ (∀ b ∈ r, bl b = true) ∧ (trimL x = [] ∨ (∃ c t, trimL x = c :: t ∧ bl c = false) ∧ ∃ t c, trimL x = t ++ [c] ∧ bl c = false) := by
  have e1 : x = x.takeWhile bl ++ x.dropWhile bl := List.takeWhile_append_dropWhile.symm
  have hy := drop_head x
  have hl := all_take x
  unfold trimL
  generalize x.takeWhile bl = l at e1 hl
  generalize x.dropWhile bl = y at e1 hy ⊢
  have e3 : y = (y.reverse.dropWhile bl).reverse ++ (y.reverse.takeWhile bl).reverse := by
    rw [← List.reverse_append, List.takeWhile_append_dropWhile, List.reverse_reverse]
  have hr : ∀ b ∈ (y.reverse.takeWhile bl).reverse, bl b = true := fun b hb => all_take _ b (List.mem_reverse.1 hb)
  have hz := drop_head y.reverse
  generalize hzz : y.reverse.dropWhile bl = z at e3 hz ⊢
  generalize (y.reverse.takeWhile bl).reverse = r at e3 hr
  refine ⟨l, r, by rw [e1, List.append_assoc, ← e3], hl, hr, ?_⟩
  cases z with
  | nil => exact .inl rfl
  | cons c t =>
    refine .inr ⟨?_, t.reverse, c, by rw [List.reverse_cons], hz c t rfl⟩
    cases hzr : (c :: t).reverse with
    | nil => simp at hzr
    | cons d u =>
      rw [hzr, List.cons_append] at e3
      exact ⟨d, u, rfl, hy d _ e3⟩
theorem trimL_of (l m r : List UInt8) (hl : ∀ b ∈ l, bl b = true) (hr : ∀ b ∈ r, bl b = true) (h0 : m = [] ∨ (∃ c t, m = c :: t ∧ bl c = false) ∧ ∃ t c, m = t ++ [c] ∧ bl c = false) : trimL (l ++ m ++ r) = m := Sign.trim_parts l m r hl hr h0
theorem trimL_twice (x : List UInt8) : trimL (trimL x) = trimL x := by
  obtain ⟨_, _, _, _, _, h⟩ := trim_form x
  have := trimL_of [] (trimL x) [] (by simp) (by simp) h
  simpa using this
theorem trim_twice (s : ByteArray) : trim (trim s) = trim s := by
  rw [trim_list (trim s), trim_list s]
  show (⟨(trimL (trimL s.data.toList).toArray.toList).toArray⟩ : ByteArray) = _
  rw [List.toList_toArray, trimL_twice]
theorem trim_around (s : ByteArray) : trim (⟨#[32]⟩ ++ s ++ ⟨#[9]⟩) = trim s := by
  have e : (⟨#[32]⟩ ++ s ++ ⟨#[9]⟩ : ByteArray).data.toList = 32 :: (s.data.toList ++ [9]) := by
    rw [ByteArray.data_append, ByteArray.data_append, Array.toList_append, Array.toList_append]; rfl
  rw [trim_list, trim_list, e]
  obtain ⟨l, r, h1, h2, h3, h4⟩ := trim_form s.data.toList
  have h := trimL_of (32 :: l) (trimL s.data.toList) (r ++ [9]) (fun b hb => by
    rcases List.mem_cons.1 hb with rfl | h
    · decide
    · exact h2 b h) (fun b hb => by
    rcases List.mem_append.1 hb with h | h
    · exact h3 b h
    · rw [List.mem_singleton.1 h]; decide) h4
  have e2 : 32 :: (s.data.toList ++ [9]) = 32 :: l ++ trimL s.data.toList ++ (r ++ [9]) := by
    conv => lhs; rw [h1]
    simp
  rw [e2, h]
theorem parts_rest (s : ByteArray) : ∀ (n a : Nat) (q : Bool), ∀ p ∈ rest s n a q, ¬ p.size = 0 ∧ trim p = p := by
  have hp : ∀ a b, ∀ p ∈ Sign.part s a b, ¬ p.size = 0 ∧ trim p = p := by
    intro a b p h
    unfold Sign.part at h
    split at h
    · exact absurd h List.not_mem_nil
    · next hz => rw [List.mem_singleton.1 h]; exact ⟨hz, trim_twice _⟩
  intro n
  induction n using Nat.strongRecOn with
  | _ n ih =>
    intro a q
    cases n with
    | zero => exact hp a s.size
    | succ m =>
      rw [Sign.rest_succ]
      split
      · exact ih m (by omega) a (!q)
      · split
        · exact ih (m - 1) (by omega) a q
        · split
          · intro p h
            rcases List.mem_append.1 h with h | h
            · exact hp _ _ p h
            · exact ih m (by omega) _ q p h
          · exact ih m (by omega) a q
theorem parts_ok (s : ByteArray) : ∀ p ∈ split s, ¬ p.size = 0 ∧ trim p = p := parts_rest s s.size 0 false
theorem secs_flag (s : ByteArray) : (Sign.secs s).2 = true ∨ (Sign.secs s).1 = 0 := by
  unfold Sign.secs
  split
  · exact .inl rfl
  · exact .inr rfl
theorem parts_sum (s : ByteArray) : ∀ (n a : Nat) (q : Bool), a ≤ s.size → n ≤ s.size - a → ((rest s n a q).map fun p => p.size + 2).sum ≤ 3 * (s.size - a) + 2 := by
  have hp : ∀ a b, a ≤ b → b ≤ s.size → ((Sign.part s a b).map fun p => p.size + 2).sum ≤ (b - a) + 2 := by
    intro a b h hb
    unfold Sign.part
    split
    · exact Nat.zero_le _
    · have h1 := Sign.trim_size (s.extract a b)
      rw [ByteArray.size_extract] at h1
      simp only [List.map_cons, List.map_nil, List.sum_cons, List.sum_nil]
      omega
  intro n
  induction n using Nat.strongRecOn with
  | _ n ih =>
    intro a q ha hn
    cases n with
    | zero => rw [rest]; have := hp a s.size ha (Nat.le_refl _); omega
    | succ m =>
      rw [Sign.rest_succ]
      split
      · exact ih m (by omega) a (!q) ha (by omega)
      · split
        · exact ih (m - 1) (by omega) a q ha (by omega)
        · split
          · rw [List.map_append, List.sum_append]
            have h1 := hp a (s.size - (m + 1)) (by omega) (by omega)
            have h2 := ih m (by omega) (s.size - (m + 1) + 1) q (by omega) (by omega)
            omega
          · exact ih m (by omega) a q ha (by omega)
theorem joined_size (L : List ByteArray) : (joined L).size ≤ (L.map fun p => p.size + 2).sum := by
  refine Num.snoc_ind (P := fun L => (joined L).size ≤ (L.map fun p => p.size + 2).sum) (Nat.zero_le _) ?_ L
  intro l t ih
  rw [joined_snoc, List.map_append, List.sum_append]
  simp only [List.map_cons, List.map_nil, List.sum_cons, List.sum_nil]
  split
  · omega
  · rw [ByteArray.size_append, ByteArray.size_append]
    have : (⟨#[44, 32]⟩ : ByteArray).size = 2 := rfl
    omega
theorem normal_size (s : ByteArray) : (normal s).size ≤ 3 * s.size + 2 := by
  have h1 := joined_size (split s)
  have h2 := parts_sum s s.size 0 false (Nat.zero_le _) (by omega)
  unfold normal
  have h3 : ((split s).map fun p => p.size + 2).sum ≤ 3 * s.size + 2 := by
    unfold Sign.split; simpa using h2
  omega
theorem secs_bd (s : ByteArray) : 0 ≤ (Sign.secs s).1 ∧ (Sign.secs s).1 ≤ 2147483648 := by
  unfold Sign.secs
  split
  · next h => exact Sign.sec_bd _ h.2
  · exact ⟨Int.le_refl _, by decide⟩
end Norm
end Go.Proofs.YtkogcbnbmdeolaaDoor
