/-
  What is said twice: the directives of a list of fields put behind itself, where each value's quotes end.
-/
import Derived.Test.YtkogcbnbmdeolaaDoorCcNum
import Derived.Test.YtkogcbnbmdeolaaDoorCalmNum
namespace Go.Proofs.YtkogcbnbmdeolaaDoor
open Go.RowKit
set_option linter.unusedVariables false
namespace Cc
open Flds (Fld)
open Sign (rest split trim bl rest_quote rest_esc rest_comma rest_else rest_end)
open Calm (ends calm)

theorem drop_at (s : ByteArray) (i : Nat) (h : i < s.size) : s.data.toList.drop i = s[i] :: s.data.toList.drop (i + 1) := by
  have h2 : i < s.data.toList.length := by simpa using h
  rw [List.drop_eq_getElem_cons h2]; rfl
theorem take_drop_at (S : ByteArray) (d b : Nat) (hd : d < S.size) (hdb : d < b) : List.drop d (List.take b S.data.toList) = S[d] :: List.drop (d + 1) (List.take b S.data.toList) := by
  have h2 : d < (List.take b S.data.toList).length := by rw [List.length_take, Array.length_toList]; exact Nat.lt_min.2 ⟨hdb, hd⟩
  rw [List.drop_eq_getElem_cons h2, List.getElem_take]; rfl
/-- the front of a text that goes on -/
structure Front (S s : ByteArray) : Prop where
  le : s.size < S.size
  at_ : ∀ i (h : i < s.size) (h2 : i < S.size), S[i] = s[i]
  comma : ∀ h : s.size < S.size, (S[s.size]).toNat = 44
  ext : ∀ a b, b ≤ s.size → S.extract a b = s.extract a b
theorem front_part {S s : ByteArray} (h : Front S s) (a b : Nat) (hb : b ≤ s.size) : Sign.part S a b = Sign.part s a b := by
  unfold Sign.part; rw [h.ext a b hb]
theorem rest_front {S s : ByteArray} (h : Front S s) : ∀ (n i a : Nat) (q : Bool), s.size - i = n → i ≤ s.size → ends (s.data.toList.drop i) q = false → rest S (S.size - i) a q = rest s (s.size - i) a q ++ rest S (S.size - (s.size + 1)) (s.size + 1) false := by
  intro n
  induction n using Nat.strongRecOn with
  | _ n ih =>
    intro i a q hn hi he
    have hle := h.le
    by_cases hlt : i < s.size
    · have hS : i < S.size := by omega
      have hb := h.at_ i hlt hS
      rw [drop_at s i hlt] at he
      by_cases h34 : (s[i]).toNat = 34
      · rw [rest_quote S i a q hS (by rw [hb]; exact h34), rest_quote s i a q hlt h34]
        refine ih (s.size - (i + 1)) (by omega) (i + 1) a (!q) rfl (by omega) ?_
        rw [Calm.ends_quote _ _ _ h34] at he; exact he
      · by_cases h92 : q = true ∧ (s[i]).toNat = 92
        · obtain ⟨rfl, h92⟩ := h92
          rw [Calm.ends_esc _ _ h92] at he
          by_cases h2 : i + 1 < s.size
          · rw [drop_at s (i + 1) h2] at he
            rw [rest_esc S i a hS (by rw [hb]; exact h92), rest_esc s i a hlt h92]
            exact ih (s.size - (i + 2)) (by omega) (i + 2) a true rfl (by omega) he
          · rw [List.drop_eq_nil_of_le (by rw [Array.length_toList]; show s.size ≤ _; omega)] at he
            cases he
        · by_cases h44 : (s[i]).toNat = 44 ∧ q = false
          · obtain ⟨h44, rfl⟩ := h44
            rw [rest_comma S i a hS (by rw [hb]; exact h44), rest_comma s i a hlt h44, front_part h a i (by omega), List.append_assoc]
            congr 1
            refine ih (s.size - (i + 1)) (by omega) (i + 1) (i + 1) false rfl (by omega) ?_
            rw [Calm.ends_else _ _ _ h34 (by rintro ⟨e, _⟩; cases e)] at he; exact he
          · rw [rest_else S i a q hS (by rw [hb]; exact h34) (by rw [hb]; exact h92) (by rw [hb]; exact h44), rest_else s i a q hlt h34 h92 h44]
            refine ih (s.size - (i + 1)) (by omega) (i + 1) a q rfl (by omega) ?_
            rw [Calm.ends_else _ _ _ h34 h92] at he; exact he
    · obtain rfl : i = s.size := by omega
      rw [List.drop_eq_nil_of_le (by rw [Array.length_toList]; exact Nat.le_refl _)] at he
      have hq : q = false := he
      subst hq
      rw [rest_comma S s.size a hle (h.comma hle), rest_end s s.size a false (Nat.le_refl _), front_part h a s.size (Nat.le_refl _)]
/-- the back of a text, from d on -/
structure Back (S t : ByteArray) (d : Nat) : Prop where
  size : S.size = d + t.size
  at_ : ∀ i (h : i < t.size) (h2 : d + i < S.size), S[d + i] = t[i]
  ext : ∀ a b, S.extract (d + a) (d + b) = t.extract a b
theorem back_part {S t : ByteArray} {d : Nat} (h : Back S t d) (a b : Nat) : Sign.part S (d + a) (d + b) = Sign.part t a b := by
  unfold Sign.part; rw [h.ext a b]
theorem rest_back {S t : ByteArray} {d : Nat} (h : Back S t d) : ∀ (n i a : Nat) (q : Bool), t.size + 1 - i = n → i ≤ t.size + 1 → rest S (S.size - (d + i)) (d + a) q = rest t (t.size - i) a q := by
  intro n
  induction n using Nat.strongRecOn with
  | _ n ih =>
    intro i a q hn hi
    have hsz := h.size
    by_cases hlt : i < t.size
    · have hS : d + i < S.size := by omega
      have hb := h.at_ i hlt hS
      by_cases h34 : (t[i]).toNat = 34
      · rw [rest_quote S (d + i) (d + a) q hS (by rw [hb]; exact h34), rest_quote t i a q hlt h34]
        exact ih (t.size + 1 - (i + 1)) (by omega) (i + 1) a (!q) rfl (by omega)
      · by_cases h92 : q = true ∧ (t[i]).toNat = 92
        · obtain ⟨rfl, h92⟩ := h92
          rw [rest_esc S (d + i) (d + a) hS (by rw [hb]; exact h92), rest_esc t i a hlt h92]
          exact ih (t.size + 1 - (i + 2)) (by omega) (i + 2) a true rfl (by omega)
        · by_cases h44 : (t[i]).toNat = 44 ∧ q = false
          · obtain ⟨h44, rfl⟩ := h44
            rw [rest_comma S (d + i) (d + a) hS (by rw [hb]; exact h44), rest_comma t i a hlt h44, back_part h a i]
            congr 1
            exact ih (t.size + 1 - (i + 1)) (by omega) (i + 1) (i + 1) false rfl (by omega)
          · rw [rest_else S (d + i) (d + a) q hS (by rw [hb]; exact h34) (by rw [hb]; exact h92) (by rw [hb]; exact h44), rest_else t i a q hlt h34 h92 h44]
            exact ih (t.size + 1 - (i + 1)) (by omega) (i + 1) a q rfl (by omega)
    · rw [rest_end S (d + i) (d + a) q (by omega), rest_end t i a q (by omega), hsz, back_part h a t.size]
/-- a blank ahead of a part is trimmed -/
theorem rest_blank {S : ByteArray} {d : Nat} (hd : d < S.size) (hb : (S[d]).toNat = 32) : ∀ (n i : Nat) (q : Bool), S.size - i = n → d < i → rest S (S.size - i) d q = rest S (S.size - i) (d + 1) q := by
  have hp : ∀ b, d < b → Sign.part S d b = Sign.part S (d + 1) b := by
    intro b hdb
    have e : trim (S.extract d b) = trim (S.extract (d + 1) b) := by
      unfold Sign.trim
      have e1 : (S.extract d b).data.toList = S[d] :: (S.extract (d + 1) b).data.toList := by
        rw [ByteArray.data_extract, ByteArray.data_extract, Array.toList_extract, Array.toList_extract, List.extract_eq_drop_take', List.extract_eq_drop_take', take_drop_at S d b hd hdb]
      rw [e1, List.dropWhile_cons_of_pos (by unfold Sign.bl; exact decide_eq_true (Or.inl (by omega)))]
    unfold Sign.part; rw [e]
  intro n
  induction n using Nat.strongRecOn with
  | _ n ih =>
    intro i q hn hi
    by_cases hlt : i < S.size
    · by_cases h34 : (S[i]).toNat = 34
      · rw [rest_quote S i d q hlt h34, rest_quote S i (d + 1) q hlt h34]
        exact ih (S.size - (i + 1)) (by omega) (i + 1) (!q) rfl (by omega)
      · by_cases h92 : q = true ∧ (S[i]).toNat = 92
        · obtain ⟨rfl, h92⟩ := h92
          rw [rest_esc S i d hlt h92, rest_esc S i (d + 1) hlt h92]
          exact ih (S.size - (i + 2)) (by omega) (i + 2) true rfl (by omega)
        · by_cases h44 : (S[i]).toNat = 44 ∧ q = false
          · obtain ⟨h44, rfl⟩ := h44
            rw [rest_comma S i d hlt h44, rest_comma S i (d + 1) hlt h44, hp i hi]
          · rw [rest_else S i d q hlt h34 h92 h44, rest_else S i (d + 1) q hlt h34 h92 h44]
            exact ih (S.size - (i + 1)) (by omega) (i + 1) q rfl (by omega)
    · rw [rest_end S i d q (by omega), rest_end S i (d + 1) q (by omega), hp S.size hd]
theorem back_list (S t : ByteArray) (p : List UInt8) (h : S.data.toList = p ++ t.data.toList) : Back S t p.length where
  size := by
    have := congrArg List.length h
    rw [Array.length_toList, List.length_append, Array.length_toList] at this
    exact this
  at_ := by
    intro i hi h2
    have e1 : S[p.length + i] = S.data.toList[p.length + i]'(by rw [Array.length_toList]; exact h2) := by simp [ByteArray.getElem_eq_getElem_data]
    have e2 : t[i] = t.data.toList[i]'(by rw [Array.length_toList]; exact hi) := by simp [ByteArray.getElem_eq_getElem_data]
    rw [e1, e2]
    simp only [h]
    rw [List.getElem_append_right (by omega)]
    simp
  ext := by
    intro a b
    apply ByteArray.ext
    apply Array.toList_inj.1
    rw [ByteArray.data_extract, ByteArray.data_extract, Array.toList_extract, Array.toList_extract, List.extract_eq_drop_take', List.extract_eq_drop_take', h, List.take_length_add_append, List.drop_length_add_append]
theorem front_list (S s : ByteArray) (q : List UInt8) (h : S.data.toList = s.data.toList ++ 44 :: q) : Front S s where
  le := by
    have := congrArg List.length h
    rw [Array.length_toList, List.length_append, Array.length_toList, List.length_cons] at this
    have e1 : S.size = S.data.size := rfl
    have e2 : s.size = s.data.size := rfl
    omega
  at_ := by
    intro i hi h2
    have e1 : S[i] = S.data.toList[i]'(by rw [Array.length_toList]; exact h2) := by simp [ByteArray.getElem_eq_getElem_data]
    have e2 : s[i] = s.data.toList[i]'(by rw [Array.length_toList]; exact hi) := by simp [ByteArray.getElem_eq_getElem_data]
    rw [e1, e2]
    simp only [h]
    rw [List.getElem_append_left (by rw [Array.length_toList]; exact hi)]
  comma := by
    intro h2
    have e1 : S[s.size] = S.data.toList[s.size]'(by rw [Array.length_toList]; exact h2) := by simp [ByteArray.getElem_eq_getElem_data]
    have e3 : s.data.toList.length = s.size := by rw [Array.length_toList]; rfl
    rw [e1]
    simp only [h]
    rw [List.getElem_append_right (by omega)]
    simp [e3]
  ext := by
    intro a b hb
    apply ByteArray.ext
    apply Array.toList_inj.1
    have e3 : s.data.toList.length = s.size := by rw [Array.length_toList]; rfl
    rw [ByteArray.data_extract, ByteArray.data_extract, Array.toList_extract, Array.toList_extract, List.extract_eq_drop_take', List.extract_eq_drop_take', h]
    rw [List.take_append_of_le_length (by omega)]
/-- a list behind a comma and a blank: the parts of both -/
theorem split_app (s t : ByteArray) (h : calm s = true) : split (s ++ ⟨#[44, 32]⟩ ++ t) = split s ++ split t := by
  have hl : (s ++ ⟨#[44, 32]⟩ ++ t).data.toList = s.data.toList ++ 44 :: 32 :: t.data.toList := by simp [ByteArray.data_append]
  generalize s ++ ⟨#[44, 32]⟩ ++ t = S at hl
  have hf := front_list S s _ hl
  have e3 : s.data.toList.length = s.size := by rw [Array.length_toList]; rfl
  have hb := back_list S t (s.data.toList ++ [44, 32]) (by rw [hl]; simp)
  have hd : (s.data.toList ++ [44, 32]).length = s.size + 2 := by simp
  rw [hd] at hb
  have h32 : ∀ h : s.size + 1 < S.size, (S[s.size + 1]).toNat = 32 := by
    intro h2
    have e1 : S[s.size + 1] = S.data.toList[s.size + 1]'(by rw [Array.length_toList]; exact h2) := by simp [ByteArray.getElem_eq_getElem_data]
    rw [e1]
    simp only [hl]
    rw [List.getElem_append_right (by omega)]
    simp [e3, show s.size + 1 - s.size = 1 by omega]
  have hlt : s.size + 1 < S.size := by have := hb.size; omega
  have h1 := rest_front hf s.size 0 0 false rfl (Nat.zero_le _) (by rw [List.drop_zero]; exact Calm.calm_iff h)
  rw [Nat.sub_zero, Nat.sub_zero] at h1
  unfold Sign.split
  rw [h1]
  congr 1
  have hc := h32 hlt
  rw [rest_else S (s.size + 1) (s.size + 1) false hlt (by omega) (by rintro ⟨e, _⟩; cases e) (by omega)]
  rw [rest_blank hlt hc _ (s.size + 1 + 1) false rfl (by omega)]
  have h2 := rest_back hb _ 0 0 false rfl (Nat.zero_le _)
  rw [Nat.add_zero, Nat.sub_zero] at h2
  exact h2
theorem split_empty : split ⟨#[]⟩ = [] := by
  unfold Sign.split
  show Sign.part _ _ _ = []
  unfold Sign.part
  rw [if_pos]
  have := Sign.trim_size ((⟨#[]⟩ : ByteArray).extract 0 (⟨#[]⟩ : ByteArray).size)
  have e : ((⟨#[]⟩ : ByteArray).extract 0 (⟨#[]⟩ : ByteArray).size).size = 0 := by rw [ByteArray.size_extract]; rfl
  omega
/-- what is got of two lists -/
def both (r m : ByteArray × Bool) : ByteArray × Bool := if r.2 = true then (if m.2 = true then (r.1 ++ ⟨#[44, 32]⟩ ++ m.1, true) else r) else m
theorem get_two (l m : List Fld) (name : ByteArray) : Flds.get (l ++ m) name = both (Flds.get l name) (Flds.get m name) := by
  have hz : ∀ l : List Fld, (Flds.get l name).2 = false → (Flds.get l name).1 = ⟨#[]⟩ := by
    intro l
    refine Num.snoc_ind (P := fun l => (Flds.get l name).2 = false → (Flds.get l name).1 = ⟨#[]⟩) (fun _ => rfl) ?_ l
    intro l f ih h
    have e : Flds.get (l ++ [f]) name = Flds.getStep name (Flds.get l name) f := by unfold Flds.get; rw [List.foldl_append]; rfl
    rw [e] at h ⊢
    unfold Flds.getStep at *
    split at h
    · cases h
    · next hn => rw [if_neg hn]; exact ih h
  refine Num.snoc_ind (P := fun m => Flds.get (l ++ m) name = both (Flds.get l name) (Flds.get m name)) ?_ ?_ m
  · rw [List.append_nil]
    have e : Flds.get [] name = (⟨#[]⟩, false) := rfl
    rw [e]
    unfold both
    by_cases h : (Flds.get l name).2 = true
    · rw [if_pos h]; rfl
    · rw [if_neg h]
      have h2 : (Flds.get l name).2 = false := by simpa using h
      exact Prod.ext (hz l h2) h2
  · intro m f ih
    have e1 : Flds.get (l ++ (m ++ [f])) name = Flds.getStep name (Flds.get (l ++ m) name) f := by rw [← List.append_assoc]; unfold Flds.get; rw [List.foldl_append]; rfl
    have e2 : Flds.get (m ++ [f]) name = Flds.getStep name (Flds.get m name) f := by unfold Flds.get; rw [List.foldl_append]; rfl
    rw [e1, e2, ih]
    have hm := hz m
    generalize Flds.get l name = r
    generalize Flds.get m name = k at hm ⊢
    obtain ⟨r1, r2⟩ := r
    obtain ⟨k1, k2⟩ := k
    simp only at hm
    unfold both Flds.getStep
    by_cases hf : f.1 = name
    · rw [if_pos hf, if_pos hf]
      cases r2 <;> cases k2 <;> simp
      · rw [hm rfl]
        apply ByteArray.ext; simp [ByteArray.data_append]
      · apply ByteArray.ext; simp [ByteArray.data_append]
    · rw [if_neg hf, if_neg hf]
theorem cc_same : ccName = Calm.cc := rfl
/-- what is got of it ends its quotes -/
theorem get_calm (l : List Fld) (h : ∀ f ∈ l, Calm.Said f.1 f.2) : calm (Flds.get l ccName).1 = true := by
  revert h
  refine Num.snoc_ind (P := fun l => (∀ f ∈ l, Calm.Said f.1 f.2) → calm (Flds.get l ccName).1 = true) (fun _ => Calm.calm_empty) ?_ l
  intro l f ih h
  have e : Flds.get (l ++ [f]) ccName = Flds.getStep ccName (Flds.get l ccName) f := by unfold Flds.get; rw [List.foldl_append]; rfl
  have i1 := ih (fun g hg => h g (List.mem_append_left _ hg))
  rw [e]
  unfold Flds.getStep
  by_cases hn : f.1 = ccName
  · have i2 := h f (by simp) hn
    rw [if_pos hn]
    simp only
    refine Calm.calm_app ?_ i2
    split
    · exact Calm.calm_app i1 Calm.calm_comma
    · exact i1
  · rw [if_neg hn]; exact i1
theorem parts_app (L M : List ByteArray) : ofParts (L ++ M) = ofParts L ++ ofParts M := by unfold ofParts; exact List.filterMap_append
/-- what stands twice is said twice -/
theorem dirs_twice (l : List Fld) (h : ∀ f ∈ l, Calm.Said f.1 f.2) : dirs (l ++ l) = dirs l ++ dirs l := by
  have hc := get_calm l h
  unfold dirs
  rw [get_two]
  unfold both
  by_cases hb : (Flds.get l ccName).2 = true
  · rw [if_pos hb, if_pos hb]
    simp only
    rw [split_app _ _ hc, parts_app]
  · rw [if_neg hb]
    have h2 : (Flds.get l ccName).1 = ⟨#[]⟩ := by
      have := get_two l [] ccName
      rw [List.append_nil] at this
      unfold both at this
      rw [if_neg hb] at this
      rw [this]; rfl
    rw [h2, split_empty]; rfl
def comb : Option Int → Option Int → Option Int
  | none, y => y
  | some a, none => some a
  | some a, some b => some (min a b)
theorem least_two (d e : List Fld) (name : ByteArray) : least (d ++ e) name = comb (least d name) (least e name) := by
  refine Num.snoc_ind (P := fun e => least (d ++ e) name = comb (least d name) (least e name)) ?_ ?_ e
  · rw [List.append_nil]
    show _ = comb (least d name) none
    cases least d name <;> rfl
  · intro e f ih
    rw [← List.append_assoc, least_snoc, least_snoc, ih]
    unfold leastStep
    by_cases hf : f.1 = name
    · rw [if_pos hf, if_pos hf]
      cases least d name with
      | none => rfl
      | some a =>
        cases least e name with
        | none => simp [comb, lesser, Int.min_comm]
        | some b => simp only [comb, lesser, Option.some.injEq]; omega
    · rw [if_neg hf, if_neg hf]
theorem sec_twice (d : List Fld) (name : ByteArray) : sec (d ++ d) name = sec d name := by
  unfold sec
  rw [least_two]
  cases least d name with
  | none => rfl
  | some a => simp [comb]
theorem least_some (d : List Fld) (name : ByteArray) (i : Nat) (hi : i < d.length) (h : d[i].1 = name) : ∃ c, least d name = some c ∧ c ≤ (Sign.secs d[i].2).1 := by
  have hd : d = d.take (i + 1) ++ d.drop (i + 1) := (List.take_append_drop _ _).symm
  have h1 : least (d.take (i + 1)) name = some (lesser (least (d.take i) name) (Sign.secs d[i].2).1) := by
    rw [least_take d name i hi]; unfold leastStep; rw [if_pos h]
  have h2 : lesser (least (d.take i) name) (Sign.secs d[i].2).1 ≤ (Sign.secs d[i].2).1 := by
    unfold lesser
    split <;> omega
  have h3 : least d name = comb (least (d.take (i + 1)) name) (least (d.drop (i + 1)) name) := by
    rw [← least_two, List.take_append_drop]
  rw [h3, h1]
  generalize lesser (least (d.take i) name) (Sign.secs d[i].2).1 = a at h2
  cases least (d.drop (i + 1)) name with
  | none => exact ⟨a, rfl, h2⟩
  | some b => exact ⟨min a b, rfl, by omega⟩
theorem lower_twice (s : ByteArray) : Sign.lower (Sign.lower s) = Sign.lower s := by
  unfold Sign.lower
  apply ByteArray.ext
  apply Array.toList_inj.1
  simp only [List.map_map]
  apply List.map_congr_left
  intro b _
  show Sign.lowB (Sign.lowB b) = Sign.lowB b
  by_cases h : Sign.up (b.toNat : Int)
  · refine Sign.lowB_no _ ?_
    have := Sign.lowB_up b h
    unfold Sign.up at *
    omega
  · rw [Sign.lowB_no b h, Sign.lowB_no b h]
theorem dirs_small_names (l : List Fld) : ∀ f ∈ dirs l, Sign.lower f.1 = f.1 := by
  intro f hf
  obtain ⟨t, _, he⟩ := List.mem_filterMap.1 hf
  unfold dirAt at he
  split at he
  · cases he
    exact lower_twice _
  · cases he
end Cc
end Go.Proofs.YtkogcbnbmdeolaaDoor
