/-
  CalmNum: A text whose quotes end, plain.
  CcBack: What is said twice: the directives of a list of fields put behind itself, where each value's quotes end.
  PolNum: What may be, plain: what must be looked at; with no-cache all is looked at, and what must be looked at must be so later.
  LineDef: The line at a place, and the first colon, plain.
  FldReadNum: Fields read off a text, plain.
-/
import Derived.Test.YtbcjpjhpobmpbaaGreatDoorNum
import Derived.Test.YtbcjpjhpobmpbaaGreatDoorPaa
import Derived.Test.YtbcjpjhpobmpbaaGreatDoorPab
import Derived.Test.YtbcjpjhpobmpbaaGreatDoorPac
import Derived.Test.YtbcjpjhpobmpbaaGreatDoorFldsOkSpec
import Derived.Test.YtbcjpjhpobmpbaaGreatDoorTrimSpec
namespace Go.Proofs.YtbcjpjhpobmpbaaGreatDoor
set_option linter.unusedVariables false
namespace Calm

/-- is a text's end within quotes? ('q': is its beginning?) -/
def endsF : Nat → List UInt8 → Bool → Bool
  | 0, _, q => q
  | _ + 1, [], q => q
  | f + 1, c :: t, q => if c.toNat = 34 then endsF f t (!q) else if q = true ∧ c.toNat = 92 then (match t with | [] => true | _ :: u => endsF f u q) else endsF f t q
theorem endsF_enough : ∀ (f g : Nat) (l : List UInt8) (q : Bool), l.length ≤ f → l.length ≤ g → endsF f l q = endsF g l q := by
  intro f
  induction f with
  | zero =>
    intro g l q h1 h2
    have : l = [] := List.eq_nil_of_length_eq_zero (by omega)
    subst this
    cases g <;> rfl
  | succ f ih =>
    intro g l q h1 h2
    cases l with
    | nil => cases g <;> rfl
    | cons c t =>
      cases g with
      | zero => simp at h2
      | succ g =>
        simp only [List.length_cons] at h1 h2
        unfold endsF
        split
        · exact ih g t _ (by omega) (by omega)
        · split
          · cases t with
            | nil => rfl
            | cons d u => simp only [List.length_cons] at h1 h2; exact ih g u q (by omega) (by omega)
          · exact ih g t q (by omega) (by omega)
def second (f : Nat) (t : List UInt8) (q : Bool) : Bool := match t with | [] => true | _ :: u => endsF f u q
theorem endsF_cons (f : Nat) (c : UInt8) (t : List UInt8) (q : Bool) : endsF (f + 1) (c :: t) q = if c.toNat = 34 then endsF f t (!q) else if q = true ∧ c.toNat = 92 then second f t q else endsF f t q := by
  cases t <;> rfl
def ends (l : List UInt8) (q : Bool) : Bool := endsF l.length l q
theorem ends_quote (c : UInt8) (t : List UInt8) (q : Bool) (h : c.toNat = 34) : ends (c :: t) q = ends t (!q) := by
  unfold ends
  show endsF (t.length + 1) (c :: t) q = _
  rw [endsF_cons, if_pos h]
theorem ends_esc (c : UInt8) (t : List UInt8) (h : c.toNat = 92) : ends (c :: t) true = match t with | [] => true | _ :: u => ends u true := by
  unfold ends
  show endsF (t.length + 1) (c :: t) true = _
  rw [endsF_cons, if_neg (by omega), if_pos ⟨rfl, h⟩]
  cases t with
  | nil => rfl
  | cons d u => exact endsF_enough _ _ u true (by simp) (Nat.le_refl _)
theorem ends_else (c : UInt8) (t : List UInt8) (q : Bool) (h : ¬ c.toNat = 34) (h2 : ¬ (q = true ∧ c.toNat = 92)) : ends (c :: t) q = ends t q := by
  unfold ends
  show endsF (t.length + 1) (c :: t) q = _
  rw [endsF_cons, if_neg h, if_neg h2]
theorem ends_app : ∀ (n : Nat) (x y : List UInt8) (q : Bool), x.length = n → ends x q = false → ends (x ++ y) q = ends y false := by
  intro n
  induction n using Nat.strongRecOn with
  | _ n ih =>
    intro x y q hn h
    cases x with
    | nil =>
      have hq : q = false := h
      subst hq; rfl
    | cons c t =>
      simp only [List.length_cons] at hn
      rw [List.cons_append]
      by_cases h34 : c.toNat = 34
      · rw [ends_quote c _ q h34] at h ⊢
        exact ih t.length (by omega) t y _ rfl h
      · by_cases h92 : q = true ∧ c.toNat = 92
        · obtain ⟨rfl, h92⟩ := h92
          rw [ends_esc c _ h92] at h ⊢
          cases t with
          | nil => cases h
          | cons d u =>
            simp only [List.length_cons] at hn
            exact ih u.length (by omega) u y true rfl h
        · rw [ends_else c _ q h34 h92] at h ⊢
          exact ih t.length (by omega) t y q rfl h
/-- no quotes are open at its end -/
def calm (s : ByteArray) : Bool := !(ends s.data.toList false)
theorem calm_iff {s : ByteArray} (h : calm s = true) : ends s.data.toList false = false := by
  unfold calm at h
  cases e : ends s.data.toList false with
  | false => rfl
  | true => rw [e] at h; cases h
theorem of_ends {s : ByteArray} (h : ends s.data.toList false = false) : calm s = true := by unfold calm; rw [h]; rfl
theorem calm_empty : calm ⟨#[]⟩ = true := rfl
theorem calm_app {s t : ByteArray} (h : calm s = true) (h2 : calm t = true) : calm (s ++ t) = true := by
  refine of_ends ?_
  rw [ByteArray.data_append, Array.toList_append, ends_app _ _ _ false rfl (calm_iff h)]
  exact calm_iff h2
theorem calm_comma : calm ⟨#[44, 32]⟩ = true := by decide
/-- the field's name that counts -/
def cc : ByteArray := ⟨#[99, 97, 99, 104, 101, 45, 99, 111, 110, 116, 114, 111, 108]⟩
/-- what is said of caching in a field ends its quotes -/
def Said (x y : ByteArray) : Prop := x = cc → calm y = true
theorem said_other {x y : ByteArray} (h : ¬ x = cc) : Said x y := fun e => absurd e h
end Calm
end Go.Proofs.YtbcjpjhpobmpbaaGreatDoor
namespace Go.Proofs.YtbcjpjhpobmpbaaGreatDoor
open Go.RowKit
set_option linter.unusedVariables false
namespace Cc
open Flds (Fld)
open Sign (rest split trim bl rest_quote rest_esc rest_comma rest_else rest_end)
open Calm (ends calm)

theorem drop_at (s : ByteArray) (i : Nat) (h : i < s.size) : s.data.toList.drop i = s[i] :: s.data.toList.drop (i + 1) := by
  have h2 : i < s.data.toList.length := by simpa using h
  rw [List.drop_eq_getElem_cons h2]; rfl
theorem take_drop_at (S : ByteArray) (d b : Nat) (hd : d < S.size) (hdb : d < b) : List.drop d (List.take b S.data.toList) = S[d] :: List.drop (d + 1) (List.take b S.data.toList) := by
  have h2 : d < (List.take b S.data.toList).length := by rw [List.length_take, Array.length_toList]; exact Nat.lt_min.2 ⟨hdb, hd⟩
  rw [List.drop_eq_getElem_cons h2, List.getElem_take]; rfl
/-- the front of a text that goes on -/
structure Front (S s : ByteArray) : Prop where
  le : s.size < S.size
  at_ : ∀ i (h : i < s.size) (h2 : i < S.size), S[i] = s[i]
  comma : ∀ h : s.size < S.size, (S[s.size]).toNat = 44
  ext : ∀ a b, b ≤ s.size → S.extract a b = s.extract a b
theorem front_part {S s : ByteArray} (h : Front S s) (a b : Nat) (hb : b ≤ s.size) : Sign.part S a b = Sign.part s a b := by
  unfold Sign.part; rw [h.ext a b hb]
theorem rest_front {S s : ByteArray} (h : Front S s) : ∀ (n i a : Nat) (q : Bool), s.size - i = n → i ≤ s.size → ends (s.data.toList.drop i) q = false → rest S (S.size - i) a q = rest s (s.size - i) a q ++ rest S (S.size - (s.size + 1)) (s.size + 1) false := by
  intro n
  induction n using Nat.strongRecOn with
  | _ n ih =>
    intro i a q hn hi he
    have hle := h.le
    by_cases hlt : i < s.size
    · have hS : i < S.size := by omega
      have hb := h.at_ i hlt hS
      rw [drop_at s i hlt] at he
      by_cases h34 : (s[i]).toNat = 34
      · rw [rest_quote S i a q hS (by rw [hb]; exact h34), rest_quote s i a q hlt h34]
        refine ih (s.size - (i + 1)) (by omega) (i + 1) a (!q) rfl (by omega) ?_
        rw [Calm.ends_quote _ _ _ h34] at he; exact he
      · by_cases h92 : q = true ∧ (s[i]).toNat = 92
        · obtain ⟨rfl, h92⟩ := h92
          rw [Calm.ends_esc _ _ h92] at he
          by_cases h2 : i + 1 < s.size
          · rw [drop_at s (i + 1) h2] at he
            rw [rest_esc S i a hS (by rw [hb]; exact h92), rest_esc s i a hlt h92]
            exact ih (s.size - (i + 2)) (by omega) (i + 2) a true rfl (by omega) he
          · rw [List.drop_eq_nil_of_le (by rw [Array.length_toList]; show s.size ≤ _; omega)] at he
            cases he
        · by_cases h44 : (s[i]).toNat = 44 ∧ q = false
          · obtain ⟨h44, rfl⟩ := h44
            rw [rest_comma S i a hS (by rw [hb]; exact h44), rest_comma s i a hlt h44, front_part h a i (by omega), List.append_assoc]
            congr 1
            refine ih (s.size - (i + 1)) (by omega) (i + 1) (i + 1) false rfl (by omega) ?_
            rw [Calm.ends_else _ _ _ h34 (by rintro ⟨e, _⟩; cases e)] at he; exact he
          · rw [rest_else S i a q hS (by rw [hb]; exact h34) (by rw [hb]; exact h92) (by rw [hb]; exact h44), rest_else s i a q hlt h34 h92 h44]
            refine ih (s.size - (i + 1)) (by omega) (i + 1) a q rfl (by omega) ?_
            rw [Calm.ends_else _ _ _ h34 h92] at he; exact he
    · obtain rfl : i = s.size := by omega
      rw [List.drop_eq_nil_of_le (by rw [Array.length_toList]; exact Nat.le_refl _)] at he
      have hq : q = false := he
      subst hq
      rw [rest_comma S s.size a hle (h.comma hle), rest_end s s.size a false (Nat.le_refl _), front_part h a s.size (Nat.le_refl _)]
/-- the back of a text, from d on -/
structure Back (S t : ByteArray) (d : Nat) : Prop where
  size : S.size = d + t.size
  at_ : ∀ i (h : i < t.size) (h2 : d + i < S.size), S[d + i] = t[i]
  ext : ∀ a b, S.extract (d + a) (d + b) = t.extract a b
theorem back_part {S t : ByteArray} {d : Nat} (h : Back S t d) (a b : Nat) : Sign.part S (d + a) (d + b) = Sign.part t a b := by
  unfold Sign.part; rw [h.ext a b]
theorem rest_back {S t : ByteArray} {d : Nat} (h : Back S t d) : ∀ (n i a : Nat) (q : Bool), t.size + 1 - i = n → i ≤ t.size + 1 → rest S (S.size - (d + i)) (d + a) q = rest t (t.size - i) a q := by
  intro n
  induction n using Nat.strongRecOn with
  | _ n ih =>
    intro i a q hn hi
    have hsz := h.size
    by_cases hlt : i < t.size
    · have hS : d + i < S.size := by omega
      have hb := h.at_ i hlt hS
      by_cases h34 : (t[i]).toNat = 34
      · rw [rest_quote S (d + i) (d + a) q hS (by rw [hb]; exact h34), rest_quote t i a q hlt h34]
        exact ih (t.size + 1 - (i + 1)) (by omega) (i + 1) a (!q) rfl (by omega)
      · by_cases h92 : q = true ∧ (t[i]).toNat = 92
        · obtain ⟨rfl, h92⟩ := h92
          rw [rest_esc S (d + i) (d + a) hS (by rw [hb]; exact h92), rest_esc t i a hlt h92]
          exact ih (t.size + 1 - (i + 2)) (by omega) (i + 2) a true rfl (by omega)
        · by_cases h44 : (t[i]).toNat = 44 ∧ q = false
          · obtain ⟨h44, rfl⟩ := h44
            rw [rest_comma S (d + i) (d + a) hS (by rw [hb]; exact h44), rest_comma t i a hlt h44, back_part h a i]
            congr 1
            exact ih (t.size + 1 - (i + 1)) (by omega) (i + 1) (i + 1) false rfl (by omega)
          · rw [rest_else S (d + i) (d + a) q hS (by rw [hb]; exact h34) (by rw [hb]; exact h92) (by rw [hb]; exact h44), rest_else t i a q hlt h34 h92 h44]
            exact ih (t.size + 1 - (i + 1)) (by omega) (i + 1) a q rfl (by omega)
    · rw [rest_end S (d + i) (d + a) q (by omega), rest_end t i a q (by omega), hsz, back_part h a t.size]
/-- a blank ahead of a part is trimmed -/
theorem rest_blank {S : ByteArray} {d : Nat} (hd : d < S.size) (hb : (S[d]).toNat = 32) : ∀ (n i : Nat) (q : Bool), S.size - i = n → d < i → rest S (S.size - i) d q = rest S (S.size - i) (d + 1) q := by
  have hp : ∀ b, d < b → Sign.part S d b = Sign.part S (d + 1) b := by
    intro b hdb
    have e : trim (S.extract d b) = trim (S.extract (d + 1) b) := by
      unfold Sign.trim
      have e1 : (S.extract d b).data.toList = S[d] :: (S.extract (d + 1) b).data.toList := by
        rw [ByteArray.data_extract, ByteArray.data_extract, Array.toList_extract, Array.toList_extract, List.extract_eq_drop_take', List.extract_eq_drop_take', take_drop_at S d b hd hdb]
      rw [e1, List.dropWhile_cons_of_pos (by unfold Sign.bl; exact decide_eq_true (Or.inl (by omega)))]
    unfold Sign.part; rw [e]
  intro n
  induction n using Nat.strongRecOn with
  | _ n ih =>
    intro i q hn hi
    by_cases hlt : i < S.size
    · by_cases h34 : (S[i]).toNat = 34
      · rw [rest_quote S i d q hlt h34, rest_quote S i (d + 1) q hlt h34]
        exact ih (S.size - (i + 1)) (by omega) (i + 1) (!q) rfl (by omega)
      · by_cases h92 : q = true ∧ (S[i]).toNat = 92
        · obtain ⟨rfl, h92⟩ := h92
          rw [rest_esc S i d hlt h92, rest_esc S i (d + 1) hlt h92]
          exact ih (S.size - (i + 2)) (by omega) (i + 2) true rfl (by omega)
        · by_cases h44 : (S[i]).toNat = 44 ∧ q = false
          · obtain ⟨h44, rfl⟩ := h44
            rw [rest_comma S i d hlt h44, rest_comma S i (d + 1) hlt h44, hp i hi]
          · rw [rest_else S i d q hlt h34 h92 h44, rest_else S i (d + 1) q hlt h34 h92 h44]
            exact ih (S.size - (i + 1)) (by omega) (i + 1) q rfl (by omega)
    · rw [rest_end S i d q (by omega), rest_end S i (d + 1) q (by omega), hp S.size hd]
theorem back_list (S t : ByteArray) (p : List UInt8) (h : S.data.toList = p ++ t.data.toList) : Back S t p.length where
  size := by
    have := congrArg List.length h
    rw [Array.length_toList, List.length_append, Array.length_toList] at this
    exact this
  at_ := by
    intro i hi h2
    have e1 : S[p.length + i] = S.data.toList[p.length + i]'(by rw [Array.length_toList]; exact h2) := by simp [ByteArray.getElem_eq_getElem_data]
    have e2 : t[i] = t.data.toList[i]'(by rw [Array.length_toList]; exact hi) := by simp [ByteArray.getElem_eq_getElem_data]
    rw [e1, e2]
    simp only [h]
    rw [List.getElem_append_right (by omega)]
    simp
  ext := by
    intro a b
    apply ByteArray.ext
    apply Array.toList_inj.1
    rw [ByteArray.data_extract, ByteArray.data_extract, Array.toList_extract, Array.toList_extract, List.extract_eq_drop_take', List.extract_eq_drop_take', h, List.take_length_add_append, List.drop_length_add_append]
theorem front_list (S s : ByteArray) (q : List UInt8) (h : S.data.toList = s.data.toList ++ 44 :: q) : Front S s where
  le := by
    have := congrArg List.length h
    rw [Array.length_toList, List.length_append, Array.length_toList, List.length_cons] at this
    have e1 : S.size = S.data.size := rfl
    have e2 : s.size = s.data.size := rfl
    omega
  at_ := by
    intro i hi h2
    have e1 : S[i] = S.data.toList[i]'(by rw [Array.length_toList]; exact h2) := by simp [ByteArray.getElem_eq_getElem_data]
    have e2 : s[i] = s.data.toList[i]'(by rw [Array.length_toList]; exact hi) := by simp [ByteArray.getElem_eq_getElem_data]
    rw [e1, e2]
    simp only [h]
    rw [List.getElem_append_left (by rw [Array.length_toList]; exact hi)]
  comma := by
    intro h2
    have e1 : S[s.size] = S.data.toList[s.size]'(by rw [Array.length_toList]; exact h2) := by simp [ByteArray.getElem_eq_getElem_data]
    have e3 : s.data.toList.length = s.size := by rw [Array.length_toList]; rfl
    rw [e1]
    simp only [h]
    rw [List.getElem_append_right (by omega)]
    simp [e3]
  ext := by
    intro a b hb
    apply ByteArray.ext
    apply Array.toList_inj.1
    have e3 : s.data.toList.length = s.size := by rw [Array.length_toList]; rfl
    rw [ByteArray.data_extract, ByteArray.data_extract, Array.toList_extract, Array.toList_extract, List.extract_eq_drop_take', List.extract_eq_drop_take', h]
    rw [List.take_append_of_le_length (by omega)]
/-- a list behind a comma and a blank: the parts of both -/
theorem split_app (s t : ByteArray) (h : calm s = true) : split (s ++ ⟨#[44, 32]⟩ ++ t) = split s ++ split t := by
  have hl : (s ++ ⟨#[44, 32]⟩ ++ t).data.toList = s.data.toList ++ 44 :: 32 :: t.data.toList := by simp [ByteArray.data_append]
  generalize s ++ ⟨#[44, 32]⟩ ++ t = S at hl
  have hf := front_list S s _ hl
  have e3 : s.data.toList.length = s.size := by rw [Array.length_toList]; rfl
  have hb := back_list S t (s.data.toList ++ [44, 32]) (by rw [hl]; simp)
  have hd : (s.data.toList ++ [44, 32]).length = s.size + 2 := by simp
  rw [hd] at hb
  have h32 : ∀ h : s.size + 1 < S.size, (S[s.size + 1]).toNat = 32 := by
    intro h2
    have e1 : S[s.size + 1] = S.data.toList[s.size + 1]'(by rw [Array.length_toList]; exact h2) := by simp [ByteArray.getElem_eq_getElem_data]
    rw [e1]
    simp only [hl]
    rw [List.getElem_append_right (by omega)]
    simp [e3, show s.size + 1 - s.size = 1 by omega]
  have hlt : s.size + 1 < S.size := by have := hb.size; omega
  have h1 := rest_front hf s.size 0 0 false rfl (Nat.zero_le _) (by rw [List.drop_zero]; exact Calm.calm_iff h)
  rw [Nat.sub_zero, Nat.sub_zero] at h1
  unfold Sign.split
  rw [h1]
  congr 1
  have hc := h32 hlt
  rw [rest_else S (s.size + 1) (s.size + 1) false hlt (by omega) (by rintro ⟨e, _⟩; cases e) (by omega)]
  rw [rest_blank hlt hc _ (s.size + 1 + 1) false rfl (by omega)]
  have h2 := rest_back hb _ 0 0 false rfl (Nat.zero_le _)
  rw [Nat.add_zero, Nat.sub_zero] at h2
  exact h2
theorem split_empty : split ⟨#[]⟩ = [] := by
  unfold Sign.split
  show Sign.part _ _ _ = []
  unfold Sign.part
  rw [if_pos]
  have := Sign.trim_size ((⟨#[]⟩ : ByteArray).extract 0 (⟨#[]⟩ : ByteArray).size)
  have e : ((⟨#[]⟩ : ByteArray).extract 0 (⟨#[]⟩ : ByteArray).size).size = 0 := by rw [ByteArray.size_extract]; rfl
  omega
/-- what is got of two lists -/
def both (r m : ByteArray × Bool) : ByteArray × Bool := if r.2 = true then (if m.2 = true then (r.1 ++ ⟨#[44, 32]⟩ ++ m.1, true) else r) else m
theorem get_two (l m : List Fld) (name : ByteArray) : Flds.get (l ++ m) name = both (Flds.get l name) (Flds.get m name) := by
  have hz : ∀ l : List Fld, (Flds.get l name).2 = false → (Flds.get l name).1 = ⟨#[]⟩ := by
    intro l
    refine Num.snoc_ind (P := fun l => (Flds.get l name).2 = false → (Flds.get l name).1 = ⟨#[]⟩) (fun _ => rfl) ?_ l
    intro l f ih h
    have e : Flds.get (l ++ [f]) name = Flds.getStep name (Flds.get l name) f := by unfold Flds.get; rw [List.foldl_append]; rfl
    rw [e] at h ⊢
    unfold Flds.getStep at *
    split at h
    · cases h
    · next hn => rw [if_neg hn]; exact ih h
  refine Num.snoc_ind (P := fun m => Flds.get (l ++ m) name = both (Flds.get l name) (Flds.get m name)) ?_ ?_ m
  · rw [List.append_nil]
    have e : Flds.get [] name = (⟨#[]⟩, false) := rfl
    rw [e]
    unfold both
    by_cases h : (Flds.get l name).2 = true
    · rw [if_pos h]; rfl
    · rw [if_neg h]
      have h2 : (Flds.get l name).2 = false := by simpa using h
      exact Prod.ext (hz l h2) h2
  · intro m f ih
    have e1 : Flds.get (l ++ (m ++ [f])) name = Flds.getStep name (Flds.get (l ++ m) name) f := by rw [← List.append_assoc]; unfold Flds.get; rw [List.foldl_append]; rfl
    have e2 : Flds.get (m ++ [f]) name = Flds.getStep name (Flds.get m name) f := by unfold Flds.get; rw [List.foldl_append]; rfl
    rw [e1, e2, ih]
    have hm := hz m
    generalize Flds.get l name = r
    generalize Flds.get m name = k at hm ⊢
    obtain ⟨r1, r2⟩ := r
    obtain ⟨k1, k2⟩ := k
    simp only at hm
    unfold both Flds.getStep
    by_cases hf : f.1 = name
    · rw [if_pos hf, if_pos hf]
      cases r2 <;> cases k2 <;> simp
      · rw [hm rfl]
        apply ByteArray.ext; simp [ByteArray.data_append]
      · apply ByteArray.ext; simp [ByteArray.data_append]
    · rw [if_neg hf, if_neg hf]
theorem cc_same : ccName = Calm.cc := rfl
/-- what is got of it ends its quotes -/
theorem get_calm (l : List Fld) (h : ∀ f ∈ l, Calm.Said f.1 f.2) : calm (Flds.get l ccName).1 = true := by
  revert h
  refine Num.snoc_ind (P := fun l => (∀ f ∈ l, Calm.Said f.1 f.2) → calm (Flds.get l ccName).1 = true) (fun _ => Calm.calm_empty) ?_ l
  intro l f ih h
  have e : Flds.get (l ++ [f]) ccName = Flds.getStep ccName (Flds.get l ccName) f := by unfold Flds.get; rw [List.foldl_append]; rfl
  have i1 := ih (fun g hg => h g (List.mem_append_left _ hg))
  rw [e]
  unfold Flds.getStep
  by_cases hn : f.1 = ccName
  · have i2 := h f (by simp) hn
    rw [if_pos hn]
    simp only
    refine Calm.calm_app ?_ i2
    split
    · exact Calm.calm_app i1 Calm.calm_comma
    · exact i1
  · rw [if_neg hn]; exact i1
theorem parts_app (L M : List ByteArray) : ofParts (L ++ M) = ofParts L ++ ofParts M := by unfold ofParts; exact List.filterMap_append
/-- what stands twice is said twice -/
theorem dirs_twice (l : List Fld) (h : ∀ f ∈ l, Calm.Said f.1 f.2) : dirs (l ++ l) = dirs l ++ dirs l := by
  have hc := get_calm l h
  unfold dirs
  rw [get_two]
  unfold both
  by_cases hb : (Flds.get l ccName).2 = true
  · rw [if_pos hb, if_pos hb]
    simp only
    rw [split_app _ _ hc, parts_app]
  · rw [if_neg hb]
    have h2 : (Flds.get l ccName).1 = ⟨#[]⟩ := by
      have := get_two l [] ccName
      rw [List.append_nil] at this
      unfold both at this
      rw [if_neg hb] at this
      rw [this]; rfl
    rw [h2, split_empty]; rfl
def comb : Option Int → Option Int → Option Int
  | none, y => y
  | some a, none => some a
  | some a, some b => some (min a b)
theorem least_two (d e : List Fld) (name : ByteArray) : least (d ++ e) name = comb (least d name) (least e name) := by
  refine Num.snoc_ind (P := fun e => least (d ++ e) name = comb (least d name) (least e name)) ?_ ?_ e
  · rw [List.append_nil]
    show _ = comb (least d name) none
    cases least d name <;> rfl
  · intro e f ih
    rw [← List.append_assoc, least_snoc, least_snoc, ih]
    unfold leastStep
    by_cases hf : f.1 = name
    · rw [if_pos hf, if_pos hf]
      cases least d name with
      | none => rfl
      | some a =>
        cases least e name with
        | none => simp [comb, lesser, Int.min_comm]
        | some b => simp only [comb, lesser, Option.some.injEq]; omega
    · rw [if_neg hf, if_neg hf]
theorem sec_twice (d : List Fld) (name : ByteArray) : sec (d ++ d) name = sec d name := by
  unfold sec
  rw [least_two]
  cases least d name with
  | none => rfl
  | some a => simp [comb]
theorem least_some (d : List Fld) (name : ByteArray) (i : Nat) (hi : i < d.length) (h : d[i].1 = name) : ∃ c, least d name = some c ∧ c ≤ (Sign.secs d[i].2).1 := by
  have hd : d = d.take (i + 1) ++ d.drop (i + 1) := (List.take_append_drop _ _).symm
  have h1 : least (d.take (i + 1)) name = some (lesser (least (d.take i) name) (Sign.secs d[i].2).1) := by
    rw [least_take d name i hi]; unfold leastStep; rw [if_pos h]
  have h2 : lesser (least (d.take i) name) (Sign.secs d[i].2).1 ≤ (Sign.secs d[i].2).1 := by
    unfold lesser
    split <;> omega
  have h3 : least d name = comb (least (d.take (i + 1)) name) (least (d.drop (i + 1)) name) := by
    rw [← least_two, List.take_append_drop]
  rw [h3, h1]
  generalize lesser (least (d.take i) name) (Sign.secs d[i].2).1 = a at h2
  cases least (d.drop (i + 1)) name with
  | none => exact ⟨a, rfl, h2⟩
  | some b => exact ⟨min a b, rfl, by omega⟩
theorem lower_twice (s : ByteArray) : Sign.lower (Sign.lower s) = Sign.lower s := by
  unfold Sign.lower
  apply ByteArray.ext
  apply Array.toList_inj.1
  simp only [List.map_map]
  apply List.map_congr_left
  intro b _
  show Sign.lowB (Sign.lowB b) = Sign.lowB b
  by_cases h : Sign.up (b.toNat : Int)
  · refine Sign.lowB_no _ ?_
    have := Sign.lowB_up b h
    unfold Sign.up at *
    omega
  · rw [Sign.lowB_no b h, Sign.lowB_no b h]
theorem dirs_small_names (l : List Fld) : ∀ f ∈ dirs l, Sign.lower f.1 = f.1 := by
  intro f hf
  obtain ⟨t, _, he⟩ := List.mem_filterMap.1 hf
  unfold dirAt at he
  split at he
  · cases he
    exact lower_twice _
  · cases he
end Cc
end Go.Proofs.YtbcjpjhpobmpbaaGreatDoor
namespace Go.Proofs.YtbcjpjhpobmpbaaGreatDoor
open Go.RowKit
set_option linter.unusedVariables false
namespace Pol
open Flds (Fld)
open Age (sMaxAge maxAge expiresName ageAt lifetime satAdd)

def noStore : ByteArray := ⟨#[110, 111, 45, 115, 116, 111, 114, 101]⟩
def noCache : ByteArray := ⟨#[110, 111, 45, 99, 97, 99, 104, 101]⟩
def priv : ByteArray := ⟨#[112, 114, 105, 118, 97, 116, 101]⟩
def publ : ByteArray := ⟨#[112, 117, 98, 108, 105, 99]⟩
def mustRe : ByteArray := ⟨#[109, 117, 115, 116, 45, 114, 101, 118, 97, 108, 105, 100, 97, 116, 101]⟩
def minFresh : ByteArray := ⟨#[109, 105, 110, 45, 102, 114, 101, 115, 104]⟩
def varyName : ByteArray := ⟨#[118, 97, 114, 121]⟩
def authName : ByteArray := ⟨#[97, 117, 116, 104, 111, 114, 105, 122, 97, 116, 105, 111, 110]⟩
def star : ByteArray := ⟨#[42]⟩
/-- is it older than one wants it? -/
def tooOld (lq lr : List Fld) (asked came now : Int) : Bool := (Cc.sec (Cc.dirs lq) maxAge).2 && decide ((Cc.sec (Cc.dirs lq) maxAge).1 < ageAt lr asked came now)
/-- is it not fresh for as long as one wants it? -/
def tooStale (lq lr : List Fld) (asked came now : Int) : Bool := (Cc.sec (Cc.dirs lq) minFresh).2 && decide (lifetime lr < satAdd (ageAt lr asked came now) (Cc.sec (Cc.dirs lq) minFresh).1)
def mustCheck (lq lr : List Fld) (asked came now : Int) : Bool :=
  said lq noCache || said lr noCache || tooOld lq lr asked came now || tooStale lq lr asked came now || decide (lifetime lr ≤ ageAt lr asked came now)
theorem satAdd_mono (a b c : Int) (h : a ≤ b) : satAdd a c ≤ satAdd b c := by unfold satAdd Age.clamp; omega
/-- what must be looked at must be so later -/
theorem must_later (lq lr : List Fld) (asked came now k : Int) (hk : 0 ≤ k) (h : mustCheck lq lr asked came now = true) : mustCheck lq lr asked came (now + k) = true := by
  have h1 := Age.age_later lr asked came now k hk
  unfold mustCheck tooOld tooStale at *
  have h2 := satAdd_mono _ _ (Cc.sec (Cc.dirs lq) minFresh).1 h1
  simp only [Bool.or_eq_true, Bool.and_eq_true, decide_eq_true_iff] at h ⊢
  rcases h with (((h | h) | h) | h) | h
  · exact .inl (.inl (.inl (.inl h)))
  · exact .inl (.inl (.inl (.inr h)))
  · exact .inl (.inl (.inr ⟨h.1, by omega⟩))
  · exact .inl (.inr ⟨h.1, by omega⟩)
  · exact .inr (by omega)
/-- what is not fresh must be looked at -/
theorem fresh_or (lq lr : List Fld) (asked came now : Int) : (Age.isFresh lr asked came now || mustCheck lq lr asked came now) = true := by
  unfold mustCheck Age.isFresh
  by_cases h : ageAt lr asked came now < lifetime lr
  · rw [decide_eq_true h]; rfl
  · rw [decide_eq_true (by omega : lifetime lr ≤ ageAt lr asked came now), Bool.or_true, Bool.or_true]
theorem must_q (lq lr : List Fld) (asked came now : Int) (h : said lq noCache = true) : mustCheck lq lr asked came now = true := by unfold mustCheck; rw [h]; rfl
theorem must_r (lq lr : List Fld) (asked came now : Int) (h : said lr noCache = true) : mustCheck lq lr asked came now = true := by unfold mustCheck; rw [h, Bool.or_true]; rfl
/-- the directives of one list behind another -/
theorem dirs_two (l m : List Fld) (h : ∀ f ∈ l, Calm.Said f.1 f.2) : Cc.dirs (l ++ m) = Cc.dirs l ++ Cc.dirs m := by
  have hc := Cc.get_calm l h
  unfold Cc.dirs
  rw [Cc.get_two]
  unfold Cc.both
  by_cases hb : (Flds.get l Cc.ccName).2 = true
  · rw [if_pos hb]
    by_cases hm : (Flds.get m Cc.ccName).2 = true
    · rw [if_pos hm]
      simp only
      rw [Cc.split_app _ _ hc, Cc.parts_app]
    · rw [if_neg hm]
      have h2 : (Flds.get m Cc.ccName).1 = ⟨#[]⟩ := by
        have := Cc.get_two m [] Cc.ccName
        rw [List.append_nil] at this
        unfold Cc.both at this
        rw [if_neg hm] at this
        rw [this]; rfl
      rw [h2, Cc.split_empty]
      exact (List.append_nil _).symm
  · rw [if_neg hb]
    have h2 : (Flds.get l Cc.ccName).1 = ⟨#[]⟩ := by
      have := Cc.get_two l [] Cc.ccName
      rw [List.append_nil] at this
      unfold Cc.both at this
      rw [if_neg hb] at this
      rw [this]; rfl
    rw [h2, Cc.split_empty]; rfl
theorem said_more (l : List Fld) (h : ∀ f ∈ l, Calm.Said f.1 f.2) (y name : ByteArray) (hy : Cc.has (Cc.dirs [(Cc.ccName, y)]) name = true) : said (l ++ [(Cc.ccName, y)]) name = true := by
  unfold said
  rw [dirs_two l _ h]
  unfold Cc.has at *
  rw [List.any_append, hy, Bool.or_true]
theorem said_store (l : List Fld) (h : ∀ f ∈ l, Calm.Said f.1 f.2) : said (l ++ [(Cc.ccName, noStore)]) noStore = true := said_more l h _ _ (by decide +kernel)
theorem said_look (l : List Fld) (h : ∀ f ∈ l, Calm.Said f.1 f.2) : said (l ++ [(Cc.ccName, noCache)]) noCache = true := said_more l h _ _ (by decide +kernel)
end Pol
end Go.Proofs.YtbcjpjhpobmpbaaGreatDoor
namespace Go.Proofs.YtbcjpjhpobmpbaaGreatDoor
set_option linter.unusedVariables false
namespace Line

/-- the first end of a line from i on, within n places -/
def eolGo (s : ByteArray) : Nat → Nat → Option Nat
  | 0, _ => none
  | n + 1, i => if byteAt s i = 13 ∧ byteAt s (i + 1) = 10 then some i else eolGo s n (i + 1)
/-- where the line at 'a' ends -/
def eol (s : ByteArray) (a : Nat) : Option Nat := eolGo s (s.size - a) a
theorem eolGo_in (s : ByteArray) : ∀ (n i k : Nat), eolGo s n i = some k → i ≤ k ∧ k + 1 < s.size := by
  intro n
  induction n with
  | zero => intro i k h; cases h
  | succ n ih =>
    intro i k h
    unfold eolGo at h
    split at h
    · next hc =>
      cases h
      refine ⟨Nat.le_refl _, ?_⟩
      by_cases hz : i + 1 < s.size
      · exact hz
      · exfalso; have := hc.2; unfold byteAt at this; rw [dif_neg hz] at this; omega
    · have := ih (i + 1) k h; omega
theorem eol_in {s : ByteArray} {a k : Nat} (h : eol s a = some k) : a ≤ k ∧ k + 1 < s.size := eolGo_in s _ a k h
theorem eol_hit (s : ByteArray) (i : Nat) (h : i + 1 < s.size) (h1 : (s[i]'(by omega)).toNat = 13) (h2 : (s[i + 1]).toNat = 10) : eol s i = some i := by
  unfold eol
  obtain ⟨n, hn⟩ : ∃ n, s.size - i = n + 1 := ⟨s.size - i - 1, by omega⟩
  rw [hn, eolGo, if_pos ⟨by rw [byteAt_eq s i (by omega)]; exact h1, by rw [byteAt_eq s (i + 1) h]; exact h2⟩]
theorem eol_next (s : ByteArray) (i : Nat) (h : i + 1 < s.size) (hn : ¬ ((s[i]'(by omega)).toNat = 13 ∧ (s[i + 1]).toNat = 10)) : eol s i = eol s (i + 1) := by
  unfold eol
  obtain ⟨n, e⟩ : ∃ n, s.size - i = n + 1 := ⟨s.size - i - 1, by omega⟩
  rw [e, eolGo, if_neg (by rw [byteAt_eq s i (by omega), byteAt_eq s (i + 1) h]; exact hn), show s.size - (i + 1) = n by omega]
theorem eol_end (s : ByteArray) (i : Nat) (h : s.size ≤ i + 1) : eol s i = none := by
  cases e : eol s i with
  | none => rfl
  | some k => have := eol_in e; omega
/-- what the call tells -/
def lineOf (s : ByteArray) (a : Nat) : ByteArray × Int := match eol s a with | some k => (s.extract a k, (k : Int) + 2) | none => (⟨#[]⟩, -1)
/-- the first colon from i on, within n places -/
def colonGo (s : ByteArray) : Nat → Nat → Option Nat
  | 0, _ => none
  | n + 1, i => if byteAt s i = 58 then some i else colonGo s n (i + 1)
def colon (s : ByteArray) : Option Nat := colonGo s s.size 0
theorem colonGo_in (s : ByteArray) : ∀ (n i k : Nat), colonGo s n i = some k → i ≤ k ∧ k < s.size := by
  intro n
  induction n with
  | zero => intro i k h; cases h
  | succ n ih =>
    intro i k h
    unfold colonGo at h
    split at h
    · next hc =>
      cases h
      refine ⟨Nat.le_refl _, ?_⟩
      by_cases hz : i < s.size
      · exact hz
      · exfalso; unfold byteAt at hc; rw [dif_neg hz] at hc; omega
    · have := ih (i + 1) k h; omega
theorem colon_in {s : ByteArray} {k : Nat} (h : colon s = some k) : k < s.size := (colonGo_in s _ 0 k h).2
def colonOf (s : ByteArray) : Int := match colon s with | some k => (k : Int) | none => -1
end Line
end Go.Proofs.YtbcjpjhpobmpbaaGreatDoor
namespace Go.Proofs.YtbcjpjhpobmpbaaGreatDoor
open Go.RowKit
set_option linter.unusedVariables false
set_option linter.unusedSimpArgs false
namespace Flds

/-- the field of a line, where a colon stands at k -/
def fieldOf (line : ByteArray) (k : Nat) : Fld := (Sign.lower (line.extract 0 k), Sign.trim (line.extract (k + 1) line.size))
/-- what is read from 'a' on behind the fields l, in at most so many lines: the fields and the next place -/
def readGo (s : ByteArray) : Nat → Nat → List Fld → Option (List Fld × Nat)
  | 0, _, _ => none
  | n + 1, a, l =>
    match Line.eol s a with
    | none => none
    | some i => if i = a then some (l, i + 2) else
      match Line.colon (s.extract a i) with
      | none => none
      | some k => if okF (fieldOf (s.extract a i) k) = true then readGo s n (i + 2) (l ++ [fieldOf (s.extract a i) k]) else none
/-- the fields and the place behind them -/
def read (s : ByteArray) : Option (List Fld × Nat) := readGo s 13 0 []
/-- where the reading stands -/
structure RdAt (s : ByteArray) (a : Nat) (l : List Fld) : Prop where
  le : a ≤ s.size
  len : l.length ≤ 13
  all : l.all okF = true
  same : read s = readGo s (13 - l.length) a l
  small : ∀ f ∈ l, f.1.size ≤ 60 ∧ f.2.size ≤ 60
theorem rd_start (s : ByteArray) : RdAt s 0 [] := ⟨Nat.zero_le _, Nat.zero_le _, rfl, rfl, fun f hf => by cases hf⟩
theorem okF_small {f : Fld} (h : okF f = true) : f.1.size ≤ 60 ∧ f.2.size ≤ 60 := by
  unfold okF at h
  simp only [Bool.and_eq_true, decide_eq_true_iff] at h
  omega
section
variable {s : ByteArray} {a : Nat} {l : List Fld}
theorem rd_full (h : RdAt s a l) (hl : ¬ l.length ≤ 12) : read s = none := by
  rw [h.same, show 13 - l.length = 0 by omega]; rfl
theorem rd_step (h : RdAt s a l) (hl : l.length ≤ 12) : ∃ n, 13 - l.length = n + 1 := ⟨12 - l.length, by omega⟩
theorem rd_none (h : RdAt s a l) (hl : l.length ≤ 12) (he : Line.eol s a = none) : read s = none := by
  obtain ⟨n, hn⟩ := rd_step h hl
  rw [h.same, hn, readGo, he]
theorem rd_done (h : RdAt s a l) (hl : l.length ≤ 12) (he : Line.eol s a = some a) : read s = some (l, a + 2) := by
  obtain ⟨n, hn⟩ := rd_step h hl
  rw [h.same, hn, readGo, he]; simp
theorem rd_nocolon (h : RdAt s a l) (hl : l.length ≤ 12) {i : Nat} (he : Line.eol s a = some i) (hi : i ≠ a) (hc : Line.colon (s.extract a i) = none) : read s = none := by
  obtain ⟨n, hn⟩ := rd_step h hl
  rw [h.same, hn, readGo, he]; simp only; rw [if_neg hi, hc]
theorem rd_bad (h : RdAt s a l) (hl : l.length ≤ 12) {i k : Nat} (he : Line.eol s a = some i) (hi : i ≠ a) (hc : Line.colon (s.extract a i) = some k) (hf : okF (fieldOf (s.extract a i) k) = false) : read s = none := by
  obtain ⟨n, hn⟩ := rd_step h hl
  rw [h.same, hn, readGo, he]; simp only; rw [if_neg hi, hc]; simp only; rw [if_neg (by rw [hf]; decide)]
theorem rd_more (h : RdAt s a l) (hl : l.length ≤ 12) {i k : Nat} (he : Line.eol s a = some i) (hi : i ≠ a) (hc : Line.colon (s.extract a i) = some k) (hf : okF (fieldOf (s.extract a i) k) = true) : RdAt s (i + 2) (l ++ [fieldOf (s.extract a i) k]) where
  le := by have := Line.eol_in he; omega
  len := by rw [List.length_append]; simp; omega
  all := by rw [List.all_append, h.all]; simp [hf]
  same := by
    obtain ⟨n, hn⟩ := rd_step h hl
    rw [h.same, hn, readGo, he]; simp only; rw [if_neg hi, hc]; simp only; rw [if_pos hf, List.length_append, List.length_singleton, show 13 - (l.length + 1) = n by omega]
  small := by
    intro f hf2
    rcases List.mem_append.1 hf2 with h1 | h1
    · exact h.small f h1
    · obtain rfl := List.mem_singleton.1 h1
      exact okF_small hf
theorem rd_ok (h : RdAt s a l) (hl : l.length ≤ 12) : ok l = true := by unfold ok; rw [h.all, Bool.true_and]; exact decide_eq_true hl
end
/-- what the call tells: the fields, how many bytes, and whether there were any to be read -/
def readL (s : ByteArray) : List Fld := match read s with | some (l, _) => l | none => []
def readN (s : ByteArray) : Int := match read s with | some (_, n) => (n : Int) | none => 0
def readB (s : ByteArray) : Bool := (read s).isSome
theorem told_none {s : ByteArray} (h : read s = none) : readL s = [] ∧ readN s = 0 ∧ readB s = false := by unfold readL readN readB; rw [h]; exact ⟨rfl, rfl, rfl⟩
theorem told_some {s : ByteArray} {l : List Fld} {n : Nat} (h : read s = some (l, n)) : readL s = l ∧ readN s = (n : Int) ∧ readB s = true := by unfold readL readN readB; rw [h]; exact ⟨rfl, rfl, rfl⟩
theorem readGo_length (s : ByteArray) : ∀ (n a : Nat) (l : List Fld) (p : List Fld × Nat), readGo s n a l = some p → p.1.length ≤ l.length + n := by
  intro n
  induction n with
  | zero => intro a l p h; cases h
  | succ n ih =>
    intro a l p h
    rw [readGo] at h
    cases he : Line.eol s a with
    | none => rw [he] at h; cases h
    | some i =>
      rw [he] at h
      simp only at h
      by_cases hi : i = a
      · rw [if_pos hi] at h; cases h; simp only; omega
      · rw [if_neg hi] at h
        cases hc : Line.colon (s.extract a i) with
        | none => rw [hc] at h; cases h
        | some k =>
          rw [hc] at h
          simp only at h
          by_cases hk : okF (fieldOf (s.extract a i) k) = true
          · rw [if_pos hk] at h
            have := ih _ _ _ h
            rw [List.length_append, List.length_singleton] at this
            omega
          · rw [if_neg hk] at h; cases h
theorem readL_length (s : ByteArray) : (readL s).length ≤ 13 := by
  unfold readL
  cases h : read s with
  | none => exact Nat.zero_le _
  | some p =>
    have := readGo_length s _ _ _ _ h
    rw [List.length_nil] at this
    obtain ⟨l, n⟩ := p
    simp only at this ⊢
    omega
end Flds
end Go.Proofs.YtbcjpjhpobmpbaaGreatDoor
