/-
  Parts of a list put together anew, plain: they are parted into no more than they were.
-/
import Derived.Test.YtkogcbnbmdeolaaDoorCcBack
namespace Go.Proofs.YtkogcbnbmdeolaaDoor
open Go.RowKit
set_option linter.unusedVariables false
namespace Norm
open Sign (rest split trim bl rest_quote rest_esc rest_comma rest_else rest_end)
open Calm (ends calm)

/-- one byte: within quotes (1), behind a sign of escape (2), outside (0); and whether no comma was met outside -/
def stp (p : Nat × Bool) (c : UInt8) : Nat × Bool :=
  (if p.1 = 2 then 1 else if c.toNat = 34 then (if p.1 = 0 then 1 else 0) else if p.1 = 1 ∧ c.toNat = 92 then 2 else p.1, p.2 && !(decide (p.1 = 0) && decide (c.toNat = 44)))
def run (l : List UInt8) : Nat × Bool := l.foldl stp (0, true)
theorem run_app (x y : List UInt8) : run (x ++ y) = y.foldl stp (run x) := List.foldl_append
theorem run_snoc (x : List UInt8) (c : UInt8) : run (x ++ [c]) = stp (run x) c := by rw [run_app]; rfl
theorem stays (l : List UInt8) : ∀ p : Nat × Bool, p.2 = false → (l.foldl stp p).2 = false := by
  induction l with
  | nil => intro p h; exact h
  | cons c t ih => intro p h; exact ih _ (by unfold stp; simp [h])
theorem run_front {x y : List UInt8} (h : (run (x ++ y)).2 = true) : (run x).2 = true := by
  rw [run_app] at h
  cases hx : (run x).2 with
  | true => rfl
  | false => rw [stays y _ hx] at h; cases h
theorem fst_same (l : List UInt8) : ∀ p q : Nat × Bool, p.1 = q.1 → (l.foldl stp p).1 = (l.foldl stp q).1 := by
  induction l with
  | nil => intro p q h; exact h
  | cons c t ih =>
    intro p q h
    rw [List.foldl_cons, List.foldl_cons]
    exact ih _ _ (by unfold stp; simp only [h])
theorem ends_run : ∀ (n : Nat) (l : List UInt8) (q : Bool), l.length = n → ends l q = decide ((l.foldl stp (if q = true then 1 else 0, true)).1 ≠ 0) := by
  intro n
  induction n using Nat.strongRecOn with
  | _ n ih =>
    intro l q hl
    cases l with
    | nil => cases q <;> rfl
    | cons c t =>
      simp only [List.length_cons] at hl
      rw [List.foldl_cons]
      by_cases h1 : c.toNat = 34
      · rw [Calm.ends_quote c t q h1, ih t.length (by omega) t (!q) rfl]
        refine congrArg (fun x => decide (x ≠ 0)) (fst_same _ _ _ ?_)
        cases q <;> simp [stp, h1]
      · by_cases h2 : q = true ∧ c.toNat = 92
        · obtain ⟨rfl, h2⟩ := h2
          rw [Calm.ends_esc c t h2]
          cases t with
          | nil => simp [stp, h2]
          | cons d u =>
            simp only [List.length_cons] at hl
            simp only [List.foldl_cons]
            rw [ih u.length (by omega) u true rfl]
            refine congrArg (fun x => decide (x ≠ 0)) (fst_same _ _ _ ?_)
            simp [stp, h2]
        · rw [Calm.ends_else c t q h1 h2, ih t.length (by omega) t q rfl]
          refine congrArg (fun x => decide (x ≠ 0)) (fst_same _ _ _ ?_)
          cases q with
          | false => simp [stp, h1]
          | true =>
            have h3 : ¬ c.toNat = 92 := fun h => h2 ⟨rfl, h⟩
            simp [stp, h1, h3]
theorem calm_run {s : ByteArray} (h : (run s.data.toList).1 = 0) : calm s = true := by
  refine Calm.of_ends ?_
  rw [ends_run _ _ false rfl]
  exact decide_eq_false (fun hn => hn h)
theorem bl_toNat {c : UInt8} (h : bl c = true) : c.toNat = 32 ∨ c.toNat = 9 := by
  unfold Sign.bl Sign.blank at h
  have := of_decide_eq_true h
  omega
theorem stp_blank {c : UInt8} (h : bl c = true) : stp (0, true) c = (0, true) := by
  have h := bl_toNat h
  have h1 : ¬ c.toNat = 34 := by omega
  have h2 : ¬ c.toNat = 44 := by omega
  simp [stp, h1, h2]
theorem run_blanks : ∀ l : List UInt8, (∀ b ∈ l, bl b = true) → run l = (0, true) := by
  intro l h
  unfold run
  induction l with
  | nil => rfl
  | cons c t ih =>
    rw [List.foldl_cons, stp_blank (h c (by simp))]
    exact ih (fun b hb => h b (List.mem_cons_of_mem _ hb))
theorem back_blanks (x : List UInt8) : ∀ l : List UInt8, (∀ b ∈ l, bl b = true) → (run (x ++ l)).1 = 0 → (run x).1 = 0 := by
  intro l
  refine Num.snoc_ind (P := fun l => (∀ b ∈ l, bl b = true) → (run (x ++ l)).1 = 0 → (run x).1 = 0) (fun _ h => by rwa [List.append_nil] at h) ?_ l
  intro l c ih hb h
  rw [← List.append_assoc, run_snoc] at h
  refine ih (fun b hb' => hb b (by simp [hb'])) ?_
  have hc := bl_toNat (hb c (by simp))
  have h1 : ¬ c.toNat = 34 := by omega
  have h2 : ¬ c.toNat = 92 := by omega
  unfold stp at h
  simp only [h1, h2, if_false, and_false] at h
  split at h
  · cases h
  · exact h
theorem all_take (l : List UInt8) : ∀ b ∈ l.takeWhile bl, bl b = true := by
  induction l with
  | nil => intro b hb; cases hb
  | cons c t ih =>
    intro b hb
    rw [List.takeWhile_cons] at hb
    by_cases hc : bl c = true
    · rw [if_pos hc] at hb
      rcases List.mem_cons.1 hb with rfl | h
      · exact hc
      · exact ih b h
    · rw [if_neg hc] at hb; cases hb
/-- what a text tells that is trimmed -/
theorem run_trim (s : ByteArray) (h : (run s.data.toList).2 = true) : (run (trim s).data.toList).2 = true ∧ ((run s.data.toList).1 = 0 → (run (trim s).data.toList).1 = 0) := by
  have e1 : (trim s).data.toList = ((s.data.toList.dropWhile bl).reverse.dropWhile bl).reverse := by unfold Sign.trim; simp
  rw [e1]
  generalize s.data.toList = x at h ⊢
  have e2 : run x = run (x.dropWhile bl) := by
    conv => lhs; rw [← List.takeWhile_append_dropWhile (p := bl) (l := x)]
    rw [run_app, run_blanks _ (all_take x)]
    rfl
  rw [e2] at h ⊢
  generalize x.dropWhile bl = y at h ⊢
  have e3 : y = (y.reverse.dropWhile bl).reverse ++ (y.reverse.takeWhile bl).reverse := by
    rw [← List.reverse_append, List.takeWhile_append_dropWhile, List.reverse_reverse]
  have hb : ∀ b ∈ (y.reverse.takeWhile bl).reverse, bl b = true := fun b hb => all_take _ b (List.mem_reverse.1 hb)
  generalize (y.reverse.dropWhile bl).reverse = z at e3 ⊢
  generalize (y.reverse.takeWhile bl).reverse = r at e3 hb
  subst e3
  exact ⟨run_front h, back_blanks z r hb⟩
/-- a stretch of a text -/
def seg (s : ByteArray) (a i : Nat) : List UInt8 := (s.data.toList.drop a).take (i - a)
theorem seg_extract (s : ByteArray) (a b : Nat) : (s.extract a b).data.toList = seg s a b := by
  unfold seg
  rw [ByteArray.data_extract, Array.toList_extract]
theorem seg_none (s : ByteArray) (a : Nat) : seg s a a = [] := by unfold seg; simp
theorem seg_next (s : ByteArray) (a i : Nat) (ha : a ≤ i) (hi : i < s.size) : seg s a (i + 1) = seg s a i ++ [s[i]] := by
  unfold seg
  have hl : i - a < (s.data.toList.drop a).length := by rw [List.length_drop, Array.length_toList]; show i - a < s.size - a; omega
  rw [show i + 1 - a = i - a + 1 by omega, List.take_succ_eq_append_getElem hl]
  congr 2
  rw [List.getElem_drop]
  have e : a + (i - a) = i := by omega
  simp only [e]
  rfl
theorem run_next (s : ByteArray) (a i : Nat) (ha : a ≤ i) (hi : i < s.size) (p : Nat × Bool) (h : run (seg s a i) = p) : run (seg s a (i + 1)) = stp p s[i] := by
  rw [seg_next s a i ha hi, run_snoc, h]
/-- each has no comma outside of quotes; but for the last one, each ends its quotes -/
def Good (L : List ByteArray) : Prop := (∀ p ∈ L, (run p.data.toList).2 = true) ∧ ∀ p ∈ L.dropLast, (run p.data.toList).1 = 0
theorem good_part (s : ByteArray) (a b : Nat) (h : (run (seg s a b)).2 = true) : Good (Sign.part s a b) := by
  unfold Sign.part
  split
  · exact ⟨fun p hp => absurd hp List.not_mem_nil, fun p hp => absurd hp List.not_mem_nil⟩
  · refine ⟨fun p hp => ?_, fun p hp => absurd hp List.not_mem_nil⟩
    rw [List.mem_singleton.1 hp]
    exact (run_trim _ (by rw [seg_extract]; exact h)).1
theorem part_calm (s : ByteArray) (a b : Nat) (h : run (seg s a b) = (0, true)) : ∀ p ∈ Sign.part s a b, (run p.data.toList).1 = 0 := by
  intro p hp
  unfold Sign.part at hp
  split at hp
  · cases hp
  · rw [List.mem_singleton.1 hp]
    exact (run_trim _ (by rw [seg_extract, h])).2 (by rw [seg_extract, h])
theorem good_app {P L : List ByteArray} (h1 : Good P) (h2 : ∀ p ∈ P, (run p.data.toList).1 = 0) (h3 : Good L) : Good (P ++ L) := by
  refine ⟨fun p hp => ?_, fun p hp => ?_⟩
  · rcases List.mem_append.1 hp with h | h
    · exact h1.1 p h
    · exact h3.1 p h
  · by_cases hl : L = []
    · subst hl
      rw [List.append_nil] at hp
      exact h1.2 p hp
    · rw [List.dropLast_append_of_ne_nil hl] at hp
      rcases List.mem_append.1 hp with h | h
      · exact h2 p h
      · exact h3.2 p h
theorem good_rest (s : ByteArray) : ∀ (n i a : Nat) (q : Bool), s.size - i = n → a ≤ i → i ≤ s.size → run (seg s a i) = (if q = true then 1 else 0, true) → Good (rest s (s.size - i) a q) := by
  intro n
  induction n using Nat.strongRecOn with
  | _ n ih =>
    intro i a q hn ha hi hr
    by_cases hlt : i < s.size
    · by_cases h1 : (s[i]).toNat = 34
      · rw [rest_quote s i a q hlt h1]
        refine ih (s.size - (i + 1)) (by omega) (i + 1) a (!q) rfl (by omega) (by omega) ?_
        rw [run_next s a i ha hlt _ hr]
        cases q <;> simp [stp, h1]
      · by_cases h2 : q = true ∧ (s[i]).toNat = 92
        · obtain ⟨rfl, h2⟩ := h2
          rw [rest_esc s i a hlt h2]
          have e1 := run_next s a i ha hlt _ hr
          have e2 : stp (if true = true then 1 else 0, true) s[i] = (2, true) := by simp [stp, h2]
          rw [e2] at e1
          by_cases hlt2 : i + 1 < s.size
          · refine ih (s.size - (i + 2)) (by omega) (i + 2) a true rfl (by omega) (by omega) ?_
            rw [run_next s a (i + 1) (by omega) hlt2 _ e1]
            simp [stp]
          · rw [rest_end s (i + 2) a true (by omega)]
            refine good_part s a s.size ?_
            rw [show s.size = i + 1 by omega, e1]
        · by_cases h3 : (s[i]).toNat = 44 ∧ q = false
          · obtain ⟨h3, rfl⟩ := h3
            rw [rest_comma s i a hlt h3]
            have hr0 : run (seg s a i) = (0, true) := hr
            exact good_app (good_part s a i (by rw [hr0])) (part_calm s a i hr0) (ih (s.size - (i + 1)) (by omega) (i + 1) (i + 1) false rfl (Nat.le_refl _) (by omega) (by rw [seg_none]; rfl))
          · rw [rest_else s i a q hlt h1 h2 h3]
            refine ih (s.size - (i + 1)) (by omega) (i + 1) a q rfl (by omega) (by omega) ?_
            rw [run_next s a i ha hlt _ hr]
            cases q with
            | false =>
              have h4 : ¬ (s[i]).toNat = 44 := fun h => h3 ⟨h, rfl⟩
              simp [stp, h1, h4]
            | true =>
              have h4 : ¬ (s[i]).toNat = 92 := fun h => h2 ⟨rfl, h⟩
              simp [stp, h1, h4]
    · rw [rest_end s i a q (by omega)]
      refine good_part s a s.size ?_
      rw [show s.size = i by omega, hr]
theorem good_split (s : ByteArray) : Good (split s) := by
  have h := good_rest s (s.size - 0) 0 0 false rfl (Nat.le_refl _) (Nat.zero_le _) (by rw [seg_none]; rfl)
  exact h
/-- a text without a comma outside of quotes is one part, or none -/
theorem one_rest (s : ByteArray) (h : (run s.data.toList).2 = true) : ∀ (n i : Nat) (q : Bool), s.size - i = n → i ≤ s.size → run (seg s 0 i) = (if q = true then 1 else 0, true) → rest s (s.size - i) 0 q = Sign.part s 0 s.size := by
  intro n
  induction n using Nat.strongRecOn with
  | _ n ih =>
    intro i q hn hi hr
    by_cases hlt : i < s.size
    · by_cases h1 : (s[i]).toNat = 34
      · rw [rest_quote s i 0 q hlt h1]
        refine ih (s.size - (i + 1)) (by omega) (i + 1) (!q) rfl (by omega) ?_
        rw [run_next s 0 i (Nat.zero_le _) hlt _ hr]
        cases q <;> simp [stp, h1]
      · by_cases h2 : q = true ∧ (s[i]).toNat = 92
        · obtain ⟨rfl, h2⟩ := h2
          rw [rest_esc s i 0 hlt h2]
          have e1 := run_next s 0 i (Nat.zero_le _) hlt _ hr
          have e2 : stp (if true = true then 1 else 0, true) s[i] = (2, true) := by simp [stp, h2]
          rw [e2] at e1
          by_cases hlt2 : i + 1 < s.size
          · refine ih (s.size - (i + 2)) (by omega) (i + 2) true rfl (by omega) ?_
            rw [run_next s 0 (i + 1) (by omega) hlt2 _ e1]
            simp [stp]
          · rw [rest_end s (i + 2) 0 true (by omega)]
        · by_cases h3 : (s[i]).toNat = 44 ∧ q = false
          · exfalso
            obtain ⟨h3, rfl⟩ := h3
            have hr0 : run (seg s 0 i) = (0, true) := hr
            have e1 := run_next s 0 i (Nat.zero_le _) hlt _ hr0
            have e2 : s.data.toList = seg s 0 (i + 1) ++ s.data.toList.drop (i + 1) := by unfold seg; simp
            rw [e2] at h
            have := run_front h
            rw [e1] at this
            simp [stp, h3] at this
          · rw [rest_else s i 0 q hlt h1 h2 h3]
            refine ih (s.size - (i + 1)) (by omega) (i + 1) q rfl (by omega) ?_
            rw [run_next s 0 i (Nat.zero_le _) hlt _ hr]
            cases q with
            | false =>
              have h4 : ¬ (s[i]).toNat = 44 := fun h => h3 ⟨h, rfl⟩
              simp [stp, h1, h4]
            | true =>
              have h4 : ¬ (s[i]).toNat = 92 := fun h => h2 ⟨rfl, h⟩
              simp [stp, h1, h4]
    · rw [rest_end s i 0 q (by omega)]
theorem one_part (s : ByteArray) (h : (run s.data.toList).2 = true) : (split s).length ≤ 1 := by
  have e : split s = Sign.part s 0 s.size := one_rest s h (s.size - 0) 0 false rfl (Nat.zero_le _) (by rw [seg_none]; rfl)
  rw [e]
  unfold Sign.part
  split <;> simp
/-- one part more, put behind what was put together -/
def putStep (o : ByteArray × Bool) (t : ByteArray) : ByteArray × Bool := (if o.2 = true then o.1 ++ ⟨#[44, 32]⟩ ++ t else t, true)
def joined (L : List ByteArray) : ByteArray := (L.foldl putStep (⟨#[]⟩, false)).1
/-- a value with its parts put together anew -/
def normal (s : ByteArray) : ByteArray := joined (split s)
theorem put_eq (o : ByteArray × Bool) (t : ByteArray) : (putStep o t).1 = if o.2 = true then o.1 ++ ⟨#[44, 32]⟩ ++ t else t := rfl
theorem put_flag (L : List ByteArray) : (L.foldl putStep (⟨#[]⟩, false)).2 = !L.isEmpty := by
  refine Num.snoc_ind (P := fun L => (L.foldl putStep (⟨#[]⟩, false)).2 = !L.isEmpty) rfl ?_ L
  intro l t _
  rw [List.foldl_append]
  simp [putStep]
theorem joined_snoc (L : List ByteArray) (t : ByteArray) : joined (L ++ [t]) = if L = [] then t else joined L ++ ⟨#[44, 32]⟩ ++ t := by
  unfold joined
  rw [List.foldl_append, List.foldl_cons, List.foldl_nil, put_eq, put_flag]
  cases L with
  | nil => rfl
  | cons x l => simp
theorem joined_calm (L : List ByteArray) : (∀ p ∈ L, calm p = true) → calm (joined L) = true := by
  refine Num.snoc_ind (P := fun L => (∀ p ∈ L, calm p = true) → calm (joined L) = true) (fun _ => Calm.calm_empty) ?_ L
  intro l t ih h
  rw [joined_snoc]
  split
  · exact h t (by simp)
  · exact Calm.calm_app (Calm.calm_app (ih (fun p hp => h p (by simp [hp]))) Calm.calm_comma) (h t (by simp))
theorem split_joined (L : List ByteArray) : (∀ p ∈ L, (split p).length ≤ 1) → (∀ p ∈ L.dropLast, calm p = true) → (split (joined L)).length ≤ L.length := by
  refine Num.snoc_ind (P := fun L => (∀ p ∈ L, (split p).length ≤ 1) → (∀ p ∈ L.dropLast, calm p = true) → (split (joined L)).length ≤ L.length) (fun _ _ => by rw [show joined [] = ⟨#[]⟩ from rfl, Cc.split_empty]; exact Nat.le_refl _) ?_ L
  intro l t ih h1 h2
  rw [List.dropLast_concat] at h2
  rw [joined_snoc, List.length_append, List.length_singleton]
  split
  · have := h1 t (by simp); omega
  · rw [Cc.split_app _ _ (joined_calm l h2), List.length_append]
    have h3 := ih (fun p hp => h1 p (by simp [hp])) (fun p hp => h2 p ((List.dropLast_sublist l).subset hp))
    have h4 := h1 t (by simp)
    omega
/-- put together anew it is parted into no more -/
theorem normal_parts (s : ByteArray) : (split (normal s)).length ≤ (split s).length := by
  have h := good_split s
  exact split_joined _ (fun p hp => one_part p (h.1 p hp)) (fun p hp => calm_run (h.2 p hp))
end Norm
end Go.Proofs.YtkogcbnbmdeolaaDoor
