/-
  A text whose quotes end, plain.
-/
import Derived.Test.YtkogcbnbmdeolaaDoorNum
namespace Go.Proofs.YtkogcbnbmdeolaaDoor
set_option linter.unusedVariables false
namespace Calm

/-- is a text's end within quotes? ('q': is its beginning?) -/
def endsF : Nat → List UInt8 → Bool → Bool
  | 0, _, q => q
  | _ + 1, [], q => q
  | f + 1, c :: t, q => if c.toNat = 34 then endsF f t (!q) else if q = true ∧ c.toNat = 92 then (match t with | [] => true | _ :: u => endsF f u q) else endsF f t q
theorem endsF_enough : ∀ (f g : Nat) (l : List UInt8) (q : Bool), l.length ≤ f → l.length ≤ g → endsF f l q = endsF g l q := by
  intro f
  induction f with
  | zero =>
    intro g l q h1 h2
    have : l = [] := List.eq_nil_of_length_eq_zero (by omega)
    subst this
    cases g <;> rfl
  | succ f ih =>
    intro g l q h1 h2
    cases l with
    | nil => cases g <;> rfl
    | cons c t =>
      cases g with
      | zero => simp at h2
      | succ g =>
        simp only [List.length_cons] at h1 h2
        unfold endsF
        split
        · exact ih g t _ (by omega) (by omega)
        · split
          · cases t with
            | nil => rfl
            | cons d u => simp only [List.length_cons] at h1 h2; exact ih g u q (by omega) (by omega)
          · exact ih g t q (by omega) (by omega)
def second (f : Nat) (t : List UInt8) (q : Bool) : Bool := match t with | [] => true | _ :: u => endsF f u q
theorem endsF_cons (f : Nat) (c : UInt8) (t : List UInt8) (q : Bool) : endsF (f + 1) (c :: t) q = if c.toNat = 34 then endsF f t (!q) else if q = true ∧ c.toNat = 92 then second f t q else endsF f t q := by
  cases t <;> rfl
def ends (l : List UInt8) (q : Bool) : Bool := endsF l.length l q
theorem ends_quote (c : UInt8) (t : List UInt8) (q : Bool) (h : c.toNat = 34) : ends (c :: t) q = ends t (!q) := by
  unfold ends
  show endsF (t.length + 1) (c :: t) q = _
  rw [endsF_cons, if_pos h]
theorem ends_esc (c : UInt8) (t : List UInt8) (h : c.toNat = 92) : ends (c :: t) true = match t with | [] => true | _ :: u => ends u true := by
  unfold ends
  show endsF (t.length + 1) (c :: t) true = _
  rw [endsF_cons, if_neg (by omega), if_pos ⟨rfl, h⟩]
  cases t with
  | nil => rfl
  | cons d u => exact endsF_enough _ _ u true (by simp) (Nat.le_refl _)
theorem ends_else (c : UInt8) (t : List UInt8) (q : Bool) (h : ¬ c.toNat = 34) (h2 : ¬ (q = true ∧ c.toNat = 92)) : ends (c :: t) q = ends t q := by
  unfold ends
  show endsF (t.length + 1) (c :: t) q = _
  rw [endsF_cons, if_neg h, if_neg h2]
theorem ends_app : ∀ (n : Nat) (x y : List UInt8) (q : Bool), x.length = n → ends x q = false → ends (x ++ y) q = ends y false := by
  intro n
  induction n using Nat.strongRecOn with
  | _ n ih =>
    intro x y q hn h
    cases x with
    | nil =>
      have hq : q = false := h
      subst hq; rfl
    | cons c t =>
      simp only [List.length_cons] at hn
      rw [List.cons_append]
      by_cases h34 : c.toNat = 34
      · rw [ends_quote c _ q h34] at h ⊢
        exact ih t.length (by omega) t y _ rfl h
      · by_cases h92 : q = true ∧ c.toNat = 92
        · obtain ⟨rfl, h92⟩ := h92
          rw [ends_esc c _ h92] at h ⊢
          cases t with
          | nil => cases h
          | cons d u =>
            simp only [List.length_cons] at hn
            exact ih u.length (by omega) u y true rfl h
        · rw [ends_else c _ q h34 h92] at h ⊢
          exact ih t.length (by omega) t y q rfl h
/-- no quotes are open at its end -/
def calm (s : ByteArray) : Bool := !(ends s.data.toList false)
theorem calm_iff {s : ByteArray} (h : calm s = true) : ends s.data.toList false = false := by
  unfold calm at h
  cases e : ends s.data.toList false with
  | false => rfl
  | true => rw [e] at h; cases h
theorem of_ends {s : ByteArray} (h : ends s.data.toList false = false) : calm s = true := by unfold calm; rw [h]; rfl
theorem calm_empty : calm ⟨#[]⟩ = true := rfl
theorem calm_app {s t : ByteArray} (h : calm s = true) (h2 : calm t = true) : calm (s ++ t) = true := by
  refine of_ends ?_
  rw [ByteArray.data_append, Array.toList_append, ends_app _ _ _ false rfl (calm_iff h)]
  exact calm_iff h2
theorem calm_comma : calm ⟨#[44, 32]⟩ = true := by decide
/-- the field's name that counts -/
def cc : ByteArray := ⟨#[99, 97, 99, 104, 101, 45, 99, 111, 110, 116, 114, 111, 108]⟩
/-- what is said of caching in a field ends its quotes -/
def Said (x y : ByteArray) : Prop := x = cc → calm y = true
theorem said_other {x y : ByteArray} (h : ¬ x = cc) : Said x y := fun e => absurd e h
end Calm
end Go.Proofs.YtkogcbnbmdeolaaDoor
