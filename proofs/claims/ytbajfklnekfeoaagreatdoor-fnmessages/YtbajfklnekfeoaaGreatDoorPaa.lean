/-
  DrawLive: A cursor of the draws, in whatever state: what it tells is bounded; nothing but the cursor and new memory changes.
  DrawPick: l1Pick of the draws, of a cursor in whatever state.
  CalmNum: A text whose quotes end, plain.
  DateNum: Years, months and days, plain.
  InSpec: l1In of the specification.
  LeapSpec: IsLeap, l4Months and l1In of the specification.
  DaysSpec: DaysOf of the specification: how many days after the first of January 1970 a day is; what was there stays.
  TwoSpec: l4Two of the specification: two digits; what was there stays.
-/
import Derived.Test.YtbajfklnekfeoaaGreatDoorDrawByte
import Derived.Test.YtbajfklnekfeoaaGreatDoorNum
import Derived.Test.YtbajfklnekfeoaaGreatDoorRows
import Derived.WalkKit
import Derived.WalkLawsBesides
import Derived.Below
import Derived.Test.YtbajfklnekfeoaaGreatDoorMem
namespace Go.Proofs.YtbajfklnekfeoaaGreatDoor
open Go.RowKit
set_option linter.unusedVariables false
namespace Draw

/-- a cursor over some bytes that lie below block B lies in block C -/
def Live (B C : Nat) (w : World) : Prop := ∃ cap a l s, At B C cap a l w s
theorem Live.lt {B C : Nat} {w : World} (h : Live B C w) : C < w.heap.size := by obtain ⟨_, _, _, _, h⟩ := h; exact h.lt
theorem Live.hB {B C : Nat} {w : World} (h : Live B C w) : B ≤ C := by obtain ⟨_, _, _, _, h⟩ := h; exact h.hB
theorem Live.below {B C : Nat} {w w' : World} (h : Live B C w) (hb : Below w.heap.size w w') : Live B C w' := by obtain ⟨_, _, _, _, h⟩ := h; exact ⟨_, _, _, _, h.below hb⟩
theorem Live.under {B C K : Nat} {w w' : World} (h : Live B C w) (hb : Below K w w') (hK : C < K) : Live B C w' := by obtain ⟨_, _, _, _, h⟩ := h; exact ⟨_, _, _, _, h.under hb hK⟩
theorem Live.alloc {B C : Nat} {w : World} (h : Live B C w) (o : Obj) : Live B C (w.alloc o) := h.below ((Below.refl _ _).alloc (Nat.le_refl _) _)
theorem below_live (B C : Nat) (n : Int) (w : World) (h : Live B C w) (h0 : 0 < n) (hn : n ≤ 4294967296) :
    Calls Tryz.prog 45 #[.pointer (some ⟨C, 0, none⟩), .int .i64 n] w fun e w' => ∃ z : Int, e = .returned (.int .i64 z) ∧ 0 ≤ z ∧ z < n ∧ Live B C w' ∧ Only C w w' := by
  obtain ⟨cap, a, l, s, h⟩ := h
  refine (below_at B C cap a l n w s h hn).mono ?_
  rintro e w' ⟨rfl, h2, ho⟩
  have := blv_bd l n s h0
  exact ⟨_, rfl, this.1, this.2, ⟨_, _, _, _, h2⟩, ho⟩
end Draw
end Go.Proofs.YtbajfklnekfeoaaGreatDoor
namespace Go.Proofs.YtbajfklnekfeoaaGreatDoor
open Go.RowKit
set_option linter.unusedVariables false
namespace Draw

/-- are they texts of at most 64 bytes? -/
def textsB (cs : Array Value) : Bool := cs.toList.all fun v => match v with | .string x => decide (x.size ≤ 64) | _ => false
theorem texts_at {cs : Array Value} (h : textsB cs = true) (i : Nat) (hi : i < cs.size) : ∃ x, cs[i]? = some (.string x) ∧ x.size ≤ 64 := by
  unfold textsB at h
  rw [List.all_eq_true] at h
  have h2 := h (cs[i]) (by simp)
  rw [Array.getElem?_eq_getElem hi]
  generalize cs[i] = v at h2
  cases v with
  | string x => exact ⟨x, rfl, of_decide_eq_true h2⟩
  | _ => cases h2
/-- are they such, too? -/
def textsQ (q : ByteArray → Bool) (cs : Array Value) : Bool := cs.toList.all fun v => match v with | .string x => decide (x.size ≤ 64) && q x | _ => false
theorem textsQ_at {q : ByteArray → Bool} {cs : Array Value} (h : textsQ q cs = true) (i : Nat) (hi : i < cs.size) : ∃ x, cs[i]? = some (.string x) ∧ x.size ≤ 64 ∧ q x = true := by
  unfold textsQ at h
  rw [List.all_eq_true] at h
  have h2 := h (cs[i]) (by simp)
  rw [Array.getElem?_eq_getElem hi]
  generalize cs[i] = v at h2
  cases v with
  | string x =>
    simp only [Bool.and_eq_true] at h2
    exact ⟨x, rfl, of_decide_eq_true h2.1, h2.2⟩
  | _ => cases h2
theorem textsQ_true {cs : Array Value} (h : textsB cs = true) : textsQ (fun _ => true) cs = true := by
  unfold textsB at h
  unfold textsQ
  rw [List.all_eq_true] at h ⊢
  intro v hv
  have h2 := h v hv
  cases v with
  | string x => simpa using h2
  | _ => cases h2
set_option maxRecDepth 100000 in
set_option maxHeartbeats 1000000 in
theorem pick_p (P : ByteArray → Prop) (B C R : Nat) (cs : Array Value) (n : Nat) (w : World) (h : Live B C w) (hR : R ≠ C) (hrow : w.heap[R]? = some (.cells cs 9)) (hn : cs.size = n) (h0 : 0 < n) (h1 : n ≤ 256) (ht : ∀ i, i < cs.size → ∃ x, cs[i]? = some (.string x) ∧ P x) :
    Calls Tryz.prog 70 #[.pointer (some ⟨C, 0, none⟩), .slice (some ⟨R, 0, none⟩) n n] w fun e w' => ∃ x, e = .returned (.string x) ∧ P x ∧ Live B C w' ∧ Only C w w' := by
  have HR := Num.hide hrow
  have HT := Num.hide ht
  have HN := Num.hide hn
  clear hrow ht hn
  go_enter Tryz.func70, Tryz.ntmps70
  go_wp2_with fail
  refine (below_live B C n _ h (by omega) (by omega)).mono ?_
  rintro e w1 ⟨z, rfl, hz0, hz1, hl, ho⟩
  obtain ⟨j, rfl⟩ := Int.eq_ofNat_of_zero_le hz0
  obtain ⟨x, hx, hq⟩ := Num.unhide HT j (by have := HN.out; omega)
  have hc : w1.cell? ⟨R, j, none⟩ = some (.string x) := by
    rw [cell_of_row w1 R j _ _ _ ((ho.block R (Array.getElem?_eq_some_iff.1 (Num.unhide HR)).1 hR).trans (Num.unhide HR))]
    exact hx
  have HQ := Num.hide hq
  clear hx hq
  have HL := Num.hide hl
  have HO := Num.hide ho
  clear hl ho
  go_wp2
  go_ret
  exact ⟨x, rfl, HQ.out, HL.out, HO.out⟩
theorem pick_q (q : ByteArray → Bool) (B C R : Nat) (cs : Array Value) (n : Nat) (w : World) (h : Live B C w) (hR : R ≠ C) (hrow : w.heap[R]? = some (.cells cs 9)) (hn : cs.size = n) (h0 : 0 < n) (h1 : n ≤ 256) (ht : textsQ q cs = true) :
    Calls Tryz.prog 70 #[.pointer (some ⟨C, 0, none⟩), .slice (some ⟨R, 0, none⟩) n n] w fun e w' => ∃ x, e = .returned (.string x) ∧ x.size ≤ 64 ∧ q x = true ∧ Live B C w' ∧ Only C w w' :=
  (pick_p (fun x => x.size ≤ 64 ∧ q x = true) B C R cs n w h hR hrow hn h0 h1 (fun i hi => textsQ_at ht i hi)).mono fun e w' ⟨x, h1, ⟨h2, h3⟩, h4⟩ => ⟨x, h1, h2, h3, h4⟩
theorem pick_live (B C R : Nat) (cs : Array Value) (n : Nat) (w : World) (h : Live B C w) (hR : R ≠ C) (hrow : w.heap[R]? = some (.cells cs 9)) (hn : cs.size = n) (h0 : 0 < n) (h1 : n ≤ 256) (ht : textsB cs = true) :
    Calls Tryz.prog 70 #[.pointer (some ⟨C, 0, none⟩), .slice (some ⟨R, 0, none⟩) n n] w fun e w' => ∃ x, e = .returned (.string x) ∧ x.size ≤ 64 ∧ Live B C w' ∧ Only C w w' :=
  (pick_q (fun _ => true) B C R cs n w h hR hrow hn h0 h1 (textsQ_true ht)).mono fun e w' ⟨x, h1, h2, _, h3, h4⟩ => ⟨x, h1, h2, h3, h4⟩
end Draw
end Go.Proofs.YtbajfklnekfeoaaGreatDoor
namespace Go.Proofs.YtbajfklnekfeoaaGreatDoor
set_option linter.unusedVariables false
namespace Calm

/-- is a text's end within quotes? ('q': is its beginning?) -/
def endsF : Nat → List UInt8 → Bool → Bool
  | 0, _, q => q
  | _ + 1, [], q => q
  | f + 1, c :: t, q => if c.toNat = 34 then endsF f t (!q) else if q = true ∧ c.toNat = 92 then (match t with | [] => true | _ :: u => endsF f u q) else endsF f t q
theorem endsF_enough : ∀ (f g : Nat) (l : List UInt8) (q : Bool), l.length ≤ f → l.length ≤ g → endsF f l q = endsF g l q := by
  intro f
  induction f with
  | zero =>
    intro g l q h1 h2
    have : l = [] := List.eq_nil_of_length_eq_zero (by omega)
    subst this
    cases g <;> rfl
  | succ f ih =>
    intro g l q h1 h2
    cases l with
    | nil => cases g <;> rfl
    | cons c t =>
      cases g with
      | zero => simp at h2
      | succ g =>
        simp only [List.length_cons] at h1 h2
        unfold endsF
        split
        · exact ih g t _ (by omega) (by omega)
        · split
          · cases t with
            | nil => rfl
            | cons d u => simp only [List.length_cons] at h1 h2; exact ih g u q (by omega) (by omega)
          · exact ih g t q (by omega) (by omega)
def second (f : Nat) (t : List UInt8) (q : Bool) : Bool := match t with | [] => true | _ :: u => endsF f u q
theorem endsF_cons (f : Nat) (c : UInt8) (t : List UInt8) (q : Bool) : endsF (f + 1) (c :: t) q = if c.toNat = 34 then endsF f t (!q) else if q = true ∧ c.toNat = 92 then second f t q else endsF f t q := by
  cases t <;> rfl
def ends (l : List UInt8) (q : Bool) : Bool := endsF l.length l q
theorem ends_quote (c : UInt8) (t : List UInt8) (q : Bool) (h : c.toNat = 34) : ends (c :: t) q = ends t (!q) := by
  unfold ends
  show endsF (t.length + 1) (c :: t) q = _
  rw [endsF_cons, if_pos h]
theorem ends_esc (c : UInt8) (t : List UInt8) (h : c.toNat = 92) : ends (c :: t) true = match t with | [] => true | _ :: u => ends u true := by
  unfold ends
  show endsF (t.length + 1) (c :: t) true = _
  rw [endsF_cons, if_neg (by omega), if_pos ⟨rfl, h⟩]
  cases t with
  | nil => rfl
  | cons d u => exact endsF_enough _ _ u true (by simp) (Nat.le_refl _)
theorem ends_else (c : UInt8) (t : List UInt8) (q : Bool) (h : ¬ c.toNat = 34) (h2 : ¬ (q = true ∧ c.toNat = 92)) : ends (c :: t) q = ends t q := by
  unfold ends
  show endsF (t.length + 1) (c :: t) q = _
  rw [endsF_cons, if_neg h, if_neg h2]
theorem ends_app : ∀ (n : Nat) (x y : List UInt8) (q : Bool), x.length = n → ends x q = false → ends (x ++ y) q = ends y false := by
  intro n
  induction n using Nat.strongRecOn with
  | _ n ih =>
    intro x y q hn h
    cases x with
    | nil =>
      have hq : q = false := h
      subst hq; rfl
    | cons c t =>
      simp only [List.length_cons] at hn
      rw [List.cons_append]
      by_cases h34 : c.toNat = 34
      · rw [ends_quote c _ q h34] at h ⊢
        exact ih t.length (by omega) t y _ rfl h
      · by_cases h92 : q = true ∧ c.toNat = 92
        · obtain ⟨rfl, h92⟩ := h92
          rw [ends_esc c _ h92] at h ⊢
          cases t with
          | nil => cases h
          | cons d u =>
            simp only [List.length_cons] at hn
            exact ih u.length (by omega) u y true rfl h
        · rw [ends_else c _ q h34 h92] at h ⊢
          exact ih t.length (by omega) t y q rfl h
/-- no quotes are open at its end -/
def calm (s : ByteArray) : Bool := !(ends s.data.toList false)
theorem calm_iff {s : ByteArray} (h : calm s = true) : ends s.data.toList false = false := by
  unfold calm at h
  cases e : ends s.data.toList false with
  | false => rfl
  | true => rw [e] at h; cases h
theorem of_ends {s : ByteArray} (h : ends s.data.toList false = false) : calm s = true := by unfold calm; rw [h]; rfl
theorem calm_empty : calm ⟨#[]⟩ = true := rfl
theorem calm_app {s t : ByteArray} (h : calm s = true) (h2 : calm t = true) : calm (s ++ t) = true := by
  refine of_ends ?_
  rw [ByteArray.data_append, Array.toList_append, ends_app _ _ _ false rfl (calm_iff h)]
  exact calm_iff h2
theorem calm_comma : calm ⟨#[44, 32]⟩ = true := by decide
/-- the field's name that counts -/
def cc : ByteArray := ⟨#[99, 97, 99, 104, 101, 45, 99, 111, 110, 116, 114, 111, 108]⟩
/-- what is said of caching in a field ends its quotes -/
def Said (x y : ByteArray) : Prop := x = cc → calm y = true
theorem said_other {x y : ByteArray} (h : ¬ x = cc) : Said x y := fun e => absurd e h
end Calm
end Go.Proofs.YtbajfklnekfeoaaGreatDoor
namespace Go.Proofs.YtbajfklnekfeoaaGreatDoor
set_option linter.unusedVariables false
namespace Date

def leap (y : Int) : Bool := decide (y % 4 = 0) && (!decide (y % 100 = 0) || decide (y % 400 = 0))
def feb (y : Int) : Int := if leap y = true then 29 else 28
def mlens (y : Int) : List Int := [31, feb y, 31, 30, 31, 30, 31, 31, 30, 31, 30, 31]
/-- how many days the month has -/
def mlen (y : Int) (k : Nat) : Int := (mlens y).getD k 0
/-- the days of k years from 1970 on -/
def ysum : Nat → Int
  | 0 => 0
  | k + 1 => ysum k + 365 + (if leap (1970 + (k : Int)) = true then 1 else 0)
/-- the days of the first k months -/
def msum (y : Int) : Nat → Int
  | 0 => 0
  | k + 1 => msum y k + mlen y k
abbrev inside (y m d : Int) : Prop := (1970 ≤ y ∧ y ≤ 2037) ∧ (1 ≤ m ∧ m ≤ 12) ∧ (1 ≤ d ∧ d ≤ mlen y (m - 1).toNat)
def days (y m d : Int) : Int := if inside y m d then d - 1 + ysum (y - 1970).toNat + msum y (m - 1).toNat else -1
theorem feb_bd (y : Int) : 28 ≤ feb y ∧ feb y ≤ 29 := by unfold feb; split <;> omega
theorem mlen_all : ∀ f : Int, f = 28 ∨ f = 29 → ∀ k : Nat, k < 12 → 28 ≤ [31, f, 31, 30, 31, 30, 31, 31, 30, 31, 30, 31].getD k 0 ∧ [31, f, 31, 30, 31, 30, 31, 31, 30, 31, 30, 31].getD k 0 ≤ 31 := by
  rintro f (rfl | rfl)
  · decide
  · decide
theorem mlen_bd (y : Int) (k : Nat) (h : k < 12) : 28 ≤ mlen y k ∧ mlen y k ≤ 31 := by
  have hf := feb_bd y
  exact mlen_all (feb y) (by omega) k h
theorem ysum_bd (k : Nat) : 365 * (k : Int) ≤ ysum k ∧ ysum k ≤ 366 * (k : Int) := by
  induction k with
  | zero => decide
  | succ k ih =>
    unfold ysum
    split <;> omega
theorem msum_bd (y : Int) (k : Nat) (h : k ≤ 12) : 28 * (k : Int) ≤ msum y k ∧ msum y k ≤ 31 * (k : Int) := by
  induction k with
  | zero => simp [msum]
  | succ k ih =>
    have h1 := ih (by omega)
    have h2 := mlen_bd y k (by omega)
    unfold msum
    omega
theorem days_in {y m d : Int} (h : inside y m d) : days y m d = d - 1 + ysum (y - 1970).toNat + msum y (m - 1).toNat := if_pos h
theorem days_out {y m d : Int} (h : ¬ inside y m d) : days y m d = -1 := if_neg h
theorem days_bd (y m d : Int) : -1 ≤ days y m d ∧ days y m d ≤ 100000 := by
  by_cases h : inside y m d
  · rw [days_in h]
    have h1 := ysum_bd (y - 1970).toNat
    have h2 := msum_bd y (m - 1).toNat (by omega)
    have h3 := mlen_bd y (m - 1).toNat (by omega)
    omega
  · rw [days_out h]; omega
theorem tmod_zero (y k : Int) (hk : k ≠ 0) : (y.tmod k == 0) = decide (y % k = 0) := by
  rw [Bool.eq_iff_iff, beq_iff_eq, decide_eq_true_iff]
  constructor
  · intro h; exact Int.emod_eq_zero_of_dvd (Int.dvd_of_tmod_eq_zero h)
  · intro h; exact Int.tmod_eq_zero_of_dvd (Int.dvd_of_emod_eq_zero h)
end Date
end Go.Proofs.YtbajfklnekfeoaaGreatDoor
namespace Go.Proofs.YtbajfklnekfeoaaGreatDoor
open Go.RowKit
set_option linter.unusedVariables false
namespace Date

set_option maxRecDepth 100000 in
set_option maxHeartbeats 1000000 in
theorem in_spec (x lo hi : Int) (w : World) : Calls Tryz.prog 65 #[.int .i64 x, .int .i64 lo, .int .i64 hi] w fun e w' => e = .returned (.bool (decide (lo ≤ x ∧ x ≤ hi))) ∧ w = w' := by
  obtain ⟨r, hr⟩ : ∃ r, decide (lo ≤ x ∧ x ≤ hi) = r := ⟨_, rfl⟩
  rw [hr]
  by_cases h1 : lo ≤ x
  · obtain rfl : decide (x ≤ hi) = r := by rw [← hr]; simp [h1]
    clear hr
    go_enter Tryz.func65, Tryz.ntmps65
    go_wp2
    go_ret
    exact ⟨rfl, rfl⟩
  · obtain rfl : false = r := by rw [← hr]; simp [h1]
    clear hr
    go_enter Tryz.func65, Tryz.ntmps65
    go_wp2
    go_ret
    exact ⟨rfl, rfl⟩
end Date
end Go.Proofs.YtbajfklnekfeoaaGreatDoor
namespace Go.Proofs.YtbajfklnekfeoaaGreatDoor
open Go.RowKit
set_option linter.unusedVariables false
namespace Date

set_option maxRecDepth 100000 in
set_option maxHeartbeats 1000000 in
theorem leap_spec (y : Int) (w : World) : Calls Tryz.prog 200 #[.int .i64 y] w fun e w' => e = .returned (.bool (leap y)) ∧ w = w' := by
  obtain ⟨r, hr⟩ : ∃ r, leap y = r := ⟨_, rfl⟩
  rw [hr]
  unfold leap at hr
  rw [← tmod_zero y 4 (by decide), ← tmod_zero y 100 (by decide), ← tmod_zero y 400 (by decide)] at hr
  have b4 : -4 < y.tmod 4 ∧ y.tmod 4 < 4 := ⟨Int.lt_tmod_of_pos _ (by decide), Int.tmod_lt_of_pos _ (by decide)⟩
  have b100 : -100 < y.tmod 100 ∧ y.tmod 100 < 100 := ⟨Int.lt_tmod_of_pos _ (by decide), Int.tmod_lt_of_pos _ (by decide)⟩
  have b400 : -400 < y.tmod 400 ∧ y.tmod 400 < 400 := ⟨Int.lt_tmod_of_pos _ (by decide), Int.tmod_lt_of_pos _ (by decide)⟩
  cases h4 : (y.tmod 4 == 0) with
  | false =>
    rw [h4] at hr
    subst hr
    go_enter Tryz.func200, Tryz.ntmps200
    go_wp2
    go_ret
    exact ⟨rfl, rfl⟩
  | true =>
    rw [h4] at hr
    cases h100 : (y.tmod 100 == 0) with
    | false =>
      have hn : (y.tmod 100 != 0) = true := by rw [bne, h100]; rfl
      rw [h100] at hr
      subst hr
      go_enter Tryz.func200, Tryz.ntmps200
      go_wp2
      go_ret
      exact ⟨rfl, rfl⟩
    | true =>
      have hn : (y.tmod 100 != 0) = false := by rw [bne, h100]; rfl
      rw [h100] at hr
      cases h400 : (y.tmod 400 == 0) with
      | false =>
        rw [h400] at hr
        subst hr
        go_enter Tryz.func200, Tryz.ntmps200
        go_wp2
        go_ret
        exact ⟨rfl, rfl⟩
      | true =>
        rw [h400] at hr
        subst hr
        go_enter Tryz.func200, Tryz.ntmps200
        go_wp2
        go_ret
        exact ⟨rfl, rfl⟩
theorem leap_spec_b (y : Int) (w : World) : Calls Tryz.prog 200 #[.int .i64 y] w fun e w' => e = .returned (.bool (leap y)) ∧ Below w.heap.size w w' :=
  (leap_spec y w).mono fun e w' ⟨h1, h2⟩ => ⟨h1, by subst h2; exact Below.refl _ _⟩
/-- the row of the months' lengths -/
def mrow (y : Int) : Array Value := #[.int .i64 31, .int .i64 (feb y), .int .i64 31, .int .i64 30, .int .i64 31, .int .i64 30, .int .i64 31, .int .i64 31, .int .i64 30, .int .i64 31, .int .i64 30, .int .i64 31]
theorem mrow_at (y : Int) (k : Nat) (h : k < 12) : (mrow y)[k]? = some (.int .i64 (mlen y k)) := by
  unfold mlen mlens mrow
  match k, h with
  | 0, _ => rfl
  | 1, _ => rfl
  | 2, _ => rfl
  | 3, _ => rfl
  | 4, _ => rfl
  | 5, _ => rfl
  | 6, _ => rfl
  | 7, _ => rfl
  | 8, _ => rfl
  | 9, _ => rfl
  | 10, _ => rfl
  | 11, _ => rfl
set_option maxRecDepth 100000 in
set_option maxHeartbeats 1000000 in
theorem months_spec (y : Int) (w : World) : Calls Tryz.prog 199 #[.int .i64 y] w fun e w' => e = .returned (.slice (some ⟨w.heap.size, 0, none⟩) 12 12) ∧ w.alloc (.cells (mrow y) 3) = w' := by
  unfold mrow feb
  cases hl : leap y with
  | false =>
    rw [if_neg (by decide)]
    go_enter Tryz.func199, Tryz.ntmps199
    go_wp2_with fail
    refine (leap_spec y _).mono ?_
    rintro e w1 ⟨rfl, rfl⟩
    rw [hl]
    go_wp2
    go_ret
    exact ⟨rfl, rfl⟩
  | true =>
    rw [if_pos rfl]
    go_enter Tryz.func199, Tryz.ntmps199
    go_wp2_with fail
    refine (leap_spec y _).mono ?_
    rintro e w1 ⟨rfl, rfl⟩
    rw [hl]
    go_wp2
    go_ret
    exact ⟨rfl, rfl⟩
end Date
end Go.Proofs.YtbajfklnekfeoaaGreatDoor
namespace Go.Proofs.YtbajfklnekfeoaaGreatDoor
open Go.RowKit
set_option linter.unusedVariables false
namespace Date

theorem mcell (w : World) (y : Int) (k : Nat) (h : k < 12) : (w.alloc (.cells (mrow y) 3)).cell? ⟨w.heap.size, k, none⟩ = some (.int .i64 (mlen y k)) := by
  rw [cell_of_row _ _ _ _ _ _ (heap_alloc_new w _)]
  exact mrow_at y k h
set_option maxRecDepth 100000 in
set_option maxHeartbeats 2000000 in
theorem days_spec (y m d : Int) (w : World) : Calls Tryz.prog 189 #[.int .i64 y, .int .i64 m, .int .i64 d] w fun e w' => e = .returned (.int .i64 (days y m d)) ∧ Below w.heap.size w w' := by
  by_cases h1 : 1970 ≤ y ∧ y ≤ 2037
  · by_cases h2 : 1 ≤ m ∧ m ≤ 12
    · obtain ⟨k, rfl⟩ : ∃ k : Nat, m = (k : Int) + 1 := ⟨(m - 1).toNat, by omega⟩
      have hk : ((k : Int) + 1 - 1).toNat = k := by omega
      have hb := mlen_bd y k (by omega)
      by_cases h3 : 1 ≤ d ∧ d ≤ mlen y k
      · have hin : inside y ((k : Int) + 1) d := ⟨h1, h2, by rw [hk]; exact h3⟩
        obtain ⟨r, hr⟩ : ∃ r, days y ((k : Int) + 1) d = r := ⟨_, rfl⟩
        rw [hr]
        rw [days_in hin, hk] at hr
        have HR := Num.hide hr
        clear hr hin hk
        have HC := Num.hide (mcell w y k (by omega))
        have hc := mcell w y k (by omega)
        have HB0 := Num.hide ((Below.refl w.heap.size w).alloc (Nat.le_refl _) (.cells (mrow y) 3))
        go_enter Tryz.func189, Tryz.ntmps189
        go_wp2_with fail
        refine (in_spec _ _ _ _).mono ?_
        rintro e w1 ⟨rfl, rfl⟩
        rw [decide_eq_true h1]
        go_wp2_with fail
        refine (in_spec _ _ _ _).mono ?_
        rintro e w1 ⟨rfl, rfl⟩
        rw [decide_eq_true h2]
        go_wp2_with fail
        refine (months_spec _ _).mono ?_
        rintro e w1 ⟨rfl, rfl⟩
        go_wp2_with fail
        refine (in_spec _ _ _ _).mono ?_
        rintro e w1 ⟨rfl, rfl⟩
        rw [decide_eq_true h3]
        clear hc HC
        generalize w.alloc (.cells (mrow y) 3) = w2 at HB0 ⊢
        go_wp2
        go_loop [7, 8] (fun nv yv => ∃ j : Nat, 1970 + (j : Int) ≤ y ∧ yv = .int .i64 (1970 + (j : Int)) ∧ nv = .int .i64 (d - 1 + ysum j)) (fun _ yv => (y - intOf yv).toNat)
        case atStart => exact ⟨0, by omega, by simp, by simp [ysum]⟩
        case round =>
          obtain ⟨j, hj, rfl, rfl⟩ := hrel
          have hyb := ysum_bd j
          by_cases hlt : 1970 + (j : Int) < y
          · have hs : ysum (j + 1) = ysum j + 365 + (if leap (1970 + (j : Int)) = true then 1 else 0) := rfl
            cases hl : leap (1970 + (j : Int)) with
            | false =>
              rw [hl, if_neg (by decide)] at hs
              have HL := Num.hide (fun W => leap_spec (1970 + (j : Int)) W)
              rw [hl] at HL
              go_wp2_with fail
              refine (Num.unhide HL _).mono ?_
              rintro e w1 ⟨rfl, rfl⟩
              go_wp2
              go_round
              case rel => exact ⟨j + 1, by omega, by go_num, by rw [hs]; go_num⟩
              case measure => simp [intOf]; omega
            | true =>
              rw [hl, if_pos rfl] at hs
              have HL := Num.hide (fun W => leap_spec (1970 + (j : Int)) W)
              rw [hl] at HL
              go_wp2_with fail
              refine (Num.unhide HL _).mono ?_
              rintro e w1 ⟨rfl, rfl⟩
              go_wp2
              go_round
              case rel => exact ⟨j + 1, by omega, by go_num, by rw [hs]; go_num⟩
              case measure => simp [intOf]; omega
          · have hr := HR.out
            rw [show (y - 1970).toNat = j by omega] at hr
            have HR2 := Num.hide hr
            have hmb := msum_bd y k (by omega)
            clear hr HR
            go_wp2
            go_loopw [7, 9] (fun nv mv wr => ∃ i : Nat, i ≤ k ∧ mv = .int .i64 ((i : Int) + 1) ∧ nv = .int .i64 (d - 1 + ysum j + msum y i) ∧ Hid (Below w.heap.size w wr)) (fun _ mv _ => (k + 1 - intOf mv).toNat)
            case atStart => exact ⟨0, by omega, by simp, by simp [msum], HB0⟩
            case round =>
              obtain ⟨i, hi, rfl, rfl, HB⟩ := hrel
              have hsz := HB.out.size
              have hib := msum_bd y i (by omega)
              by_cases hlt2 : i < k
              · have hs : msum y (i + 1) = msum y i + mlen y i := rfl
                have hc := mcell wr y i (by omega)
                have hmi := mlen_bd y i (by omega)
                have HB1 := Num.hide (HB.out.alloc hsz (.cells (mrow y) 3))
                go_wp2_with fail
                refine (months_spec _ _).mono ?_
                rintro e w1 ⟨rfl, rfl⟩
                go_wp2
                go_roundw
                case rel => exact ⟨i + 1, by omega, by go_num, by rw [hs]; go_num, HB1⟩
                case measure => simp [intOf]; omega
              · obtain rfl : i = k := by omega
                have hr := HR2.out
                subst hr
                clear HR2
                go_wp2
                go_ret
                exact ⟨rfl, HB.out⟩
      · have hout : ¬ inside y ((k : Int) + 1) d := fun h => h3 (by have := h.2.2; rw [hk] at this; exact this)
        rw [days_out hout]
        have hc := mcell w y k (by omega)
        have HB0 := Num.hide ((Below.refl w.heap.size w).alloc (Nat.le_refl _) (.cells (mrow y) 3))
        clear hout hk
        go_enter Tryz.func189, Tryz.ntmps189
        go_wp2_with fail
        refine (in_spec _ _ _ _).mono ?_
        rintro e w1 ⟨rfl, rfl⟩
        rw [decide_eq_true h1]
        go_wp2_with fail
        refine (in_spec _ _ _ _).mono ?_
        rintro e w1 ⟨rfl, rfl⟩
        rw [decide_eq_true h2]
        go_wp2_with fail
        refine (months_spec _ _).mono ?_
        rintro e w1 ⟨rfl, rfl⟩
        go_wp2_with fail
        refine (in_spec _ _ _ _).mono ?_
        rintro e w1 ⟨rfl, rfl⟩
        rw [decide_eq_false h3]
        go_wp2
        go_ret
        exact ⟨rfl, HB0.out⟩
    · have hout : ¬ inside y m d := fun h => h2 h.2.1
      rw [days_out hout]
      clear hout
      go_enter Tryz.func189, Tryz.ntmps189
      go_wp2_with fail
      refine (in_spec _ _ _ _).mono ?_
      rintro e w1 ⟨rfl, rfl⟩
      rw [decide_eq_true h1]
      go_wp2_with fail
      refine (in_spec _ _ _ _).mono ?_
      rintro e w1 ⟨rfl, rfl⟩
      rw [decide_eq_false h2]
      go_wp2
      go_ret
      exact ⟨rfl, Below.refl _ _⟩
  · have hout : ¬ inside y m d := fun h => h1 h.1
    rw [days_out hout]
    clear hout
    go_enter Tryz.func189, Tryz.ntmps189
    go_wp2_with fail
    refine (in_spec _ _ _ _).mono ?_
    rintro e w1 ⟨rfl, rfl⟩
    rw [decide_eq_false h1]
    go_wp2
    go_ret
    exact ⟨rfl, Below.refl _ _⟩
end Date
end Go.Proofs.YtbajfklnekfeoaaGreatDoor
namespace Go.Proofs.YtbajfklnekfeoaaGreatDoor
open Go.RowKit
set_option linter.unusedVariables false
namespace Date

/-- two digits of a number -/
def two (n : Int) : ByteArray := ⟨#[Num.byte (48 + n / 10 % 10), Num.byte (48 + n % 10)]⟩
theorem size_two (n : Int) : (two n).size = 2 := rfl
theorem conv_two (w : World) (x y : Int) (hx : 0 ≤ x) (hx2 : x < 256) (hy : 0 ≤ y) (hy2 : y < 256) :
    (convert 22 9 (.slice (some ⟨w.heap.size, 0, none⟩) 2 2)).run Tryz.prog (w.alloc (.cells #[.int .u8 x, .int .u8 y] 5)) = .ok (.string ⟨#[Num.byte x, Num.byte y]⟩) (w.alloc (.cells #[.int .u8 x, .int .u8 y] 5)) := by
  refine run_convert_bytes_back (P := Tryz.prog) (w.alloc (.cells #[.int .u8 x, .int .u8 y] 5)) 22 9 5 ⟨w.heap.size, 0, none⟩ 2 [Num.byte x, Num.byte y] Tryz.underlying22 Tryz.underlying5 Tryz.underlying9 ?_
  intro j hj
  have e1 : ((Num.byte x).toNat : Int) = x := by rw [Num.byte_val]; omega
  have e2 : ((Num.byte y).toNat : Int) = y := by rw [Num.byte_val]; omega
  match j, hj with
  | 0, _ => simp [Addr.add, e1]
  | 1, _ => simp [Addr.add, e2]
set_option maxRecDepth 100000 in
set_option maxHeartbeats 1000000 in
theorem two_spec (n : Int) (w : World) (h0 : 0 ≤ n) (h1 : n ≤ 99) : Calls Tryz.prog 190 #[.int .i64 n] w fun e w' => e = .returned (.string (two n)) ∧ Below w.heap.size w w' := by
  have hc := conv_two w (48 + n / 10 % 10) (48 + n % 10) (by omega) (by omega) (by omega) (by omega)
  go_enter Tryz.func190, Tryz.ntmps190
  go_wp2
  go_ret
  exact ⟨rfl, (Below.refl _ _).alloc (Nat.le_refl _) _⟩
end Date
end Go.Proofs.YtbajfklnekfeoaaGreatDoor
