/-
  SaidNum: What is said of caching, plain: a word; that only what is stored is wanted.
  SatNum: Sums that go no further than the bound, plain.
  DateNum: Years, months and days, plain.
  InSpec: l1In of the specification.
  LeapSpec: IsLeap, l4Months and l1In of the specification.
  DaysSpec: DaysOf of the specification: how many days after the first of January 1970 a day is; what was there stays.
  Mem: New rows of bytes and the texts that are made of them.
-/
import Derived.Test.YtbcjpjhpobmpbaaGreatDoorPaa
import Derived.WalkKit
import Derived.Test.YtbcjpjhpobmpbaaGreatDoorNum
import Derived.Test.YtbcjpjhpobmpbaaGreatDoorRows
import Derived.WalkLawsBesides
import Derived.Below
import Derived.Laws.CopyOwn
import Derived.Laws.IdiomStrings
namespace Go.Proofs.YtbcjpjhpobmpbaaGreatDoor
open Go.RowKit
set_option linter.unusedVariables false
namespace Pol
open Flds (Fld)

def onlyIf : ByteArray := ⟨#[111, 110, 108, 121, 45, 105, 102, 45, 99, 97, 99, 104, 101, 100]⟩
/-- is it said of caching? -/
def said (l : List Fld) (name : ByteArray) : Bool := Cc.has (Cc.dirs l) name
def onlyStored (lq : List Fld) : Bool := said lq onlyIf
end Pol
end Go.Proofs.YtbcjpjhpobmpbaaGreatDoor
namespace Go.Proofs.YtbcjpjhpobmpbaaGreatDoor
open Go.RowKit
set_option linter.unusedVariables false
namespace Age

theorem retI {k : IntKind} {a b : Int} (h : a = b) : Ending.returned (.int k a) = .returned (.int k b) := by rw [h]
/-- a number from 0 to the bound -/
def clamp (a : Int) : Int := max 0 (min a 2147483648)
theorem clamp_bd (a : Int) : 0 ≤ clamp a ∧ clamp a ≤ 2147483648 := by unfold clamp; omega
def satAdd (a b : Int) : Int := min (clamp a + clamp b) 2147483648
theorem satAdd_bd (a b : Int) : 0 ≤ satAdd a b ∧ satAdd a b ≤ 2147483648 := by unfold satAdd clamp; omega
theorem satAdd_comm (a b : Int) : satAdd a b = satAdd b a := by unfold satAdd clamp; omega
end Age
end Go.Proofs.YtbcjpjhpobmpbaaGreatDoor
namespace Go.Proofs.YtbcjpjhpobmpbaaGreatDoor
set_option linter.unusedVariables false
namespace Date

def leap (y : Int) : Bool := decide (y % 4 = 0) && (!decide (y % 100 = 0) || decide (y % 400 = 0))
def feb (y : Int) : Int := if leap y = true then 29 else 28
def mlens (y : Int) : List Int := [31, feb y, 31, 30, 31, 30, 31, 31, 30, 31, 30, 31]
/-- how many days the month has -/
def mlen (y : Int) (k : Nat) : Int := (mlens y).getD k 0
/-- the days of k years from 1970 on -/
def ysum : Nat → Int
  | 0 => 0
  | k + 1 => ysum k + 365 + (if leap (1970 + (k : Int)) = true then 1 else 0)
/-- the days of the first k months -/
def msum (y : Int) : Nat → Int
  | 0 => 0
  | k + 1 => msum y k + mlen y k
abbrev inside (y m d : Int) : Prop := (1970 ≤ y ∧ y ≤ 2037) ∧ (1 ≤ m ∧ m ≤ 12) ∧ (1 ≤ d ∧ d ≤ mlen y (m - 1).toNat)
def days (y m d : Int) : Int := if inside y m d then d - 1 + ysum (y - 1970).toNat + msum y (m - 1).toNat else -1
theorem feb_bd (y : Int) : 28 ≤ feb y ∧ feb y ≤ 29 := by unfold feb; split <;> omega
theorem mlen_all : ∀ f : Int, f = 28 ∨ f = 29 → ∀ k : Nat, k < 12 → 28 ≤ [31, f, 31, 30, 31, 30, 31, 31, 30, 31, 30, 31].getD k 0 ∧ [31, f, 31, 30, 31, 30, 31, 31, 30, 31, 30, 31].getD k 0 ≤ 31 := by
  rintro f (rfl | rfl)
  · decide
  · decide
theorem mlen_bd (y : Int) (k : Nat) (h : k < 12) : 28 ≤ mlen y k ∧ mlen y k ≤ 31 := by
  have hf := feb_bd y
  exact mlen_all (feb y) (by omega) k h
theorem ysum_bd (k : Nat) : 365 * (k : Int) ≤ ysum k ∧ ysum k ≤ 366 * (k : Int) := by
  induction k with
  | zero => decide
  | succ k ih =>
    unfold ysum
    split <;> omega
theorem msum_bd (y : Int) (k : Nat) (h : k ≤ 12) : 28 * (k : Int) ≤ msum y k ∧ msum y k ≤ 31 * (k : Int) := by
  induction k with
  | zero => simp [msum]
  | succ k ih =>
    have h1 := ih (by omega)
    have h2 := mlen_bd y k (by omega)
    unfold msum
    omega
theorem days_in {y m d : Int} (h : inside y m d) : days y m d = d - 1 + ysum (y - 1970).toNat + msum y (m - 1).toNat := if_pos h
theorem days_out {y m d : Int} (h : ¬ inside y m d) : days y m d = -1 := if_neg h
theorem days_bd (y m d : Int) : -1 ≤ days y m d ∧ days y m d ≤ 100000 := by
  by_cases h : inside y m d
  · rw [days_in h]
    have h1 := ysum_bd (y - 1970).toNat
    have h2 := msum_bd y (m - 1).toNat (by omega)
    have h3 := mlen_bd y (m - 1).toNat (by omega)
    omega
  · rw [days_out h]; omega
theorem tmod_zero (y k : Int) (hk : k ≠ 0) : (y.tmod k == 0) = decide (y % k = 0) := by
  rw [Bool.eq_iff_iff, beq_iff_eq, decide_eq_true_iff]
  constructor
  · intro h; exact Int.emod_eq_zero_of_dvd (Int.dvd_of_tmod_eq_zero h)
  · intro h; exact Int.tmod_eq_zero_of_dvd (Int.dvd_of_emod_eq_zero h)
end Date
end Go.Proofs.YtbcjpjhpobmpbaaGreatDoor
namespace Go.Proofs.YtbcjpjhpobmpbaaGreatDoor
open Go.RowKit
set_option linter.unusedVariables false
namespace Date

set_option maxRecDepth 100000 in
set_option maxHeartbeats 1000000 in
theorem in_spec (x lo hi : Int) (w : World) : Calls Tryz.prog 43 #[.int .i64 x, .int .i64 lo, .int .i64 hi] w fun e w' => e = .returned (.bool (decide (lo ≤ x ∧ x ≤ hi))) ∧ w = w' := by
  obtain ⟨r, hr⟩ : ∃ r, decide (lo ≤ x ∧ x ≤ hi) = r := ⟨_, rfl⟩
  rw [hr]
  by_cases h1 : lo ≤ x
  · obtain rfl : decide (x ≤ hi) = r := by rw [← hr]; simp [h1]
    clear hr
    go_enter Tryz.func43, Tryz.ntmps43
    go_wp2
    go_ret
    exact ⟨rfl, rfl⟩
  · obtain rfl : false = r := by rw [← hr]; simp [h1]
    clear hr
    go_enter Tryz.func43, Tryz.ntmps43
    go_wp2
    go_ret
    exact ⟨rfl, rfl⟩
end Date
end Go.Proofs.YtbcjpjhpobmpbaaGreatDoor
namespace Go.Proofs.YtbcjpjhpobmpbaaGreatDoor
open Go.RowKit
set_option linter.unusedVariables false
namespace Date

set_option maxRecDepth 100000 in
set_option maxHeartbeats 1000000 in
theorem leap_spec (y : Int) (w : World) : Calls Tryz.prog 130 #[.int .i64 y] w fun e w' => e = .returned (.bool (leap y)) ∧ w = w' := by
  obtain ⟨r, hr⟩ : ∃ r, leap y = r := ⟨_, rfl⟩
  rw [hr]
  unfold leap at hr
  rw [← tmod_zero y 4 (by decide), ← tmod_zero y 100 (by decide), ← tmod_zero y 400 (by decide)] at hr
  have b4 : -4 < y.tmod 4 ∧ y.tmod 4 < 4 := ⟨Int.lt_tmod_of_pos _ (by decide), Int.tmod_lt_of_pos _ (by decide)⟩
  have b100 : -100 < y.tmod 100 ∧ y.tmod 100 < 100 := ⟨Int.lt_tmod_of_pos _ (by decide), Int.tmod_lt_of_pos _ (by decide)⟩
  have b400 : -400 < y.tmod 400 ∧ y.tmod 400 < 400 := ⟨Int.lt_tmod_of_pos _ (by decide), Int.tmod_lt_of_pos _ (by decide)⟩
  cases h4 : (y.tmod 4 == 0) with
  | false =>
    rw [h4] at hr
    subst hr
    go_enter Tryz.func130, Tryz.ntmps130
    go_wp2
    go_ret
    exact ⟨rfl, rfl⟩
  | true =>
    rw [h4] at hr
    cases h100 : (y.tmod 100 == 0) with
    | false =>
      have hn : (y.tmod 100 != 0) = true := by rw [bne, h100]; rfl
      rw [h100] at hr
      subst hr
      go_enter Tryz.func130, Tryz.ntmps130
      go_wp2
      go_ret
      exact ⟨rfl, rfl⟩
    | true =>
      have hn : (y.tmod 100 != 0) = false := by rw [bne, h100]; rfl
      rw [h100] at hr
      cases h400 : (y.tmod 400 == 0) with
      | false =>
        rw [h400] at hr
        subst hr
        go_enter Tryz.func130, Tryz.ntmps130
        go_wp2
        go_ret
        exact ⟨rfl, rfl⟩
      | true =>
        rw [h400] at hr
        subst hr
        go_enter Tryz.func130, Tryz.ntmps130
        go_wp2
        go_ret
        exact ⟨rfl, rfl⟩
theorem leap_spec_b (y : Int) (w : World) : Calls Tryz.prog 130 #[.int .i64 y] w fun e w' => e = .returned (.bool (leap y)) ∧ Below w.heap.size w w' :=
  (leap_spec y w).mono fun e w' ⟨h1, h2⟩ => ⟨h1, by subst h2; exact Below.refl _ _⟩
/-- the row of the months' lengths -/
def mrow (y : Int) : Array Value := #[.int .i64 31, .int .i64 (feb y), .int .i64 31, .int .i64 30, .int .i64 31, .int .i64 30, .int .i64 31, .int .i64 31, .int .i64 30, .int .i64 31, .int .i64 30, .int .i64 31]
theorem mrow_at (y : Int) (k : Nat) (h : k < 12) : (mrow y)[k]? = some (.int .i64 (mlen y k)) := by
  unfold mlen mlens mrow
  match k, h with
  | 0, _ => rfl
  | 1, _ => rfl
  | 2, _ => rfl
  | 3, _ => rfl
  | 4, _ => rfl
  | 5, _ => rfl
  | 6, _ => rfl
  | 7, _ => rfl
  | 8, _ => rfl
  | 9, _ => rfl
  | 10, _ => rfl
  | 11, _ => rfl
set_option maxRecDepth 100000 in
set_option maxHeartbeats 1000000 in
theorem months_spec (y : Int) (w : World) : Calls Tryz.prog 129 #[.int .i64 y] w fun e w' => e = .returned (.slice (some ⟨w.heap.size, 0, none⟩) 12 12) ∧ w.alloc (.cells (mrow y) 3) = w' := by
  unfold mrow feb
  cases hl : leap y with
  | false =>
    rw [if_neg (by decide)]
    go_enter Tryz.func129, Tryz.ntmps129
    go_wp2_with fail
    refine (leap_spec y _).mono ?_
    rintro e w1 ⟨rfl, rfl⟩
    rw [hl]
    go_wp2
    go_ret
    exact ⟨rfl, rfl⟩
  | true =>
    rw [if_pos rfl]
    go_enter Tryz.func129, Tryz.ntmps129
    go_wp2_with fail
    refine (leap_spec y _).mono ?_
    rintro e w1 ⟨rfl, rfl⟩
    rw [hl]
    go_wp2
    go_ret
    exact ⟨rfl, rfl⟩
end Date
end Go.Proofs.YtbcjpjhpobmpbaaGreatDoor
namespace Go.Proofs.YtbcjpjhpobmpbaaGreatDoor
open Go.RowKit
set_option linter.unusedVariables false
namespace Date

theorem mcell (w : World) (y : Int) (k : Nat) (h : k < 12) : (w.alloc (.cells (mrow y) 3)).cell? ⟨w.heap.size, k, none⟩ = some (.int .i64 (mlen y k)) := by
  rw [cell_of_row _ _ _ _ _ _ (heap_alloc_new w _)]
  exact mrow_at y k h
set_option maxRecDepth 100000 in
set_option maxHeartbeats 2000000 in
theorem days_spec (y m d : Int) (w : World) : Calls Tryz.prog 103 #[.int .i64 y, .int .i64 m, .int .i64 d] w fun e w' => e = .returned (.int .i64 (days y m d)) ∧ Below w.heap.size w w' := by
  by_cases h1 : 1970 ≤ y ∧ y ≤ 2037
  · by_cases h2 : 1 ≤ m ∧ m ≤ 12
    · obtain ⟨k, rfl⟩ : ∃ k : Nat, m = (k : Int) + 1 := ⟨(m - 1).toNat, by omega⟩
      have hk : ((k : Int) + 1 - 1).toNat = k := by omega
      have hb := mlen_bd y k (by omega)
      by_cases h3 : 1 ≤ d ∧ d ≤ mlen y k
      · have hin : inside y ((k : Int) + 1) d := ⟨h1, h2, by rw [hk]; exact h3⟩
        obtain ⟨r, hr⟩ : ∃ r, days y ((k : Int) + 1) d = r := ⟨_, rfl⟩
        rw [hr]
        rw [days_in hin, hk] at hr
        have HR := Num.hide hr
        clear hr hin hk
        have HC := Num.hide (mcell w y k (by omega))
        have hc := mcell w y k (by omega)
        have HB0 := Num.hide ((Below.refl w.heap.size w).alloc (Nat.le_refl _) (.cells (mrow y) 3))
        go_enter Tryz.func103, Tryz.ntmps103
        go_wp2_with fail
        refine (in_spec _ _ _ _).mono ?_
        rintro e w1 ⟨rfl, rfl⟩
        rw [decide_eq_true h1]
        go_wp2_with fail
        refine (in_spec _ _ _ _).mono ?_
        rintro e w1 ⟨rfl, rfl⟩
        rw [decide_eq_true h2]
        go_wp2_with fail
        refine (months_spec _ _).mono ?_
        rintro e w1 ⟨rfl, rfl⟩
        go_wp2_with fail
        refine (in_spec _ _ _ _).mono ?_
        rintro e w1 ⟨rfl, rfl⟩
        rw [decide_eq_true h3]
        clear hc HC
        generalize w.alloc (.cells (mrow y) 3) = w2 at HB0 ⊢
        go_wp2
        go_loop [7, 8] (fun nv yv => ∃ j : Nat, 1970 + (j : Int) ≤ y ∧ yv = .int .i64 (1970 + (j : Int)) ∧ nv = .int .i64 (d - 1 + ysum j)) (fun _ yv => (y - intOf yv).toNat)
        case atStart => exact ⟨0, by omega, by simp, by simp [ysum]⟩
        case round =>
          obtain ⟨j, hj, rfl, rfl⟩ := hrel
          have hyb := ysum_bd j
          by_cases hlt : 1970 + (j : Int) < y
          · have hs : ysum (j + 1) = ysum j + 365 + (if leap (1970 + (j : Int)) = true then 1 else 0) := rfl
            cases hl : leap (1970 + (j : Int)) with
            | false =>
              rw [hl, if_neg (by decide)] at hs
              have HL := Num.hide (fun W => leap_spec (1970 + (j : Int)) W)
              rw [hl] at HL
              go_wp2_with fail
              refine (Num.unhide HL _).mono ?_
              rintro e w1 ⟨rfl, rfl⟩
              go_wp2
              go_round
              case rel => exact ⟨j + 1, by omega, by go_num, by rw [hs]; go_num⟩
              case measure => simp [intOf]; omega
            | true =>
              rw [hl, if_pos rfl] at hs
              have HL := Num.hide (fun W => leap_spec (1970 + (j : Int)) W)
              rw [hl] at HL
              go_wp2_with fail
              refine (Num.unhide HL _).mono ?_
              rintro e w1 ⟨rfl, rfl⟩
              go_wp2
              go_round
              case rel => exact ⟨j + 1, by omega, by go_num, by rw [hs]; go_num⟩
              case measure => simp [intOf]; omega
          · have hr := HR.out
            rw [show (y - 1970).toNat = j by omega] at hr
            have HR2 := Num.hide hr
            have hmb := msum_bd y k (by omega)
            clear hr HR
            go_wp2
            go_loopw [7, 9] (fun nv mv wr => ∃ i : Nat, i ≤ k ∧ mv = .int .i64 ((i : Int) + 1) ∧ nv = .int .i64 (d - 1 + ysum j + msum y i) ∧ Hid (Below w.heap.size w wr)) (fun _ mv _ => (k + 1 - intOf mv).toNat)
            case atStart => exact ⟨0, by omega, by simp, by simp [msum], HB0⟩
            case round =>
              obtain ⟨i, hi, rfl, rfl, HB⟩ := hrel
              have hsz := HB.out.size
              have hib := msum_bd y i (by omega)
              by_cases hlt2 : i < k
              · have hs : msum y (i + 1) = msum y i + mlen y i := rfl
                have hc := mcell wr y i (by omega)
                have hmi := mlen_bd y i (by omega)
                have HB1 := Num.hide (HB.out.alloc hsz (.cells (mrow y) 3))
                go_wp2_with fail
                refine (months_spec _ _).mono ?_
                rintro e w1 ⟨rfl, rfl⟩
                go_wp2
                go_roundw
                case rel => exact ⟨i + 1, by omega, by go_num, by rw [hs]; go_num, HB1⟩
                case measure => simp [intOf]; omega
              · obtain rfl : i = k := by omega
                have hr := HR2.out
                subst hr
                clear HR2
                go_wp2
                go_ret
                exact ⟨rfl, HB.out⟩
      · have hout : ¬ inside y ((k : Int) + 1) d := fun h => h3 (by have := h.2.2; rw [hk] at this; exact this)
        rw [days_out hout]
        have hc := mcell w y k (by omega)
        have HB0 := Num.hide ((Below.refl w.heap.size w).alloc (Nat.le_refl _) (.cells (mrow y) 3))
        clear hout hk
        go_enter Tryz.func103, Tryz.ntmps103
        go_wp2_with fail
        refine (in_spec _ _ _ _).mono ?_
        rintro e w1 ⟨rfl, rfl⟩
        rw [decide_eq_true h1]
        go_wp2_with fail
        refine (in_spec _ _ _ _).mono ?_
        rintro e w1 ⟨rfl, rfl⟩
        rw [decide_eq_true h2]
        go_wp2_with fail
        refine (months_spec _ _).mono ?_
        rintro e w1 ⟨rfl, rfl⟩
        go_wp2_with fail
        refine (in_spec _ _ _ _).mono ?_
        rintro e w1 ⟨rfl, rfl⟩
        rw [decide_eq_false h3]
        go_wp2
        go_ret
        exact ⟨rfl, HB0.out⟩
    · have hout : ¬ inside y m d := fun h => h2 h.2.1
      rw [days_out hout]
      clear hout
      go_enter Tryz.func103, Tryz.ntmps103
      go_wp2_with fail
      refine (in_spec _ _ _ _).mono ?_
      rintro e w1 ⟨rfl, rfl⟩
      rw [decide_eq_true h1]
      go_wp2_with fail
      refine (in_spec _ _ _ _).mono ?_
      rintro e w1 ⟨rfl, rfl⟩
      rw [decide_eq_false h2]
      go_wp2
      go_ret
      exact ⟨rfl, Below.refl _ _⟩
  · have hout : ¬ inside y m d := fun h => h1 h.1
    rw [days_out hout]
    clear hout
    go_enter Tryz.func103, Tryz.ntmps103
    go_wp2_with fail
    refine (in_spec _ _ _ _).mono ?_
    rintro e w1 ⟨rfl, rfl⟩
    rw [decide_eq_false h1]
    go_wp2
    go_ret
    exact ⟨rfl, Below.refl _ _⟩
end Date
end Go.Proofs.YtbcjpjhpobmpbaaGreatDoor
namespace Go.Proofs.YtbcjpjhpobmpbaaGreatDoor
open Go.RowKit
set_option linter.unusedVariables false
namespace Mem


theorem info5 : (Tryz.prog.info? 5).map (fun i => (i.zero, i.size, i.bytes)) = some (some (.int .u8 0), 1, 1) := by kernel_rfl
theorem made_zero (n : Nat) : (madeCells (Value.int .u8 0).cells (n * 1)).toList = List.replicate n (Value.int .u8 0) := by
  apply List.ext_getElem
  · simp [size_madeCells]
  · intro i h1 h2
    have e : i % 1 = 0 := by omega
    simp [madeCells, Value.cells, e]
theorem made_row {w w1 : World} {n : Nat} (h : w1.ownsRow w.heap.size 5 1 (.slice (some ⟨w.heap.size, 0, none⟩) n n) n (madeCells (Value.int .u8 0).cells (n * 1)).toList) :
    w1.heap[w.heap.size]? = some (.cells (List.replicate n (Value.int .u8 0)).toArray 5 (0, 0)) := by
  rcases h.2 with ⟨h', _⟩ | ⟨g', cap', cur, h', _, hg, _, _, hcs, htake⟩
  · simp at h'
  · simp only [Value.slice.injEq, Option.some.injEq, Addr.mk.injEq, and_true, true_and] at h'
    obtain ⟨rfl, rfl⟩ := h'
    rw [hg, ← made_zero n, ← htake, List.take_of_length_le (by rw [Array.length_toList, hcs]; exact Nat.le_refl _)]
theorem lt_of_row {w : World} {g : Nat} {o : Obj} (h : w.heap[g]? = some o) : g < w.heap.size := (Array.getElem?_eq_some_iff.1 h).1
theorem one_cell (w : World) (v : Value) (t : TypeId) : ∀ j u, [v][j]? = some u → (w.alloc (.cells #[v] t)).cell? ((⟨w.heap.size, 0, none⟩ : Addr).add j) = some u := by
  intro j u hj
  match j, hj with
  | 0, hj => simp at hj; subst hj; simp [Addr.add]
theorem conv_one (w : World) (x : Int) (h0 : 0 ≤ x) (h1 : x < 256) :
    (convert 42 9 (.slice (some ⟨w.heap.size, 0, none⟩) 1 1)).run Tryz.prog (w.alloc (.cells #[.int .u8 x] 5)) = .ok (.string ⟨[Num.byte x].toArray⟩) (w.alloc (.cells #[.int .u8 x] 5)) := by
  refine run_convert_bytes_back (P := Tryz.prog) (w.alloc (.cells #[.int .u8 x] 5)) 42 9 5 ⟨w.heap.size, 0, none⟩ 1 [Num.byte x] Tryz.underlying42 Tryz.underlying5 Tryz.underlying9 ?_
  intro j hj
  obtain rfl : j = 0 := by simp at hj; omega
  have e : ((Num.byte x).toNat : Int) = x := by rw [Num.byte_val]; omega
  simp [Addr.add, e]
end Mem
end Go.Proofs.YtbcjpjhpobmpbaaGreatDoor
