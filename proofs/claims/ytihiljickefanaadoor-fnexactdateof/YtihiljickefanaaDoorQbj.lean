/-
  DateWords: nameAt, twoDigits and showTime of the program; what was there stays.
  LeapImpl: IsLeap of the program; the world stays.
-/
import Derived.Test.YtihiljickefanaaDoorQbf
import Derived.Test.YtihiljickefanaaDoorQal
import Derived.Test.YtihiljickefanaaDoorQbi
import Derived.Laws.Strings
import Derived.Laws.Strings2
import Derived.Test.YtihiljickefanaaDoorQaf
import Derived.Test.YtihiljickefanaaDoorRows
import Derived.WalkKit
import Derived.WalkLawsBesides
import Derived.Below
namespace Go.Proofs.YtihiljickefanaaDoor
open Go.RowKit
set_option linter.unusedVariables false
namespace Date

theorem parts_of (D : Int) (h0 : 0 ≤ D) (h1 : D ≤ 24471) : Parts D (yr D) (mo D) (dy D) := by
  obtain ⟨p1, p2, p3, p4, p5, p6⟩ := parts_in D h0 h1
  exact ⟨by omega, p2, p3, p4, by unfold dy; omega⟩
def wnames : ByteArray := ⟨#[77, 111, 110, 84, 117, 101, 87, 101, 100, 84, 104, 117, 70, 114, 105, 83, 97, 116, 83, 117, 110]⟩
def mnames : ByteArray := ⟨#[74, 97, 110, 70, 101, 98, 77, 97, 114, 65, 112, 114, 77, 97, 121, 74, 117, 110, 74, 117, 108, 65, 117, 103, 83, 101, 112, 79, 99, 116, 78, 111, 118, 68, 101, 99]⟩
theorem week_cut (D : Int) (h : 0 ≤ D) : wnames.extract (((3 + D) % 7).toNat * 3) ((((3 + D) % 7).toNat + 1) * 3) = week (D % 7).toNat := by
  have key : ∀ r : Nat, r < 7 → (wnames.extract ((3 + r) % 7 * 3) (((3 + r) % 7 + 1) * 3)).data.toList = (week r).data.toList := by decide +kernel
  have e : ((3 + D) % 7).toNat = (3 + (D % 7).toNat) % 7 := by omega
  rw [e]
  exact ByteArray.ext (Array.toList_inj.1 (key _ (by omega)))
theorem name_cut (k : Nat) (h : k < 12) : mnames.extract (k * 3) ((k + 1) * 3) = name k := by
  have key : ∀ r : Nat, r < 12 → (mnames.extract (r * 3) ((r + 1) * 3)).data.toList = (name r).data.toList := by decide +kernel
  exact ByteArray.ext (Array.toList_inj.1 (key _ h))
theorem digit_dec (x : Int) (h0 : 0 ≤ x) (h1 : x < 10) : dec x = ⟨#[Num.byte (48 + x)]⟩ := by
  have key : ∀ r : Nat, r < 10 → (dec (r : Int)).data.toList = [Num.byte (48 + (r : Int))] := by decide +kernel
  have e : ((x.toNat : Nat) : Int) = x := by omega
  have := key x.toNat (by omega)
  rw [e] at this
  exact ByteArray.ext (Array.toList_inj.1 this)
theorem two_dec (n : Int) (h0 : 0 ≤ n) (h1 : n ≤ 99) : dec (n / 10) ++ dec (n % 10) = two n := by
  rw [digit_dec (n / 10) (by omega) (by omega), digit_dec (n % 10) (by omega) (by omega)]
  unfold two
  rw [show n / 10 % 10 = n / 10 by omega]
  rfl
set_option maxRecDepth 100000 in
set_option maxHeartbeats 1000000 in
theorem nameAt_impl (t : ByteArray) (i : Nat) (w : World) (hi : (i + 1) * 3 ≤ t.size) (hs : t.size ≤ 100) : Calls Tryd.prog 57 #[.string t, .int .i64 i] w fun e w' => e = .returned (.string (t.extract (i * 3) ((i + 1) * 3))) ∧ w = w' := by
  have h1 : ((i : Int) + 1) * 3 ≤ (t.size : Int) := by omega
  have h2 : (i : Int) * 3 ≤ ((i : Int) + 1) * 3 := by omega
  have e1 : ((i : Int) * 3).toNat = i * 3 := by omega
  have e2 : (((i : Int) + 1) * 3).toNat = (i + 1) * 3 := by omega
  have hs2 := run_slice_string (P := Tryd.prog) w 9 t .i64 .i64 ((i : Int) * 3) (((i : Int) + 1) * 3) Tryd.underlying9 (by omega) h2 h1
  rw [e1, e2] at hs2
  go_enter Tryd.func57, Tryd.ntmps57
  go_wp2
  go_ret
  exact ⟨rfl, rfl⟩
set_option maxRecDepth 100000 in
set_option maxHeartbeats 1000000 in
theorem two_impl (n : Int) (w : World) (h0 : 0 ≤ n) (h1 : n ≤ 99) (ht : Dec.Tab w) : Calls Tryd.prog 58 #[.int .i64 n] w fun e w' => e = .returned (.string (two n)) ∧ Below w.heap.size w w' := by
  have HA : Hid (∀ W, Dec.Tab W → Calls Tryd.prog 59 #[.int .i64 (n / 10)] W fun e w' => e = .returned (.string (dec (n / 10))) ∧ Below W.heap.size W w') := fun W h => Dec.impl_any (n / 10) W (by omega) (by omega) h
  have HB : Hid (∀ W, Dec.Tab W → Calls Tryd.prog 59 #[.int .i64 (n % 10)] W fun e w' => e = .returned (.string (dec (n % 10))) ∧ Below W.heap.size W w') := fun W h => Dec.impl_any (n % 10) W (by omega) (by omega) h
  have he := two_dec n h0 h1
  have s1 : (dec (n / 10)).size = 1 := by rw [digit_dec _ (by omega) (by omega)]; rfl
  have s2 : (dec (n % 10)).size = 1 := by rw [digit_dec _ (by omega) (by omega)]; rfl
  have HT := Num.hide ht
  clear ht
  generalize two n = r at he ⊢
  generalize dec (n / 10) = x at HA he s1
  generalize dec (n % 10) = y at HB he s2
  subst he
  go_enter Tryd.func58, Tryd.ntmps58
  go_wp2_with fail
  refine (HA.out _ HT.out).mono ?_
  rintro e w1 ⟨rfl, hb1⟩
  have HB1 := Num.hide hb1
  clear hb1
  go_wp2_with fail
  refine (HB.out _ (HT.out.below HB1.out)).mono ?_
  rintro e w2 ⟨rfl, hb2⟩
  have HB2 := Num.hide (HB1.out.trans (hb2.mono HB1.out.size))
  clear hb2
  go_wp2
  go_ret
  exact ⟨rfl, HB2.out⟩
set_option maxRecDepth 100000 in
set_option maxHeartbeats 1000000 in
theorem time_impl (n : Int) (w : World) (h0 : 0 ≤ n) (h1 : n < 86400) (ht : Dec.Tab w) : Calls Tryd.prog 60 #[.int .i64 n] w fun e w' => e = .returned (.string (two (n / 3600) ++ ⟨#[58]⟩ ++ two (n % 3600 / 60) ++ ⟨#[58]⟩ ++ two (n % 60))) ∧ Below w.heap.size w w' := by
  have HA := Num.hide (fun W h => two_impl (n / 3600) W (by omega) (by omega) h)
  have HB := Num.hide (fun W h => two_impl (n % 3600 / 60) W (by omega) (by omega) h)
  have HC := Num.hide (fun W h => two_impl (n % 60) W (by omega) (by omega) h)
  have s1 := size_two (n / 3600)
  have s2 := size_two (n % 3600 / 60)
  have s3 := size_two (n % 60)
  have HT := Num.hide ht
  clear ht
  generalize two (n / 3600) = x at HA s1 ⊢
  generalize two (n % 3600 / 60) = y at HB s2 ⊢
  generalize two (n % 60) = z at HC s3 ⊢
  obtain ⟨r, hr⟩ : ∃ r, x ++ ⟨#[58]⟩ ++ y ++ ⟨#[58]⟩ ++ z = r := ⟨_, rfl⟩
  rw [hr]
  have HR := Num.hide hr
  clear hr
  go_enter Tryd.func60, Tryd.ntmps60
  go_wp2_with fail
  refine (HA.out _ HT.out).mono ?_
  rintro e w1 ⟨rfl, hb1⟩
  have HB1 := Num.hide hb1
  clear hb1
  go_wp2_with fail
  refine (HB.out _ (HT.out.below HB1.out)).mono ?_
  rintro e w2 ⟨rfl, hb2⟩
  have HB2 := Num.hide (HB1.out.trans (hb2.mono HB1.out.size))
  clear hb2
  go_wp2_with fail
  refine (HC.out _ (HT.out.below HB2.out)).mono ?_
  rintro e w3 ⟨rfl, hb3⟩
  have HB3 := Num.hide (HB2.out.trans (hb3.mono HB2.out.size))
  clear hb3
  have hr := HR.out
  subst hr
  go_wp2
  go_ret
  exact ⟨rfl, HB3.out⟩
end Date
end Go.Proofs.YtihiljickefanaaDoor
namespace Go.Proofs.YtihiljickefanaaDoor
open Go.RowKit
set_option linter.unusedVariables false
namespace Date

theorem leap_alt (y : Int) : leap y = (((y.tmod 4 == 0) && (y.tmod 100 != 0)) || (y.tmod 400 == 0)) := by
  unfold leap
  rw [bne, tmod_zero y 4 (by decide), tmod_zero y 100 (by decide), tmod_zero y 400 (by decide)]
  by_cases h4 : y % 4 = 0
  · rw [decide_eq_true h4]; rfl
  · rw [decide_eq_false h4, decide_eq_false (by omega : ¬ y % 400 = 0)]; rfl
set_option maxRecDepth 100000 in
set_option maxHeartbeats 1000000 in
theorem leap_impl_at (y : Int) (w : World) : Calls Tryd.prog 68 #[.int .i64 y] w fun e w' => e = .returned (.bool (leap y)) ∧ w = w' := by
  have hr := leap_alt y
  obtain ⟨r, hr2⟩ : ∃ r, leap y = r := ⟨_, rfl⟩
  rw [hr2] at hr ⊢
  clear hr2
  have b4 : -4 < y.tmod 4 ∧ y.tmod 4 < 4 := ⟨Int.lt_tmod_of_pos _ (by decide), Int.tmod_lt_of_pos _ (by decide)⟩
  have b100 : -100 < y.tmod 100 ∧ y.tmod 100 < 100 := ⟨Int.lt_tmod_of_pos _ (by decide), Int.tmod_lt_of_pos _ (by decide)⟩
  have b400 : -400 < y.tmod 400 ∧ y.tmod 400 < 400 := ⟨Int.lt_tmod_of_pos _ (by decide), Int.tmod_lt_of_pos _ (by decide)⟩
  cases h4 : (y.tmod 4 == 0) with
  | false =>
    rw [h4] at hr
    cases h400 : (y.tmod 400 == 0) with
    | false =>
      rw [h400] at hr
      subst hr
      go_enter Tryd.func68, Tryd.ntmps68
      go_wp2
      go_ret
      exact ⟨rfl, rfl⟩
    | true =>
      rw [h400] at hr
      subst hr
      go_enter Tryd.func68, Tryd.ntmps68
      go_wp2
      go_ret
      exact ⟨rfl, rfl⟩
  | true =>
    rw [h4] at hr
    cases h100 : (y.tmod 100 == 0) with
    | false =>
      have hn : (y.tmod 100 != 0) = true := by rw [bne, h100]; rfl
      rw [hn] at hr
      subst hr
      go_enter Tryd.func68, Tryd.ntmps68
      go_wp2
      go_ret
      exact ⟨rfl, rfl⟩
    | true =>
      have hn : (y.tmod 100 != 0) = false := by rw [bne, h100]; rfl
      rw [hn] at hr
      cases h400 : (y.tmod 400 == 0) with
      | false =>
        rw [h400] at hr
        subst hr
        go_enter Tryd.func68, Tryd.ntmps68
        go_wp2
        go_ret
        exact ⟨rfl, rfl⟩
      | true =>
        rw [h400] at hr
        subst hr
        go_enter Tryd.func68, Tryd.ntmps68
        go_wp2
        go_ret
        exact ⟨rfl, rfl⟩
theorem leap_impl (y : Int) (w : World) : Calls Tryd.prog 68 #[.int .i64 y] w fun e w' => e = .returned (.bool (leap y)) ∧ Below w.heap.size w w' :=
  (leap_impl_at y w).mono fun e w' ⟨h1, h2⟩ => ⟨h1, by subst h2; exact Below.refl _ _⟩
end Date
end Go.Proofs.YtihiljickefanaaDoor
