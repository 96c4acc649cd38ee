/-
  The specification's draws of dates, of days and of their texts: what they tell is bounded; nothing but the cursor and new memory changes.
-/
import Derived.Test.YtdgmhjklidklmaaDoorDrawPick
import Derived.Test.YtdgmhjklidklmaaDoorDrawPickInt
import Derived.Test.YtdgmhjklidklmaaDoorDrawSpoilt
import Derived.Test.YtdgmhjklidklmaaDoorDateRead
import Derived.Test.YtdgmhjklidklmaaDoorDateSpec
namespace Go.Proofs.YtdgmhjklidklmaaDoor
open Go.RowKit
set_option linter.unusedVariables false
namespace Draw

set_option maxRecDepth 100000 in
set_option maxHeartbeats 1000000 in
theorem sec_live (B C : Nat) (w : World) (h : Live B C w) :
    Calls Tryd.prog 16 #[.pointer (some ⟨C, 0, none⟩)] w fun e w' => ∃ z : Int, e = .returned (.int .i64 z) ∧ -1 ≤ z ∧ z ≤ 2000000001 ∧ Live B C w' ∧ Only C w w' := by
  have HL := Num.hide h
  have hC := h.lt
  clear h
  go_enter Tryd.func16, Tryd.ntmps16
  go_wp2_with fail
  refine (below_live B C 2000000 _ HL.out (by omega) (by omega)).mono ?_
  rintro e w1 ⟨z1, rfl, h10, h11, hl1, ho1⟩
  go_wp2_with fail
  refine (below_live B C 3000000 _ hl1 (by omega) (by omega)).mono ?_
  rintro e w2 ⟨z2, rfl, h20, h21, hl2, ho2⟩
  have HL2 := Num.hide hl2
  have HO2 := Num.hide (ho1.trans ho2)
  have hC2 := hl2.lt
  clear hl1 ho1 hl2 ho2 HL
  go_wp2_with fail
  refine (pickInt_live B C w2.heap.size (-1) 2000000001 _ 14 _ (HL2.out.alloc _) (by omega) (heap_alloc_new w2 _) rfl (by omega) (by omega) (by simp only [IntsIn, and_true]; omega)).mono ?_
  rintro e w3 ⟨z, rfl, hz0, hz1, hl3, ho3⟩
  have HL3 := Num.hide hl3
  have HO3 := Num.hide ((HO2.out.alloc _).trans ho3)
  clear hl3 ho3
  go_wp2
  go_ret
  exact ⟨z, rfl, hz0, hz1, HL3.out, HO3.out⟩
set_option maxRecDepth 100000 in
set_option maxHeartbeats 1000000 in
theorem drawSec (cap : Nat) (a : Option Addr) (l : List Int) (w : World) (hcode : CodeAt w.heap.size w a l) (hl : l.length ≤ 1048576) :
    Calls Tryd.prog 7 #[.slice a l.length cap] w fun e w' => ∃ z : Int, e = .returned (.int .i64 z) ∧ -1 ≤ z ∧ z ≤ 2000000001 ∧ Below w.heap.size w w' := by
  have HC := Num.hide hcode
  clear hcode
  go_enter Tryd.func7, Tryd.ntmps7
  go_wp2_with fail
  refine (new_at w.heap.size cap a l _ (Nat.le_refl _) HC.out hl).mono ?_
  rintro e w1 ⟨C, rfl, hC, h1, b1⟩
  have HL : Hid (Live w.heap.size C w1) := ⟨_, _, _, _, h1⟩
  have HB1 := Num.hide b1
  have hCl := h1.lt
  clear h1 b1
  go_wp2_with fail
  refine (sec_live _ C _ HL.out).mono ?_
  rintro e w2 ⟨z, rfl, hz0, hz1, hl2, hn2⟩
  have HB2 := Num.hide (HB1.out.trans (hn2.below hC hCl))
  clear hl2 hn2
  go_wp2
  go_ret
  exact ⟨z, rfl, hz0, hz1, HB2.out⟩
set_option maxRecDepth 100000 in
set_option maxHeartbeats 1000000 in
theorem drawDays (cap : Nat) (a : Option Addr) (l : List Int) (w : World) (hcode : CodeAt w.heap.size w a l) (hl : l.length ≤ 1048576) :
    Calls Tryd.prog 10 #[.slice a l.length cap] w fun e w' => ∃ y m d : Int, e = .returned (.tuple #[.int .i64 y, .int .i64 m, .int .i64 d]) ∧ (0 ≤ y ∧ y ≤ 3000) ∧ (0 ≤ m ∧ m ≤ 20) ∧ (0 ≤ d ∧ d ≤ 40) ∧ Below w.heap.size w w' := by
  have HC := Num.hide hcode
  clear hcode
  go_enter Tryd.func10, Tryd.ntmps10
  go_wp2_with fail
  refine (new_at w.heap.size cap a l _ (Nat.le_refl _) HC.out hl).mono ?_
  rintro e w1 ⟨C, rfl, hC, h1, b1⟩
  have HL : Hid (Live w.heap.size C w1) := ⟨_, _, _, _, h1⟩
  have HB1 := Num.hide b1
  have hCl := h1.lt
  clear h1 b1
  go_wp2_with fail
  refine (below_live w.heap.size C 68 _ HL.out (by omega) (by omega)).mono ?_
  rintro e w2 ⟨z2, rfl, h20, h21, hl2, ho2⟩
  have HL2 := Num.hide hl2
  have HO2 := Num.hide ho2
  have hC2 := hl2.lt
  clear hl2 ho2 HL
  go_wp2_with fail
  refine (pickInt_live w.heap.size C w2.heap.size 0 3000 _ 7 _ (HL2.out.alloc _) (by omega) (heap_alloc_new w2 _) rfl (by omega) (by omega) (by simp only [IntsIn, and_true]; omega)).mono ?_
  rintro e w3 ⟨y, rfl, hy0, hy1, hl3, ho3⟩
  have HL3 := Num.hide hl3
  have HO3 := Num.hide ((HO2.out.alloc _).trans ho3)
  clear hl3 ho3 HL2 HO2
  go_wp2_with fail
  refine (below_live w.heap.size C 14 _ HL3.out (by omega) (by omega)).mono ?_
  rintro e w4 ⟨m, rfl, hm0, hm1, hl4, ho4⟩
  have HL4 := Num.hide hl4
  have HO4 := Num.hide (HO3.out.trans ho4)
  clear hl4 ho4 HL3 HO3
  go_wp2_with fail
  refine (below_live w.heap.size C 31 _ HL4.out (by omega) (by omega)).mono ?_
  rintro e w5 ⟨z5, rfl, h50, h51, hl5, ho5⟩
  have HL5 := Num.hide hl5
  have HO5 := Num.hide (HO4.out.trans ho5)
  have hC5 := hl5.lt
  clear hl5 ho5 HL4 HO4
  go_wp2_with fail
  refine (pickInt_live w.heap.size C w5.heap.size 0 40 _ 8 _ (HL5.out.alloc _) (by omega) (heap_alloc_new w5 _) rfl (by omega) (by omega) (by simp only [IntsIn, and_true]; omega)).mono ?_
  rintro e w6 ⟨d, rfl, hd0, hd1, hl6, ho6⟩
  have HB6 := Num.hide (HB1.out.trans (((HO5.out.alloc _).trans ho6).below hC hCl))
  clear hl6 ho6 HL5 HO5
  go_wp2
  go_ret3
  exact ⟨_, _, _, rfl, ⟨hy0, hy1⟩, ⟨hm0, by omega⟩, ⟨hd0, hd1⟩, HB6.out⟩
theorem shown_size (n : Int) : (Date.shown n).size ≤ 29 := by
  unfold Date.shown
  split
  · next h => rw [Date.text_size n h.1 h.2]; omega
  · exact Nat.zero_le _
set_option maxRecDepth 100000 in
set_option maxHeartbeats 1000000 in
theorem drawText (cap : Nat) (a : Option Addr) (l : List Int) (w : World) (hcode : CodeAt w.heap.size w a l) (hl : l.length ≤ 1048576) :
    Calls Tryd.prog 12 #[.slice a l.length cap] w fun e w' => ∃ t, e = .returned (.string t) ∧ t.size ≤ 2100 ∧ Below w.heap.size w w' := by
  have HC := Num.hide hcode
  clear hcode
  go_enter Tryd.func12, Tryd.ntmps12
  go_wp2_with fail
  refine (new_at w.heap.size cap a l _ (Nat.le_refl _) HC.out hl).mono ?_
  rintro e w1 ⟨C, rfl, hC, h1, b1⟩
  have HL : Hid (Live w.heap.size C w1) := ⟨_, _, _, _, h1⟩
  have HB1 := Num.hide b1
  have hCl := h1.lt
  clear h1 b1
  go_wp2_with fail
  refine (sec_live _ C _ HL.out).mono ?_
  rintro e w2 ⟨z, rfl, hz0, hz1, hl2, hn2⟩
  have HL2 := Num.hide hl2
  have HO2 := Num.hide hn2
  clear hl2 hn2 HL
  have hss := shown_size z
  have HT := Num.hide (fun W => Date.date_spec z W)
  generalize Date.shown z = s at hss HT
  go_wp2_with fail
  refine (HT.out _).mono ?_
  rintro e w3 ⟨rfl, hb3⟩
  have HL3 := Num.hide (HL2.out.below hb3)
  have HO3 := Num.hide (HO2.out.of_below (hb3.mono HO2.out.size))
  clear hb3 HL2 HO2
  go_wp2_with fail
  refine (below_live w.heap.size C 5 _ HL3.out (by omega) (by omega)).mono ?_
  rintro e w4 ⟨k, rfl, hk0, hk1, hl4, ho4⟩
  have HL4 := Num.hide hl4
  have HO4 := Num.hide (HO3.out.trans ho4)
  have hC4 := hl4.lt
  clear hl4 ho4 HL3 HO3
  by_cases k0 : k = 0
  · subst k0
    go_wp2_with fail
    refine (spoil_live w.heap.size C s _ HL4.out (by omega)).mono ?_
    rintro e w5 ⟨t, rfl, ht, hl5, ho5⟩
    have HB5 := Num.hide (HB1.out.trans ((HO4.out.trans ho5).below hC hCl))
    clear hl5 ho5
    go_wp2
    go_ret
    exact ⟨t, rfl, ht, HB5.out⟩
  · have d0 : (k == 0) = false := by rw [beq_eq_false_iff_ne]; exact k0
    by_cases k1 : k = 1
    · subst k1
      go_wp2_with fail
      refine (pick_live w.heap.size C w4.heap.size _ 6 _ (HL4.out.alloc _) (by omega) (heap_alloc_new w4 _) rfl (by omega) (by omega) (by decide)).mono ?_
      rintro e w5 ⟨t, rfl, ht, hl5, ho5⟩
      have HB5 := Num.hide (HB1.out.trans (((HO4.out.alloc _).trans ho5).below hC hCl))
      clear hl5 ho5
      go_wp2
      go_ret
      exact ⟨t, rfl, by omega, HB5.out⟩
    · have d1 : (k == 1) = false := by rw [beq_eq_false_iff_ne]; exact k1
      have HB5 := Num.hide (HB1.out.trans (HO4.out.below hC hCl))
      clear k0 k1
      go_wp2
      go_ret
      exact ⟨s, rfl, by omega, HB5.out⟩
end Draw
end Go.Proofs.YtdgmhjklidklmaaDoor
