/-
  DrawBody: The specification's draws of bodies, and the code's byte.
-/
import Derived.Test.YtkenmilglfnmbaaGreatDoorQai
namespace Go.Proofs.YtkenmilglfnmbaaGreatDoor
open Go.RowKit
set_option linter.unusedVariables false
namespace Draw

set_option maxRecDepth 100000 in
set_option maxHeartbeats 1000000 in
theorem drawChunk (cap : Nat) (a : Option Addr) (l : List Int) (w : World) (hcode : CodeAt w.heap.size w a l) (hl : l.length ≤ 1048576) :
    Calls Tryz.prog 8 #[.slice a l.length cap] w fun e w' => ∃ (t : ByteArray) (z : Int), e = .returned (.tuple #[.string t, .int .i64 z]) ∧ t.size ≤ 30 ∧ -1 ≤ z ∧ z ≤ 100 ∧ Below w.heap.size w w' := by
  have HC := Num.hide hcode
  clear hcode
  go_enter Tryz.func8, Tryz.ntmps8
  go_wp2_with fail
  refine (new_at w.heap.size cap a l _ (Nat.le_refl _) HC.out hl).mono ?_
  rintro e w1 ⟨C, rfl, hC, h1, b1⟩
  have HL : Hid (Live w.heap.size C w1) := ⟨_, _, _, _, h1⟩
  have HB1 := Num.hide b1
  have hCl := h1.lt
  clear h1 b1
  go_wp2_with fail
  refine (text_live w.heap.size C 30 _ HL.out (by omega)).mono ?_
  rintro e w2 ⟨t, rfl, ht, hl2, ho2⟩
  have HL2 := Num.hide hl2
  have HO2 := Num.hide ho2
  have hC2 := hl2.lt
  clear hl2 ho2 HL
  go_wp2_with fail
  refine (pickInt_live w.heap.size C w2.heap.size (-1) 100 _ 7 _ (HL2.out.alloc _) (by omega) (heap_alloc_new w2 _) rfl (by omega) (by omega) (by simp only [IntsIn, and_true]; omega)).mono ?_
  rintro e w3 ⟨z, rfl, hz0, hz1, hl3, ho3⟩
  have HB3 := Num.hide (HB1.out.trans (((HO2.out.alloc _).trans ho3).below hC hCl))
  clear hl3 ho3
  go_wp2
  go_ret2
  exact ⟨_, _, rfl, ht, hz0, hz1, HB3.out⟩
set_option maxRecDepth 100000 in
set_option maxHeartbeats 1000000 in
theorem drawHex (cap : Nat) (a : Option Addr) (l : List Int) (w : World) (hcode : CodeAt w.heap.size w a l) (hl : l.length ≤ 1048576) :
    Calls Tryz.prog 12 #[.slice a l.length cap] w fun e w' => ∃ z : Int, e = .returned (.int .i64 z) ∧ -1 ≤ z ∧ z ≤ 9223372036854775807 ∧ Below w.heap.size w w' := by
  have HC := Num.hide hcode
  clear hcode
  go_enter Tryz.func12, Tryz.ntmps12
  go_wp2_with fail
  refine (new_at w.heap.size cap a l _ (Nat.le_refl _) HC.out hl).mono ?_
  rintro e w1 ⟨C, rfl, hC, h1, b1⟩
  have HL : Hid (Live w.heap.size C w1) := ⟨_, _, _, _, h1⟩
  have HB1 := Num.hide b1
  have hCl := h1.lt
  clear h1 b1
  go_wp2_with fail
  refine (below_live w.heap.size C 5000 _ HL.out (by omega) (by omega)).mono ?_
  rintro e w2 ⟨t, rfl, ht0, ht1, hl2, ho2⟩
  have HL2 := Num.hide hl2
  have HO2 := Num.hide ho2
  have hC2 := hl2.lt
  clear hl2 ho2 HL
  go_wp2_with fail
  refine (pickInt_live w.heap.size C w2.heap.size (-1) 9223372036854775807 _ 11 _ (HL2.out.alloc _) (by omega) (heap_alloc_new w2 _) rfl (by omega) (by omega) (by simp only [IntsIn, and_true]; omega)).mono ?_
  rintro e w3 ⟨z, rfl, hz0, hz1, hl3, ho3⟩
  have HB3 := Num.hide (HB1.out.trans (((HO2.out.alloc _).trans ho3).below hC hCl))
  clear hl3 ho3
  go_wp2
  go_ret
  exact ⟨_, rfl, hz0, hz1, HB3.out⟩
set_option maxRecDepth 100000 in
set_option maxHeartbeats 1000000 in
theorem at_zero (B cap : Nat) (a : Option Addr) (l : List Int) (w : World) (hcode : CodeAt B w a l) (hl : l.length ≤ 1048576) :
    Calls Tryz.prog 11 #[.slice a l.length cap, .int .i64 0] w fun e w' => ∃ z : Int, e = .returned (.int .i64 z) ∧ 0 ≤ z ∧ z ≤ 255 ∧ w = w' := by
  by_cases h0 : (0 : Int) < (l.length : Int)
  · rcases hcode.2 with hn | ⟨b, off, rfl, hbB, hc⟩
    · rw [hn] at h0; simp at h0
    · have hz := hcode.1 0 (by omega)
      have hck := hc 0 (by omega)
      rw [Nat.add_zero] at hck
      generalize l[0]'(by omega) = z at hz hck
      have HC := Num.hide hcode
      clear hcode hc HC
      go_enter Tryz.func11, Tryz.ntmps11
      go_wp2
      go_ret
      exact ⟨z, rfl, hz.1, hz.2, rfl⟩
  · have d0 : decide ((0 : Int) < (l.length : Int)) = false := by rw [decide_eq_false_iff_not]; exact h0
    clear hcode
    go_enter Tryz.func11, Tryz.ntmps11
    go_wp2
    go_ret
    exact ⟨_, rfl, by omega, by omega, rfl⟩
end Draw
end Go.Proofs.YtkenmilglfnmbaaGreatDoor
