/-
  The specification's draws of texts for the laws on signs: bounds alone; what was there stays.
-/
import Derived.Test.YtkogcbnbmdeolaaDoorDrawPick
import Derived.Test.YtkogcbnbmdeolaaDoorDrawTextLive
import Derived.Test.YtkogcbnbmdeolaaDoorDrawPickInt
import Derived.Test.YtkogcbnbmdeolaaDoorDecSpec
import Derived.Lib.ItoaLen
namespace Go.Proofs.YtkogcbnbmdeolaaDoor
open Go.RowKit
set_option linter.unusedVariables false
namespace Draw

theorem trimD_row (t : ByteArray) (ht : t.size ≤ 64) : ∀ i, i < (#[.string ⟨#[32, 97, 32, 98, 32]⟩, .string ⟨#[9, 32, 120]⟩, .string ⟨#[]⟩, .string ⟨#[32, 32, 32]⟩, .string ⟨#[97]⟩, .string t] : Array Value).size → ∃ x, (#[.string ⟨#[32, 97, 32, 98, 32]⟩, .string ⟨#[9, 32, 120]⟩, .string ⟨#[]⟩, .string ⟨#[32, 32, 32]⟩, .string ⟨#[97]⟩, .string t] : Array Value)[i]? = some (.string x) ∧ x.size ≤ 64 := by
  intro i hi
  have hi : i < 6 := hi
  rcases (by omega : i = 0 ∨ i = 1 ∨ i = 2 ∨ i = 3 ∨ i = 4 ∨ i = 5) with rfl | rfl | rfl | rfl | rfl | rfl
  · exact ⟨_, rfl, by decide⟩
  · exact ⟨_, rfl, by decide⟩
  · exact ⟨_, rfl, by decide⟩
  · exact ⟨_, rfl, by decide⟩
  · exact ⟨_, rfl, by decide⟩
  · exact ⟨_, rfl, ht⟩
set_option maxRecDepth 100000 in
set_option maxHeartbeats 2000000 in
theorem trimD (cap : Nat) (a : Option Addr) (l : List Int) (w : World) (hcode : CodeAt w.heap.size w a l) (hl : l.length ≤ 1048576) :
    Calls Tryd.prog 10 #[.slice a l.length cap] w fun e w' => ∃ x, e = .returned (.string x) ∧ x.size ≤ 64 ∧ Below w.heap.size w w' := by
  have HC := Num.hide hcode
  clear hcode
  go_enter Tryd.func10, Tryd.ntmps10
  go_wp2_with fail
  refine (new_at w.heap.size cap a l _ (Nat.le_refl _) HC.out hl).mono ?_
  rintro e w1 ⟨C, rfl, hC, h1, b1⟩
  have HL : Hid (Live w.heap.size C w1) := ⟨_, _, _, _, h1⟩
  have HB1 := Num.hide b1
  have hCl := h1.lt
  clear h1 b1
  go_wp2_with fail
  refine (text_live w.heap.size C 6 _ HL.out (by omega)).mono ?_
  rintro e w2 ⟨t, rfl, ht, hl2, hn2⟩
  have hB2 := hn2.below hC hCl
  have HB2 := Num.hide (HB1.out.trans hB2)
  have HL2 := Num.hide hl2
  have hz2 := hn2.size
  clear hl2 hn2 hB2 HB1 HL
  go_wp2_with fail
  refine (pick_p (fun x => x.size ≤ 64) w.heap.size C w2.heap.size #[.string ⟨#[32, 97, 32, 98, 32]⟩, .string ⟨#[9, 32, 120]⟩, .string ⟨#[]⟩, .string ⟨#[32, 32, 32]⟩, .string ⟨#[97]⟩, .string t] 6 _ (HL2.out.alloc _) (by omega) (heap_alloc_new w2 _) rfl (by omega) (by omega) (trimD_row t (by omega))).mono ?_
  rintro e w4 ⟨x, rfl, hx, hl4, hn4⟩
  have HB4 := Num.hide ((HB2.out.alloc HB2.out.size _).trans (hn4.below hC (by rw [World.size_alloc]; omega)))
  clear hl4 hn4 HB2 HL2
  go_wp2
  go_ret
  exact ⟨_, rfl, hx, HB4.out⟩
theorem lowerD_row (t : ByteArray) (ht : t.size ≤ 64) : ∀ i, i < (#[.string ⟨#[67, 97, 99, 104, 101, 45, 67, 111, 110, 116, 114, 111, 108]⟩, .string ⟨#[65, 66, 67]⟩, .string ⟨#[195, 169]⟩, .string ⟨#[]⟩, .string t] : Array Value).size → ∃ x, (#[.string ⟨#[67, 97, 99, 104, 101, 45, 67, 111, 110, 116, 114, 111, 108]⟩, .string ⟨#[65, 66, 67]⟩, .string ⟨#[195, 169]⟩, .string ⟨#[]⟩, .string t] : Array Value)[i]? = some (.string x) ∧ x.size ≤ 64 := by
  intro i hi
  have hi : i < 5 := hi
  rcases (by omega : i = 0 ∨ i = 1 ∨ i = 2 ∨ i = 3 ∨ i = 4) with rfl | rfl | rfl | rfl | rfl
  · exact ⟨_, rfl, by decide⟩
  · exact ⟨_, rfl, by decide⟩
  · exact ⟨_, rfl, by decide⟩
  · exact ⟨_, rfl, by decide⟩
  · exact ⟨_, rfl, ht⟩
set_option maxRecDepth 100000 in
set_option maxHeartbeats 2000000 in
theorem lowerD (cap : Nat) (a : Option Addr) (l : List Int) (w : World) (hcode : CodeAt w.heap.size w a l) (hl : l.length ≤ 1048576) :
    Calls Tryd.prog 12 #[.slice a l.length cap] w fun e w' => ∃ x, e = .returned (.string x) ∧ x.size ≤ 64 ∧ Below w.heap.size w w' := by
  have HC := Num.hide hcode
  clear hcode
  go_enter Tryd.func12, Tryd.ntmps12
  go_wp2_with fail
  refine (new_at w.heap.size cap a l _ (Nat.le_refl _) HC.out hl).mono ?_
  rintro e w1 ⟨C, rfl, hC, h1, b1⟩
  have HL : Hid (Live w.heap.size C w1) := ⟨_, _, _, _, h1⟩
  have HB1 := Num.hide b1
  have hCl := h1.lt
  clear h1 b1
  go_wp2_with fail
  refine (text_live w.heap.size C 6 _ HL.out (by omega)).mono ?_
  rintro e w2 ⟨t, rfl, ht, hl2, hn2⟩
  have hB2 := hn2.below hC hCl
  have HB2 := Num.hide (HB1.out.trans hB2)
  have HL2 := Num.hide hl2
  have hz2 := hn2.size
  clear hl2 hn2 hB2 HB1 HL
  go_wp2_with fail
  refine (pick_p (fun x => x.size ≤ 64) w.heap.size C w2.heap.size #[.string ⟨#[67, 97, 99, 104, 101, 45, 67, 111, 110, 116, 114, 111, 108]⟩, .string ⟨#[65, 66, 67]⟩, .string ⟨#[195, 169]⟩, .string ⟨#[]⟩, .string t] 5 _ (HL2.out.alloc _) (by omega) (heap_alloc_new w2 _) rfl (by omega) (by omega) (lowerD_row t (by omega))).mono ?_
  rintro e w4 ⟨x, rfl, hx, hl4, hn4⟩
  have HB4 := Num.hide ((HB2.out.alloc HB2.out.size _).trans (hn4.below hC (by rw [World.size_alloc]; omega)))
  clear hl4 hn4 HB2 HL2
  go_wp2
  go_ret
  exact ⟨_, rfl, hx, HB4.out⟩
theorem dec_small (z : Int) (h0 : 0 ≤ z) (h1 : z ≤ 9999) : (⟨(Lib.itoa z).toArray⟩ : ByteArray).size ≤ 64 := by
  show (Lib.itoa z).toArray.size ≤ 64
  rw [List.size_toArray]
  have := Lib.itoa_length_le z (by omega) (by omega)
  omega
theorem secsD_row (t : ByteArray) (ht : t.size ≤ 64) : ∀ i, i < (#[.string ⟨#[]⟩, .string ⟨#[48]⟩, .string ⟨#[54, 48]⟩, .string ⟨#[48, 48, 55]⟩, .string ⟨#[50, 49, 52, 55, 52, 56, 51, 54, 52, 55]⟩, .string ⟨#[50, 49, 52, 55, 52, 56, 51, 54, 52, 56]⟩, .string ⟨#[57, 57, 57, 57, 57, 57, 57, 57, 57, 57, 57, 57, 57, 57, 57, 57, 57, 57, 57, 57, 57, 57, 57]⟩, .string ⟨#[45, 49]⟩, .string ⟨#[49, 120]⟩, .string t] : Array Value).size → ∃ x, (#[.string ⟨#[]⟩, .string ⟨#[48]⟩, .string ⟨#[54, 48]⟩, .string ⟨#[48, 48, 55]⟩, .string ⟨#[50, 49, 52, 55, 52, 56, 51, 54, 52, 55]⟩, .string ⟨#[50, 49, 52, 55, 52, 56, 51, 54, 52, 56]⟩, .string ⟨#[57, 57, 57, 57, 57, 57, 57, 57, 57, 57, 57, 57, 57, 57, 57, 57, 57, 57, 57, 57, 57, 57, 57]⟩, .string ⟨#[45, 49]⟩, .string ⟨#[49, 120]⟩, .string t] : Array Value)[i]? = some (.string x) ∧ x.size ≤ 64 := by
  intro i hi
  have hi : i < 10 := hi
  rcases (by omega : i = 0 ∨ i = 1 ∨ i = 2 ∨ i = 3 ∨ i = 4 ∨ i = 5 ∨ i = 6 ∨ i = 7 ∨ i = 8 ∨ i = 9) with rfl | rfl | rfl | rfl | rfl | rfl | rfl | rfl | rfl | rfl
  · exact ⟨_, rfl, by decide⟩
  · exact ⟨_, rfl, by decide⟩
  · exact ⟨_, rfl, by decide⟩
  · exact ⟨_, rfl, by decide⟩
  · exact ⟨_, rfl, by decide⟩
  · exact ⟨_, rfl, by decide⟩
  · exact ⟨_, rfl, by decide⟩
  · exact ⟨_, rfl, by decide⟩
  · exact ⟨_, rfl, by decide⟩
  · exact ⟨_, rfl, ht⟩
set_option maxRecDepth 100000 in
set_option maxHeartbeats 2000000 in
theorem secsD (cap : Nat) (a : Option Addr) (l : List Int) (w : World) (hcode : CodeAt w.heap.size w a l) (hl : l.length ≤ 1048576) :
    Calls Tryd.prog 18 #[.slice a l.length cap] w fun e w' => ∃ x, e = .returned (.string x) ∧ x.size ≤ 64 ∧ Below w.heap.size w w' := by
  have HC := Num.hide hcode
  clear hcode
  go_enter Tryd.func18, Tryd.ntmps18
  go_wp2_with fail
  refine (new_at w.heap.size cap a l _ (Nat.le_refl _) HC.out hl).mono ?_
  rintro e w1 ⟨C, rfl, hC, h1, b1⟩
  have HL : Hid (Live w.heap.size C w1) := ⟨_, _, _, _, h1⟩
  have HB1 := Num.hide b1
  have hCl := h1.lt
  clear h1 b1
  go_wp2_with fail
  refine (below_live w.heap.size C 5000 _ HL.out (by omega) (by omega)).mono ?_
  rintro e w2 ⟨z, rfl, hz0, hz1, hl2, hn2⟩
  have hB2 := hn2.below hC hCl
  have HB2 := Num.hide (HB1.out.trans hB2)
  have HL2 := Num.hide hl2
  have hz2 := hn2.size
  clear hl2 hn2 hB2 HB1 HL
  have hds : (⟨(Lib.itoa z).toArray⟩ : ByteArray).size ≤ 64 := dec_small z hz0 (by omega)
  have HD := Num.hide (fun W => Dec.spec_any z W (by omega) (by omega))
  generalize (⟨(Lib.itoa z).toArray⟩ : ByteArray) = t at hds HD
  go_wp2_with fail
  refine (HD.out _).mono ?_
  rintro e w3 ⟨rfl, hb3⟩
  have HB3 := Num.hide (HB2.out.trans (hb3.mono HB2.out.size))
  have HL3 := Num.hide (HL2.out.below hb3)
  have hz3 := hb3.size
  clear hb3 HB2 HL2
  go_wp2_with fail
  refine (pick_p (fun x => x.size ≤ 64) w.heap.size C w3.heap.size #[.string ⟨#[]⟩, .string ⟨#[48]⟩, .string ⟨#[54, 48]⟩, .string ⟨#[48, 48, 55]⟩, .string ⟨#[50, 49, 52, 55, 52, 56, 51, 54, 52, 55]⟩, .string ⟨#[50, 49, 52, 55, 52, 56, 51, 54, 52, 56]⟩, .string ⟨#[57, 57, 57, 57, 57, 57, 57, 57, 57, 57, 57, 57, 57, 57, 57, 57, 57, 57, 57, 57, 57, 57, 57]⟩, .string ⟨#[45, 49]⟩, .string ⟨#[49, 120]⟩, .string t] 10 _ (HL3.out.alloc _) (by omega) (heap_alloc_new w3 _) rfl (by omega) (by omega) (secsD_row t hds)).mono ?_
  rintro e w4 ⟨x, rfl, hx, hl4, hn4⟩
  have HB4 := Num.hide ((HB3.out.alloc HB3.out.size _).trans (hn4.below hC (by rw [World.size_alloc]; omega)))
  clear hl4 hn4 HB3 HL3
  go_wp2
  go_ret
  exact ⟨_, rfl, hx, HB4.out⟩
theorem splitD_row : ∀ i, i < (#[.string ⟨#[97]⟩, .string ⟨#[44]⟩, .string ⟨#[32]⟩, .string ⟨#[34]⟩, .string ⟨#[92]⟩, .string ⟨#[109, 97, 120, 45, 97, 103, 101, 61, 53]⟩, .string ⟨#[44, 32]⟩, .string ⟨#[98]⟩, .string ⟨#[34, 120, 44, 121, 34]⟩] : Array Value).size → ∃ x, (#[.string ⟨#[97]⟩, .string ⟨#[44]⟩, .string ⟨#[32]⟩, .string ⟨#[34]⟩, .string ⟨#[92]⟩, .string ⟨#[109, 97, 120, 45, 97, 103, 101, 61, 53]⟩, .string ⟨#[44, 32]⟩, .string ⟨#[98]⟩, .string ⟨#[34, 120, 44, 121, 34]⟩] : Array Value)[i]? = some (.string x) ∧ x.size ≤ 9 := by
  intro i hi
  have hi : i < 9 := hi
  rcases (by omega : i = 0 ∨ i = 1 ∨ i = 2 ∨ i = 3 ∨ i = 4 ∨ i = 5 ∨ i = 6 ∨ i = 7 ∨ i = 8) with rfl | rfl | rfl | rfl | rfl | rfl | rfl | rfl | rfl <;> exact ⟨_, rfl, by decide⟩
set_option maxRecDepth 100000 in
set_option maxHeartbeats 2000000 in
theorem splitD (cap : Nat) (a : Option Addr) (l : List Int) (w : World) (hcode : CodeAt w.heap.size w a l) (hl : l.length ≤ 1048576) :
    Calls Tryd.prog 50 #[.slice a l.length cap] w fun e w' => ∃ x, e = .returned (.string x) ∧ x.size ≤ 64 ∧ Below w.heap.size w w' := by
  have HC := Num.hide hcode
  clear hcode
  go_enter Tryd.func50, Tryd.ntmps50
  go_wp2_with fail
  refine (new_at w.heap.size cap a l _ (Nat.le_refl _) HC.out hl).mono ?_
  rintro e w1 ⟨C, rfl, hC, h1, b1⟩
  have HL : Hid (Live w.heap.size C w1) := ⟨_, _, _, _, h1⟩
  have HB1 := Num.hide b1
  have hCl := h1.lt
  clear h1 b1
  go_wp2_with fail
  refine (below_live w.heap.size C 8 _ HL.out (by omega) (by omega)).mono ?_
  rintro e w2 ⟨z, rfl, hz0, hz1, hl2, hn2⟩
  obtain ⟨m, rfl⟩ := Int.eq_ofNat_of_zero_le hz0
  have HB2 := Num.hide (HB1.out.trans (hn2.below hC hCl))
  have HL2 := Num.hide hl2
  have hz2 := hn2.size
  clear hl2 hn2 HB1 HL
  go_wp2
  go_loopw [4, 5] (fun sv nv wr => ∃ (k : Nat) (s : ByteArray), nv = .int .i64 (k : Int) ∧ k ≤ 7 ∧ sv = .string s ∧ s.size ≤ 9 * (7 - k) ∧ C < wr.heap.size ∧ Hid (Live w.heap.size C wr) ∧ Hid (Below w.heap.size w wr)) (fun _ nv _ => (intOf nv).toNat)
  case atStart => exact ⟨m, ⟨#[]⟩, rfl, by omega, rfl, Nat.zero_le _, by omega, HL2, HB2⟩
  case round =>
    clear HL2 HB2
    obtain ⟨k, s, rfl, hk, rfl, hs, hCw, HL, HB⟩ := hrel
    by_cases h0 : 0 < (k : Int)
    · go_wp2_with fail
      refine (pick_p (fun x => x.size ≤ 9) w.heap.size C wr.heap.size #[.string ⟨#[97]⟩, .string ⟨#[44]⟩, .string ⟨#[32]⟩, .string ⟨#[34]⟩, .string ⟨#[92]⟩, .string ⟨#[109, 97, 120, 45, 97, 103, 101, 61, 53]⟩, .string ⟨#[44, 32]⟩, .string ⟨#[98]⟩, .string ⟨#[34, 120, 44, 121, 34]⟩] 9 _ (HL.out.alloc _) (by omega) (heap_alloc_new wr _) rfl (by omega) (by omega) splitD_row).mono ?_
      rintro e w4 ⟨x, rfl, hx, hl4, hn4⟩
      have hz4 := hn4.size
      rw [World.size_alloc] at hz4
      have HB4 := Num.hide ((HB.out.alloc HB.out.size _).trans (hn4.below hC (by rw [World.size_alloc]; omega)))
      have HL4 := Num.hide hl4
      have hsz : (s ++ x).size ≤ 9 * (7 - (k - 1)) := by rw [ByteArray.size_append]; omega
      have hno : ¬ 9223372036854775807 < s.size + x.size := by omega
      clear hl4 hn4 HB HL
      go_wp2
      go_roundw
      case rel => exact ⟨k - 1, _, by go_num, by omega, rfl, hsz, by omega, HL4, HB4⟩
      case measure => simp [intOf]; omega
    · obtain rfl : k = 0 := by omega
      go_wp2
      go_ret
      exact ⟨_, rfl, by omega, HB.out⟩
set_option maxRecDepth 100000 in
set_option maxHeartbeats 1000000 in
theorem normalD (cap : Nat) (a : Option Addr) (l : List Int) (w : World) (hcode : CodeAt w.heap.size w a l) (hl : l.length ≤ 1048576) :
    Calls Tryd.prog 14 #[.slice a l.length cap] w fun e w' => ∃ x, e = .returned (.string x) ∧ x.size ≤ 64 ∧ Below w.heap.size w w' := by
  have HD := Num.hide (splitD cap a l w hcode hl)
  clear hcode
  go_enter Tryd.func14, Tryd.ntmps14
  go_wp2_with fail
  refine HD.out.mono ?_
  rintro e w1 ⟨x, rfl, hx, hb⟩
  have HB := Num.hide hb
  clear hb
  go_wp2
  go_ret
  exact ⟨_, rfl, hx, HB.out⟩
end Draw
end Go.Proofs.YtkogcbnbmdeolaaDoor
