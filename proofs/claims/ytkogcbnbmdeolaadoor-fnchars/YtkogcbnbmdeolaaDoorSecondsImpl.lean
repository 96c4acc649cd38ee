/-
  isDigit and Seconds of the program: what the calls return, for every byte and every text; the world stays.
-/
import Derived.Test.YtkogcbnbmdeolaaDoorSecondsNum
import Derived.Test.YtkogcbnbmdeolaaDoorRows
import Derived.Laws.Strings
import Derived.Test.YtkogcbnbmdeolaaDoorDigitImpl
namespace Go.Proofs.YtkogcbnbmdeolaaDoor
open Go.RowKit
set_option linter.unusedVariables false
namespace Sign

theorem u8_sub (c : Int) (h0 : 48 ≤ c) (h1 : c ≤ 57) : IntKind.u8.wrap (c - 48) = c - 48 := by
  rw [IntKind.wrap_u8]; omega

set_option maxRecDepth 100000 in
set_option maxHeartbeats 1000000 in
theorem seconds_impl (s : ByteArray) (w : World) (hs : s.size ≤ maxLen) : Calls Tryd.prog 17 #[.string s] w fun e w' => e = .returned (.tuple #[.int .i64 (secs s).1, .bool (secs s).2]) ∧ w = w' := by
  unfold maxLen at hs
  obtain ⟨r, hr⟩ : ∃ r, secs s = r := ⟨_, rfl⟩
  rw [hr]
  have HR := Num.hide hr
  clear hr
  go_enter Tryd.func17, Tryd.ntmps17
  go_wp2
  go_loop [4, 8] (fun n i => ∃ k : Nat, k ≤ s.size ∧ i = .int .i64 k ∧ n = .int .i64 (sec (s.data.toList.take k)) ∧ (s.data.toList.take k).all (fun b => decide (dig (b.toNat : Int))) = true) (fun _ i => s.size - (intOf i).toNat)
  case atStart => exact ⟨0, by omega, rfl, rfl, by simp⟩
  case round =>
    obtain ⟨k, hk, rfl, rfl, hall⟩ := hrel
    have hb := sec_bd _ hall
    have HA := Num.hide hall
    clear hall
    by_cases hlt : k < s.size
    · have hstep := Num.hide (all_take s (fun b => decide (dig (b.toNat : Int))) k hlt)
      have hsec := Num.hide (sec_take s k hlt)
      have hn := Num.hide (fun h => not_all s (fun b => decide (dig (b.toNat : Int))) k hlt h)
      have hc := s[k].toNat_lt
      obtain ⟨x, hx⟩ : ∃ x, sec (s.data.toList.take k) = x := ⟨_, rfl⟩
      rw [hx] at hb ⊢
      have HX := Num.hide hx
      clear hx
      by_cases hd : dig (s[k].toNat : Int)
      · have hdt := Num.hide (decide_eq_true hd)
        have h1 : 48 ≤ (s[k].toNat : Int) := hd.1
        have h2 : (s[k].toNat : Int) ≤ 57 := hd.2
        clear hd
        have hw := u8_sub (s[k].toNat : Int) h1 h2
        go_wp2_with (go_at_call 53; refine (isDigit_any _ _).mono ?_; rintro e w' ⟨rfl, rfl⟩; rw [Num.unhide hdt])
        all_goals go_round
        case rel => exact ⟨k + 1, by omega, by go_num, by rw [Num.unhide hsec, Num.unhide HX] <;> go_num, by rw [Num.unhide hstep, Num.unhide HA, Num.unhide hdt]; rfl⟩
        case measure => simp [intOf]; omega
      · have hdf := Num.hide (decide_eq_false hd)
        clear hd
        have hr : secs s = (0, false) := by
          unfold secs
          rw [if_neg]
          intro h
          rw [Num.unhide hn (Num.unhide hdf)] at h
          simp at h
        rw [Num.unhide HR] at hr
        subst hr
        go_wp2_with (go_at_call 53; refine (isDigit_any _ _).mono ?_; rintro e w' ⟨rfl, rfl⟩; rw [Num.unhide hdf])
        all_goals go_ret2
        all_goals exact ⟨rfl, rfl⟩
    · obtain rfl : k = s.size := by omega
      have hfull : s.data.toList.take s.size = s.data.toList := List.take_of_length_le (by rw [Array.length_toList]; exact Nat.le_refl _)
      have hall := Num.unhide HA
      have hr := Num.unhide HR
      rw [hfull] at hall hb ⊢
      unfold secs at hr
      by_cases h0 : 0 < s.size
      · rw [if_pos ⟨h0, hall⟩] at hr
        subst hr
        have h0' := empty_false s h0
        clear HR HA hall hfull
        obtain ⟨x, hx⟩ : ∃ x, sec s.data.toList = x := ⟨_, rfl⟩
        rw [hx] at hb ⊢
        have HX := Num.hide hx
        clear hx
        go_wp2
        all_goals go_ret2
        all_goals exact ⟨by rw [Num.unhide HX]; rfl, rfl⟩
      · rw [if_neg (fun h => h0 h.1)] at hr
        subst hr
        have hz : s.size = 0 := by omega
        obtain rfl : s = ⟨#[]⟩ := empty_true s hz
        clear HR HA hall hfull
        go_wp2
        all_goals go_ret2
        all_goals exact ⟨rfl, rfl⟩
end Sign
end Go.Proofs.YtkogcbnbmdeolaaDoor
