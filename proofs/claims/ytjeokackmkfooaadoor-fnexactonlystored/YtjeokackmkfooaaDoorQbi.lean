/-
  DirsImpl: Directives of the program: the directives of a list of fields, in a row of the call's own; what was there stays.
  SecondsImpl: isDigit and Seconds of the program: what the calls return, for every byte and every text; the world stays.
-/
import Derived.Test.YtjeokackmkfooaaDoorQba
import Derived.Test.YtjeokackmkfooaaDoorQbd
import Derived.Test.YtjeokackmkfooaaDoorQbh
import Derived.Test.YtjeokackmkfooaaDoorQab
import Derived.Test.YtjeokackmkfooaaDoorRows
import Derived.Laws.Strings
import Derived.Test.YtjeokackmkfooaaDoorDigitImpl
namespace Go.Proofs.YtjeokackmkfooaaDoor
open Go.RowKit
set_option linter.unusedVariables false
namespace Cc
open Flds (Fld)

set_option maxRecDepth 100000 in
set_option maxHeartbeats 2000000 in
theorem dirs_impl (v : Value) (l : List Fld) (w : World) (h : Flds.Is w v l) (hl : Flds.bulk l ≤ 1048576) (hm : Lim w) (hS : Sign.Signs w) :
    Calls Tryd.prog 24 #[v] w fun e w' => ∃ v', e = .returned v' ∧ Dirs.Own w.heap.size w' v' (dirs l) ∧ Below w.heap.size w w' := by
  have HG := Num.hide (Flds.get_impl v l ccName w h (by omega))
  have hsz := said_size l
  obtain ⟨D, hD⟩ : ∃ D, dirs l = D := ⟨_, rfl⟩
  rw [hD]
  unfold dirs at hD
  generalize Flds.get l ccName = g at HG hsz hD
  obtain ⟨s, b⟩ := g
  simp only at HG hsz hD
  have HS := Num.hide (fun W => Sign.split_impl s W (by omega))
  have hlen := split_len s
  have hz := split_small s
  generalize Sign.split s = L at HS hlen hz hD
  have HC := Num.hide (fun v W hv hm hS => dirsOf_any v L W hv (by omega) (fun t ht => Nat.le_trans (hz t ht) (by omega)) hm hS)
  rw [hD] at HC
  have HM := Num.hide hm
  have HSg := Num.hide hS
  have hlm := lim_lt hm
  have hsl := signs_lt hS
  clear hD h hm hS hz
  go_enter Tryd.func24, Tryd.ntmps24
  go_wp2_with fail
  refine HG.out.mono ?_
  rintro e w1 ⟨rfl, hb⟩
  have HB1 := Num.hide hb
  clear hb
  go_wp2_with fail
  refine (HS.out _).mono ?_
  rintro e w2 ⟨pv, rfl, ho, hb⟩
  have HB2 := Num.hide (HB1.out.trans (hb.mono HB1.out.size))
  have HP := Num.hide (Strs.own_is ho)
  clear ho hb HB1
  go_wp2_with fail
  refine (HC.out _ _ HP.out (lim_below HM.out HB2.out hlm) (signs_below HSg.out HB2.out hsl)).mono ?_
  rintro e w3 ⟨dv, rfl, ho, hb⟩
  have HO := Num.hide (Recs.own_mono ho HB2.out.size)
  have HB3 := Num.hide (HB2.out.trans (hb.mono HB2.out.size))
  clear ho hb HB2 HP
  go_wp2
  go_ret
  exact ⟨_, rfl, HO.out, HB3.out⟩
end Cc
end Go.Proofs.YtjeokackmkfooaaDoor
namespace Go.Proofs.YtjeokackmkfooaaDoor
open Go.RowKit
set_option linter.unusedVariables false
namespace Sign

theorem u8_sub (c : Int) (h0 : 48 ≤ c) (h1 : c ≤ 57) : IntKind.u8.wrap (c - 48) = c - 48 := by
  rw [IntKind.wrap_u8]; omega

set_option maxRecDepth 100000 in
set_option maxHeartbeats 1000000 in
theorem seconds_impl (s : ByteArray) (w : World) (hs : s.size ≤ maxLen) : Calls Tryd.prog 25 #[.string s] w fun e w' => e = .returned (.tuple #[.int .i64 (secs s).1, .bool (secs s).2]) ∧ w = w' := by
  unfold maxLen at hs
  obtain ⟨r, hr⟩ : ∃ r, secs s = r := ⟨_, rfl⟩
  rw [hr]
  have HR := Num.hide hr
  clear hr
  go_enter Tryd.func25, Tryd.ntmps25
  go_wp2
  go_loop [4, 8] (fun n i => ∃ k : Nat, k ≤ s.size ∧ i = .int .i64 k ∧ n = .int .i64 (sec (s.data.toList.take k)) ∧ (s.data.toList.take k).all (fun b => decide (dig (b.toNat : Int))) = true) (fun _ i => s.size - (intOf i).toNat)
  case atStart => exact ⟨0, by omega, rfl, rfl, by simp⟩
  case round =>
    obtain ⟨k, hk, rfl, rfl, hall⟩ := hrel
    have hb := sec_bd _ hall
    have HA := Num.hide hall
    clear hall
    by_cases hlt : k < s.size
    · have hstep := Num.hide (all_take s (fun b => decide (dig (b.toNat : Int))) k hlt)
      have hsec := Num.hide (sec_take s k hlt)
      have hn := Num.hide (fun h => not_all s (fun b => decide (dig (b.toNat : Int))) k hlt h)
      have hc := s[k].toNat_lt
      obtain ⟨x, hx⟩ : ∃ x, sec (s.data.toList.take k) = x := ⟨_, rfl⟩
      rw [hx] at hb ⊢
      have HX := Num.hide hx
      clear hx
      by_cases hd : dig (s[k].toNat : Int)
      · have hdt := Num.hide (decide_eq_true hd)
        have h1 : 48 ≤ (s[k].toNat : Int) := hd.1
        have h2 : (s[k].toNat : Int) ≤ 57 := hd.2
        clear hd
        have hw := u8_sub (s[k].toNat : Int) h1 h2
        go_wp2_with (go_at_call 32; refine (isDigit_any _ _).mono ?_; rintro e w' ⟨rfl, rfl⟩; rw [Num.unhide hdt])
        all_goals go_round
        case rel => exact ⟨k + 1, by omega, by go_num, by rw [Num.unhide hsec, Num.unhide HX] <;> go_num, by rw [Num.unhide hstep, Num.unhide HA, Num.unhide hdt]; rfl⟩
        case measure => simp [intOf]; omega
      · have hdf := Num.hide (decide_eq_false hd)
        clear hd
        have hr : secs s = (0, false) := by
          unfold secs
          rw [if_neg]
          intro h
          rw [Num.unhide hn (Num.unhide hdf)] at h
          simp at h
        rw [Num.unhide HR] at hr
        subst hr
        go_wp2_with (go_at_call 32; refine (isDigit_any _ _).mono ?_; rintro e w' ⟨rfl, rfl⟩; rw [Num.unhide hdf])
        all_goals go_ret2
        all_goals exact ⟨rfl, rfl⟩
    · obtain rfl : k = s.size := by omega
      have hfull : s.data.toList.take s.size = s.data.toList := List.take_of_length_le (by rw [Array.length_toList]; exact Nat.le_refl _)
      have hall := Num.unhide HA
      have hr := Num.unhide HR
      rw [hfull] at hall hb ⊢
      unfold secs at hr
      by_cases h0 : 0 < s.size
      · rw [if_pos ⟨h0, hall⟩] at hr
        subst hr
        have h0' := empty_false s h0
        clear HR HA hall hfull
        obtain ⟨x, hx⟩ : ∃ x, sec s.data.toList = x := ⟨_, rfl⟩
        rw [hx] at hb ⊢
        have HX := Num.hide hx
        clear hx
        go_wp2
        all_goals go_ret2
        all_goals exact ⟨by rw [Num.unhide HX]; rfl, rfl⟩
      · rw [if_neg (fun h => h0 h.1)] at hr
        subst hr
        have hz : s.size = 0 := by omega
        obtain rfl : s = ⟨#[]⟩ := empty_true s hz
        clear HR HA hall hfull
        go_wp2
        all_goals go_ret2
        all_goals exact ⟨rfl, rfl⟩
end Sign
end Go.Proofs.YtjeokackmkfooaaDoor
