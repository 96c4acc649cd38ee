/-
  isTokenByte and IsTokenText of the program: what the calls return, for every byte and every text, where the table of signs holds what it is laid with; the world stays.
-/
import Derived.Test.YtbcjpjhpobmpbaaGreatDoorDigitImpl
import Derived.Test.YtbcjpjhpobmpbaaGreatDoorUpperImpl
import Derived.Test.YtbcjpjhpobmpbaaGreatDoorSmallImpl
import Derived.Laws.Rows
namespace Go.Proofs.YtbcjpjhpobmpbaaGreatDoor
open Go.RowKit
set_option linter.unusedVariables false
namespace Sign

def signs : List Int := [33, 35, 36, 37, 38, 39, 42, 43, 45, 46, 94, 95, 124, 126, 96]
/-- the table of signs lies in its variable -/
def Signs (w : World) : Prop := ∀ i, i < 15 → w.cell? ⟨0, i, none⟩ = some (.int .u8 (signs.getD i 0))
theorem cells_signs {w : World} (h : Signs w) :
    w.cell? ⟨0, 0, none⟩ = some (.int .u8 33) ∧ w.cell? ⟨0, 1, none⟩ = some (.int .u8 35) ∧ w.cell? ⟨0, 2, none⟩ = some (.int .u8 36) ∧ w.cell? ⟨0, 3, none⟩ = some (.int .u8 37) ∧ w.cell? ⟨0, 4, none⟩ = some (.int .u8 38) ∧ w.cell? ⟨0, 5, none⟩ = some (.int .u8 39) ∧ w.cell? ⟨0, 6, none⟩ = some (.int .u8 42) ∧ w.cell? ⟨0, 7, none⟩ = some (.int .u8 43) ∧ w.cell? ⟨0, 8, none⟩ = some (.int .u8 45) ∧ w.cell? ⟨0, 9, none⟩ = some (.int .u8 46) ∧ w.cell? ⟨0, 10, none⟩ = some (.int .u8 94) ∧ w.cell? ⟨0, 11, none⟩ = some (.int .u8 95) ∧ w.cell? ⟨0, 12, none⟩ = some (.int .u8 124) ∧ w.cell? ⟨0, 13, none⟩ = some (.int .u8 126) ∧ w.cell? ⟨0, 14, none⟩ = some (.int .u8 96) :=
  ⟨h 0 (by decide), h 1 (by decide), h 2 (by decide), h 3 (by decide), h 4 (by decide), h 5 (by decide), h 6 (by decide), h 7 (by decide), h 8 (by decide), h 9 (by decide), h 10 (by decide), h 11 (by decide), h 12 (by decide), h 13 (by decide), h 14 (by decide)⟩
theorem index_signs (w : World) (k : Nat) (h : k < 15) : (Instr.index 161 (.agg #[.int .u8 33, .int .u8 35, .int .u8 36, .int .u8 37, .int .u8 38, .int .u8 39, .int .u8 42, .int .u8 43, .int .u8 45, .int .u8 46, .int .u8 94, .int .u8 95, .int .u8 124, .int .u8 126, .int .u8 96]) (.int .i64 (k : Int))).run Tryz.prog w = .ok (.int .u8 (signs.getD k 0)) w := by
  rcases (show k = 0 ∨ k = 1 ∨ k = 2 ∨ k = 3 ∨ k = 4 ∨ k = 5 ∨ k = 6 ∨ k = 7 ∨ k = 8 ∨ k = 9 ∨ k = 10 ∨ k = 11 ∨ k = 12 ∨ k = 13 ∨ k = 14 by omega) with rfl | rfl | rfl | rfl | rfl | rfl | rfl | rfl | rfl | rfl | rfl | rfl | rfl | rfl | rfl
  all_goals kernel_rfl
theorem take_signs (c : Int) (k : Nat) (h : k < 15) : c ∈ signs.take (k + 1) ↔ c ∈ signs.take k ∨ c = signs.getD k 0 := by
  rw [List.take_succ_eq_append_getElem (show k < signs.length from h), List.mem_append, List.mem_singleton, List.getD, List.getElem?_eq_getElem (show k < signs.length from h)]; rfl
theorem mem_signs (k : Nat) (h : k < 15) : signs.getD k 0 ∈ signs := by
  rw [List.getD, List.getElem?_eq_getElem (show k < signs.length from h)]; exact List.getElem_mem _
theorem tok_of (c : Int) : tok c ↔ up c ∨ low c ∨ dig c ∨ c ∈ signs := by
  unfold tok up low dig signs
  simp only [List.mem_cons, List.not_mem_nil, or_false]
  omega

set_option maxRecDepth 100000 in
set_option maxHeartbeats 2000000 in
theorem isTokenByte_any (c : Int) (w : World) (h : Signs w) : Calls Tryz.prog 163 #[.int .u8 c] w fun e w' => e = .returned (.bool (decide (tok c))) ∧ w = w' := by
  obtain ⟨c0, c1, c2, c3, c4, c5, c6, c7, c8, c9, c10, c11, c12, c13, c14⟩ := cells_signs h
  clear h
  by_cases hu : up c
  · have d := Num.hide (decide_eq_true hu)
    rw [show decide (tok c) = true from decide_eq_true ((tok_of c).2 (.inl hu))]
    clear hu
    go_enter Tryz.func163, Tryz.ntmps163
    go_wp2_with (go_at_call 162; refine (isUpper_any _ _).mono ?_; rintro e w' ⟨rfl, rfl⟩; rw [Num.unhide d])
    all_goals go_ret
    all_goals exact ⟨rfl, rfl⟩
  · have du := Num.hide (decide_eq_false hu)
    by_cases hl : low c
    · have dl := Num.hide (decide_eq_true hl)
      rw [show decide (tok c) = true from decide_eq_true ((tok_of c).2 (.inr (.inl hl)))]
      clear hu hl
      go_enter Tryz.func163, Tryz.ntmps163
      go_wp2_with (first | (go_at_call 162; refine (isUpper_any _ _).mono ?_; rintro e w' ⟨rfl, rfl⟩; rw [Num.unhide du]) | (go_at_call 175; refine (isLower_any _ _).mono ?_; rintro e w' ⟨rfl, rfl⟩; rw [Num.unhide dl]))
      all_goals go_ret
      all_goals exact ⟨rfl, rfl⟩
    · have dl := Num.hide (decide_eq_false hl)
      by_cases hd : dig c
      · have dd := Num.hide (decide_eq_true hd)
        rw [show decide (tok c) = true from decide_eq_true ((tok_of c).2 (.inr (.inr (.inl hd))))]
        clear hu hl hd
        go_enter Tryz.func163, Tryz.ntmps163
        go_wp2_with (first | (go_at_call 162; refine (isUpper_any _ _).mono ?_; rintro e w' ⟨rfl, rfl⟩; rw [Num.unhide du]) | (go_at_call 175; refine (isLower_any _ _).mono ?_; rintro e w' ⟨rfl, rfl⟩; rw [Num.unhide dl]) | (go_at_call 137; refine (isDigit_any _ _).mono ?_; rintro e w' ⟨rfl, rfl⟩; rw [Num.unhide dd]))
        all_goals go_ret
        all_goals exact ⟨rfl, rfl⟩
      · have dd := Num.hide (decide_eq_false hd)
        obtain ⟨r, hr⟩ : ∃ r, decide (tok c) = r := ⟨_, rfl⟩
        rw [hr]
        have HT : Hid (c ∈ signs → r = true) := fun hc => by rw [← hr]; exact decide_eq_true ((tok_of c).2 (.inr (.inr (.inr hc))))
        have HF : Hid (¬ c ∈ signs → r = false) := fun hc => by
          rw [← hr]
          refine decide_eq_false (fun ht => ?_)
          rcases (tok_of c).1 ht with h | h | h | h
          · exact hu h
          · exact hl h
          · exact hd h
          · exact hc h
        clear hu hl hd hr
        go_enter Tryz.func163, Tryz.ntmps163
        go_wp2_with (first | (go_at_call 162; refine (isUpper_any _ _).mono ?_; rintro e w' ⟨rfl, rfl⟩; rw [Num.unhide du]) | (go_at_call 175; refine (isLower_any _ _).mono ?_; rintro e w' ⟨rfl, rfl⟩; rw [Num.unhide dl]) | (go_at_call 137; refine (isDigit_any _ _).mono ?_; rintro e w' ⟨rfl, rfl⟩; rw [Num.unhide dd]))
        clear c0 c1 c2 c3 c4 c5 c6 c7 c8 c9 c10 c11 c12 c13 c14
        go_loop [16] (fun i => ∃ k : Nat, k ≤ 15 ∧ i = .int .i64 k ∧ Hid (¬ c ∈ signs.take k)) (fun i => 15 - (intOf i).toNat)
        case atStart => exact ⟨0, by omega, rfl, by intro h; simp at h⟩
        case round =>
          obtain ⟨k, hk, rfl, hno⟩ := hrel
          by_cases hlt : k < 15
          · have hix := index_signs w k hlt
            have ht := Num.hide (take_signs c k hlt)
            have hm := Num.hide (mem_signs k hlt)
            generalize signs.getD k 0 = x at hix ht hm
            by_cases he : c = x
            · subst he
              have hr := Num.unhide HT (Num.unhide hm)
              subst hr
              go_wp2
              all_goals go_ret
              all_goals exact ⟨rfl, rfl⟩
            · have d : (c == x) = false := by rw [beq_eq_false_iff_ne]; exact he
              have hno2 : Hid (¬ c ∈ signs.take (k + 1)) := fun h => ((Num.unhide ht).1 h).elim hno.out he
              clear he
              go_wp2
              go_round
              case rel => exact ⟨k + 1, by omega, by go_num, hno2⟩
              case measure => simp [intOf]; omega
          · obtain rfl : k = 15 := by omega
            have hf := Num.unhide HF (Num.unhide hno)
            subst hf
            go_wp2
            go_ret
            exact ⟨rfl, rfl⟩

set_option maxRecDepth 100000 in
set_option maxHeartbeats 1000000 in
theorem isTok_impl (s : ByteArray) (w : World) (hs : s.size ≤ maxLen) (h : Signs w) : Calls Tryz.prog 153 #[.string s] w fun e w' => e = .returned (.bool (isTok s)) ∧ w = w' := by
  unfold maxLen at hs
  have HT := Num.hide h
  clear h
  obtain ⟨r, hr⟩ : ∃ r, isTok s = r := ⟨_, rfl⟩
  rw [hr]
  have HR := Num.hide hr
  clear hr
  go_enter Tryz.func153, Tryz.ntmps153
  go_wp2
  go_loop [6] (fun i => ∃ k : Nat, k ≤ s.size ∧ i = .int .i64 k ∧ Hid ((s.data.toList.take k).all (fun b => decide (tok (b.toNat : Int))) = true)) (fun i => s.size - (intOf i).toNat)
  case atStart => exact ⟨0, by omega, rfl, Num.hide (by simp)⟩
  case round =>
    obtain ⟨k, hk, rfl, HA⟩ := hrel
    by_cases hlt : k < s.size
    · have hstep := Num.hide (all_take s (fun b => decide (tok (b.toNat : Int))) k hlt)
      have hn := Num.hide (fun h => not_all s (fun b => decide (tok (b.toNat : Int))) k hlt h)
      by_cases ht : tok (s[k].toNat : Int)
      · have hd := Num.hide (decide_eq_true ht)
        clear ht
        go_wp2_with (go_at_call 163; refine (isTokenByte_any _ _ (Num.unhide HT)).mono ?_; rintro e w' ⟨rfl, rfl⟩; rw [Num.unhide hd])
        go_round
        case rel => exact ⟨k + 1, by omega, by go_num, Num.hide (by rw [Num.unhide hstep, Num.unhide HA, Num.unhide hd]; rfl)⟩
        case measure => simp [intOf]; omega
      · have hd := Num.hide (decide_eq_false ht)
        clear ht
        have hf : isTok s = false := by
          unfold isTok
          rw [Num.unhide hn (Num.unhide hd), Bool.and_false]
        rw [Num.unhide HR] at hf
        subst hf
        go_wp2_with (go_at_call 163; refine (isTokenByte_any _ _ (Num.unhide HT)).mono ?_; rintro e w' ⟨rfl, rfl⟩; rw [Num.unhide hd])
        go_ret
        exact ⟨rfl, rfl⟩
    · obtain rfl : k = s.size := by omega
      have hr := Num.unhide HR
      unfold isTok at hr
      rw [all_full s _ (Num.unhide HA), Bool.and_true] at hr
      by_cases h0 : 0 < s.size
      · rw [decide_eq_true h0] at hr
        subst hr
        have h0' := empty_false s h0
        go_wp2
        all_goals go_ret
        all_goals exact ⟨rfl, rfl⟩
      · rw [decide_eq_false h0] at hr
        subst hr
        obtain rfl : s = ⟨#[]⟩ := empty_true s (by omega)
        go_wp2
        all_goals go_ret
        all_goals exact ⟨rfl, rfl⟩
end Sign
end Go.Proofs.YtbcjpjhpobmpbaaGreatDoor
