/-
  The library's ParseUint at base 16, walked, for texts of at most six bytes; what was there stays.
-/
import Derived.Test.YtkenmilglfnmbaaGreatDoorBodyNum
import Derived.Test.YtkenmilglfnmbaaGreatDoorLowerNum
import Derived.Test.YtkenmilglfnmbaaGreatDoorRecs
import Derived.Laws.BitsLemmas
import Derived.BigCall
import Derived.BigGuard
namespace Go.Proofs.YtkenmilglfnmbaaGreatDoor
open Go.RowKit
set_option linter.unusedVariables false
namespace Body

theorem or_32 (c : Nat) (h : c < 256) : bits .or .u8 (c : Int) 32 = ((c ||| 32 : Nat) : Int) := by
  have h2 : c ||| 32 < 256 := Nat.or_lt_two_pow (n := 8) h (by decide)
  have := (bits_nat .u8 8 (by decide) (fun n h0 h1 => by rw [IntKind.wrap_u8]; omega) c 32 h (by decide)).2
  exact this
theorem dig_all : ∀ c : Fin 256, (48 ≤ c.1 ∧ c.1 ≤ 57 ∧ hv (c.1 : Int) = (c.1 : Int) - 48) ∨ (¬ (48 ≤ c.1 ∧ c.1 ≤ 57) ∧ 97 ≤ (c.1 ||| 32) ∧ (c.1 ||| 32) ≤ 102 ∧ c.1 ≠ 95 ∧ hv (c.1 : Int) = ((c.1 ||| 32 : Nat) : Int) - 87) ∨ (¬ (48 ≤ c.1 ∧ c.1 ≤ 57) ∧ 103 ≤ (c.1 ||| 32) ∧ (c.1 ||| 32) ≤ 122 ∧ c.1 ≠ 95 ∧ hv (c.1 : Int) = -1) ∨ (¬ (48 ≤ c.1 ∧ c.1 ≤ 57) ∧ ((c.1 ||| 32) < 97 ∨ 122 < (c.1 ||| 32)) ∧ hv (c.1 : Int) = -1) := by decide +kernel
theorem low_any (c l : Int) (h : bits .or .u8 c 32 = l) (w : World) : Calls Tryz.prog 134 #[.int .u8 c] w fun e w' => e = .returned (.int .u8 l) ∧ w = w' := by
  go_enter Tryz.func134, Tryz.ntmps134
  go_wp2
  go_ret
  exact ⟨rfl, rfl⟩
theorem dig (c : Nat) (h : c < 256) : ∃ l : Int, bits .or .u8 (c : Int) 32 = l ∧ 0 ≤ l ∧ l < 256 ∧ ((48 ≤ c ∧ c ≤ 57 ∧ hv (c : Int) = (c : Int) - 48) ∨ (¬ (48 ≤ c ∧ c ≤ 57) ∧ 97 ≤ l ∧ l ≤ 102 ∧ c ≠ 95 ∧ hv (c : Int) = l - 87) ∨ (¬ (48 ≤ c ∧ c ≤ 57) ∧ 103 ≤ l ∧ l ≤ 122 ∧ c ≠ 95 ∧ hv (c : Int) = -1) ∨ (¬ (48 ≤ c ∧ c ≤ 57) ∧ (l < 97 ∨ 122 < l) ∧ hv (c : Int) = -1)) := by
  have h2 : c ||| 32 < 256 := Nat.or_lt_two_pow (n := 8) h (by decide)
  refine ⟨_, or_32 c h, by omega, by omega, ?_⟩
  have := dig_all ⟨c, h⟩
  simp only at this
  rcases this with ⟨a, b, d⟩ | ⟨a, b, d, e, f⟩ | ⟨a, b, d, e, f⟩ | ⟨a, b, d⟩
  · exact .inl ⟨a, b, d⟩
  · exact .inr (.inl ⟨a, by omega, by omega, e, f⟩)
  · exact .inr (.inr (.inl ⟨a, by omega, by omega, e, f⟩))
  · exact .inr (.inr (.inr ⟨a, by omega, d⟩))
/-- so many bytes are read, and this is their number -/
structure RhAt (s : ByteArray) (k : Nat) (x : Int) : Prop where
  val : hexVal (s.data.toList.take k) = x
  all : (s.data.toList.take k).all isHex = true
theorem rh_at0 (s : ByteArray) : RhAt s 0 0 := ⟨rfl, rfl⟩
theorem rh_bd {s : ByteArray} {k : Nat} {x : Int} (h : RhAt s k x) (hk : k ≤ s.size) : 0 ≤ x ∧ (k ≤ 6 → x ≤ 16777215) ∧ (k ≤ 5 → x ≤ 1048575) := by
  have hb := hexVal_bd _ h.all
  have hl : (s.data.toList.take k).length = k := by rw [List.length_take, Array.length_toList]; exact Nat.min_eq_left hk
  rw [h.val, hl] at hb
  refine ⟨hb.1, fun h6 => ?_, fun h5 => ?_⟩
  · have := Num.pow_up 16 k 6 (by decide) h6
    have h2 : ((16 : Nat) : Int) ^ 6 = 16777216 := by decide
    have h3 : ((16 : Nat) : Int) = 16 := rfl
    rw [h2, h3] at this
    omega
  · have := Num.pow_up 16 k 5 (by decide) h5
    have h2 : ((16 : Nat) : Int) ^ 5 = 1048576 := by decide
    have h3 : ((16 : Nat) : Int) = 16 := rfl
    rw [h2, h3] at this
    omega
theorem rh_next {s : ByteArray} {k : Nat} {x d : Int} (h : RhAt s k x) (hk : k < s.size) (hd : hv ((s[k]).toNat : Int) = d) (h0 : 0 ≤ d) : RhAt s (k + 1) (x * 16 + d) := by
  refine ⟨by rw [hexVal_take s k hk, h.val, hd], ?_⟩
  rw [Num.take_snoc s k hk, List.all_append, h.all, Bool.true_and]
  simp only [List.all_cons, List.all_nil, Bool.and_true]
  unfold isHex
  rw [hd]
  exact decide_eq_true h0
theorem rh_done {s : ByteArray} {x : Int} (h : RhAt s s.size x) (h1 : 1 ≤ s.size) (h6 : s.size ≤ 6) : readHex s = some x := by
  have e : s.data.toList.take s.size = s.data.toList := List.take_of_length_le (by rw [Array.length_toList]; exact Nat.le_refl _)
  unfold readHex
  have h2 := h.all
  have h3 := h.val
  rw [e] at h2 h3
  rw [if_pos ⟨h2, h1, h6⟩, h3]
theorem rh_empty {s : ByteArray} (h : s.size = 0) : readHex s = none := by
  unfold readHex
  rw [if_neg (by omega)]
theorem rh_long {s : ByteArray} (h : 6 < s.size) : readHex s = none := by
  unfold readHex
  rw [if_neg (by omega)]
/-- the library's error, or none -/
def rhE (s : ByteArray) : Value := if rhB s = true then .nilIface else .iface 152 (.int .i64 2)
set_option maxRecDepth 100000 in
set_option maxHeartbeats 2000000 in
theorem parse16 (s : ByteArray) (w : World) (h6 : s.size ≤ 6) :
    Calls Tryz.prog 87 #[.string s, .int .i64 16, .int .i64 64] w fun e w' => e = .returned (.tuple #[.int .u64 (rhN s), rhE s]) ∧ Below w.heap.size w w' := by
  obtain ⟨N, hN⟩ : ∃ N, rhN s = N := ⟨_, rfl⟩
  obtain ⟨E, hE⟩ : ∃ E, rhE s = E := ⟨_, rfl⟩
  rw [hN, hE]
  have HE : Hid (readHex s = none → N = 0 ∧ E = .iface 152 (.int .i64 2)) := fun h => by
    obtain ⟨h1, h2⟩ := rh_none h
    unfold rhE at hE
    rw [h2] at hE
    exact ⟨hN.symm.trans h1, hE.symm⟩
  have HF : Hid (∀ v, readHex s = some v → N = v ∧ E = .nilIface) := fun v h => by
    have h1 : rhN s = v := by unfold rhN; rw [h]; rfl
    have h2 : rhB s = true := by unfold rhB; rw [h]; rfl
    unfold rhE at hE
    rw [h2] at hE
    exact ⟨hN.symm.trans h1, hE.symm⟩
  clear hN hE
  by_cases h0 : s.size = 0
  · obtain ⟨rfl, rfl⟩ := Num.unhide HE (rh_empty h0)
    obtain rfl : s = ⟨#[]⟩ := Sign.empty_true _ h0
    go_enter Tryz.func87, Tryz.ntmps87
    go_wp2
    go_ret2
    exact ⟨rfl, Below.refl _ _⟩
  · have hne := Sign.empty_false s (by omega)
    have hconv := Lib.run_convert_string_bytes (P := Tryz.prog) w 9 22 5 s (u := .string) Tryz.underlying9 Tryz.underlying22 Tryz.underlying5
    have hP := Num.hide (Sign.bytes_part w 5 s)
    have hB := Num.hide (Sign.bytes_below w 5 s)
    generalize Lib.bytesWorld w 5 s = W0 at hconv hP hB
    generalize grownCap w s.size 0 5 = cap at hconv
    have hM : IntKind.u64.wrap (IntKind.u64.wrap 18446744073709551616 - 1) = 18446744073709551615 := by decide
    go_enter Tryz.func87, Tryz.ntmps87
    go_wp2
    clear hconv hM
    go_loop [12, 13, 101] (fun uv nv iv => ∃ (k : Nat) (x : Int), k ≤ s.size ∧ uv = .bool false ∧ nv = .int .u64 x ∧ iv = .int .i64 (k : Int) ∧ Hid (RhAt s k x)) (fun _ _ iv => s.size - (intOf iv).toNat)
    case atStart => exact ⟨0, 0, by omega, rfl, rfl, rfl, rh_at0 s⟩
    case round =>
      obtain ⟨k, x, hk, rfl, rfl, rfl, HA⟩ := hrel
      by_cases hlt : k < s.size
      · have hcell := hP.out.todo k hlt (Nat.zero_le _)
        have hc256 : (s[k]).toNat < 256 := (s[k]).toNat_lt
        have HNx := Num.hide (fun d => rh_next (d := d) HA.out hlt)
        have HBd := Num.hide (rh_bad s k hlt)
        obtain ⟨hx0, _, hx1⟩ := rh_bd HA.out hk
        have hx5 := hx1 (by omega)
        clear hx1
        obtain ⟨l, hl, hl0, hl1, hcs⟩ := dig _ hc256
        have HL := Num.hide (low_any _ l hl)
        clear hl
        generalize (s[k]).toNat = c at hcell hc256 HNx HBd HL hcs
        have hg1 : decide ((1152921504606846976 : Int) ≤ x) = false := by simp; omega
        rcases hcs with ⟨a, b, d⟩ | ⟨a, b, d, e, f⟩ | ⟨a, b, d, e, f⟩ | ⟨a, b, d⟩
        · have q1 : ((c : Int) == 95) = false := by simp; omega
          have q2 : decide ((48 : Int) ≤ (c : Int)) = true := by simp; omega
          have q3 : decide ((c : Int) ≤ 57) = true := by simp; omega
          have q4 : decide ((18446744073709551615 : Int) < x * 16 + ((c : Int) - 48)) = false := by simp; omega
          have HA2 := Num.hide (HNx.out _ d (by omega))
          go_wp2
          go_round
          case rel => exact ⟨k + 1, _, by omega, rfl, rfl, by go_num, HA2⟩
          case measure => simp [intOf]; omega
        · have q1 : ((c : Int) == 95) = false := by simp; omega
          have q4 : decide ((18446744073709551615 : Int) < x * 16 + (l - 97 + 10)) = false := by simp; omega
          have q5 : decide ((97 : Int) ≤ l) = true := by simp; omega
          have q6 : decide (l ≤ 122) = true := by simp; omega
          have q7 : decide ((16 : Int) ≤ l - 97 + 10) = false := by simp; omega
          have HA2 : Hid (RhAt s (k + 1) (x * 16 + (l - 97 + 10))) := HNx.out _ (by rw [f]; omega) (by omega)
          by_cases q2 : decide ((48 : Int) ≤ (c : Int)) = true
          · have q3 : decide ((c : Int) ≤ 57) = false := by simp at q2 ⊢; omega
            go_wp2_with (go_at_call 134; refine (HL.out _).mono ?_; rintro e w' ⟨rfl, rfl⟩)
            go_round
            case rel => exact ⟨k + 1, _, by omega, rfl, rfl, by go_num, HA2⟩
            case measure => simp [intOf]; omega
          · have q2 : decide ((48 : Int) ≤ (c : Int)) = false := by simp at q2 ⊢; omega
            go_wp2_with (go_at_call 134; refine (HL.out _).mono ?_; rintro e w' ⟨rfl, rfl⟩)
            go_round
            case rel => exact ⟨k + 1, _, by omega, rfl, rfl, by go_num, HA2⟩
            case measure => simp [intOf]; omega
        · have q1 : ((c : Int) == 95) = false := by simp; omega
          have q5 : decide ((97 : Int) ≤ l) = true := by simp; omega
          have q6 : decide (l ≤ 122) = true := by simp; omega
          have q7 : decide ((16 : Int) ≤ l - 97 + 10) = true := by simp; omega
          obtain ⟨rfl, rfl⟩ := Num.unhide HE (HBd.out f)
          by_cases q2 : decide ((48 : Int) ≤ (c : Int)) = true
          · have q3 : decide ((c : Int) ≤ 57) = false := by simp at q2 ⊢; omega
            go_wp2_with (go_at_call 134; refine (HL.out _).mono ?_; rintro e w' ⟨rfl, rfl⟩)
            go_ret2
            exact ⟨rfl, hB.out⟩
          · have q2 : decide ((48 : Int) ≤ (c : Int)) = false := by simp at q2 ⊢; omega
            go_wp2_with (go_at_call 134; refine (HL.out _).mono ?_; rintro e w' ⟨rfl, rfl⟩)
            go_ret2
            exact ⟨rfl, hB.out⟩
        · obtain ⟨rfl, rfl⟩ := Num.unhide HE (HBd.out d)
          by_cases q1 : ((c : Int) == 95) = true
          · have q2 : decide ((48 : Int) ≤ (c : Int)) = true := by simp at q1 ⊢; omega
            have q3 : decide ((c : Int) ≤ 57) = false := by simp at q1 ⊢; omega
            rcases b with b | b
            · have q5 : decide ((97 : Int) ≤ l) = false := by simp; omega
              go_wp2_with (go_at_call 134; refine (HL.out _).mono ?_; rintro e w' ⟨rfl, rfl⟩)
              go_ret2
              exact ⟨rfl, hB.out⟩
            · have q5 : decide ((97 : Int) ≤ l) = true := by simp; omega
              have q6 : decide (l ≤ 122) = false := by simp; omega
              go_wp2_with (go_at_call 134; refine (HL.out _).mono ?_; rintro e w' ⟨rfl, rfl⟩)
              go_ret2
              exact ⟨rfl, hB.out⟩
          · have q1 : ((c : Int) == 95) = false := by simp at q1 ⊢; omega
            by_cases q2 : decide ((48 : Int) ≤ (c : Int)) = true
            · have q3 : decide ((c : Int) ≤ 57) = false := by simp at q2 ⊢; omega
              rcases b with b | b
              · have q5 : decide ((97 : Int) ≤ l) = false := by simp; omega
                go_wp2_with (go_at_call 134; refine (HL.out _).mono ?_; rintro e w' ⟨rfl, rfl⟩)
                go_ret2
                exact ⟨rfl, hB.out⟩
              · have q5 : decide ((97 : Int) ≤ l) = true := by simp; omega
                have q6 : decide (l ≤ 122) = false := by simp; omega
                go_wp2_with (go_at_call 134; refine (HL.out _).mono ?_; rintro e w' ⟨rfl, rfl⟩)
                go_ret2
                exact ⟨rfl, hB.out⟩
            · have q2 : decide ((48 : Int) ≤ (c : Int)) = false := by simp at q2 ⊢; omega
              rcases b with b | b
              · have q5 : decide ((97 : Int) ≤ l) = false := by simp; omega
                go_wp2_with (go_at_call 134; refine (HL.out _).mono ?_; rintro e w' ⟨rfl, rfl⟩)
                go_ret2
                exact ⟨rfl, hB.out⟩
              · have q5 : decide ((97 : Int) ≤ l) = true := by simp; omega
                have q6 : decide (l ≤ 122) = false := by simp; omega
                go_wp2_with (go_at_call 134; refine (HL.out _).mono ?_; rintro e w' ⟨rfl, rfl⟩)
                go_ret2
                exact ⟨rfl, hB.out⟩
      · obtain rfl : k = s.size := by omega
        obtain ⟨rfl, rfl⟩ := Num.unhide HF _ (rh_done HA.out (by omega) h6)
        go_wp2
        go_ret2
        exact ⟨rfl, hB.out⟩
end Body
end Go.Proofs.YtkenmilglfnmbaaGreatDoor
