/-
  HexNumImpl: HexNum of the program: the library's FormatInt at base 16, walked; what was there stays.
-/
import Derived.Test.YtkenmilglfnmbaaGreatDoorBodyNum
import Derived.Test.YtkenmilglfnmbaaGreatDoorRecs
import Derived.Test.YtkenmilglfnmbaaGreatDoorProg
import Derived.WalkKit
import Derived.BigCall
import Derived.BigGuard
import Derived.Laws.BitsLemmas
import Derived.Laws.IdiomStrings
import Derived.Lib.ItoaMem
namespace Go.Proofs.YtkenmilglfnmbaaGreatDoor
open Go.RowKit
set_option linter.unusedVariables false
namespace Body

/-- the library's table says of 16 that it has four noughts at its end -/
def Tz (w : World) : Prop := w.cell? ⟨7, 15, none⟩ = some (.int .u8 4)
theorem tz_lt {w : World} (h : Tz w) : 7 < w.heap.size := Recs.lt_of_cell h
theorem tz_below {w w' : World} {B : Nat} (h : Tz w) (hb : Below B w w') (hB : 7 < B) : Tz w' := (hb.cell (p := ⟨7, 15, none⟩) hB).trans h
theorem Tz.below {w w' : World} (h : Tz w) (hb : Below w.heap.size w w') : Tz w' := tz_below h hb (tz_lt h)
set_option maxRecDepth 100000 in
theorem tz64 (w : World) (h : Tz w) : Calls Tryz.prog 193 #[.int .u64 16] w fun e w' => e = .returned (.int .i64 4) ∧ w = w' := by
  unfold Tz at h
  have hb : (IntKind.u64.wrap (bits .and .u64 16 (IntKind.u64.wrap (-16)) * 285870213051353865) / 288230376151711744).toNat = 15 := by decide
  go_enter Tryz.func193, Tryz.ntmps193
  go_wp2
  go_ret
  exact ⟨rfl, rfl⟩
theorem tz (w : World) (h : Tz w) : Calls Tryz.prog 175 #[.int .u64 16] w fun e w' => e = .returned (.int .i64 4) ∧ w = w' := by
  have HT := Num.hide (tz64 w h)
  clear h
  go_enter Tryz.func175, Tryz.ntmps175
  go_wp2_with fail
  refine HT.out.mono ?_
  rintro e w1 ⟨rfl, rfl⟩
  go_wp2
  go_ret
  exact ⟨rfl, rfl⟩
theorem pow2 (w : World) : Calls Tryz.prog 174 #[.int .i64 16] w fun e w' => e = .returned (.bool true) ∧ w = w' := by
  have hb : bits .and .i64 16 15 = 0 := by decide
  go_enter Tryz.func174, Tryz.ntmps174
  go_wp2
  go_ret
  exact ⟨rfl, rfl⟩
/-- the last places of a row of bytes hold these -/
structure Tail (b : Nat) (w : World) (i : Nat) (l : List UInt8) : Prop where
  len : i + l.length = 65
  is : ∀ j, j < 65 → ∃ c, w.cell? ⟨b, j, none⟩ = some (.int .u8 c)
  free : ∀ j, w.frozen? ⟨b, j, none⟩ = false
  at_ : ∀ j (h : j < l.length), w.cell? ⟨b, i + j, none⟩ = some (.int .u8 (l[j].toNat : Int))
theorem tail_put {b i : Nat} {w : World} {l : List UInt8} (h : Tail b w (i + 1) l) (c : UInt8) (x : Int) (hx : x = (c.toNat : Int)) : Tail b (w.setCell ⟨b, i, none⟩ (.int .u8 x)) i (c :: l) := by
  have hl := h.len
  obtain ⟨c0, h0⟩ := h.is i (by omega)
  subst hx
  refine ⟨by simp; omega, fun j hj => ?_, fun j => by rw [World.frozen?_setCell]; exact h.free j, fun j hj => ?_⟩
  · by_cases e : j = i
    · subst e
      exact ⟨_, World.cell?_setCell_same' _ _ _ (by rw [h0]; rfl)⟩
    · rw [World.cell?_setCell_other _ _ _ _ (by simp <;> omega)]
      exact h.is j hj
  · cases j with
    | zero => exact World.cell?_setCell_same' _ _ _ (by rw [h0]; rfl)
    | succ j =>
      rw [World.cell?_setCell_other _ _ _ _ (by simp), show i + (j + 1) = (i + 1) + j by omega]
      exact h.at_ j (by simpa using hj)
theorem tail_new (w : World) : Tail w.heap.size (w.alloc (.cells (Array.replicate 65 (.int .u8 0)) 189)) 65 [] := by
  refine ⟨rfl, fun j hj => ⟨0, ?_⟩, fun j => World.frozen?_alloc_new _ _ _ _, fun j hj => by simp at hj⟩
  rw [World.cell?_alloc_new]
  simp [hj]
/-- where a number stands in the loop: the digits that are left, and those that are laid -/
def HxAt (n u : Nat) (l : List UInt8) : Prop := (n = 0 → u = 0 ∧ l = []) ∧ (n ≠ 0 → u ≠ 0 ∧ dh u ++ l = dh n) ∧ u * 16 ^ l.length ≤ n
theorem hx_start (n : Nat) : HxAt n n [] := ⟨fun h => ⟨h, rfl⟩, fun h => ⟨h, List.append_nil _⟩, by simp⟩
theorem hx_next {n u : Nat} {l : List UInt8} (h : HxAt n u l) (hu : 16 ≤ u) (hb : u < 16 ^ 16) : HxAt n (u / 16) (Hex.hx (u % 16) :: l) := by
  obtain ⟨h1, h2, h3⟩ := h
  refine ⟨fun e => by have := (h1 e).1; omega, fun e => ⟨by omega, ?_⟩, ?_⟩
  · rw [← (h2 e).2, dh_step u (by omega) hb, List.append_assoc]
    rfl
  · rw [List.length_cons, Nat.pow_succ]
    have : u / 16 * 16 ≤ u := Nat.div_mul_le_self u 16
    calc u / 16 * (16 ^ l.length * 16) = (u / 16 * 16) * 16 ^ l.length := by rw [Nat.mul_comm (16 ^ l.length) 16, Nat.mul_assoc]
      _ ≤ u * 16 ^ l.length := Nat.mul_le_mul_right _ this
      _ ≤ n := h3
theorem hx_short {n u : Nat} {l : List UInt8} (h : HxAt n u l) (hn : n < 16 ^ 16) (hu : 16 ≤ u) : l.length < 16 := by
  obtain ⟨h1, h2, h3⟩ := h
  apply Decidable.byContradiction
  intro hc
  have : 16 ^ 16 ≤ 16 ^ l.length := Nat.pow_le_pow_right (by omega) (by omega)
  have h4 : 16 * 16 ^ 16 ≤ u * 16 ^ l.length := Nat.mul_le_mul hu this
  omega
theorem hx_len {n u : Nat} {l : List UInt8} (h : HxAt n u l) (hn : n < 16 ^ 16) : l.length ≤ 16 := by
  obtain ⟨h1, h2, h3⟩ := h
  by_cases e : n = 0
  · rw [(h1 e).2]; exact Nat.zero_le _
  · have e3 := (h2 e).2
    have := dh_len n
    rw [← e3, List.length_append] at this
    omega
theorem hx_done {n u : Nat} {l : List UInt8} (h : HxAt n u l) (hu : u < 16) : Hex.hx u :: l = hexL (n : Int) := by
  obtain ⟨h1, h2, h3⟩ := h
  unfold hexL
  rw [if_neg (by omega)]
  by_cases e : n = 0
  · obtain ⟨rfl, rfl⟩ := h1 e
    subst e
    rfl
  · rw [if_neg (by omega)]
    obtain ⟨e1, e2⟩ := h2 e
    rw [Int.toNat_natCast, ← e2, dh_step u e1 (by omega), show u / 16 = 0 by omega, show u % 16 = u by omega, dh_zero]
    rfl
def digs : ByteArray := ⟨#[48, 49, 50, 51, 52, 53, 54, 55, 56, 57, 97, 98, 99, 100, 101, 102, 103, 104, 105, 106, 107, 108, 109, 110, 111, 112, 113, 114, 115, 116, 117, 118, 119, 120, 121, 122]⟩
theorem digs_at (k : Nat) (h : k < 16) : (⟨#[48, 49, 50, 51, 52, 53, 54, 55, 56, 57, 97, 98, 99, 100, 101, 102, 103, 104, 105, 106, 107, 108, 109, 110, 111, 112, 113, 114, 115, 116, 117, 118, 119, 120, 121, 122]⟩ : ByteArray)[k]'(Nat.lt_of_lt_of_le h (by decide)) = Hex.hx k := by
  have := (by decide : ∀ k : Fin 16, (digs[k.1]'(Nat.lt_of_lt_of_le k.2 (by decide))) = Hex.hx k.1) ⟨k, h⟩
  exact this
theorem and_15 (n : Nat) (h : n < 18446744073709551616) : bits .and .u64 (n : Int) 15 = ((n % 16 : Nat) : Int) := by
  have := bits_mask .u64 64 (by decide) (fun n h0 h1 => by rw [IntKind.wrap_u64]; omega) 4 (by decide) (n : Int) (by omega) (by omega)
  rw [show ((2 : Int) ^ 4 - 1) = 15 by decide] at this
  rw [this]
  omega
set_option maxRecDepth 100000 in
set_option maxHeartbeats 2000000 in
theorem bits16 (n : Nat) (hn : n < 9223372036854775808) (w : World) (h : Tz w) :
    Calls Tryz.prog 143 #[.slice none 0 0, .int .u64 (n : Int), .int .i64 16, .bool false, .bool false] w fun e w' => ∃ v, e = .returned (.tuple #[v, .string (hexNum (n : Int))]) ∧ Below w.heap.size w w' := by
  have HP := Num.hide (fun W => pow2 W)
  have HT := Num.hide (fun W => tz W)
  have HZ := Num.hide h
  have hlt := tz_lt h
  obtain ⟨r, hr⟩ : ∃ r, hexNum (n : Int) = r := ⟨_, rfl⟩
  rw [hr]
  have HR := Num.hide hr
  clear h hr
  go_enter Tryz.func143, Tryz.ntmps143
  go_wp2_with fail
  refine (HP.out _).mono ?_
  rintro e w1 ⟨rfl, rfl⟩
  go_wp2_with fail
  refine (HT.out _ ?_).mono ?_
  · exact tz_below HZ.out ((Below.refl w.heap.size w).alloc (Nat.le_refl _) _) hlt
  rintro e w1 ⟨rfl, rfl⟩
  go_wp2
  go_loopw [1, 13] (fun uv iv wr => ∃ (u i : Nat) (l : List UInt8), uv = .int .u64 (u : Int) ∧ iv = .int .i64 (i : Int) ∧ u < 9223372036854775808 ∧ Hid (HxAt n u l) ∧ Hid (Tail w.heap.size wr i l) ∧ Hid (Below w.heap.size w wr)) (fun uv _ _ => (intOf uv).toNat)
  case atStart => exact ⟨n, 65, [], rfl, rfl, hn, hx_start n, tail_new w, (Below.refl _ w).alloc (Nat.le_refl _) _⟩
  case round =>
    obtain ⟨u, i, l, rfl, rfl, hu9, HA, HT2, HB⟩ := hrel
    have hln := HT2.out.len
    by_cases hu : 16 ≤ u
    · have hd : decide ((16 : Int) ≤ (u : Int)) = true := by simp; omega
      have hsh := hx_short HA.out (Nat.lt_of_lt_of_le hn (by decide)) hu
      obtain ⟨k, rfl⟩ : ∃ k, i = k + 1 := ⟨i - 1, by omega⟩
      obtain ⟨c0, hc0⟩ := HT2.out.is k (by omega)
      have hf0 := HT2.out.free k
      have ha := and_15 u (by omega)
      have hx := digs_at (u % 16) (by omega)
      go_wp2
      go_roundw
      case rel => exact ⟨u / 16, k, _, by simp, rfl, by omega, hx_next HA.out hu (Nat.lt_trans hu9 (by decide)), tail_put HT2.out (Hex.hx (u % 16)) _ rfl, HB.out.setCell (p := ⟨w.heap.size, k, none⟩) (Nat.le_refl _) _⟩
      case measure => simp [intOf]; omega
    · have hd : decide ((16 : Int) ≤ (u : Int)) = false := by simp; omega
      obtain ⟨k, rfl⟩ : ∃ k, i = k + 1 := ⟨i - 1, by have := hx_len HA.out (Nat.lt_of_lt_of_le hn (by decide)); omega⟩
      obtain ⟨c0, hc0⟩ := HT2.out.is k (by omega)
      have hf0 := HT2.out.free k
      have hx := digs_at u (by omega)
      have HQ := Num.hide (tail_put HT2.out (Hex.hx u) _ rfl)
      have HB2 := Num.hide (HB.out.setCell (p := ⟨w.heap.size, k, none⟩) (Nat.le_refl _) (.int .u8 ((Hex.hx u).toNat : Int)))
      have HD := Num.hide (hx_done HA.out (by omega : u < 16))
      have hsl : ∀ W, (Instr.sliceAt 189 (.pointer (some ⟨w.heap.size, 0, none⟩)) (some (.int .i64 (k : Int))) none none).run Tryz.prog W = .ok (.slice (some ⟨w.heap.size, k, none⟩) (65 - k) (65 - k)) W := fun W => by
        have hal : Tryz.prog.arrayLen 189 = 65 := by simp [Program.arrayLen, Tryz.underlying189]
        rw [run_sliceAt_array_l W 189 ⟨w.heap.size, 0, none⟩ (by simp [Program.arrayLen, Program.elem, Tryz.underlying189]) .i64 (k : Int) (by omega) (by rw [hal]; omega), hal]
        go_simp
        omega
      have hcv := run_convert_bytes_back (P := Tryz.prog) (wr.setCell ⟨w.heap.size, k, none⟩ (.int .u8 ((Hex.hx u).toNat : Int))) 22 9 5 ⟨w.heap.size, k, none⟩ (65 - k) (Hex.hx u :: l) Tryz.underlying22 Tryz.underlying5 Tryz.underlying9 (fun j hj => by rw [Lib.add_plain]; exact HQ.out.at_ j hj)
      rw [show (Hex.hx u :: l).length = 65 - k by simp; omega, HD.out] at hcv
      have he : (⟨(hexL (n : Int)).toArray⟩ : ByteArray) = r := HR.out
      rw [he] at hcv
      clear he
      go_wp2
      go_ret2
      exact ⟨⟨_, rfl⟩, HB2.out⟩
set_option maxRecDepth 100000 in
set_option maxHeartbeats 2000000 in
theorem format16 (n : Nat) (hn : n < 9223372036854775808) (w : World) (h : Tz w) :
    Calls Tryz.prog 89 #[.int .i64 (n : Int), .int .i64 16] w fun e w' => e = .returned (.string (hexNum (n : Int))) ∧ Below w.heap.size w w' := by
  have HC := Num.hide (bits16 n hn w h)
  have hw : IntKind.u64.wrap (n : Int) = (n : Int) := by rw [IntKind.wrap_u64]; omega
  have hd : decide ((n : Int) < 0) = false := by simp
  clear h
  go_enter Tryz.func89, Tryz.ntmps89
  go_wp2_with fail
  refine HC.out.mono ?_
  rintro e w1 ⟨v, rfl, hb⟩
  have HB := Num.hide hb
  clear hb
  go_wp2
  go_ret
  exact ⟨rfl, HB.out⟩
theorem hexNum_impl (n : Int) (w : World) (hn : n ≤ 9223372036854775807) (h : Tz w) :
    Calls Tryz.prog 14 #[.int .i64 n] w fun e w' => e = .returned (.string (hexNum n)) ∧ Below w.heap.size w w' := by
  by_cases h0 : n < 0
  · have hd : decide (n < 0) = true := by simp; omega
    have hr : hexNum n = ⟨#[]⟩ := by unfold hexNum hexL; rw [if_pos h0]
    rw [hr]
    clear hr h
    go_enter Tryz.func14, Tryz.ntmps14
    go_wp2
    go_ret
    exact ⟨rfl, Below.refl _ _⟩
  · obtain ⟨k, rfl⟩ : ∃ k : Nat, n = k := ⟨n.toNat, by omega⟩
    have HC := Num.hide (format16 k (by omega) w h)
    have hd : decide ((k : Int) < 0) = false := by simp
    clear h
    obtain ⟨r, hr⟩ : ∃ r, hexNum (k : Int) = r := ⟨_, rfl⟩
    rw [hr] at HC ⊢
    clear hr
    have HF : Hid (Calls Tryz.prog 47 #[.int .i64 (k : Int), .int .i64 16] w fun e w' => e = .returned (.string r) ∧ Below w.heap.size w w') := by
      go_enter Tryz.func47, Tryz.ntmps47
      go_wp2_with fail
      refine HC.out.mono ?_
      rintro e w1 ⟨rfl, hb⟩
      have HB := Num.hide hb
      clear hb
      go_wp2
      go_ret
      exact ⟨rfl, HB.out⟩
    clear HC
    go_enter Tryz.func14, Tryz.ntmps14
    go_wp2_with fail
    refine HF.out.mono ?_
    rintro e w1 ⟨rfl, hb⟩
    have HB := Num.hide hb
    clear hb
    go_wp2
    go_ret
    exact ⟨rfl, HB.out⟩
end Body
end Go.Proofs.YtkenmilglfnmbaaGreatDoor
