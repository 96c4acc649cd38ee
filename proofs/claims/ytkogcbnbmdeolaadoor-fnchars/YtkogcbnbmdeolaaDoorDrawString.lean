/-
  The specification's draws of texts: what each call returns is settled by the bytes of the draw alone; and how long it is.
-/
import Derived.Test.YtkogcbnbmdeolaaDoorDrawByte
import Derived.Test.YtkogcbnbmdeolaaDoorLayRow
namespace Go.Proofs.YtkogcbnbmdeolaaDoor
open Go.RowKit
set_option linter.unusedVariables false
namespace Draw

/-- a byte of a text of that style -/
def sb (style b : Int) : Int := if style = 1 then b % 2 else if style = 2 then 97 + b % 4 else b
theorem sb_bd (style b : Int) (h0 : 0 ≤ b) (h1 : b ≤ 255) : 0 ≤ sb style b ∧ sb style b < 256 := by
  unfold sb
  split
  · omega
  · split <;> omega
def txl (l : List Int) (style : Int) : Nat → Nat × Int → List UInt8
  | 0, _ => []
  | j + 1, s => Num.byte (sb style (bv l s)) :: txl l style j (ns l s)
def txs (l : List Int) : Nat → Nat × Int → Nat × Int
  | 0, s => s
  | j + 1, s => txs l j (ns l s)
theorem length_txl (l : List Int) (style : Int) (j : Nat) (s : Nat × Int) : (txl l style j s).length = j := by
  induction j generalizing s with
  | zero => rfl
  | succ j ih => simp [txl, ih]
/-- a text of at most so many bytes, and the state behind it -/
def txt (l : List Int) (most : Int) (s : Nat × Int) : List UInt8 := txl l (blv l 4 s) (blv l (most + 1) (bls l 4 s)).toNat (bls l (most + 1) (bls l 4 s))
def txts (l : List Int) (most : Int) (s : Nat × Int) : Nat × Int := txs l (blv l (most + 1) (bls l 4 s)).toNat (bls l (most + 1) (bls l 4 s))
theorem length_txt (l : List Int) (most : Int) (s : Nat × Int) (h0 : 0 ≤ most) : (txt l most s).length ≤ most.toNat := by
  unfold txt
  rw [length_txl]
  have := blv_bd l (most + 1) (bls l 4 s) (by omega)
  omega
set_option maxRecDepth 100000 in
set_option maxHeartbeats 1000000 in
theorem text_at (B C cap : Nat) (a : Option Addr) (l : List Int) (most : Int) (w : World) (s : Nat × Int) (h : At B C cap a l w s) (hm0 : 0 ≤ most) (hm1 : most ≤ 1000000) :
    Calls Tryd.prog 46 #[.pointer (some ⟨C, 0, none⟩), .int .i64 most] w fun e w' => e = .returned (.string ⟨(txt l most s).toArray⟩) ∧ At B C cap a l w' (txts l most s) ∧ Only C w w' := by
  have hlt := h.lt
  obtain ⟨i0, hi, hz0, hz1, hz2⟩ := info_parts Mem.info5
  go_enter Tryd.func46, Tryd.ntmps46
  go_wp2_with fail
  refine (below_at B C cap a l 4 _ s (h.alloc _) (by omega)).mono ?_
  rintro e w1 ⟨rfl, h1, o1⟩
  go_wp2_with fail
  refine (below_at B C cap a l (most + 1) _ _ h1 (by omega)).mono ?_
  rintro e w2 ⟨rfl, h2, o2⟩
  have hown0 : w2.ownsRow w.heap.size 5 1 (.slice (some ⟨w.heap.size, 0, none⟩) 0 0) 0 [] :=
    o2.owns hlt (o1.owns hlt (World.ownsRow_lit (base := w.heap.size) (e := 5) (size := 1) w #[] 0 (Nat.le_refl _) (by unfold maxLen; omega) rfl))
  have hb := blv_bd l (most + 1) (bls l 4 s) (by omega)
  have hO : Only C w w2 := ((Only.refl C w).alloc _).trans (o1.trans o2)
  have htx : Hid (txt l most s = txl l (blv l 4 s) (blv l (most + 1) (bls l 4 s)).toNat (bls l (most + 1) (bls l 4 s))) := rfl
  have hts : Hid (txts l most s = txs l (blv l (most + 1) (bls l 4 s)).toNat (bls l (most + 1) (bls l 4 s))) := rfl
  generalize blv l 4 s = style at *
  generalize blv l (most + 1) (bls l 4 s) = n at *
  generalize bls l (most + 1) (bls l 4 s) = s2 at *
  clear o1 o2 h1
  go_wp2
  go_loopw [5, 7] (fun v q wr => ∃ (j : Nat) (st : Nat × Int) (out : List UInt8), j + out.length ≤ 1000000 ∧ q = .int .i64 j ∧ Hid (txt l most s = out ++ txl l style j st) ∧ Hid (txts l most s = txs l j st) ∧ At B C cap a l wr st ∧
      wr.ownsRow w.heap.size 5 1 v out.length (out.map Put.cell) ∧ Only C w wr) (fun _ q _ => (intOf q).toNat)
  case atStart => exact ⟨n.toNat, s2, [], by simp; omega, by rw [Int.toNat_of_nonneg hb.1], htx, hts, h2, hown0, hO⟩
  case round =>
    obtain ⟨j, st, out, hj, rfl, hx, hs, hA, hown, hOn⟩ := hrel
    clear h2 hown0 hO htx hts
    cases j with
    | zero =>
      have hx2 : Hid (txt l most s = out) := by show txt l most s = out; have := hx.out; simpa [txl] using this
      have hconv := Put.conv_owned hown
      clear hown
      go_wp2
      go_ret
      exact ⟨by rw [hx2.out]; rfl, by rw [hs.out]; exact hA, hOn⟩
    | succ j =>
      have bb := bv_bd l st
      have b1 := sb_bd style (bv l st) bb.1 bb.2
      have hsb : Hid (sb style (bv l st) = if style = 1 then bv l st % 2 else if style = 2 then 97 + bv l st % 4 else bv l st) := rfl
      have hj0 : (0 : Int) < ((j + 1 : Nat) : Int) := by omega
      go_wp2_with fail
      refine (byte_at B C cap a l _ st hA).mono ?_
      rintro e w3 ⟨rfl, h3, o3⟩
      have hown3 := o3.owns hlt hown
      have hsz := Nat.le_trans hOn.size o3.size
      have fin : ∀ x v' w4, x = sb style (bv l st) → w4.ownsRow w.heap.size 5 1 v' (out.length + 1) (out.map Put.cell ++ [Value.int .u8 x]) → (w3.alloc (.cells #[.int .u8 x] 5)).grownBy w4 u5.ownBlock →
          ∃ st' out', j + out'.length ≤ 1000000 ∧ Hid (txt l most s = out' ++ txl l style j st') ∧ Hid (txts l most s = txs l j st') ∧ At B C cap a l w4 st' ∧ w4.ownsRow w.heap.size 5 1 v' out'.length (out'.map Put.cell) ∧ Only C w w4 := by
        intro x v' w4 hxe hown4 hg
        have hb4 : Below w.heap.size w3 w4 := ((Below.refl _ _).alloc hsz _).grown hg (by simp; omega) (fun k hk => (hown3.lt k hk).1)
        refine ⟨ns l st, out ++ [Num.byte x], by simp; omega, ?_, hs.out, h3.under hb4 hlt, ?_, (hOn.trans o3).of_below hb4⟩
        · show txt l most s = _
          rw [hx.out, hxe, List.append_assoc]; rfl
        · rw [← Put.map_snoc out x (by rw [hxe]; exact b1.1) (by rw [hxe]; exact b1.2)]
          simpa using hown4
      by_cases s1 : style = 1
      · have c1 : (style == 1) = true := beq_iff_eq.2 s1
        have c2 : (style == 2) = false := beq_eq_false_iff_ne.2 (by omega)
        have hxe : bv l st % 2 = sb style (bv l st) := by rw [hsb.out, if_pos s1]
        have HX := Num.hide hxe
        clear s1
        have HF := Num.hide fin
        clear hxe fin hown
        go_wp2_with (at_builtin; refine wpList_append_own _ rfl _ _ 22 rfl w.heap.size 5 i0 (.int .u8 0) 1 1 Tryd.underlying22 hi hz0 hz1 hz2 rfl (by decide) _ _ _ rfl (hown3.alloc _) ⟨w3.heap.size, 0, none⟩ 1 1 [.int .u8 (bv l st % 2)] rfl rfl (Put.cells_one w3 _ 5) (Put.one_ok _) (by unfold maxLen; omega) (by omega) ?q1 ?_)
        case q1 => simp; omega
        intro v' w4 hown4 hgrow _
        obtain ⟨st', out', f1, f2, f3, f4, f5, f6⟩ := Num.unhide HF _ v' w4 (Num.unhide HX) hown4 hgrow
        clear hown4 hgrow hown3 HF
        go_wp2
        go_roundw
        case rel => exact ⟨j, st', out', f1, by go_num, f2, f3, f4, f5, f6⟩
        case measure => simp [intOf]
      · have c1 : (style == 1) = false := beq_eq_false_iff_ne.2 s1
        by_cases s2' : style = 2
        · have c2 : (style == 2) = true := beq_iff_eq.2 s2'
          have hxe : 97 + bv l st % 4 = sb style (bv l st) := by rw [hsb.out, if_neg s1, if_pos s2']
          have HX := Num.hide hxe
          clear s1 s2'
          have HF := Num.hide fin
          clear hxe fin hown
          go_wp2_with (at_builtin; refine wpList_append_own _ rfl _ _ 22 rfl w.heap.size 5 i0 (.int .u8 0) 1 1 Tryd.underlying22 hi hz0 hz1 hz2 rfl (by decide) _ _ _ rfl (hown3.alloc _) ⟨w3.heap.size, 0, none⟩ 1 1 [.int .u8 (97 + bv l st % 4)] rfl rfl (Put.cells_one w3 _ 5) (Put.one_ok _) (by unfold maxLen; omega) (by omega) ?q2 ?_)
          case q2 => simp; omega
          intro v' w4 hown4 hgrow _
          obtain ⟨st', out', f1, f2, f3, f4, f5, f6⟩ := Num.unhide HF _ v' w4 (Num.unhide HX) hown4 hgrow
          clear hown4 hgrow hown3 HF
          go_wp2
          go_roundw
          case rel => exact ⟨j, st', out', f1, by go_num, f2, f3, f4, f5, f6⟩
          case measure => simp [intOf]
        · have c2 : (style == 2) = false := beq_eq_false_iff_ne.2 s2'
          have hxe : bv l st = sb style (bv l st) := by rw [hsb.out, if_neg s1, if_neg s2']
          have HX := Num.hide hxe
          clear s1 s2'
          have HF := Num.hide fin
          clear hxe fin hown
          go_wp2_with (at_builtin; refine wpList_append_own _ rfl _ _ 22 rfl w.heap.size 5 i0 (.int .u8 0) 1 1 Tryd.underlying22 hi hz0 hz1 hz2 rfl (by decide) _ _ _ rfl (hown3.alloc _) ⟨w3.heap.size, 0, none⟩ 1 1 [.int .u8 (bv l st)] rfl rfl (Put.cells_one w3 _ 5) (Put.one_ok _) (by unfold maxLen; omega) (by omega) ?q3 ?_)
          case q3 => simp; omega
          intro v' w4 hown4 hgrow _
          obtain ⟨st', out', f1, f2, f3, f4, f5, f6⟩ := Num.unhide HF _ v' w4 (Num.unhide HX) hown4 hgrow
          clear hown4 hgrow hown3 HF
          go_wp2
          go_roundw
          case rel => exact ⟨j, st', out', f1, by go_num, f2, f3, f4, f5, f6⟩
          case measure => simp [intOf]
end Draw
end Go.Proofs.YtkogcbnbmdeolaaDoor
