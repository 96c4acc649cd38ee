/-
  FitsSpec: VaryFits of the specification.
  VaryFitsLaw: FnExactVaryFits, whatever the program's VaryFits keeps to: it answers as the specification's and leaves its arguments as they were.
-/
import Derived.Test.YtkogcbnbmdeolaaDoorPam
import Derived.Test.YtkogcbnbmdeolaaDoorPaq
import Derived.Deep.Cut
import Derived.Test.YtkogcbnbmdeolaaDoorPan
import Derived.Test.YtkogcbnbmdeolaaDoorPae
import Derived.Test.YtkogcbnbmdeolaaDoorPaf
import Derived.Test.YtkogcbnbmdeolaaDoorPad
import Derived.Test.YtkogcbnbmdeolaaDoorFldEq
import Derived.Test.YtkogcbnbmdeolaaDoorPag
namespace Go.Proofs.YtkogcbnbmdeolaaDoor
open Go.RowKit
set_option linter.unusedVariables false
set_option linter.unusedSimpArgs false
namespace Vary
open Flds (Fld)

set_option maxRecDepth 100000 in
set_option maxHeartbeats 2000000 in
theorem varyFits_spec (m u : ByteArray) (st : Int) (v1 v2 v3 : Value) (l1 l2 l3 : List Fld) (b1 b2 : ByteArray) (w : World) (h1 : Flds.Is w v1 l1) (h2 : Flds.Is w v2 l2) (h3 : Flds.Is w v3 l3) (hl1 : Flds.bulk l1 ≤ 1048576) (hl2 : Flds.bulk l2 ≤ 1048576) (hl3 : Flds.bulk l3 ≤ 1048576) :
    Calls Tryd.prog 42 #[Req.val m u v1 b1, Resp.val st v2 b2, v3] w fun e w' => e = .returned (.bool (decide (picked l1 l2 = l3))) ∧ Below w.heap.size w w' := by
  have K0 := Num.hide (Pol.pat_first w m u v1 l1 b1 st v2 l2 b2 h1 h2)
  have I3 := Num.hide (Recs.is_below h3 K0.out.2.2.2.2.2.2.2.2.2)
  have HP := Num.hide (fun W h1 h2 => picked_spec m u st v1 v2 l1 l2 b1 b2 W h1 h2 hl1 hl2)
  have hlen : (picked l1 l2).length ≤ 1099511627776 := by
    have h := names_len (Sign.split (Flds.get l2 varyName).1)
    have h2 := Cc.split_len (Flds.get l2 varyName).1
    have h3 := Cc.get_bulk l2 varyName (by decide)
    have h4 := pick_len l1 (varyNames l2)
    unfold picked
    unfold varyNames at *
    omega
  generalize picked l1 l2 = P at HP hlen ⊢
  obtain ⟨av1, cv1, rfl, _⟩ := Flds.is_form h1
  obtain ⟨av2, cv2, rfl, _⟩ := Flds.is_form h2
  unfold Req.val Resp.val at HP ⊢
  clear h1 h2 h3
  go_enter Tryd.func42, Tryd.ntmps42
  go_upto_region 1 with fail
  generalize (w.alloc (.cells #[.string m, .string u, .slice av1 l1.length cv1, .string b1] 32)).alloc (.cells #[.int .i64 st, .slice av2 l2.length cv2, .string b2] 34) = w0 at K0 I3 ⊢
  obtain ⟨c0, c1, c2, c3, c4, c5, c6, -, -, -⟩ := K0.out
  go_wp2_with fail
  refine (HP.out _ K0.out.2.2.2.2.2.2.2.1 K0.out.2.2.2.2.2.2.2.2.1).mono ?_
  rintro e w1 ⟨v', rfl, ho, hb⟩
  have IP := Num.hide (Recs.own_is Flds.cells_len ho)
  have J3 := Num.hide (Recs.is_below I3.out hb)
  have HB := Num.hide (K0.out.2.2.2.2.2.2.2.2.2.trans (hb.mono K0.out.2.2.2.2.2.2.2.2.2.size))
  clear ho hb c0 c1 c2 c3 c4 c5 c6 K0 I3
  go_wp2_with fail
  refine (Flds.same_spec_b _ _ _ _ _ IP.out J3.out hlen).mono ?_
  rintro e w2 ⟨rfl, hb⟩
  have HB2 := Num.hide (HB.out.trans (hb.mono HB.out.size))
  clear hb
  go_wp2
  go_ret
  exact ⟨rfl, HB2.out⟩
end Vary
end Go.Proofs.YtkogcbnbmdeolaaDoor
namespace Go.Proofs.YtkogcbnbmdeolaaDoor
open Go.RowKit
set_option linter.unusedVariables false
set_option linter.unusedSimpArgs false
namespace Vary

set_option maxRecDepth 100000 in
set_option maxHeartbeats 16000000 in
theorem varyFits_law (G : World → Prop) (hG : ∀ W W', G W → Below W.heap.size W W' → G W')
    (hi : ∀ (m0 q0 : ByteArray) (v0 : Value) (l0 : List Flds.Fld) (b0 : ByteArray) (s1 : Int) (v1 : Value) (l1 : List Flds.Fld) (b1 : ByteArray) (v2 : Value) (l2 : List Flds.Fld) (W : World), Flds.Is W v0 l0 → Flds.Is W v1 l1 → Flds.Is W v2 l2 → m0.size + q0.size + Flds.bulk l0 + b0.size ≤ 1048576 → Flds.bulk l1 + b1.size ≤ 1048576 → Flds.bulk l2 ≤ 1048576 → G W → Calls Tryd.prog 23 #[(Req.val m0 q0 v0 b0), (Resp.val s1 v1 b1), v2] W fun e w' => e = .returned (.bool (decide (picked l0 l1 = l2))) ∧ Below W.heap.size W w')
    (m0 q0 : ByteArray) (v0 : Value) (l0 : List Flds.Fld) (b0 : ByteArray) (s1 : Int) (v1 : Value) (l1 : List Flds.Fld) (b1 : ByteArray) (v2 : Value) (l2 : List Flds.Fld) (w : World) (ha0 : Flds.Arg w v0 l0) (ha1 : Flds.Arg w v1 l1) (ha2 : Flds.Arg w v2 l2) (hm0 : m0.size ≤ maxLen) (hq0 : q0.size ≤ maxLen) (hb0 : b0.size ≤ maxLen) (hb1 : b1.size ≤ maxLen)  (hg : G w) :
    Calls Tryd.prog 8 #[(Req.val m0 q0 v0 b0), (Resp.val s1 v1 b1), v2] w fun e w' => e = .returned (.bool true) ∧ Below w.heap.size w w' := by
  have A0 := Num.hide ha0
  obtain ⟨aa0, ca0, rfl, _⟩ := Flds.is_form ha0.1
  have A1 := Num.hide ha1
  obtain ⟨aa1, ca1, rfl, _⟩ := Flds.is_form ha1.1
  have A2 := Num.hide ha2
  obtain ⟨aa2, ca2, rfl, _⟩ := Flds.is_form ha2.1
  clear ha0
  clear ha1
  clear ha2
  have B0 : Hid (Below w.heap.size w w) := Below.refl _ _
  have sz1_ : w.heap.size ≤ (w.alloc (.cells #[.string m0, .string q0, (Value.slice aa0 l0.length ca0), .string b0] 56)).heap.size := ((Below.refl w.heap.size w).alloc (Nat.le_refl _) (.cells #[.string m0, .string q0, (Value.slice aa0 l0.length ca0), .string b0] 56)).size
  have E1 := Num.hide (Recs.below_step B0.out ((Below.refl w.heap.size w).alloc (Nat.le_refl _) (.cells #[.string m0, .string q0, (Value.slice aa0 l0.length ca0), .string b0] 56)))
  have Xp0_1 := Num.hide (heap_alloc_new w (.cells #[.string m0, .string q0, (Value.slice aa0 l0.length ca0), .string b0] 56))
  have kz1_ : w.heap.size < (w.alloc (.cells #[.string m0, .string q0, (Value.slice aa0 l0.length ca0), .string b0] 56)).heap.size := by simp
  have sz2_ : (w.alloc (.cells #[.string m0, .string q0, (Value.slice aa0 l0.length ca0), .string b0] 56)).heap.size ≤ ((w.alloc (.cells #[.string m0, .string q0, (Value.slice aa0 l0.length ca0), .string b0] 56)).alloc (.cells #[.int .i64 s1, (Value.slice aa1 l1.length ca1), .string b1] 46)).heap.size := ((Below.refl (w.alloc (.cells #[.string m0, .string q0, (Value.slice aa0 l0.length ca0), .string b0] 56)).heap.size (w.alloc (.cells #[.string m0, .string q0, (Value.slice aa0 l0.length ca0), .string b0] 56))).alloc (Nat.le_refl _) (.cells #[.int .i64 s1, (Value.slice aa1 l1.length ca1), .string b1] 46)).size
  have E2 := Num.hide (Recs.below_step E1.out ((Below.refl (w.alloc (.cells #[.string m0, .string q0, (Value.slice aa0 l0.length ca0), .string b0] 56)).heap.size (w.alloc (.cells #[.string m0, .string q0, (Value.slice aa0 l0.length ca0), .string b0] 56))).alloc (Nat.le_refl _) (.cells #[.int .i64 s1, (Value.slice aa1 l1.length ca1), .string b1] 46)))
  have Xp0_2 := Num.hide (Recs.row_step Xp0_1.out ((Below.refl (w.alloc (.cells #[.string m0, .string q0, (Value.slice aa0 l0.length ca0), .string b0] 56)).heap.size (w.alloc (.cells #[.string m0, .string q0, (Value.slice aa0 l0.length ca0), .string b0] 56))).alloc (Nat.le_refl _) (.cells #[.int .i64 s1, (Value.slice aa1 l1.length ca1), .string b1] 46)))
  have Xp1_2 := Num.hide (heap_alloc_new (w.alloc (.cells #[.string m0, .string q0, (Value.slice aa0 l0.length ca0), .string b0] 56)) (.cells #[.int .i64 s1, (Value.slice aa1 l1.length ca1), .string b1] 46))
  have kz2_ : (w.alloc (.cells #[.string m0, .string q0, (Value.slice aa0 l0.length ca0), .string b0] 56)).heap.size < ((w.alloc (.cells #[.string m0, .string q0, (Value.slice aa0 l0.length ca0), .string b0] 56)).alloc (.cells #[.int .i64 s1, (Value.slice aa1 l1.length ca1), .string b1] 46)).heap.size := by simp
  clear E1 Xp0_1
  have Y1 : Hid (((w.alloc (.cells #[.string m0, .string q0, (Value.slice aa0 l0.length ca0), .string b0] 56)).alloc (.cells #[.int .i64 s1, (Value.slice aa1 l1.length ca1), .string b1] 46)).heap[w.heap.size + 1]? = some (.cells #[.int .i64 s1, (Value.slice aa1 l1.length ca1), .string b1] 46)) := by
    have h := Xp1_2.out
    simp only [World.size_alloc] at h
    exact h
  clear Xp1_2
  unfold Req.val Resp.val
  go_enter Tryd.func8, Tryd.ntmps8
  go_upto_region 1 with fail
  have sz0 : w.heap.size + 2 ≤ ((w.alloc (.cells #[.string m0, .string q0, (Value.slice aa0 l0.length ca0), .string b0] 56)).alloc (.cells #[.int .i64 s1, (Value.slice aa1 l1.length ca1), .string b1] 46)).heap.size := by simp only [World.size_alloc]; omega
  clear kz1_ sz1_ sz2_ kz2_
  generalize ((w.alloc (.cells #[.string m0, .string q0, (Value.slice aa0 l0.length ca0), .string b0] 56)).alloc (.cells #[.int .i64 s1, (Value.slice aa1 l1.length ca1), .string b1] 46)) = V0 at E2 Xp0_2 Y1 sz0 ⊢
  have cp0_0 : V0.cell? ⟨w.heap.size, 0, none⟩ = some (.string m0) := Recs.box_cell Xp0_2.out 0
  have cp0_1 : V0.cell? ⟨w.heap.size, 1, none⟩ = some (.string q0) := Recs.box_cell Xp0_2.out 1
  have cp0_2 : V0.cell? ⟨w.heap.size, 2, none⟩ = some ((Value.slice aa0 l0.length ca0)) := Recs.box_cell Xp0_2.out 2
  have cp0_3 : V0.cell? ⟨w.heap.size, 3, none⟩ = some (.string b0) := Recs.box_cell Xp0_2.out 3
  have HZ0 := Num.hide (fun W (h : Flds.Arg W (Value.slice aa0 l0.length ca0) l0) => Req.sz_any m0 q0 (Value.slice aa0 l0.length ca0) l0 b0 (1048576) W h hm0 hq0 hb0 (by omega) (by omega))
  unfold Req.val at HZ0
  by_cases hbk0 : ¬ ((Req.bulk m0 q0 l0 b0 : Nat) : Int) ≤ 1048576
  · rw [Flds.left_no hbk0] at HZ0
    go_wp2_with fail
    refine (HZ0.out _ (Flds.arg_stay A0.out (Nat.le_refl _) E2.out)).mono ?_
    rintro e WX ⟨rfl, hb⟩
    have EX := Num.hide (Recs.below_step E2.out hb)
    clear hb cp0_0 cp0_1 cp0_2 cp0_3
    go_wp2
    go_ret
    exact ⟨rfl, EX.out⟩
  rw [Flds.left_yes (Decidable.not_not.1 hbk0)] at HZ0
  have hn0 := Decidable.not_not.1 hbk0
  have dz0 : decide (1048576 - ((Req.bulk m0 q0 l0 b0 : Nat) : Int) < 0) = false := by simp; omega
  go_wp2_with fail
  refine (HZ0.out _ (Flds.arg_stay A0.out (Nat.le_refl _) E2.out)).mono ?_
  rintro e W3 ⟨rfl, hb⟩
  have sz3_ : V0.heap.size ≤ W3.heap.size := (hb).size
  have E3 := Num.hide (Recs.below_step E2.out (hb))
  have Xp0_3 := Num.hide (Recs.row_step Xp0_2.out (hb))
  have Xp1_3 := Num.hide (Recs.row_step Y1.out (hb))
  clear hb HZ0 hbk0 E2 Xp0_2 Y1
  clear cp0_0 cp0_1 cp0_2 cp0_3
  have cp1_0 : W3.cell? ⟨w.heap.size + 1, 0, none⟩ = some (.int .i64 s1) := Recs.box_cell Xp1_3.out 0
  have cp1_1 : W3.cell? ⟨w.heap.size + 1, 1, none⟩ = some ((Value.slice aa1 l1.length ca1)) := Recs.box_cell Xp1_3.out 1
  have cp1_2 : W3.cell? ⟨w.heap.size + 1, 2, none⟩ = some (.string b1) := Recs.box_cell Xp1_3.out 2
  have HZ1 := Num.hide (fun W (h : Flds.Arg W (Value.slice aa1 l1.length ca1) l1) => Resp.sz_any s1 (Value.slice aa1 l1.length ca1) l1 b1 (1048576 - (Req.bulk m0 q0 l0 b0 : Int)) W h hb1 (by omega) (by omega))
  unfold Resp.val at HZ1
  by_cases hbk1 : ¬ ((Resp.bulk l1 b1 : Nat) : Int) ≤ 1048576 - (Req.bulk m0 q0 l0 b0 : Int)
  · rw [Flds.left_no hbk1] at HZ1
    go_wp2_with fail
    refine (HZ1.out _ (Flds.arg_stay A1.out (Nat.le_refl _) E3.out)).mono ?_
    rintro e WX ⟨rfl, hb⟩
    have EX := Num.hide (Recs.below_step E3.out hb)
    clear hb cp1_0 cp1_1 cp1_2
    go_wp2
    go_ret
    exact ⟨rfl, EX.out⟩
  rw [Flds.left_yes (Decidable.not_not.1 hbk1)] at HZ1
  have hn1 := Decidable.not_not.1 hbk1
  have dz1 : decide (1048576 - (Req.bulk m0 q0 l0 b0 : Int) - ((Resp.bulk l1 b1 : Nat) : Int) < 0) = false := by simp; omega
  go_wp2_with fail
  refine (HZ1.out _ (Flds.arg_stay A1.out (Nat.le_refl _) E3.out)).mono ?_
  rintro e W4 ⟨rfl, hb⟩
  have sz4_ : W3.heap.size ≤ W4.heap.size := (hb).size
  have E4 := Num.hide (Recs.below_step E3.out (hb))
  have Xp0_4 := Num.hide (Recs.row_step Xp0_3.out (hb))
  have Xp1_4 := Num.hide (Recs.row_step Xp1_3.out (hb))
  clear hb HZ1 hbk1 E3 Xp0_3 Xp1_3
  clear cp1_0 cp1_1 cp1_2
  have HZ2 := Num.hide (fun W (h : Flds.Arg W (Value.slice aa2 l2.length ca2) l2) => Flds.szFieldS_any (Value.slice aa2 l2.length ca2) l2 (1048576 - (Req.bulk m0 q0 l0 b0 : Int) - (Resp.bulk l1 b1 : Int)) W h.1 h.2 (by omega) (by omega))
  by_cases hbk2 : ¬ ((Flds.bulk l2 : Nat) : Int) ≤ 1048576 - (Req.bulk m0 q0 l0 b0 : Int) - (Resp.bulk l1 b1 : Int)
  · rw [Flds.left_no hbk2] at HZ2
    go_wp2_with fail
    refine (HZ2.out _ (Flds.arg_stay A2.out (Nat.le_refl _) E4.out)).mono ?_
    rintro e WX ⟨rfl, hb⟩
    have EX := Num.hide (Recs.below_step E4.out hb)
    clear hb 
    go_wp2
    go_ret
    exact ⟨rfl, EX.out⟩
  rw [Flds.left_yes (Decidable.not_not.1 hbk2)] at HZ2
  have hn2 := Decidable.not_not.1 hbk2
  have dz2 : decide (1048576 - (Req.bulk m0 q0 l0 b0 : Int) - (Resp.bulk l1 b1 : Int) - ((Flds.bulk l2 : Nat) : Int) < 0) = false := by simp; omega
  go_wp2_with fail
  refine (HZ2.out _ (Flds.arg_stay A2.out (Nat.le_refl _) E4.out)).mono ?_
  rintro e W5 ⟨rfl, hb⟩
  have sz5_ : W4.heap.size ≤ W5.heap.size := (hb).size
  have E5 := Num.hide (Recs.below_step E4.out (hb))
  have Xp0_5 := Num.hide (Recs.row_step Xp0_4.out (hb))
  have Xp1_5 := Num.hide (Recs.row_step Xp1_4.out (hb))
  clear hb HZ2 hbk2 E4 Xp0_4 Xp1_4
  have hk0 : m0.size + q0.size + Flds.bulk l0 + b0.size ≤ 1048576 := by have h := hn0; unfold Req.bulk at h; omega
  have hlen0 : l0.length ≤ 1048576 := by have h2 := Flds.len_le l0; omega
  have hk1 : Flds.bulk l1 + b1.size ≤ 1048576 := by have h := hn1; unfold Resp.bulk at h; omega
  have hlen1 : l1.length ≤ 1048576 := by have h2 := Flds.len_le l1; omega
  have hk2 : Flds.bulk l2 ≤ 1048576 := by have h := hn2; omega
  have hlen2 : l2.length ≤ 1048576 := by have h2 := Flds.len_le l2; omega
  have HT0 := Num.hide (fun W h => Req.to_any m0 q0 (Value.slice aa0 l0.length ca0) l0 b0 W h hlen0)
  have HT1 := Num.hide (fun W h => Resp.to_any s1 (Value.slice aa1 l1.length ca1) l1 b1 W h hlen1)
  have HT2 := Num.hide (fun W h => Flds.toFieldS_any (Value.slice aa2 l2.length ca2) l2 W h hlen2)
  have HS := Num.hide (fun v0 v1 v2 W h0 h1 h2 => varyFits_spec m0 q0 s1 v0 v1 v2 l0 l1 l2 b0 b1 W h0 h1 h2 (by omega) (by omega) (by omega))
  have HI := Num.hide (fun v0 v1 v2 W h0 h1 h2 (hb : Below w.heap.size w W) => hi m0 q0 v0 l0 b0 s1 v1 l1 b1 v2 l2 W h0 h1 h2 hk0 hk1 hk2  (hG w W hg hb))
  unfold Req.val Resp.val at HS HI
  unfold Req.val at HT0
  unfold Resp.val at HT1
  generalize decide (picked l0 l1 = l2) = r at HS HI
  clear hi hG hg
  go_wp2_with fail
  have sz6_ : W5.heap.size ≤ W5.drew.heap.size := ((Below.refl W5.heap.size W5).drew).size
  have E6 := Num.hide (Recs.below_step E5.out ((Below.refl W5.heap.size W5).drew))
  have Xp0_6 := Num.hide (Recs.row_step Xp0_5.out ((Below.refl W5.heap.size W5).drew))
  have Xp1_6 := Num.hide (Recs.row_step Xp1_5.out ((Below.refl W5.heap.size W5).drew))
  clear E5 Xp0_5 Xp1_5
  refine wp_region_held_drew (S := fun W => W.cell? ⟨w.heap.size, 0, none⟩ = some (.string m0) ∧ W.cell? ⟨w.heap.size, 1, none⟩ = some (.string q0) ∧ W.cell? ⟨w.heap.size, 2, none⟩ = some ((Value.slice aa0 l0.length ca0)) ∧ W.cell? ⟨w.heap.size, 3, none⟩ = some (.string b0) ∧ W.cell? ⟨w.heap.size + 1, 0, none⟩ = some (.int .i64 s1) ∧ W.cell? ⟨w.heap.size + 1, 1, none⟩ = some ((Value.slice aa1 l1.length ca1)) ∧ W.cell? ⟨w.heap.size + 1, 2, none⟩ = some (.string b1)) (by kernel_rfl) ⟨Recs.box_cell Xp0_6.out 0, Recs.box_cell Xp0_6.out 1, Recs.box_cell Xp0_6.out 2, Recs.box_cell Xp0_6.out 3, Recs.box_cell Xp1_6.out 0, Recs.box_cell Xp1_6.out 1, Recs.box_cell Xp1_6.out 2⟩ (fun hHeld => ?_)
  refine Reg.take (i := 0) (d := 28) (v := ?_) rfl rfl (by kernel_rfl) (by kernel_rfl) (by kernel_rfl) (fun _ _ _ h => h) (by rfl) ?_ hHeld ?_
  rotate_left
  · rintro W ⟨h0, h1, h2, h3, h4, h5, h6⟩
    first | (go_simp; done) | (go_simp; with_reducible rfl)
  simp only [Act.put, List.setIfInBounds_toArray, List.set_cons_zero, List.set_cons_succ]
  refine Reg.take (i := 2) (d := 30) (v := ?_) rfl rfl (by kernel_rfl) (by kernel_rfl) (by kernel_rfl) (fun _ _ _ h => h) (by rfl) ?_ hHeld ?_
  rotate_left
  · rintro W ⟨h0, h1, h2, h3, h4, h5, h6⟩
    first | (go_simp; done) | (go_simp; with_reducible rfl)
  simp only [Act.put, List.setIfInBounds_toArray, List.set_cons_zero, List.set_cons_succ]
  refine Reg.take (i := 4) (d := 32) (v := ?_) rfl rfl (by kernel_rfl) (by kernel_rfl) (by kernel_rfl) (fun _ _ _ h => h) (by rfl) ?_ hHeld ?_
  rotate_left
  · rintro W ⟨h0, h1, h2, h3, h4, h5, h6⟩
    first | (go_simp; done) | (go_simp; with_reducible rfl)
  simp only [Act.put, List.setIfInBounds_toArray, List.set_cons_zero, List.set_cons_succ]
  refine Reg.call (i := 1) rfl (by kernel_rfl) (by rfl) (fun K hK => ?_)
  go_wp2_with (first | (go_at_call 35; refine (HT0.out _ (Flds.arg_stay A0.out (Nat.le_refl _) E6.out).1).mono ?_; rintro e W7 ⟨t7, rfl, ho, hb⟩))
  obtain ⟨at7, ct7, hvt7⟩ := Recs.own_len ho
  subst hvt7
  have sz7_ : W5.drew.heap.size ≤ W7.heap.size := (hb).size
  have E7 := Num.hide (Recs.below_step E6.out (hb))
  have Xp0_7 := Num.hide (Recs.row_step Xp0_6.out (hb))
  have Xp1_7 := Num.hide (Recs.row_step Xp1_6.out (hb))
  have Ot7_7 := Num.hide ho
  have Dt7 : Hid (∀ k, (Value.slice at7 l0.length ct7).ownBlock = some k → k < W7.heap.size) := fun k hk => (Recs.own_lt ho k hk).2
  clear ho hb E6 Xp0_6 Xp1_6
  refine hK.out _ _ ⟨Recs.box_cell Xp0_7.out 0, Recs.box_cell Xp0_7.out 1, Recs.box_cell Xp0_7.out 2, Recs.box_cell Xp0_7.out 3, Recs.box_cell Xp1_7.out 0, Recs.box_cell Xp1_7.out 1, Recs.box_cell Xp1_7.out 2⟩ (fun hHeld2 => ?_)
  clear hK K
  replace hHeld := hHeld2
  clear hHeld2
  refine Reg.call (i := 3) rfl (by kernel_rfl) (by rfl) (fun K hK => ?_)
  go_wp2_with (first | (go_at_call 26; refine (HT1.out _ (Flds.arg_stay A1.out (Nat.le_refl _) E7.out).1).mono ?_; rintro e W8 ⟨t8, rfl, ho, hb⟩))
  obtain ⟨at8, ct8, hvt8⟩ := Recs.own_len ho
  subst hvt8
  have sz8_ : W7.heap.size ≤ W8.heap.size := (hb).size
  have E8 := Num.hide (Recs.below_step E7.out (hb))
  have Ot7_8 := Num.hide (Recs.own_below Ot7_7.out (hb))
  have Xp0_8 := Num.hide (Recs.row_step Xp0_7.out (hb))
  have Xp1_8 := Num.hide (Recs.row_step Xp1_7.out (hb))
  have Ot8_8 := Num.hide ho
  have Dt8 : Hid (∀ k, (Value.slice at8 l1.length ct8).ownBlock = some k → k < W8.heap.size) := fun k hk => (Recs.own_lt ho k hk).2
  clear ho hb E7 Ot7_7 Xp0_7 Xp1_7
  refine hK.out _ _ ⟨Recs.box_cell Xp0_8.out 0, Recs.box_cell Xp0_8.out 1, Recs.box_cell Xp0_8.out 2, Recs.box_cell Xp0_8.out 3, Recs.box_cell Xp1_8.out 0, Recs.box_cell Xp1_8.out 1, Recs.box_cell Xp1_8.out 2⟩ (fun hHeld2 => ?_)
  clear hK K
  replace hHeld := hHeld2
  clear hHeld2
  refine Reg.call (i := 5) rfl (by kernel_rfl) (by rfl) (fun K hK => ?_)
  go_wp2_with (first | (go_at_call 43; refine (HT2.out _ (Flds.arg_stay A2.out (Nat.le_refl _) E8.out).1).mono ?_; rintro e W9 ⟨t9, rfl, ho, hb⟩))
  obtain ⟨at9, ct9, hvt9⟩ := Recs.own_len ho
  subst hvt9
  have sz9_ : W8.heap.size ≤ W9.heap.size := (hb).size
  have E9 := Num.hide (Recs.below_step E8.out (hb))
  have Ot7_9 := Num.hide (Recs.own_below Ot7_8.out (hb))
  have Ot8_9 := Num.hide (Recs.own_below Ot8_8.out (hb))
  have Xp0_9 := Num.hide (Recs.row_step Xp0_8.out (hb))
  have Xp1_9 := Num.hide (Recs.row_step Xp1_8.out (hb))
  have Ot9_9 := Num.hide ho
  have Dt9 : Hid (∀ k, (Value.slice at9 l2.length ct9).ownBlock = some k → k < W9.heap.size) := fun k hk => (Recs.own_lt ho k hk).2
  clear ho hb E8 Ot7_8 Ot8_8 Xp0_8 Xp1_8
  refine hK.out _ _ ⟨Recs.box_cell Xp0_9.out 0, Recs.box_cell Xp0_9.out 1, Recs.box_cell Xp0_9.out 2, Recs.box_cell Xp0_9.out 3, Recs.box_cell Xp1_9.out 0, Recs.box_cell Xp1_9.out 1, Recs.box_cell Xp1_9.out 2⟩ (fun hHeld2 => ?_)
  clear hK K
  replace hHeld := hHeld2
  clear hHeld2
  refine Reg.call (i := 6) rfl (by kernel_rfl) (by rfl) (fun K hK => ?_)
  go_wp2_with (first | (go_at_call 42; refine (HS.out (Value.slice at7 l0.length ct7) (Value.slice at8 l1.length ct8) (Value.slice at9 l2.length ct9) _ (Recs.own_is Flds.cells_len Ot7_9.out) (Recs.own_is Flds.cells_len Ot8_9.out) (Recs.own_is Flds.cells_len Ot9_9.out)).mono ?_; rintro e W10 ⟨rfl, hb⟩))
  have sz10_ : W9.heap.size ≤ W10.heap.size := (hb).size
  have E10 := Num.hide (Recs.below_step E9.out (hb))
  have Ot7_10 := Num.hide (Recs.own_below Ot7_9.out (hb))
  have Ot8_10 := Num.hide (Recs.own_below Ot8_9.out (hb))
  have Ot9_10 := Num.hide (Recs.own_below Ot9_9.out (hb))
  have Xp0_10 := Num.hide (Recs.row_step Xp0_9.out (hb))
  have Xp1_10 := Num.hide (Recs.row_step Xp1_9.out (hb))
  clear hb E9 Ot7_9 Ot8_9 Ot9_9 Xp0_9 Xp1_9
  refine hK.out _ _ ⟨Recs.box_cell Xp0_10.out 0, Recs.box_cell Xp0_10.out 1, Recs.box_cell Xp0_10.out 2, Recs.box_cell Xp0_10.out 3, Recs.box_cell Xp1_10.out 0, Recs.box_cell Xp1_10.out 1, Recs.box_cell Xp1_10.out 2⟩ (fun hHeld2 => ?_)
  clear hK K
  replace hHeld := hHeld2
  clear hHeld2
  refine Reg.take (i := 7) (d := 8) (v := ?_) rfl rfl (by kernel_rfl) (by kernel_rfl) (by kernel_rfl) (fun _ _ _ h => h) (by rfl) ?_ hHeld ?_
  rotate_left
  · rintro W ⟨h0, h1, h2, h3, h4, h5, h6⟩
    first | (go_simp; done) | (go_simp; with_reducible rfl)
  simp only [Act.put, List.setIfInBounds_toArray, List.set_cons_zero, List.set_cons_succ]
  refine wpAnyH_done (by kernel_rfl) ?_ _
  clear hHeld
  have cp0_0 : W10.cell? ⟨w.heap.size, 0, none⟩ = some (.string m0) := Recs.box_cell Xp0_10.out 0
  have cp0_1 : W10.cell? ⟨w.heap.size, 1, none⟩ = some (.string q0) := Recs.box_cell Xp0_10.out 1
  have cp0_2 : W10.cell? ⟨w.heap.size, 2, none⟩ = some ((Value.slice aa0 l0.length ca0)) := Recs.box_cell Xp0_10.out 2
  have cp0_3 : W10.cell? ⟨w.heap.size, 3, none⟩ = some (.string b0) := Recs.box_cell Xp0_10.out 3
  go_wp2_with fail
  refine (HT0.out _ (Flds.arg_stay A0.out (Nat.le_refl _) E10.out).1).mono ?_
  rintro e W11 ⟨t11, rfl, ho, hb⟩
  obtain ⟨at11, ct11, hvt11⟩ := Recs.own_len ho
  subst hvt11
  have sz11_ : W10.heap.size ≤ W11.heap.size := (hb).size
  have E11 := Num.hide (Recs.below_step E10.out (hb))
  have Ot7_11 := Num.hide (Recs.own_below Ot7_10.out (hb))
  have Ot8_11 := Num.hide (Recs.own_below Ot8_10.out (hb))
  have Ot9_11 := Num.hide (Recs.own_below Ot9_10.out (hb))
  have Xp0_11 := Num.hide (Recs.row_step Xp0_10.out (hb))
  have Xp1_11 := Num.hide (Recs.row_step Xp1_10.out (hb))
  have Ot11_11 := Num.hide ho
  have Dt11 : Hid (∀ k, (Value.slice at11 l0.length ct11).ownBlock = some k → k < W11.heap.size) := fun k hk => (Recs.own_lt ho k hk).2
  clear ho hb E10 Ot7_10 Ot8_10 Ot9_10 Xp0_10 Xp1_10
  clear cp0_0 cp0_1 cp0_2 cp0_3
  have sz12_ : W11.heap.size ≤ (W11.alloc (.cells #[.string m0, .string q0, (Value.slice at11 l0.length ct11), .string b0] 32)).heap.size := ((Below.refl W11.heap.size W11).alloc (Nat.le_refl _) (.cells #[.string m0, .string q0, (Value.slice at11 l0.length ct11), .string b0] 32)).size
  have E12 := Num.hide (Recs.below_step E11.out ((Below.refl W11.heap.size W11).alloc (Nat.le_refl _) (.cells #[.string m0, .string q0, (Value.slice at11 l0.length ct11), .string b0] 32)))
  have Ot7_12 := Num.hide (Recs.own_below Ot7_11.out ((Below.refl W11.heap.size W11).alloc (Nat.le_refl _) (.cells #[.string m0, .string q0, (Value.slice at11 l0.length ct11), .string b0] 32)))
  have Ot8_12 := Num.hide (Recs.own_below Ot8_11.out ((Below.refl W11.heap.size W11).alloc (Nat.le_refl _) (.cells #[.string m0, .string q0, (Value.slice at11 l0.length ct11), .string b0] 32)))
  have Ot9_12 := Num.hide (Recs.own_below Ot9_11.out ((Below.refl W11.heap.size W11).alloc (Nat.le_refl _) (.cells #[.string m0, .string q0, (Value.slice at11 l0.length ct11), .string b0] 32)))
  have Ot11_12 := Num.hide (Recs.own_below Ot11_11.out ((Below.refl W11.heap.size W11).alloc (Nat.le_refl _) (.cells #[.string m0, .string q0, (Value.slice at11 l0.length ct11), .string b0] 32)))
  have Xp0_12 := Num.hide (Recs.row_step Xp0_11.out ((Below.refl W11.heap.size W11).alloc (Nat.le_refl _) (.cells #[.string m0, .string q0, (Value.slice at11 l0.length ct11), .string b0] 32)))
  have Xp1_12 := Num.hide (Recs.row_step Xp1_11.out ((Below.refl W11.heap.size W11).alloc (Nat.le_refl _) (.cells #[.string m0, .string q0, (Value.slice at11 l0.length ct11), .string b0] 32)))
  have Xbt11_12 := Num.hide (heap_alloc_new W11 (.cells #[.string m0, .string q0, (Value.slice at11 l0.length ct11), .string b0] 32))
  have kz12_ : W11.heap.size < (W11.alloc (.cells #[.string m0, .string q0, (Value.slice at11 l0.length ct11), .string b0] 32)).heap.size := by simp
  clear E11 Ot7_11 Ot8_11 Ot9_11 Ot11_11 Xp0_11 Xp1_11
  go_upto_region 13 with fail
  generalize (W11.alloc (.cells #[.string m0, .string q0, (Value.slice at11 l0.length ct11), .string b0] 32)) = V12 at E12 Ot7_12 Ot8_12 Ot9_12 Ot11_12 Xp0_12 Xp1_12 Xbt11_12 sz12_ kz12_ ⊢
  have cp1_0 : V12.cell? ⟨w.heap.size + 1, 0, none⟩ = some (.int .i64 s1) := Recs.box_cell Xp1_12.out 0
  have cp1_1 : V12.cell? ⟨w.heap.size + 1, 1, none⟩ = some ((Value.slice aa1 l1.length ca1)) := Recs.box_cell Xp1_12.out 1
  have cp1_2 : V12.cell? ⟨w.heap.size + 1, 2, none⟩ = some (.string b1) := Recs.box_cell Xp1_12.out 2
  go_wp2_with fail
  refine (HT1.out _ (Flds.arg_stay A1.out (Nat.le_refl _) E12.out).1).mono ?_
  rintro e W13 ⟨t13, rfl, ho, hb⟩
  obtain ⟨at13, ct13, hvt13⟩ := Recs.own_len ho
  subst hvt13
  have sz13_ : V12.heap.size ≤ W13.heap.size := (hb).size
  have E13 := Num.hide (Recs.below_step E12.out (hb))
  have Ot7_13 := Num.hide (Recs.own_below Ot7_12.out (hb))
  have Ot8_13 := Num.hide (Recs.own_below Ot8_12.out (hb))
  have Ot9_13 := Num.hide (Recs.own_below Ot9_12.out (hb))
  have Ot11_13 := Num.hide (Recs.own_below Ot11_12.out (hb))
  have Xp0_13 := Num.hide (Recs.row_step Xp0_12.out (hb))
  have Xp1_13 := Num.hide (Recs.row_step Xp1_12.out (hb))
  have Xbt11_13 := Num.hide (Recs.row_step Xbt11_12.out (hb))
  have Ot13_13 := Num.hide ho
  have Dt13 : Hid (∀ k, (Value.slice at13 l1.length ct13).ownBlock = some k → k < W13.heap.size) := fun k hk => (Recs.own_lt ho k hk).2
  clear ho hb E12 Ot7_12 Ot8_12 Ot9_12 Ot11_12 Xp0_12 Xp1_12 Xbt11_12
  clear cp1_0 cp1_1 cp1_2
  have sz14_ : W13.heap.size ≤ (W13.alloc (.cells #[.int .i64 s1, (Value.slice at13 l1.length ct13), .string b1] 34)).heap.size := ((Below.refl W13.heap.size W13).alloc (Nat.le_refl _) (.cells #[.int .i64 s1, (Value.slice at13 l1.length ct13), .string b1] 34)).size
  have E14 := Num.hide (Recs.below_step E13.out ((Below.refl W13.heap.size W13).alloc (Nat.le_refl _) (.cells #[.int .i64 s1, (Value.slice at13 l1.length ct13), .string b1] 34)))
  have Ot7_14 := Num.hide (Recs.own_below Ot7_13.out ((Below.refl W13.heap.size W13).alloc (Nat.le_refl _) (.cells #[.int .i64 s1, (Value.slice at13 l1.length ct13), .string b1] 34)))
  have Ot8_14 := Num.hide (Recs.own_below Ot8_13.out ((Below.refl W13.heap.size W13).alloc (Nat.le_refl _) (.cells #[.int .i64 s1, (Value.slice at13 l1.length ct13), .string b1] 34)))
  have Ot9_14 := Num.hide (Recs.own_below Ot9_13.out ((Below.refl W13.heap.size W13).alloc (Nat.le_refl _) (.cells #[.int .i64 s1, (Value.slice at13 l1.length ct13), .string b1] 34)))
  have Ot11_14 := Num.hide (Recs.own_below Ot11_13.out ((Below.refl W13.heap.size W13).alloc (Nat.le_refl _) (.cells #[.int .i64 s1, (Value.slice at13 l1.length ct13), .string b1] 34)))
  have Ot13_14 := Num.hide (Recs.own_below Ot13_13.out ((Below.refl W13.heap.size W13).alloc (Nat.le_refl _) (.cells #[.int .i64 s1, (Value.slice at13 l1.length ct13), .string b1] 34)))
  have Xp0_14 := Num.hide (Recs.row_step Xp0_13.out ((Below.refl W13.heap.size W13).alloc (Nat.le_refl _) (.cells #[.int .i64 s1, (Value.slice at13 l1.length ct13), .string b1] 34)))
  have Xp1_14 := Num.hide (Recs.row_step Xp1_13.out ((Below.refl W13.heap.size W13).alloc (Nat.le_refl _) (.cells #[.int .i64 s1, (Value.slice at13 l1.length ct13), .string b1] 34)))
  have Xbt11_14 := Num.hide (Recs.row_step Xbt11_13.out ((Below.refl W13.heap.size W13).alloc (Nat.le_refl _) (.cells #[.int .i64 s1, (Value.slice at13 l1.length ct13), .string b1] 34)))
  have Xbt13_14 := Num.hide (heap_alloc_new W13 (.cells #[.int .i64 s1, (Value.slice at13 l1.length ct13), .string b1] 34))
  have kz14_ : W13.heap.size < (W13.alloc (.cells #[.int .i64 s1, (Value.slice at13 l1.length ct13), .string b1] 34)).heap.size := by simp
  clear E13 Ot7_13 Ot8_13 Ot9_13 Ot11_13 Ot13_13 Xp0_13 Xp1_13 Xbt11_13
  go_upto_region 14 with fail
  generalize (W13.alloc (.cells #[.int .i64 s1, (Value.slice at13 l1.length ct13), .string b1] 34)) = V14 at E14 Ot7_14 Ot8_14 Ot9_14 Ot11_14 Ot13_14 Xp0_14 Xp1_14 Xbt11_14 Xbt13_14 sz14_ kz14_ ⊢
  go_wp2_with fail
  refine (HT2.out _ (Flds.arg_stay A2.out (Nat.le_refl _) E14.out).1).mono ?_
  rintro e W15 ⟨t15, rfl, ho, hb⟩
  obtain ⟨at15, ct15, hvt15⟩ := Recs.own_len ho
  subst hvt15
  have sz15_ : V14.heap.size ≤ W15.heap.size := (hb).size
  have E15 := Num.hide (Recs.below_step E14.out (hb))
  have Ot7_15 := Num.hide (Recs.own_below Ot7_14.out (hb))
  have Ot8_15 := Num.hide (Recs.own_below Ot8_14.out (hb))
  have Ot9_15 := Num.hide (Recs.own_below Ot9_14.out (hb))
  have Ot11_15 := Num.hide (Recs.own_below Ot11_14.out (hb))
  have Ot13_15 := Num.hide (Recs.own_below Ot13_14.out (hb))
  have Xp0_15 := Num.hide (Recs.row_step Xp0_14.out (hb))
  have Xp1_15 := Num.hide (Recs.row_step Xp1_14.out (hb))
  have Xbt11_15 := Num.hide (Recs.row_step Xbt11_14.out (hb))
  have Xbt13_15 := Num.hide (Recs.row_step Xbt13_14.out (hb))
  have Ot15_15 := Num.hide ho
  have Dt15 : Hid (∀ k, (Value.slice at15 l2.length ct15).ownBlock = some k → k < W15.heap.size) := fun k hk => (Recs.own_lt ho k hk).2
  clear ho hb E14 Ot7_14 Ot8_14 Ot9_14 Ot11_14 Ot13_14 Xp0_14 Xp1_14 Xbt11_14 Xbt13_14
  have cbt11_0 : W15.cell? ⟨W11.heap.size, 0, none⟩ = some (.string m0) := Recs.box_cell Xbt11_15.out 0
  have cbt11_1 : W15.cell? ⟨W11.heap.size, 1, none⟩ = some (.string q0) := Recs.box_cell Xbt11_15.out 1
  have cbt11_2 : W15.cell? ⟨W11.heap.size, 2, none⟩ = some ((Value.slice at11 l0.length ct11)) := Recs.box_cell Xbt11_15.out 2
  have cbt11_3 : W15.cell? ⟨W11.heap.size, 3, none⟩ = some (.string b0) := Recs.box_cell Xbt11_15.out 3
  have cbt13_0 : W15.cell? ⟨W13.heap.size, 0, none⟩ = some (.int .i64 s1) := Recs.box_cell Xbt13_15.out 0
  have cbt13_1 : W15.cell? ⟨W13.heap.size, 1, none⟩ = some ((Value.slice at13 l1.length ct13)) := Recs.box_cell Xbt13_15.out 1
  have cbt13_2 : W15.cell? ⟨W13.heap.size, 2, none⟩ = some (.string b1) := Recs.box_cell Xbt13_15.out 2
  go_wp2_with fail
  refine (HI.out (Value.slice at11 l0.length ct11) (Value.slice at13 l1.length ct13) (Value.slice at15 l2.length ct15) _ (Recs.own_is Flds.cells_len Ot11_15.out) (Recs.own_is Flds.cells_len Ot13_15.out) (Recs.own_is Flds.cells_len Ot15_15.out) E15.out).mono ?_
  rintro e W16 ⟨rfl, hb⟩
  have sz16_ : W15.heap.size ≤ W16.heap.size := (hb).size
  have E16 := Num.hide (Recs.below_step E15.out (hb))
  have Ot7_16 := Num.hide (Recs.own_below Ot7_15.out (hb))
  have Ot8_16 := Num.hide (Recs.own_below Ot8_15.out (hb))
  have Ot9_16 := Num.hide (Recs.own_below Ot9_15.out (hb))
  have Ot11_16 := Num.hide (Recs.own_below Ot11_15.out (hb))
  have Ot13_16 := Num.hide (Recs.own_below Ot13_15.out (hb))
  have Ot15_16 := Num.hide (Recs.own_below Ot15_15.out (hb))
  have Xp0_16 := Num.hide (Recs.row_step Xp0_15.out (hb))
  have Xp1_16 := Num.hide (Recs.row_step Xp1_15.out (hb))
  have Xbt11_16 := Num.hide (Recs.row_step Xbt11_15.out (hb))
  have Xbt13_16 := Num.hide (Recs.row_step Xbt13_15.out (hb))
  clear hb E15 Ot7_15 Ot8_15 Ot9_15 Ot11_15 Ot13_15 Ot15_15 Xp0_15 Xp1_15 Xbt11_15 Xbt13_15
  clear cbt11_0 cbt11_1 cbt11_2 cbt11_3 cbt13_0 cbt13_1 cbt13_2
  go_wp2_with fail
  have sz17_ : W16.heap.size ≤ W16.drew.heap.size := ((Below.refl W16.heap.size W16).drew).size
  have E17 := Num.hide (Recs.below_step E16.out ((Below.refl W16.heap.size W16).drew))
  have Ot7_17 := Num.hide (Recs.own_below Ot7_16.out ((Below.refl W16.heap.size W16).drew))
  have Ot8_17 := Num.hide (Recs.own_below Ot8_16.out ((Below.refl W16.heap.size W16).drew))
  have Ot9_17 := Num.hide (Recs.own_below Ot9_16.out ((Below.refl W16.heap.size W16).drew))
  have Ot11_17 := Num.hide (Recs.own_below Ot11_16.out ((Below.refl W16.heap.size W16).drew))
  have Ot13_17 := Num.hide (Recs.own_below Ot13_16.out ((Below.refl W16.heap.size W16).drew))
  have Ot15_17 := Num.hide (Recs.own_below Ot15_16.out ((Below.refl W16.heap.size W16).drew))
  have Xp0_17 := Num.hide (Recs.row_step Xp0_16.out ((Below.refl W16.heap.size W16).drew))
  have Xp1_17 := Num.hide (Recs.row_step Xp1_16.out ((Below.refl W16.heap.size W16).drew))
  have Xbt11_17 := Num.hide (Recs.row_step Xbt11_16.out ((Below.refl W16.heap.size W16).drew))
  have Xbt13_17 := Num.hide (Recs.row_step Xbt13_16.out ((Below.refl W16.heap.size W16).drew))
  clear E16 Ot7_16 Ot8_16 Ot9_16 Ot11_16 Ot13_16 Ot15_16 Xp0_16 Xp1_16 Xbt11_16 Xbt13_16
  refine wp_region_held_drew (S := fun W => W.cell? ⟨W11.heap.size, 0, none⟩ = some (.string m0) ∧ W.cell? ⟨W11.heap.size, 1, none⟩ = some (.string q0) ∧ W.cell? ⟨W11.heap.size, 2, none⟩ = some ((Value.slice at11 l0.length ct11)) ∧ W.cell? ⟨W11.heap.size, 3, none⟩ = some (.string b0) ∧ W.cell? ⟨w.heap.size, 0, none⟩ = some (.string m0) ∧ W.cell? ⟨w.heap.size, 1, none⟩ = some (.string q0) ∧ W.cell? ⟨w.heap.size, 2, none⟩ = some ((Value.slice aa0 l0.length ca0)) ∧ W.cell? ⟨w.heap.size, 3, none⟩ = some (.string b0)) (by kernel_rfl) ⟨Recs.box_cell Xbt11_17.out 0, Recs.box_cell Xbt11_17.out 1, Recs.box_cell Xbt11_17.out 2, Recs.box_cell Xbt11_17.out 3, Recs.box_cell Xp0_17.out 0, Recs.box_cell Xp0_17.out 1, Recs.box_cell Xp0_17.out 2, Recs.box_cell Xp0_17.out 3⟩ (fun hHeld => ?_)
  refine Reg.take (i := 0) (d := 48) (v := ?_) rfl rfl (by kernel_rfl) (by kernel_rfl) (by kernel_rfl) (fun _ _ _ h => h) (by rfl) ?_ hHeld ?_
  rotate_left
  · rintro W ⟨h0, h1, h2, h3, h4, h5, h6, h7⟩
    first | (go_simp; done) | (go_simp; with_reducible rfl)
  simp only [Act.put, List.setIfInBounds_toArray, List.set_cons_zero, List.set_cons_succ]
  refine Reg.take (i := 1) (d := 49) (v := ?_) rfl rfl (by kernel_rfl) (by kernel_rfl) (by kernel_rfl) (fun _ _ _ h => h) (by rfl) ?_ hHeld ?_
  rotate_left
  · rintro W ⟨h0, h1, h2, h3, h4, h5, h6, h7⟩
    first | (go_simp; done) | (go_simp; with_reducible rfl)
  simp only [Act.put, List.setIfInBounds_toArray, List.set_cons_zero, List.set_cons_succ]
  refine Reg.call (i := 2) rfl (by kernel_rfl) (by rfl) (fun K hK => ?_)
  go_wp2_with (first | (go_at_call 35; refine (HT0.out _ (Flds.arg_stay A0.out (Nat.le_refl _) E17.out).1).mono ?_; rintro e W18 ⟨t18, rfl, ho, hb⟩))
  obtain ⟨at18, ct18, hvt18⟩ := Recs.own_len ho
  subst hvt18
  have sz18_ : W16.drew.heap.size ≤ W18.heap.size := (hb).size
  have E18 := Num.hide (Recs.below_step E17.out (hb))
  have Ot7_18 := Num.hide (Recs.own_below Ot7_17.out (hb))
  have Ot8_18 := Num.hide (Recs.own_below Ot8_17.out (hb))
  have Ot9_18 := Num.hide (Recs.own_below Ot9_17.out (hb))
  have Ot11_18 := Num.hide (Recs.own_below Ot11_17.out (hb))
  have Ot13_18 := Num.hide (Recs.own_below Ot13_17.out (hb))
  have Ot15_18 := Num.hide (Recs.own_below Ot15_17.out (hb))
  have Xp0_18 := Num.hide (Recs.row_step Xp0_17.out (hb))
  have Xp1_18 := Num.hide (Recs.row_step Xp1_17.out (hb))
  have Xbt11_18 := Num.hide (Recs.row_step Xbt11_17.out (hb))
  have Xbt13_18 := Num.hide (Recs.row_step Xbt13_17.out (hb))
  have Ot18_18 := Num.hide ho
  have Dt18 : Hid (∀ k, (Value.slice at18 l0.length ct18).ownBlock = some k → k < W18.heap.size) := fun k hk => (Recs.own_lt ho k hk).2
  clear ho hb E17 Ot7_17 Ot8_17 Ot9_17 Ot11_17 Ot13_17 Ot15_17 Xp0_17 Xp1_17 Xbt11_17 Xbt13_17
  refine hK.out _ _ ⟨Recs.box_cell Xbt11_18.out 0, Recs.box_cell Xbt11_18.out 1, Recs.box_cell Xbt11_18.out 2, Recs.box_cell Xbt11_18.out 3, Recs.box_cell Xp0_18.out 0, Recs.box_cell Xp0_18.out 1, Recs.box_cell Xp0_18.out 2, Recs.box_cell Xp0_18.out 3⟩ (fun hHeld2 => ?_)
  clear hK K
  replace hHeld := hHeld2
  clear hHeld2
  refine Reg.call (i := 3) rfl (by kernel_rfl) (by rfl) (fun K hK => ?_)
  have HC := Num.hide (Req.eq_any m0 m0 q0 q0 (Value.slice at11 l0.length ct11) (Value.slice at18 l0.length ct18) l0 l0 b0 b0 _ (Recs.own_is Flds.cells_len Ot11_18.out) (Recs.own_is Flds.cells_len Ot18_18.out) (by omega))
  unfold Req.val at HC
  rw [decide_eq_true ⟨rfl, rfl, rfl, rfl⟩] at HC
  go_wp2_with (first | (go_at_call 37; refine (HC.out).mono ?_; rintro e W19 ⟨rfl, hb⟩))
  clear HC
  have sz19_ : W18.heap.size ≤ W19.heap.size := (hb).size
  have E19 := Num.hide (Recs.below_step E18.out (hb))
  have Ot7_19 := Num.hide (Recs.own_below Ot7_18.out (hb))
  have Ot8_19 := Num.hide (Recs.own_below Ot8_18.out (hb))
  have Ot9_19 := Num.hide (Recs.own_below Ot9_18.out (hb))
  have Ot11_19 := Num.hide (Recs.own_below Ot11_18.out (hb))
  have Ot13_19 := Num.hide (Recs.own_below Ot13_18.out (hb))
  have Ot15_19 := Num.hide (Recs.own_below Ot15_18.out (hb))
  have Ot18_19 := Num.hide (Recs.own_below Ot18_18.out (hb))
  have Xp0_19 := Num.hide (Recs.row_step Xp0_18.out (hb))
  have Xp1_19 := Num.hide (Recs.row_step Xp1_18.out (hb))
  have Xbt11_19 := Num.hide (Recs.row_step Xbt11_18.out (hb))
  have Xbt13_19 := Num.hide (Recs.row_step Xbt13_18.out (hb))
  clear hb E18 Ot7_18 Ot8_18 Ot9_18 Ot11_18 Ot13_18 Ot15_18 Ot18_18 Xp0_18 Xp1_18 Xbt11_18 Xbt13_18
  refine hK.out _ _ ⟨Recs.box_cell Xbt11_19.out 0, Recs.box_cell Xbt11_19.out 1, Recs.box_cell Xbt11_19.out 2, Recs.box_cell Xbt11_19.out 3, Recs.box_cell Xp0_19.out 0, Recs.box_cell Xp0_19.out 1, Recs.box_cell Xp0_19.out 2, Recs.box_cell Xp0_19.out 3⟩ (fun hHeld2 => ?_)
  clear hK K
  replace hHeld := hHeld2
  clear hHeld2
  refine Reg.take (i := 4) (d := 52) (v := ?_) rfl rfl (by kernel_rfl) (by kernel_rfl) (by kernel_rfl) (fun _ _ _ h => h) (by rfl) ?_ hHeld ?_
  rotate_left
  · rintro W ⟨h0, h1, h2, h3, h4, h5, h6, h7⟩
    first | (go_simp; done) | (go_simp; with_reducible rfl)
  simp only [Act.put, List.setIfInBounds_toArray, List.set_cons_zero, List.set_cons_succ]
  refine wpAnyH_done (by kernel_rfl) ?_ _
  clear hHeld
  go_wp2_with fail
  have sz20_ : W19.heap.size ≤ W19.drew.heap.size := ((Below.refl W19.heap.size W19).drew).size
  have E20 := Num.hide (Recs.below_step E19.out ((Below.refl W19.heap.size W19).drew))
  have Ot7_20 := Num.hide (Recs.own_below Ot7_19.out ((Below.refl W19.heap.size W19).drew))
  have Ot8_20 := Num.hide (Recs.own_below Ot8_19.out ((Below.refl W19.heap.size W19).drew))
  have Ot9_20 := Num.hide (Recs.own_below Ot9_19.out ((Below.refl W19.heap.size W19).drew))
  have Ot11_20 := Num.hide (Recs.own_below Ot11_19.out ((Below.refl W19.heap.size W19).drew))
  have Ot13_20 := Num.hide (Recs.own_below Ot13_19.out ((Below.refl W19.heap.size W19).drew))
  have Ot15_20 := Num.hide (Recs.own_below Ot15_19.out ((Below.refl W19.heap.size W19).drew))
  have Ot18_20 := Num.hide (Recs.own_below Ot18_19.out ((Below.refl W19.heap.size W19).drew))
  have Xp0_20 := Num.hide (Recs.row_step Xp0_19.out ((Below.refl W19.heap.size W19).drew))
  have Xp1_20 := Num.hide (Recs.row_step Xp1_19.out ((Below.refl W19.heap.size W19).drew))
  have Xbt11_20 := Num.hide (Recs.row_step Xbt11_19.out ((Below.refl W19.heap.size W19).drew))
  have Xbt13_20 := Num.hide (Recs.row_step Xbt13_19.out ((Below.refl W19.heap.size W19).drew))
  clear E19 Ot7_19 Ot8_19 Ot9_19 Ot11_19 Ot13_19 Ot15_19 Ot18_19 Xp0_19 Xp1_19 Xbt11_19 Xbt13_19
  refine wp_region_held_drew (S := fun W => W.cell? ⟨W13.heap.size, 0, none⟩ = some (.int .i64 s1) ∧ W.cell? ⟨W13.heap.size, 1, none⟩ = some ((Value.slice at13 l1.length ct13)) ∧ W.cell? ⟨W13.heap.size, 2, none⟩ = some (.string b1) ∧ W.cell? ⟨w.heap.size + 1, 0, none⟩ = some (.int .i64 s1) ∧ W.cell? ⟨w.heap.size + 1, 1, none⟩ = some ((Value.slice aa1 l1.length ca1)) ∧ W.cell? ⟨w.heap.size + 1, 2, none⟩ = some (.string b1)) (by kernel_rfl) ⟨Recs.box_cell Xbt13_20.out 0, Recs.box_cell Xbt13_20.out 1, Recs.box_cell Xbt13_20.out 2, Recs.box_cell Xp1_20.out 0, Recs.box_cell Xp1_20.out 1, Recs.box_cell Xp1_20.out 2⟩ (fun hHeld => ?_)
  refine Reg.take (i := 0) (d := 53) (v := ?_) rfl rfl (by kernel_rfl) (by kernel_rfl) (by kernel_rfl) (fun _ _ _ h => h) (by rfl) ?_ hHeld ?_
  rotate_left
  · rintro W ⟨h0, h1, h2, h3, h4, h5⟩
    first | (go_simp; done) | (go_simp; with_reducible rfl)
  simp only [Act.put, List.setIfInBounds_toArray, List.set_cons_zero, List.set_cons_succ]
  refine Reg.take (i := 1) (d := 54) (v := ?_) rfl rfl (by kernel_rfl) (by kernel_rfl) (by kernel_rfl) (fun _ _ _ h => h) (by rfl) ?_ hHeld ?_
  rotate_left
  · rintro W ⟨h0, h1, h2, h3, h4, h5⟩
    first | (go_simp; done) | (go_simp; with_reducible rfl)
  simp only [Act.put, List.setIfInBounds_toArray, List.set_cons_zero, List.set_cons_succ]
  refine Reg.call (i := 2) rfl (by kernel_rfl) (by rfl) (fun K hK => ?_)
  go_wp2_with (first | (go_at_call 26; refine (HT1.out _ (Flds.arg_stay A1.out (Nat.le_refl _) E20.out).1).mono ?_; rintro e W21 ⟨t21, rfl, ho, hb⟩))
  obtain ⟨at21, ct21, hvt21⟩ := Recs.own_len ho
  subst hvt21
  have sz21_ : W19.drew.heap.size ≤ W21.heap.size := (hb).size
  have E21 := Num.hide (Recs.below_step E20.out (hb))
  have Ot7_21 := Num.hide (Recs.own_below Ot7_20.out (hb))
  have Ot8_21 := Num.hide (Recs.own_below Ot8_20.out (hb))
  have Ot9_21 := Num.hide (Recs.own_below Ot9_20.out (hb))
  have Ot11_21 := Num.hide (Recs.own_below Ot11_20.out (hb))
  have Ot13_21 := Num.hide (Recs.own_below Ot13_20.out (hb))
  have Ot15_21 := Num.hide (Recs.own_below Ot15_20.out (hb))
  have Ot18_21 := Num.hide (Recs.own_below Ot18_20.out (hb))
  have Xp0_21 := Num.hide (Recs.row_step Xp0_20.out (hb))
  have Xp1_21 := Num.hide (Recs.row_step Xp1_20.out (hb))
  have Xbt11_21 := Num.hide (Recs.row_step Xbt11_20.out (hb))
  have Xbt13_21 := Num.hide (Recs.row_step Xbt13_20.out (hb))
  have Ot21_21 := Num.hide ho
  have Dt21 : Hid (∀ k, (Value.slice at21 l1.length ct21).ownBlock = some k → k < W21.heap.size) := fun k hk => (Recs.own_lt ho k hk).2
  clear ho hb E20 Ot7_20 Ot8_20 Ot9_20 Ot11_20 Ot13_20 Ot15_20 Ot18_20 Xp0_20 Xp1_20 Xbt11_20 Xbt13_20
  refine hK.out _ _ ⟨Recs.box_cell Xbt13_21.out 0, Recs.box_cell Xbt13_21.out 1, Recs.box_cell Xbt13_21.out 2, Recs.box_cell Xp1_21.out 0, Recs.box_cell Xp1_21.out 1, Recs.box_cell Xp1_21.out 2⟩ (fun hHeld2 => ?_)
  clear hK K
  replace hHeld := hHeld2
  clear hHeld2
  refine Reg.call (i := 3) rfl (by kernel_rfl) (by rfl) (fun K hK => ?_)
  have HC := Num.hide (Resp.eq_any s1 s1 (Value.slice at13 l1.length ct13) (Value.slice at21 l1.length ct21) l1 l1 b1 b1 _ (Recs.own_is Flds.cells_len Ot13_21.out) (Recs.own_is Flds.cells_len Ot21_21.out) (by omega))
  unfold Resp.val at HC
  rw [decide_eq_true ⟨rfl, rfl, rfl⟩] at HC
  go_wp2_with (first | (go_at_call 28; refine (HC.out).mono ?_; rintro e W22 ⟨rfl, hb⟩))
  clear HC
  have sz22_ : W21.heap.size ≤ W22.heap.size := (hb).size
  have E22 := Num.hide (Recs.below_step E21.out (hb))
  have Ot7_22 := Num.hide (Recs.own_below Ot7_21.out (hb))
  have Ot8_22 := Num.hide (Recs.own_below Ot8_21.out (hb))
  have Ot9_22 := Num.hide (Recs.own_below Ot9_21.out (hb))
  have Ot11_22 := Num.hide (Recs.own_below Ot11_21.out (hb))
  have Ot13_22 := Num.hide (Recs.own_below Ot13_21.out (hb))
  have Ot15_22 := Num.hide (Recs.own_below Ot15_21.out (hb))
  have Ot18_22 := Num.hide (Recs.own_below Ot18_21.out (hb))
  have Ot21_22 := Num.hide (Recs.own_below Ot21_21.out (hb))
  have Xp0_22 := Num.hide (Recs.row_step Xp0_21.out (hb))
  have Xp1_22 := Num.hide (Recs.row_step Xp1_21.out (hb))
  have Xbt11_22 := Num.hide (Recs.row_step Xbt11_21.out (hb))
  have Xbt13_22 := Num.hide (Recs.row_step Xbt13_21.out (hb))
  clear hb E21 Ot7_21 Ot8_21 Ot9_21 Ot11_21 Ot13_21 Ot15_21 Ot18_21 Ot21_21 Xp0_21 Xp1_21 Xbt11_21 Xbt13_21
  refine hK.out _ _ ⟨Recs.box_cell Xbt13_22.out 0, Recs.box_cell Xbt13_22.out 1, Recs.box_cell Xbt13_22.out 2, Recs.box_cell Xp1_22.out 0, Recs.box_cell Xp1_22.out 1, Recs.box_cell Xp1_22.out 2⟩ (fun hHeld2 => ?_)
  clear hK K
  replace hHeld := hHeld2
  clear hHeld2
  refine Reg.take (i := 4) (d := 57) (v := ?_) rfl rfl (by kernel_rfl) (by kernel_rfl) (by kernel_rfl) (fun _ _ _ h => h) (by rfl) ?_ hHeld ?_
  rotate_left
  · rintro W ⟨h0, h1, h2, h3, h4, h5⟩
    first | (go_simp; done) | (go_simp; with_reducible rfl)
  simp only [Act.put, List.setIfInBounds_toArray, List.set_cons_zero, List.set_cons_succ]
  refine wpAnyH_done (by kernel_rfl) ?_ _
  clear hHeld
  go_wp2_with fail
  refine (HT2.out _ (Flds.arg_stay A2.out (Nat.le_refl _) E22.out).1).mono ?_
  rintro e W23 ⟨t23, rfl, ho, hb⟩
  obtain ⟨at23, ct23, hvt23⟩ := Recs.own_len ho
  subst hvt23
  have sz23_ : W22.heap.size ≤ W23.heap.size := (hb).size
  have E23 := Num.hide (Recs.below_step E22.out (hb))
  have Ot7_23 := Num.hide (Recs.own_below Ot7_22.out (hb))
  have Ot8_23 := Num.hide (Recs.own_below Ot8_22.out (hb))
  have Ot9_23 := Num.hide (Recs.own_below Ot9_22.out (hb))
  have Ot11_23 := Num.hide (Recs.own_below Ot11_22.out (hb))
  have Ot13_23 := Num.hide (Recs.own_below Ot13_22.out (hb))
  have Ot15_23 := Num.hide (Recs.own_below Ot15_22.out (hb))
  have Ot18_23 := Num.hide (Recs.own_below Ot18_22.out (hb))
  have Ot21_23 := Num.hide (Recs.own_below Ot21_22.out (hb))
  have Xp0_23 := Num.hide (Recs.row_step Xp0_22.out (hb))
  have Xp1_23 := Num.hide (Recs.row_step Xp1_22.out (hb))
  have Xbt11_23 := Num.hide (Recs.row_step Xbt11_22.out (hb))
  have Xbt13_23 := Num.hide (Recs.row_step Xbt13_22.out (hb))
  have Ot23_23 := Num.hide ho
  have Dt23 : Hid (∀ k, (Value.slice at23 l2.length ct23).ownBlock = some k → k < W23.heap.size) := fun k hk => (Recs.own_lt ho k hk).2
  clear ho hb E22 Ot7_22 Ot8_22 Ot9_22 Ot11_22 Ot13_22 Ot15_22 Ot18_22 Ot21_22 Xp0_22 Xp1_22 Xbt11_22 Xbt13_22
  have HC := Num.hide (Flds.eq_any (Value.slice at15 l2.length ct15) (Value.slice at23 l2.length ct23) l2 l2 _ (Recs.own_is Flds.cells_len Ot15_23.out) (Recs.own_is Flds.cells_len Ot23_23.out) (by omega))
  rw [decide_eq_true (rfl : l2 = l2)] at HC
  go_wp2_with fail
  refine HC.out.mono ?_
  clear HC
  rintro e W24 ⟨rfl, hb⟩
  have sz24_ : W23.heap.size ≤ W24.heap.size := (hb).size
  have E24 := Num.hide (Recs.below_step E23.out (hb))
  have Ot7_24 := Num.hide (Recs.own_below Ot7_23.out (hb))
  have Ot8_24 := Num.hide (Recs.own_below Ot8_23.out (hb))
  have Ot9_24 := Num.hide (Recs.own_below Ot9_23.out (hb))
  have Ot11_24 := Num.hide (Recs.own_below Ot11_23.out (hb))
  have Ot13_24 := Num.hide (Recs.own_below Ot13_23.out (hb))
  have Ot15_24 := Num.hide (Recs.own_below Ot15_23.out (hb))
  have Ot18_24 := Num.hide (Recs.own_below Ot18_23.out (hb))
  have Ot21_24 := Num.hide (Recs.own_below Ot21_23.out (hb))
  have Ot23_24 := Num.hide (Recs.own_below Ot23_23.out (hb))
  have Xp0_24 := Num.hide (Recs.row_step Xp0_23.out (hb))
  have Xp1_24 := Num.hide (Recs.row_step Xp1_23.out (hb))
  have Xbt11_24 := Num.hide (Recs.row_step Xbt11_23.out (hb))
  have Xbt13_24 := Num.hide (Recs.row_step Xbt13_23.out (hb))
  clear hb E23 Ot7_23 Ot8_23 Ot9_23 Ot11_23 Ot13_23 Ot15_23 Ot18_23 Ot21_23 Ot23_23 Xp0_23 Xp1_23 Xbt11_23 Xbt13_23
  go_wp2
  go_ret
  exact ⟨rfl, E24.out⟩
end Vary
end Go.Proofs.YtkogcbnbmdeolaaDoor
