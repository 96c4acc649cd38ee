/-
  ReqMark: markRequest of the laws: the fields of one marked.
  FldHeld: heldFieldS of the laws: a marked list of fields held against its marks.
  PickLaw: FnExactPicked, whatever the program's Picked keeps to: it answers as the specification's and leaves its arguments as they were.
-/
import Derived.Test.YtkogcbnbmdeolaaDoorPaf
import Derived.Test.YtkogcbnbmdeolaaDoorPam
import Derived.Test.YtkogcbnbmdeolaaDoorPad
import Derived.Test.YtkogcbnbmdeolaaDoorPan
import Derived.Test.YtkogcbnbmdeolaaDoorPae
import Derived.Test.YtkogcbnbmdeolaaDoorFldEq
import Derived.Test.YtkogcbnbmdeolaaDoorPag
import Derived.Deep.Cut
namespace Go.Proofs.YtkogcbnbmdeolaaDoor
open Go.RowKit
set_option linter.unusedVariables false
namespace Req

set_option maxRecDepth 100000 in
set_option maxHeartbeats 1000000 in
theorem mark_any (m u : ByteArray) (b : ByteArray) (B : Nat) (v : Value) (l : List Flds.Fld) (k : Int) (w : World) (h : Flds.Own B w v l) (hl : l.length ≤ 1099511627776) (h0 : 0 ≤ k) (h1 : k ≤ 1099511627776) :
    Calls Tryd.prog 38 #[val m u v b, .int .i64 k] w fun e w' => e = .returned (.int .i64 (k + 2 * l.length)) ∧ Flds.Own B w' v (Flds.marks k l.length) ∧ w.grownBy w' v.ownBlock := by
  obtain ⟨a, c, rfl⟩ := Recs.own_len h
  unfold val
  have HO := Num.hide (World.ownsRow.alloc h (.cells #[.string m, .string u, .slice a l.length c, .string b] 32))
  have HM := Num.hide (fun W h => Flds.mark_any B (.slice a l.length c) l k W h hl h0 h1)
  clear h
  go_enter Tryd.func38, Tryd.ntmps38
  go_wp2_with fail
  refine (HM.out _ HO.out).mono ?_
  rintro e W1 ⟨rfl, ho, hg⟩
  have HO1 := Num.hide ho
  have HG1 := Num.hide (Recs.grown_trans (Recs.grown_of_below ((Below.refl w.heap.size w).alloc (Nat.le_refl _) _) _) hg)
  clear ho hg HO HM
  go_wp2
  go_ret
  exact ⟨rfl, HO1.out, HG1.out⟩
end Req
end Go.Proofs.YtkogcbnbmdeolaaDoor
namespace Go.Proofs.YtkogcbnbmdeolaaDoor
open Go.RowKit
set_option linter.unusedVariables false
namespace Flds

set_option maxRecDepth 100000 in
set_option maxHeartbeats 2000000 in
theorem held_any (v : Value) (n : Nat) (k : Int) (w : World) (h : Is w v (marks k n)) (hl : n ≤ 1099511627776) (h0 : 0 ≤ k) (h1 : k ≤ 1099511627776) :
    Calls Tryd.prog 40 #[v, .int .i64 k] w fun e w' => e = .returned (.int .i64 (k + 2 * n)) ∧ Below w.heap.size w w' := by
  obtain ⟨a, c, rfl, h2⟩ := is_form h
  have h3 : 0 < n → ∃ b o, a = some ⟨b, o, none⟩ ∧ n ≤ c ∧ c ≤ maxLen ∧ b < w.heap.size ∧ ∀ i, i < n → w.cell? ⟨b, o + i * 2, none⟩ = some (.string (Mark.text (k + 2 * (i : Int)))) ∧ w.cell? ⟨b, o + i * 2 + 1, none⟩ = some (.string (Mark.text (k + 2 * (i : Int) + 1))) := by
    intro hn
    obtain ⟨b, o, h4, h5, h6, h7, h8⟩ := h2 (by rw [length_marks]; exact hn)
    refine ⟨b, o, h4, by rw [length_marks] at h5; exact h5, h6, h7, fun i hi => ?_⟩
    have := h8 i (by rw [length_marks]; exact hi)
    rw [marks_at k n i hi] at this
    exact this
  rw [length_marks]
  have HA := Num.hide h3
  clear h h2 h3
  go_enter Tryd.func40, Tryd.ntmps40
  go_wp2
  go_loopw [1, 5] (fun kv iv wr => ∃ i : Nat, i ≤ n ∧ kv = .int .i64 (k + 2 * i) ∧ iv = .int .i64 (i : Int) ∧ Hid (Below w.heap.size w wr)) (fun _ iv _ => n - (intOf iv).toNat)
  case atStart => exact ⟨0, by omega, by simp, rfl, Below.refl _ _⟩
  case round =>
    obtain ⟨i, hi, rfl, rfl, HB⟩ := hrel
    by_cases hlt : i < n
    · obtain ⟨b, o, rfl, hc, hm, hblt, hcell⟩ := Num.unhide HA (by omega)
      obtain ⟨g1, g2⟩ := hcell i hlt
      have c1 : wr.cell? ⟨b, o + i * 2, none⟩ = some (.string (Mark.text (k + 2 * (i : Int)))) := by rw [HB.out.cell (p := ⟨b, o + i * 2, none⟩) hblt]; exact g1
      have c2 : wr.cell? ⟨b, o + i * 2 + 1, none⟩ = some (.string (Mark.text (k + 2 * (i : Int) + 1))) := by rw [HB.out.cell (p := ⟨b, o + i * 2 + 1, none⟩) hblt]; exact g2
      have HM1 := Num.hide (fun W => Mark.markText_any (k + 2 * (i : Int)) W (by omega))
      have HM2 := Num.hide (fun W => Mark.markText_any (k + 2 * (i : Int) + 1) W (by omega))
      have hsz := HB.out.size
      generalize Mark.text (k + 2 * (i : Int)) = t1 at c1 HM1
      generalize Mark.text (k + 2 * (i : Int) + 1) = t2 at c2 HM2
      clear hcell g1 g2
      go_wp2
      go_region_with (go_at_call 67; refine (Num.unhide HM1 _).mono ?_; rintro e w2 ⟨rfl, hb2⟩; have d1 := (hb2.cell (p := ⟨b, o + i * 2, none⟩) (by simp; omega)).trans c1; have d2 := (hb2.cell (p := ⟨b, o + i * 2 + 1, none⟩) (by simp; omega)).trans c2)
      all_goals
        have HB2 := Num.hide (HB.out.drew.trans (hb2.mono hsz))
        have hsz2 := HB2.out.size
        clear hb2 d1 c1 c2
        go_wp2
        go_region_with (go_at_call 67; refine (Num.unhide HM2 _).mono ?_; rintro e w3 ⟨rfl, hb3⟩; have d3 := (hb3.cell (p := ⟨b, o + i * 2 + 1, none⟩) (by simp; omega)).trans d2)
        all_goals
          have HB3 := Num.hide (HB2.out.drew.trans (hb3.mono hsz2))
          clear hb3 d2 d3
          go_wp2
          go_roundw
          case rel => exact ⟨i + 1, by omega, by go_num, by go_num, HB3⟩
          case measure => simp [intOf]; omega
    · obtain rfl : i = n := by omega
      go_wp2
      go_ret
      exact ⟨rfl, HB.out⟩
end Flds
end Go.Proofs.YtkogcbnbmdeolaaDoor
namespace Go.Proofs.YtkogcbnbmdeolaaDoor
open Go.RowKit
set_option linter.unusedVariables false
set_option linter.unusedSimpArgs false
namespace Vary

set_option maxRecDepth 100000 in
set_option maxHeartbeats 16000000 in
theorem picked_law (G : World → Prop) (hG : ∀ W W', G W → Below W.heap.size W W' → G W')
    (hi : ∀ (m0 q0 : ByteArray) (v0 : Value) (l0 : List Flds.Fld) (b0 : ByteArray) (s1 : Int) (v1 : Value) (l1 : List Flds.Fld) (b1 : ByteArray) (W : World), Flds.Is W v0 l0 → Flds.Is W v1 l1 → m0.size + q0.size + Flds.bulk l0 + b0.size ≤ 1048576 → Flds.bulk l1 + b1.size ≤ 1048576 → G W → Calls Tryd.prog 20 #[(Req.val m0 q0 v0 b0), (Resp.val s1 v1 b1)] W fun e w' => ∃ v', e = .returned v' ∧ Flds.Own W.heap.size w' v' (picked l0 l1) ∧ Below W.heap.size W w')
    (m0 q0 : ByteArray) (v0 : Value) (l0 : List Flds.Fld) (b0 : ByteArray) (s1 : Int) (v1 : Value) (l1 : List Flds.Fld) (b1 : ByteArray) (w : World) (ha0 : Flds.Arg w v0 l0) (ha1 : Flds.Arg w v1 l1) (hm0 : m0.size ≤ maxLen) (hq0 : q0.size ≤ maxLen) (hb0 : b0.size ≤ maxLen) (hb1 : b1.size ≤ maxLen) (hg : G w) :
    Calls Tryd.prog 7 #[(Req.val m0 q0 v0 b0), (Resp.val s1 v1 b1)] w fun e w' => e = .returned (.bool true) ∧ Below w.heap.size w w' := by
  have A0 := Num.hide ha0
  obtain ⟨aa0, ca0, rfl, _⟩ := Flds.is_form ha0.1
  have A1 := Num.hide ha1
  obtain ⟨aa1, ca1, rfl, _⟩ := Flds.is_form ha1.1
  clear ha0
  clear ha1
  have B0 : Hid (Below w.heap.size w w) := Below.refl _ _
  have sz1_ : w.heap.size ≤ (w.alloc (.cells #[.string m0, .string q0, (Value.slice aa0 l0.length ca0), .string b0] 56)).heap.size := ((Below.refl w.heap.size w).alloc (Nat.le_refl _) (.cells #[.string m0, .string q0, (Value.slice aa0 l0.length ca0), .string b0] 56)).size
  have E1 := Num.hide (Recs.below_step B0.out ((Below.refl w.heap.size w).alloc (Nat.le_refl _) (.cells #[.string m0, .string q0, (Value.slice aa0 l0.length ca0), .string b0] 56)))
  have Xp0_1 := Num.hide (heap_alloc_new w (.cells #[.string m0, .string q0, (Value.slice aa0 l0.length ca0), .string b0] 56))
  have kz1_ : w.heap.size < (w.alloc (.cells #[.string m0, .string q0, (Value.slice aa0 l0.length ca0), .string b0] 56)).heap.size := by simp
  have sz2_ : (w.alloc (.cells #[.string m0, .string q0, (Value.slice aa0 l0.length ca0), .string b0] 56)).heap.size ≤ ((w.alloc (.cells #[.string m0, .string q0, (Value.slice aa0 l0.length ca0), .string b0] 56)).alloc (.cells #[.int .i64 s1, (Value.slice aa1 l1.length ca1), .string b1] 46)).heap.size := ((Below.refl (w.alloc (.cells #[.string m0, .string q0, (Value.slice aa0 l0.length ca0), .string b0] 56)).heap.size (w.alloc (.cells #[.string m0, .string q0, (Value.slice aa0 l0.length ca0), .string b0] 56))).alloc (Nat.le_refl _) (.cells #[.int .i64 s1, (Value.slice aa1 l1.length ca1), .string b1] 46)).size
  have E2 := Num.hide (Recs.below_step E1.out ((Below.refl (w.alloc (.cells #[.string m0, .string q0, (Value.slice aa0 l0.length ca0), .string b0] 56)).heap.size (w.alloc (.cells #[.string m0, .string q0, (Value.slice aa0 l0.length ca0), .string b0] 56))).alloc (Nat.le_refl _) (.cells #[.int .i64 s1, (Value.slice aa1 l1.length ca1), .string b1] 46)))
  have Xp0_2 := Num.hide (Recs.row_step Xp0_1.out ((Below.refl (w.alloc (.cells #[.string m0, .string q0, (Value.slice aa0 l0.length ca0), .string b0] 56)).heap.size (w.alloc (.cells #[.string m0, .string q0, (Value.slice aa0 l0.length ca0), .string b0] 56))).alloc (Nat.le_refl _) (.cells #[.int .i64 s1, (Value.slice aa1 l1.length ca1), .string b1] 46)))
  have Xp1_2 := Num.hide (heap_alloc_new (w.alloc (.cells #[.string m0, .string q0, (Value.slice aa0 l0.length ca0), .string b0] 56)) (.cells #[.int .i64 s1, (Value.slice aa1 l1.length ca1), .string b1] 46))
  have kz2_ : (w.alloc (.cells #[.string m0, .string q0, (Value.slice aa0 l0.length ca0), .string b0] 56)).heap.size < ((w.alloc (.cells #[.string m0, .string q0, (Value.slice aa0 l0.length ca0), .string b0] 56)).alloc (.cells #[.int .i64 s1, (Value.slice aa1 l1.length ca1), .string b1] 46)).heap.size := by simp
  clear E1 Xp0_1
  have Y1 : Hid (((w.alloc (.cells #[.string m0, .string q0, (Value.slice aa0 l0.length ca0), .string b0] 56)).alloc (.cells #[.int .i64 s1, (Value.slice aa1 l1.length ca1), .string b1] 46)).heap[w.heap.size + 1]? = some (.cells #[.int .i64 s1, (Value.slice aa1 l1.length ca1), .string b1] 46)) := by
    have h := Xp1_2.out
    simp only [World.size_alloc] at h
    exact h
  clear Xp1_2
  unfold Req.val Resp.val
  go_enter Tryd.func7, Tryd.ntmps7
  go_upto_region 1 with fail
  have sz0 : w.heap.size + 2 ≤ ((w.alloc (.cells #[.string m0, .string q0, (Value.slice aa0 l0.length ca0), .string b0] 56)).alloc (.cells #[.int .i64 s1, (Value.slice aa1 l1.length ca1), .string b1] 46)).heap.size := by simp only [World.size_alloc]; omega
  clear sz1_ kz1_ kz2_ sz2_
  generalize ((w.alloc (.cells #[.string m0, .string q0, (Value.slice aa0 l0.length ca0), .string b0] 56)).alloc (.cells #[.int .i64 s1, (Value.slice aa1 l1.length ca1), .string b1] 46)) = V0 at E2 Xp0_2 Y1 sz0 ⊢
  have cp0_0 : V0.cell? ⟨w.heap.size, 0, none⟩ = some (.string m0) := Recs.box_cell Xp0_2.out 0
  have cp0_1 : V0.cell? ⟨w.heap.size, 1, none⟩ = some (.string q0) := Recs.box_cell Xp0_2.out 1
  have cp0_2 : V0.cell? ⟨w.heap.size, 2, none⟩ = some ((Value.slice aa0 l0.length ca0)) := Recs.box_cell Xp0_2.out 2
  have cp0_3 : V0.cell? ⟨w.heap.size, 3, none⟩ = some (.string b0) := Recs.box_cell Xp0_2.out 3
  have HZ0 := Num.hide (fun W (h : Flds.Arg W (Value.slice aa0 l0.length ca0) l0) => Req.sz_any m0 q0 (Value.slice aa0 l0.length ca0) l0 b0 (1048576) W h hm0 hq0 hb0 (by omega) (by omega))
  unfold Req.val at HZ0
  by_cases hbk0 : ¬ ((Req.bulk m0 q0 l0 b0 : Nat) : Int) ≤ 1048576
  · rw [Flds.left_no hbk0] at HZ0
    go_wp2_with fail
    refine (HZ0.out _ (Flds.arg_stay A0.out (Nat.le_refl _) E2.out)).mono ?_
    rintro e WX ⟨rfl, hb⟩
    have EX := Num.hide (Recs.below_step E2.out hb)
    clear hb cp0_0 cp0_1 cp0_2 cp0_3
    go_wp2
    go_ret
    exact ⟨rfl, EX.out⟩
  rw [Flds.left_yes (Decidable.not_not.1 hbk0)] at HZ0
  have hn0 := Decidable.not_not.1 hbk0
  have dz0 : decide (1048576 - ((Req.bulk m0 q0 l0 b0 : Nat) : Int) < 0) = false := by simp; omega
  go_wp2_with fail
  refine (HZ0.out _ (Flds.arg_stay A0.out (Nat.le_refl _) E2.out)).mono ?_
  rintro e W3 ⟨rfl, hb⟩
  have sz3_ : V0.heap.size ≤ W3.heap.size := (hb).size
  have E3 := Num.hide (Recs.below_step E2.out (hb))
  have Xp0_3 := Num.hide (Recs.row_step Xp0_2.out (hb))
  have Xp1_3 := Num.hide (Recs.row_step Y1.out (hb))
  clear hb HZ0 hbk0 E2 Xp0_2 Y1
  clear cp0_0 cp0_1 cp0_2 cp0_3
  have cp1_0 : W3.cell? ⟨w.heap.size + 1, 0, none⟩ = some (.int .i64 s1) := Recs.box_cell Xp1_3.out 0
  have cp1_1 : W3.cell? ⟨w.heap.size + 1, 1, none⟩ = some ((Value.slice aa1 l1.length ca1)) := Recs.box_cell Xp1_3.out 1
  have cp1_2 : W3.cell? ⟨w.heap.size + 1, 2, none⟩ = some (.string b1) := Recs.box_cell Xp1_3.out 2
  have HZ1 := Num.hide (fun W (h : Flds.Arg W (Value.slice aa1 l1.length ca1) l1) => Resp.sz_any s1 (Value.slice aa1 l1.length ca1) l1 b1 (1048576 - (Req.bulk m0 q0 l0 b0 : Int)) W h hb1 (by omega) (by omega))
  unfold Resp.val at HZ1
  by_cases hbk1 : ¬ ((Resp.bulk l1 b1 : Nat) : Int) ≤ 1048576 - (Req.bulk m0 q0 l0 b0 : Int)
  · rw [Flds.left_no hbk1] at HZ1
    go_wp2_with fail
    refine (HZ1.out _ (Flds.arg_stay A1.out (Nat.le_refl _) E3.out)).mono ?_
    rintro e WX ⟨rfl, hb⟩
    have EX := Num.hide (Recs.below_step E3.out hb)
    clear hb cp1_0 cp1_1 cp1_2
    go_wp2
    go_ret
    exact ⟨rfl, EX.out⟩
  rw [Flds.left_yes (Decidable.not_not.1 hbk1)] at HZ1
  have hn1 := Decidable.not_not.1 hbk1
  have dz1 : decide (1048576 - (Req.bulk m0 q0 l0 b0 : Int) - ((Resp.bulk l1 b1 : Nat) : Int) < 0) = false := by simp; omega
  go_wp2_with fail
  refine (HZ1.out _ (Flds.arg_stay A1.out (Nat.le_refl _) E3.out)).mono ?_
  rintro e W4 ⟨rfl, hb⟩
  have sz4_ : W3.heap.size ≤ W4.heap.size := (hb).size
  have E4 := Num.hide (Recs.below_step E3.out (hb))
  have Xp0_4 := Num.hide (Recs.row_step Xp0_3.out (hb))
  have Xp1_4 := Num.hide (Recs.row_step Xp1_3.out (hb))
  clear hb HZ1 hbk1 E3 Xp0_3 Xp1_3
  clear cp1_0 cp1_1 cp1_2
  have hk0 : m0.size + q0.size + Flds.bulk l0 + b0.size ≤ 1048576 := by have h := hn0; unfold Req.bulk at h; omega
  have hlen0 : l0.length ≤ 1048576 := by have h2 := Flds.len_le l0; omega
  have hk1 : Flds.bulk l1 + b1.size ≤ 1048576 := by have h := hn1; unfold Resp.bulk at h; omega
  have hlen1 : l1.length ≤ 1048576 := by have h2 := Flds.len_le l1; omega
  have HT0 := Num.hide (fun W h => Req.to_any m0 q0 (Value.slice aa0 l0.length ca0) l0 b0 W h hlen0)
  have HT1 := Num.hide (fun W h => Resp.to_any s1 (Value.slice aa1 l1.length ca1) l1 b1 W h hlen1)
  have HS := Num.hide (fun v0 v1 W h0 h1 => picked_spec m0 q0 s1 v0 v1 l0 l1 b0 b1 W h0 h1 (by omega) (by omega))
  have HI := Num.hide (fun v0 v1 W h0 h1 (hb : Below w.heap.size w W) => hi m0 q0 v0 l0 b0 s1 v1 l1 b1 W h0 h1 hk0 hk1  (hG w W hg hb))
  unfold Req.val Resp.val at HS HI
  unfold Req.val at HT0
  unfold Resp.val at HT1
  have hL : (picked l0 l1).length ≤ 4194304 := by have h := names_len (Sign.split (Flds.get l1 varyName).1); have h2 := Cc.split_len (Flds.get l1 varyName).1; have h3 := Cc.get_bulk l1 varyName (by decide); have h4 := pick_len l0 (varyNames l1); unfold picked; unfold varyNames at *; omega
  generalize picked l0 l1 = L at HS HI hL
  clear hi hG hg
  go_wp2_with fail
  have sz5_ : W4.heap.size ≤ W4.drew.heap.size := ((Below.refl W4.heap.size W4).drew).size
  have E5 := Num.hide (Recs.below_step E4.out ((Below.refl W4.heap.size W4).drew))
  have Xp0_5 := Num.hide (Recs.row_step Xp0_4.out ((Below.refl W4.heap.size W4).drew))
  have Xp1_5 := Num.hide (Recs.row_step Xp1_4.out ((Below.refl W4.heap.size W4).drew))
  clear E4 Xp0_4 Xp1_4
  refine wp_region_held_drew (S := fun W => W.cell? ⟨w.heap.size, 0, none⟩ = some (.string m0) ∧ W.cell? ⟨w.heap.size, 1, none⟩ = some (.string q0) ∧ W.cell? ⟨w.heap.size, 2, none⟩ = some ((Value.slice aa0 l0.length ca0)) ∧ W.cell? ⟨w.heap.size, 3, none⟩ = some (.string b0) ∧ W.cell? ⟨w.heap.size + 1, 0, none⟩ = some (.int .i64 s1) ∧ W.cell? ⟨w.heap.size + 1, 1, none⟩ = some ((Value.slice aa1 l1.length ca1)) ∧ W.cell? ⟨w.heap.size + 1, 2, none⟩ = some (.string b1)) (by kernel_rfl) ⟨Recs.box_cell Xp0_5.out 0, Recs.box_cell Xp0_5.out 1, Recs.box_cell Xp0_5.out 2, Recs.box_cell Xp0_5.out 3, Recs.box_cell Xp1_5.out 0, Recs.box_cell Xp1_5.out 1, Recs.box_cell Xp1_5.out 2⟩ (fun hHeld => ?_)
  refine Reg.take (i := 0) (d := 24) (v := ?_) rfl rfl (by kernel_rfl) (by kernel_rfl) (by kernel_rfl) (fun _ _ _ h => h) (by rfl) ?_ hHeld ?_
  rotate_left
  · rintro W ⟨h0, h1, h2, h3, h4, h5, h6⟩
    first | (go_simp; done) | (go_simp; with_reducible rfl)
  simp only [Act.put, List.setIfInBounds_toArray, List.set_cons_zero, List.set_cons_succ]
  refine Reg.take (i := 2) (d := 26) (v := ?_) rfl rfl (by kernel_rfl) (by kernel_rfl) (by kernel_rfl) (fun _ _ _ h => h) (by rfl) ?_ hHeld ?_
  rotate_left
  · rintro W ⟨h0, h1, h2, h3, h4, h5, h6⟩
    first | (go_simp; done) | (go_simp; with_reducible rfl)
  simp only [Act.put, List.setIfInBounds_toArray, List.set_cons_zero, List.set_cons_succ]
  refine Reg.call (i := 1) rfl (by kernel_rfl) (by rfl) (fun K hK => ?_)
  go_wp2_with (first | (go_at_call 35; refine (HT0.out _ (Flds.arg_stay A0.out (Nat.le_refl _) E5.out).1).mono ?_; rintro e W6 ⟨t6, rfl, ho, hb⟩))
  obtain ⟨at6, ct6, hvt6⟩ := Recs.own_len ho
  subst hvt6
  have sz6_ : W4.drew.heap.size ≤ W6.heap.size := (hb).size
  have E6 := Num.hide (Recs.below_step E5.out (hb))
  have Xp0_6 := Num.hide (Recs.row_step Xp0_5.out (hb))
  have Xp1_6 := Num.hide (Recs.row_step Xp1_5.out (hb))
  have Ot6_6 := Num.hide ho
  have Dt6 : Hid (∀ k, (Value.slice at6 l0.length ct6).ownBlock = some k → k < W6.heap.size) := fun k hk => (Recs.own_lt ho k hk).2
  clear ho hb E5 Xp0_5 Xp1_5
  refine hK.out _ _ ⟨Recs.box_cell Xp0_6.out 0, Recs.box_cell Xp0_6.out 1, Recs.box_cell Xp0_6.out 2, Recs.box_cell Xp0_6.out 3, Recs.box_cell Xp1_6.out 0, Recs.box_cell Xp1_6.out 1, Recs.box_cell Xp1_6.out 2⟩ (fun hHeld2 => ?_)
  clear hK K
  replace hHeld := hHeld2
  clear hHeld2
  refine Reg.call (i := 3) rfl (by kernel_rfl) (by rfl) (fun K hK => ?_)
  go_wp2_with (first | (go_at_call 26; refine (HT1.out _ (Flds.arg_stay A1.out (Nat.le_refl _) E6.out).1).mono ?_; rintro e W7 ⟨t7, rfl, ho, hb⟩))
  obtain ⟨at7, ct7, hvt7⟩ := Recs.own_len ho
  subst hvt7
  have sz7_ : W6.heap.size ≤ W7.heap.size := (hb).size
  have E7 := Num.hide (Recs.below_step E6.out (hb))
  have Ot6_7 := Num.hide (Recs.own_below Ot6_6.out (hb))
  have Xp0_7 := Num.hide (Recs.row_step Xp0_6.out (hb))
  have Xp1_7 := Num.hide (Recs.row_step Xp1_6.out (hb))
  have Ot7_7 := Num.hide ho
  have Dt7 : Hid (∀ k, (Value.slice at7 l1.length ct7).ownBlock = some k → k < W7.heap.size) := fun k hk => (Recs.own_lt ho k hk).2
  clear ho hb E6 Ot6_6 Xp0_6 Xp1_6
  refine hK.out _ _ ⟨Recs.box_cell Xp0_7.out 0, Recs.box_cell Xp0_7.out 1, Recs.box_cell Xp0_7.out 2, Recs.box_cell Xp0_7.out 3, Recs.box_cell Xp1_7.out 0, Recs.box_cell Xp1_7.out 1, Recs.box_cell Xp1_7.out 2⟩ (fun hHeld2 => ?_)
  clear hK K
  replace hHeld := hHeld2
  clear hHeld2
  refine Reg.call (i := 4) rfl (by kernel_rfl) (by rfl) (fun K hK => ?_)
  go_wp2_with (first | (go_at_call 34; refine (HS.out (Value.slice at6 l0.length ct6) (Value.slice at7 l1.length ct7) _ (Recs.own_is Flds.cells_len Ot6_7.out) (Recs.own_is Flds.cells_len Ot7_7.out)).mono ?_; rintro e W8 ⟨r8, rfl, ho, hb⟩))
  obtain ⟨ar8, cr8, hvr8⟩ := Recs.own_len ho
  subst hvr8
  have sz8_ : W7.heap.size ≤ W8.heap.size := (hb).size
  have E8 := Num.hide (Recs.below_step E7.out (hb))
  have Ot6_8 := Num.hide (Recs.own_below Ot6_7.out (hb))
  have Ot7_8 := Num.hide (Recs.own_below Ot7_7.out (hb))
  have Xp0_8 := Num.hide (Recs.row_step Xp0_7.out (hb))
  have Xp1_8 := Num.hide (Recs.row_step Xp1_7.out (hb))
  have Or8_8 := Num.hide ho
  have Dr8 : Hid (∀ k, (Value.slice ar8 L.length cr8).ownBlock = some k → k < W8.heap.size) := fun k hk => (Recs.own_lt ho k hk).2
  clear ho hb E7 Ot6_7 Ot7_7 Xp0_7 Xp1_7
  refine hK.out _ _ ⟨Recs.box_cell Xp0_8.out 0, Recs.box_cell Xp0_8.out 1, Recs.box_cell Xp0_8.out 2, Recs.box_cell Xp0_8.out 3, Recs.box_cell Xp1_8.out 0, Recs.box_cell Xp1_8.out 1, Recs.box_cell Xp1_8.out 2⟩ (fun hHeld2 => ?_)
  clear hK K
  replace hHeld := hHeld2
  clear hHeld2
  refine Reg.take (i := 5) (d := 6) (v := ?_) rfl rfl (by kernel_rfl) (by kernel_rfl) (by kernel_rfl) (fun _ _ _ h => h) (by rfl) ?_ hHeld ?_
  rotate_left
  · rintro W ⟨h0, h1, h2, h3, h4, h5, h6⟩
    first | (go_simp; done) | (go_simp; with_reducible rfl)
  simp only [Act.put, List.setIfInBounds_toArray, List.set_cons_zero, List.set_cons_succ]
  refine wpAnyH_done (by kernel_rfl) ?_ _
  clear hHeld
  have cp0_0 : W8.cell? ⟨w.heap.size, 0, none⟩ = some (.string m0) := Recs.box_cell Xp0_8.out 0
  have cp0_1 : W8.cell? ⟨w.heap.size, 1, none⟩ = some (.string q0) := Recs.box_cell Xp0_8.out 1
  have cp0_2 : W8.cell? ⟨w.heap.size, 2, none⟩ = some ((Value.slice aa0 l0.length ca0)) := Recs.box_cell Xp0_8.out 2
  have cp0_3 : W8.cell? ⟨w.heap.size, 3, none⟩ = some (.string b0) := Recs.box_cell Xp0_8.out 3
  go_wp2_with fail
  refine (HT0.out _ (Flds.arg_stay A0.out (Nat.le_refl _) E8.out).1).mono ?_
  rintro e W9 ⟨t9, rfl, ho, hb⟩
  obtain ⟨at9, ct9, hvt9⟩ := Recs.own_len ho
  subst hvt9
  have sz9_ : W8.heap.size ≤ W9.heap.size := (hb).size
  have E9 := Num.hide (Recs.below_step E8.out (hb))
  have Ot6_9 := Num.hide (Recs.own_below Ot6_8.out (hb))
  have Ot7_9 := Num.hide (Recs.own_below Ot7_8.out (hb))
  have Or8_9 := Num.hide (Recs.own_below Or8_8.out (hb))
  have Xp0_9 := Num.hide (Recs.row_step Xp0_8.out (hb))
  have Xp1_9 := Num.hide (Recs.row_step Xp1_8.out (hb))
  have Ot9_9 := Num.hide ho
  have Dt9 : Hid (∀ k, (Value.slice at9 l0.length ct9).ownBlock = some k → k < W9.heap.size) := fun k hk => (Recs.own_lt ho k hk).2
  clear ho hb E8 Ot6_8 Ot7_8 Or8_8 Xp0_8 Xp1_8
  clear cp0_0 cp0_1 cp0_2 cp0_3
  have sz10_ : W9.heap.size ≤ (W9.alloc (.cells #[.string m0, .string q0, (Value.slice at9 l0.length ct9), .string b0] 32)).heap.size := ((Below.refl W9.heap.size W9).alloc (Nat.le_refl _) (.cells #[.string m0, .string q0, (Value.slice at9 l0.length ct9), .string b0] 32)).size
  have E10 := Num.hide (Recs.below_step E9.out ((Below.refl W9.heap.size W9).alloc (Nat.le_refl _) (.cells #[.string m0, .string q0, (Value.slice at9 l0.length ct9), .string b0] 32)))
  have Ot6_10 := Num.hide (Recs.own_below Ot6_9.out ((Below.refl W9.heap.size W9).alloc (Nat.le_refl _) (.cells #[.string m0, .string q0, (Value.slice at9 l0.length ct9), .string b0] 32)))
  have Ot7_10 := Num.hide (Recs.own_below Ot7_9.out ((Below.refl W9.heap.size W9).alloc (Nat.le_refl _) (.cells #[.string m0, .string q0, (Value.slice at9 l0.length ct9), .string b0] 32)))
  have Or8_10 := Num.hide (Recs.own_below Or8_9.out ((Below.refl W9.heap.size W9).alloc (Nat.le_refl _) (.cells #[.string m0, .string q0, (Value.slice at9 l0.length ct9), .string b0] 32)))
  have Ot9_10 := Num.hide (Recs.own_below Ot9_9.out ((Below.refl W9.heap.size W9).alloc (Nat.le_refl _) (.cells #[.string m0, .string q0, (Value.slice at9 l0.length ct9), .string b0] 32)))
  have Xp0_10 := Num.hide (Recs.row_step Xp0_9.out ((Below.refl W9.heap.size W9).alloc (Nat.le_refl _) (.cells #[.string m0, .string q0, (Value.slice at9 l0.length ct9), .string b0] 32)))
  have Xp1_10 := Num.hide (Recs.row_step Xp1_9.out ((Below.refl W9.heap.size W9).alloc (Nat.le_refl _) (.cells #[.string m0, .string q0, (Value.slice at9 l0.length ct9), .string b0] 32)))
  have Xbt9_10 := Num.hide (heap_alloc_new W9 (.cells #[.string m0, .string q0, (Value.slice at9 l0.length ct9), .string b0] 32))
  have kz10_ : W9.heap.size < (W9.alloc (.cells #[.string m0, .string q0, (Value.slice at9 l0.length ct9), .string b0] 32)).heap.size := by simp
  clear E9 Ot6_9 Ot7_9 Or8_9 Ot9_9 Xp0_9 Xp1_9
  go_upto_region 10 with fail
  generalize (W9.alloc (.cells #[.string m0, .string q0, (Value.slice at9 l0.length ct9), .string b0] 32)) = V10 at E10 Ot6_10 Ot7_10 Or8_10 Ot9_10 Xp0_10 Xp1_10 Xbt9_10 sz10_ kz10_ ⊢
  have cp1_0 : V10.cell? ⟨w.heap.size + 1, 0, none⟩ = some (.int .i64 s1) := Recs.box_cell Xp1_10.out 0
  have cp1_1 : V10.cell? ⟨w.heap.size + 1, 1, none⟩ = some ((Value.slice aa1 l1.length ca1)) := Recs.box_cell Xp1_10.out 1
  have cp1_2 : V10.cell? ⟨w.heap.size + 1, 2, none⟩ = some (.string b1) := Recs.box_cell Xp1_10.out 2
  go_wp2_with fail
  refine (HT1.out _ (Flds.arg_stay A1.out (Nat.le_refl _) E10.out).1).mono ?_
  rintro e W11 ⟨t11, rfl, ho, hb⟩
  obtain ⟨at11, ct11, hvt11⟩ := Recs.own_len ho
  subst hvt11
  have sz11_ : V10.heap.size ≤ W11.heap.size := (hb).size
  have E11 := Num.hide (Recs.below_step E10.out (hb))
  have Ot6_11 := Num.hide (Recs.own_below Ot6_10.out (hb))
  have Ot7_11 := Num.hide (Recs.own_below Ot7_10.out (hb))
  have Or8_11 := Num.hide (Recs.own_below Or8_10.out (hb))
  have Ot9_11 := Num.hide (Recs.own_below Ot9_10.out (hb))
  have Xp0_11 := Num.hide (Recs.row_step Xp0_10.out (hb))
  have Xp1_11 := Num.hide (Recs.row_step Xp1_10.out (hb))
  have Xbt9_11 := Num.hide (Recs.row_step Xbt9_10.out (hb))
  have Ot11_11 := Num.hide ho
  have Dt11 : Hid (∀ k, (Value.slice at11 l1.length ct11).ownBlock = some k → k < W11.heap.size) := fun k hk => (Recs.own_lt ho k hk).2
  clear ho hb E10 Ot6_10 Ot7_10 Or8_10 Ot9_10 Xp0_10 Xp1_10 Xbt9_10
  clear cp1_0 cp1_1 cp1_2
  have sz12_ : W11.heap.size ≤ (W11.alloc (.cells #[.int .i64 s1, (Value.slice at11 l1.length ct11), .string b1] 34)).heap.size := ((Below.refl W11.heap.size W11).alloc (Nat.le_refl _) (.cells #[.int .i64 s1, (Value.slice at11 l1.length ct11), .string b1] 34)).size
  have E12 := Num.hide (Recs.below_step E11.out ((Below.refl W11.heap.size W11).alloc (Nat.le_refl _) (.cells #[.int .i64 s1, (Value.slice at11 l1.length ct11), .string b1] 34)))
  have Ot6_12 := Num.hide (Recs.own_below Ot6_11.out ((Below.refl W11.heap.size W11).alloc (Nat.le_refl _) (.cells #[.int .i64 s1, (Value.slice at11 l1.length ct11), .string b1] 34)))
  have Ot7_12 := Num.hide (Recs.own_below Ot7_11.out ((Below.refl W11.heap.size W11).alloc (Nat.le_refl _) (.cells #[.int .i64 s1, (Value.slice at11 l1.length ct11), .string b1] 34)))
  have Or8_12 := Num.hide (Recs.own_below Or8_11.out ((Below.refl W11.heap.size W11).alloc (Nat.le_refl _) (.cells #[.int .i64 s1, (Value.slice at11 l1.length ct11), .string b1] 34)))
  have Ot9_12 := Num.hide (Recs.own_below Ot9_11.out ((Below.refl W11.heap.size W11).alloc (Nat.le_refl _) (.cells #[.int .i64 s1, (Value.slice at11 l1.length ct11), .string b1] 34)))
  have Ot11_12 := Num.hide (Recs.own_below Ot11_11.out ((Below.refl W11.heap.size W11).alloc (Nat.le_refl _) (.cells #[.int .i64 s1, (Value.slice at11 l1.length ct11), .string b1] 34)))
  have Xp0_12 := Num.hide (Recs.row_step Xp0_11.out ((Below.refl W11.heap.size W11).alloc (Nat.le_refl _) (.cells #[.int .i64 s1, (Value.slice at11 l1.length ct11), .string b1] 34)))
  have Xp1_12 := Num.hide (Recs.row_step Xp1_11.out ((Below.refl W11.heap.size W11).alloc (Nat.le_refl _) (.cells #[.int .i64 s1, (Value.slice at11 l1.length ct11), .string b1] 34)))
  have Xbt9_12 := Num.hide (Recs.row_step Xbt9_11.out ((Below.refl W11.heap.size W11).alloc (Nat.le_refl _) (.cells #[.int .i64 s1, (Value.slice at11 l1.length ct11), .string b1] 34)))
  have Xbt11_12 := Num.hide (heap_alloc_new W11 (.cells #[.int .i64 s1, (Value.slice at11 l1.length ct11), .string b1] 34))
  have kz12_ : W11.heap.size < (W11.alloc (.cells #[.int .i64 s1, (Value.slice at11 l1.length ct11), .string b1] 34)).heap.size := by simp
  clear E11 Ot6_11 Ot7_11 Or8_11 Ot9_11 Ot11_11 Xp0_11 Xp1_11 Xbt9_11
  go_upto_region 11 with fail
  generalize (W11.alloc (.cells #[.int .i64 s1, (Value.slice at11 l1.length ct11), .string b1] 34)) = V12 at E12 Ot6_12 Ot7_12 Or8_12 Ot9_12 Ot11_12 Xp0_12 Xp1_12 Xbt9_12 Xbt11_12 sz12_ kz12_ ⊢
  have cbt9_0 : V12.cell? ⟨W9.heap.size, 0, none⟩ = some (.string m0) := Recs.box_cell Xbt9_12.out 0
  have cbt9_1 : V12.cell? ⟨W9.heap.size, 1, none⟩ = some (.string q0) := Recs.box_cell Xbt9_12.out 1
  have cbt9_2 : V12.cell? ⟨W9.heap.size, 2, none⟩ = some ((Value.slice at9 l0.length ct9)) := Recs.box_cell Xbt9_12.out 2
  have cbt9_3 : V12.cell? ⟨W9.heap.size, 3, none⟩ = some (.string b0) := Recs.box_cell Xbt9_12.out 3
  have cbt11_0 : V12.cell? ⟨W11.heap.size, 0, none⟩ = some (.int .i64 s1) := Recs.box_cell Xbt11_12.out 0
  have cbt11_1 : V12.cell? ⟨W11.heap.size, 1, none⟩ = some ((Value.slice at11 l1.length ct11)) := Recs.box_cell Xbt11_12.out 1
  have cbt11_2 : V12.cell? ⟨W11.heap.size, 2, none⟩ = some (.string b1) := Recs.box_cell Xbt11_12.out 2
  go_wp2_with fail
  refine (HI.out (Value.slice at9 l0.length ct9) (Value.slice at11 l1.length ct11) _ (Recs.own_is Flds.cells_len Ot9_12.out) (Recs.own_is Flds.cells_len Ot11_12.out) E12.out).mono ?_
  rintro e W13 ⟨r13, rfl, ho, hb⟩
  obtain ⟨ar13, cr13, hvr13⟩ := Recs.own_len ho
  subst hvr13
  have sz13_ : V12.heap.size ≤ W13.heap.size := (hb).size
  have E13 := Num.hide (Recs.below_step E12.out (hb))
  have Ot6_13 := Num.hide (Recs.own_below Ot6_12.out (hb))
  have Ot7_13 := Num.hide (Recs.own_below Ot7_12.out (hb))
  have Or8_13 := Num.hide (Recs.own_below Or8_12.out (hb))
  have Ot9_13 := Num.hide (Recs.own_below Ot9_12.out (hb))
  have Ot11_13 := Num.hide (Recs.own_below Ot11_12.out (hb))
  have Xp0_13 := Num.hide (Recs.row_step Xp0_12.out (hb))
  have Xp1_13 := Num.hide (Recs.row_step Xp1_12.out (hb))
  have Xbt9_13 := Num.hide (Recs.row_step Xbt9_12.out (hb))
  have Xbt11_13 := Num.hide (Recs.row_step Xbt11_12.out (hb))
  have Or13_13 := Num.hide ho
  have Dr13 : Hid (∀ k, (Value.slice ar13 L.length cr13).ownBlock = some k → k < W13.heap.size) := fun k hk => (Recs.own_lt ho k hk).2
  clear ho hb E12 Ot6_12 Ot7_12 Or8_12 Ot9_12 Ot11_12 Xp0_12 Xp1_12 Xbt9_12 Xbt11_12
  clear cbt9_0 cbt9_1 cbt9_2 cbt9_3 cbt11_0 cbt11_1 cbt11_2
  have HC := Num.hide (Flds.eq_any (Value.slice ar13 L.length cr13) (Value.slice ar8 L.length cr8) L L _ (Recs.own_is Flds.cells_len Or13_13.out) (Recs.own_is Flds.cells_len Or8_13.out) (by omega))
  rw [decide_eq_true (rfl : L = L)] at HC
  go_wp2_with fail
  refine HC.out.mono ?_
  clear HC
  rintro e W14 ⟨rfl, hb⟩
  have sz14_ : W13.heap.size ≤ W14.heap.size := (hb).size
  have E14 := Num.hide (Recs.below_step E13.out (hb))
  have Ot6_14 := Num.hide (Recs.own_below Ot6_13.out (hb))
  have Ot7_14 := Num.hide (Recs.own_below Ot7_13.out (hb))
  have Or8_14 := Num.hide (Recs.own_below Or8_13.out (hb))
  have Ot9_14 := Num.hide (Recs.own_below Ot9_13.out (hb))
  have Ot11_14 := Num.hide (Recs.own_below Ot11_13.out (hb))
  have Or13_14 := Num.hide (Recs.own_below Or13_13.out (hb))
  have Xp0_14 := Num.hide (Recs.row_step Xp0_13.out (hb))
  have Xp1_14 := Num.hide (Recs.row_step Xp1_13.out (hb))
  have Xbt9_14 := Num.hide (Recs.row_step Xbt9_13.out (hb))
  have Xbt11_14 := Num.hide (Recs.row_step Xbt11_13.out (hb))
  clear hb E13 Ot6_13 Ot7_13 Or8_13 Ot9_13 Ot11_13 Or13_13 Xp0_13 Xp1_13 Xbt9_13 Xbt11_13
  go_wp2_with fail
  have sz15_ : W14.heap.size ≤ W14.drew.heap.size := ((Below.refl W14.heap.size W14).drew).size
  have E15 := Num.hide (Recs.below_step E14.out ((Below.refl W14.heap.size W14).drew))
  have Ot6_15 := Num.hide (Recs.own_below Ot6_14.out ((Below.refl W14.heap.size W14).drew))
  have Ot7_15 := Num.hide (Recs.own_below Ot7_14.out ((Below.refl W14.heap.size W14).drew))
  have Or8_15 := Num.hide (Recs.own_below Or8_14.out ((Below.refl W14.heap.size W14).drew))
  have Ot9_15 := Num.hide (Recs.own_below Ot9_14.out ((Below.refl W14.heap.size W14).drew))
  have Ot11_15 := Num.hide (Recs.own_below Ot11_14.out ((Below.refl W14.heap.size W14).drew))
  have Or13_15 := Num.hide (Recs.own_below Or13_14.out ((Below.refl W14.heap.size W14).drew))
  have Xp0_15 := Num.hide (Recs.row_step Xp0_14.out ((Below.refl W14.heap.size W14).drew))
  have Xp1_15 := Num.hide (Recs.row_step Xp1_14.out ((Below.refl W14.heap.size W14).drew))
  have Xbt9_15 := Num.hide (Recs.row_step Xbt9_14.out ((Below.refl W14.heap.size W14).drew))
  have Xbt11_15 := Num.hide (Recs.row_step Xbt11_14.out ((Below.refl W14.heap.size W14).drew))
  clear E14 Ot6_14 Ot7_14 Or8_14 Ot9_14 Ot11_14 Or13_14 Xp0_14 Xp1_14 Xbt9_14 Xbt11_14
  refine wp_region_held_drew (S := fun W => W.cell? ⟨W9.heap.size, 0, none⟩ = some (.string m0) ∧ W.cell? ⟨W9.heap.size, 1, none⟩ = some (.string q0) ∧ W.cell? ⟨W9.heap.size, 2, none⟩ = some ((Value.slice at9 l0.length ct9)) ∧ W.cell? ⟨W9.heap.size, 3, none⟩ = some (.string b0) ∧ W.cell? ⟨w.heap.size, 0, none⟩ = some (.string m0) ∧ W.cell? ⟨w.heap.size, 1, none⟩ = some (.string q0) ∧ W.cell? ⟨w.heap.size, 2, none⟩ = some ((Value.slice aa0 l0.length ca0)) ∧ W.cell? ⟨w.heap.size, 3, none⟩ = some (.string b0)) (by kernel_rfl) ⟨Recs.box_cell Xbt9_15.out 0, Recs.box_cell Xbt9_15.out 1, Recs.box_cell Xbt9_15.out 2, Recs.box_cell Xbt9_15.out 3, Recs.box_cell Xp0_15.out 0, Recs.box_cell Xp0_15.out 1, Recs.box_cell Xp0_15.out 2, Recs.box_cell Xp0_15.out 3⟩ (fun hHeld => ?_)
  refine Reg.take (i := 0) (d := 40) (v := ?_) rfl rfl (by kernel_rfl) (by kernel_rfl) (by kernel_rfl) (fun _ _ _ h => h) (by rfl) ?_ hHeld ?_
  rotate_left
  · rintro W ⟨h0, h1, h2, h3, h4, h5, h6, h7⟩
    first | (go_simp; done) | (go_simp; with_reducible rfl)
  simp only [Act.put, List.setIfInBounds_toArray, List.set_cons_zero, List.set_cons_succ]
  refine Reg.take (i := 1) (d := 41) (v := ?_) rfl rfl (by kernel_rfl) (by kernel_rfl) (by kernel_rfl) (fun _ _ _ h => h) (by rfl) ?_ hHeld ?_
  rotate_left
  · rintro W ⟨h0, h1, h2, h3, h4, h5, h6, h7⟩
    first | (go_simp; done) | (go_simp; with_reducible rfl)
  simp only [Act.put, List.setIfInBounds_toArray, List.set_cons_zero, List.set_cons_succ]
  refine Reg.call (i := 2) rfl (by kernel_rfl) (by rfl) (fun K hK => ?_)
  go_wp2_with (first | (go_at_call 35; refine (HT0.out _ (Flds.arg_stay A0.out (Nat.le_refl _) E15.out).1).mono ?_; rintro e W16 ⟨t16, rfl, ho, hb⟩))
  obtain ⟨at16, ct16, hvt16⟩ := Recs.own_len ho
  subst hvt16
  have sz16_ : W14.drew.heap.size ≤ W16.heap.size := (hb).size
  have E16 := Num.hide (Recs.below_step E15.out (hb))
  have Ot6_16 := Num.hide (Recs.own_below Ot6_15.out (hb))
  have Ot7_16 := Num.hide (Recs.own_below Ot7_15.out (hb))
  have Or8_16 := Num.hide (Recs.own_below Or8_15.out (hb))
  have Ot9_16 := Num.hide (Recs.own_below Ot9_15.out (hb))
  have Ot11_16 := Num.hide (Recs.own_below Ot11_15.out (hb))
  have Or13_16 := Num.hide (Recs.own_below Or13_15.out (hb))
  have Xp0_16 := Num.hide (Recs.row_step Xp0_15.out (hb))
  have Xp1_16 := Num.hide (Recs.row_step Xp1_15.out (hb))
  have Xbt9_16 := Num.hide (Recs.row_step Xbt9_15.out (hb))
  have Xbt11_16 := Num.hide (Recs.row_step Xbt11_15.out (hb))
  have Ot16_16 := Num.hide ho
  have Dt16 : Hid (∀ k, (Value.slice at16 l0.length ct16).ownBlock = some k → k < W16.heap.size) := fun k hk => (Recs.own_lt ho k hk).2
  clear ho hb E15 Ot6_15 Ot7_15 Or8_15 Ot9_15 Ot11_15 Or13_15 Xp0_15 Xp1_15 Xbt9_15 Xbt11_15
  refine hK.out _ _ ⟨Recs.box_cell Xbt9_16.out 0, Recs.box_cell Xbt9_16.out 1, Recs.box_cell Xbt9_16.out 2, Recs.box_cell Xbt9_16.out 3, Recs.box_cell Xp0_16.out 0, Recs.box_cell Xp0_16.out 1, Recs.box_cell Xp0_16.out 2, Recs.box_cell Xp0_16.out 3⟩ (fun hHeld2 => ?_)
  clear hK K
  replace hHeld := hHeld2
  clear hHeld2
  refine Reg.call (i := 3) rfl (by kernel_rfl) (by rfl) (fun K hK => ?_)
  have HC := Num.hide (Req.eq_any m0 m0 q0 q0 (Value.slice at9 l0.length ct9) (Value.slice at16 l0.length ct16) l0 l0 b0 b0 _ (Recs.own_is Flds.cells_len Ot9_16.out) (Recs.own_is Flds.cells_len Ot16_16.out) (by omega))
  unfold Req.val at HC
  rw [decide_eq_true ⟨rfl, rfl, rfl, rfl⟩] at HC
  go_wp2_with (first | (go_at_call 37; refine (HC.out).mono ?_; rintro e W17 ⟨rfl, hb⟩))
  clear HC
  have sz17_ : W16.heap.size ≤ W17.heap.size := (hb).size
  have E17 := Num.hide (Recs.below_step E16.out (hb))
  have Ot6_17 := Num.hide (Recs.own_below Ot6_16.out (hb))
  have Ot7_17 := Num.hide (Recs.own_below Ot7_16.out (hb))
  have Or8_17 := Num.hide (Recs.own_below Or8_16.out (hb))
  have Ot9_17 := Num.hide (Recs.own_below Ot9_16.out (hb))
  have Ot11_17 := Num.hide (Recs.own_below Ot11_16.out (hb))
  have Or13_17 := Num.hide (Recs.own_below Or13_16.out (hb))
  have Ot16_17 := Num.hide (Recs.own_below Ot16_16.out (hb))
  have Xp0_17 := Num.hide (Recs.row_step Xp0_16.out (hb))
  have Xp1_17 := Num.hide (Recs.row_step Xp1_16.out (hb))
  have Xbt9_17 := Num.hide (Recs.row_step Xbt9_16.out (hb))
  have Xbt11_17 := Num.hide (Recs.row_step Xbt11_16.out (hb))
  clear hb E16 Ot6_16 Ot7_16 Or8_16 Ot9_16 Ot11_16 Or13_16 Ot16_16 Xp0_16 Xp1_16 Xbt9_16 Xbt11_16
  refine hK.out _ _ ⟨Recs.box_cell Xbt9_17.out 0, Recs.box_cell Xbt9_17.out 1, Recs.box_cell Xbt9_17.out 2, Recs.box_cell Xbt9_17.out 3, Recs.box_cell Xp0_17.out 0, Recs.box_cell Xp0_17.out 1, Recs.box_cell Xp0_17.out 2, Recs.box_cell Xp0_17.out 3⟩ (fun hHeld2 => ?_)
  clear hK K
  replace hHeld := hHeld2
  clear hHeld2
  refine Reg.take (i := 4) (d := 44) (v := ?_) rfl rfl (by kernel_rfl) (by kernel_rfl) (by kernel_rfl) (fun _ _ _ h => h) (by rfl) ?_ hHeld ?_
  rotate_left
  · rintro W ⟨h0, h1, h2, h3, h4, h5, h6, h7⟩
    first | (go_simp; done) | (go_simp; with_reducible rfl)
  simp only [Act.put, List.setIfInBounds_toArray, List.set_cons_zero, List.set_cons_succ]
  refine wpAnyH_done (by kernel_rfl) ?_ _
  clear hHeld
  go_wp2_with fail
  have sz18_ : W17.heap.size ≤ W17.drew.heap.size := ((Below.refl W17.heap.size W17).drew).size
  have E18 := Num.hide (Recs.below_step E17.out ((Below.refl W17.heap.size W17).drew))
  have Ot6_18 := Num.hide (Recs.own_below Ot6_17.out ((Below.refl W17.heap.size W17).drew))
  have Ot7_18 := Num.hide (Recs.own_below Ot7_17.out ((Below.refl W17.heap.size W17).drew))
  have Or8_18 := Num.hide (Recs.own_below Or8_17.out ((Below.refl W17.heap.size W17).drew))
  have Ot9_18 := Num.hide (Recs.own_below Ot9_17.out ((Below.refl W17.heap.size W17).drew))
  have Ot11_18 := Num.hide (Recs.own_below Ot11_17.out ((Below.refl W17.heap.size W17).drew))
  have Or13_18 := Num.hide (Recs.own_below Or13_17.out ((Below.refl W17.heap.size W17).drew))
  have Ot16_18 := Num.hide (Recs.own_below Ot16_17.out ((Below.refl W17.heap.size W17).drew))
  have Xp0_18 := Num.hide (Recs.row_step Xp0_17.out ((Below.refl W17.heap.size W17).drew))
  have Xp1_18 := Num.hide (Recs.row_step Xp1_17.out ((Below.refl W17.heap.size W17).drew))
  have Xbt9_18 := Num.hide (Recs.row_step Xbt9_17.out ((Below.refl W17.heap.size W17).drew))
  have Xbt11_18 := Num.hide (Recs.row_step Xbt11_17.out ((Below.refl W17.heap.size W17).drew))
  clear E17 Ot6_17 Ot7_17 Or8_17 Ot9_17 Ot11_17 Or13_17 Ot16_17 Xp0_17 Xp1_17 Xbt9_17 Xbt11_17
  refine wp_region_held_drew (S := fun W => W.cell? ⟨W11.heap.size, 0, none⟩ = some (.int .i64 s1) ∧ W.cell? ⟨W11.heap.size, 1, none⟩ = some ((Value.slice at11 l1.length ct11)) ∧ W.cell? ⟨W11.heap.size, 2, none⟩ = some (.string b1) ∧ W.cell? ⟨w.heap.size + 1, 0, none⟩ = some (.int .i64 s1) ∧ W.cell? ⟨w.heap.size + 1, 1, none⟩ = some ((Value.slice aa1 l1.length ca1)) ∧ W.cell? ⟨w.heap.size + 1, 2, none⟩ = some (.string b1)) (by kernel_rfl) ⟨Recs.box_cell Xbt11_18.out 0, Recs.box_cell Xbt11_18.out 1, Recs.box_cell Xbt11_18.out 2, Recs.box_cell Xp1_18.out 0, Recs.box_cell Xp1_18.out 1, Recs.box_cell Xp1_18.out 2⟩ (fun hHeld => ?_)
  refine Reg.take (i := 0) (d := 45) (v := ?_) rfl rfl (by kernel_rfl) (by kernel_rfl) (by kernel_rfl) (fun _ _ _ h => h) (by rfl) ?_ hHeld ?_
  rotate_left
  · rintro W ⟨h0, h1, h2, h3, h4, h5⟩
    first | (go_simp; done) | (go_simp; with_reducible rfl)
  simp only [Act.put, List.setIfInBounds_toArray, List.set_cons_zero, List.set_cons_succ]
  refine Reg.take (i := 1) (d := 46) (v := ?_) rfl rfl (by kernel_rfl) (by kernel_rfl) (by kernel_rfl) (fun _ _ _ h => h) (by rfl) ?_ hHeld ?_
  rotate_left
  · rintro W ⟨h0, h1, h2, h3, h4, h5⟩
    first | (go_simp; done) | (go_simp; with_reducible rfl)
  simp only [Act.put, List.setIfInBounds_toArray, List.set_cons_zero, List.set_cons_succ]
  refine Reg.call (i := 2) rfl (by kernel_rfl) (by rfl) (fun K hK => ?_)
  go_wp2_with (first | (go_at_call 26; refine (HT1.out _ (Flds.arg_stay A1.out (Nat.le_refl _) E18.out).1).mono ?_; rintro e W19 ⟨t19, rfl, ho, hb⟩))
  obtain ⟨at19, ct19, hvt19⟩ := Recs.own_len ho
  subst hvt19
  have sz19_ : W17.drew.heap.size ≤ W19.heap.size := (hb).size
  have E19 := Num.hide (Recs.below_step E18.out (hb))
  have Ot6_19 := Num.hide (Recs.own_below Ot6_18.out (hb))
  have Ot7_19 := Num.hide (Recs.own_below Ot7_18.out (hb))
  have Or8_19 := Num.hide (Recs.own_below Or8_18.out (hb))
  have Ot9_19 := Num.hide (Recs.own_below Ot9_18.out (hb))
  have Ot11_19 := Num.hide (Recs.own_below Ot11_18.out (hb))
  have Or13_19 := Num.hide (Recs.own_below Or13_18.out (hb))
  have Ot16_19 := Num.hide (Recs.own_below Ot16_18.out (hb))
  have Xp0_19 := Num.hide (Recs.row_step Xp0_18.out (hb))
  have Xp1_19 := Num.hide (Recs.row_step Xp1_18.out (hb))
  have Xbt9_19 := Num.hide (Recs.row_step Xbt9_18.out (hb))
  have Xbt11_19 := Num.hide (Recs.row_step Xbt11_18.out (hb))
  have Ot19_19 := Num.hide ho
  have Dt19 : Hid (∀ k, (Value.slice at19 l1.length ct19).ownBlock = some k → k < W19.heap.size) := fun k hk => (Recs.own_lt ho k hk).2
  clear ho hb E18 Ot6_18 Ot7_18 Or8_18 Ot9_18 Ot11_18 Or13_18 Ot16_18 Xp0_18 Xp1_18 Xbt9_18 Xbt11_18
  refine hK.out _ _ ⟨Recs.box_cell Xbt11_19.out 0, Recs.box_cell Xbt11_19.out 1, Recs.box_cell Xbt11_19.out 2, Recs.box_cell Xp1_19.out 0, Recs.box_cell Xp1_19.out 1, Recs.box_cell Xp1_19.out 2⟩ (fun hHeld2 => ?_)
  clear hK K
  replace hHeld := hHeld2
  clear hHeld2
  refine Reg.call (i := 3) rfl (by kernel_rfl) (by rfl) (fun K hK => ?_)
  have HC := Num.hide (Resp.eq_any s1 s1 (Value.slice at11 l1.length ct11) (Value.slice at19 l1.length ct19) l1 l1 b1 b1 _ (Recs.own_is Flds.cells_len Ot11_19.out) (Recs.own_is Flds.cells_len Ot19_19.out) (by omega))
  unfold Resp.val at HC
  rw [decide_eq_true ⟨rfl, rfl, rfl⟩] at HC
  go_wp2_with (first | (go_at_call 28; refine (HC.out).mono ?_; rintro e W20 ⟨rfl, hb⟩))
  clear HC
  have sz20_ : W19.heap.size ≤ W20.heap.size := (hb).size
  have E20 := Num.hide (Recs.below_step E19.out (hb))
  have Ot6_20 := Num.hide (Recs.own_below Ot6_19.out (hb))
  have Ot7_20 := Num.hide (Recs.own_below Ot7_19.out (hb))
  have Or8_20 := Num.hide (Recs.own_below Or8_19.out (hb))
  have Ot9_20 := Num.hide (Recs.own_below Ot9_19.out (hb))
  have Ot11_20 := Num.hide (Recs.own_below Ot11_19.out (hb))
  have Or13_20 := Num.hide (Recs.own_below Or13_19.out (hb))
  have Ot16_20 := Num.hide (Recs.own_below Ot16_19.out (hb))
  have Ot19_20 := Num.hide (Recs.own_below Ot19_19.out (hb))
  have Xp0_20 := Num.hide (Recs.row_step Xp0_19.out (hb))
  have Xp1_20 := Num.hide (Recs.row_step Xp1_19.out (hb))
  have Xbt9_20 := Num.hide (Recs.row_step Xbt9_19.out (hb))
  have Xbt11_20 := Num.hide (Recs.row_step Xbt11_19.out (hb))
  clear hb E19 Ot6_19 Ot7_19 Or8_19 Ot9_19 Ot11_19 Or13_19 Ot16_19 Ot19_19 Xp0_19 Xp1_19 Xbt9_19 Xbt11_19
  refine hK.out _ _ ⟨Recs.box_cell Xbt11_20.out 0, Recs.box_cell Xbt11_20.out 1, Recs.box_cell Xbt11_20.out 2, Recs.box_cell Xp1_20.out 0, Recs.box_cell Xp1_20.out 1, Recs.box_cell Xp1_20.out 2⟩ (fun hHeld2 => ?_)
  clear hK K
  replace hHeld := hHeld2
  clear hHeld2
  refine Reg.take (i := 4) (d := 49) (v := ?_) rfl rfl (by kernel_rfl) (by kernel_rfl) (by kernel_rfl) (fun _ _ _ h => h) (by rfl) ?_ hHeld ?_
  rotate_left
  · rintro W ⟨h0, h1, h2, h3, h4, h5⟩
    first | (go_simp; done) | (go_simp; with_reducible rfl)
  simp only [Act.put, List.setIfInBounds_toArray, List.set_cons_zero, List.set_cons_succ]
  refine wpAnyH_done (by kernel_rfl) ?_ _
  clear hHeld
  have cbt9_0 : W20.cell? ⟨W9.heap.size, 0, none⟩ = some (.string m0) := Recs.box_cell Xbt9_20.out 0
  have cbt9_1 : W20.cell? ⟨W9.heap.size, 1, none⟩ = some (.string q0) := Recs.box_cell Xbt9_20.out 1
  have cbt9_2 : W20.cell? ⟨W9.heap.size, 2, none⟩ = some ((Value.slice at9 l0.length ct9)) := Recs.box_cell Xbt9_20.out 2
  have cbt9_3 : W20.cell? ⟨W9.heap.size, 3, none⟩ = some (.string b0) := Recs.box_cell Xbt9_20.out 3
  have HC := Num.hide (Req.mark_any m0 q0 b0 _ (Value.slice at9 l0.length ct9) l0 1 _ Ot9_20.out (by omega) (by omega) (by omega))
  unfold Req.val at HC
  go_wp2_with fail
  refine HC.out.mono ?_
  clear HC
  rintro e W21 ⟨rfl, ho, hg⟩
  have sz21_ : W20.heap.size ≤ W21.heap.size := hg.size
  have hlo : w.heap.size ≤ W8.heap.size := by omega
  have hlc : w.heap.size ≤ W20.heap.size := by omega
  have E21 := Num.hide (E20.out.trans (Recs.below_mark Ot9_20.out hlo hlc hg))
  have Ot6_21 := Num.hide (Recs.own_kept Ot6_20.out hg (Recs.apart (fun k hk => ⟨(Recs.own_lt Ot6_20.out k hk).1, Dt6.out k hk⟩) (fun k hk => ⟨(Recs.own_lt Ot9_20.out k hk).1, Dt9.out k hk⟩) (by omega)))
  have Ot7_21 := Num.hide (Recs.own_kept Ot7_20.out hg (Recs.apart (fun k hk => ⟨(Recs.own_lt Ot7_20.out k hk).1, Dt7.out k hk⟩) (fun k hk => ⟨(Recs.own_lt Ot9_20.out k hk).1, Dt9.out k hk⟩) (by omega)))
  have Or8_21 := Num.hide (Recs.own_kept Or8_20.out hg (Recs.apart (fun k hk => ⟨(Recs.own_lt Or8_20.out k hk).1, Dr8.out k hk⟩) (fun k hk => ⟨(Recs.own_lt Ot9_20.out k hk).1, Dt9.out k hk⟩) (by omega)))
  have Ot11_21 := Num.hide (Recs.own_kept Ot11_20.out hg (Recs.apart (fun k hk => ⟨(Recs.own_lt Ot11_20.out k hk).1, Dt11.out k hk⟩) (fun k hk => ⟨(Recs.own_lt Ot9_20.out k hk).1, Dt9.out k hk⟩) (by omega)))
  have Or13_21 := Num.hide (Recs.own_kept Or13_20.out hg (Recs.apart (fun k hk => ⟨(Recs.own_lt Or13_20.out k hk).1, Dr13.out k hk⟩) (fun k hk => ⟨(Recs.own_lt Ot9_20.out k hk).1, Dt9.out k hk⟩) (by omega)))
  have Ot16_21 := Num.hide (Recs.own_kept Ot16_20.out hg (Recs.apart (fun k hk => ⟨(Recs.own_lt Ot16_20.out k hk).1, Dt16.out k hk⟩) (fun k hk => ⟨(Recs.own_lt Ot9_20.out k hk).1, Dt9.out k hk⟩) (by omega)))
  have Ot19_21 := Num.hide (Recs.own_kept Ot19_20.out hg (Recs.apart (fun k hk => ⟨(Recs.own_lt Ot19_20.out k hk).1, Dt19.out k hk⟩) (fun k hk => ⟨(Recs.own_lt Ot9_20.out k hk).1, Dt9.out k hk⟩) (by omega)))
  have Xp0_21 := Num.hide (Recs.row_kept Xp0_20.out hg (fun e => by have h1 := Dt9.out _ e; have h2 := (Recs.own_lt Ot9_20.out _ e).1; omega))
  have Xp1_21 := Num.hide (Recs.row_kept Xp1_20.out hg (fun e => by have h1 := Dt9.out _ e; have h2 := (Recs.own_lt Ot9_20.out _ e).1; omega))
  have Xbt9_21 := Num.hide (Recs.row_kept Xbt9_20.out hg (fun e => by have h1 := Dt9.out _ e; have h2 := (Recs.own_lt Ot9_20.out _ e).1; omega))
  have Xbt11_21 := Num.hide (Recs.row_kept Xbt11_20.out hg (fun e => by have h1 := Dt9.out _ e; have h2 := (Recs.own_lt Ot9_20.out _ e).1; omega))
  have Ot9_21 := Num.hide ho
  clear ho hg hlo hlc E20 Ot9_20 Ot6_20 Ot7_20 Or8_20 Ot11_20 Or13_20 Ot16_20 Ot19_20 Xp0_20 Xp1_20 Xbt9_20 Xbt11_20
  clear cbt9_0 cbt9_1 cbt9_2 cbt9_3
  have dk1 : decide ((1 + 2 * l0.length : Int) < 0) = false := by simp; omega
  have cbt11_0 : W21.cell? ⟨W11.heap.size, 0, none⟩ = some (.int .i64 s1) := Recs.box_cell Xbt11_21.out 0
  have cbt11_1 : W21.cell? ⟨W11.heap.size, 1, none⟩ = some ((Value.slice at11 l1.length ct11)) := Recs.box_cell Xbt11_21.out 1
  have cbt11_2 : W21.cell? ⟨W11.heap.size, 2, none⟩ = some (.string b1) := Recs.box_cell Xbt11_21.out 2
  have HC := Num.hide (Resp.mark_any s1 b1 _ (Value.slice at11 l1.length ct11) l1 (1 + 2 * l0.length) _ Ot11_21.out (by omega) (by omega) (by omega))
  unfold Resp.val at HC
  go_wp2_with fail
  refine HC.out.mono ?_
  clear HC
  rintro e W22 ⟨rfl, ho, hg⟩
  have sz22_ : W21.heap.size ≤ W22.heap.size := hg.size
  have hlo : w.heap.size ≤ V10.heap.size := by omega
  have hlc : w.heap.size ≤ W21.heap.size := by omega
  have E22 := Num.hide (E21.out.trans (Recs.below_mark Ot11_21.out hlo hlc hg))
  have Ot6_22 := Num.hide (Recs.own_kept Ot6_21.out hg (Recs.apart (fun k hk => ⟨(Recs.own_lt Ot6_21.out k hk).1, Dt6.out k hk⟩) (fun k hk => ⟨(Recs.own_lt Ot11_21.out k hk).1, Dt11.out k hk⟩) (by omega)))
  have Ot7_22 := Num.hide (Recs.own_kept Ot7_21.out hg (Recs.apart (fun k hk => ⟨(Recs.own_lt Ot7_21.out k hk).1, Dt7.out k hk⟩) (fun k hk => ⟨(Recs.own_lt Ot11_21.out k hk).1, Dt11.out k hk⟩) (by omega)))
  have Or8_22 := Num.hide (Recs.own_kept Or8_21.out hg (Recs.apart (fun k hk => ⟨(Recs.own_lt Or8_21.out k hk).1, Dr8.out k hk⟩) (fun k hk => ⟨(Recs.own_lt Ot11_21.out k hk).1, Dt11.out k hk⟩) (by omega)))
  have Ot9_22 := Num.hide (Recs.own_kept Ot9_21.out hg (Recs.apart (fun k hk => ⟨(Recs.own_lt Ot9_21.out k hk).1, Dt9.out k hk⟩) (fun k hk => ⟨(Recs.own_lt Ot11_21.out k hk).1, Dt11.out k hk⟩) (by omega)))
  have Or13_22 := Num.hide (Recs.own_kept Or13_21.out hg (Recs.apart (fun k hk => ⟨(Recs.own_lt Or13_21.out k hk).1, Dr13.out k hk⟩) (fun k hk => ⟨(Recs.own_lt Ot11_21.out k hk).1, Dt11.out k hk⟩) (by omega)))
  have Ot16_22 := Num.hide (Recs.own_kept Ot16_21.out hg (Recs.apart (fun k hk => ⟨(Recs.own_lt Ot16_21.out k hk).1, Dt16.out k hk⟩) (fun k hk => ⟨(Recs.own_lt Ot11_21.out k hk).1, Dt11.out k hk⟩) (by omega)))
  have Ot19_22 := Num.hide (Recs.own_kept Ot19_21.out hg (Recs.apart (fun k hk => ⟨(Recs.own_lt Ot19_21.out k hk).1, Dt19.out k hk⟩) (fun k hk => ⟨(Recs.own_lt Ot11_21.out k hk).1, Dt11.out k hk⟩) (by omega)))
  have Xp0_22 := Num.hide (Recs.row_kept Xp0_21.out hg (fun e => by have h1 := Dt11.out _ e; have h2 := (Recs.own_lt Ot11_21.out _ e).1; omega))
  have Xp1_22 := Num.hide (Recs.row_kept Xp1_21.out hg (fun e => by have h1 := Dt11.out _ e; have h2 := (Recs.own_lt Ot11_21.out _ e).1; omega))
  have Xbt9_22 := Num.hide (Recs.row_kept Xbt9_21.out hg (fun e => by have h1 := Dt11.out _ e; have h2 := (Recs.own_lt Ot11_21.out _ e).1; omega))
  have Xbt11_22 := Num.hide (Recs.row_kept Xbt11_21.out hg (fun e => by have h1 := Dt11.out _ e; have h2 := (Recs.own_lt Ot11_21.out _ e).1; omega))
  have Ot11_22 := Num.hide ho
  clear ho hg hlo hlc E21 Ot11_21 Ot6_21 Ot7_21 Or8_21 Ot9_21 Or13_21 Ot16_21 Ot19_21 Xp0_21 Xp1_21 Xbt9_21 Xbt11_21
  clear cbt11_0 cbt11_1 cbt11_2
  have dk2 : decide (((1 + 2 * l0.length) + 2 * l1.length : Int) < 0) = false := by simp; omega
  have HC := Num.hide (Flds.eq_any (Value.slice ar13 L.length cr13) (Value.slice ar8 L.length cr8) L L _ (Recs.own_is Flds.cells_len Or13_22.out) (Recs.own_is Flds.cells_len Or8_22.out) (by omega))
  rw [decide_eq_true (rfl : L = L)] at HC
  go_wp2_with fail
  refine HC.out.mono ?_
  clear HC
  rintro e W23 ⟨rfl, hb⟩
  have sz23_ : W22.heap.size ≤ W23.heap.size := (hb).size
  have E23 := Num.hide (Recs.below_step E22.out (hb))
  have Ot6_23 := Num.hide (Recs.own_below Ot6_22.out (hb))
  have Ot7_23 := Num.hide (Recs.own_below Ot7_22.out (hb))
  have Or8_23 := Num.hide (Recs.own_below Or8_22.out (hb))
  have Ot9_23 := Num.hide (Recs.own_below Ot9_22.out (hb))
  have Ot11_23 := Num.hide (Recs.own_below Ot11_22.out (hb))
  have Or13_23 := Num.hide (Recs.own_below Or13_22.out (hb))
  have Ot16_23 := Num.hide (Recs.own_below Ot16_22.out (hb))
  have Ot19_23 := Num.hide (Recs.own_below Ot19_22.out (hb))
  have Xp0_23 := Num.hide (Recs.row_step Xp0_22.out (hb))
  have Xp1_23 := Num.hide (Recs.row_step Xp1_22.out (hb))
  have Xbt9_23 := Num.hide (Recs.row_step Xbt9_22.out (hb))
  have Xbt11_23 := Num.hide (Recs.row_step Xbt11_22.out (hb))
  clear hb E22 Ot6_22 Ot7_22 Or8_22 Ot9_22 Ot11_22 Or13_22 Ot16_22 Ot19_22 Xp0_22 Xp1_22 Xbt9_22 Xbt11_22
  go_wp2_with fail
  refine (Flds.mark_any _ (Value.slice ar13 L.length cr13) L 1 _ Or13_23.out (by omega) (by omega) (by omega)).mono ?_
  rintro e W24 ⟨rfl, ho, hg⟩
  have sz24_ : W23.heap.size ≤ W24.heap.size := hg.size
  have hlo : w.heap.size ≤ V12.heap.size := by omega
  have hlc : w.heap.size ≤ W23.heap.size := by omega
  have E24 := Num.hide (E23.out.trans (Recs.below_mark Or13_23.out hlo hlc hg))
  have Ot6_24 := Num.hide (Recs.own_kept Ot6_23.out hg (Recs.apart (fun k hk => ⟨(Recs.own_lt Ot6_23.out k hk).1, Dt6.out k hk⟩) (fun k hk => ⟨(Recs.own_lt Or13_23.out k hk).1, Dr13.out k hk⟩) (by omega)))
  have Ot7_24 := Num.hide (Recs.own_kept Ot7_23.out hg (Recs.apart (fun k hk => ⟨(Recs.own_lt Ot7_23.out k hk).1, Dt7.out k hk⟩) (fun k hk => ⟨(Recs.own_lt Or13_23.out k hk).1, Dr13.out k hk⟩) (by omega)))
  have Or8_24 := Num.hide (Recs.own_kept Or8_23.out hg (Recs.apart (fun k hk => ⟨(Recs.own_lt Or8_23.out k hk).1, Dr8.out k hk⟩) (fun k hk => ⟨(Recs.own_lt Or13_23.out k hk).1, Dr13.out k hk⟩) (by omega)))
  have Ot9_24 := Num.hide (Recs.own_kept Ot9_23.out hg (Recs.apart (fun k hk => ⟨(Recs.own_lt Ot9_23.out k hk).1, Dt9.out k hk⟩) (fun k hk => ⟨(Recs.own_lt Or13_23.out k hk).1, Dr13.out k hk⟩) (by omega)))
  have Ot11_24 := Num.hide (Recs.own_kept Ot11_23.out hg (Recs.apart (fun k hk => ⟨(Recs.own_lt Ot11_23.out k hk).1, Dt11.out k hk⟩) (fun k hk => ⟨(Recs.own_lt Or13_23.out k hk).1, Dr13.out k hk⟩) (by omega)))
  have Ot16_24 := Num.hide (Recs.own_kept Ot16_23.out hg (Recs.apart (fun k hk => ⟨(Recs.own_lt Ot16_23.out k hk).1, Dt16.out k hk⟩) (fun k hk => ⟨(Recs.own_lt Or13_23.out k hk).1, Dr13.out k hk⟩) (by omega)))
  have Ot19_24 := Num.hide (Recs.own_kept Ot19_23.out hg (Recs.apart (fun k hk => ⟨(Recs.own_lt Ot19_23.out k hk).1, Dt19.out k hk⟩) (fun k hk => ⟨(Recs.own_lt Or13_23.out k hk).1, Dr13.out k hk⟩) (by omega)))
  have Xp0_24 := Num.hide (Recs.row_kept Xp0_23.out hg (fun e => by have h1 := Dr13.out _ e; have h2 := (Recs.own_lt Or13_23.out _ e).1; omega))
  have Xp1_24 := Num.hide (Recs.row_kept Xp1_23.out hg (fun e => by have h1 := Dr13.out _ e; have h2 := (Recs.own_lt Or13_23.out _ e).1; omega))
  have Xbt9_24 := Num.hide (Recs.row_kept Xbt9_23.out hg (fun e => by have h1 := Dr13.out _ e; have h2 := (Recs.own_lt Or13_23.out _ e).1; omega))
  have Xbt11_24 := Num.hide (Recs.row_kept Xbt11_23.out hg (fun e => by have h1 := Dr13.out _ e; have h2 := (Recs.own_lt Or13_23.out _ e).1; omega))
  have Or13_24 := Num.hide ho
  clear ho hg hlo hlc E23 Or13_23 Ot6_23 Ot7_23 Or8_23 Ot9_23 Ot11_23 Ot16_23 Ot19_23 Xp0_23 Xp1_23 Xbt9_23 Xbt11_23
  have dk3 : decide ((1 + 2 * L.length : Int) < 0) = false := by simp; omega
  go_wp2_with fail
  refine (Flds.held_any (Value.slice ar13 L.length cr13) L.length 1 _ (Recs.own_is Flds.cells_len Or13_24.out) (by omega) (by omega) (by omega)).mono ?_
  rintro e W25 ⟨rfl, hb⟩
  have sz25_ : W24.heap.size ≤ W25.heap.size := (hb).size
  have E25 := Num.hide (Recs.below_step E24.out (hb))
  have Ot6_25 := Num.hide (Recs.own_below Ot6_24.out (hb))
  have Ot7_25 := Num.hide (Recs.own_below Ot7_24.out (hb))
  have Or8_25 := Num.hide (Recs.own_below Or8_24.out (hb))
  have Ot9_25 := Num.hide (Recs.own_below Ot9_24.out (hb))
  have Ot11_25 := Num.hide (Recs.own_below Ot11_24.out (hb))
  have Or13_25 := Num.hide (Recs.own_below Or13_24.out (hb))
  have Ot16_25 := Num.hide (Recs.own_below Ot16_24.out (hb))
  have Ot19_25 := Num.hide (Recs.own_below Ot19_24.out (hb))
  have Xp0_25 := Num.hide (Recs.row_step Xp0_24.out (hb))
  have Xp1_25 := Num.hide (Recs.row_step Xp1_24.out (hb))
  have Xbt9_25 := Num.hide (Recs.row_step Xbt9_24.out (hb))
  have Xbt11_25 := Num.hide (Recs.row_step Xbt11_24.out (hb))
  clear hb E24 Ot6_24 Ot7_24 Or8_24 Ot9_24 Ot11_24 Or13_24 Ot16_24 Ot19_24 Xp0_24 Xp1_24 Xbt9_24 Xbt11_24
  go_wp2_with fail
  have sz26_ : W25.heap.size ≤ W25.drew.heap.size := ((Below.refl W25.heap.size W25).drew).size
  have E26 := Num.hide (Recs.below_step E25.out ((Below.refl W25.heap.size W25).drew))
  have Ot6_26 := Num.hide (Recs.own_below Ot6_25.out ((Below.refl W25.heap.size W25).drew))
  have Ot7_26 := Num.hide (Recs.own_below Ot7_25.out ((Below.refl W25.heap.size W25).drew))
  have Or8_26 := Num.hide (Recs.own_below Or8_25.out ((Below.refl W25.heap.size W25).drew))
  have Ot9_26 := Num.hide (Recs.own_below Ot9_25.out ((Below.refl W25.heap.size W25).drew))
  have Ot11_26 := Num.hide (Recs.own_below Ot11_25.out ((Below.refl W25.heap.size W25).drew))
  have Or13_26 := Num.hide (Recs.own_below Or13_25.out ((Below.refl W25.heap.size W25).drew))
  have Ot16_26 := Num.hide (Recs.own_below Ot16_25.out ((Below.refl W25.heap.size W25).drew))
  have Ot19_26 := Num.hide (Recs.own_below Ot19_25.out ((Below.refl W25.heap.size W25).drew))
  have Xp0_26 := Num.hide (Recs.row_step Xp0_25.out ((Below.refl W25.heap.size W25).drew))
  have Xp1_26 := Num.hide (Recs.row_step Xp1_25.out ((Below.refl W25.heap.size W25).drew))
  have Xbt9_26 := Num.hide (Recs.row_step Xbt9_25.out ((Below.refl W25.heap.size W25).drew))
  have Xbt11_26 := Num.hide (Recs.row_step Xbt11_25.out ((Below.refl W25.heap.size W25).drew))
  clear E25 Ot6_25 Ot7_25 Or8_25 Ot9_25 Ot11_25 Or13_25 Ot16_25 Ot19_25 Xp0_25 Xp1_25 Xbt9_25 Xbt11_25
  refine wp_region_held_drew (S := fun W => W.cell? ⟨w.heap.size, 0, none⟩ = some (.string m0) ∧ W.cell? ⟨w.heap.size, 1, none⟩ = some (.string q0) ∧ W.cell? ⟨w.heap.size, 2, none⟩ = some ((Value.slice aa0 l0.length ca0)) ∧ W.cell? ⟨w.heap.size, 3, none⟩ = some (.string b0) ∧ W.cell? ⟨w.heap.size + 1, 0, none⟩ = some (.int .i64 s1) ∧ W.cell? ⟨w.heap.size + 1, 1, none⟩ = some ((Value.slice aa1 l1.length ca1)) ∧ W.cell? ⟨w.heap.size + 1, 2, none⟩ = some (.string b1)) (by kernel_rfl) ⟨Recs.box_cell Xp0_26.out 0, Recs.box_cell Xp0_26.out 1, Recs.box_cell Xp0_26.out 2, Recs.box_cell Xp0_26.out 3, Recs.box_cell Xp1_26.out 0, Recs.box_cell Xp1_26.out 1, Recs.box_cell Xp1_26.out 2⟩ (fun hHeld => ?_)
  refine Reg.take (i := 0) (d := 75) (v := ?_) rfl rfl (by kernel_rfl) (by kernel_rfl) (by kernel_rfl) (fun _ _ _ h => h) (by rfl) ?_ hHeld ?_
  rotate_left
  · rintro W ⟨h0, h1, h2, h3, h4, h5, h6⟩
    first | (go_simp; done) | (go_simp; with_reducible rfl)
  simp only [Act.put, List.setIfInBounds_toArray, List.set_cons_zero, List.set_cons_succ]
  refine Reg.take (i := 2) (d := 77) (v := ?_) rfl rfl (by kernel_rfl) (by kernel_rfl) (by kernel_rfl) (fun _ _ _ h => h) (by rfl) ?_ hHeld ?_
  rotate_left
  · rintro W ⟨h0, h1, h2, h3, h4, h5, h6⟩
    first | (go_simp; done) | (go_simp; with_reducible rfl)
  simp only [Act.put, List.setIfInBounds_toArray, List.set_cons_zero, List.set_cons_succ]
  refine Reg.call (i := 1) rfl (by kernel_rfl) (by rfl) (fun K hK => ?_)
  go_wp2_with (first | (go_at_call 35; refine (HT0.out _ (Flds.arg_stay A0.out (Nat.le_refl _) E26.out).1).mono ?_; rintro e W27 ⟨t27, rfl, ho, hb⟩))
  obtain ⟨at27, ct27, hvt27⟩ := Recs.own_len ho
  subst hvt27
  have sz27_ : W25.drew.heap.size ≤ W27.heap.size := (hb).size
  have E27 := Num.hide (Recs.below_step E26.out (hb))
  have Ot6_27 := Num.hide (Recs.own_below Ot6_26.out (hb))
  have Ot7_27 := Num.hide (Recs.own_below Ot7_26.out (hb))
  have Or8_27 := Num.hide (Recs.own_below Or8_26.out (hb))
  have Ot9_27 := Num.hide (Recs.own_below Ot9_26.out (hb))
  have Ot11_27 := Num.hide (Recs.own_below Ot11_26.out (hb))
  have Or13_27 := Num.hide (Recs.own_below Or13_26.out (hb))
  have Ot16_27 := Num.hide (Recs.own_below Ot16_26.out (hb))
  have Ot19_27 := Num.hide (Recs.own_below Ot19_26.out (hb))
  have Xp0_27 := Num.hide (Recs.row_step Xp0_26.out (hb))
  have Xp1_27 := Num.hide (Recs.row_step Xp1_26.out (hb))
  have Xbt9_27 := Num.hide (Recs.row_step Xbt9_26.out (hb))
  have Xbt11_27 := Num.hide (Recs.row_step Xbt11_26.out (hb))
  have Ot27_27 := Num.hide ho
  have Dt27 : Hid (∀ k, (Value.slice at27 l0.length ct27).ownBlock = some k → k < W27.heap.size) := fun k hk => (Recs.own_lt ho k hk).2
  clear ho hb E26 Ot6_26 Ot7_26 Or8_26 Ot9_26 Ot11_26 Or13_26 Ot16_26 Ot19_26 Xp0_26 Xp1_26 Xbt9_26 Xbt11_26
  refine hK.out _ _ ⟨Recs.box_cell Xp0_27.out 0, Recs.box_cell Xp0_27.out 1, Recs.box_cell Xp0_27.out 2, Recs.box_cell Xp0_27.out 3, Recs.box_cell Xp1_27.out 0, Recs.box_cell Xp1_27.out 1, Recs.box_cell Xp1_27.out 2⟩ (fun hHeld2 => ?_)
  clear hK K
  replace hHeld := hHeld2
  clear hHeld2
  refine Reg.call (i := 3) rfl (by kernel_rfl) (by rfl) (fun K hK => ?_)
  go_wp2_with (first | (go_at_call 26; refine (HT1.out _ (Flds.arg_stay A1.out (Nat.le_refl _) E27.out).1).mono ?_; rintro e W28 ⟨t28, rfl, ho, hb⟩))
  obtain ⟨at28, ct28, hvt28⟩ := Recs.own_len ho
  subst hvt28
  have sz28_ : W27.heap.size ≤ W28.heap.size := (hb).size
  have E28 := Num.hide (Recs.below_step E27.out (hb))
  have Ot6_28 := Num.hide (Recs.own_below Ot6_27.out (hb))
  have Ot7_28 := Num.hide (Recs.own_below Ot7_27.out (hb))
  have Or8_28 := Num.hide (Recs.own_below Or8_27.out (hb))
  have Ot9_28 := Num.hide (Recs.own_below Ot9_27.out (hb))
  have Ot11_28 := Num.hide (Recs.own_below Ot11_27.out (hb))
  have Or13_28 := Num.hide (Recs.own_below Or13_27.out (hb))
  have Ot16_28 := Num.hide (Recs.own_below Ot16_27.out (hb))
  have Ot19_28 := Num.hide (Recs.own_below Ot19_27.out (hb))
  have Ot27_28 := Num.hide (Recs.own_below Ot27_27.out (hb))
  have Xp0_28 := Num.hide (Recs.row_step Xp0_27.out (hb))
  have Xp1_28 := Num.hide (Recs.row_step Xp1_27.out (hb))
  have Xbt9_28 := Num.hide (Recs.row_step Xbt9_27.out (hb))
  have Xbt11_28 := Num.hide (Recs.row_step Xbt11_27.out (hb))
  have Ot28_28 := Num.hide ho
  have Dt28 : Hid (∀ k, (Value.slice at28 l1.length ct28).ownBlock = some k → k < W28.heap.size) := fun k hk => (Recs.own_lt ho k hk).2
  clear ho hb E27 Ot6_27 Ot7_27 Or8_27 Ot9_27 Ot11_27 Or13_27 Ot16_27 Ot19_27 Ot27_27 Xp0_27 Xp1_27 Xbt9_27 Xbt11_27
  refine hK.out _ _ ⟨Recs.box_cell Xp0_28.out 0, Recs.box_cell Xp0_28.out 1, Recs.box_cell Xp0_28.out 2, Recs.box_cell Xp0_28.out 3, Recs.box_cell Xp1_28.out 0, Recs.box_cell Xp1_28.out 1, Recs.box_cell Xp1_28.out 2⟩ (fun hHeld2 => ?_)
  clear hK K
  replace hHeld := hHeld2
  clear hHeld2
  refine Reg.call (i := 4) rfl (by kernel_rfl) (by rfl) (fun K hK => ?_)
  go_wp2_with (first | (go_at_call 20; refine (HI.out (Value.slice at27 l0.length ct27) (Value.slice at28 l1.length ct28) _ (Recs.own_is Flds.cells_len Ot27_28.out) (Recs.own_is Flds.cells_len Ot28_28.out) E28.out).mono ?_; rintro e W29 ⟨r29, rfl, ho, hb⟩))
  obtain ⟨ar29, cr29, hvr29⟩ := Recs.own_len ho
  subst hvr29
  have sz29_ : W28.heap.size ≤ W29.heap.size := (hb).size
  have E29 := Num.hide (Recs.below_step E28.out (hb))
  have Ot6_29 := Num.hide (Recs.own_below Ot6_28.out (hb))
  have Ot7_29 := Num.hide (Recs.own_below Ot7_28.out (hb))
  have Or8_29 := Num.hide (Recs.own_below Or8_28.out (hb))
  have Ot9_29 := Num.hide (Recs.own_below Ot9_28.out (hb))
  have Ot11_29 := Num.hide (Recs.own_below Ot11_28.out (hb))
  have Or13_29 := Num.hide (Recs.own_below Or13_28.out (hb))
  have Ot16_29 := Num.hide (Recs.own_below Ot16_28.out (hb))
  have Ot19_29 := Num.hide (Recs.own_below Ot19_28.out (hb))
  have Ot27_29 := Num.hide (Recs.own_below Ot27_28.out (hb))
  have Ot28_29 := Num.hide (Recs.own_below Ot28_28.out (hb))
  have Xp0_29 := Num.hide (Recs.row_step Xp0_28.out (hb))
  have Xp1_29 := Num.hide (Recs.row_step Xp1_28.out (hb))
  have Xbt9_29 := Num.hide (Recs.row_step Xbt9_28.out (hb))
  have Xbt11_29 := Num.hide (Recs.row_step Xbt11_28.out (hb))
  have Or29_29 := Num.hide ho
  have Dr29 : Hid (∀ k, (Value.slice ar29 L.length cr29).ownBlock = some k → k < W29.heap.size) := fun k hk => (Recs.own_lt ho k hk).2
  clear ho hb E28 Ot6_28 Ot7_28 Or8_28 Ot9_28 Ot11_28 Or13_28 Ot16_28 Ot19_28 Ot27_28 Ot28_28 Xp0_28 Xp1_28 Xbt9_28 Xbt11_28
  refine hK.out _ _ ⟨Recs.box_cell Xp0_29.out 0, Recs.box_cell Xp0_29.out 1, Recs.box_cell Xp0_29.out 2, Recs.box_cell Xp0_29.out 3, Recs.box_cell Xp1_29.out 0, Recs.box_cell Xp1_29.out 1, Recs.box_cell Xp1_29.out 2⟩ (fun hHeld2 => ?_)
  clear hK K
  replace hHeld := hHeld2
  clear hHeld2
  refine Reg.take (i := 5) (d := 13) (v := ?_) rfl rfl (by kernel_rfl) (by kernel_rfl) (by kernel_rfl) (fun _ _ _ h => h) (by rfl) ?_ hHeld ?_
  rotate_left
  · rintro W ⟨h0, h1, h2, h3, h4, h5, h6⟩
    first | (go_simp; done) | (go_simp; with_reducible rfl)
  simp only [Act.put, List.setIfInBounds_toArray, List.set_cons_zero, List.set_cons_succ]
  refine wpAnyH_done (by kernel_rfl) ?_ _
  clear hHeld
  have HC := Num.hide (Flds.eq_any (Value.slice ar29 L.length cr29) (Value.slice ar8 L.length cr8) L L _ (Recs.own_is Flds.cells_len Or29_29.out) (Recs.own_is Flds.cells_len Or8_29.out) (by omega))
  rw [decide_eq_true (rfl : L = L)] at HC
  go_wp2_with fail
  refine HC.out.mono ?_
  clear HC
  rintro e W30 ⟨rfl, hb⟩
  have sz30_ : W29.heap.size ≤ W30.heap.size := (hb).size
  have E30 := Num.hide (Recs.below_step E29.out (hb))
  have Ot6_30 := Num.hide (Recs.own_below Ot6_29.out (hb))
  have Ot7_30 := Num.hide (Recs.own_below Ot7_29.out (hb))
  have Or8_30 := Num.hide (Recs.own_below Or8_29.out (hb))
  have Ot9_30 := Num.hide (Recs.own_below Ot9_29.out (hb))
  have Ot11_30 := Num.hide (Recs.own_below Ot11_29.out (hb))
  have Or13_30 := Num.hide (Recs.own_below Or13_29.out (hb))
  have Ot16_30 := Num.hide (Recs.own_below Ot16_29.out (hb))
  have Ot19_30 := Num.hide (Recs.own_below Ot19_29.out (hb))
  have Ot27_30 := Num.hide (Recs.own_below Ot27_29.out (hb))
  have Ot28_30 := Num.hide (Recs.own_below Ot28_29.out (hb))
  have Or29_30 := Num.hide (Recs.own_below Or29_29.out (hb))
  have Xp0_30 := Num.hide (Recs.row_step Xp0_29.out (hb))
  have Xp1_30 := Num.hide (Recs.row_step Xp1_29.out (hb))
  have Xbt9_30 := Num.hide (Recs.row_step Xbt9_29.out (hb))
  have Xbt11_30 := Num.hide (Recs.row_step Xbt11_29.out (hb))
  clear hb E29 Ot6_29 Ot7_29 Or8_29 Ot9_29 Ot11_29 Or13_29 Ot16_29 Ot19_29 Ot27_29 Ot28_29 Or29_29 Xp0_29 Xp1_29 Xbt9_29 Xbt11_29
  go_wp2_with fail
  refine (Flds.held_any (Value.slice ar13 L.length cr13) L.length 1 _ (Recs.own_is Flds.cells_len Or13_30.out) (by omega) (by omega) (by omega)).mono ?_
  rintro e W31 ⟨rfl, hb⟩
  have sz31_ : W30.heap.size ≤ W31.heap.size := (hb).size
  have E31 := Num.hide (Recs.below_step E30.out (hb))
  have Ot6_31 := Num.hide (Recs.own_below Ot6_30.out (hb))
  have Ot7_31 := Num.hide (Recs.own_below Ot7_30.out (hb))
  have Or8_31 := Num.hide (Recs.own_below Or8_30.out (hb))
  have Ot9_31 := Num.hide (Recs.own_below Ot9_30.out (hb))
  have Ot11_31 := Num.hide (Recs.own_below Ot11_30.out (hb))
  have Or13_31 := Num.hide (Recs.own_below Or13_30.out (hb))
  have Ot16_31 := Num.hide (Recs.own_below Ot16_30.out (hb))
  have Ot19_31 := Num.hide (Recs.own_below Ot19_30.out (hb))
  have Ot27_31 := Num.hide (Recs.own_below Ot27_30.out (hb))
  have Ot28_31 := Num.hide (Recs.own_below Ot28_30.out (hb))
  have Or29_31 := Num.hide (Recs.own_below Or29_30.out (hb))
  have Xp0_31 := Num.hide (Recs.row_step Xp0_30.out (hb))
  have Xp1_31 := Num.hide (Recs.row_step Xp1_30.out (hb))
  have Xbt9_31 := Num.hide (Recs.row_step Xbt9_30.out (hb))
  have Xbt11_31 := Num.hide (Recs.row_step Xbt11_30.out (hb))
  clear hb E30 Ot6_30 Ot7_30 Or8_30 Ot9_30 Ot11_30 Or13_30 Ot16_30 Ot19_30 Ot27_30 Ot28_30 Or29_30 Xp0_30 Xp1_30 Xbt9_30 Xbt11_30
  go_wp2
  go_ret
  exact ⟨rfl, E31.out⟩
end Vary
end Go.Proofs.YtkogcbnbmdeolaaDoor
