/-
  LawBox: Boxes of a law's own, behind calls that leave what was there, and behind marks.
  NamesLaw: FnExactVaryNames, whatever the program's VaryNames keeps to: it answers as the specification's and leaves its arguments as they were.
  ChsFar: What a choice leaves as it was.
-/
import Derived.Test.YtkogcbnbmdeolaaDoorPad
import Derived.Test.YtkogcbnbmdeolaaDoorPae
import Derived.Test.YtkogcbnbmdeolaaDoorPaf
import Derived.Deep.Cut
import Derived.Test.YtkogcbnbmdeolaaDoorFldPut
namespace Go.Proofs.YtkogcbnbmdeolaaDoor
open Go.RowKit
set_option linter.unusedVariables false
namespace Recs

theorem row_step {W W' : World} {g : Nat} {o : Obj} (h : W.heap[g]? = some o) (hb : Below W.heap.size W W') : W'.heap[g]? = some o := (hb.block g (Array.getElem?_eq_some_iff.1 h).1).trans h
theorem row_kept {W W' : World} {g : Nat} {o : Obj} {v : Value} (h : W.heap[g]? = some o) (hg : W.grownBy W' v.ownBlock) (hn : v.ownBlock = some g → False) : W'.heap[g]? = some o :=
  (hg.block g (Array.getElem?_eq_some_iff.1 h).1 (fun e => hn e.symm)).trans h
end Recs
end Go.Proofs.YtkogcbnbmdeolaaDoor
namespace Go.Proofs.YtkogcbnbmdeolaaDoor
open Go.RowKit
set_option linter.unusedVariables false
set_option linter.unusedSimpArgs false
namespace Vary

set_option maxRecDepth 100000 in
set_option maxHeartbeats 16000000 in
theorem names_law (G : World → Prop) (hG : ∀ W W', G W → Below W.heap.size W W' → G W')
    (hi : ∀ (s0 : Int) (v0 : Value) (l0 : List Flds.Fld) (b0 : ByteArray) (W : World), Flds.Is W v0 l0 → Flds.bulk l0 + b0.size ≤ 1048576 → G W → Calls Tryd.prog 21 #[(Resp.val s0 v0 b0)] W fun e w' => ∃ v', e = .returned v' ∧ Strs.OwnS W.heap.size w' v' (varyNames l0) ∧ Below W.heap.size W w')
    (s0 : Int) (v0 : Value) (l0 : List Flds.Fld) (b0 : ByteArray) (w : World) (ha0 : Flds.Arg w v0 l0) (hb0 : b0.size ≤ maxLen) (hg : G w) :
    Calls Tryd.prog 5 #[(Resp.val s0 v0 b0)] w fun e w' => e = .returned (.bool true) ∧ Below w.heap.size w w' := by
  have A0 := Num.hide ha0
  obtain ⟨aa0, ca0, rfl, _⟩ := Flds.is_form ha0.1
  clear ha0
  have B0 : Hid (Below w.heap.size w w) := Below.refl _ _
  have sz1_ : w.heap.size ≤ (w.alloc (.cells #[.int .i64 s0, (Value.slice aa0 l0.length ca0), .string b0] 46)).heap.size := ((Below.refl w.heap.size w).alloc (Nat.le_refl _) (.cells #[.int .i64 s0, (Value.slice aa0 l0.length ca0), .string b0] 46)).size
  have E1 := Num.hide (Recs.below_step B0.out ((Below.refl w.heap.size w).alloc (Nat.le_refl _) (.cells #[.int .i64 s0, (Value.slice aa0 l0.length ca0), .string b0] 46)))
  have Xp0_1 := Num.hide (heap_alloc_new w (.cells #[.int .i64 s0, (Value.slice aa0 l0.length ca0), .string b0] 46))
  have kz1_ : w.heap.size < (w.alloc (.cells #[.int .i64 s0, (Value.slice aa0 l0.length ca0), .string b0] 46)).heap.size := by simp
  unfold Resp.val
  go_enter Tryd.func5, Tryd.ntmps5
  go_upto_region 1 with fail
  have sz0 : w.heap.size + 1 ≤ (w.alloc (.cells #[.int .i64 s0, (Value.slice aa0 l0.length ca0), .string b0] 46)).heap.size := by simp only [World.size_alloc]; omega
  clear sz1_ kz1_
  generalize (w.alloc (.cells #[.int .i64 s0, (Value.slice aa0 l0.length ca0), .string b0] 46)) = V0 at E1 Xp0_1 sz0 ⊢
  have cp0_0 : V0.cell? ⟨w.heap.size, 0, none⟩ = some (.int .i64 s0) := Recs.box_cell Xp0_1.out 0
  have cp0_1 : V0.cell? ⟨w.heap.size, 1, none⟩ = some ((Value.slice aa0 l0.length ca0)) := Recs.box_cell Xp0_1.out 1
  have cp0_2 : V0.cell? ⟨w.heap.size, 2, none⟩ = some (.string b0) := Recs.box_cell Xp0_1.out 2
  have HZ0 := Num.hide (fun W (h : Flds.Arg W (Value.slice aa0 l0.length ca0) l0) => Resp.sz_any s0 (Value.slice aa0 l0.length ca0) l0 b0 (1048576) W h hb0 (by omega) (by omega))
  unfold Resp.val at HZ0
  by_cases hbk0 : ¬ ((Resp.bulk l0 b0 : Nat) : Int) ≤ 1048576
  · rw [Flds.left_no hbk0] at HZ0
    go_wp2_with fail
    refine (HZ0.out _ (Flds.arg_stay A0.out (Nat.le_refl _) E1.out)).mono ?_
    rintro e WX ⟨rfl, hb⟩
    have EX := Num.hide (Recs.below_step E1.out hb)
    clear hb cp0_0 cp0_1 cp0_2
    go_wp2
    go_ret
    exact ⟨rfl, EX.out⟩
  rw [Flds.left_yes (Decidable.not_not.1 hbk0)] at HZ0
  have hn0 := Decidable.not_not.1 hbk0
  have dz0 : decide (1048576 - ((Resp.bulk l0 b0 : Nat) : Int) < 0) = false := by simp; omega
  go_wp2_with fail
  refine (HZ0.out _ (Flds.arg_stay A0.out (Nat.le_refl _) E1.out)).mono ?_
  rintro e W2 ⟨rfl, hb⟩
  have sz2_ : V0.heap.size ≤ W2.heap.size := (hb).size
  have E2 := Num.hide (Recs.below_step E1.out (hb))
  have Xp0_2 := Num.hide (Recs.row_step Xp0_1.out (hb))
  clear hb HZ0 hbk0 E1 Xp0_1
  clear cp0_0 cp0_1 cp0_2
  have hk0 : Flds.bulk l0 + b0.size ≤ 1048576 := by have h := hn0; unfold Resp.bulk at h; omega
  have hlen0 : l0.length ≤ 1048576 := by have h2 := Flds.len_le l0; omega
  have HT0 := Num.hide (fun W h => Resp.to_any s0 (Value.slice aa0 l0.length ca0) l0 b0 W h hlen0)
  have HS := Num.hide (fun v0 W h0 => names_spec s0 v0 l0 b0 W h0 (by omega))
  have HI := Num.hide (fun v0 W h0 (hb : Below w.heap.size w W) => hi s0 v0 l0 b0 W h0 hk0  (hG w W hg hb))
  unfold Resp.val at HS HI
  unfold Resp.val at HT0
  have hL : (varyNames l0).length ≤ 4194304 := by have h := names_len (Sign.split (Flds.get l0 varyName).1); have h2 := Cc.split_len (Flds.get l0 varyName).1; have h3 := Cc.get_bulk l0 varyName (by decide); unfold varyNames; omega
  generalize varyNames l0 = L at HS HI hL
  clear hi hG hg
  have cp0_0 : W2.cell? ⟨w.heap.size, 0, none⟩ = some (.int .i64 s0) := Recs.box_cell Xp0_2.out 0
  have cp0_1 : W2.cell? ⟨w.heap.size, 1, none⟩ = some ((Value.slice aa0 l0.length ca0)) := Recs.box_cell Xp0_2.out 1
  have cp0_2 : W2.cell? ⟨w.heap.size, 2, none⟩ = some (.string b0) := Recs.box_cell Xp0_2.out 2
  go_wp2_with fail
  refine (HT0.out _ (Flds.arg_stay A0.out (Nat.le_refl _) E2.out).1).mono ?_
  rintro e W3 ⟨t3, rfl, ho, hb⟩
  obtain ⟨at3, ct3, hvt3⟩ := Recs.own_len ho
  subst hvt3
  have sz3_ : W2.heap.size ≤ W3.heap.size := (hb).size
  have E3 := Num.hide (Recs.below_step E2.out (hb))
  have Xp0_3 := Num.hide (Recs.row_step Xp0_2.out (hb))
  have Ot3_3 := Num.hide ho
  have Dt3 : Hid (∀ k, (Value.slice at3 l0.length ct3).ownBlock = some k → k < W3.heap.size) := fun k hk => (Recs.own_lt ho k hk).2
  clear ho hb E2 Xp0_2
  clear cp0_0 cp0_1 cp0_2
  go_wp2_with fail
  refine (HS.out (Value.slice at3 l0.length ct3) _ (Recs.own_is Flds.cells_len Ot3_3.out)).mono ?_
  rintro e W4 ⟨r4, rfl, ho, hb⟩
  obtain ⟨ar4, cr4, hvr4⟩ := Strs.own_len ho
  subst hvr4
  have sz4_ : W3.heap.size ≤ W4.heap.size := (hb).size
  have E4 := Num.hide (Recs.below_step E3.out (hb))
  have Ot3_4 := Num.hide (Recs.own_below Ot3_3.out (hb))
  have Xp0_4 := Num.hide (Recs.row_step Xp0_3.out (hb))
  have Or4_4 := Num.hide ho
  have Dr4 : Hid (∀ k, (Value.slice ar4 L.length cr4).ownBlock = some k → k < W4.heap.size) := fun k hk => (Strs.own_lt ho k hk).2
  clear ho hb E3 Ot3_3 Xp0_3
  have cp0_0 : W4.cell? ⟨w.heap.size, 0, none⟩ = some (.int .i64 s0) := Recs.box_cell Xp0_4.out 0
  have cp0_1 : W4.cell? ⟨w.heap.size, 1, none⟩ = some ((Value.slice aa0 l0.length ca0)) := Recs.box_cell Xp0_4.out 1
  have cp0_2 : W4.cell? ⟨w.heap.size, 2, none⟩ = some (.string b0) := Recs.box_cell Xp0_4.out 2
  go_wp2_with fail
  refine (HT0.out _ (Flds.arg_stay A0.out (Nat.le_refl _) E4.out).1).mono ?_
  rintro e W5 ⟨t5, rfl, ho, hb⟩
  obtain ⟨at5, ct5, hvt5⟩ := Recs.own_len ho
  subst hvt5
  have sz5_ : W4.heap.size ≤ W5.heap.size := (hb).size
  have E5 := Num.hide (Recs.below_step E4.out (hb))
  have Ot3_5 := Num.hide (Recs.own_below Ot3_4.out (hb))
  have Or4_5 := Num.hide (Strs.own_below Or4_4.out (hb))
  have Xp0_5 := Num.hide (Recs.row_step Xp0_4.out (hb))
  have Ot5_5 := Num.hide ho
  have Dt5 : Hid (∀ k, (Value.slice at5 l0.length ct5).ownBlock = some k → k < W5.heap.size) := fun k hk => (Recs.own_lt ho k hk).2
  clear ho hb E4 Ot3_4 Or4_4 Xp0_4
  clear cp0_0 cp0_1 cp0_2
  have sz6_ : W5.heap.size ≤ (W5.alloc (.cells #[.int .i64 s0, (Value.slice at5 l0.length ct5), .string b0] 34)).heap.size := ((Below.refl W5.heap.size W5).alloc (Nat.le_refl _) (.cells #[.int .i64 s0, (Value.slice at5 l0.length ct5), .string b0] 34)).size
  have E6 := Num.hide (Recs.below_step E5.out ((Below.refl W5.heap.size W5).alloc (Nat.le_refl _) (.cells #[.int .i64 s0, (Value.slice at5 l0.length ct5), .string b0] 34)))
  have Ot3_6 := Num.hide (Recs.own_below Ot3_5.out ((Below.refl W5.heap.size W5).alloc (Nat.le_refl _) (.cells #[.int .i64 s0, (Value.slice at5 l0.length ct5), .string b0] 34)))
  have Or4_6 := Num.hide (Strs.own_below Or4_5.out ((Below.refl W5.heap.size W5).alloc (Nat.le_refl _) (.cells #[.int .i64 s0, (Value.slice at5 l0.length ct5), .string b0] 34)))
  have Ot5_6 := Num.hide (Recs.own_below Ot5_5.out ((Below.refl W5.heap.size W5).alloc (Nat.le_refl _) (.cells #[.int .i64 s0, (Value.slice at5 l0.length ct5), .string b0] 34)))
  have Xp0_6 := Num.hide (Recs.row_step Xp0_5.out ((Below.refl W5.heap.size W5).alloc (Nat.le_refl _) (.cells #[.int .i64 s0, (Value.slice at5 l0.length ct5), .string b0] 34)))
  have Xbt5_6 := Num.hide (heap_alloc_new W5 (.cells #[.int .i64 s0, (Value.slice at5 l0.length ct5), .string b0] 34))
  have kz6_ : W5.heap.size < (W5.alloc (.cells #[.int .i64 s0, (Value.slice at5 l0.length ct5), .string b0] 34)).heap.size := by simp
  clear E5 Ot3_5 Or4_5 Ot5_5 Xp0_5
  go_upto_region 7 with fail
  generalize (W5.alloc (.cells #[.int .i64 s0, (Value.slice at5 l0.length ct5), .string b0] 34)) = V6 at E6 Ot3_6 Or4_6 Ot5_6 Xp0_6 Xbt5_6 sz6_ kz6_ ⊢
  have cbt5_0 : V6.cell? ⟨W5.heap.size, 0, none⟩ = some (.int .i64 s0) := Recs.box_cell Xbt5_6.out 0
  have cbt5_1 : V6.cell? ⟨W5.heap.size, 1, none⟩ = some ((Value.slice at5 l0.length ct5)) := Recs.box_cell Xbt5_6.out 1
  have cbt5_2 : V6.cell? ⟨W5.heap.size, 2, none⟩ = some (.string b0) := Recs.box_cell Xbt5_6.out 2
  go_wp2_with fail
  refine (HI.out (Value.slice at5 l0.length ct5) _ (Recs.own_is Flds.cells_len Ot5_6.out) E6.out).mono ?_
  rintro e W7 ⟨r7, rfl, ho, hb⟩
  obtain ⟨ar7, cr7, hvr7⟩ := Strs.own_len ho
  subst hvr7
  have sz7_ : V6.heap.size ≤ W7.heap.size := (hb).size
  have E7 := Num.hide (Recs.below_step E6.out (hb))
  have Ot3_7 := Num.hide (Recs.own_below Ot3_6.out (hb))
  have Or4_7 := Num.hide (Strs.own_below Or4_6.out (hb))
  have Ot5_7 := Num.hide (Recs.own_below Ot5_6.out (hb))
  have Xp0_7 := Num.hide (Recs.row_step Xp0_6.out (hb))
  have Xbt5_7 := Num.hide (Recs.row_step Xbt5_6.out (hb))
  have Or7_7 := Num.hide ho
  have Dr7 : Hid (∀ k, (Value.slice ar7 L.length cr7).ownBlock = some k → k < W7.heap.size) := fun k hk => (Strs.own_lt ho k hk).2
  clear ho hb E6 Ot3_6 Or4_6 Ot5_6 Xp0_6 Xbt5_6
  clear cbt5_0 cbt5_1 cbt5_2
  have HC := Num.hide (Strs.eq_b (Value.slice ar7 L.length cr7) (Value.slice ar4 L.length cr4) L L _ (Strs.own_is Or7_7.out) (Strs.own_is Or4_7.out) (by omega))
  rw [decide_eq_true (rfl : L = L)] at HC
  go_wp2_with fail
  refine HC.out.mono ?_
  clear HC
  rintro e W8 ⟨rfl, hb⟩
  have sz8_ : W7.heap.size ≤ W8.heap.size := (hb).size
  have E8 := Num.hide (Recs.below_step E7.out (hb))
  have Ot3_8 := Num.hide (Recs.own_below Ot3_7.out (hb))
  have Or4_8 := Num.hide (Strs.own_below Or4_7.out (hb))
  have Ot5_8 := Num.hide (Recs.own_below Ot5_7.out (hb))
  have Or7_8 := Num.hide (Strs.own_below Or7_7.out (hb))
  have Xp0_8 := Num.hide (Recs.row_step Xp0_7.out (hb))
  have Xbt5_8 := Num.hide (Recs.row_step Xbt5_7.out (hb))
  clear hb E7 Ot3_7 Or4_7 Ot5_7 Or7_7 Xp0_7 Xbt5_7
  go_wp2_with fail
  have sz9_ : W8.heap.size ≤ W8.drew.heap.size := ((Below.refl W8.heap.size W8).drew).size
  have E9 := Num.hide (Recs.below_step E8.out ((Below.refl W8.heap.size W8).drew))
  have Ot3_9 := Num.hide (Recs.own_below Ot3_8.out ((Below.refl W8.heap.size W8).drew))
  have Or4_9 := Num.hide (Strs.own_below Or4_8.out ((Below.refl W8.heap.size W8).drew))
  have Ot5_9 := Num.hide (Recs.own_below Ot5_8.out ((Below.refl W8.heap.size W8).drew))
  have Or7_9 := Num.hide (Strs.own_below Or7_8.out ((Below.refl W8.heap.size W8).drew))
  have Xp0_9 := Num.hide (Recs.row_step Xp0_8.out ((Below.refl W8.heap.size W8).drew))
  have Xbt5_9 := Num.hide (Recs.row_step Xbt5_8.out ((Below.refl W8.heap.size W8).drew))
  clear E8 Ot3_8 Or4_8 Ot5_8 Or7_8 Xp0_8 Xbt5_8
  refine wp_region_held_drew (S := fun W => W.cell? ⟨W5.heap.size, 0, none⟩ = some (.int .i64 s0) ∧ W.cell? ⟨W5.heap.size, 1, none⟩ = some ((Value.slice at5 l0.length ct5)) ∧ W.cell? ⟨W5.heap.size, 2, none⟩ = some (.string b0) ∧ W.cell? ⟨w.heap.size, 0, none⟩ = some (.int .i64 s0) ∧ W.cell? ⟨w.heap.size, 1, none⟩ = some ((Value.slice aa0 l0.length ca0)) ∧ W.cell? ⟨w.heap.size, 2, none⟩ = some (.string b0)) (by kernel_rfl) ⟨Recs.box_cell Xbt5_9.out 0, Recs.box_cell Xbt5_9.out 1, Recs.box_cell Xbt5_9.out 2, Recs.box_cell Xp0_9.out 0, Recs.box_cell Xp0_9.out 1, Recs.box_cell Xp0_9.out 2⟩ (fun hHeld => ?_)
  refine Reg.take (i := 0) (d := 27) (v := ?_) rfl rfl (by kernel_rfl) (by kernel_rfl) (by kernel_rfl) (fun _ _ _ h => h) (by rfl) ?_ hHeld ?_
  rotate_left
  · rintro W ⟨h0, h1, h2, h3, h4, h5⟩
    first | (go_simp; done) | (go_simp; with_reducible rfl)
  simp only [Act.put, List.setIfInBounds_toArray, List.set_cons_zero, List.set_cons_succ]
  refine Reg.take (i := 1) (d := 28) (v := ?_) rfl rfl (by kernel_rfl) (by kernel_rfl) (by kernel_rfl) (fun _ _ _ h => h) (by rfl) ?_ hHeld ?_
  rotate_left
  · rintro W ⟨h0, h1, h2, h3, h4, h5⟩
    first | (go_simp; done) | (go_simp; with_reducible rfl)
  simp only [Act.put, List.setIfInBounds_toArray, List.set_cons_zero, List.set_cons_succ]
  refine Reg.call (i := 2) rfl (by kernel_rfl) (by rfl) (fun K hK => ?_)
  go_wp2_with (first | (go_at_call 26; refine (HT0.out _ (Flds.arg_stay A0.out (Nat.le_refl _) E9.out).1).mono ?_; rintro e W10 ⟨t10, rfl, ho, hb⟩))
  obtain ⟨at10, ct10, hvt10⟩ := Recs.own_len ho
  subst hvt10
  have sz10_ : W8.drew.heap.size ≤ W10.heap.size := (hb).size
  have E10 := Num.hide (Recs.below_step E9.out (hb))
  have Ot3_10 := Num.hide (Recs.own_below Ot3_9.out (hb))
  have Or4_10 := Num.hide (Strs.own_below Or4_9.out (hb))
  have Ot5_10 := Num.hide (Recs.own_below Ot5_9.out (hb))
  have Or7_10 := Num.hide (Strs.own_below Or7_9.out (hb))
  have Xp0_10 := Num.hide (Recs.row_step Xp0_9.out (hb))
  have Xbt5_10 := Num.hide (Recs.row_step Xbt5_9.out (hb))
  have Ot10_10 := Num.hide ho
  have Dt10 : Hid (∀ k, (Value.slice at10 l0.length ct10).ownBlock = some k → k < W10.heap.size) := fun k hk => (Recs.own_lt ho k hk).2
  clear ho hb E9 Ot3_9 Or4_9 Ot5_9 Or7_9 Xp0_9 Xbt5_9
  refine hK.out _ _ ⟨Recs.box_cell Xbt5_10.out 0, Recs.box_cell Xbt5_10.out 1, Recs.box_cell Xbt5_10.out 2, Recs.box_cell Xp0_10.out 0, Recs.box_cell Xp0_10.out 1, Recs.box_cell Xp0_10.out 2⟩ (fun hHeld2 => ?_)
  clear hK K
  replace hHeld := hHeld2
  clear hHeld2
  refine Reg.call (i := 3) rfl (by kernel_rfl) (by rfl) (fun K hK => ?_)
  have HC := Num.hide (Resp.eq_any s0 s0 (Value.slice at5 l0.length ct5) (Value.slice at10 l0.length ct10) l0 l0 b0 b0 _ (Recs.own_is Flds.cells_len Ot5_10.out) (Recs.own_is Flds.cells_len Ot10_10.out) (by omega))
  unfold Resp.val at HC
  rw [decide_eq_true ⟨rfl, rfl, rfl⟩] at HC
  go_wp2_with (first | (go_at_call 28; refine (HC.out).mono ?_; rintro e W11 ⟨rfl, hb⟩))
  clear HC
  have sz11_ : W10.heap.size ≤ W11.heap.size := (hb).size
  have E11 := Num.hide (Recs.below_step E10.out (hb))
  have Ot3_11 := Num.hide (Recs.own_below Ot3_10.out (hb))
  have Or4_11 := Num.hide (Strs.own_below Or4_10.out (hb))
  have Ot5_11 := Num.hide (Recs.own_below Ot5_10.out (hb))
  have Or7_11 := Num.hide (Strs.own_below Or7_10.out (hb))
  have Ot10_11 := Num.hide (Recs.own_below Ot10_10.out (hb))
  have Xp0_11 := Num.hide (Recs.row_step Xp0_10.out (hb))
  have Xbt5_11 := Num.hide (Recs.row_step Xbt5_10.out (hb))
  clear hb E10 Ot3_10 Or4_10 Ot5_10 Or7_10 Ot10_10 Xp0_10 Xbt5_10
  refine hK.out _ _ ⟨Recs.box_cell Xbt5_11.out 0, Recs.box_cell Xbt5_11.out 1, Recs.box_cell Xbt5_11.out 2, Recs.box_cell Xp0_11.out 0, Recs.box_cell Xp0_11.out 1, Recs.box_cell Xp0_11.out 2⟩ (fun hHeld2 => ?_)
  clear hK K
  replace hHeld := hHeld2
  clear hHeld2
  refine Reg.take (i := 4) (d := 31) (v := ?_) rfl rfl (by kernel_rfl) (by kernel_rfl) (by kernel_rfl) (fun _ _ _ h => h) (by rfl) ?_ hHeld ?_
  rotate_left
  · rintro W ⟨h0, h1, h2, h3, h4, h5⟩
    first | (go_simp; done) | (go_simp; with_reducible rfl)
  simp only [Act.put, List.setIfInBounds_toArray, List.set_cons_zero, List.set_cons_succ]
  refine wpAnyH_done (by kernel_rfl) ?_ _
  clear hHeld
  have cbt5_0 : W11.cell? ⟨W5.heap.size, 0, none⟩ = some (.int .i64 s0) := Recs.box_cell Xbt5_11.out 0
  have cbt5_1 : W11.cell? ⟨W5.heap.size, 1, none⟩ = some ((Value.slice at5 l0.length ct5)) := Recs.box_cell Xbt5_11.out 1
  have cbt5_2 : W11.cell? ⟨W5.heap.size, 2, none⟩ = some (.string b0) := Recs.box_cell Xbt5_11.out 2
  have HC := Num.hide (Resp.mark_any s0 b0 _ (Value.slice at5 l0.length ct5) l0 1 _ Ot5_11.out (by omega) (by omega) (by omega))
  unfold Resp.val at HC
  go_wp2_with fail
  refine HC.out.mono ?_
  clear HC
  rintro e W12 ⟨rfl, ho, hg⟩
  have sz12_ : W11.heap.size ≤ W12.heap.size := hg.size
  have hlo : w.heap.size ≤ W4.heap.size := by omega
  have hlc : w.heap.size ≤ W11.heap.size := by omega
  have E12 := Num.hide (E11.out.trans (Recs.below_mark Ot5_11.out hlo hlc hg))
  have Ot3_12 := Num.hide (Recs.own_kept Ot3_11.out hg (Recs.apart (fun k hk => ⟨(Recs.own_lt Ot3_11.out k hk).1, Dt3.out k hk⟩) (fun k hk => ⟨(Recs.own_lt Ot5_11.out k hk).1, Dt5.out k hk⟩) (by omega)))
  have Or4_12 := Num.hide (Strs.own_kept Or4_11.out hg (Recs.apart (fun k hk => ⟨(Strs.own_lt Or4_11.out k hk).1, Dr4.out k hk⟩) (fun k hk => ⟨(Recs.own_lt Ot5_11.out k hk).1, Dt5.out k hk⟩) (by omega)))
  have Or7_12 := Num.hide (Strs.own_kept Or7_11.out hg (Recs.apart (fun k hk => ⟨(Strs.own_lt Or7_11.out k hk).1, Dr7.out k hk⟩) (fun k hk => ⟨(Recs.own_lt Ot5_11.out k hk).1, Dt5.out k hk⟩) (by omega)))
  have Ot10_12 := Num.hide (Recs.own_kept Ot10_11.out hg (Recs.apart (fun k hk => ⟨(Recs.own_lt Ot10_11.out k hk).1, Dt10.out k hk⟩) (fun k hk => ⟨(Recs.own_lt Ot5_11.out k hk).1, Dt5.out k hk⟩) (by omega)))
  have Xp0_12 := Num.hide (Recs.row_kept Xp0_11.out hg (fun e => by have h1 := Dt5.out _ e; have h2 := (Recs.own_lt Ot5_11.out _ e).1; omega))
  have Xbt5_12 := Num.hide (Recs.row_kept Xbt5_11.out hg (fun e => by have h1 := Dt5.out _ e; have h2 := (Recs.own_lt Ot5_11.out _ e).1; omega))
  have Ot5_12 := Num.hide ho
  clear ho hg hlo hlc E11 Ot5_11 Ot3_11 Or4_11 Or7_11 Ot10_11 Xp0_11 Xbt5_11
  clear cbt5_0 cbt5_1 cbt5_2
  have dk1 : decide ((1 + 2 * l0.length : Int) < 0) = false := by simp; omega
  have HC := Num.hide (Strs.eq_b (Value.slice ar7 L.length cr7) (Value.slice ar4 L.length cr4) L L _ (Strs.own_is Or7_12.out) (Strs.own_is Or4_12.out) (by omega))
  rw [decide_eq_true (rfl : L = L)] at HC
  go_wp2_with fail
  refine HC.out.mono ?_
  clear HC
  rintro e W13 ⟨rfl, hb⟩
  have sz13_ : W12.heap.size ≤ W13.heap.size := (hb).size
  have E13 := Num.hide (Recs.below_step E12.out (hb))
  have Ot3_13 := Num.hide (Recs.own_below Ot3_12.out (hb))
  have Or4_13 := Num.hide (Strs.own_below Or4_12.out (hb))
  have Ot5_13 := Num.hide (Recs.own_below Ot5_12.out (hb))
  have Or7_13 := Num.hide (Strs.own_below Or7_12.out (hb))
  have Ot10_13 := Num.hide (Recs.own_below Ot10_12.out (hb))
  have Xp0_13 := Num.hide (Recs.row_step Xp0_12.out (hb))
  have Xbt5_13 := Num.hide (Recs.row_step Xbt5_12.out (hb))
  clear hb E12 Ot3_12 Or4_12 Ot5_12 Or7_12 Ot10_12 Xp0_12 Xbt5_12
  go_wp2_with fail
  refine (Strs.mark_any _ (Value.slice ar7 L.length cr7) L 1 _ Or7_13.out (by omega) (by omega) (by omega)).mono ?_
  rintro e W14 ⟨rfl, ho, hg⟩
  have sz14_ : W13.heap.size ≤ W14.heap.size := hg.size
  have hlo : w.heap.size ≤ V6.heap.size := by omega
  have hlc : w.heap.size ≤ W13.heap.size := by omega
  have E14 := Num.hide (E13.out.trans (Strs.below_mark Or7_13.out hlo hlc hg))
  have Ot3_14 := Num.hide (Recs.own_kept Ot3_13.out hg (Recs.apart (fun k hk => ⟨(Recs.own_lt Ot3_13.out k hk).1, Dt3.out k hk⟩) (fun k hk => ⟨(Strs.own_lt Or7_13.out k hk).1, Dr7.out k hk⟩) (by omega)))
  have Or4_14 := Num.hide (Strs.own_kept Or4_13.out hg (Recs.apart (fun k hk => ⟨(Strs.own_lt Or4_13.out k hk).1, Dr4.out k hk⟩) (fun k hk => ⟨(Strs.own_lt Or7_13.out k hk).1, Dr7.out k hk⟩) (by omega)))
  have Ot5_14 := Num.hide (Recs.own_kept Ot5_13.out hg (Recs.apart (fun k hk => ⟨(Recs.own_lt Ot5_13.out k hk).1, Dt5.out k hk⟩) (fun k hk => ⟨(Strs.own_lt Or7_13.out k hk).1, Dr7.out k hk⟩) (by omega)))
  have Ot10_14 := Num.hide (Recs.own_kept Ot10_13.out hg (Recs.apart (fun k hk => ⟨(Recs.own_lt Ot10_13.out k hk).1, Dt10.out k hk⟩) (fun k hk => ⟨(Strs.own_lt Or7_13.out k hk).1, Dr7.out k hk⟩) (by omega)))
  have Xp0_14 := Num.hide (Recs.row_kept Xp0_13.out hg (fun e => by have h1 := Dr7.out _ e; have h2 := (Strs.own_lt Or7_13.out _ e).1; omega))
  have Xbt5_14 := Num.hide (Recs.row_kept Xbt5_13.out hg (fun e => by have h1 := Dr7.out _ e; have h2 := (Strs.own_lt Or7_13.out _ e).1; omega))
  have Or7_14 := Num.hide ho
  clear ho hg hlo hlc E13 Or7_13 Ot3_13 Or4_13 Ot5_13 Ot10_13 Xp0_13 Xbt5_13
  have dk2 : decide ((1 + L.length : Int) < 0) = false := by simp; omega
  go_wp2_with fail
  refine (Strs.held_any (Value.slice ar7 L.length cr7) L.length 1 _ (Strs.own_is Or7_14.out) (by omega) (by omega) (by omega)).mono ?_
  rintro e W15 ⟨rfl, hb⟩
  have sz15_ : W14.heap.size ≤ W15.heap.size := (hb).size
  have E15 := Num.hide (Recs.below_step E14.out (hb))
  have Ot3_15 := Num.hide (Recs.own_below Ot3_14.out (hb))
  have Or4_15 := Num.hide (Strs.own_below Or4_14.out (hb))
  have Ot5_15 := Num.hide (Recs.own_below Ot5_14.out (hb))
  have Or7_15 := Num.hide (Strs.own_below Or7_14.out (hb))
  have Ot10_15 := Num.hide (Recs.own_below Ot10_14.out (hb))
  have Xp0_15 := Num.hide (Recs.row_step Xp0_14.out (hb))
  have Xbt5_15 := Num.hide (Recs.row_step Xbt5_14.out (hb))
  clear hb E14 Ot3_14 Or4_14 Ot5_14 Or7_14 Ot10_14 Xp0_14 Xbt5_14
  have cp0_0 : W15.cell? ⟨w.heap.size, 0, none⟩ = some (.int .i64 s0) := Recs.box_cell Xp0_15.out 0
  have cp0_1 : W15.cell? ⟨w.heap.size, 1, none⟩ = some ((Value.slice aa0 l0.length ca0)) := Recs.box_cell Xp0_15.out 1
  have cp0_2 : W15.cell? ⟨w.heap.size, 2, none⟩ = some (.string b0) := Recs.box_cell Xp0_15.out 2
  go_wp2_with fail
  refine (HT0.out _ (Flds.arg_stay A0.out (Nat.le_refl _) E15.out).1).mono ?_
  rintro e W16 ⟨t16, rfl, ho, hb⟩
  obtain ⟨at16, ct16, hvt16⟩ := Recs.own_len ho
  subst hvt16
  have sz16_ : W15.heap.size ≤ W16.heap.size := (hb).size
  have E16 := Num.hide (Recs.below_step E15.out (hb))
  have Ot3_16 := Num.hide (Recs.own_below Ot3_15.out (hb))
  have Or4_16 := Num.hide (Strs.own_below Or4_15.out (hb))
  have Ot5_16 := Num.hide (Recs.own_below Ot5_15.out (hb))
  have Or7_16 := Num.hide (Strs.own_below Or7_15.out (hb))
  have Ot10_16 := Num.hide (Recs.own_below Ot10_15.out (hb))
  have Xp0_16 := Num.hide (Recs.row_step Xp0_15.out (hb))
  have Xbt5_16 := Num.hide (Recs.row_step Xbt5_15.out (hb))
  have Ot16_16 := Num.hide ho
  have Dt16 : Hid (∀ k, (Value.slice at16 l0.length ct16).ownBlock = some k → k < W16.heap.size) := fun k hk => (Recs.own_lt ho k hk).2
  clear ho hb E15 Ot3_15 Or4_15 Ot5_15 Or7_15 Ot10_15 Xp0_15 Xbt5_15
  clear cp0_0 cp0_1 cp0_2
  go_wp2_with fail
  refine (HI.out (Value.slice at16 l0.length ct16) _ (Recs.own_is Flds.cells_len Ot16_16.out) E16.out).mono ?_
  rintro e W17 ⟨r17, rfl, ho, hb⟩
  obtain ⟨ar17, cr17, hvr17⟩ := Strs.own_len ho
  subst hvr17
  have sz17_ : W16.heap.size ≤ W17.heap.size := (hb).size
  have E17 := Num.hide (Recs.below_step E16.out (hb))
  have Ot3_17 := Num.hide (Recs.own_below Ot3_16.out (hb))
  have Or4_17 := Num.hide (Strs.own_below Or4_16.out (hb))
  have Ot5_17 := Num.hide (Recs.own_below Ot5_16.out (hb))
  have Or7_17 := Num.hide (Strs.own_below Or7_16.out (hb))
  have Ot10_17 := Num.hide (Recs.own_below Ot10_16.out (hb))
  have Ot16_17 := Num.hide (Recs.own_below Ot16_16.out (hb))
  have Xp0_17 := Num.hide (Recs.row_step Xp0_16.out (hb))
  have Xbt5_17 := Num.hide (Recs.row_step Xbt5_16.out (hb))
  have Or17_17 := Num.hide ho
  have Dr17 : Hid (∀ k, (Value.slice ar17 L.length cr17).ownBlock = some k → k < W17.heap.size) := fun k hk => (Strs.own_lt ho k hk).2
  clear ho hb E16 Ot3_16 Or4_16 Ot5_16 Or7_16 Ot10_16 Ot16_16 Xp0_16 Xbt5_16
  have HC := Num.hide (Strs.eq_b (Value.slice ar17 L.length cr17) (Value.slice ar4 L.length cr4) L L _ (Strs.own_is Or17_17.out) (Strs.own_is Or4_17.out) (by omega))
  rw [decide_eq_true (rfl : L = L)] at HC
  go_wp2_with fail
  refine HC.out.mono ?_
  clear HC
  rintro e W18 ⟨rfl, hb⟩
  have sz18_ : W17.heap.size ≤ W18.heap.size := (hb).size
  have E18 := Num.hide (Recs.below_step E17.out (hb))
  have Ot3_18 := Num.hide (Recs.own_below Ot3_17.out (hb))
  have Or4_18 := Num.hide (Strs.own_below Or4_17.out (hb))
  have Ot5_18 := Num.hide (Recs.own_below Ot5_17.out (hb))
  have Or7_18 := Num.hide (Strs.own_below Or7_17.out (hb))
  have Ot10_18 := Num.hide (Recs.own_below Ot10_17.out (hb))
  have Ot16_18 := Num.hide (Recs.own_below Ot16_17.out (hb))
  have Or17_18 := Num.hide (Strs.own_below Or17_17.out (hb))
  have Xp0_18 := Num.hide (Recs.row_step Xp0_17.out (hb))
  have Xbt5_18 := Num.hide (Recs.row_step Xbt5_17.out (hb))
  clear hb E17 Ot3_17 Or4_17 Ot5_17 Or7_17 Ot10_17 Ot16_17 Or17_17 Xp0_17 Xbt5_17
  go_wp2_with fail
  refine (Strs.held_any (Value.slice ar7 L.length cr7) L.length 1 _ (Strs.own_is Or7_18.out) (by omega) (by omega) (by omega)).mono ?_
  rintro e W19 ⟨rfl, hb⟩
  have sz19_ : W18.heap.size ≤ W19.heap.size := (hb).size
  have E19 := Num.hide (Recs.below_step E18.out (hb))
  have Ot3_19 := Num.hide (Recs.own_below Ot3_18.out (hb))
  have Or4_19 := Num.hide (Strs.own_below Or4_18.out (hb))
  have Ot5_19 := Num.hide (Recs.own_below Ot5_18.out (hb))
  have Or7_19 := Num.hide (Strs.own_below Or7_18.out (hb))
  have Ot10_19 := Num.hide (Recs.own_below Ot10_18.out (hb))
  have Ot16_19 := Num.hide (Recs.own_below Ot16_18.out (hb))
  have Or17_19 := Num.hide (Strs.own_below Or17_18.out (hb))
  have Xp0_19 := Num.hide (Recs.row_step Xp0_18.out (hb))
  have Xbt5_19 := Num.hide (Recs.row_step Xbt5_18.out (hb))
  clear hb E18 Ot3_18 Or4_18 Ot5_18 Or7_18 Ot10_18 Ot16_18 Or17_18 Xp0_18 Xbt5_18
  go_wp2
  go_ret
  exact ⟨rfl, E19.out⟩
end Vary
end Go.Proofs.YtkogcbnbmdeolaaDoor
namespace Go.Proofs.YtkogcbnbmdeolaaDoor
open Go.RowKit
set_option linter.unusedVariables false
namespace Flds

/-- what lies below block B, and from block n on, is as it was -/
structure Far (B n : Nat) (W W' : World) : Prop where
  below : Below B W W'
  rows : ∀ j, n ≤ j → j < W.heap.size → W'.heap[j]? = W.heap[j]?
theorem Far.of_below {B n : Nat} {W W' : World} (h : Below W.heap.size W W') (hB : B ≤ W.heap.size) : Far B n W W' := ⟨h.mono hB, fun j _ hj => h.block j hj⟩
theorem own_far {α : Type} {e : TypeId} {sz : Nat} {enc : α → List Value} {B n : Nat} {W W' : World} {v : Value} {l : List α} (h : Recs.Own e sz enc n W v l) (hf : Far B n W W') : Recs.Own e sz enc n W' v l := by
  refine ⟨h.1, ?_⟩
  have hlt := Recs.own_lt h
  rcases h.2 with h1 | ⟨g, cap, cur, h1, hB, hg, rest⟩
  · exact .inl h1
  · subst h1
    exact .inr ⟨g, cap, cur, rfl, hB, by rw [hf.rows g hB (hlt g rfl).2]; exact hg, rest⟩
end Flds
end Go.Proofs.YtkogcbnbmdeolaaDoor
