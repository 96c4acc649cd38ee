/-
  FnExactSameResponse, whatever the program's SameResponse keeps to: it answers as the specification's and leaves its arguments as they were.
-/
import Derived.Test.YtmiahdiadlnijaaRespSameSpec
import Derived.Test.YtmiahdiadlnijaaRespLaw
import Derived.Test.YtmiahdiadlnijaaRespTo
import Derived.Test.YtmiahdiadlnijaaRespEq
import Derived.Test.YtmiahdiadlnijaaRegLaw
import Derived.Deep.Cut
namespace Go.Proofs.Ytmiahdiadlnijaa
open Go.RowKit
set_option linter.unusedVariables false
set_option linter.unusedSimpArgs false
namespace Msg

/-- the boxes that the law loads, and what they lead to -/
abbrev Same2 (w : World) (ga : Nat) (gb : Nat) (s1 s2 : Int) (va : Value) (vb : Value) (l1 l2 : List Flds.Fld) (b1 b2 : ByteArray) (W : World) : Prop :=
  W.cell? ⟨ga, 0, none⟩ = some (.int .i64 s1) ∧ W.cell? ⟨ga, 1, none⟩ = some va ∧ W.cell? ⟨ga, 2, none⟩ = some (.string b1) ∧ W.cell? ⟨gb, 0, none⟩ = some (.int .i64 s2) ∧ W.cell? ⟨gb, 1, none⟩ = some vb ∧ W.cell? ⟨gb, 2, none⟩ = some (.string b2) ∧ Flds.Arg W va l1 ∧ Flds.Arg W vb l2 ∧ Below w.heap.size w W
theorem Same2.step {w : World} {ga : Nat} {gb : Nat} {s1 s2 : Int} {va : Value} {vb : Value} {l1 l2 : List Flds.Fld} {b1 b2 : ByteArray} {W W' : World} (h : Same2 w ga gb s1 s2 va vb l1 l2 b1 b2 W) (hb : Below W.heap.size W W') : Same2 w ga gb s1 s2 va vb l1 l2 b1 b2 W' := by
  obtain ⟨h0, h1, h2, h3, h4, h5, h6, h7, h8⟩ := h
  have q0 : ga < W.heap.size := Recs.lt_of_cell h0
  have q1 : gb < W.heap.size := Recs.lt_of_cell h3
  exact ⟨(hb.cell (p := ⟨ga, 0, none⟩) q0).trans h0, (hb.cell (p := ⟨ga, 1, none⟩) q0).trans h1, (hb.cell (p := ⟨ga, 2, none⟩) q0).trans h2, (hb.cell (p := ⟨gb, 0, none⟩) q1).trans h3, (hb.cell (p := ⟨gb, 1, none⟩) q1).trans h4, (hb.cell (p := ⟨gb, 2, none⟩) q1).trans h5, Flds.arg_stay h6 (Nat.le_refl _) hb, Flds.arg_stay h7 (Nat.le_refl _) hb, h8.trans (hb.mono h8.size)⟩
abbrev Same4 (w : World) (ga : Nat) (gb : Nat) (gx : Nat) (gy : Nat) (s1 s2 : Int) (va : Value) (vb : Value) (vx : Value) (vy : Value) (l1 l2 : List Flds.Fld) (b1 b2 : ByteArray) (W : World) : Prop :=
  W.cell? ⟨ga, 0, none⟩ = some (.int .i64 s1) ∧ W.cell? ⟨ga, 1, none⟩ = some va ∧ W.cell? ⟨ga, 2, none⟩ = some (.string b1) ∧ W.cell? ⟨gb, 0, none⟩ = some (.int .i64 s2) ∧ W.cell? ⟨gb, 1, none⟩ = some vb ∧ W.cell? ⟨gb, 2, none⟩ = some (.string b2) ∧ W.cell? ⟨gx, 0, none⟩ = some (.int .i64 s1) ∧ W.cell? ⟨gx, 1, none⟩ = some vx ∧ W.cell? ⟨gx, 2, none⟩ = some (.string b1) ∧ W.cell? ⟨gy, 0, none⟩ = some (.int .i64 s2) ∧ W.cell? ⟨gy, 1, none⟩ = some vy ∧ W.cell? ⟨gy, 2, none⟩ = some (.string b2) ∧ Flds.Arg W va l1 ∧ Flds.Arg W vb l2 ∧ Flds.Is W vx l1 ∧ Flds.Is W vy l2 ∧ Below w.heap.size w W
theorem Same4.step {w : World} {ga : Nat} {gb : Nat} {gx : Nat} {gy : Nat} {s1 s2 : Int} {va : Value} {vb : Value} {vx : Value} {vy : Value} {l1 l2 : List Flds.Fld} {b1 b2 : ByteArray} {W W' : World} (h : Same4 w ga gb gx gy s1 s2 va vb vx vy l1 l2 b1 b2 W) (hb : Below W.heap.size W W') : Same4 w ga gb gx gy s1 s2 va vb vx vy l1 l2 b1 b2 W' := by
  obtain ⟨h0, h1, h2, h3, h4, h5, h6, h7, h8, h9, h10, h11, h12, h13, h14, h15, h16⟩ := h
  have q0 : ga < W.heap.size := Recs.lt_of_cell h0
  have q1 : gb < W.heap.size := Recs.lt_of_cell h3
  have q2 : gx < W.heap.size := Recs.lt_of_cell h6
  have q3 : gy < W.heap.size := Recs.lt_of_cell h9
  exact ⟨(hb.cell (p := ⟨ga, 0, none⟩) q0).trans h0, (hb.cell (p := ⟨ga, 1, none⟩) q0).trans h1, (hb.cell (p := ⟨ga, 2, none⟩) q0).trans h2, (hb.cell (p := ⟨gb, 0, none⟩) q1).trans h3, (hb.cell (p := ⟨gb, 1, none⟩) q1).trans h4, (hb.cell (p := ⟨gb, 2, none⟩) q1).trans h5, (hb.cell (p := ⟨gx, 0, none⟩) q2).trans h6, (hb.cell (p := ⟨gx, 1, none⟩) q2).trans h7, (hb.cell (p := ⟨gx, 2, none⟩) q2).trans h8, (hb.cell (p := ⟨gy, 0, none⟩) q3).trans h9, (hb.cell (p := ⟨gy, 1, none⟩) q3).trans h10, (hb.cell (p := ⟨gy, 2, none⟩) q3).trans h11, Flds.arg_stay h12 (Nat.le_refl _) hb, Flds.arg_stay h13 (Nat.le_refl _) hb, Recs.is_below h14 hb, Recs.is_below h15 hb, h16.trans (hb.mono h16.size)⟩
set_option maxRecDepth 100000 in
set_option maxHeartbeats 8000000 in
theorem sameResp_law (G : World → Prop) (hG : ∀ W W', G W → Below W.heap.size W W' → G W')
    (hi : ∀ (s1 s2 : Int) (v1 v2 : Value) (l1 l2 : List Flds.Fld) (b1 b2 : ByteArray) W, Flds.Is W v1 l1 → Flds.Is W v2 l2 → Flds.bulk l1 + b1.size ≤ 1048576 → Flds.bulk l2 + b2.size ≤ 1048576 → G W → Calls Try.prog 11 #[Resp.val s1 v1 b1, Resp.val s2 v2 b2] W fun e w' => e = .returned (.bool (sameResp s1 l1 b1 s2 l2 b2)) ∧ Below W.heap.size W w')
    (s1 s2 : Int) (a1 a2 : Value) (l1 l2 : List Flds.Fld) (b1 b2 : ByteArray) (w : World) (ha1 : Flds.Arg w a1 l1) (ha2 : Flds.Arg w a2 l2) (hb1 : b1.size ≤ maxLen) (hb2 : b2.size ≤ maxLen) (hg : G w) :
    Calls Try.prog 4 #[Resp.val s1 a1 b1, Resp.val s2 a2 b2] w fun e w' => e = .returned (.bool true) ∧ Below w.heap.size w w' := by
  have HZ1 := Num.hide (fun W h => Resp.sz_any s1 a1 l1 b1 1048576 W h hb1 (by omega) (by omega))
  have H1 := Num.hide ha1
  have H2 := Num.hide ha2
  obtain ⟨aa, ca, rfl, _⟩ := Flds.is_form ha1.1
  obtain ⟨ab, cb, rfl, _⟩ := Flds.is_form ha2.1
  have hb0 : Below w.heap.size w ((w.alloc (.cells #[.int .i64 s1, (.slice aa l1.length ca), .string b1] 25)).alloc (.cells #[.int .i64 s2, (.slice ab l2.length cb), .string b2] 25)) := ((Below.refl _ w).alloc (Nat.le_refl _) _).alloc (by simp) _
  have e0 : (w.alloc (.cells #[.int .i64 s1, (.slice aa l1.length ca), .string b1] 25)).heap.size = w.heap.size + 1 := by rw [World.size_alloc]
  have x0 : ((w.alloc (.cells #[.int .i64 s1, (.slice aa l1.length ca), .string b1] 25)).alloc (.cells #[.int .i64 s2, (.slice ab l2.length cb), .string b2] 25)).heap[w.heap.size]? = some (.cells #[.int .i64 s1, (.slice aa l1.length ca), .string b1] 25) := (heap_alloc_old _ _ (by omega)).trans (heap_alloc_new w _)
  have y0 : ((w.alloc (.cells #[.int .i64 s1, (.slice aa l1.length ca), .string b1] 25)).alloc (.cells #[.int .i64 s2, (.slice ab l2.length cb), .string b2] 25)).heap[w.heap.size + 1]? = some (.cells #[.int .i64 s2, (.slice ab l2.length cb), .string b2] 25) := by
    have := heap_alloc_new (w.alloc (.cells #[.int .i64 s1, (.slice aa l1.length ca), .string b1] 25)) (.cells #[.int .i64 s2, (.slice ab l2.length cb), .string b2] 25)
    rw [e0] at this
    exact this
  have K0 : Hid (Same2 w w.heap.size (w.heap.size + 1) s1 s2 (.slice aa l1.length ca) (.slice ab l2.length cb) l1 l2 b1 b2 ((w.alloc (.cells #[.int .i64 s1, (.slice aa l1.length ca), .string b1] 25)).alloc (.cells #[.int .i64 s2, (.slice ab l2.length cb), .string b2] 25))) := ⟨Recs.box_cell x0 0, Recs.box_cell x0 1, Recs.box_cell x0 2, Recs.box_cell y0 0, Recs.box_cell y0 1, Recs.box_cell y0 2, Flds.arg_stay H1.out (Nat.le_refl _) hb0, Flds.arg_stay H2.out (Nat.le_refl _) hb0, hb0⟩
  clear ha1 ha2 hb0 x0 y0 e0
  unfold Resp.val at HZ1 ⊢
  by_cases hbk1 : ¬ (Resp.bulk l1 b1 : Int) ≤ 1048576
  · rw [Flds.left_no hbk1] at HZ1
    clear hi hG hg
    go_enter Try.func4, Try.ntmps4
    go_wp2_with fail
    refine (HZ1.out _ K0.out.2.2.2.2.2.2.1).mono ?_
    rintro e W1 ⟨rfl, hb⟩
    have K1 := Num.hide (Same2.step K0.out hb)
    clear hb K0
    go_wp2
    go_ret
    exact ⟨rfl, K1.out.2.2.2.2.2.2.2.2⟩
  have hbb1 := Decidable.not_not.1 hbk1
  rw [Flds.left_yes hbb1] at HZ1
  have HZ2 := Num.hide (fun W h => Resp.sz_any s2 (.slice ab l2.length cb) l2 b2 (1048576 - (Resp.bulk l1 b1 : Int)) W h hb2 (by omega) (by omega))
  unfold Resp.val at HZ2
  have dz1 : decide ((1048576 : Int) - (Resp.bulk l1 b1 : Int) < 0) = false := by simp; omega
  by_cases hbk2 : ¬ (Resp.bulk l2 b2 : Int) ≤ 1048576 - (Resp.bulk l1 b1 : Int)
  · rw [Flds.left_no hbk2] at HZ2
    clear hi hG hg
    go_enter Try.func4, Try.ntmps4
    go_wp2_with fail
    refine (HZ1.out _ K0.out.2.2.2.2.2.2.1).mono ?_
    rintro e W1 ⟨rfl, hb⟩
    have K1 := Num.hide (Same2.step K0.out hb)
    clear hb K0
    obtain ⟨k0, k1, k2, k3, k4, k5, _⟩ := K1.out
    go_wp2_with fail
    refine (HZ2.out _ K1.out.2.2.2.2.2.2.2.1).mono ?_
    rintro e W2 ⟨rfl, hb⟩
    have K2 := Num.hide (Same2.step K1.out hb)
    clear hb K1
    go_wp2
    go_ret
    exact ⟨rfl, K2.out.2.2.2.2.2.2.2.2⟩
  · have hbb2 := Decidable.not_not.1 hbk2
    rw [Flds.left_yes hbb2] at HZ2
    have dz2 : decide ((1048576 : Int) - (Resp.bulk l1 b1 : Int) - (Resp.bulk l2 b2 : Int) < 0) = false := by simp; omega
    have hc1 : Flds.bulk l1 + b1.size ≤ 1048576 := by unfold Resp.bulk at hbb1; omega
    have hc2 : Flds.bulk l2 + b2.size ≤ 1048576 := by unfold Resp.bulk at hbb1 hbb2; omega
    have hlen1 : l1.length ≤ 1048576 := by have := Flds.len_le l1; omega
    have hlen2 : l2.length ≤ 1048576 := by have := Flds.len_le l2; omega
    have HTa := Num.hide (fun W h => Resp.to_any s1 (.slice aa l1.length ca) l1 b1 W h hlen1)
    have HTb := Num.hide (fun W h => Resp.to_any s2 (.slice ab l2.length cb) l2 b2 W h hlen2)
    have HS := Num.hide (fun v1 v2 W h1 h2 => sameResp_spec s1 s2 v1 v2 l1 l2 b1 b2 W h1 h2 (by omega))
    have HI := Num.hide (fun v1 v2 W h1 h2 (hb : Below w.heap.size w W) => hi s1 s2 v1 v2 l1 l2 b1 b2 W h1 h2 hc1 hc2 (hG w W hg hb))
    have HE1 := Num.hide (fun v1 v2 W h1 h2 => Resp.eq_any s1 s1 v1 v2 l1 l1 b1 b1 W h1 h2 (by omega))
    have HE2 := Num.hide (fun v1 v2 W h1 h2 => Resp.eq_any s2 s2 v1 v2 l2 l2 b2 b2 W h1 h2 (by omega))
    rw [decide_eq_true ⟨rfl, rfl, rfl⟩] at HE1 HE2
    unfold Resp.val at HTa HTb HS HI HE1 HE2
    generalize sameResp s1 l1 b1 s2 l2 b2 = r at HS HI
    generalize Resp.bulk l1 b1 = n1 at HZ1 HZ2 dz1 dz2 hbb1 hbb2
    generalize Resp.bulk l2 b2 = n2 at HZ2 dz2 hbb2
    clear hi hG hg hbk1 hbk2
    go_enter Try.func4, Try.ntmps4
    go_wp2_with fail
    refine (HZ1.out _ K0.out.2.2.2.2.2.2.1).mono ?_
    rintro e W1 ⟨rfl, hb⟩
    have K1 := Num.hide (Same2.step K0.out hb)
    clear hb K0 HZ1
    obtain ⟨k0, k1, k2, k3, k4, k5, _⟩ := K1.out
    go_wp2_with fail
    refine (HZ2.out _ K1.out.2.2.2.2.2.2.2.1).mono ?_
    rintro e W2 ⟨rfl, hb⟩
    have K2 := Num.hide (Same2.step K1.out hb)
    clear hb K1 HZ2 k0 k1 k2 k3 k4 k5
    go_wp2_with fail
    refine wp_region_held_drew (S := Same2 w w.heap.size (w.heap.size + 1) s1 s2 (.slice aa l1.length ca) (.slice ab l2.length cb) l1 l2 b1 b2) (by kernel_rfl) (Same2.step K2.out (Below.refl _ _).drew) (fun hHeld => ?_)
    refine Reg.take (i := 0) (d := 20) (v := ?_) rfl rfl (by kernel_rfl) (by kernel_rfl) (by kernel_rfl) (fun _ _ _ h => h) (by rfl) ?_ hHeld ?_
    rotate_left
    · rintro W ⟨k0, k1, k2, k3, k4, k5, k6, k7, k8⟩
      first | (go_simp; done) | (go_simp; with_reducible rfl)
    simp only [Act.put, List.setIfInBounds_toArray, List.set_cons_zero, List.set_cons_succ]
    refine Reg.take (i := 2) (d := 22) (v := ?_) rfl rfl (by kernel_rfl) (by kernel_rfl) (by kernel_rfl) (fun _ _ _ h => h) (by rfl) ?_ hHeld ?_
    rotate_left
    · rintro W ⟨k0, k1, k2, k3, k4, k5, k6, k7, k8⟩
      first | (go_simp; done) | (go_simp; with_reducible rfl)
    simp only [Act.put, List.setIfInBounds_toArray, List.set_cons_zero, List.set_cons_succ]
    refine Reg.call (i := 1) rfl (by kernel_rfl) (by rfl) (fun K hK => ?_)
    go_wp2_with (first | (go_at_call 10; refine (HTa.out _ hHeld.2.2.2.2.2.2.1.1).mono ?_; rintro e Wa ⟨va1, rfl, ho, hb⟩))
    obtain ⟨ava1, cva1, hvva1⟩ := Recs.own_len ho
    subst hvva1
    have Iva1 := Num.hide (Recs.own_is Flds.cells_len ho)
    have HBva1 := Num.hide hb
    clear ho hb
    refine hK.out _ _ ?_ (fun hHeld2 => ?_)
    · exact Same2.step hHeld HBva1.out
    clear hK K
    replace hHeld := hHeld2
    clear hHeld2
    refine Reg.call (i := 3) rfl (by kernel_rfl) (by rfl) (fun K hK => ?_)
    go_wp2_with (first | (go_at_call 10; refine (HTb.out _ hHeld.2.2.2.2.2.2.2.1.1).mono ?_; rintro e Wb ⟨vb1, rfl, ho, hb⟩))
    obtain ⟨avb1, cvb1, hvvb1⟩ := Recs.own_len ho
    subst hvvb1
    have Ivb1 := Num.hide (Recs.own_is Flds.cells_len ho)
    have HBvb1 := Num.hide hb
    clear ho hb
    have Iva2 := Num.hide (Recs.is_below Iva1.out HBvb1.out)
    refine hK.out _ _ ?_ (fun hHeld2 => ?_)
    · exact Same2.step hHeld HBvb1.out
    clear hK K
    replace hHeld := hHeld2
    clear hHeld2
    refine Reg.call (i := 4) rfl (by kernel_rfl) (by rfl) (fun K hK => ?_)
    go_wp2_with (first | (go_at_call 9; refine (HS.out _ _ _ Iva2.out Ivb1.out).mono ?_; rintro e Wc ⟨rfl, hb⟩))
    have HBc := Num.hide hb
    clear hb
    refine hK.out _ _ ?_ (fun hHeld2 => ?_)
    · exact Same2.step hHeld HBc.out
    clear hK K
    replace hHeld := hHeld2
    clear hHeld2
    refine Reg.take (i := 5) (d := 6) (v := ?_) rfl rfl (by kernel_rfl) (by kernel_rfl) (by kernel_rfl) (fun _ _ _ h => h) (by rfl) ?_ hHeld ?_
    rotate_left
    · rintro W ⟨k0, k1, k2, k3, k4, k5, k6, k7, k8⟩
      first | (go_simp; done) | (go_simp; with_reducible rfl)
    simp only [Act.put, List.setIfInBounds_toArray, List.set_cons_zero, List.set_cons_succ]
    refine wpAnyH_done (by kernel_rfl) ?_ _
    have K3 := Num.hide hHeld
    clear hHeld K2 HS Iva1 Iva2 Ivb1 HBva1 HBvb1 HBc
    obtain ⟨k0, k1, k2, k3, k4, k5, _⟩ := K3.out
    go_wp2_with fail
    refine (HTa.out _ K3.out.2.2.2.2.2.2.1.1).mono ?_
    rintro e W4 ⟨v4, rfl, ho, hb⟩
    obtain ⟨ax, cx, hv4⟩ := Recs.own_len ho
    subst hv4
    have hal := (Below.refl W4.heap.size W4).alloc (Nat.le_refl _) (.cells #[.int .i64 s1, (.slice ax l1.length cx), .string b1] 30)
    have K4 := Num.hide (Same2.step (Same2.step K3.out hb) hal)
    have Ix4 := Num.hide (Recs.is_below (Recs.own_is Flds.cells_len ho) hal)
    have X4 := Num.hide (heap_alloc_new W4 (.cells #[.int .i64 s1, (.slice ax l1.length cx), .string b1] 30))
    clear ho hb hal K3 k0 k1 k2 k3 k4 k5
    go_upto_region 10 with fail
    generalize W4.alloc (.cells #[.int .i64 s1, (.slice ax l1.length cx), .string b1] 30) = V4 at K4 Ix4 X4 ⊢
    generalize W4.heap.size = g3 at X4 ⊢
    obtain ⟨k0, k1, k2, k3, k4, k5, _⟩ := K4.out
    go_wp2_with fail
    refine (HTb.out _ K4.out.2.2.2.2.2.2.2.1.1).mono ?_
    rintro e W5 ⟨v5, rfl, ho, hb⟩
    obtain ⟨ay, cy, hv5⟩ := Recs.own_len ho
    subst hv5
    have hal := (Below.refl W5.heap.size W5).alloc (Nat.le_refl _) (.cells #[.int .i64 s2, (.slice ay l2.length cy), .string b2] 30)
    have K5 := Num.hide (Same2.step (Same2.step K4.out hb) hal)
    have Ix5 := Num.hide (Recs.is_below (Recs.is_below Ix4.out hb) hal)
    have Iy5 := Num.hide (Recs.is_below (Recs.own_is Flds.cells_len ho) hal)
    have hlt := (Array.getElem?_eq_some_iff.1 X4.out).1
    have X5 := Num.hide ((hal.block g3 (Nat.lt_of_lt_of_le hlt hb.size)).trans ((hb.block g3 hlt).trans X4.out))
    have Y5 := Num.hide (heap_alloc_new W5 (.cells #[.int .i64 s2, (.slice ay l2.length cy), .string b2] 30))
    clear ho hb hal hlt K4 Ix4 X4 k0 k1 k2 k3 k4 k5
    go_upto_region 11 with fail
    generalize W5.alloc (.cells #[.int .i64 s2, (.slice ay l2.length cy), .string b2] 30) = V5 at K5 Ix5 Iy5 X5 Y5 ⊢
    generalize W5.heap.size = g4 at Y5 ⊢
    have K6 : Hid (Same4 w w.heap.size (w.heap.size + 1) g3 g4 s1 s2 (.slice aa l1.length ca) (.slice ab l2.length cb) (.slice ax l1.length cx) (.slice ay l2.length cy) l1 l2 b1 b2 V5) := by
      obtain ⟨k0, k1, k2, k3, k4, k5, k6, k7, k8⟩ := K5.out
      exact ⟨k0, k1, k2, k3, k4, k5, Recs.box_cell X5.out 0, Recs.box_cell X5.out 1, Recs.box_cell X5.out 2, Recs.box_cell Y5.out 0, Recs.box_cell Y5.out 1, Recs.box_cell Y5.out 2, k6, k7, Ix5.out, Iy5.out, k8⟩
    clear K5 X5 Y5
    obtain ⟨_, _, _, _, _, _, k0, k1, k2, k3, k4, k5, _⟩ := K6.out
    go_wp2_with fail
    refine (HI.out _ _ _ Ix5.out Iy5.out K6.out.2.2.2.2.2.2.2.2.2.2.2.2.2.2.2.2).mono ?_
    rintro e W6 ⟨rfl, hb⟩
    have K7 := Num.hide (Same4.step K6.out hb)
    clear hb K6 Ix5 Iy5 HI k0 k1 k2 k3 k4 k5
    go_wp2_with fail
    refine wp_region_held_drew (S := Same4 w w.heap.size (w.heap.size + 1) g3 g4 s1 s2 (.slice aa l1.length ca) (.slice ab l2.length cb) (.slice ax l1.length cx) (.slice ay l2.length cy) l1 l2 b1 b2) (by kernel_rfl) (Same4.step K7.out (Below.refl _ _).drew) (fun hHeld => ?_)
    refine Reg.take (i := 0) (d := 35) (v := ?_) rfl rfl (by kernel_rfl) (by kernel_rfl) (by kernel_rfl) (fun _ _ _ h => h) (by rfl) ?_ hHeld ?_
    rotate_left
    · rintro W ⟨k0, k1, k2, k3, k4, k5, k6, k7, k8, k9, k10, k11, k12, k13, k14, k15, k16⟩
      first | (go_simp; done) | (go_simp; with_reducible rfl)
    simp only [Act.put, List.setIfInBounds_toArray, List.set_cons_zero, List.set_cons_succ]
    refine Reg.take (i := 1) (d := 36) (v := ?_) rfl rfl (by kernel_rfl) (by kernel_rfl) (by kernel_rfl) (fun _ _ _ h => h) (by rfl) ?_ hHeld ?_
    rotate_left
    · rintro W ⟨k0, k1, k2, k3, k4, k5, k6, k7, k8, k9, k10, k11, k12, k13, k14, k15, k16⟩
      first | (go_simp; done) | (go_simp; with_reducible rfl)
    simp only [Act.put, List.setIfInBounds_toArray, List.set_cons_zero, List.set_cons_succ]
    refine Reg.call (i := 2) rfl (by kernel_rfl) (by rfl) (fun K hK => ?_)
    go_wp2_with (first | (go_at_call 10; refine (HTa.out _ hHeld.2.2.2.2.2.2.2.2.2.2.2.2.1.1).mono ?_; rintro e Wp ⟨vp, rfl, ho, hb⟩))
    obtain ⟨avp, cvp, hvvp⟩ := Recs.own_len ho
    subst hvvp
    have Ivp := Num.hide (Recs.own_is Flds.cells_len ho)
    have HBvp := Num.hide hb
    clear ho hb
    refine hK.out _ _ ?_ (fun hHeld2 => ?_)
    · exact Same4.step hHeld HBvp.out
    clear hK K
    replace hHeld := hHeld2
    clear hHeld2
    refine Reg.call (i := 3) rfl (by kernel_rfl) (by rfl) (fun K hK => ?_)
    go_wp2_with (first | (go_at_call 12; refine (HE1.out _ _ _ hHeld.2.2.2.2.2.2.2.2.2.2.2.2.2.2.1 Ivp.out).mono ?_; rintro e Wp2 ⟨rfl, hb⟩))
    have HBp2 := Num.hide hb
    clear hb
    refine hK.out _ _ ?_ (fun hHeld2 => ?_)
    · exact Same4.step hHeld HBp2.out
    clear hK K
    replace hHeld := hHeld2
    clear hHeld2
    refine Reg.take (i := 4) (d := 39) (v := ?_) rfl rfl (by kernel_rfl) (by kernel_rfl) (by kernel_rfl) (fun _ _ _ h => h) (by rfl) ?_ hHeld ?_
    rotate_left
    · rintro W ⟨k0, k1, k2, k3, k4, k5, k6, k7, k8, k9, k10, k11, k12, k13, k14, k15, k16⟩
      first | (go_simp; done) | (go_simp; with_reducible rfl)
    simp only [Act.put, List.setIfInBounds_toArray, List.set_cons_zero, List.set_cons_succ]
    refine wpAnyH_done (by kernel_rfl) ?_ _
    have K8 := Num.hide hHeld
    clear hHeld K7
    go_wp2_with fail
    refine wp_region_held_drew (S := Same4 w w.heap.size (w.heap.size + 1) g3 g4 s1 s2 (.slice aa l1.length ca) (.slice ab l2.length cb) (.slice ax l1.length cx) (.slice ay l2.length cy) l1 l2 b1 b2) (by kernel_rfl) (Same4.step K8.out (Below.refl _ _).drew) (fun hHeld => ?_)
    refine Reg.take (i := 0) (d := 40) (v := ?_) rfl rfl (by kernel_rfl) (by kernel_rfl) (by kernel_rfl) (fun _ _ _ h => h) (by rfl) ?_ hHeld ?_
    rotate_left
    · rintro W ⟨k0, k1, k2, k3, k4, k5, k6, k7, k8, k9, k10, k11, k12, k13, k14, k15, k16⟩
      first | (go_simp; done) | (go_simp; with_reducible rfl)
    simp only [Act.put, List.setIfInBounds_toArray, List.set_cons_zero, List.set_cons_succ]
    refine Reg.take (i := 1) (d := 41) (v := ?_) rfl rfl (by kernel_rfl) (by kernel_rfl) (by kernel_rfl) (fun _ _ _ h => h) (by rfl) ?_ hHeld ?_
    rotate_left
    · rintro W ⟨k0, k1, k2, k3, k4, k5, k6, k7, k8, k9, k10, k11, k12, k13, k14, k15, k16⟩
      first | (go_simp; done) | (go_simp; with_reducible rfl)
    simp only [Act.put, List.setIfInBounds_toArray, List.set_cons_zero, List.set_cons_succ]
    refine Reg.call (i := 2) rfl (by kernel_rfl) (by rfl) (fun K hK => ?_)
    go_wp2_with (first | (go_at_call 10; refine (HTb.out _ hHeld.2.2.2.2.2.2.2.2.2.2.2.2.2.1.1).mono ?_; rintro e Wq ⟨vq, rfl, ho, hb⟩))
    obtain ⟨avq, cvq, hvvq⟩ := Recs.own_len ho
    subst hvvq
    have Ivq := Num.hide (Recs.own_is Flds.cells_len ho)
    have HBvq := Num.hide hb
    clear ho hb
    refine hK.out _ _ ?_ (fun hHeld2 => ?_)
    · exact Same4.step hHeld HBvq.out
    clear hK K
    replace hHeld := hHeld2
    clear hHeld2
    refine Reg.call (i := 3) rfl (by kernel_rfl) (by rfl) (fun K hK => ?_)
    go_wp2_with (first | (go_at_call 12; refine (HE2.out _ _ _ hHeld.2.2.2.2.2.2.2.2.2.2.2.2.2.2.2.1 Ivq.out).mono ?_; rintro e Wq2 ⟨rfl, hb⟩))
    have HBq2 := Num.hide hb
    clear hb
    refine hK.out _ _ ?_ (fun hHeld2 => ?_)
    · exact Same4.step hHeld HBq2.out
    clear hK K
    replace hHeld := hHeld2
    clear hHeld2
    refine Reg.take (i := 4) (d := 44) (v := ?_) rfl rfl (by kernel_rfl) (by kernel_rfl) (by kernel_rfl) (fun _ _ _ h => h) (by rfl) ?_ hHeld ?_
    rotate_left
    · rintro W ⟨k0, k1, k2, k3, k4, k5, k6, k7, k8, k9, k10, k11, k12, k13, k14, k15, k16⟩
      first | (go_simp; done) | (go_simp; with_reducible rfl)
    simp only [Act.put, List.setIfInBounds_toArray, List.set_cons_zero, List.set_cons_succ]
    refine wpAnyH_done (by kernel_rfl) ?_ _
    have K9 := Num.hide hHeld.2.2.2.2.2.2.2.2.2.2.2.2.2.2.2.2
    clear hHeld K8
    go_wp2
    go_ret
    exact ⟨rfl, K9.out⟩
end Msg
end Go.Proofs.Ytmiahdiadlnijaa
