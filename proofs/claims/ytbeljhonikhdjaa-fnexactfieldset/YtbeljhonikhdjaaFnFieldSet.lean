/-
  FnExactFieldSet: at every list of fields, every name and every value the program's FieldSet answers as the specification's, in memory of its own, leaves its argument as it was, and answers the same again; no condition (the law itself lets by what holds more than 2^20 bytes and fields).
-/
import Derived.Test.YtbeljhonikhdjaaRows
import Derived.Test.YtbeljhonikhdjaaFldOpen
import Derived.Test.YtbeljhonikhdjaaFldHeld
import Derived.Test.YtbeljhonikhdjaaFldDropSpec
import Derived.Test.YtbeljhonikhdjaaFldSetImpl
import Derived.WalkKit
import Derived.WalkLawsBesides
import Derived.ProofKit
import Derived.OpenShut
import Derived.ShutString
import Derived.Below
import Derived.Carry
namespace Go.Proofs.Ytbeljhonikhdjaa.fnExactFieldSet
open Go.ChangeShapes Go.WideShapes Go.ChangeAt Go.RowKit
open Go.ChangeMaps (open_string shut_string)
set_option linter.unusedVariables false

theorem own : ownKnob Try.prog.godebug = none := by kernel_rfl
theorem laidOut : laidOutB Try.prog = true := by kernel_rfl

set_option maxRecDepth 100000 in
set_option maxHeartbeats 1000000 in
theorem walk (w : World) (a0 : Value) (l0 : List Flds.Fld) (w0 : Flds.Arg w a0 l0) (a1 : ByteArray) (w1 : a1.size ≤ maxLen) (a2 : ByteArray) (w2 : a2.size ≤ maxLen) :
    Calls Try.prog 4 #[a0, .string a1, .string a2] w fun e w' => e = .returned (.bool true) ∧ Below w.heap.size w w' := by
  have hm1 := w1
  unfold maxLen at hm1
  have hm2 := w2
  unfold maxLen at hm2
  by_cases hbig1 : 1048576 < a1.size
  · go_enter Try.func4, Try.ntmps4
    go_wp2
    go_ret
    exact ⟨rfl, Below.refl _ _⟩
  by_cases hbig2 : 1048576 < a2.size
  · go_enter Try.func4, Try.ntmps4
    go_wp2
    go_ret
    exact ⟨rfl, Below.refl _ _⟩
  have HA0 := Num.hide w0
  clear w0
  have HZ0 := Num.hide (fun W h => Flds.szFieldS_any a0 l0 1048576 W h HA0.out.2 (by omega) (by omega))
  by_cases hbk0 : ¬ (Flds.bulk l0 : Int) ≤ 1048576
  · rw [Flds.left_no hbk0] at HZ0
    go_enter Try.func4, Try.ntmps4
    go_wp2_with fail
    refine (Num.unhide HZ0 _ HA0.out.1).mono ?_
    rintro e W1 ⟨rfl, hb⟩
    have BW1 := Num.hide hb
    clear hb HZ0
    go_wp2
    go_ret
    exact ⟨rfl, BW1.out⟩
  rw [Flds.left_yes (Decidable.not_not.1 hbk0)] at HZ0
  have hlen0 : l0.length ≤ 1048576 := by have := Flds.len_le l0; omega
  have HS := Num.hide (fun v W h => Flds.set_spec v l0 a1 a2 W h (by omega))
  have HI := Num.hide (fun v W h => Flds.set_impl v l0 a1 a2 W h (by omega) (by omega) (by omega))
  have hL : (Flds.set l0 a1 a2).length ≤ 4194304 := by have := Flds.set_length l0 a1 a2; omega
  generalize Flds.set l0 a1 a2 = L at HS HI hL
  go_enter Try.func4, Try.ntmps4
  go_wp2_with fail
  refine (Num.unhide HZ0 _ HA0.out.1).mono ?_
  rintro e W1 ⟨rfl, hb⟩
  have BW1 := Num.hide hb
  have sW1 := hb.size
  clear hb HZ0 
  go_wp2_with fail
  refine (Flds.toFieldS_any a0 l0 _ (Flds.arg_stay HA0.out (Nat.le_refl _) BW1.out).1 hlen0).mono ?_
  rintro e W2 ⟨e0, rfl, ho, hb⟩
  have BW2 := Num.hide (Recs.below_step BW1.out hb)
  have sW2 := hb.size
  have Oe0W2 := Num.hide ho
  have De0 : Hid (∀ k, e0.ownBlock = some k → k < W2.heap.size) := fun k hk => (Recs.own_lt Oe0W2.out k hk).2
  clear ho hb BW1
  go_wp2_with fail
  refine (Num.unhide HS e0 _ (Recs.own_is Flds.cells_len Oe0W2.out)).mono ?_
  rintro e W3 ⟨vw, rfl, ho, hb⟩
  have BW3 := Num.hide (Recs.below_step BW2.out hb)
  have sW3 := hb.size
  have Oe0W3 := Num.hide (Recs.own_below Oe0W2.out hb)
  have OvwW3 := Num.hide ho
  have Dvw : Hid (∀ k, vw.ownBlock = some k → k < W3.heap.size) := fun k hk => (Recs.own_lt OvwW3.out k hk).2
  clear ho hb Oe0W2 BW2
  clear Oe0W3 De0
  go_wp2_with fail
  refine (Flds.toFieldS_any a0 l0 _ (Flds.arg_stay HA0.out (Nat.le_refl _) BW3.out).1 hlen0).mono ?_
  rintro e W4 ⟨x0, rfl, ho, hb⟩
  have BW4 := Num.hide (Recs.below_step BW3.out hb)
  have sW4 := hb.size
  have OvwW4 := Num.hide (Recs.own_below OvwW3.out hb)
  have Ox0W4 := Num.hide ho
  have Dx0 : Hid (∀ k, x0.ownBlock = some k → k < W4.heap.size) := fun k hk => (Recs.own_lt Ox0W4.out k hk).2
  clear ho hb OvwW3 BW3
  go_wp2_with fail
  refine (Num.unhide HI x0 _ (Recs.own_is Flds.cells_len Ox0W4.out)).mono ?_
  rintro e W5 ⟨vg, rfl, ho, hb⟩
  have BW5 := Num.hide (Recs.below_step BW4.out hb)
  have sW5 := hb.size
  have OvwW5 := Num.hide (Recs.own_below OvwW4.out hb)
  have Ox0W5 := Num.hide (Recs.own_below Ox0W4.out hb)
  have OvgW5 := Num.hide ho
  have Dvg : Hid (∀ k, vg.ownBlock = some k → k < W5.heap.size) := fun k hk => (Recs.own_lt OvgW5.out k hk).2
  clear ho hb OvwW4 Ox0W4 BW4
  go_wp2_with fail
  refine (Flds.eq_any vg vw L L _ (Recs.own_is Flds.cells_len OvgW5.out) (Recs.own_is Flds.cells_len OvwW5.out) (by omega)).mono ?_
  rintro e W6 ⟨rfl, hb⟩
  rw [decide_eq_true (rfl : L = L)]
  have BW6 := Num.hide (Recs.below_step BW5.out hb)
  have sW6 := hb.size
  have OvwW6 := Num.hide (Recs.own_below OvwW5.out hb)
  have Ox0W6 := Num.hide (Recs.own_below Ox0W5.out hb)
  have OvgW6 := Num.hide (Recs.own_below OvgW5.out hb)
  clear hb OvwW5 Ox0W5 OvgW5 BW5
  go_wp2_with fail
  refine (Flds.toFieldS_any a0 l0 _ (Flds.arg_stay HA0.out (Nat.le_refl _) BW6.out).1 hlen0).mono ?_
  rintro e W7 ⟨y0, rfl, ho, hb⟩
  have BW7 := Num.hide (Recs.below_step BW6.out hb)
  have sW7 := hb.size
  have OvwW7 := Num.hide (Recs.own_below OvwW6.out hb)
  have Ox0W7 := Num.hide (Recs.own_below Ox0W6.out hb)
  have OvgW7 := Num.hide (Recs.own_below OvgW6.out hb)
  have Oy0W7 := Num.hide ho
  have Dy0 : Hid (∀ k, y0.ownBlock = some k → k < W7.heap.size) := fun k hk => (Recs.own_lt Oy0W7.out k hk).2
  clear ho hb OvwW6 Ox0W6 OvgW6 BW6
  go_wp2_with fail
  refine (Flds.eq_any x0 y0 l0 l0 _ (Recs.own_is Flds.cells_len Ox0W7.out) (Recs.own_is Flds.cells_len Oy0W7.out) (by omega)).mono ?_
  rintro e W8 ⟨rfl, hb⟩
  rw [decide_eq_true (rfl : l0 = l0)]
  have BW8 := Num.hide (Recs.below_step BW7.out hb)
  have sW8 := hb.size
  have OvwW8 := Num.hide (Recs.own_below OvwW7.out hb)
  have Ox0W8 := Num.hide (Recs.own_below Ox0W7.out hb)
  have OvgW8 := Num.hide (Recs.own_below OvgW7.out hb)
  have Oy0W8 := Num.hide (Recs.own_below Oy0W7.out hb)
  clear hb OvwW7 Ox0W7 OvgW7 Oy0W7 BW7
  clear Oy0W8 Dy0
  go_wp2_with fail
  refine (Flds.mark_any _ x0 l0 1 _ Ox0W8.out (by omega) (by omega) (by omega)).mono ?_
  rintro e W9 ⟨rfl, ho, hg⟩
  have sW9 := hg.size
  have BW9 := Num.hide (BW8.out.trans (Recs.below_mark Ox0W8.out (by omega) (by omega) hg))
  have OvwW9 := Num.hide (Recs.own_kept OvwW8.out hg (Recs.apart (fun k hk => ⟨(Recs.own_lt OvwW8.out k hk).1, Num.unhide Dvw k hk⟩) (fun k hk => ⟨(Recs.own_lt Ox0W8.out k hk).1, Num.unhide Dx0 k hk⟩) (by omega)))
  have OvgW9 := Num.hide (Recs.own_kept OvgW8.out hg (Recs.apart (fun k hk => ⟨(Recs.own_lt OvgW8.out k hk).1, Num.unhide Dvg k hk⟩) (fun k hk => ⟨(Recs.own_lt Ox0W8.out k hk).1, Num.unhide Dx0 k hk⟩) (by omega)))
  have Ox0W9 := Num.hide ho
  clear ho hg BW8 Ox0W8 OvwW8 OvgW8
  have dk : decide (1 + 2 * l0.length < (0 : Int)) = false := by simp; omega
  go_wp2_with fail
  refine (Flds.eq_any vg vw L L _ (Recs.own_is Flds.cells_len OvgW9.out) (Recs.own_is Flds.cells_len OvwW9.out) (by omega)).mono ?_
  rintro e W10 ⟨rfl, hb⟩
  rw [decide_eq_true (rfl : L = L)]
  have BW10 := Num.hide (Recs.below_step BW9.out hb)
  have sW10 := hb.size
  have OvwW10 := Num.hide (Recs.own_below OvwW9.out hb)
  have Ox0W10 := Num.hide (Recs.own_below Ox0W9.out hb)
  have OvgW10 := Num.hide (Recs.own_below OvgW9.out hb)
  clear hb OvwW9 Ox0W9 OvgW9 BW9
  clear Ox0W10 Dx0
  go_wp2_with fail
  refine (Flds.mark_any _ vg L 1 _ OvgW10.out (by omega) (by omega) (by omega)).mono ?_
  rintro e W11 ⟨rfl, ho, hg⟩
  have sW11 := hg.size
  have BW11 := Num.hide (BW10.out.trans (Recs.below_mark OvgW10.out (by omega) (by omega) hg))
  have OvwW11 := Num.hide (Recs.own_kept OvwW10.out hg (Recs.apart (fun k hk => ⟨(Recs.own_lt OvwW10.out k hk).1, Num.unhide Dvw k hk⟩) (fun k hk => ⟨(Recs.own_lt OvgW10.out k hk).1, Num.unhide Dvg k hk⟩) (by omega)))
  have OvgW11 := Num.hide ho
  clear ho hg BW10 OvgW10 OvwW10
  go_wp2_with fail
  refine (Flds.held_any vg L.length 1 _ (Recs.own_is Flds.cells_len OvgW11.out) (by omega) (by omega) (by omega)).mono ?_
  rintro e W12 ⟨rfl, hb⟩
  have BW12 := Num.hide (Recs.below_step BW11.out hb)
  have sW12 := hb.size
  have OvwW12 := Num.hide (Recs.own_below OvwW11.out hb)
  have OvgW12 := Num.hide (Recs.own_below OvgW11.out hb)
  clear hb OvwW11 OvgW11 BW11
  go_wp2_with fail
  refine (Flds.toFieldS_any a0 l0 _ (Flds.arg_stay HA0.out (Nat.le_refl _) BW12.out).1 hlen0).mono ?_
  rintro e W13 ⟨z0, rfl, ho, hb⟩
  have BW13 := Num.hide (Recs.below_step BW12.out hb)
  have sW13 := hb.size
  have OvwW13 := Num.hide (Recs.own_below OvwW12.out hb)
  have OvgW13 := Num.hide (Recs.own_below OvgW12.out hb)
  have Oz0W13 := Num.hide ho
  have Dz0 : Hid (∀ k, z0.ownBlock = some k → k < W13.heap.size) := fun k hk => (Recs.own_lt Oz0W13.out k hk).2
  clear ho hb OvwW12 OvgW12 BW12
  go_wp2_with fail
  refine (Num.unhide HI z0 _ (Recs.own_is Flds.cells_len Oz0W13.out)).mono ?_
  rintro e W14 ⟨vh, rfl, ho, hb⟩
  have BW14 := Num.hide (Recs.below_step BW13.out hb)
  have sW14 := hb.size
  have OvwW14 := Num.hide (Recs.own_below OvwW13.out hb)
  have OvgW14 := Num.hide (Recs.own_below OvgW13.out hb)
  have Oz0W14 := Num.hide (Recs.own_below Oz0W13.out hb)
  have OvhW14 := Num.hide ho
  have Dvh : Hid (∀ k, vh.ownBlock = some k → k < W14.heap.size) := fun k hk => (Recs.own_lt OvhW14.out k hk).2
  clear ho hb OvwW13 OvgW13 Oz0W13 BW13
  clear Oz0W14 Dz0
  go_wp2_with fail
  refine (Flds.eq_any vh vw L L _ (Recs.own_is Flds.cells_len OvhW14.out) (Recs.own_is Flds.cells_len OvwW14.out) (by omega)).mono ?_
  rintro e W15 ⟨rfl, hb⟩
  rw [decide_eq_true (rfl : L = L)]
  have BW15 := Num.hide (Recs.below_step BW14.out hb)
  have sW15 := hb.size
  have OvwW15 := Num.hide (Recs.own_below OvwW14.out hb)
  have OvgW15 := Num.hide (Recs.own_below OvgW14.out hb)
  have OvhW15 := Num.hide (Recs.own_below OvhW14.out hb)
  clear hb OvwW14 OvgW14 OvhW14 BW14
  clear OvhW15 Dvh
  go_wp2_with fail
  refine (Flds.held_any vg L.length 1 _ (Recs.own_is Flds.cells_len OvgW15.out) (by omega) (by omega) (by omega)).mono ?_
  rintro e W16 ⟨rfl, hb⟩
  have BW16 := Num.hide (Recs.below_step BW15.out hb)
  have sW16 := hb.size
  have OvwW16 := Num.hide (Recs.own_below OvwW15.out hb)
  have OvgW16 := Num.hide (Recs.own_below OvgW15.out hb)
  clear hb OvwW15 OvgW15 BW15
  go_wp2
  go_ret
  exact ⟨rfl, BW16.out⟩

set_option maxRecDepth 100000 in
theorem lifted (os : Os) (started : os.Started) (H : Type) (enc : TypeId × Value → H) :
    ReturnsInHanded {} Try.checked os 4 .any (Rows.fnExactFieldSetSpec.pre6 enc Try.prog Try.f4 Rows.fnExactFieldSetRow.domain false) (Rows.fnExactFieldSetSpec.post enc Try.prog Try.f4 false true false false) := by
  refine returnsInHanded_of_change (C := Try.checked) own started (by kernel_rfl) Try.func4
    (ChangeSpec.witness6 (enc := enc) (C := Try.checked) false ⟨#[], #[.slice none 0 0, .string ByteArray.empty, .string ByteArray.empty], []⟩ 8 (by kernel_rfl) (by kernel_rfl) (by kernel_rfl) (by kernel_rfl)) ?_
  intro W base args ds gs before hval0 hW hcnd _
  have hval : ∀ (j : Nat) t v, Try.f4.params[j]? = some t → args[j]? = some v → Value.okWide Try.prog W .any base t v := hval0
  have hW' := hW
  obtain ⟨p, q, hA0, hV, rfl, hfz, hnd⟩ := hW
  have hA : DataW.TrodAll enc Try.prog W 0 (fun _ => true) true Try.f4.params.toList args.toList ds p := hA0
  rw [Try.params4] at hA hval
  obtain ⟨v0, vs0, d0, ds0, p0, q0, hargs, rfl, rfl, h0, r0⟩ := trodAll_cons hA
  obtain ⟨v1, vs1, d1, ds1, p1, q1, rfl, rfl, rfl, h1, r1⟩ := trodAll_cons r0
  obtain ⟨v2, vs2, d2, ds2, p2, q2, rfl, rfl, rfl, h2, r2⟩ := trodAll_cons r1
  obtain ⟨rfl, rfl, rfl⟩ := trodAll_nil r2
  obtain rfl : args = #[v0, v1, v2] := by cases args; simp_all
  obtain ⟨rfl, rfl⟩ := trodVars_none hV
  have k0 := h0
  have lt0 : ∀ x ∈ p0, x.block < W.heap.size := by obtain ⟨m, hm⟩ := k0; exact DataW.trod_lt m _ _ _ hm
  obtain ⟨l0, w0⟩ := Flds.opened (hval 0 22 v0 rfl rfl) h0
  obtain ⟨a1, rfl, rfl, rfl, w1⟩ := open_string Try.underlying9 (hval 1 9 v1 rfl rfl) h1
  obtain ⟨a2, rfl, rfl, rfl, w2⟩ := open_string Try.underlying9 (hval 2 9 v2 rfl rfl) h2
  clear hA0 hval0
  refine (walk W v0 l0 w0 a1 w1 a2 w2).mono fun e W' ⟨he, bel⟩ => ?_
  subst he
  exact ⟨_, rfl, _, _, _, [], _, [], hW', trodAll_mk1 (shut_bool Try.underlying4 _), (trodAll_cons_mk (Below.trod laidOut (by kernel_rfl) (of_decide_eq_true (by kernel_rfl)) k0 bel lt0) (trodAll_cons_mk (shut_string Try.underlying9 w1) (trodAll_cons_mk (shut_string Try.underlying9 w2) trodAll_mk0))), rfl, bel.frame _, fun h => by cases h⟩

theorem over : Rows.fnExactFieldSetRow.holds Try.pinned (OpenSpec.ofChange Rows.fnExactFieldSetSpec) :=
  OpenClaim.holds_of_wide 4 Try.f4 rfl rfl rfl rfl rfl rfl rfl ⟨rfl, rfl, rfl, rfl, rfl⟩ rfl rfl rfl rfl rfl (by kernel_rfl) Try.func4 (by kernel_rfl)
    (of_decide_eq_true (by kernel_rfl)) (by unfold Func.isWrapper; first | (rw [if_pos (by decide +kernel)]; kernel_rfl) | (rw [if_neg (by decide +kernel)]; exact ⟨rfl, rfl⟩))
    (fun os started H enc _ => lifted os started H enc)
end Go.Proofs.Ytbeljhonikhdjaa.fnExactFieldSet
namespace Go.Proofs.Ytbeljhonikhdjaa
theorem fnExactFieldSet_holds : Rows.FnExactFieldSetSaid := fnExactFieldSet.over
#print axioms fnExactFieldSet_holds
end Go.Proofs.Ytbeljhonikhdjaa
