/-
  FnExactSameFields: at every two lists of fields the program's SameFields answers as the specification's, and leaves its arguments as they were; no condition (the law itself lets by what holds more than 2^20 bytes and fields).
-/
import Derived.Test.YtbeljhonikhdjaaRows
import Derived.Test.YtbeljhonikhdjaaFldOpen
import Derived.Test.YtbeljhonikhdjaaFldHeld
import Derived.Test.YtbeljhonikhdjaaFldSameSpec
import Derived.Test.YtbeljhonikhdjaaFldSameImpl
import Derived.WalkKit
import Derived.WalkLawsBesides
import Derived.ProofKit
import Derived.OpenShut
import Derived.ShutString
import Derived.Below
import Derived.Carry
namespace Go.Proofs.Ytbeljhonikhdjaa.fnExactSameFields
open Go.ChangeShapes Go.WideShapes Go.ChangeAt Go.RowKit
open Go.ChangeMaps (open_string shut_string)
set_option linter.unusedVariables false

theorem own : ownKnob Try.prog.godebug = none := by kernel_rfl
theorem laidOut : laidOutB Try.prog = true := by kernel_rfl

set_option maxRecDepth 100000 in
set_option maxHeartbeats 1000000 in
theorem walk (w : World) (a0 : Value) (l0 : List Flds.Fld) (w0 : Flds.Arg w a0 l0) (a1 : Value) (l1 : List Flds.Fld) (w1 : Flds.Arg w a1 l1) :
    Calls Try.prog 6 #[a0, a1] w fun e w' => e = .returned (.bool true) ∧ Below w.heap.size w w' := by
  have HA0 := Num.hide w0
  clear w0
  have HA1 := Num.hide w1
  clear w1
  have HZ0 := Num.hide (fun W h => Flds.szFieldS_any a0 l0 1048576 W h HA0.out.2 (by omega) (by omega))
  by_cases hbk0 : ¬ (Flds.bulk l0 : Int) ≤ 1048576
  · rw [Flds.left_no hbk0] at HZ0
    go_enter Try.func6, Try.ntmps6
    go_wp2_with fail
    refine (Num.unhide HZ0 _ HA0.out.1).mono ?_
    rintro e W1 ⟨rfl, hb⟩
    have BW1 := Num.hide hb
    clear hb HZ0
    go_wp2
    go_ret
    exact ⟨rfl, BW1.out⟩
  rw [Flds.left_yes (Decidable.not_not.1 hbk0)] at HZ0
  have hlen0 : l0.length ≤ 1048576 := by have := Flds.len_le l0; omega
  have HZ1 := Num.hide (fun W h => Flds.szFieldS_any a1 l1 (1048576 - (Flds.bulk l0 : Int)) W h HA1.out.2 (by omega) (by omega))
  by_cases hbk1 : ¬ (Flds.bulk l1 : Int) ≤ (1048576 - (Flds.bulk l0 : Int))
  · rw [Flds.left_no hbk1] at HZ1
    go_enter Try.func6, Try.ntmps6
    go_wp2_with fail
    refine (Num.unhide HZ0 _ HA0.out.1).mono ?_
    rintro e W1 ⟨rfl, hb⟩
    have BW1 := Num.hide hb
    clear hb HZ0
    go_wp2_with fail
    refine (Num.unhide HZ1 _ (Flds.arg_stay HA1.out (Nat.le_refl _) BW1.out).1).mono ?_
    rintro e W2 ⟨rfl, hb⟩
    have BW2 := Num.hide (Recs.below_step BW1.out hb)
    clear hb HZ1
    go_wp2
    go_ret
    exact ⟨rfl, BW2.out⟩
  rw [Flds.left_yes (Decidable.not_not.1 hbk1)] at HZ1
  have hlen1 : l1.length ≤ 1048576 := by have := Flds.len_le l1; omega
  have HS := Num.hide (fun v u W h k => Flds.same_spec_b v u l0 l1 W h k (by omega))
  have HI := Num.hide (fun v u W h k => Flds.same_impl v u l0 l1 W h k (by omega))
  generalize decide (l0 = l1) = r at HS HI
  go_enter Try.func6, Try.ntmps6
  go_wp2_with fail
  refine (Num.unhide HZ0 _ HA0.out.1).mono ?_
  rintro e W1 ⟨rfl, hb⟩
  have BW1 := Num.hide hb
  have sW1 := hb.size
  clear hb HZ0 
  go_wp2_with fail
  refine (Num.unhide HZ1 _ (Flds.arg_stay HA1.out (Nat.le_refl _) BW1.out).1).mono ?_
  rintro e W2 ⟨rfl, hb⟩
  have BW2 := Num.hide (Recs.below_step BW1.out hb)
  have sW2 := hb.size
  clear hb HZ1 BW1
  go_wp2_with fail
  refine (Flds.toFieldS_any a0 l0 _ (Flds.arg_stay HA0.out (Nat.le_refl _) BW2.out).1 hlen0).mono ?_
  rintro e W3 ⟨e0, rfl, ho, hb⟩
  have BW3 := Num.hide (Recs.below_step BW2.out hb)
  have sW3 := hb.size
  have Oe0W3 := Num.hide ho
  have De0 : Hid (∀ k, e0.ownBlock = some k → k < W3.heap.size) := fun k hk => (Recs.own_lt Oe0W3.out k hk).2
  clear ho hb BW2
  go_wp2_with fail
  refine (Flds.toFieldS_any a1 l1 _ (Flds.arg_stay HA1.out (Nat.le_refl _) BW3.out).1 hlen1).mono ?_
  rintro e W4 ⟨e1, rfl, ho, hb⟩
  have BW4 := Num.hide (Recs.below_step BW3.out hb)
  have sW4 := hb.size
  have Oe0W4 := Num.hide (Recs.own_below Oe0W3.out hb)
  have Oe1W4 := Num.hide ho
  have De1 : Hid (∀ k, e1.ownBlock = some k → k < W4.heap.size) := fun k hk => (Recs.own_lt Oe1W4.out k hk).2
  clear ho hb Oe0W3 BW3
  go_wp2_with fail
  refine (Num.unhide HS e0 e1 _ (Recs.own_is Flds.cells_len Oe0W4.out) (Recs.own_is Flds.cells_len Oe1W4.out)).mono ?_
  rintro e W5 ⟨rfl, hb⟩
  have BW5 := Num.hide (Recs.below_step BW4.out hb)
  have sW5 := hb.size
  have Oe0W5 := Num.hide (Recs.own_below Oe0W4.out hb)
  have Oe1W5 := Num.hide (Recs.own_below Oe1W4.out hb)
  clear hb Oe0W4 Oe1W4 BW4
  clear Oe0W5 De0
  clear Oe1W5 De1
  go_wp2_with fail
  refine (Flds.toFieldS_any a0 l0 _ (Flds.arg_stay HA0.out (Nat.le_refl _) BW5.out).1 hlen0).mono ?_
  rintro e W6 ⟨x0, rfl, ho, hb⟩
  have BW6 := Num.hide (Recs.below_step BW5.out hb)
  have sW6 := hb.size
  have Ox0W6 := Num.hide ho
  have Dx0 : Hid (∀ k, x0.ownBlock = some k → k < W6.heap.size) := fun k hk => (Recs.own_lt Ox0W6.out k hk).2
  clear ho hb BW5
  go_wp2_with fail
  refine (Flds.toFieldS_any a1 l1 _ (Flds.arg_stay HA1.out (Nat.le_refl _) BW6.out).1 hlen1).mono ?_
  rintro e W7 ⟨x1, rfl, ho, hb⟩
  have BW7 := Num.hide (Recs.below_step BW6.out hb)
  have sW7 := hb.size
  have Ox0W7 := Num.hide (Recs.own_below Ox0W6.out hb)
  have Ox1W7 := Num.hide ho
  have Dx1 : Hid (∀ k, x1.ownBlock = some k → k < W7.heap.size) := fun k hk => (Recs.own_lt Ox1W7.out k hk).2
  clear ho hb Ox0W6 BW6
  go_wp2_with fail
  refine (Num.unhide HI x0 x1 _ (Recs.own_is Flds.cells_len Ox0W7.out) (Recs.own_is Flds.cells_len Ox1W7.out)).mono ?_
  rintro e W8 ⟨rfl, hb⟩
  have BW8 := Num.hide (Recs.below_step BW7.out hb)
  have sW8 := hb.size
  have Ox0W8 := Num.hide (Recs.own_below Ox0W7.out hb)
  have Ox1W8 := Num.hide (Recs.own_below Ox1W7.out hb)
  clear hb Ox0W7 Ox1W7 BW7
  go_wp2_with fail
  refine (Flds.toFieldS_any a0 l0 _ (Flds.arg_stay HA0.out (Nat.le_refl _) BW8.out).1 hlen0).mono ?_
  rintro e W9 ⟨y0, rfl, ho, hb⟩
  have BW9 := Num.hide (Recs.below_step BW8.out hb)
  have sW9 := hb.size
  have Ox0W9 := Num.hide (Recs.own_below Ox0W8.out hb)
  have Ox1W9 := Num.hide (Recs.own_below Ox1W8.out hb)
  have Oy0W9 := Num.hide ho
  have Dy0 : Hid (∀ k, y0.ownBlock = some k → k < W9.heap.size) := fun k hk => (Recs.own_lt Oy0W9.out k hk).2
  clear ho hb Ox0W8 Ox1W8 BW8
  go_wp2_with fail
  refine (Flds.eq_any x0 y0 l0 l0 _ (Recs.own_is Flds.cells_len Ox0W9.out) (Recs.own_is Flds.cells_len Oy0W9.out) (by omega)).mono ?_
  rintro e W10 ⟨rfl, hb⟩
  rw [decide_eq_true (rfl : l0 = l0)]
  have BW10 := Num.hide (Recs.below_step BW9.out hb)
  have sW10 := hb.size
  have Ox0W10 := Num.hide (Recs.own_below Ox0W9.out hb)
  have Ox1W10 := Num.hide (Recs.own_below Ox1W9.out hb)
  have Oy0W10 := Num.hide (Recs.own_below Oy0W9.out hb)
  clear hb Ox0W9 Ox1W9 Oy0W9 BW9
  clear Oy0W10 Dy0
  go_wp2_with fail
  refine (Flds.toFieldS_any a1 l1 _ (Flds.arg_stay HA1.out (Nat.le_refl _) BW10.out).1 hlen1).mono ?_
  rintro e W11 ⟨y1, rfl, ho, hb⟩
  have BW11 := Num.hide (Recs.below_step BW10.out hb)
  have sW11 := hb.size
  have Ox0W11 := Num.hide (Recs.own_below Ox0W10.out hb)
  have Ox1W11 := Num.hide (Recs.own_below Ox1W10.out hb)
  have Oy1W11 := Num.hide ho
  have Dy1 : Hid (∀ k, y1.ownBlock = some k → k < W11.heap.size) := fun k hk => (Recs.own_lt Oy1W11.out k hk).2
  clear ho hb Ox0W10 Ox1W10 BW10
  go_wp2_with fail
  refine (Flds.eq_any x1 y1 l1 l1 _ (Recs.own_is Flds.cells_len Ox1W11.out) (Recs.own_is Flds.cells_len Oy1W11.out) (by omega)).mono ?_
  rintro e W12 ⟨rfl, hb⟩
  rw [decide_eq_true (rfl : l1 = l1)]
  have BW12 := Num.hide (Recs.below_step BW11.out hb)
  have sW12 := hb.size
  have Ox0W12 := Num.hide (Recs.own_below Ox0W11.out hb)
  have Ox1W12 := Num.hide (Recs.own_below Ox1W11.out hb)
  have Oy1W12 := Num.hide (Recs.own_below Oy1W11.out hb)
  clear hb Ox0W11 Ox1W11 Oy1W11 BW11
  clear Oy1W12 Dy1
  clear Ox0W12 Dx0
  clear Ox1W12 Dx1
  go_wp2
  go_ret
  exact ⟨rfl, BW12.out⟩

set_option maxRecDepth 100000 in
theorem lifted (os : Os) (started : os.Started) (H : Type) (enc : TypeId × Value → H) :
    ReturnsInHanded {} Try.checked os 6 .any (Rows.fnExactSameFieldsSpec.pre6 enc Try.prog Try.f6 Rows.fnExactSameFieldsRow.domain false) (Rows.fnExactSameFieldsSpec.post enc Try.prog Try.f6 false true false false) := by
  refine returnsInHanded_of_change (C := Try.checked) own started (by kernel_rfl) Try.func6
    (ChangeSpec.witness6 (enc := enc) (C := Try.checked) false ⟨#[], #[.slice none 0 0, .slice none 0 0], []⟩ 8 (by kernel_rfl) (by kernel_rfl) (by kernel_rfl) (by kernel_rfl)) ?_
  intro W base args ds gs before hval0 hW hcnd _
  have hval : ∀ (j : Nat) t v, Try.f6.params[j]? = some t → args[j]? = some v → Value.okWide Try.prog W .any base t v := hval0
  have hW' := hW
  obtain ⟨p, q, hA0, hV, rfl, hfz, hnd⟩ := hW
  have hA : DataW.TrodAll enc Try.prog W 0 (fun _ => true) true Try.f6.params.toList args.toList ds p := hA0
  rw [Try.params6] at hA hval
  obtain ⟨v0, vs0, d0, ds0, p0, q0, hargs, rfl, rfl, h0, r0⟩ := trodAll_cons hA
  obtain ⟨v1, vs1, d1, ds1, p1, q1, rfl, rfl, rfl, h1, r1⟩ := trodAll_cons r0
  obtain ⟨rfl, rfl, rfl⟩ := trodAll_nil r1
  obtain rfl : args = #[v0, v1] := by cases args; simp_all
  obtain ⟨rfl, rfl⟩ := trodVars_none hV
  have k0 := h0
  have lt0 : ∀ x ∈ p0, x.block < W.heap.size := by obtain ⟨m, hm⟩ := k0; exact DataW.trod_lt m _ _ _ hm
  obtain ⟨l0, w0⟩ := Flds.opened (hval 0 22 v0 rfl rfl) h0
  have k1 := h1
  have lt1 : ∀ x ∈ p1, x.block < W.heap.size := by obtain ⟨m, hm⟩ := k1; exact DataW.trod_lt m _ _ _ hm
  obtain ⟨l1, w1⟩ := Flds.opened (hval 1 22 v1 rfl rfl) h1
  clear hA0 hval0
  refine (walk W v0 l0 w0 v1 l1 w1).mono fun e W' ⟨he, bel⟩ => ?_
  subst he
  exact ⟨_, rfl, _, _, _, [], _, [], hW', trodAll_mk1 (shut_bool Try.underlying4 _), (trodAll_cons_mk (Below.trod laidOut (by kernel_rfl) (of_decide_eq_true (by kernel_rfl)) k0 bel lt0) (trodAll_cons_mk (Below.trod laidOut (by kernel_rfl) (of_decide_eq_true (by kernel_rfl)) k1 bel lt1) trodAll_mk0)), rfl, bel.frame _, fun h => by cases h⟩

theorem over : Rows.fnExactSameFieldsRow.holds Try.pinned (OpenSpec.ofChange Rows.fnExactSameFieldsSpec) :=
  OpenClaim.holds_of_wide 6 Try.f6 rfl rfl rfl rfl rfl rfl rfl ⟨rfl, rfl, rfl, rfl, rfl⟩ rfl rfl rfl rfl rfl (by kernel_rfl) Try.func6 (by kernel_rfl)
    (of_decide_eq_true (by kernel_rfl)) (by unfold Func.isWrapper; first | (rw [if_pos (by decide +kernel)]; kernel_rfl) | (rw [if_neg (by decide +kernel)]; exact ⟨rfl, rfl⟩))
    (fun os started H enc _ => lifted os started H enc)
end Go.Proofs.Ytbeljhonikhdjaa.fnExactSameFields
namespace Go.Proofs.Ytbeljhonikhdjaa
theorem fnExactSameFields_holds : Rows.FnExactSameFieldsSaid := fnExactSameFields.over
#print axioms fnExactSameFields_holds
end Go.Proofs.Ytbeljhonikhdjaa
