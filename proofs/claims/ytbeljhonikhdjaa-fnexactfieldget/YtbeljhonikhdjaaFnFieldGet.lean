/-
  FnExactFieldGet: at every list of fields and every name the program's FieldGet answers as the specification's, and leaves its argument as it was; no condition (the law itself lets by what holds more than 2^20 bytes and fields).
-/
import Derived.Test.YtbeljhonikhdjaaRows
import Derived.Test.YtbeljhonikhdjaaFldOpen
import Derived.Test.YtbeljhonikhdjaaFldHeld
import Derived.Test.YtbeljhonikhdjaaFldGetSpec
import Derived.Test.YtbeljhonikhdjaaFldGetImpl
import Derived.WalkKit
import Derived.WalkLawsBesides
import Derived.ProofKit
import Derived.OpenShut
import Derived.ShutString
import Derived.Below
import Derived.Carry
namespace Go.Proofs.Ytbeljhonikhdjaa.fnExactFieldGet
open Go.ChangeShapes Go.WideShapes Go.ChangeAt Go.RowKit
open Go.ChangeMaps (open_string shut_string)
set_option linter.unusedVariables false

theorem own : ownKnob Try.prog.godebug = none := by kernel_rfl
theorem laidOut : laidOutB Try.prog = true := by kernel_rfl

set_option maxRecDepth 100000 in
set_option maxHeartbeats 1000000 in
theorem walk (w : World) (a0 : Value) (l0 : List Flds.Fld) (w0 : Flds.Arg w a0 l0) (a1 : ByteArray) (w1 : a1.size ≤ maxLen) :
    Calls Try.prog 3 #[a0, .string a1] w fun e w' => e = .returned (.bool true) ∧ Below w.heap.size w w' := by
  have hm1 := w1
  unfold maxLen at hm1
  by_cases hbig1 : 1048576 < a1.size
  · go_enter Try.func3, Try.ntmps3
    go_wp2
    go_ret
    exact ⟨rfl, Below.refl _ _⟩
  have HA0 := Num.hide w0
  clear w0
  have HZ0 := Num.hide (fun W h => Flds.szFieldS_any a0 l0 1048576 W h HA0.out.2 (by omega) (by omega))
  by_cases hbk0 : ¬ (Flds.bulk l0 : Int) ≤ 1048576
  · rw [Flds.left_no hbk0] at HZ0
    go_enter Try.func3, Try.ntmps3
    go_wp2_with fail
    refine (Num.unhide HZ0 _ HA0.out.1).mono ?_
    rintro e W1 ⟨rfl, hb⟩
    have BW1 := Num.hide hb
    clear hb HZ0
    go_wp2
    go_ret
    exact ⟨rfl, BW1.out⟩
  rw [Flds.left_yes (Decidable.not_not.1 hbk0)] at HZ0
  have hlen0 : l0.length ≤ 1048576 := by have := Flds.len_le l0; omega
  have HS := Num.hide (fun v W h => Flds.get_spec_b v l0 a1 W h (by omega))
  have HI := Num.hide (fun v W h => Flds.get_impl v l0 a1 W h (by omega))
  generalize Flds.get l0 a1 = r at HS HI
  go_enter Try.func3, Try.ntmps3
  go_wp2_with fail
  refine (Num.unhide HZ0 _ HA0.out.1).mono ?_
  rintro e W1 ⟨rfl, hb⟩
  have BW1 := Num.hide hb
  have sW1 := hb.size
  clear hb HZ0 
  go_wp2_with fail
  refine (Flds.toFieldS_any a0 l0 _ (Flds.arg_stay HA0.out (Nat.le_refl _) BW1.out).1 hlen0).mono ?_
  rintro e W2 ⟨e0, rfl, ho, hb⟩
  have BW2 := Num.hide (Recs.below_step BW1.out hb)
  have sW2 := hb.size
  have Oe0W2 := Num.hide ho
  have De0 : Hid (∀ k, e0.ownBlock = some k → k < W2.heap.size) := fun k hk => (Recs.own_lt Oe0W2.out k hk).2
  clear ho hb BW1
  go_wp2_with fail
  refine (Num.unhide HS e0 _ (Recs.own_is Flds.cells_len Oe0W2.out)).mono ?_
  rintro e W3 ⟨rfl, hb⟩
  have BW3 := Num.hide (Recs.below_step BW2.out hb)
  have sW3 := hb.size
  have Oe0W3 := Num.hide (Recs.own_below Oe0W2.out hb)
  clear hb Oe0W2 BW2
  clear Oe0W3 De0
  go_wp2_with fail
  refine (Flds.toFieldS_any a0 l0 _ (Flds.arg_stay HA0.out (Nat.le_refl _) BW3.out).1 hlen0).mono ?_
  rintro e W4 ⟨x0, rfl, ho, hb⟩
  have BW4 := Num.hide (Recs.below_step BW3.out hb)
  have sW4 := hb.size
  have Ox0W4 := Num.hide ho
  have Dx0 : Hid (∀ k, x0.ownBlock = some k → k < W4.heap.size) := fun k hk => (Recs.own_lt Ox0W4.out k hk).2
  clear ho hb BW3
  go_wp2_with fail
  refine (Num.unhide HI x0 _ (Recs.own_is Flds.cells_len Ox0W4.out)).mono ?_
  rintro e W5 ⟨rfl, hb⟩
  have BW5 := Num.hide (Recs.below_step BW4.out hb)
  have sW5 := hb.size
  have Ox0W5 := Num.hide (Recs.own_below Ox0W4.out hb)
  clear hb Ox0W4 BW4
  go_wp2_with fail
  refine (Flds.toFieldS_any a0 l0 _ (Flds.arg_stay HA0.out (Nat.le_refl _) BW5.out).1 hlen0).mono ?_
  rintro e W6 ⟨y0, rfl, ho, hb⟩
  have BW6 := Num.hide (Recs.below_step BW5.out hb)
  have sW6 := hb.size
  have Ox0W6 := Num.hide (Recs.own_below Ox0W5.out hb)
  have Oy0W6 := Num.hide ho
  have Dy0 : Hid (∀ k, y0.ownBlock = some k → k < W6.heap.size) := fun k hk => (Recs.own_lt Oy0W6.out k hk).2
  clear ho hb Ox0W5 BW5
  go_wp2_with fail
  refine (Flds.eq_any x0 y0 l0 l0 _ (Recs.own_is Flds.cells_len Ox0W6.out) (Recs.own_is Flds.cells_len Oy0W6.out) (by omega)).mono ?_
  rintro e W7 ⟨rfl, hb⟩
  rw [decide_eq_true (rfl : l0 = l0)]
  have BW7 := Num.hide (Recs.below_step BW6.out hb)
  have sW7 := hb.size
  have Ox0W7 := Num.hide (Recs.own_below Ox0W6.out hb)
  have Oy0W7 := Num.hide (Recs.own_below Oy0W6.out hb)
  clear hb Ox0W6 Oy0W6 BW6
  clear Oy0W7 Dy0
  clear Ox0W7 Dx0
  go_wp2
  go_ret
  exact ⟨rfl, BW7.out⟩

set_option maxRecDepth 100000 in
theorem lifted (os : Os) (started : os.Started) (H : Type) (enc : TypeId × Value → H) :
    ReturnsInHanded {} Try.checked os 3 .any (Rows.fnExactFieldGetSpec.pre6 enc Try.prog Try.f3 Rows.fnExactFieldGetRow.domain false) (Rows.fnExactFieldGetSpec.post enc Try.prog Try.f3 false true false false) := by
  refine returnsInHanded_of_change (C := Try.checked) own started (by kernel_rfl) Try.func3
    (ChangeSpec.witness6 (enc := enc) (C := Try.checked) false ⟨#[], #[.slice none 0 0, .string ByteArray.empty], []⟩ 8 (by kernel_rfl) (by kernel_rfl) (by kernel_rfl) (by kernel_rfl)) ?_
  intro W base args ds gs before hval0 hW hcnd _
  have hval : ∀ (j : Nat) t v, Try.f3.params[j]? = some t → args[j]? = some v → Value.okWide Try.prog W .any base t v := hval0
  have hW' := hW
  obtain ⟨p, q, hA0, hV, rfl, hfz, hnd⟩ := hW
  have hA : DataW.TrodAll enc Try.prog W 0 (fun _ => true) true Try.f3.params.toList args.toList ds p := hA0
  rw [Try.params3] at hA hval
  obtain ⟨v0, vs0, d0, ds0, p0, q0, hargs, rfl, rfl, h0, r0⟩ := trodAll_cons hA
  obtain ⟨v1, vs1, d1, ds1, p1, q1, rfl, rfl, rfl, h1, r1⟩ := trodAll_cons r0
  obtain ⟨rfl, rfl, rfl⟩ := trodAll_nil r1
  obtain rfl : args = #[v0, v1] := by cases args; simp_all
  obtain ⟨rfl, rfl⟩ := trodVars_none hV
  have k0 := h0
  have lt0 : ∀ x ∈ p0, x.block < W.heap.size := by obtain ⟨m, hm⟩ := k0; exact DataW.trod_lt m _ _ _ hm
  obtain ⟨l0, w0⟩ := Flds.opened (hval 0 22 v0 rfl rfl) h0
  obtain ⟨a1, rfl, rfl, rfl, w1⟩ := open_string Try.underlying9 (hval 1 9 v1 rfl rfl) h1
  clear hA0 hval0
  refine (walk W v0 l0 w0 a1 w1).mono fun e W' ⟨he, bel⟩ => ?_
  subst he
  exact ⟨_, rfl, _, _, _, [], _, [], hW', trodAll_mk1 (shut_bool Try.underlying4 _), (trodAll_cons_mk (Below.trod laidOut (by kernel_rfl) (of_decide_eq_true (by kernel_rfl)) k0 bel lt0) (trodAll_cons_mk (shut_string Try.underlying9 w1) trodAll_mk0)), rfl, bel.frame _, fun h => by cases h⟩

theorem over : Rows.fnExactFieldGetRow.holds Try.pinned (OpenSpec.ofChange Rows.fnExactFieldGetSpec) :=
  OpenClaim.holds_of_wide 3 Try.f3 rfl rfl rfl rfl rfl rfl rfl ⟨rfl, rfl, rfl, rfl, rfl⟩ rfl rfl rfl rfl rfl (by kernel_rfl) Try.func3 (by kernel_rfl)
    (of_decide_eq_true (by kernel_rfl)) (by unfold Func.isWrapper; first | (rw [if_pos (by decide +kernel)]; kernel_rfl) | (rw [if_neg (by decide +kernel)]; exact ⟨rfl, rfl⟩))
    (fun os started H enc _ => lifted os started H enc)
end Go.Proofs.Ytbeljhonikhdjaa.fnExactFieldGet
namespace Go.Proofs.Ytbeljhonikhdjaa
theorem fnExactFieldGet_holds : Rows.FnExactFieldGetSaid := fnExactFieldGet.over
#print axioms fnExactFieldGet_holds
end Go.Proofs.Ytbeljhonikhdjaa
