/-
  FnExactSameResponse: at every two answers the program's SameResponse answers as the specification's, and leaves its arguments as they were; no condition (the law itself lets by what holds more than 2^20 bytes and fields).
-/
import Derived.Test.YtmiahdiadlnijaaRows
import Derived.Test.YtmiahdiadlnijaaRespSameLaw
import Derived.Test.YtmiahdiadlnijaaRespSameImpl
import Derived.Test.YtmiahdiadlnijaaRespOpen
import Derived.WalkKit
import Derived.WalkLawsBesides
import Derived.ProofKit
import Derived.OpenShut
import Derived.ShutString
import Derived.Below
import Derived.Carry
namespace Go.Proofs.Ytmiahdiadlnijaa.fnExactSameResponse
open Go.ChangeShapes Go.WideShapes Go.ChangeAt Go.RowKit
open Go.ChangeMaps (open_string shut_string)
set_option linter.unusedVariables false

theorem own : ownKnob Try.prog.godebug = none := by kernel_rfl
theorem laidOut : laidOutB Try.prog = true := by kernel_rfl

set_option maxRecDepth 100000 in
set_option maxHeartbeats 1000000 in
theorem walk (w : World) (a0 : Value) (s0 : Int) (l0 : List Flds.Fld) (b0 : ByteArray) (w0 : Resp.Arg w a0 s0 l0 b0) (a1 : Value) (s1 : Int) (l1 : List Flds.Fld) (b1 : ByteArray) (w1 : Resp.Arg w a1 s1 l1 b1) :
    Calls Try.prog 4 #[a0, a1] w fun e w' => e = .returned (.bool true) ∧ Below w.heap.size w w' := by
  obtain ⟨a0, rfl, HA0, hb0, hs0⟩ := w0
  obtain ⟨a1, rfl, HA1, hb1, hs1⟩ := w1
  exact Msg.sameResp_law (fun _ => True) (fun _ _ _ _ => trivial) (fun s1 s2 v1 v2 l1 l2 c1 c2 W h1 h2 hl1 _ _ => Msg.sameResp_impl s1 s2 v1 v2 l1 l2 c1 c2 W h1 h2 (by have := Flds.len_le l1; omega)) _ _ _ _ _ _ _ _ w HA0 HA1 hb0 hb1 trivial

set_option maxRecDepth 100000 in
theorem lifted (os : Os) (started : os.Started) (H : Type) (enc : TypeId × Value → H) :
    ReturnsInHanded {} Try.checked os 4 .any (Rows.fnExactSameResponseSpec.pre6 enc Try.prog Try.f4 Rows.fnExactSameResponseRow.domain false) (Rows.fnExactSameResponseSpec.post enc Try.prog Try.f4 false true false false) := by
  refine returnsInHanded_of_change (C := Try.checked) own started (by kernel_rfl) Try.func4
    (ChangeSpec.witness6 (enc := enc) (C := Try.checked) false ⟨#[], #[.agg #[.int .i64 0, .slice none 0 0, .string ByteArray.empty], .agg #[.int .i64 0, .slice none 0 0, .string ByteArray.empty]], []⟩ 8 (by kernel_rfl) (by kernel_rfl) (by kernel_rfl) (by kernel_rfl)) ?_
  intro W base args ds gs before hval0 hW hcnd _
  have hval : ∀ (j : Nat) t v, Try.f4.params[j]? = some t → args[j]? = some v → Value.okWide Try.prog W .any base t v := hval0
  have hW' := hW
  obtain ⟨p, q, hA0, hV, rfl, hfz, hnd⟩ := hW
  have hA : DataW.TrodAll enc Try.prog W 0 (fun _ => true) true Try.f4.params.toList args.toList ds p := hA0
  rw [Try.params4] at hA hval
  obtain ⟨v0, vs0, d0, ds0, p0, q0, hargs, rfl, rfl, h0, r0⟩ := trodAll_cons hA
  obtain ⟨v1, vs1, d1, ds1, p1, q1, rfl, rfl, rfl, h1, r1⟩ := trodAll_cons r0
  obtain ⟨rfl, rfl, rfl⟩ := trodAll_nil r1
  obtain rfl : args = #[v0, v1] := by cases args; simp_all
  obtain ⟨rfl, rfl⟩ := trodVars_none hV
  have k0 := h0
  have lt0 : ∀ x ∈ p0, x.block < W.heap.size := by obtain ⟨m, hm⟩ := k0; exact DataW.trod_lt m _ _ _ hm
  obtain ⟨s0, l0, b0, w0⟩ := Resp.opened (hval 0 25 v0 rfl rfl) h0
  have k1 := h1
  have lt1 : ∀ x ∈ p1, x.block < W.heap.size := by obtain ⟨m, hm⟩ := k1; exact DataW.trod_lt m _ _ _ hm
  obtain ⟨s1, l1, b1, w1⟩ := Resp.opened (hval 1 25 v1 rfl rfl) h1
  clear hA0 hval0
  refine (walk W v0 s0 l0 b0 w0 v1 s1 l1 b1 w1).mono fun e W' ⟨he, bel⟩ => ?_
  subst he
  exact ⟨_, rfl, _, _, _, [], _, [], hW', trodAll_mk1 (shut_bool Try.underlying4 _), (trodAll_cons_mk (Below.trod laidOut (by kernel_rfl) (of_decide_eq_true (by kernel_rfl)) k0 bel lt0) (trodAll_cons_mk (Below.trod laidOut (by kernel_rfl) (of_decide_eq_true (by kernel_rfl)) k1 bel lt1) trodAll_mk0)), rfl, bel.frame _, fun h => by cases h⟩

theorem over : Rows.fnExactSameResponseRow.holds Try.pinned (OpenSpec.ofChange Rows.fnExactSameResponseSpec) :=
  OpenClaim.holds_of_wide 4 Try.f4 rfl rfl rfl rfl rfl rfl rfl ⟨rfl, rfl, rfl, rfl, rfl⟩ rfl rfl rfl rfl rfl (by kernel_rfl) Try.func4 (by kernel_rfl)
    (of_decide_eq_true (by kernel_rfl)) (by unfold Func.isWrapper; first | (rw [if_pos (by decide +kernel)]; kernel_rfl) | (rw [if_neg (by decide +kernel)]; exact ⟨rfl, rfl⟩))
    (fun os started H enc _ => lifted os started H enc)
end Go.Proofs.Ytmiahdiadlnijaa.fnExactSameResponse
namespace Go.Proofs.Ytmiahdiadlnijaa
theorem fnExactSameResponse_holds : Rows.FnExactSameResponseSaid := fnExactSameResponse.over
#print axioms fnExactSameResponse_holds
end Go.Proofs.Ytmiahdiadlnijaa
