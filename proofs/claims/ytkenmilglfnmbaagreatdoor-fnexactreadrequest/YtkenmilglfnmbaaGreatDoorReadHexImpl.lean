/-
  ReadHexNum of the program: what the call returns, for every text; what was there stays.
-/
import Derived.Test.YtkenmilglfnmbaaGreatDoorParseHex
import Derived.Test.YtkenmilglfnmbaaGreatDoorShelfErr
import Derived.Lib.IfaceEq
namespace Go.Proofs.YtkenmilglfnmbaaGreatDoor
open Go.RowKit
set_option linter.unusedVariables false
namespace Body

/-- the library's variable holds some error -/
def Syn (w : World) : Prop := ∃ tp p, w.cell? ⟨2, 0, none⟩ = some (.iface tp p)
theorem syn_lt {w : World} (h : Syn w) : 2 < w.heap.size := by obtain ⟨_, _, h⟩ := h; exact Recs.lt_of_cell h
theorem Syn.at_ {w w' : World} {B : Nat} (h : Syn w) (hb : Below B w w') (hB : 2 < B) : Syn w' := by
  obtain ⟨tp, p, h⟩ := h
  exact ⟨tp, p, (hb.cell (p := ⟨2, 0, none⟩) hB).trans h⟩
theorem Syn.below {w w' : World} (h : Syn w) (hb : Below w.heap.size w w') : Syn w' := h.at_ hb (syn_lt h)
theorem isInt : (Tryz.prog.info? 152).map (·.comparable) = some true := by kernel_rfl
set_option maxRecDepth 100000 in
set_option maxHeartbeats 2000000 in
/-- the library's toError at the one error that is met here -/
theorem toErr (fn s : ByteArray) (ev : Value) (w : World) (hlim : s.size ≤ 281474976710656) (hv : w.cell? ⟨2, 0, none⟩ = some ev) (hev : ev = .nilIface ∨ ∃ te pe, ev = .iface te pe) :
    Calls Tryz.prog 88 #[.string fn, .string s, .int .i64 16, .int .i64 64, .iface 152 (.int .i64 2)] w fun e w' => ∃ N, e = .returned (.iface 154 (.pointer (some ⟨N, 0, none⟩))) ∧ Below w.heap.size w w' := by
  have HS := Num.hide (Shelf.strconv_syntaxError fn s ev w hlim hv hev)
  have heq : ∀ W, (binOp .eql 71 (.iface 152 (.int .i64 2)) (.iface 152 (.int .i64 2))).run Tryz.prog W = .ok (.bool true) W := fun W => Lib.run_eql_iface_int W 2 2 Tryz.underlying71 isInt Tryz.underlying152
  clear hv hev
  go_enter Tryz.func88, Tryz.ntmps88
  go_wp2_with fail
  refine HS.out.mono ?_
  rintro e w1 ⟨N, rfl, _, _, hb⟩
  have HB := Num.hide hb
  clear hb
  go_wp2
  go_ret
  exact ⟨N, rfl, HB.out⟩
/-- no error where it is right; some error else -/
def ErrIs : Bool → Value → Prop
  | true, E => E = .nilIface
  | false, E => ∃ t p, E = .iface t p
set_option maxRecDepth 100000 in
set_option maxHeartbeats 2000000 in
theorem parseU (s : ByteArray) (w : World) (h6 : s.size ≤ 6) (h : Syn w) :
    Calls Tryz.prog 46 #[.string s, .int .i64 16, .int .i64 64] w fun e w' => ∃ E, e = .returned (.tuple #[.int .u64 (rhN s), E]) ∧ ErrIs (rhB s) E ∧ Below w.heap.size w w' := by
  have HC := Num.hide (parse16 s w h6)
  obtain ⟨N, hN⟩ : ∃ N, rhN s = N := ⟨_, rfl⟩
  rw [hN] at HC ⊢
  unfold rhE at HC
  cases hb : rhB s with
  | true =>
    rw [hb, if_pos rfl] at HC
    clear h
    go_enter Tryz.func46, Tryz.ntmps46
    go_wp2_with fail
    refine HC.out.mono ?_
    rintro e w1 ⟨rfl, hb1⟩
    have HB := Num.hide hb1
    clear hb1
    go_wp2
    go_ret2
    exact ⟨_, rfl, rfl, HB.out⟩
  | false =>
    rw [hb, if_neg (by simp)] at HC
    have HS := Num.hide (fun W hb => Syn.below (w' := W) h hb)
    clear h
    go_enter Tryz.func46, Tryz.ntmps46
    go_wp2_with fail
    refine HC.out.mono ?_
    rintro e w1 ⟨rfl, hb1⟩
    have HB := Num.hide hb1
    obtain ⟨tp, p, hs⟩ := HS.out w1 hb1
    have HE := Num.hide (fun fn => toErr fn s (.iface tp p) w1 (by omega) hs (.inr ⟨_, _, rfl⟩))
    clear hb1 hs
    go_wp2_with fail
    refine (HE.out _).mono ?_
    rintro e w2 ⟨M, rfl, hb2⟩
    have HB2 := Num.hide (HB.out.trans (hb2.mono HB.out.size))
    clear hb2
    go_wp2
    go_ret2
    exact ⟨_, rfl, ⟨_, _, rfl⟩, HB2.out⟩
set_option maxRecDepth 100000 in
set_option maxHeartbeats 2000000 in
theorem readHex_impl (s : ByteArray) (w : World) (hs : s.size ≤ 1048576) (h : Syn w) :
    Calls Tryz.prog 13 #[.string s] w fun e w' => e = .returned (.tuple #[.int .i64 (rhN s), .bool (rhB s)]) ∧ Below w.heap.size w w' := by
  by_cases h6 : 6 < s.size
  · obtain ⟨e1, e2⟩ := rh_none (rh_long h6)
    rw [e1, e2]
    have hd : decide ((6 : Int) < (s.size : Int)) = true := by simp; omega
    clear h e1 e2
    go_enter Tryz.func13, Tryz.ntmps13
    go_wp2
    go_ret2
    exact ⟨rfl, Below.refl _ _⟩
  · have HC := Num.hide (parseU s w (by omega) h)
    have hd : decide ((6 : Int) < (s.size : Int)) = false := by simp; omega
    cases hr : readHex s with
    | none =>
      obtain ⟨e1, e2⟩ := rh_none hr
      rw [e1, e2] at HC ⊢
      clear h e1 e2 hr
      go_enter Tryz.func13, Tryz.ntmps13
      go_wp2_with fail
      refine HC.out.mono ?_
      rintro e w1 ⟨E, rfl, hE, hb⟩
      obtain ⟨t, p, rfl⟩ := hE
      have HB := Num.hide hb
      clear hb
      go_wp2
      go_ret2
      exact ⟨rfl, HB.out⟩
    | some x =>
      have e1 : rhN s = x := by unfold rhN; rw [hr]; rfl
      have e2 : rhB s = true := by unfold rhB; rw [hr]; rfl
      have hx : 0 ≤ x ∧ x ≤ 16777215 := by
        unfold readHex at hr
        split at hr
        · next hc => cases hr; exact hexVal_six _ hc.1 (by rw [Array.length_toList]; exact hc.2.2)
        · cases hr
      rw [e1, e2] at HC ⊢
      clear h e1 e2 hr
      go_enter Tryz.func13, Tryz.ntmps13
      go_wp2_with fail
      refine HC.out.mono ?_
      rintro e w1 ⟨E, rfl, hE, hb⟩
      obtain rfl : E = .nilIface := hE
      have HB := Num.hide hb
      clear hb
      go_wp2
      go_ret2
      exact ⟨rfl, HB.out⟩
end Body
end Go.Proofs.YtkenmilglfnmbaaGreatDoor
