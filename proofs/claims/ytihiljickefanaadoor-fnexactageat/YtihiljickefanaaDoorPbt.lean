/-
  AgeAtSpec: AgeAt of the specification.
-/
import Derived.Test.YtihiljickefanaaDoorPas
namespace Go.Proofs.YtihiljickefanaaDoor
open Go.RowKit
set_option linter.unusedVariables false
namespace Age
open Flds (Fld ret_int)

set_option maxRecDepth 100000 in
set_option maxHeartbeats 2000000 in
theorem ageAt_spec (st : Int) (v : Value) (l : List Fld) (b : ByteArray) (asked came now : Int) (w : World) (h : Flds.Is w v l) (hl : Flds.bulk l ≤ 1048576) (hcm : came ≤ 9223372036854775807) (hnw : now ≤ 9223372036854775807) :
    Calls Tryd.prog 16 #[Resp.val st v b, .int .i64 asked, .int .i64 came, .int .i64 now] w fun e w' => e = .returned (.int .i64 (ageAt l asked came now)) ∧ Below w.heap.size w w' := by
  have hb0 : Below w.heap.size w (w.alloc (.cells #[.int .i64 st, v, .string b] 35)) := (Below.refl _ _).alloc (Nat.le_refl _) _
  have HV0 := Num.hide (Recs.is_below h hb0)
  obtain ⟨av, cv, rfl, _⟩ := Flds.is_form h
  have HX0 : Hid ((w.alloc (.cells #[.int .i64 st, .slice av l.length cv, .string b] 35)).heap[w.heap.size]? = some (.cells #[.int .i64 st, .slice av l.length cv, .string b] 35)) := heap_alloc_new w _
  have HB0 := Num.hide hb0
  have HF := Num.hide (firstAge_spec st _ l b asked came _ HV0.out hl hcm)
  obtain ⟨r, hr⟩ : ∃ r, ageAt l asked came now = r := ⟨_, rfl⟩
  rw [hr]
  unfold ageAt at hr
  obtain ⟨Hr, hHr⟩ : ∃ Hr, here came now = Hr := ⟨_, rfl⟩
  rw [hHr] at hr
  unfold here at hHr
  generalize firstAge l asked came = A at HF hr
  have HS := Num.hide (fun W => satAdd_spec A Hr W)
  rw [hr] at HS
  have HH := Num.hide hHr
  unfold Resp.val at HF ⊢
  clear h hb0 hr hHr HV0
  go_enter Tryd.func16, Tryd.ntmps16
  go_upto_region 2 with fail
  obtain ⟨Q, hQ⟩ : ∃ Q, (decide (came < now) && decide (0 ≤ came)) = Q := ⟨_, rfl⟩
  have HQ := Num.hide hQ
  have HQf : Hid (Q = false → Hr = 0) := fun h => by
    rw [← HH.out, if_neg]
    rintro ⟨e1, e2⟩
    rw [← hQ, decide_eq_true e1, decide_eq_true e2] at h; cases h
  have HQt : Hid (Q = true → came < now ∧ 0 ≤ came ∧ Hr = now - came) := fun h => by
    rw [← hQ, Bool.and_eq_true, decide_eq_true_iff, decide_eq_true_iff] at h
    exact ⟨h.1, h.2, by rw [← HH.out, if_pos h]⟩
  clear hQ HH
  generalize hW : w.alloc (.cells #[.int .i64 st, .slice av l.length cv, .string b] 35) = w1 at HX0 HB0 HF ⊢
  clear hW
  go_cut [16] from 10 (fun v wx => v = .bool Q ∧ wx = w1)
  case first =>
    by_cases h1 : came < now
    · have d1 : decide (came < now) = true := decide_eq_true h1
      by_cases h2 : 0 ≤ came
      · have d2 : decide (0 ≤ came) = true := decide_eq_true h2
        obtain rfl : Q = true := by rw [← HQ.out, d1, d2]; rfl
        clear HQ HQf HQt
        go_wp2
        go_meet
        case rel => exact ⟨rfl, rfl⟩
      · have d2 : decide (0 ≤ came) = false := decide_eq_false h2
        obtain rfl : Q = false := by rw [← HQ.out, d1, d2]; rfl
        clear HQ HQf HQt
        go_wp2
        go_meet
        case rel => exact ⟨rfl, rfl⟩
    · have d1 : decide (came < now) = false := decide_eq_false h1
      obtain rfl : Q = false := by rw [← HQ.out, d1]; rfl
      clear HQ HQf HQt
      go_wp2
      go_meet
      case rel => exact ⟨rfl, rfl⟩
  case rest =>
  obtain ⟨rfl, rfl⟩ := hcut
  clear HQ
  go_upto_if 16 with fail
  go_cut [9] from 10 (fun v wx => v = .int .i64 Hr ∧ wx = wc)
  case first =>
    cases Q with
    | false =>
      obtain rfl := HQf.out rfl
      clear HQf HQt HS
      go_wp2
      go_meet
      case rel => exact ⟨rfl, rfl⟩
    | true =>
      obtain ⟨h1, h2, rfl⟩ := HQt.out rfl
      clear HQf HQt HS
      go_wp2
      go_meet
      case rel => exact ⟨rfl, rfl⟩
  case rest =>
  obtain ⟨rfl, rfl⟩ := hcut
  clear HQf HQt
  have c0 := Recs.box_cell HX0.out 0
  have c1 := Recs.box_cell HX0.out 1
  have c2 := Recs.box_cell HX0.out 2
  simp only [List.getElem?_toArray, List.getElem?_cons_succ, List.getElem?_cons_zero] at c0 c1 c2
  go_wp2_with fail
  refine HF.out.mono ?_
  rintro e w2 ⟨rfl, hb⟩
  have HB2 := Num.hide (HB0.out.trans (hb.mono HB0.out.size))
  clear hb c0 c1 c2 HX0 HB0 HF
  go_wp2_with fail
  refine (HS.out _).mono ?_
  rintro e w3 ⟨rfl, rfl⟩
  go_wp2
  go_ret
  exact ⟨rfl, HB2.out⟩
end Age
end Go.Proofs.YtihiljickefanaaDoor
