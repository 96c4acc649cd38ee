/-
  AgeSpec: SatAdd, DateOf, FirstAge and AgeAt of the specification: the world stays but for new memory.
-/
import Derived.Test.YtihiljickefanaaDoorQao
import Derived.Test.YtihiljickefanaaDoorQap
import Derived.Test.YtihiljickefanaaDoorQaa
import Derived.Test.YtihiljickefanaaDoorQaq
import Derived.Test.YtihiljickefanaaDoorQat
import Derived.Test.YtihiljickefanaaDoorQau
import Derived.Test.YtihiljickefanaaDoorQav
import Derived.Test.YtihiljickefanaaDoorQaw
import Derived.Deep.Cut
import Derived.Test.YtihiljickefanaaDoorRows
import Derived.WalkKit
namespace Go.Proofs.YtihiljickefanaaDoor
open Go.RowKit
set_option linter.unusedVariables false
namespace Age
open Flds (Fld ret_int)

theorem get_small (l : List Fld) (name : ByteArray) (hl : Flds.bulk l ≤ 1048576) : (Flds.get l name).1.size ≤ 4194304 := by
  have h := Flds.get_size l name
  unfold Flds.bulk at hl
  omega
set_option maxRecDepth 100000 in
set_option maxHeartbeats 1000000 in
theorem dateOf_spec (v : Value) (l : List Fld) (name : ByteArray) (w : World) (h : Flds.Is w v l) (hl : Flds.bulk l ≤ 1048576) :
    Calls Tryd.prog 7 #[v, .string name] w fun e w' => e = .returned (.tuple #[.int .i64 (dateOf l name).1, .bool (dateOf l name).2]) ∧ Below w.heap.size w w' := by
  have HG := Num.hide (Flds.get_spec_b v l name w h (by omega))
  have hsz := get_small l name hl
  obtain ⟨r, hr⟩ : ∃ r, dateOf l name = r := ⟨_, rfl⟩
  rw [hr]
  unfold dateOf at hr
  generalize Flds.get l name = g at HG hsz hr
  obtain ⟨s, b⟩ := g
  simp only at HG hsz hr
  have HD := Num.hide (fun W => Date.read_spec s W (by unfold maxLen; omega))
  generalize Date.readN s = n at HD hr
  generalize Date.readB s = f at HD hr
  clear h
  cases b with
  | true =>
    rw [if_pos rfl] at hr
    subst hr
    go_enter Tryd.func7, Tryd.ntmps7
    go_wp2_with fail
    refine HG.out.mono ?_
    rintro e w1 ⟨rfl, hb1⟩
    have HB := Num.hide hb1
    clear hb1
    go_wp2_with fail
    refine (HD.out _).mono ?_
    rintro e w2 ⟨rfl, hb2⟩
    have HB2 := Num.hide (HB.out.trans (hb2.mono HB.out.size))
    clear hb2
    go_wp2
    go_ret2
    exact ⟨rfl, HB2.out⟩
  | false =>
    rw [if_neg (by simp)] at hr
    subst hr
    go_enter Tryd.func7, Tryd.ntmps7
    go_wp2_with fail
    refine HG.out.mono ?_
    rintro e w1 ⟨rfl, hb1⟩
    have HB := Num.hide hb1
    clear hb1
    go_wp2
    go_ret2
    exact ⟨rfl, HB.out⟩
theorem row_stays {W W' : World} {g : Nat} {o : Obj} (h : W.heap[g]? = some o) (hb : Below W.heap.size W W') : W'.heap[g]? = some o := (hb.block g (Array.getElem?_eq_some_iff.1 h).1).trans h
set_option maxRecDepth 100000 in
set_option maxHeartbeats 2000000 in
theorem firstAge_spec (st : Int) (v : Value) (l : List Fld) (b : ByteArray) (asked came : Int) (w : World) (h : Flds.Is w v l) (hl : Flds.bulk l ≤ 1048576) (hcm : came ≤ 9223372036854775807) :
    Calls Tryd.prog 12 #[Resp.val st v b, .int .i64 asked, .int .i64 came] w fun e w' => e = .returned (.int .i64 (firstAge l asked came)) ∧ Below w.heap.size w w' := by
  have hb0 : Below w.heap.size w (w.alloc (.cells #[.int .i64 st, v, .string b] 35)) := (Below.refl _ _).alloc (Nat.le_refl _) _
  have HV0 := Num.hide (Recs.is_below h hb0)
  obtain ⟨av, cv, rfl, _⟩ := Flds.is_form h
  have HX0 : Hid ((w.alloc (.cells #[.int .i64 st, .slice av l.length cv, .string b] 35)).heap[w.heap.size]? = some (.cells #[.int .i64 st, .slice av l.length cv, .string b] 35)) := heap_alloc_new w _
  have HB0 := Num.hide hb0
  have HG := Num.hide (Flds.get_spec_b _ l ageName _ HV0.out (by omega))
  have hsz := get_small l ageName hl
  obtain ⟨r, hr⟩ : ∃ r, firstAge l asked came = r := ⟨_, rfl⟩
  rw [hr]
  unfold firstAge told at hr
  have hsb := secs_bd (Flds.get l ageName).1
  generalize Flds.get l ageName = g at HG hsz hr hsb
  obtain ⟨s, bs⟩ := g
  simp only at HG hsz hr hsb
  have HS := Num.hide (fun W => Sign.seconds_spec s W (by unfold maxLen; omega))
  generalize Sign.secs s = sc at HS hr hsb
  obtain ⟨T, tb⟩ := sc
  simp only at HS hr hsb
  have HR := Num.hide hr
  unfold Resp.val
  clear h hb0 hr
  go_enter Tryd.func12, Tryd.ntmps12
  go_wp2_with fail
  refine HG.out.mono ?_
  rintro e w1 ⟨rfl, hb1⟩
  have HX1 := Num.hide (row_stays HX0.out hb1)
  have HV1 := Num.hide (Recs.is_below HV0.out hb1)
  have HB1 := Num.hide (HB0.out.trans (hb1.mono HB0.out.size))
  clear hb1 HX0 HV0 HB0 HG
  go_wp2_with fail
  refine (HS.out _).mono ?_
  rintro e w2 ⟨rfl, rfl⟩
  have c1 := Recs.box_cell HX1.out 1
  simp only [List.getElem?_toArray, List.getElem?_cons_succ, List.getElem?_cons_zero] at c1
  have HD := Num.hide (dateOf_spec _ l dateName w1 HV1.out hl)
  have hdb := dateOf_bd l dateName
  obtain ⟨A, hA⟩ : ∃ A, apparent l came = A := ⟨_, rfl⟩
  have HA := Num.hide hA
  unfold apparent at hA
  generalize dateOf l dateName = d at HD hA hdb
  obtain ⟨D, db⟩ := d
  simp only at HD hA hdb
  have HA2 := Num.hide hA
  clear hA
  go_wp2_with fail
  refine HD.out.mono ?_
  rintro e w3 ⟨rfl, hb3⟩
  have HB3 := Num.hide (HB1.out.trans (hb3.mono HB1.out.size))
  clear hb3 c1 HX1 HV1 HB1 HD HS
  go_upto_region 5 with fail
  obtain ⟨P, hP⟩ : ∃ P, (db && decide (D < came)) = P := ⟨_, rfl⟩
  have HP := Num.hide hP
  have HAf : Hid (P = false → A = 0) := fun h => by
    rw [← HA2.out, if_neg]
    rintro ⟨e1, e2⟩
    rw [← hP, e1, decide_eq_true e2] at h; cases h
  have HAt : Hid (P = true → D < came ∧ A = min (came - D) 2147483648) := fun h => by
    rw [← hP, Bool.and_eq_true, decide_eq_true_iff] at h
    exact ⟨h.2, by rw [← HA2.out, if_pos h]⟩
  clear hP HA2
  go_cut [37] from 15 (fun v wx => v = .bool P ∧ wx = w3)
  case first =>
    cases db with
    | false =>
      obtain rfl : P = false := by rw [← HP.out]; rfl
      clear HP HAf HAt
      go_wp2
      go_meet
      case rel => exact ⟨rfl, rfl⟩
    | true =>
      by_cases hc : D < came
      · have dc : decide (D < came) = true := decide_eq_true hc
        obtain rfl : P = true := by rw [← HP.out, dc]; rfl
        clear HP HAf HAt
        go_wp2
        go_meet
        case rel => exact ⟨rfl, rfl⟩
      · have dc : decide (D < came) = false := decide_eq_false hc
        obtain rfl : P = false := by rw [← HP.out, dc]; rfl
        clear HP HAf HAt
        go_wp2
        go_meet
        case rel => exact ⟨rfl, rfl⟩
  case rest =>
  obtain ⟨rfl, rfl⟩ := hcut
  clear HP
  go_upto_if 37 with fail
  go_cut [13] from 15 (fun v wx => v = .int .i64 A ∧ wx = wc)
  case first =>
    cases P with
    | false =>
      obtain rfl := HAf.out rfl
      clear HA HAf HAt
      go_wp2
      go_meet
      case rel => exact ⟨rfl, rfl⟩
    | true =>
      obtain ⟨hc, hA⟩ := HAt.out rfl
      by_cases hm : 2147483648 < came - D
      · obtain rfl : A = 2147483648 := by omega
        clear HA HAf HAt hA
        go_wp2
        go_meet
        case rel => exact ⟨rfl, rfl⟩
      · obtain rfl : A = came - D := by omega
        clear HA HAf HAt hA
        go_wp2
        go_meet
        case rel => exact ⟨rfl, rfl⟩
  case rest =>
  obtain ⟨rfl, rfl⟩ := hcut
  clear HAf HAt
  obtain ⟨Dl, hDl⟩ : ∃ Dl, delay asked came = Dl := ⟨_, rfl⟩
  have HDl := Num.hide hDl
  unfold delay at hDl
  have HD2 := Num.hide hDl
  clear hDl
  go_upto_region 8 with fail
  obtain ⟨Q, hQ⟩ : ∃ Q, (decide (asked < came) && decide (0 ≤ asked)) = Q := ⟨_, rfl⟩
  have HQ := Num.hide hQ
  have HQf : Hid (Q = false → Dl = 0) := fun h => by
    rw [← HD2.out, if_neg]
    rintro ⟨e1, e2⟩
    rw [← hQ, decide_eq_true e1, decide_eq_true e2] at h; cases h
  have HQt : Hid (Q = true → asked < came ∧ 0 ≤ asked ∧ Dl = came - asked) := fun h => by
    rw [← hQ, Bool.and_eq_true, decide_eq_true_iff, decide_eq_true_iff] at h
    exact ⟨h.1, h.2, by rw [← HD2.out, if_pos h]⟩
  clear hQ HD2
  go_cut [48] from 15 (fun v wx => v = .bool Q ∧ wx = wc)
  case first =>
    by_cases h1 : asked < came
    · have d1 : decide (asked < came) = true := decide_eq_true h1
      by_cases h2 : 0 ≤ asked
      · have d2 : decide (0 ≤ asked) = true := decide_eq_true h2
        obtain rfl : Q = true := by rw [← HQ.out, d1, d2]; rfl
        clear HQ HQf HQt
        go_wp2
        go_meet
        case rel => exact ⟨rfl, rfl⟩
      · have d2 : decide (0 ≤ asked) = false := decide_eq_false h2
        obtain rfl : Q = false := by rw [← HQ.out, d1, d2]; rfl
        clear HQ HQf HQt
        go_wp2
        go_meet
        case rel => exact ⟨rfl, rfl⟩
    · have d1 : decide (asked < came) = false := decide_eq_false h1
      obtain rfl : Q = false := by rw [← HQ.out, d1]; rfl
      clear HQ HQf HQt
      go_wp2
      go_meet
      case rel => exact ⟨rfl, rfl⟩
  case rest =>
  obtain ⟨rfl, rfl⟩ := hcut
  clear HQ
  go_upto_if 48 with fail
  go_cut [14] from 15 (fun v wx => v = .int .i64 Dl ∧ wx = wc)
  case first =>
    cases Q with
    | false =>
      obtain rfl := HQf.out rfl
      clear HDl HQf HQt
      go_wp2
      go_meet
      case rel => exact ⟨rfl, rfl⟩
    | true =>
      obtain ⟨h1, h2, rfl⟩ := HQt.out rfl
      clear HDl HQf HQt
      go_wp2
      go_meet
      case rel => exact ⟨rfl, rfl⟩
  case rest =>
  obtain ⟨rfl, rfl⟩ := hcut
  clear HQf HQt
  have hr := HR.out
  rw [HA.out, HDl.out] at hr
  have HSa := Num.hide (fun W => satAdd_spec T Dl W)
  generalize satAdd T Dl = Sa at HSa hr
  clear HR HA HDl
  go_wp2_with fail
  refine (HSa.out _).mono ?_
  rintro e w4 ⟨rfl, rfl⟩
  by_cases hlt : A < Sa
  · obtain rfl : r = Sa := by omega
    clear hr
    go_wp2
    all_goals go_ret
    all_goals exact ⟨ret_int (by omega), HB3.out⟩
  · obtain rfl : r = A := by omega
    clear hr
    go_wp2
    all_goals go_ret
    all_goals exact ⟨ret_int (by omega), HB3.out⟩
end Age
end Go.Proofs.YtihiljickefanaaDoor
