/-
  OwnImpl: withoutFraming and ownFieldsOk of the program: fields without those that say how long a body is.
  ReqOkImpl: methodOk and RequestOk of the program: is a request right?
  RespVal: A response as a value.
-/
import Derived.Test.YtmiahdiadlnijaaDoorPam
import Derived.Test.YtmiahdiadlnijaaDoorPao
import Derived.Test.YtmiahdiadlnijaaDoorPap
import Derived.Test.YtmiahdiadlnijaaDoorPaq
import Derived.Test.YtmiahdiadlnijaaDoorPal
import Derived.Test.YtmiahdiadlnijaaDoorTokenImpl
import Derived.Test.YtmiahdiadlnijaaDoorPah
import Derived.Test.YtmiahdiadlnijaaDoorFlds
namespace Go.Proofs.YtmiahdiadlnijaaDoor
open Go.RowKit
set_option linter.unusedVariables false
namespace Msg

set_option maxRecDepth 100000 in
set_option maxHeartbeats 2000000 in
theorem bare_impl (v : Value) (l : List Flds.Fld) (w : World) (h : Flds.Is w v l) (hl : Flds.bulk l ≤ 1048576) :
    Calls Tryd.prog 48 #[v] w fun e w' => ∃ v', e = .returned v' ∧ Flds.Own w.heap.size w' v' (bare l) ∧ Below w.heap.size w w' := by
  have HD1 := Num.hide (Flds.drop_impl v l Body.clName w h (by omega))
  have HD2 := Num.hide (fun v W h => Flds.drop_impl v (Flds.drop l Body.clName) Body.teName W h (by have := bulk_drop l Body.clName; omega))
  have HBt := Num.hide (bare_two l)
  rw [HBt.out] at HD2
  obtain ⟨a, c, rfl, _⟩ := Flds.is_form h
  clear h
  go_enter Tryd.func48, Tryd.ntmps48
  go_wp2_with fail
  refine HD1.out.mono ?_
  rintro e w1 ⟨v1, rfl, ho, hb⟩
  have HO1 := Num.hide ho
  have HB1 := Num.hide hb
  clear ho hb
  go_wp2_with fail
  refine (HD2.out _ _ (Recs.own_is Flds.cells_len HO1.out)).mono ?_
  rintro e w2 ⟨v2, rfl, ho2, hb2⟩
  have HO2 := Num.hide (Recs.own_mono ho2 HB1.out.size)
  have HB2 := Num.hide (HB1.out.trans (hb2.mono HB1.out.size))
  clear ho2 hb2
  go_wp2
  go_ret
  exact ⟨_, rfl, HO2.out, HB2.out⟩
set_option maxRecDepth 100000 in
set_option maxHeartbeats 2000000 in
theorem own_impl (v : Value) (l : List Flds.Fld) (w : World) (h : Flds.Is w v l) (hl : Flds.bulk l ≤ 1048576) (hS : Sign.Signs w) :
    Calls Tryd.prog 28 #[v] w fun e w' => e = .returned (.bool (plain l)) ∧ Below w.heap.size w w' := by
  have hlen : l.length ≤ 1048576 := by unfold Flds.bulk at hl; omega
  have HI := Num.hide h
  have HO := Num.hide (Flds.ok_impl v l w h (Flds.max_of hl) hS)
  have HBr := Num.hide (fun W h => bare_impl v l W h hl)
  have HSm := Num.hide (fun v2 W h1 h2 => Flds.same_impl v v2 l (bare l) W h1 h2 (by omega))
  obtain ⟨r, hr⟩ : ∃ r, plain l = r := ⟨_, rfl⟩
  rw [hr]
  rw [← own_plain] at hr
  obtain ⟨a, c, rfl, _⟩ := Flds.is_form h
  clear h hS
  generalize Flds.ok l = o at HO hr
  by_cases h12 : (l.length : Int) < 12
  · rw [decide_eq_true (by omega : l.length < 12), Bool.true_and] at hr
    cases o with
    | false =>
      obtain rfl : false = r := by rw [← hr]; rfl
      clear hr
      go_enter Tryd.func28, Tryd.ntmps28
      go_wp2_with fail
      refine HO.out.mono ?_
      rintro e w1 ⟨rfl, hb⟩
      have HB := Num.hide hb
      clear hb
      go_wp2
      go_ret
      exact ⟨rfl, HB.out⟩
    | true =>
      rw [Bool.true_and] at hr
      rw [hr] at HSm
      clear hr
      go_enter Tryd.func28, Tryd.ntmps28
      go_wp2_with fail
      refine HO.out.mono ?_
      rintro e w1 ⟨rfl, hb⟩
      have HB := Num.hide hb
      clear hb
      go_wp2_with fail
      refine (HBr.out _ (Recs.is_below HI.out HB.out)).mono ?_
      rintro e w2 ⟨v2, rfl, ho2, hb2⟩
      have HO2 := Num.hide ho2
      have HB2 := Num.hide (HB.out.trans (hb2.mono HB.out.size))
      clear ho2 hb2
      go_wp2_with fail
      refine (HSm.out _ _ (Recs.is_below HI.out HB2.out) (Recs.own_is Flds.cells_len HO2.out)).mono ?_
      rintro e w3 ⟨rfl, hb3⟩
      have HB3 := Num.hide (HB2.out.trans (hb3.mono HB2.out.size))
      clear hb3
      go_wp2
      go_ret
      exact ⟨rfl, HB3.out⟩
  · have d12 : decide ((l.length : Int) < 12) = false := decide_eq_false h12
    obtain rfl : false = r := by rw [← hr, decide_eq_false (by omega : ¬ l.length < 12)]; rfl
    clear hr HO
    go_enter Tryd.func28, Tryd.ntmps28
    go_wp2
    go_ret
    exact ⟨rfl, Below.refl _ _⟩
end Msg
end Go.Proofs.YtmiahdiadlnijaaDoor
namespace Go.Proofs.YtmiahdiadlnijaaDoor
open Go.RowKit
set_option linter.unusedVariables false
namespace Msg

set_option maxRecDepth 100000 in
set_option maxHeartbeats 2000000 in
theorem method_impl (m : ByteArray) (w : World) (hm : m.size ≤ maxLen) (hS : Sign.Signs w) :
    Calls Tryd.prog 26 #[.string m] w fun e w' => e = .returned (.bool (Sign.isTok m && decide (m.size ≤ 10))) ∧ w = w' := by
  have HT := Num.hide (Sign.isTok_impl m w hm hS)
  obtain ⟨r, hr⟩ : ∃ r, (Sign.isTok m && decide (m.size ≤ 10)) = r := ⟨_, rfl⟩
  rw [hr]
  generalize Sign.isTok m = t at HT hr
  clear hS
  unfold maxLen at hm
  by_cases h10 : (m.size : Int) ≤ 10
  · obtain rfl : t = r := by rw [← hr, decide_eq_true (by omega), Bool.and_true]
    clear hr
    go_enter Tryd.func26, Tryd.ntmps26
    go_wp2_with fail
    refine HT.out.mono ?_
    rintro e w1 ⟨rfl, rfl⟩
    go_wp2
    go_ret
    exact ⟨rfl, rfl⟩
  · obtain rfl : false = r := by rw [← hr, decide_eq_false (by omega), Bool.and_false]
    have d10 : decide ((m.size : Int) ≤ 10) = false := decide_eq_false h10
    clear hr
    go_enter Tryd.func26, Tryd.ntmps26
    go_wp2
    go_ret
    exact ⟨rfl, rfl⟩
theorem signs_alloc {w : World} (h : Sign.Signs w) (o : Obj) : Sign.Signs (w.alloc o) := Flds.signs_below h ((Below.refl w.heap.size w).alloc (Nat.le_refl _) o) (Flds.signs_lt h)
set_option maxRecDepth 100000 in
set_option maxHeartbeats 2000000 in
theorem reqOk_impl (m u : ByteArray) (v : Value) (l : List Flds.Fld) (b : ByteArray) (w : World) (h : Flds.Is w v l) (hl : Flds.bulk l ≤ 1048576) (hm : m.size ≤ 1048576) (hu : u.size ≤ 1048576) (hb : b.size ≤ 1048576) (hS : Sign.Signs w) :
    Calls Tryd.prog 10 #[Req.val m u v b] w fun e w' => e = .returned (.bool (reqOk m u l b)) ∧ Below w.heap.size w w' := by
  unfold Req.val
  obtain ⟨a, c, rfl, _⟩ := Flds.is_form h
  have hb0 := (Below.refl w.heap.size w).alloc (Nat.le_refl _) (.cells #[.string m, .string u, .slice a l.length c, .string b] 29)
  have HB0 := Num.hide hb0
  have HT := Num.hide (method_impl m _ (by unfold maxLen; omega) (signs_alloc hS (.cells #[.string m, .string u, .slice a l.length c, .string b] 29)))
  have HU := Num.hide (fun W => uri_impl u W (by unfold maxLen; omega))
  have HP := Num.hide (own_impl (.slice a l.length c) l _ (Recs.is_stay h (Nat.le_refl _) hb0) hl (signs_alloc hS _))
  clear h hb0 hl hS
  obtain ⟨r, hr⟩ : ∃ r, reqOk m u l b = r := ⟨_, rfl⟩
  rw [hr]
  unfold reqOk at hr
  generalize (Sign.isTok m && decide (m.size ≤ 10)) = t1 at HT hr
  generalize uriOk u = t2 at HU hr
  generalize plain l = t3 at HP hr
  cases t1 with
  | false =>
    obtain rfl : false = r := by rw [← hr]; rfl
    clear hr HU HP
    go_enter Tryd.func10, Tryd.ntmps10
    go_wp2_with fail
    refine HT.out.mono ?_
    rintro e w1 ⟨rfl, rfl⟩
    go_wp2
    go_ret
    exact ⟨rfl, HB0.out⟩
  | true =>
    cases t2 with
    | false =>
      obtain rfl : false = r := by rw [← hr]; rfl
      clear hr HP
      go_enter Tryd.func10, Tryd.ntmps10
      go_wp2_with fail
      refine HT.out.mono ?_
      rintro e w1 ⟨rfl, rfl⟩
      go_wp2_with fail
      refine (HU.out _).mono ?_
      rintro e w1 ⟨rfl, rfl⟩
      go_wp2
      go_ret
      exact ⟨rfl, HB0.out⟩
    | true =>
      have fin : ∀ W, Below (w.alloc (.cells #[.string m, .string u, .slice a l.length c, .string b] 29)).heap.size (w.alloc (.cells #[.string m, .string u, .slice a l.length c, .string b] 29)) W → W.cell? ⟨w.heap.size, 3, none⟩ = some (.string b) := fun W hb2 => by
        have k3 := (hb2.cell (p := ⟨w.heap.size, 3, none⟩) (by show w.heap.size < _; rw [World.size_alloc]; omega)).trans (cell_of_row _ _ _ _ _ _ (heap_alloc_new w _))
        simp only [List.getElem?_toArray, List.getElem?_cons_succ, List.getElem?_cons_zero] at k3
        exact k3
      have FIN := Num.hide fin
      clear fin
      cases t3 with
      | false =>
        obtain rfl : false = r := by rw [← hr]; rfl
        clear hr
        go_enter Tryd.func10, Tryd.ntmps10
        go_wp2_with fail
        refine HT.out.mono ?_
        rintro e w1 ⟨rfl, rfl⟩
        go_wp2_with fail
        refine (HU.out _).mono ?_
        rintro e w1 ⟨rfl, rfl⟩
        go_wp2_with fail
        refine HP.out.mono ?_
        rintro e w2 ⟨rfl, hb2⟩
        have HB2 := Num.hide (HB0.out.trans (hb2.mono HB0.out.size))
        clear hb2 HP
        go_wp2
        go_ret
        exact ⟨rfl, HB2.out⟩
      | true =>
        by_cases h60 : (b.size : Int) ≤ 60
        · obtain rfl : true = r := by rw [← hr, decide_eq_true (by omega : b.size ≤ 60)]; rfl
          clear hr
          go_enter Tryd.func10, Tryd.ntmps10
          go_wp2_with fail
          refine HT.out.mono ?_
          rintro e w1 ⟨rfl, rfl⟩
          go_wp2_with fail
          refine (HU.out _).mono ?_
          rintro e w1 ⟨rfl, rfl⟩
          go_wp2_with fail
          refine HP.out.mono ?_
          rintro e w2 ⟨rfl, hb2⟩
          have HB2 := Num.hide (HB0.out.trans (hb2.mono HB0.out.size))
          have k3 := FIN.out _ hb2
          clear hb2 HP
          go_wp2
          go_ret
          exact ⟨rfl, HB2.out⟩
        · obtain rfl : false = r := by rw [← hr, decide_eq_false (by omega : ¬ b.size ≤ 60)]; rfl
          have d60 : decide ((b.size : Int) ≤ 60) = false := decide_eq_false h60
          clear hr
          go_enter Tryd.func10, Tryd.ntmps10
          go_wp2_with fail
          refine HT.out.mono ?_
          rintro e w1 ⟨rfl, rfl⟩
          go_wp2_with fail
          refine (HU.out _).mono ?_
          rintro e w1 ⟨rfl, rfl⟩
          go_wp2_with fail
          refine HP.out.mono ?_
          rintro e w2 ⟨rfl, hb2⟩
          have HB2 := Num.hide (HB0.out.trans (hb2.mono HB0.out.size))
          have k3 := FIN.out _ hb2
          clear hb2 HP
          go_wp2
          go_ret
          exact ⟨rfl, HB2.out⟩
end Msg
end Go.Proofs.YtmiahdiadlnijaaDoor
namespace Go.Proofs.YtmiahdiadlnijaaDoor
open Go.RowKit
set_option linter.unusedVariables false
namespace Resp

/-- a response: its status, its fields, its body -/
abbrev R := Int × List Flds.Fld × ByteArray
/-- the value of a response whose fields lie at v -/
def val (s : Int) (v : Value) (b : ByteArray) : Value := .agg #[.int .i64 s, v, .string b]
/-- how much a response holds -/
def bulk (l : List Flds.Fld) (b : ByteArray) : Nat := Flds.bulk l + b.size
end Resp
end Go.Proofs.YtmiahdiadlnijaaDoor
