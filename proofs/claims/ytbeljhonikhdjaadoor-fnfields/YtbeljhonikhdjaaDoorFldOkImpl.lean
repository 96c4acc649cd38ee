/-
  isNameText, fieldOk and FieldsOk of the program: what the calls return, where the table of signs holds what it is laid with; what was there stays.
-/
import Derived.Test.YtbeljhonikhdjaaDoorFldsOkSpec
import Derived.Test.YtbeljhonikhdjaaDoorTokenImpl
import Derived.Test.YtbeljhonikhdjaaDoorValueImpl
import Derived.Test.YtbeljhonikhdjaaDoorLowerImpl
namespace Go.Proofs.YtbeljhonikhdjaaDoor
open Go.RowKit
set_option linter.unusedVariables false
namespace Flds

theorem signs_below {w w' : World} {B : Nat} (h : Sign.Signs w) (hb : Below B w w') (hB : 1 < B) : Sign.Signs w' := fun i hi => (hb.cell (p := ⟨1, i, none⟩) hB).trans (h i hi)
theorem signs_lt {w : World} (h : Sign.Signs w) : 1 < w.heap.size := Recs.lt_of_cell (h 0 (by decide))
theorem max_of {l : List Fld} (hl : bulk l ≤ 1048576) : ∀ f ∈ l, f.1.size ≤ maxLen ∧ f.2.size ≤ maxLen := by
  intro f hf
  obtain ⟨i, hi, rfl⟩ := List.getElem_of_mem hf
  have h3 := bulk_take l i hi
  have h4 := bulk_le l (i + 1)
  unfold bulk at hl; unfold maxLen
  omega
/-- is it a right name? -/
def isName (s : ByteArray) : Bool := decide (s.size ≤ 24) && Sign.isTok s && decide (Sign.lower s = s)
set_option maxRecDepth 100000 in
set_option maxHeartbeats 2000000 in
theorem name_impl (s : ByteArray) (w : World) (hs : s.size ≤ maxLen) (hS : Sign.Signs w) : Calls Tryd.prog 63 #[.string s] w fun e w' => e = .returned (.bool (isName s)) ∧ Below w.heap.size w w' := by
  have HT := Num.hide (Sign.isTok_impl s w hs hS)
  have HL := Num.hide (fun W => Sign.lower_impl s W hs)
  obtain ⟨r, hr⟩ : ∃ r, isName s = r := ⟨_, rfl⟩
  rw [hr]
  unfold isName at hr
  generalize Sign.lower s = ls at HL hr
  generalize Sign.isTok s = bt at HT hr
  unfold maxLen at hs
  clear hS
  by_cases h24 : s.size ≤ 24
  · rw [decide_eq_true h24, Bool.true_and] at hr
    cases bt with
    | false =>
      rw [Bool.false_and] at hr
      subst hr
      go_enter Tryd.func63, Tryd.ntmps63
      go_wp2_with (go_at_call 74; refine (Num.unhide HT).mono ?_; rintro e w1 ⟨rfl, rfl⟩)
      go_ret
      exact ⟨rfl, Below.refl _ _⟩
    | true =>
      rw [Bool.true_and] at hr
      by_cases he : ls = s
      · rw [decide_eq_true he] at hr
        subst hr he
        go_enter Tryd.func63, Tryd.ntmps63
        go_wp2_with (first | (go_at_call 74; refine (Num.unhide HT).mono ?_; rintro e w1 ⟨rfl, rfl⟩) | (go_at_call 59; refine (Num.unhide HL _).mono ?_; rintro e w2 ⟨rfl, hb2⟩))
        go_ret
        exact ⟨rfl, hb2⟩
      · rw [decide_eq_false he] at hr
        subst hr
        have d := text_eq he
        clear he
        go_enter Tryd.func63, Tryd.ntmps63
        go_wp2_with (first | (go_at_call 74; refine (Num.unhide HT).mono ?_; rintro e w1 ⟨rfl, rfl⟩) | (go_at_call 59; refine (Num.unhide HL _).mono ?_; rintro e w2 ⟨rfl, hb2⟩))
        go_ret
        exact ⟨rfl, hb2⟩
  · rw [decide_eq_false h24, Bool.false_and, Bool.false_and] at hr
    subst hr
    go_enter Tryd.func63, Tryd.ntmps63
    go_wp2
    go_ret
    exact ⟨rfl, Below.refl _ _⟩
theorem okF_name (f : Fld) : okF f = (isName f.1 && decide (f.2.size ≤ 60) && Sign.isVal f.2) := by
  unfold okF isName
  rw [show decide (f.1 = Sign.lower f.1) = decide (Sign.lower f.1 = f.1) from by rw [decide_eq_decide]; exact ⟨Eq.symm, Eq.symm⟩]
  generalize Sign.isTok f.1 = a
  generalize decide (Sign.lower f.1 = f.1) = b
  generalize decide (f.1.size ≤ 24) = c
  generalize Sign.isVal f.2 = d
  generalize decide (f.2.size ≤ 60) = e
  cases a <;> cases b <;> cases c <;> cases d <;> cases e <;> rfl
set_option maxRecDepth 100000 in
set_option maxHeartbeats 2000000 in
theorem okF_impl (x y : ByteArray) (w : World) (hx : x.size ≤ maxLen) (hy : y.size ≤ maxLen) (hS : Sign.Signs w) : Calls Tryd.prog 46 #[.agg #[.string x, .string y]] w fun e w' => e = .returned (.bool (okF (x, y))) ∧ Below w.heap.size w w' := by
  have hlt := signs_lt hS
  have HB0 := Num.hide ((Below.refl w.heap.size w).alloc (Nat.le_refl _) (.cells #[.string x, .string y] 33))
  have HN := Num.hide (name_impl x (w.alloc (.cells #[.string x, .string y] 33)) hx (signs_below hS HB0.out hlt))
  rw [okF_name]
  simp only
  generalize isName x = bn at HN
  unfold maxLen at hx hy
  clear hS
  cases bn with
  | false =>
    rw [Bool.false_and, Bool.false_and]
    go_enter Tryd.func46, Tryd.ntmps46
    go_wp2_with (go_at_call 63; refine (Num.unhide HN).mono ?_; rintro e w1 ⟨rfl, hb1⟩; have HB1 := Num.hide (HB0.out.trans (hb1.mono (by simp))); clear hb1)
    go_ret
    exact ⟨rfl, HB1.out⟩
  | true =>
    rw [Bool.true_and]
    by_cases h60 : y.size ≤ 60
    · have HV := Num.hide (fun W => Sign.value_impl y W (by omega))
      rw [decide_eq_true h60, Bool.true_and]
      generalize Sign.isVal y = bv at HV
      go_enter Tryd.func46, Tryd.ntmps46
      go_wp2_with fail
      refine (Num.unhide HN).mono ?_
      rintro e w1 ⟨rfl, hb1⟩
      have c0 : w1.cell? ⟨w.heap.size, 1, none⟩ = some (.string y) := by rw [hb1.cell (p := ⟨w.heap.size, 1, none⟩) (by simp)]; simp
      have HB1 := Num.hide (HB0.out.trans (hb1.mono (by simp)))
      clear hb1 HB0
      go_wp2_with fail
      refine (Num.unhide HV _).mono ?_
      rintro e w2 ⟨rfl, hb2⟩
      have HB2 := Num.hide (HB1.out.trans (hb2.mono HB1.out.size))
      clear hb2 HB1
      go_wp2
      go_ret
      exact ⟨rfl, HB2.out⟩
    · rw [decide_eq_false h60, Bool.false_and]
      go_enter Tryd.func46, Tryd.ntmps46
      go_wp2_with fail
      refine (Num.unhide HN).mono ?_
      rintro e w1 ⟨rfl, hb1⟩
      have c0 : w1.cell? ⟨w.heap.size, 1, none⟩ = some (.string y) := by rw [hb1.cell (p := ⟨w.heap.size, 1, none⟩) (by simp)]; simp
      have HB1 := Num.hide (HB0.out.trans (hb1.mono (by simp)))
      clear hb1 HB0
      go_wp2
      go_ret
      exact ⟨rfl, HB1.out⟩
theorem ok_long (l : List Fld) (h : ¬ l.length ≤ 12) : ok l = false := by unfold ok; rw [decide_eq_false h, Bool.and_false]
theorem ok_all {l : List Fld} (h : l.length ≤ 12) (ha : l.all okF = true) : ok l = true := by unfold ok; rw [ha, decide_eq_true h]; rfl
set_option maxRecDepth 100000 in
set_option maxHeartbeats 1000000 in
theorem ok_impl (v : Value) (l : List Fld) (w : World) (h : Is w v l) (hz : ∀ f ∈ l, f.1.size ≤ maxLen ∧ f.2.size ≤ maxLen) (hS : Sign.Signs w) :
    Calls Tryd.prog 20 #[v] w fun e w' => e = .returned (.bool (ok l)) ∧ Below w.heap.size w w' := by
  obtain ⟨a, c, rfl, h2⟩ := is_form h
  have HA := Num.hide h2
  have HZ := Num.hide hz
  have HS := Num.hide hS
  have hlt := signs_lt hS
  clear h h2 hz hS
  obtain ⟨r, hr⟩ : ∃ r, ok l = r := ⟨_, rfl⟩
  rw [hr]
  have HR := Num.hide hr
  clear hr
  have hlen : l.length ≤ 9223372036854775807 := by
    by_cases h0 : 0 < l.length
    · obtain ⟨b, o, _, h3, h4, _⟩ := HA.out h0
      unfold maxLen at h4; omega
    · omega
  by_cases h12 : l.length ≤ 12
  · go_enter Tryd.func20, Tryd.ntmps20
    go_wp2
    go_loopw [10] (fun iv wr => ∃ i : Nat, i ≤ l.length ∧ iv = .int .i64 (i : Int) ∧ Hid ((l.take i).all okF = true) ∧ Hid (Below w.heap.size w wr)) (fun iv _ => l.length - (intOf iv).toNat)
    case atStart => exact ⟨0, by omega, rfl, rfl, Below.refl _ _⟩
    case round =>
      obtain ⟨i, hi, rfl, HT, HB⟩ := hrel
      by_cases hlt2 : i < l.length
      · obtain ⟨bk, o, rfl, hc, hmx, hblt, hcell⟩ := Num.unhide HA (by omega)
        obtain ⟨g1, g2⟩ := hcell i hlt2
        have c1 : wr.cell? ⟨bk, o + i * 2, none⟩ = some (.string l[i].1) := by rw [HB.out.cell (p := ⟨bk, o + i * 2, none⟩) hblt]; exact g1
        have c2 : wr.cell? ⟨bk, o + i * 2 + 1, none⟩ = some (.string l[i].2) := by rw [HB.out.cell (p := ⟨bk, o + i * 2 + 1, none⟩) hblt]; exact g2
        have hz := Num.unhide HZ l[i] (List.getElem_mem hlt2)
        have HM := Num.hide (all_more l i hlt2)
        have HN := Num.hide (fun hf => not_ok l i hlt2 hf)
        have hsz := HB.out.size
        have HBa := Num.hide (HB.out.alloc hsz (.cells #[.string l[i].1, .string l[i].2] 33))
        clear hcell g1 g2
        generalize l[i] = f at c1 c2 hz HM HN HBa
        obtain ⟨x, y⟩ := f
        simp only at c1 c2 hz HBa
        have HO := Num.hide (okF_impl x y (wr.alloc (.cells #[.string x, .string y] 33)) hz.1 hz.2 (signs_below HS.out HBa.out hlt))
        generalize okF (x, y) = bo at HO HM HN
        cases bo with
        | true =>
          have HT2 : Hid ((l.take (i + 1)).all okF = true) := by show _ = _; rw [HM.out, HT.out]; rfl
          go_wp2_with fail
          refine (Num.unhide HO).mono ?_
          rintro e w1 ⟨rfl, hb1⟩
          have HB1 := Num.hide (HBa.out.trans (hb1.mono (by simp; omega)))
          clear hb1 HB HBa c1 c2
          go_wp2
          go_roundw
          case rel => exact ⟨i + 1, by omega, by go_num, HT2, HB1⟩
          case measure => simp [intOf]; omega
        | false =>
          obtain rfl : r = false := by rw [← HR.out]; exact HN.out rfl
          go_wp2_with fail
          refine (Num.unhide HO).mono ?_
          rintro e w1 ⟨rfl, hb1⟩
          have HB1 := Num.hide (HBa.out.trans (hb1.mono (by simp; omega)))
          clear hb1 HB HBa c1 c2
          go_wp2
          go_ret
          exact ⟨rfl, HB1.out⟩
      · obtain rfl : i = l.length := by omega
        have ht := HT.out
        rw [List.take_of_length_le (Nat.le_refl _)] at ht
        obtain rfl : r = true := by rw [← HR.out]; exact ok_all h12 ht
        clear ht
        go_wp2
        go_ret
        exact ⟨rfl, HB.out⟩
  · obtain rfl : r = false := by rw [← HR.out]; exact ok_long l h12
    go_enter Tryd.func20, Tryd.ntmps20
    go_wp2
    go_ret
    exact ⟨rfl, Below.refl _ _⟩
end Flds
end Go.Proofs.YtbeljhonikhdjaaDoor
