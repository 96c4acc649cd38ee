/-
  FldSameNum: Two fields compared, whole.
  FldSameImpl: SameFields of the program, and slices.Equal at fields: whether two lists of fields are the same.
  ValueImpl: IsValueText of the program: what the call returns, for every text; what was there stays.
  FldOkImpl: isNameText, fieldOk and FieldsOk of the program: what the calls return, where the table of signs holds what it is laid with; what was there stays.
  OwnImpl: withoutFraming and ownFieldsOk of the program: fields without those that say how long a body is.
  RespOkImpl: hasBody and ResponseOk of the program: is an answer right?
-/
import Derived.Test.YtbcjpjhpobmpbaaGreatDoorFlds
import Derived.Deep.QuietTactic
import Derived.BigQuiet
import Derived.Laws.StructEq
import Derived.Test.YtbcjpjhpobmpbaaGreatDoorValueSpec
import Derived.Test.YtbcjpjhpobmpbaaGreatDoorPao
import Derived.Test.YtbcjpjhpobmpbaaGreatDoorFldsOkSpec
import Derived.Test.YtbcjpjhpobmpbaaGreatDoorTokenImpl
import Derived.Test.YtbcjpjhpobmpbaaGreatDoorPam
import Derived.Test.YtbcjpjhpobmpbaaGreatDoorPar
import Derived.Test.YtbcjpjhpobmpbaaGreatDoorPah
namespace Go.Proofs.YtbcjpjhpobmpbaaGreatDoor
open Go.RowKit
set_option linter.unusedVariables false
namespace Flds

theorem take_succ_same {α : Type} (a b : List α) (k : Nat) (ha : k < a.length) (hb : k < b.length) : a.take (k + 1) = b.take (k + 1) ↔ a.take k = b.take k ∧ a[k] = b[k] := by
  rw [List.take_succ_eq_append_getElem ha, List.take_succ_eq_append_getElem hb]
  constructor
  · intro h
    have h1 := List.append_inj h (by rw [List.length_take, List.length_take]; omega)
    exact ⟨h1.1, by simpa using h1.2⟩
  · rintro ⟨h1, h2⟩; rw [h1, h2]
theorem guard_run (op : BinOp) (a b : Operand) (xs ys : Array Value) (W : World) : (eqGuard op 47 a b (.agg xs) (.agg ys)).run Tryz.prog W = .ok () W := run_eqGuard_agg W op 47 a b xs ys (by kernel_rfl)
theorem eq_run (x y x' y' : ByteArray) (W : World) : (Op.equalIn 10000 47 (.agg #[.string x, .string y]) (.agg #[.string x', .string y'])).run Tryz.prog W = .ok (x.toList == x'.toList && y.toList == y'.toList) W := by
  have u9 := Tryz.underlying9
  have a9 := Tryz.isAgg9
  have z9 := Tryz.sizeOf9
  rw [show (10000 : Nat) = 9999 + 1 from rfl, run_equalIn_agg W 9999 47 _ _ (by kernel_rfl) (by kernel_rfl)]
  simp only [Program.fieldsOf, Tryz.underlying47]
  go_simp
  by_cases h1 : x.toList = x'.toList <;> by_cases h2 : y.toList = y'.toList <;> simp [h1, h2]
theorem neq_run (x y x' y' : ByteArray) (W : World) : (binOp .neq 47 (.agg #[.string x, .string y]) (.agg #[.string x', .string y'])).run Tryz.prog W = .ok (.bool (!decide (((x, y) : Fld) = (x', y')))) W := by
  have e : (x.toList == x'.toList && y.toList == y'.toList) = decide (((x, y) : Fld) = (x', y')) := by
    rw [Bool.eq_iff_iff, Bool.and_eq_true, beq_iff_eq, beq_iff_eq, decide_eq_true_iff, ByteArray.toList_eq, ByteArray.toList_eq, ByteArray.toList_eq, ByteArray.toList_eq, Prod.mk.injEq]
    exact ⟨fun h => ⟨ByteArray.ext (Array.toList_inj.1 h.1), ByteArray.ext (Array.toList_inj.1 h.2)⟩, fun h => ⟨by rw [h.1], by rw [h.2]⟩⟩
  rw [run_neq_struct, eq_run, e]; rfl
end Flds
end Go.Proofs.YtbcjpjhpobmpbaaGreatDoor
namespace Go.Proofs.YtbcjpjhpobmpbaaGreatDoor
open Go.RowKit
set_option linter.unusedVariables false
namespace Flds

set_option maxRecDepth 100000 in
set_option maxHeartbeats 1000000 in
theorem equal_lib (va vb : Value) (la lb : List Fld) (w : World) (ha : Is w va la) (hb : Is w vb lb) (hla : la.length ≤ 1099511627776) : Calls Tryz.prog 133 #[va, vb] w fun e w' => e = .returned (.bool (decide (la = lb))) ∧ ∃ n, w' = w.drewN n := by
  obtain ⟨aa, ca, rfl, ha2⟩ := is_form ha
  obtain ⟨ab, cb, rfl, hb2⟩ := is_form hb
  have HA := Num.hide ha2
  have HB := Num.hide hb2
  clear ha hb ha2 hb2
  obtain ⟨r, hr⟩ : ∃ r, decide (la = lb) = r := ⟨_, rfl⟩
  rw [hr]
  have HR := Num.hide hr
  clear hr
  by_cases hl : la.length = lb.length
  · have hne : ((la.length : Int) != (lb.length : Int)) = false := by rw [hl]; simp
    have HL := Num.hide hl
    clear hl
    go_enter Tryz.func133, Tryz.ntmps133
    go_wp2
    clear hne
    go_loopw [13] (fun i wr => ∃ k n : Nat, k ≤ la.length ∧ i = .int .i64 (k : Int) ∧ Hid (wr = w.drewN n) ∧ Hid (la.take k = lb.take k)) (fun i _ => la.length - (intOf i).toNat)
    case atStart => exact ⟨0, 0, by omega, rfl, rfl, by simp [Hid]⟩
    case round =>
      obtain ⟨k, n, hk, rfl, HW, HT⟩ := hrel
      by_cases hlt : k < la.length
      · have hlt2 : k < lb.length := by have := HL.out; omega
        obtain ⟨ba, oa, rfl, hca, hma, hba, hcella⟩ := Num.unhide HA (by omega)
        obtain ⟨bb, ob, rfl, hcb, hmb, hbb, hcellb⟩ := Num.unhide HB (by omega)
        obtain ⟨ga1, ga2⟩ := hcella k hlt
        obtain ⟨gb1, gb2⟩ := hcellb k hlt2
        have c1 : wr.cell? ⟨ba, oa + k * 2, none⟩ = some (.string la[k].1) := by rw [HW.out]; exact ga1
        have c2 : wr.cell? ⟨ba, oa + k * 2 + 1, none⟩ = some (.string la[k].2) := by rw [HW.out]; exact ga2
        have c3 : wr.cell? ⟨bb, ob + k * 2, none⟩ = some (.string lb[k].1) := by rw [HW.out]; exact gb1
        have c4 : wr.cell? ⟨bb, ob + k * 2 + 1, none⟩ = some (.string lb[k].2) := by rw [HW.out]; exact gb2
        have HS := Num.hide (take_succ_same la lb k hlt hlt2)
        clear hcella hcellb ga1 ga2 gb1 gb2
        generalize la[k] = f at c1 c2 HS
        generalize lb[k] = g at c3 c4 HS
        obtain ⟨x, y⟩ := f
        obtain ⟨x', y'⟩ := g
        simp only at c1 c2 c3 c4
        have hg := fun op a b W => guard_run op a b #[.string x, .string y] #[.string x', .string y'] W
        have hq := fun W => neq_run x y x' y' W
        by_cases he : ((x, y) : Fld) = (x', y')
        · rw [decide_eq_true he] at hq
          have HT2 : Hid (la.take (k + 1) = lb.take (k + 1)) := HS.out.2 ⟨HT.out, he⟩
          clear he
          go_wp2
          go_quiet (fail)
          go_wp2
          go_roundw
          case rel => exact ⟨k + 1, n + nq, by omega, by go_num, by show _ = _; rw [HW.out, World.drewN_drewN], HT2⟩
          case measure => simp [intOf]; omega
        · rw [decide_eq_false he] at hq
          have hf : r = false := by
            rw [← HR.out]
            refine decide_eq_false (fun h => he ?_)
            exact (HS.out.1 (by rw [h])).2
          subst hf
          clear he
          go_wp2
          go_quiet (fail)
          go_wp2
          go_ret
          exact ⟨rfl, n + nq, by rw [HW.out, World.drewN_drewN]⟩
      · have ht : r = true := by
          rw [← HR.out]
          refine decide_eq_true ?_
          have h := HT.out
          rwa [List.take_of_length_le (by omega), List.take_of_length_le (by have := HL.out; omega)] at h
        subst ht
        go_wp2
        go_ret
        exact ⟨rfl, n, HW.out⟩
  · have hne : ((la.length : Int) != (lb.length : Int)) = true := by rw [bne_iff_ne]; omega
    have hf : r = false := by rw [← HR.out]; exact decide_eq_false (fun h => hl (by rw [h]))
    subst hf
    go_enter Tryz.func133, Tryz.ntmps133
    go_wp2
    go_ret
    exact ⟨rfl, 0, rfl⟩
set_option maxHeartbeats 1000000 in
theorem same_impl (va vb : Value) (la lb : List Fld) (w : World) (ha : Is w va la) (hb : Is w vb lb) (hla : la.length ≤ 1099511627776) : Calls Tryz.prog 115 #[va, vb] w fun e w' => e = .returned (.bool (decide (la = lb))) ∧ Below w.heap.size w w' := by
  have HL := Num.hide (fun W h1 h2 => equal_lib va vb la lb W h1 h2 hla)
  have HA := Num.hide ha
  have HB := Num.hide hb
  clear ha hb
  generalize decide (la = lb) = r at HL ⊢
  go_enter Tryz.func115, Tryz.ntmps115
  go_wp2_with fail
  refine (HL.out _ HA.out HB.out).mono ?_
  rintro e w1 ⟨rfl, n, rfl⟩
  go_wp2
  go_ret
  exact ⟨rfl, Recs.below_drewN (Below.refl _ _) n⟩
end Flds
end Go.Proofs.YtbcjpjhpobmpbaaGreatDoor
namespace Go.Proofs.YtbcjpjhpobmpbaaGreatDoor
open Go.RowKit
set_option linter.unusedVariables false
namespace Sign

set_option maxRecDepth 100000 in
set_option maxHeartbeats 1000000 in
theorem value_impl (s : ByteArray) (w : World) (hs : s.size ≤ 281474976710656) : Calls Tryz.prog 146 #[.string s] w fun e w' => e = .returned (.bool (isVal s)) ∧ Below w.heap.size w w' := by
  have HS := Num.hide hs
  obtain ⟨r, hr⟩ : ∃ r, isVal s = r := ⟨_, rfl⟩
  rw [hr]
  have HR := Num.hide hr
  clear hr
  go_enter Tryz.func146, Tryz.ntmps146
  go_wp2
  go_loop [6] (fun i => ∃ k : Nat, k ≤ s.size ∧ i = .int .i64 k ∧ (s.data.toList.take k).all (fun b => decide (val (b.toNat : Int))) = true) (fun i => s.size - (intOf i).toNat)
  case atStart => exact ⟨0, by omega, rfl, by simp⟩
  case round =>
    obtain ⟨k, hk, rfl, hall⟩ := hrel
    have HA := Num.hide hall
    clear hall
    by_cases hlt : k < s.size
    · have hstep := Num.hide (all_take s (fun b => decide (val (b.toNat : Int))) k hlt)
      have hn := Num.hide (fun h => not_all s (fun b => decide (val (b.toNat : Int))) k hlt h)
      by_cases hv : val (s[k].toNat : Int)
      · have hd := Num.hide (show decide (val (s[k].toNat : Int)) = true from decide_eq_true hv)
        unfold val at hv
        have d127 : ((s[k].toNat : Int) == 127) = false := by rw [beq_eq_false_iff_ne]; omega
        by_cases h9 : (s[k].toNat : Int) = 9
        · have d9 : ((s[k].toNat : Int) != 9) = false := by rw [h9]; rfl
          have d32 : decide ((s[k].toNat : Int) < 32) = true := by simp; omega
          clear hv h9
          go_wp2
          all_goals go_round
          case rel => exact ⟨k + 1, by omega, by go_num, by rw [Num.unhide hstep, Num.unhide HA, Num.unhide hd]; rfl⟩
          case measure => simp [intOf]; omega
        · have d32 : decide ((s[k].toNat : Int) < 32) = false := by simp; omega
          clear hv h9
          go_wp2
          all_goals go_round
          case rel => exact ⟨k + 1, by omega, by go_num, by rw [Num.unhide hstep, Num.unhide HA, Num.unhide hd]; rfl⟩
          case measure => simp [intOf]; omega
      · have hf : isVal s = false := by
          unfold isVal
          rw [Num.unhide hn (decide_eq_false hv), Bool.false_and]
        rw [Num.unhide HR] at hf
        have HF := Num.hide hf
        clear hf
        unfold val at hv
        have d9 : ((s[k].toNat : Int) != 9) = true := bne_iff_ne.2 (by omega)
        by_cases h32 : (s[k].toNat : Int) < 32
        · have d32 : decide ((s[k].toNat : Int) < 32) = true := decide_eq_true h32
          clear hv h32
          go_wp2
          all_goals go_ret
          all_goals exact ⟨by rw [Num.unhide HF]; rfl, Below.refl _ _⟩
        · have d32 : decide ((s[k].toNat : Int) < 32) = false := decide_eq_false h32
          have d127 : ((s[k].toNat : Int) == 127) = true := by rw [beq_iff_eq]; omega
          clear hv h32
          go_wp2
          all_goals go_ret
          all_goals exact ⟨by rw [Num.unhide HF]; rfl, Below.refl _ _⟩
    · obtain rfl : k = s.size := by omega
      have hr := Num.unhide HR
      unfold isVal at hr
      rw [all_full s _ (Num.unhide HA), Bool.true_and] at hr
      have HR2 := Num.hide hr
      clear hr
      go_wp2_with (go_at_call 154; refine (trim_impl _ _ (Num.unhide HS)).mono ?_; rintro e w' ⟨rfl, hb⟩)
      go_ret
      exact ⟨by rw [← Num.unhide HR2]; rfl, hb⟩
end Sign
end Go.Proofs.YtbcjpjhpobmpbaaGreatDoor
namespace Go.Proofs.YtbcjpjhpobmpbaaGreatDoor
open Go.RowKit
set_option linter.unusedVariables false
namespace Flds

theorem signs_below {w w' : World} {B : Nat} (h : Sign.Signs w) (hb : Below B w w') (hB : 0 < B) : Sign.Signs w' := fun i hi => (hb.cell (p := ⟨0, i, none⟩) hB).trans (h i hi)
theorem signs_lt {w : World} (h : Sign.Signs w) : 0 < w.heap.size := Recs.lt_of_cell (h 0 (by decide))
theorem max_of {l : List Fld} (hl : bulk l ≤ 1048576) : ∀ f ∈ l, f.1.size ≤ maxLen ∧ f.2.size ≤ maxLen := by
  intro f hf
  obtain ⟨i, hi, rfl⟩ := List.getElem_of_mem hf
  have h3 := bulk_take l i hi
  have h4 := bulk_le l (i + 1)
  unfold bulk at hl; unfold maxLen
  omega
/-- is it a right name? -/
def isName (s : ByteArray) : Bool := decide (s.size ≤ 24) && Sign.isTok s && decide (Sign.lower s = s)
set_option maxRecDepth 100000 in
set_option maxHeartbeats 2000000 in
theorem name_impl (s : ByteArray) (w : World) (hs : s.size ≤ maxLen) (hS : Sign.Signs w) : Calls Tryz.prog 145 #[.string s] w fun e w' => e = .returned (.bool (isName s)) ∧ Below w.heap.size w w' := by
  have HT := Num.hide (Sign.isTok_impl s w hs hS)
  have HL := Num.hide (fun W => Sign.lower_impl s W hs)
  obtain ⟨r, hr⟩ : ∃ r, isName s = r := ⟨_, rfl⟩
  rw [hr]
  unfold isName at hr
  generalize Sign.lower s = ls at HL hr
  generalize Sign.isTok s = bt at HT hr
  unfold maxLen at hs
  clear hS
  by_cases h24 : s.size ≤ 24
  · rw [decide_eq_true h24, Bool.true_and] at hr
    cases bt with
    | false =>
      rw [Bool.false_and] at hr
      subst hr
      go_enter Tryz.func145, Tryz.ntmps145
      go_wp2_with (go_at_call 153; refine (Num.unhide HT).mono ?_; rintro e w1 ⟨rfl, rfl⟩)
      go_ret
      exact ⟨rfl, Below.refl _ _⟩
    | true =>
      rw [Bool.true_and] at hr
      by_cases he : ls = s
      · rw [decide_eq_true he] at hr
        subst hr he
        go_enter Tryz.func145, Tryz.ntmps145
        go_wp2_with (first | (go_at_call 153; refine (Num.unhide HT).mono ?_; rintro e w1 ⟨rfl, rfl⟩) | (go_at_call 151; refine (Num.unhide HL _).mono ?_; rintro e w2 ⟨rfl, hb2⟩))
        go_ret
        exact ⟨rfl, hb2⟩
      · rw [decide_eq_false he] at hr
        subst hr
        have d := text_eq he
        clear he
        go_enter Tryz.func145, Tryz.ntmps145
        go_wp2_with (first | (go_at_call 153; refine (Num.unhide HT).mono ?_; rintro e w1 ⟨rfl, rfl⟩) | (go_at_call 151; refine (Num.unhide HL _).mono ?_; rintro e w2 ⟨rfl, hb2⟩))
        go_ret
        exact ⟨rfl, hb2⟩
  · rw [decide_eq_false h24, Bool.false_and, Bool.false_and] at hr
    subst hr
    go_enter Tryz.func145, Tryz.ntmps145
    go_wp2
    go_ret
    exact ⟨rfl, Below.refl _ _⟩
theorem okF_name (f : Fld) : okF f = (isName f.1 && decide (f.2.size ≤ 60) && Sign.isVal f.2) := by
  unfold okF isName
  rw [show decide (f.1 = Sign.lower f.1) = decide (Sign.lower f.1 = f.1) from by rw [decide_eq_decide]; exact ⟨Eq.symm, Eq.symm⟩]
  generalize Sign.isTok f.1 = a
  generalize decide (Sign.lower f.1 = f.1) = b
  generalize decide (f.1.size ≤ 24) = c
  generalize Sign.isVal f.2 = d
  generalize decide (f.2.size ≤ 60) = e
  cases a <;> cases b <;> cases c <;> cases d <;> cases e <;> rfl
set_option maxRecDepth 100000 in
set_option maxHeartbeats 2000000 in
theorem okF_impl (x y : ByteArray) (w : World) (hx : x.size ≤ maxLen) (hy : y.size ≤ maxLen) (hS : Sign.Signs w) : Calls Tryz.prog 132 #[.agg #[.string x, .string y]] w fun e w' => e = .returned (.bool (okF (x, y))) ∧ Below w.heap.size w w' := by
  have hlt := signs_lt hS
  have HB0 := Num.hide ((Below.refl w.heap.size w).alloc (Nat.le_refl _) (.cells #[.string x, .string y] 47))
  have HN := Num.hide (name_impl x (w.alloc (.cells #[.string x, .string y] 47)) hx (signs_below hS HB0.out hlt))
  rw [okF_name]
  simp only
  generalize isName x = bn at HN
  unfold maxLen at hx hy
  clear hS
  cases bn with
  | false =>
    rw [Bool.false_and, Bool.false_and]
    go_enter Tryz.func132, Tryz.ntmps132
    go_wp2_with (go_at_call 145; refine (Num.unhide HN).mono ?_; rintro e w1 ⟨rfl, hb1⟩; have HB1 := Num.hide (HB0.out.trans (hb1.mono (by simp))); clear hb1)
    go_ret
    exact ⟨rfl, HB1.out⟩
  | true =>
    rw [Bool.true_and]
    by_cases h60 : y.size ≤ 60
    · have HV := Num.hide (fun W => Sign.value_impl y W (by omega))
      rw [decide_eq_true h60, Bool.true_and]
      generalize Sign.isVal y = bv at HV
      go_enter Tryz.func132, Tryz.ntmps132
      go_wp2_with fail
      refine (Num.unhide HN).mono ?_
      rintro e w1 ⟨rfl, hb1⟩
      have c0 : w1.cell? ⟨w.heap.size, 1, none⟩ = some (.string y) := by rw [hb1.cell (p := ⟨w.heap.size, 1, none⟩) (by simp)]; simp
      have HB1 := Num.hide (HB0.out.trans (hb1.mono (by simp)))
      clear hb1 HB0
      go_wp2_with fail
      refine (Num.unhide HV _).mono ?_
      rintro e w2 ⟨rfl, hb2⟩
      have HB2 := Num.hide (HB1.out.trans (hb2.mono HB1.out.size))
      clear hb2 HB1
      go_wp2
      go_ret
      exact ⟨rfl, HB2.out⟩
    · rw [decide_eq_false h60, Bool.false_and]
      go_enter Tryz.func132, Tryz.ntmps132
      go_wp2_with fail
      refine (Num.unhide HN).mono ?_
      rintro e w1 ⟨rfl, hb1⟩
      have c0 : w1.cell? ⟨w.heap.size, 1, none⟩ = some (.string y) := by rw [hb1.cell (p := ⟨w.heap.size, 1, none⟩) (by simp)]; simp
      have HB1 := Num.hide (HB0.out.trans (hb1.mono (by simp)))
      clear hb1 HB0
      go_wp2
      go_ret
      exact ⟨rfl, HB1.out⟩
theorem ok_long (l : List Fld) (h : ¬ l.length ≤ 12) : ok l = false := by unfold ok; rw [decide_eq_false h, Bool.and_false]
theorem ok_all {l : List Fld} (h : l.length ≤ 12) (ha : l.all okF = true) : ok l = true := by unfold ok; rw [ha, decide_eq_true h]; rfl
set_option maxRecDepth 100000 in
set_option maxHeartbeats 1000000 in
theorem ok_impl (v : Value) (l : List Fld) (w : World) (h : Is w v l) (hz : ∀ f ∈ l, f.1.size ≤ maxLen ∧ f.2.size ≤ maxLen) (hS : Sign.Signs w) :
    Calls Tryz.prog 114 #[v] w fun e w' => e = .returned (.bool (ok l)) ∧ Below w.heap.size w w' := by
  obtain ⟨a, c, rfl, h2⟩ := is_form h
  have HA := Num.hide h2
  have HZ := Num.hide hz
  have HS := Num.hide hS
  have hlt := signs_lt hS
  clear h h2 hz hS
  obtain ⟨r, hr⟩ : ∃ r, ok l = r := ⟨_, rfl⟩
  rw [hr]
  have HR := Num.hide hr
  clear hr
  have hlen : l.length ≤ 9223372036854775807 := by
    by_cases h0 : 0 < l.length
    · obtain ⟨b, o, _, h3, h4, _⟩ := HA.out h0
      unfold maxLen at h4; omega
    · omega
  by_cases h12 : l.length ≤ 12
  · go_enter Tryz.func114, Tryz.ntmps114
    go_wp2
    go_loopw [10] (fun iv wr => ∃ i : Nat, i ≤ l.length ∧ iv = .int .i64 (i : Int) ∧ Hid ((l.take i).all okF = true) ∧ Hid (Below w.heap.size w wr)) (fun iv _ => l.length - (intOf iv).toNat)
    case atStart => exact ⟨0, by omega, rfl, rfl, Below.refl _ _⟩
    case round =>
      obtain ⟨i, hi, rfl, HT, HB⟩ := hrel
      by_cases hlt2 : i < l.length
      · obtain ⟨bk, o, rfl, hc, hmx, hblt, hcell⟩ := Num.unhide HA (by omega)
        obtain ⟨g1, g2⟩ := hcell i hlt2
        have c1 : wr.cell? ⟨bk, o + i * 2, none⟩ = some (.string l[i].1) := by rw [HB.out.cell (p := ⟨bk, o + i * 2, none⟩) hblt]; exact g1
        have c2 : wr.cell? ⟨bk, o + i * 2 + 1, none⟩ = some (.string l[i].2) := by rw [HB.out.cell (p := ⟨bk, o + i * 2 + 1, none⟩) hblt]; exact g2
        have hz := Num.unhide HZ l[i] (List.getElem_mem hlt2)
        have HM := Num.hide (all_more l i hlt2)
        have HN := Num.hide (fun hf => not_ok l i hlt2 hf)
        have hsz := HB.out.size
        have HBa := Num.hide (HB.out.alloc hsz (.cells #[.string l[i].1, .string l[i].2] 47))
        clear hcell g1 g2
        generalize l[i] = f at c1 c2 hz HM HN HBa
        obtain ⟨x, y⟩ := f
        simp only at c1 c2 hz HBa
        have HO := Num.hide (okF_impl x y (wr.alloc (.cells #[.string x, .string y] 47)) hz.1 hz.2 (signs_below HS.out HBa.out hlt))
        generalize okF (x, y) = bo at HO HM HN
        cases bo with
        | true =>
          have HT2 : Hid ((l.take (i + 1)).all okF = true) := by show _ = _; rw [HM.out, HT.out]; rfl
          go_wp2_with fail
          refine (Num.unhide HO).mono ?_
          rintro e w1 ⟨rfl, hb1⟩
          have HB1 := Num.hide (HBa.out.trans (hb1.mono (by simp; omega)))
          clear hb1 HB HBa c1 c2
          go_wp2
          go_roundw
          case rel => exact ⟨i + 1, by omega, by go_num, HT2, HB1⟩
          case measure => simp [intOf]; omega
        | false =>
          obtain rfl : r = false := by rw [← HR.out]; exact HN.out rfl
          go_wp2_with fail
          refine (Num.unhide HO).mono ?_
          rintro e w1 ⟨rfl, hb1⟩
          have HB1 := Num.hide (HBa.out.trans (hb1.mono (by simp; omega)))
          clear hb1 HB HBa c1 c2
          go_wp2
          go_ret
          exact ⟨rfl, HB1.out⟩
      · obtain rfl : i = l.length := by omega
        have ht := HT.out
        rw [List.take_of_length_le (Nat.le_refl _)] at ht
        obtain rfl : r = true := by rw [← HR.out]; exact ok_all h12 ht
        clear ht
        go_wp2
        go_ret
        exact ⟨rfl, HB.out⟩
  · obtain rfl : r = false := by rw [← HR.out]; exact ok_long l h12
    go_enter Tryz.func114, Tryz.ntmps114
    go_wp2
    go_ret
    exact ⟨rfl, Below.refl _ _⟩
end Flds
end Go.Proofs.YtbcjpjhpobmpbaaGreatDoor
namespace Go.Proofs.YtbcjpjhpobmpbaaGreatDoor
open Go.RowKit
set_option linter.unusedVariables false
namespace Msg

set_option maxRecDepth 100000 in
set_option maxHeartbeats 2000000 in
theorem bare_impl (v : Value) (l : List Flds.Fld) (w : World) (h : Flds.Is w v l) (hl : Flds.bulk l ≤ 1048576) :
    Calls Tryz.prog 116 #[v] w fun e w' => ∃ v', e = .returned v' ∧ Flds.Own w.heap.size w' v' (bare l) ∧ Below w.heap.size w w' := by
  have HD1 := Num.hide (Flds.drop_impl v l Body.clName w h (by omega))
  have HD2 := Num.hide (fun v W h => Flds.drop_impl v (Flds.drop l Body.clName) Body.teName W h (by have := bulk_drop l Body.clName; omega))
  have HBt := Num.hide (bare_two l)
  rw [HBt.out] at HD2
  obtain ⟨a, c, rfl, _⟩ := Flds.is_form h
  clear h
  go_enter Tryz.func116, Tryz.ntmps116
  go_wp2_with fail
  refine HD1.out.mono ?_
  rintro e w1 ⟨v1, rfl, ho, hb⟩
  have HO1 := Num.hide ho
  have HB1 := Num.hide hb
  clear ho hb
  go_wp2_with fail
  refine (HD2.out _ _ (Recs.own_is Flds.cells_len HO1.out)).mono ?_
  rintro e w2 ⟨v2, rfl, ho2, hb2⟩
  have HO2 := Num.hide (Recs.own_mono ho2 HB1.out.size)
  have HB2 := Num.hide (HB1.out.trans (hb2.mono HB1.out.size))
  clear ho2 hb2
  go_wp2
  go_ret
  exact ⟨_, rfl, HO2.out, HB2.out⟩
set_option maxRecDepth 100000 in
set_option maxHeartbeats 2000000 in
theorem own_impl (v : Value) (l : List Flds.Fld) (w : World) (h : Flds.Is w v l) (hl : Flds.bulk l ≤ 1048576) (hS : Sign.Signs w) :
    Calls Tryz.prog 89 #[v] w fun e w' => e = .returned (.bool (plain l)) ∧ Below w.heap.size w w' := by
  have hlen : l.length ≤ 1048576 := by unfold Flds.bulk at hl; omega
  have HI := Num.hide h
  have HO := Num.hide (Flds.ok_impl v l w h (Flds.max_of hl) hS)
  have HBr := Num.hide (fun W h => bare_impl v l W h hl)
  have HSm := Num.hide (fun v2 W h1 h2 => Flds.same_impl v v2 l (bare l) W h1 h2 (by omega))
  obtain ⟨r, hr⟩ : ∃ r, plain l = r := ⟨_, rfl⟩
  rw [hr]
  rw [← own_plain] at hr
  obtain ⟨a, c, rfl, _⟩ := Flds.is_form h
  clear h hS
  generalize Flds.ok l = o at HO hr
  by_cases h12 : (l.length : Int) < 12
  · rw [decide_eq_true (by omega : l.length < 12), Bool.true_and] at hr
    cases o with
    | false =>
      obtain rfl : false = r := by rw [← hr]; rfl
      clear hr
      go_enter Tryz.func89, Tryz.ntmps89
      go_wp2_with fail
      refine HO.out.mono ?_
      rintro e w1 ⟨rfl, hb⟩
      have HB := Num.hide hb
      clear hb
      go_wp2
      go_ret
      exact ⟨rfl, HB.out⟩
    | true =>
      rw [Bool.true_and] at hr
      rw [hr] at HSm
      clear hr
      go_enter Tryz.func89, Tryz.ntmps89
      go_wp2_with fail
      refine HO.out.mono ?_
      rintro e w1 ⟨rfl, hb⟩
      have HB := Num.hide hb
      clear hb
      go_wp2_with fail
      refine (HBr.out _ (Recs.is_below HI.out HB.out)).mono ?_
      rintro e w2 ⟨v2, rfl, ho2, hb2⟩
      have HO2 := Num.hide ho2
      have HB2 := Num.hide (HB.out.trans (hb2.mono HB.out.size))
      clear ho2 hb2
      go_wp2_with fail
      refine (HSm.out _ _ (Recs.is_below HI.out HB2.out) (Recs.own_is Flds.cells_len HO2.out)).mono ?_
      rintro e w3 ⟨rfl, hb3⟩
      have HB3 := Num.hide (HB2.out.trans (hb3.mono HB2.out.size))
      clear hb3
      go_wp2
      go_ret
      exact ⟨rfl, HB3.out⟩
  · have d12 : decide ((l.length : Int) < 12) = false := decide_eq_false h12
    obtain rfl : false = r := by rw [← hr, decide_eq_false (by omega : ¬ l.length < 12)]; rfl
    clear hr HO
    go_enter Tryz.func89, Tryz.ntmps89
    go_wp2
    go_ret
    exact ⟨rfl, Below.refl _ _⟩
end Msg
end Go.Proofs.YtbcjpjhpobmpbaaGreatDoor
namespace Go.Proofs.YtbcjpjhpobmpbaaGreatDoor
open Go.RowKit
set_option linter.unusedVariables false
namespace Msg

set_option maxRecDepth 100000 in
theorem hasBody_impl (s : Int) (w : World) : Calls Tryz.prog 90 #[.int .i64 s] w fun e w' => e = .returned (.bool (decide (s ≠ 204 ∧ s ≠ 304))) ∧ w = w' := by
  by_cases h1 : s = 204
  · subst h1
    go_enter Tryz.func90, Tryz.ntmps90
    go_wp2
    go_ret
    exact ⟨rfl, rfl⟩
  · have d1 : (s != 204) = true := by rw [bne_iff_ne]; exact h1
    by_cases h2 : s = 304
    · subst h2
      go_enter Tryz.func90, Tryz.ntmps90
      go_wp2
      go_ret
      exact ⟨rfl, rfl⟩
    · have d2 : (s != 304) = true := by rw [bne_iff_ne]; exact h2
      rw [decide_eq_true ⟨h1, h2⟩]
      clear h1 h2
      go_enter Tryz.func90, Tryz.ntmps90
      go_wp2
      go_ret
      exact ⟨rfl, rfl⟩
theorem signs_alloc3 {w : World} (h : Sign.Signs w) (o : Obj) : Sign.Signs (w.alloc o) := Flds.signs_below h ((Below.refl w.heap.size w).alloc (Nat.le_refl _) o) (Flds.signs_lt h)
set_option maxRecDepth 100000 in
set_option maxHeartbeats 2000000 in
theorem respOk_impl (s : Int) (v : Value) (l : List Flds.Fld) (b : ByteArray) (w : World) (h : Flds.Is w v l) (hl : Flds.bulk l ≤ 1048576) (hb : b.size ≤ 1048576) (hS : Sign.Signs w) :
    Calls Tryz.prog 49 #[Resp.val s v b] w fun e w' => e = .returned (.bool (respOk s l b)) ∧ Below w.heap.size w w' := by
  unfold Resp.val
  have HHb := Num.hide (fun W => hasBody_impl s W)
  obtain ⟨a, c, rfl, _⟩ := Flds.is_form h
  have hb0 := (Below.refl w.heap.size w).alloc (Nat.le_refl _) (.cells #[.int .i64 s, .slice a l.length c, .string b] 35)
  have HB0 := Num.hide hb0
  have HP := Num.hide (own_impl (.slice a l.length c) l _ (Recs.is_stay h (Nat.le_refl _) hb0) hl (signs_alloc3 hS _))
  clear h hb0 hl hS
  obtain ⟨r, hr⟩ : ∃ r, respOk s l b = r := ⟨_, rfl⟩
  rw [hr]
  unfold respOk at hr
  generalize plain l = t3 at HP hr
  have fin : ∀ W, Below (w.alloc (.cells #[.int .i64 s, .slice a l.length c, .string b] 35)).heap.size (w.alloc (.cells #[.int .i64 s, .slice a l.length c, .string b] 35)) W → W.cell? ⟨w.heap.size, 0, none⟩ = some (.int .i64 s) ∧ W.cell? ⟨w.heap.size, 2, none⟩ = some (.string b) := fun W hb2 => by
    have k0 := (hb2.cell (p := ⟨w.heap.size, 0, none⟩) (by show w.heap.size < _; rw [World.size_alloc]; omega)).trans (cell_of_row _ _ _ _ _ _ (heap_alloc_new w _))
    have k3 := (hb2.cell (p := ⟨w.heap.size, 2, none⟩) (by show w.heap.size < _; rw [World.size_alloc]; omega)).trans (cell_of_row _ _ _ _ _ _ (heap_alloc_new w _))
    simp only [List.getElem?_toArray, List.getElem?_cons_succ, List.getElem?_cons_zero] at k0 k3
    exact ⟨k0, k3⟩
  have FIN := Num.hide fin
  clear fin
  by_cases h2 : s < 200
  · have d2 : decide (s < 200) = true := decide_eq_true h2
    obtain rfl : false = r := by rw [← hr, decide_eq_false (by omega : ¬ (200 ≤ s ∧ s ≤ 599))]; rfl
    clear hr HP
    go_enter Tryz.func49, Tryz.ntmps49
    go_wp2
    go_ret
    exact ⟨rfl, HB0.out⟩
  · have d2 : decide (s < 200) = false := decide_eq_false h2
    by_cases h5 : 599 < s
    · have d5 : decide (599 < s) = true := decide_eq_true h5
      obtain rfl : false = r := by rw [← hr, decide_eq_false (by omega : ¬ (200 ≤ s ∧ s ≤ 599))]; rfl
      clear hr HP
      go_enter Tryz.func49, Tryz.ntmps49
      go_wp2
      go_ret
      exact ⟨rfl, HB0.out⟩
    · have d5 : decide (599 < s) = false := decide_eq_false h5
      rw [decide_eq_true (by omega : 200 ≤ s ∧ s ≤ 599), Bool.true_and] at hr
      cases t3 with
      | false =>
        obtain rfl : false = r := by rw [← hr]; rfl
        clear hr
        go_enter Tryz.func49, Tryz.ntmps49
        go_wp2_with fail
        refine HP.out.mono ?_
        rintro e w2 ⟨rfl, hb2⟩
        have HB2 := Num.hide (HB0.out.trans (hb2.mono HB0.out.size))
        clear hb2 HP
        go_wp2
        go_ret
        exact ⟨rfl, HB2.out⟩
      | true =>
        rw [Bool.true_and] at hr
        by_cases he : b = ⟨#[]⟩
        · have db : b.toList.isEmpty = true := by rw [he, ByteArray.toList_eq]; rfl
          obtain rfl : true = r := by rw [← hr, decide_eq_true he, Bool.or_true, he]; rfl
          clear hr he
          go_enter Tryz.func49, Tryz.ntmps49
          go_wp2_with fail
          refine HP.out.mono ?_
          rintro e w2 ⟨rfl, hb2⟩
          have HB2 := Num.hide (HB0.out.trans (hb2.mono HB0.out.size))
          obtain ⟨k0, k2⟩ := FIN.out _ hb2
          clear hb2 HP
          go_wp2
          go_ret
          exact ⟨rfl, HB2.out⟩
        · have db : b.toList.isEmpty = false := Sign.empty_false b (by
            rcases Nat.eq_zero_or_pos b.size with h0 | h0
            · exact absurd (ByteArray.ext (Array.eq_empty_of_size_eq_zero h0)) he
            · exact h0)
          rw [decide_eq_false he, Bool.or_false] at hr
          generalize decide (s ≠ 204 ∧ s ≠ 304) = t at HHb hr
          cases t with
          | false =>
            obtain rfl : false = r := by rw [← hr, Bool.and_false]
            clear hr
            go_enter Tryz.func49, Tryz.ntmps49
            go_wp2_with fail
            refine HP.out.mono ?_
            rintro e w2 ⟨rfl, hb2⟩
            have HB2 := Num.hide (HB0.out.trans (hb2.mono HB0.out.size))
            obtain ⟨k0, k2⟩ := FIN.out _ hb2
            clear hb2 HP he
            go_wp2_with fail
            refine (HHb.out _).mono ?_
            rintro e w3 ⟨rfl, rfl⟩
            go_wp2
            go_ret
            exact ⟨rfl, HB2.out⟩
          | true =>
            rw [Bool.and_true] at hr
            have d60 : decide ((b.size : Int) ≤ 60) = r := by rw [← hr, decide_eq_decide]; omega
            clear hr
            go_enter Tryz.func49, Tryz.ntmps49
            go_wp2_with fail
            refine HP.out.mono ?_
            rintro e w2 ⟨rfl, hb2⟩
            have HB2 := Num.hide (HB0.out.trans (hb2.mono HB0.out.size))
            obtain ⟨k0, k2⟩ := FIN.out _ hb2
            clear hb2 HP he
            go_wp2_with fail
            refine (HHb.out _).mono ?_
            rintro e w3 ⟨rfl, rfl⟩
            go_wp2
            go_ret
            exact ⟨rfl, HB2.out⟩
end Msg
end Go.Proofs.YtbcjpjhpobmpbaaGreatDoor
