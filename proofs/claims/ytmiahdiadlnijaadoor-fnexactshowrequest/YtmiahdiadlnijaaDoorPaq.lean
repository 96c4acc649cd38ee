/-
  ValueImpl: IsValueText of the program: what the call returns, for every text; what was there stays.
  LowerImpl: isUpper and Lower of the program: what the calls return, for every byte and every text; what was there stays.
  FldOkImpl: isNameText, fieldOk and FieldsOk of the program: what the calls return, where the table of signs holds what it is laid with; what was there stays.
-/
import Derived.Test.YtmiahdiadlnijaaDoorValueSpec
import Derived.Test.YtmiahdiadlnijaaDoorPap
import Derived.Test.YtmiahdiadlnijaaDoorLowerNum
import Derived.Test.YtmiahdiadlnijaaDoorUpperImpl
import Derived.Test.YtmiahdiadlnijaaDoorFldsOkSpec
import Derived.Test.YtmiahdiadlnijaaDoorTokenImpl
namespace Go.Proofs.YtmiahdiadlnijaaDoor
open Go.RowKit
set_option linter.unusedVariables false
namespace Sign

set_option maxRecDepth 100000 in
set_option maxHeartbeats 1000000 in
theorem value_impl (s : ByteArray) (w : World) (hs : s.size ≤ 281474976710656) : Calls Tryd.prog 71 #[.string s] w fun e w' => e = .returned (.bool (isVal s)) ∧ Below w.heap.size w w' := by
  have HS := Num.hide hs
  obtain ⟨r, hr⟩ : ∃ r, isVal s = r := ⟨_, rfl⟩
  rw [hr]
  have HR := Num.hide hr
  clear hr
  go_enter Tryd.func71, Tryd.ntmps71
  go_wp2
  go_loop [6] (fun i => ∃ k : Nat, k ≤ s.size ∧ i = .int .i64 k ∧ (s.data.toList.take k).all (fun b => decide (val (b.toNat : Int))) = true) (fun i => s.size - (intOf i).toNat)
  case atStart => exact ⟨0, by omega, rfl, by simp⟩
  case round =>
    obtain ⟨k, hk, rfl, hall⟩ := hrel
    have HA := Num.hide hall
    clear hall
    by_cases hlt : k < s.size
    · have hstep := Num.hide (all_take s (fun b => decide (val (b.toNat : Int))) k hlt)
      have hn := Num.hide (fun h => not_all s (fun b => decide (val (b.toNat : Int))) k hlt h)
      by_cases hv : val (s[k].toNat : Int)
      · have hd := Num.hide (show decide (val (s[k].toNat : Int)) = true from decide_eq_true hv)
        unfold val at hv
        have d127 : ((s[k].toNat : Int) == 127) = false := by rw [beq_eq_false_iff_ne]; omega
        by_cases h9 : (s[k].toNat : Int) = 9
        · have d9 : ((s[k].toNat : Int) != 9) = false := by rw [h9]; rfl
          have d32 : decide ((s[k].toNat : Int) < 32) = true := by simp; omega
          clear hv h9
          go_wp2
          all_goals go_round
          case rel => exact ⟨k + 1, by omega, by go_num, by rw [Num.unhide hstep, Num.unhide HA, Num.unhide hd]; rfl⟩
          case measure => simp [intOf]; omega
        · have d32 : decide ((s[k].toNat : Int) < 32) = false := by simp; omega
          clear hv h9
          go_wp2
          all_goals go_round
          case rel => exact ⟨k + 1, by omega, by go_num, by rw [Num.unhide hstep, Num.unhide HA, Num.unhide hd]; rfl⟩
          case measure => simp [intOf]; omega
      · have hf : isVal s = false := by
          unfold isVal
          rw [Num.unhide hn (decide_eq_false hv), Bool.false_and]
        rw [Num.unhide HR] at hf
        have HF := Num.hide hf
        clear hf
        unfold val at hv
        have d9 : ((s[k].toNat : Int) != 9) = true := bne_iff_ne.2 (by omega)
        by_cases h32 : (s[k].toNat : Int) < 32
        · have d32 : decide ((s[k].toNat : Int) < 32) = true := decide_eq_true h32
          clear hv h32
          go_wp2
          all_goals go_ret
          all_goals exact ⟨by rw [Num.unhide HF]; rfl, Below.refl _ _⟩
        · have d32 : decide ((s[k].toNat : Int) < 32) = false := decide_eq_false h32
          have d127 : ((s[k].toNat : Int) == 127) = true := by rw [beq_iff_eq]; omega
          clear hv h32
          go_wp2
          all_goals go_ret
          all_goals exact ⟨by rw [Num.unhide HF]; rfl, Below.refl _ _⟩
    · obtain rfl : k = s.size := by omega
      have hr := Num.unhide HR
      unfold isVal at hr
      rw [all_full s _ (Num.unhide HA), Bool.true_and] at hr
      have HR2 := Num.hide hr
      clear hr
      go_wp2_with (go_at_call 78; refine (trim_impl _ _ (Num.unhide HS)).mono ?_; rintro e w' ⟨rfl, hb⟩)
      go_ret
      exact ⟨by rw [← Num.unhide HR2]; rfl, hb⟩
end Sign
end Go.Proofs.YtmiahdiadlnijaaDoor
namespace Go.Proofs.YtmiahdiadlnijaaDoor
open Go.RowKit
set_option linter.unusedVariables false
namespace Sign

theorem u8_add (c : Int) (h0 : 65 ≤ c) (h1 : c ≤ 90) : IntKind.u8.wrap (c + 32) = c + 32 := by
  rw [IntKind.wrap_u8]; omega

set_option maxRecDepth 100000 in
set_option maxHeartbeats 1000000 in
theorem lower_impl (s : ByteArray) (w : World) (hs : s.size ≤ maxLen) : Calls Tryd.prog 77 #[.string s] w fun e w' => e = .returned (.string (lower s)) ∧ Below w.heap.size w w' := by
  unfold maxLen at hs
  have hconv := Lib.run_convert_string_bytes (P := Tryd.prog) w 9 65 5 s (u := .string) Tryd.underlying9 Tryd.underlying65 Tryd.underlying5
  have hP := Num.hide (bytes_part w 5 s)
  have hB := Num.hide (bytes_below w 5 s)
  generalize Lib.bytesWorld w 5 s = W0 at hconv hP hB
  generalize grownCap w s.size 0 5 = cap at hconv
  go_enter Tryd.func77, Tryd.ntmps77
  go_wp2
  clear hconv
  go_loopw [10] (fun i W => ∃ k : Nat, k ≤ s.size ∧ i = .int .i64 k ∧ Hid (Part w.heap.size s k W) ∧ Hid (Below w.heap.size w W)) (fun i _ => s.size - (intOf i).toNat)
  case atStart => exact ⟨0, by omega, rfl, hP, hB⟩
  case round =>
    clear hP hB
    obtain ⟨k, hk, rfl, hP, hB⟩ := hrel
    by_cases hlt : k < s.size
    · have hcell := hP.out.todo k hlt (Nat.le_refl _)
      have hfree := hP.out.free k hlt
      by_cases hu : up (s[k].toNat : Int)
      · have hut := Num.hide (decide_eq_true hu)
        have hP2 := Num.hide (part_up hP.out hlt hu)
        have hw := u8_add _ hu.1 hu.2
        clear hu
        go_wp2_with (go_at_call 67; refine (isUpper_any _ _).mono ?_; rintro e w' ⟨rfl, rfl⟩; rw [Num.unhide hut])
        go_roundw
        case rel => exact ⟨k + 1, by omega, by go_num, hP2, Num.hide (hB.out.setCell (Nat.le_refl _) _)⟩
        case measure => simp [intOf]; omega
      · have hut := Num.hide (decide_eq_false hu)
        have hP2 := Num.hide (part_no hP.out hlt hu)
        clear hu
        go_wp2_with (go_at_call 67; refine (isUpper_any _ _).mono ?_; rintro e w' ⟨rfl, rfl⟩; rw [Num.unhide hut])
        go_roundw
        case rel => exact ⟨k + 1, by omega, by go_num, hP2, hB⟩
        case measure => simp [intOf]; omega
    · obtain rfl : k = s.size := by omega
      have hback := part_back hP.out cap
      go_wp2
      go_ret
      exact ⟨rfl, hB.out⟩
end Sign
end Go.Proofs.YtmiahdiadlnijaaDoor
namespace Go.Proofs.YtmiahdiadlnijaaDoor
open Go.RowKit
set_option linter.unusedVariables false
namespace Flds

theorem signs_below {w w' : World} {B : Nat} (h : Sign.Signs w) (hb : Below B w w') (hB : 0 < B) : Sign.Signs w' := fun i hi => (hb.cell (p := ⟨0, i, none⟩) hB).trans (h i hi)
theorem signs_lt {w : World} (h : Sign.Signs w) : 0 < w.heap.size := Recs.lt_of_cell (h 0 (by decide))
theorem max_of {l : List Fld} (hl : bulk l ≤ 1048576) : ∀ f ∈ l, f.1.size ≤ maxLen ∧ f.2.size ≤ maxLen := by
  intro f hf
  obtain ⟨i, hi, rfl⟩ := List.getElem_of_mem hf
  have h3 := bulk_take l i hi
  have h4 := bulk_le l (i + 1)
  unfold bulk at hl; unfold maxLen
  omega
/-- is it a right name? -/
def isName (s : ByteArray) : Bool := decide (s.size ≤ 24) && Sign.isTok s && decide (Sign.lower s = s)
set_option maxRecDepth 100000 in
set_option maxHeartbeats 2000000 in
theorem name_impl (s : ByteArray) (w : World) (hs : s.size ≤ maxLen) (hS : Sign.Signs w) : Calls Tryd.prog 70 #[.string s] w fun e w' => e = .returned (.bool (isName s)) ∧ Below w.heap.size w w' := by
  have HT := Num.hide (Sign.isTok_impl s w hs hS)
  have HL := Num.hide (fun W => Sign.lower_impl s W hs)
  obtain ⟨r, hr⟩ : ∃ r, isName s = r := ⟨_, rfl⟩
  rw [hr]
  unfold isName at hr
  generalize Sign.lower s = ls at HL hr
  generalize Sign.isTok s = bt at HT hr
  unfold maxLen at hs
  clear hS
  by_cases h24 : s.size ≤ 24
  · rw [decide_eq_true h24, Bool.true_and] at hr
    cases bt with
    | false =>
      rw [Bool.false_and] at hr
      subst hr
      go_enter Tryd.func70, Tryd.ntmps70
      go_wp2_with (go_at_call 45; refine (Num.unhide HT).mono ?_; rintro e w1 ⟨rfl, rfl⟩)
      go_ret
      exact ⟨rfl, Below.refl _ _⟩
    | true =>
      rw [Bool.true_and] at hr
      by_cases he : ls = s
      · rw [decide_eq_true he] at hr
        subst hr he
        go_enter Tryd.func70, Tryd.ntmps70
        go_wp2_with (first | (go_at_call 45; refine (Num.unhide HT).mono ?_; rintro e w1 ⟨rfl, rfl⟩) | (go_at_call 77; refine (Num.unhide HL _).mono ?_; rintro e w2 ⟨rfl, hb2⟩))
        go_ret
        exact ⟨rfl, hb2⟩
      · rw [decide_eq_false he] at hr
        subst hr
        have d := text_eq he
        clear he
        go_enter Tryd.func70, Tryd.ntmps70
        go_wp2_with (first | (go_at_call 45; refine (Num.unhide HT).mono ?_; rintro e w1 ⟨rfl, rfl⟩) | (go_at_call 77; refine (Num.unhide HL _).mono ?_; rintro e w2 ⟨rfl, hb2⟩))
        go_ret
        exact ⟨rfl, hb2⟩
  · rw [decide_eq_false h24, Bool.false_and, Bool.false_and] at hr
    subst hr
    go_enter Tryd.func70, Tryd.ntmps70
    go_wp2
    go_ret
    exact ⟨rfl, Below.refl _ _⟩
theorem okF_name (f : Fld) : okF f = (isName f.1 && decide (f.2.size ≤ 60) && Sign.isVal f.2) := by
  unfold okF isName
  rw [show decide (f.1 = Sign.lower f.1) = decide (Sign.lower f.1 = f.1) from by rw [decide_eq_decide]; exact ⟨Eq.symm, Eq.symm⟩]
  generalize Sign.isTok f.1 = a
  generalize decide (Sign.lower f.1 = f.1) = b
  generalize decide (f.1.size ≤ 24) = c
  generalize Sign.isVal f.2 = d
  generalize decide (f.2.size ≤ 60) = e
  cases a <;> cases b <;> cases c <;> cases d <;> cases e <;> rfl
set_option maxRecDepth 100000 in
set_option maxHeartbeats 2000000 in
theorem okF_impl (x y : ByteArray) (w : World) (hx : x.size ≤ maxLen) (hy : y.size ≤ maxLen) (hS : Sign.Signs w) : Calls Tryd.prog 57 #[.agg #[.string x, .string y]] w fun e w' => e = .returned (.bool (okF (x, y))) ∧ Below w.heap.size w w' := by
  have hlt := signs_lt hS
  have HB0 := Num.hide ((Below.refl w.heap.size w).alloc (Nat.le_refl _) (.cells #[.string x, .string y] 60))
  have HN := Num.hide (name_impl x (w.alloc (.cells #[.string x, .string y] 60)) hx (signs_below hS HB0.out hlt))
  rw [okF_name]
  simp only
  generalize isName x = bn at HN
  unfold maxLen at hx hy
  clear hS
  cases bn with
  | false =>
    rw [Bool.false_and, Bool.false_and]
    go_enter Tryd.func57, Tryd.ntmps57
    go_wp2_with (go_at_call 70; refine (Num.unhide HN).mono ?_; rintro e w1 ⟨rfl, hb1⟩; have HB1 := Num.hide (HB0.out.trans (hb1.mono (by simp))); clear hb1)
    go_ret
    exact ⟨rfl, HB1.out⟩
  | true =>
    rw [Bool.true_and]
    by_cases h60 : y.size ≤ 60
    · have HV := Num.hide (fun W => Sign.value_impl y W (by omega))
      rw [decide_eq_true h60, Bool.true_and]
      generalize Sign.isVal y = bv at HV
      go_enter Tryd.func57, Tryd.ntmps57
      go_wp2_with fail
      refine (Num.unhide HN).mono ?_
      rintro e w1 ⟨rfl, hb1⟩
      have c0 : w1.cell? ⟨w.heap.size, 1, none⟩ = some (.string y) := by rw [hb1.cell (p := ⟨w.heap.size, 1, none⟩) (by simp)]; simp
      have HB1 := Num.hide (HB0.out.trans (hb1.mono (by simp)))
      clear hb1 HB0
      go_wp2_with fail
      refine (Num.unhide HV _).mono ?_
      rintro e w2 ⟨rfl, hb2⟩
      have HB2 := Num.hide (HB1.out.trans (hb2.mono HB1.out.size))
      clear hb2 HB1
      go_wp2
      go_ret
      exact ⟨rfl, HB2.out⟩
    · rw [decide_eq_false h60, Bool.false_and]
      go_enter Tryd.func57, Tryd.ntmps57
      go_wp2_with fail
      refine (Num.unhide HN).mono ?_
      rintro e w1 ⟨rfl, hb1⟩
      have c0 : w1.cell? ⟨w.heap.size, 1, none⟩ = some (.string y) := by rw [hb1.cell (p := ⟨w.heap.size, 1, none⟩) (by simp)]; simp
      have HB1 := Num.hide (HB0.out.trans (hb1.mono (by simp)))
      clear hb1 HB0
      go_wp2
      go_ret
      exact ⟨rfl, HB1.out⟩
theorem ok_long (l : List Fld) (h : ¬ l.length ≤ 12) : ok l = false := by unfold ok; rw [decide_eq_false h, Bool.and_false]
theorem ok_all {l : List Fld} (h : l.length ≤ 12) (ha : l.all okF = true) : ok l = true := by unfold ok; rw [ha, decide_eq_true h]; rfl
set_option maxRecDepth 100000 in
set_option maxHeartbeats 1000000 in
theorem ok_impl (v : Value) (l : List Fld) (w : World) (h : Is w v l) (hz : ∀ f ∈ l, f.1.size ≤ maxLen ∧ f.2.size ≤ maxLen) (hS : Sign.Signs w) :
    Calls Tryd.prog 46 #[v] w fun e w' => e = .returned (.bool (ok l)) ∧ Below w.heap.size w w' := by
  obtain ⟨a, c, rfl, h2⟩ := is_form h
  have HA := Num.hide h2
  have HZ := Num.hide hz
  have HS := Num.hide hS
  have hlt := signs_lt hS
  clear h h2 hz hS
  obtain ⟨r, hr⟩ : ∃ r, ok l = r := ⟨_, rfl⟩
  rw [hr]
  have HR := Num.hide hr
  clear hr
  have hlen : l.length ≤ 9223372036854775807 := by
    by_cases h0 : 0 < l.length
    · obtain ⟨b, o, _, h3, h4, _⟩ := HA.out h0
      unfold maxLen at h4; omega
    · omega
  by_cases h12 : l.length ≤ 12
  · go_enter Tryd.func46, Tryd.ntmps46
    go_wp2
    go_loopw [10] (fun iv wr => ∃ i : Nat, i ≤ l.length ∧ iv = .int .i64 (i : Int) ∧ Hid ((l.take i).all okF = true) ∧ Hid (Below w.heap.size w wr)) (fun iv _ => l.length - (intOf iv).toNat)
    case atStart => exact ⟨0, by omega, rfl, rfl, Below.refl _ _⟩
    case round =>
      obtain ⟨i, hi, rfl, HT, HB⟩ := hrel
      by_cases hlt2 : i < l.length
      · obtain ⟨bk, o, rfl, hc, hmx, hblt, hcell⟩ := Num.unhide HA (by omega)
        obtain ⟨g1, g2⟩ := hcell i hlt2
        have c1 : wr.cell? ⟨bk, o + i * 2, none⟩ = some (.string l[i].1) := by rw [HB.out.cell (p := ⟨bk, o + i * 2, none⟩) hblt]; exact g1
        have c2 : wr.cell? ⟨bk, o + i * 2 + 1, none⟩ = some (.string l[i].2) := by rw [HB.out.cell (p := ⟨bk, o + i * 2 + 1, none⟩) hblt]; exact g2
        have hz := Num.unhide HZ l[i] (List.getElem_mem hlt2)
        have HM := Num.hide (all_more l i hlt2)
        have HN := Num.hide (fun hf => not_ok l i hlt2 hf)
        have hsz := HB.out.size
        have HBa := Num.hide (HB.out.alloc hsz (.cells #[.string l[i].1, .string l[i].2] 60))
        clear hcell g1 g2
        generalize l[i] = f at c1 c2 hz HM HN HBa
        obtain ⟨x, y⟩ := f
        simp only at c1 c2 hz HBa
        have HO := Num.hide (okF_impl x y (wr.alloc (.cells #[.string x, .string y] 60)) hz.1 hz.2 (signs_below HS.out HBa.out hlt))
        generalize okF (x, y) = bo at HO HM HN
        cases bo with
        | true =>
          have HT2 : Hid ((l.take (i + 1)).all okF = true) := by show _ = _; rw [HM.out, HT.out]; rfl
          go_wp2_with fail
          refine (Num.unhide HO).mono ?_
          rintro e w1 ⟨rfl, hb1⟩
          have HB1 := Num.hide (HBa.out.trans (hb1.mono (by simp; omega)))
          clear hb1 HB HBa c1 c2
          go_wp2
          go_roundw
          case rel => exact ⟨i + 1, by omega, by go_num, HT2, HB1⟩
          case measure => simp [intOf]; omega
        | false =>
          obtain rfl : r = false := by rw [← HR.out]; exact HN.out rfl
          go_wp2_with fail
          refine (Num.unhide HO).mono ?_
          rintro e w1 ⟨rfl, hb1⟩
          have HB1 := Num.hide (HBa.out.trans (hb1.mono (by simp; omega)))
          clear hb1 HB HBa c1 c2
          go_wp2
          go_ret
          exact ⟨rfl, HB1.out⟩
      · obtain rfl : i = l.length := by omega
        have ht := HT.out
        rw [List.take_of_length_le (Nat.le_refl _)] at ht
        obtain rfl : r = true := by rw [← HR.out]; exact ok_all h12 ht
        clear ht
        go_wp2
        go_ret
        exact ⟨rfl, HB.out⟩
  · obtain rfl : r = false := by rw [← HR.out]; exact ok_long l h12
    go_enter Tryd.func46, Tryd.ntmps46
    go_wp2
    go_ret
    exact ⟨rfl, Below.refl _ _⟩
end Flds
end Go.Proofs.YtmiahdiadlnijaaDoor
