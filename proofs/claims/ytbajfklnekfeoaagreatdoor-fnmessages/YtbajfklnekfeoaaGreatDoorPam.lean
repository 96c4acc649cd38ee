/-
  TrimImpl: Trim of the program: what the call returns, for every text; what was there stays.
  ValueImpl: IsValueText of the program: what the call returns, for every text; what was there stays.
  LowerImpl: isUpper and Lower of the program: what the calls return, for every byte and every text; what was there stays.
  FldOkImpl: isNameText, fieldOk and FieldsOk of the program: what the calls return, where the table of signs holds what it is laid with; what was there stays.
  OwnImpl: withoutFraming and ownFieldsOk of the program: fields without those that say how long a body is.
  ReqOkImpl: methodOk and RequestOk of the program: is a request right?
  FldSetImpl: FieldSet of the program: a field is set, in a row of the call's own; what was there stays.
-/
import Derived.Test.YtbajfklnekfeoaaGreatDoorPal
import Derived.Test.YtbajfklnekfeoaaGreatDoorTrimSpec
import Derived.Shelf.Strings.SlTrimAscii
import Derived.Test.YtbajfklnekfeoaaGreatDoorValueSpec
import Derived.Test.YtbajfklnekfeoaaGreatDoorLowerNum
import Derived.Test.YtbajfklnekfeoaaGreatDoorUpperImpl
import Derived.Test.YtbajfklnekfeoaaGreatDoorFldsOkSpec
import Derived.Test.YtbajfklnekfeoaaGreatDoorTokenImpl
import Derived.Test.YtbajfklnekfeoaaGreatDoorPak
import Derived.Test.YtbajfklnekfeoaaGreatDoorPac
namespace Go.Proofs.YtbajfklnekfeoaaGreatDoor
open Go.Shelf Go.RowKit
set_option linter.unusedVariables false
namespace Sign

theorem right_cons (p : UInt8 → Bool) (c : UInt8) (l : List UInt8) : ((c :: l).reverse.dropWhile p).reverse = if (l.reverse.dropWhile p).isEmpty then (if p c then [] else [c]) else c :: (l.reverse.dropWhile p).reverse := by
  rw [List.reverse_cons, List.dropWhile_append]
  by_cases h : (l.reverse.dropWhile p).isEmpty = true
  · rw [if_pos h, if_pos h]
    by_cases hc : p c = true
    · rw [if_pos hc, List.dropWhile_cons_of_pos hc]; rfl
    · rw [if_neg hc, List.dropWhile_cons_of_neg hc]; rfl
  · rw [if_neg h, if_neg h, List.reverse_append]; rfl
theorem left_right (p : UInt8 → Bool) (l : List UInt8) : ((l.reverse.dropWhile p).reverse).dropWhile p = ((l.dropWhile p).reverse.dropWhile p).reverse := by
  induction l with
  | nil => rfl
  | cons c l ih =>
    rw [right_cons]
    by_cases hc : p c = true
    · rw [List.dropWhile_cons_of_pos hc, ← ih, if_pos hc]
      by_cases h : (l.reverse.dropWhile p).isEmpty = true
      · rw [if_pos h, List.isEmpty_iff.1 h]; rfl
      · rw [if_neg h, List.dropWhile_cons_of_pos hc]
    · rw [List.dropWhile_cons_of_neg hc, right_cons, if_neg hc]
      by_cases h : (l.reverse.dropWhile p).isEmpty = true
      · rw [if_pos h, List.dropWhile_cons_of_neg hc]
      · rw [if_neg h, List.dropWhile_cons_of_neg hc]
theorem bl_contains (b : UInt8) : ([32, 9] : List UInt8).contains b = bl b := by
  unfold bl
  have e : (([32, 9] : List UInt8).contains b = true) ↔ blank (b.toNat : Int) := by
    rw [List.contains_iff_mem, List.mem_cons, List.mem_singleton, ← UInt8.toNat_inj, ← UInt8.toNat_inj]
    unfold blank; simp; omega
  rw [Bool.eq_iff_iff, decide_eq_true_iff]; exact e
theorem trimS_eq (s : ByteArray) : (⟨(Lib.trimS s.data.toList [32, 9]).toArray⟩ : ByteArray) = trim s := by
  unfold trim Lib.trimS Lib.trimLeftS Lib.trimRightS
  have e : (fun b => ([32, 9] : List UInt8).contains b) = bl := funext bl_contains
  rw [e, left_right]
theorem size_trim (s : ByteArray) : (trim s).size ≤ s.size := by
  show ((s.data.toList.dropWhile bl).reverse.dropWhile bl).reverse.toArray.size ≤ s.size
  rw [List.size_toArray, List.length_reverse]
  have h1 := (List.dropWhile_sublist bl (l := (s.data.toList.dropWhile bl).reverse)).length_le
  have h2 := (List.dropWhile_sublist bl (l := s.data.toList)).length_le
  rw [List.length_reverse] at h1
  have e : s.data.toList.length = s.size := by rw [Array.length_toList]; rfl
  omega
theorem strings_trim (s : ByteArray) (w : World) (hs : s.size ≤ maxLen) :
    Calls Tryz.prog 202 #[.string s, .string ⟨#[32, 9]⟩] w fun e w' => e = .returned (.string (trim s)) ∧ Below w.heap.size w w' := by
  have h := Any.strings_Trim_laid Shelf.lays160 (by kernel_rfl) s ⟨#[32, 9]⟩ w (by unfold maxLen at hs; omega) (by decide) (ascii_of_all (by decide))
  rw [← trimS_eq]
  exact h
set_option maxHeartbeats 1000000 in
theorem trim_impl (s : ByteArray) (w : World) (hs : s.size ≤ 281474976710656) :
    Calls Tryz.prog 196 #[.string s] w fun e w' => e = .returned (.string (trim s)) ∧ Below w.heap.size w w' := by
  have HS := Num.hide (fun W => strings_trim s W (by unfold maxLen; omega))
  have hz := size_trim s
  generalize trim s = t at HS hz ⊢
  go_enter Tryz.func196, Tryz.ntmps196
  go_wp2_with fail
  refine (HS.out _).mono ?_
  rintro e w1 ⟨rfl, hb1⟩
  go_wp2_with fail
  refine (Shelf.clone t _ (by omega)).mono ?_
  rintro e w2 ⟨rfl, hb2⟩
  go_wp2
  go_ret
  exact ⟨rfl, hb1.trans (hb2.mono hb1.size)⟩
end Sign
end Go.Proofs.YtbajfklnekfeoaaGreatDoor
namespace Go.Proofs.YtbajfklnekfeoaaGreatDoor
open Go.RowKit
set_option linter.unusedVariables false
namespace Sign

set_option maxRecDepth 100000 in
set_option maxHeartbeats 1000000 in
theorem value_impl (s : ByteArray) (w : World) (hs : s.size ≤ 281474976710656) : Calls Tryz.prog 181 #[.string s] w fun e w' => e = .returned (.bool (isVal s)) ∧ Below w.heap.size w w' := by
  have HS := Num.hide hs
  obtain ⟨r, hr⟩ : ∃ r, isVal s = r := ⟨_, rfl⟩
  rw [hr]
  have HR := Num.hide hr
  clear hr
  go_enter Tryz.func181, Tryz.ntmps181
  go_wp2
  go_loop [6] (fun i => ∃ k : Nat, k ≤ s.size ∧ i = .int .i64 k ∧ (s.data.toList.take k).all (fun b => decide (val (b.toNat : Int))) = true) (fun i => s.size - (intOf i).toNat)
  case atStart => exact ⟨0, by omega, rfl, by simp⟩
  case round =>
    obtain ⟨k, hk, rfl, hall⟩ := hrel
    have HA := Num.hide hall
    clear hall
    by_cases hlt : k < s.size
    · have hstep := Num.hide (all_take s (fun b => decide (val (b.toNat : Int))) k hlt)
      have hn := Num.hide (fun h => not_all s (fun b => decide (val (b.toNat : Int))) k hlt h)
      by_cases hv : val (s[k].toNat : Int)
      · have hd := Num.hide (show decide (val (s[k].toNat : Int)) = true from decide_eq_true hv)
        unfold val at hv
        have d127 : ((s[k].toNat : Int) == 127) = false := by rw [beq_eq_false_iff_ne]; omega
        by_cases h9 : (s[k].toNat : Int) = 9
        · have d9 : ((s[k].toNat : Int) != 9) = false := by rw [h9]; rfl
          have d32 : decide ((s[k].toNat : Int) < 32) = true := by simp; omega
          clear hv h9
          go_wp2
          all_goals go_round
          case rel => exact ⟨k + 1, by omega, by go_num, by rw [Num.unhide hstep, Num.unhide HA, Num.unhide hd]; rfl⟩
          case measure => simp [intOf]; omega
        · have d32 : decide ((s[k].toNat : Int) < 32) = false := by simp; omega
          clear hv h9
          go_wp2
          all_goals go_round
          case rel => exact ⟨k + 1, by omega, by go_num, by rw [Num.unhide hstep, Num.unhide HA, Num.unhide hd]; rfl⟩
          case measure => simp [intOf]; omega
      · have hf : isVal s = false := by
          unfold isVal
          rw [Num.unhide hn (decide_eq_false hv), Bool.false_and]
        rw [Num.unhide HR] at hf
        have HF := Num.hide hf
        clear hf
        unfold val at hv
        have d9 : ((s[k].toNat : Int) != 9) = true := bne_iff_ne.2 (by omega)
        by_cases h32 : (s[k].toNat : Int) < 32
        · have d32 : decide ((s[k].toNat : Int) < 32) = true := decide_eq_true h32
          clear hv h32
          go_wp2
          all_goals go_ret
          all_goals exact ⟨by rw [Num.unhide HF]; rfl, Below.refl _ _⟩
        · have d32 : decide ((s[k].toNat : Int) < 32) = false := decide_eq_false h32
          have d127 : ((s[k].toNat : Int) == 127) = true := by rw [beq_iff_eq]; omega
          clear hv h32
          go_wp2
          all_goals go_ret
          all_goals exact ⟨by rw [Num.unhide HF]; rfl, Below.refl _ _⟩
    · obtain rfl : k = s.size := by omega
      have hr := Num.unhide HR
      unfold isVal at hr
      rw [all_full s _ (Num.unhide HA), Bool.true_and] at hr
      have HR2 := Num.hide hr
      clear hr
      go_wp2_with (go_at_call 196; refine (trim_impl _ _ (Num.unhide HS)).mono ?_; rintro e w' ⟨rfl, hb⟩)
      go_ret
      exact ⟨by rw [← Num.unhide HR2]; rfl, hb⟩
end Sign
end Go.Proofs.YtbajfklnekfeoaaGreatDoor
namespace Go.Proofs.YtbajfklnekfeoaaGreatDoor
open Go.RowKit
set_option linter.unusedVariables false
namespace Sign

theorem u8_add (c : Int) (h0 : 65 ≤ c) (h1 : c ≤ 90) : IntKind.u8.wrap (c + 32) = c + 32 := by
  rw [IntKind.wrap_u8]; omega

set_option maxRecDepth 100000 in
set_option maxHeartbeats 1000000 in
theorem lower_impl (s : ByteArray) (w : World) (hs : s.size ≤ maxLen) : Calls Tryz.prog 91 #[.string s] w fun e w' => e = .returned (.string (lower s)) ∧ Below w.heap.size w w' := by
  unfold maxLen at hs
  have hconv := Lib.run_convert_string_bytes (P := Tryz.prog) w 9 22 5 s (u := .string) Tryz.underlying9 Tryz.underlying22 Tryz.underlying5
  have hP := Num.hide (bytes_part w 5 s)
  have hB := Num.hide (bytes_below w 5 s)
  generalize Lib.bytesWorld w 5 s = W0 at hconv hP hB
  generalize grownCap w s.size 0 5 = cap at hconv
  go_enter Tryz.func91, Tryz.ntmps91
  go_wp2
  clear hconv
  go_loopw [10] (fun i W => ∃ k : Nat, k ≤ s.size ∧ i = .int .i64 k ∧ Hid (Part w.heap.size s k W) ∧ Hid (Below w.heap.size w W)) (fun i _ => s.size - (intOf i).toNat)
  case atStart => exact ⟨0, by omega, rfl, hP, hB⟩
  case round =>
    clear hP hB
    obtain ⟨k, hk, rfl, hP, hB⟩ := hrel
    by_cases hlt : k < s.size
    · have hcell := hP.out.todo k hlt (Nat.le_refl _)
      have hfree := hP.out.free k hlt
      by_cases hu : up (s[k].toNat : Int)
      · have hut := Num.hide (decide_eq_true hu)
        have hP2 := Num.hide (part_up hP.out hlt hu)
        have hw := u8_add _ hu.1 hu.2
        clear hu
        go_wp2_with (go_at_call 147; refine (isUpper_any _ _).mono ?_; rintro e w' ⟨rfl, rfl⟩; rw [Num.unhide hut])
        go_roundw
        case rel => exact ⟨k + 1, by omega, by go_num, hP2, Num.hide (hB.out.setCell (Nat.le_refl _) _)⟩
        case measure => simp [intOf]; omega
      · have hut := Num.hide (decide_eq_false hu)
        have hP2 := Num.hide (part_no hP.out hlt hu)
        clear hu
        go_wp2_with (go_at_call 147; refine (isUpper_any _ _).mono ?_; rintro e w' ⟨rfl, rfl⟩; rw [Num.unhide hut])
        go_roundw
        case rel => exact ⟨k + 1, by omega, by go_num, hP2, hB⟩
        case measure => simp [intOf]; omega
    · obtain rfl : k = s.size := by omega
      have hback := part_back hP.out cap
      go_wp2
      go_ret
      exact ⟨rfl, hB.out⟩
end Sign
end Go.Proofs.YtbajfklnekfeoaaGreatDoor
namespace Go.Proofs.YtbajfklnekfeoaaGreatDoor
open Go.RowKit
set_option linter.unusedVariables false
namespace Flds

theorem signs_below {w w' : World} {B : Nat} (h : Sign.Signs w) (hb : Below B w w') (hB : 5 < B) : Sign.Signs w' := fun i hi => (hb.cell (p := ⟨5, i, none⟩) hB).trans (h i hi)
theorem signs_lt {w : World} (h : Sign.Signs w) : 5 < w.heap.size := Recs.lt_of_cell (h 0 (by decide))
theorem max_of {l : List Fld} (hl : bulk l ≤ 1048576) : ∀ f ∈ l, f.1.size ≤ maxLen ∧ f.2.size ≤ maxLen := by
  intro f hf
  obtain ⟨i, hi, rfl⟩ := List.getElem_of_mem hf
  have h3 := bulk_take l i hi
  have h4 := bulk_le l (i + 1)
  unfold bulk at hl; unfold maxLen
  omega
/-- is it a right name? -/
def isName (s : ByteArray) : Bool := decide (s.size ≤ 24) && Sign.isTok s && decide (Sign.lower s = s)
set_option maxRecDepth 100000 in
set_option maxHeartbeats 2000000 in
theorem name_impl (s : ByteArray) (w : World) (hs : s.size ≤ maxLen) (hS : Sign.Signs w) : Calls Tryz.prog 180 #[.string s] w fun e w' => e = .returned (.bool (isName s)) ∧ Below w.heap.size w w' := by
  have HT := Num.hide (Sign.isTok_impl s w hs hS)
  have HL := Num.hide (fun W => Sign.lower_impl s W hs)
  obtain ⟨r, hr⟩ : ∃ r, isName s = r := ⟨_, rfl⟩
  rw [hr]
  unfold isName at hr
  generalize Sign.lower s = ls at HL hr
  generalize Sign.isTok s = bt at HT hr
  unfold maxLen at hs
  clear hS
  by_cases h24 : s.size ≤ 24
  · rw [decide_eq_true h24, Bool.true_and] at hr
    cases bt with
    | false =>
      rw [Bool.false_and] at hr
      subst hr
      go_enter Tryz.func180, Tryz.ntmps180
      go_wp2_with (go_at_call 150; refine (Num.unhide HT).mono ?_; rintro e w1 ⟨rfl, rfl⟩)
      go_ret
      exact ⟨rfl, Below.refl _ _⟩
    | true =>
      rw [Bool.true_and] at hr
      by_cases he : ls = s
      · rw [decide_eq_true he] at hr
        subst hr he
        go_enter Tryz.func180, Tryz.ntmps180
        go_wp2_with (first | (go_at_call 150; refine (Num.unhide HT).mono ?_; rintro e w1 ⟨rfl, rfl⟩) | (go_at_call 91; refine (Num.unhide HL _).mono ?_; rintro e w2 ⟨rfl, hb2⟩))
        go_ret
        exact ⟨rfl, hb2⟩
      · rw [decide_eq_false he] at hr
        subst hr
        have d := text_eq he
        clear he
        go_enter Tryz.func180, Tryz.ntmps180
        go_wp2_with (first | (go_at_call 150; refine (Num.unhide HT).mono ?_; rintro e w1 ⟨rfl, rfl⟩) | (go_at_call 91; refine (Num.unhide HL _).mono ?_; rintro e w2 ⟨rfl, hb2⟩))
        go_ret
        exact ⟨rfl, hb2⟩
  · rw [decide_eq_false h24, Bool.false_and, Bool.false_and] at hr
    subst hr
    go_enter Tryz.func180, Tryz.ntmps180
    go_wp2
    go_ret
    exact ⟨rfl, Below.refl _ _⟩
theorem okF_name (f : Fld) : okF f = (isName f.1 && decide (f.2.size ≤ 60) && Sign.isVal f.2) := by
  unfold okF isName
  rw [show decide (f.1 = Sign.lower f.1) = decide (Sign.lower f.1 = f.1) from by rw [decide_eq_decide]; exact ⟨Eq.symm, Eq.symm⟩]
  generalize Sign.isTok f.1 = a
  generalize decide (Sign.lower f.1 = f.1) = b
  generalize decide (f.1.size ≤ 24) = c
  generalize Sign.isVal f.2 = d
  generalize decide (f.2.size ≤ 60) = e
  cases a <;> cases b <;> cases c <;> cases d <;> cases e <;> rfl
set_option maxRecDepth 100000 in
set_option maxHeartbeats 2000000 in
theorem okF_impl (x y : ByteArray) (w : World) (hx : x.size ≤ maxLen) (hy : y.size ≤ maxLen) (hS : Sign.Signs w) : Calls Tryz.prog 152 #[.agg #[.string x, .string y]] w fun e w' => e = .returned (.bool (okF (x, y))) ∧ Below w.heap.size w w' := by
  have hlt := signs_lt hS
  have HB0 := Num.hide ((Below.refl w.heap.size w).alloc (Nat.le_refl _) (.cells #[.string x, .string y] 36))
  have HN := Num.hide (name_impl x (w.alloc (.cells #[.string x, .string y] 36)) hx (signs_below hS HB0.out hlt))
  rw [okF_name]
  simp only
  generalize isName x = bn at HN
  unfold maxLen at hx hy
  clear hS
  cases bn with
  | false =>
    rw [Bool.false_and, Bool.false_and]
    go_enter Tryz.func152, Tryz.ntmps152
    go_wp2_with (go_at_call 180; refine (Num.unhide HN).mono ?_; rintro e w1 ⟨rfl, hb1⟩; have HB1 := Num.hide (HB0.out.trans (hb1.mono (by simp))); clear hb1)
    go_ret
    exact ⟨rfl, HB1.out⟩
  | true =>
    rw [Bool.true_and]
    by_cases h60 : y.size ≤ 60
    · have HV := Num.hide (fun W => Sign.value_impl y W (by omega))
      rw [decide_eq_true h60, Bool.true_and]
      generalize Sign.isVal y = bv at HV
      go_enter Tryz.func152, Tryz.ntmps152
      go_wp2_with fail
      refine (Num.unhide HN).mono ?_
      rintro e w1 ⟨rfl, hb1⟩
      have c0 : w1.cell? ⟨w.heap.size, 1, none⟩ = some (.string y) := by rw [hb1.cell (p := ⟨w.heap.size, 1, none⟩) (by simp)]; simp
      have HB1 := Num.hide (HB0.out.trans (hb1.mono (by simp)))
      clear hb1 HB0
      go_wp2_with fail
      refine (Num.unhide HV _).mono ?_
      rintro e w2 ⟨rfl, hb2⟩
      have HB2 := Num.hide (HB1.out.trans (hb2.mono HB1.out.size))
      clear hb2 HB1
      go_wp2
      go_ret
      exact ⟨rfl, HB2.out⟩
    · rw [decide_eq_false h60, Bool.false_and]
      go_enter Tryz.func152, Tryz.ntmps152
      go_wp2_with fail
      refine (Num.unhide HN).mono ?_
      rintro e w1 ⟨rfl, hb1⟩
      have c0 : w1.cell? ⟨w.heap.size, 1, none⟩ = some (.string y) := by rw [hb1.cell (p := ⟨w.heap.size, 1, none⟩) (by simp)]; simp
      have HB1 := Num.hide (HB0.out.trans (hb1.mono (by simp)))
      clear hb1 HB0
      go_wp2
      go_ret
      exact ⟨rfl, HB1.out⟩
theorem ok_long (l : List Fld) (h : ¬ l.length ≤ 12) : ok l = false := by unfold ok; rw [decide_eq_false h, Bool.and_false]
theorem ok_all {l : List Fld} (h : l.length ≤ 12) (ha : l.all okF = true) : ok l = true := by unfold ok; rw [ha, decide_eq_true h]; rfl
set_option maxRecDepth 100000 in
set_option maxHeartbeats 1000000 in
theorem ok_impl (v : Value) (l : List Fld) (w : World) (h : Is w v l) (hz : ∀ f ∈ l, f.1.size ≤ maxLen ∧ f.2.size ≤ maxLen) (hS : Sign.Signs w) :
    Calls Tryz.prog 98 #[v] w fun e w' => e = .returned (.bool (ok l)) ∧ Below w.heap.size w w' := by
  obtain ⟨a, c, rfl, h2⟩ := is_form h
  have HA := Num.hide h2
  have HZ := Num.hide hz
  have HS := Num.hide hS
  have hlt := signs_lt hS
  clear h h2 hz hS
  obtain ⟨r, hr⟩ : ∃ r, ok l = r := ⟨_, rfl⟩
  rw [hr]
  have HR := Num.hide hr
  clear hr
  have hlen : l.length ≤ 9223372036854775807 := by
    by_cases h0 : 0 < l.length
    · obtain ⟨b, o, _, h3, h4, _⟩ := HA.out h0
      unfold maxLen at h4; omega
    · omega
  by_cases h12 : l.length ≤ 12
  · go_enter Tryz.func98, Tryz.ntmps98
    go_wp2
    go_loopw [10] (fun iv wr => ∃ i : Nat, i ≤ l.length ∧ iv = .int .i64 (i : Int) ∧ Hid ((l.take i).all okF = true) ∧ Hid (Below w.heap.size w wr)) (fun iv _ => l.length - (intOf iv).toNat)
    case atStart => exact ⟨0, by omega, rfl, rfl, Below.refl _ _⟩
    case round =>
      obtain ⟨i, hi, rfl, HT, HB⟩ := hrel
      by_cases hlt2 : i < l.length
      · obtain ⟨bk, o, rfl, hc, hmx, hblt, hcell⟩ := Num.unhide HA (by omega)
        obtain ⟨g1, g2⟩ := hcell i hlt2
        have c1 : wr.cell? ⟨bk, o + i * 2, none⟩ = some (.string l[i].1) := by rw [HB.out.cell (p := ⟨bk, o + i * 2, none⟩) hblt]; exact g1
        have c2 : wr.cell? ⟨bk, o + i * 2 + 1, none⟩ = some (.string l[i].2) := by rw [HB.out.cell (p := ⟨bk, o + i * 2 + 1, none⟩) hblt]; exact g2
        have hz := Num.unhide HZ l[i] (List.getElem_mem hlt2)
        have HM := Num.hide (all_more l i hlt2)
        have HN := Num.hide (fun hf => not_ok l i hlt2 hf)
        have hsz := HB.out.size
        have HBa := Num.hide (HB.out.alloc hsz (.cells #[.string l[i].1, .string l[i].2] 36))
        clear hcell g1 g2
        generalize l[i] = f at c1 c2 hz HM HN HBa
        obtain ⟨x, y⟩ := f
        simp only at c1 c2 hz HBa
        have HO := Num.hide (okF_impl x y (wr.alloc (.cells #[.string x, .string y] 36)) hz.1 hz.2 (signs_below HS.out HBa.out hlt))
        generalize okF (x, y) = bo at HO HM HN
        cases bo with
        | true =>
          have HT2 : Hid ((l.take (i + 1)).all okF = true) := by show _ = _; rw [HM.out, HT.out]; rfl
          go_wp2_with fail
          refine (Num.unhide HO).mono ?_
          rintro e w1 ⟨rfl, hb1⟩
          have HB1 := Num.hide (HBa.out.trans (hb1.mono (by simp; omega)))
          clear hb1 HB HBa c1 c2
          go_wp2
          go_roundw
          case rel => exact ⟨i + 1, by omega, by go_num, HT2, HB1⟩
          case measure => simp [intOf]; omega
        | false =>
          obtain rfl : r = false := by rw [← HR.out]; exact HN.out rfl
          go_wp2_with fail
          refine (Num.unhide HO).mono ?_
          rintro e w1 ⟨rfl, hb1⟩
          have HB1 := Num.hide (HBa.out.trans (hb1.mono (by simp; omega)))
          clear hb1 HB HBa c1 c2
          go_wp2
          go_ret
          exact ⟨rfl, HB1.out⟩
      · obtain rfl : i = l.length := by omega
        have ht := HT.out
        rw [List.take_of_length_le (Nat.le_refl _)] at ht
        obtain rfl : r = true := by rw [← HR.out]; exact ok_all h12 ht
        clear ht
        go_wp2
        go_ret
        exact ⟨rfl, HB.out⟩
  · obtain rfl : r = false := by rw [← HR.out]; exact ok_long l h12
    go_enter Tryz.func98, Tryz.ntmps98
    go_wp2
    go_ret
    exact ⟨rfl, Below.refl _ _⟩
end Flds
end Go.Proofs.YtbajfklnekfeoaaGreatDoor
namespace Go.Proofs.YtbajfklnekfeoaaGreatDoor
open Go.RowKit
set_option linter.unusedVariables false
namespace Msg

set_option maxRecDepth 100000 in
set_option maxHeartbeats 2000000 in
theorem bare_impl (v : Value) (l : List Flds.Fld) (w : World) (h : Flds.Is w v l) (hl : Flds.bulk l ≤ 1048576) :
    Calls Tryz.prog 107 #[v] w fun e w' => ∃ v', e = .returned v' ∧ Flds.Own w.heap.size w' v' (bare l) ∧ Below w.heap.size w w' := by
  have HD1 := Num.hide (Flds.drop_impl v l Body.clName w h (by omega))
  have HD2 := Num.hide (fun v W h => Flds.drop_impl v (Flds.drop l Body.clName) Body.teName W h (by have := bulk_drop l Body.clName; omega))
  have HBt := Num.hide (bare_two l)
  rw [HBt.out] at HD2
  obtain ⟨a, c, rfl, _⟩ := Flds.is_form h
  clear h
  go_enter Tryz.func107, Tryz.ntmps107
  go_wp2_with fail
  refine HD1.out.mono ?_
  rintro e w1 ⟨v1, rfl, ho, hb⟩
  have HO1 := Num.hide ho
  have HB1 := Num.hide hb
  clear ho hb
  go_wp2_with fail
  refine (HD2.out _ _ (Recs.own_is Flds.cells_len HO1.out)).mono ?_
  rintro e w2 ⟨v2, rfl, ho2, hb2⟩
  have HO2 := Num.hide (Recs.own_mono ho2 HB1.out.size)
  have HB2 := Num.hide (HB1.out.trans (hb2.mono HB1.out.size))
  clear ho2 hb2
  go_wp2
  go_ret
  exact ⟨_, rfl, HO2.out, HB2.out⟩
set_option maxRecDepth 100000 in
set_option maxHeartbeats 2000000 in
theorem own_impl (v : Value) (l : List Flds.Fld) (w : World) (h : Flds.Is w v l) (hl : Flds.bulk l ≤ 1048576) (hS : Sign.Signs w) :
    Calls Tryz.prog 97 #[v] w fun e w' => e = .returned (.bool (plain l)) ∧ Below w.heap.size w w' := by
  have hlen : l.length ≤ 1048576 := by unfold Flds.bulk at hl; omega
  have HI := Num.hide h
  have HO := Num.hide (Flds.ok_impl v l w h (Flds.max_of hl) hS)
  have HBr := Num.hide (fun W h => bare_impl v l W h hl)
  have HSm := Num.hide (fun v2 W h1 h2 => Flds.same_impl v v2 l (bare l) W h1 h2 (by omega))
  obtain ⟨r, hr⟩ : ∃ r, plain l = r := ⟨_, rfl⟩
  rw [hr]
  rw [← own_plain] at hr
  obtain ⟨a, c, rfl, _⟩ := Flds.is_form h
  clear h hS
  generalize Flds.ok l = o at HO hr
  by_cases h12 : (l.length : Int) < 12
  · rw [decide_eq_true (by omega : l.length < 12), Bool.true_and] at hr
    cases o with
    | false =>
      obtain rfl : false = r := by rw [← hr]; rfl
      clear hr
      go_enter Tryz.func97, Tryz.ntmps97
      go_wp2_with fail
      refine HO.out.mono ?_
      rintro e w1 ⟨rfl, hb⟩
      have HB := Num.hide hb
      clear hb
      go_wp2
      go_ret
      exact ⟨rfl, HB.out⟩
    | true =>
      rw [Bool.true_and] at hr
      rw [hr] at HSm
      clear hr
      go_enter Tryz.func97, Tryz.ntmps97
      go_wp2_with fail
      refine HO.out.mono ?_
      rintro e w1 ⟨rfl, hb⟩
      have HB := Num.hide hb
      clear hb
      go_wp2_with fail
      refine (HBr.out _ (Recs.is_below HI.out HB.out)).mono ?_
      rintro e w2 ⟨v2, rfl, ho2, hb2⟩
      have HO2 := Num.hide ho2
      have HB2 := Num.hide (HB.out.trans (hb2.mono HB.out.size))
      clear ho2 hb2
      go_wp2_with fail
      refine (HSm.out _ _ (Recs.is_below HI.out HB2.out) (Recs.own_is Flds.cells_len HO2.out)).mono ?_
      rintro e w3 ⟨rfl, hb3⟩
      have HB3 := Num.hide (HB2.out.trans (hb3.mono HB2.out.size))
      clear hb3
      go_wp2
      go_ret
      exact ⟨rfl, HB3.out⟩
  · have d12 : decide ((l.length : Int) < 12) = false := decide_eq_false h12
    obtain rfl : false = r := by rw [← hr, decide_eq_false (by omega : ¬ l.length < 12)]; rfl
    clear hr HO
    go_enter Tryz.func97, Tryz.ntmps97
    go_wp2
    go_ret
    exact ⟨rfl, Below.refl _ _⟩
end Msg
end Go.Proofs.YtbajfklnekfeoaaGreatDoor
namespace Go.Proofs.YtbajfklnekfeoaaGreatDoor
open Go.RowKit
set_option linter.unusedVariables false
namespace Msg

set_option maxRecDepth 100000 in
set_option maxHeartbeats 2000000 in
theorem method_impl (m : ByteArray) (w : World) (hm : m.size ≤ maxLen) (hS : Sign.Signs w) :
    Calls Tryz.prog 95 #[.string m] w fun e w' => e = .returned (.bool (Sign.isTok m && decide (m.size ≤ 10))) ∧ w = w' := by
  have HT := Num.hide (Sign.isTok_impl m w hm hS)
  obtain ⟨r, hr⟩ : ∃ r, (Sign.isTok m && decide (m.size ≤ 10)) = r := ⟨_, rfl⟩
  rw [hr]
  generalize Sign.isTok m = t at HT hr
  clear hS
  unfold maxLen at hm
  by_cases h10 : (m.size : Int) ≤ 10
  · obtain rfl : t = r := by rw [← hr, decide_eq_true (by omega), Bool.and_true]
    clear hr
    go_enter Tryz.func95, Tryz.ntmps95
    go_wp2_with fail
    refine HT.out.mono ?_
    rintro e w1 ⟨rfl, rfl⟩
    go_wp2
    go_ret
    exact ⟨rfl, rfl⟩
  · obtain rfl : false = r := by rw [← hr, decide_eq_false (by omega), Bool.and_false]
    have d10 : decide ((m.size : Int) ≤ 10) = false := decide_eq_false h10
    clear hr
    go_enter Tryz.func95, Tryz.ntmps95
    go_wp2
    go_ret
    exact ⟨rfl, rfl⟩
theorem signs_alloc {w : World} (h : Sign.Signs w) (o : Obj) : Sign.Signs (w.alloc o) := Flds.signs_below h ((Below.refl w.heap.size w).alloc (Nat.le_refl _) o) (Flds.signs_lt h)
set_option maxRecDepth 100000 in
set_option maxHeartbeats 2000000 in
theorem reqOk_impl (m u : ByteArray) (v : Value) (l : List Flds.Fld) (b : ByteArray) (w : World) (h : Flds.Is w v l) (hl : Flds.bulk l ≤ 1048576) (hm : m.size ≤ 1048576) (hu : u.size ≤ 1048576) (hb : b.size ≤ 1048576) (hS : Sign.Signs w) :
    Calls Tryz.prog 50 #[Req.val m u v b] w fun e w' => e = .returned (.bool (reqOk m u l b)) ∧ Below w.heap.size w w' := by
  unfold Req.val
  obtain ⟨a, c, rfl, _⟩ := Flds.is_form h
  have hb0 := (Below.refl w.heap.size w).alloc (Nat.le_refl _) (.cells #[.string m, .string u, .slice a l.length c, .string b] 39)
  have HB0 := Num.hide hb0
  have HT := Num.hide (method_impl m _ (by unfold maxLen; omega) (signs_alloc hS (.cells #[.string m, .string u, .slice a l.length c, .string b] 39)))
  have HU := Num.hide (fun W => uri_impl u W (by unfold maxLen; omega))
  have HP := Num.hide (own_impl (.slice a l.length c) l _ (Recs.is_stay h (Nat.le_refl _) hb0) hl (signs_alloc hS _))
  clear h hb0 hl hS
  obtain ⟨r, hr⟩ : ∃ r, reqOk m u l b = r := ⟨_, rfl⟩
  rw [hr]
  unfold reqOk at hr
  generalize (Sign.isTok m && decide (m.size ≤ 10)) = t1 at HT hr
  generalize uriOk u = t2 at HU hr
  generalize plain l = t3 at HP hr
  cases t1 with
  | false =>
    obtain rfl : false = r := by rw [← hr]; rfl
    clear hr HU HP
    go_enter Tryz.func50, Tryz.ntmps50
    go_wp2_with fail
    refine HT.out.mono ?_
    rintro e w1 ⟨rfl, rfl⟩
    go_wp2
    go_ret
    exact ⟨rfl, HB0.out⟩
  | true =>
    cases t2 with
    | false =>
      obtain rfl : false = r := by rw [← hr]; rfl
      clear hr HP
      go_enter Tryz.func50, Tryz.ntmps50
      go_wp2_with fail
      refine HT.out.mono ?_
      rintro e w1 ⟨rfl, rfl⟩
      go_wp2_with fail
      refine (HU.out _).mono ?_
      rintro e w1 ⟨rfl, rfl⟩
      go_wp2
      go_ret
      exact ⟨rfl, HB0.out⟩
    | true =>
      have fin : ∀ W, Below (w.alloc (.cells #[.string m, .string u, .slice a l.length c, .string b] 39)).heap.size (w.alloc (.cells #[.string m, .string u, .slice a l.length c, .string b] 39)) W → W.cell? ⟨w.heap.size, 3, none⟩ = some (.string b) := fun W hb2 => by
        have k3 := (hb2.cell (p := ⟨w.heap.size, 3, none⟩) (by show w.heap.size < _; rw [World.size_alloc]; omega)).trans (cell_of_row _ _ _ _ _ _ (heap_alloc_new w _))
        simp only [List.getElem?_toArray, List.getElem?_cons_succ, List.getElem?_cons_zero] at k3
        exact k3
      have FIN := Num.hide fin
      clear fin
      cases t3 with
      | false =>
        obtain rfl : false = r := by rw [← hr]; rfl
        clear hr
        go_enter Tryz.func50, Tryz.ntmps50
        go_wp2_with fail
        refine HT.out.mono ?_
        rintro e w1 ⟨rfl, rfl⟩
        go_wp2_with fail
        refine (HU.out _).mono ?_
        rintro e w1 ⟨rfl, rfl⟩
        go_wp2_with fail
        refine HP.out.mono ?_
        rintro e w2 ⟨rfl, hb2⟩
        have HB2 := Num.hide (HB0.out.trans (hb2.mono HB0.out.size))
        clear hb2 HP
        go_wp2
        go_ret
        exact ⟨rfl, HB2.out⟩
      | true =>
        by_cases h60 : (b.size : Int) ≤ 60
        · obtain rfl : true = r := by rw [← hr, decide_eq_true (by omega : b.size ≤ 60)]; rfl
          clear hr
          go_enter Tryz.func50, Tryz.ntmps50
          go_wp2_with fail
          refine HT.out.mono ?_
          rintro e w1 ⟨rfl, rfl⟩
          go_wp2_with fail
          refine (HU.out _).mono ?_
          rintro e w1 ⟨rfl, rfl⟩
          go_wp2_with fail
          refine HP.out.mono ?_
          rintro e w2 ⟨rfl, hb2⟩
          have HB2 := Num.hide (HB0.out.trans (hb2.mono HB0.out.size))
          have k3 := FIN.out _ hb2
          clear hb2 HP
          go_wp2
          go_ret
          exact ⟨rfl, HB2.out⟩
        · obtain rfl : false = r := by rw [← hr, decide_eq_false (by omega : ¬ b.size ≤ 60)]; rfl
          have d60 : decide ((b.size : Int) ≤ 60) = false := decide_eq_false h60
          clear hr
          go_enter Tryz.func50, Tryz.ntmps50
          go_wp2_with fail
          refine HT.out.mono ?_
          rintro e w1 ⟨rfl, rfl⟩
          go_wp2_with fail
          refine (HU.out _).mono ?_
          rintro e w1 ⟨rfl, rfl⟩
          go_wp2_with fail
          refine HP.out.mono ?_
          rintro e w2 ⟨rfl, hb2⟩
          have HB2 := Num.hide (HB0.out.trans (hb2.mono HB0.out.size))
          have k3 := FIN.out _ hb2
          clear hb2 HP
          go_wp2
          go_ret
          exact ⟨rfl, HB2.out⟩
end Msg
end Go.Proofs.YtbajfklnekfeoaaGreatDoor
namespace Go.Proofs.YtbajfklnekfeoaaGreatDoor
open Go.RowKit
set_option linter.unusedVariables false
namespace Flds

/-- the world behind the parameter's box and the result's -/
def setW (w : World) (x y : ByteArray) : World := (w.alloc (.cells #[.string x, .string y] 36)).alloc (.cells #[.string ⟨#[]⟩, .string ⟨#[]⟩] 36)
theorem setRes (w : World) (x y : ByteArray) : (setW w x y).heap[w.heap.size + 1]? = some (.cells #[.string ⟨#[]⟩, .string ⟨#[]⟩] 36 (0, 0)) := dropRes w x y
theorem setBelow (w : World) (x y : ByteArray) : Below w.heap.size w (setW w x y) := ((Below.refl _ _).alloc (Nat.le_refl _) _).alloc (by simp) _
theorem setSize (w : World) (x y : ByteArray) : (setW w x y).heap.size = w.heap.size + 2 := by simp [setW]
set_option maxRecDepth 100000 in
set_option maxHeartbeats 1000000 in
theorem setF_other (x y name : ByteArray) (nb : Nat) (p q : Value) (w : World) (hn : w.cell? ⟨nb, 0, none⟩ = some (.string name)) (hx : x.size ≤ 281474976710656) (hy : y.size ≤ 281474976710656) (hne : ¬ x = name) :
    Calls Tryz.prog 154 #[.agg #[.string x, .string y], .pointer (some ⟨nb, 0, none⟩), p, q] w fun e w' => e = .returned (.tuple #[.agg #[.string x, .string y], .bool true]) ∧ Below w.heap.size w w' := by
  have HN := Num.hide (fun W => new_any x y W hx hy)
  have HR := Num.hide (setRes w x y)
  have HB0 := Num.hide (setBelow w x y)
  have hz := setSize w x y
  have d := ne_text hne
  have d' : (x.toList != name.toList) = true := by rw [bne, d]; rfl
  have hlt := Recs.lt_of_cell hn
  clear hne
  go_enter Tryz.func154, Tryz.ntmps154
  go_wp2_with fail
  refine (HN.out _).mono ?_
  rintro e w3 ⟨rfl, hb3⟩
  change Below (setW w x y).heap.size (setW w x y) w3 at hb3
  obtain ⟨k0, k1, f0, f1⟩ := two_cells (show w3.heap[w.heap.size + 1]? = _ from by rw [hb3.block _ (by omega)]; exact HR.out)
  have r0 := Num.hide (box_first (x := x) (y := y) k0)
  have r1 := Num.hide (box_second (x := x) (y := y) k1)
  have HB1 := Num.hide (((HB0.out.trans (hb3.mono (by omega))).setCell (p := ⟨w.heap.size + 1, 0, none⟩) (by simp) (.string x)).setCell (p := ⟨w.heap.size + 1, 1, none⟩) (by simp) (.string y))
  clear hb3 HR HB0
  go_wp2
  generalize ((w3.setCell ⟨w.heap.size + 1, 0, none⟩ (.string x)).setCell ⟨w.heap.size + 1, 1, none⟩ (.string y)) = w4 at r0 r1 HB1 ⊢
  have r0 := r0.out
  have r1 := r1.out
  exact bodyPost_ret (v := .tuple #[.agg #[.string x, .string y], .bool true]) (by simp [results, Tryz.results154, go_sem, r0, r1]) rfl ⟨rfl, HB1.out⟩
set_option maxRecDepth 100000 in
set_option maxHeartbeats 1000000 in
theorem setF_same (y name value : ByteArray) (b : Bool) (nb fb vb : Nat) (w : World) (hn : w.cell? ⟨nb, 0, none⟩ = some (.string name)) (hv : w.cell? ⟨vb, 0, none⟩ = some (.string value)) (hf : w.heap[fb]? = some (.cells #[.bool b] 4 (0, 0))) (hnf : nb ≠ fb) (hvf : vb ≠ fb)
    (hx : name.size ≤ 281474976710656) (hy : value.size ≤ 281474976710656) :
    Calls Tryz.prog 154 #[.agg #[.string name, .string y], .pointer (some ⟨nb, 0, none⟩), .pointer (some ⟨fb, 0, none⟩), .pointer (some ⟨vb, 0, none⟩)] w fun e w' => e = .returned (.tuple #[.agg #[.string name, .string value], .bool (!b)]) ∧ w'.heap[fb]? = some (.cells #[.bool true] 4 (0, 0)) ∧ Far fb (fb + 1) w w' := by
  have HN := Num.hide (fun W => new_any name value W hx hy)
  have hlt := Recs.lt_of_cell hn
  have hlv := Recs.lt_of_cell hv
  have hlf : fb < w.heap.size := (Array.getElem?_eq_some_iff.1 hf).1
  have c3 := cell_of_one hf
  have f3 := free_of_one hf
  have hsf : (w.setCell ⟨fb, 0, none⟩ (.bool true)).heap.size = w.heap.size := by simp
  have c1 : (w.setCell ⟨fb, 0, none⟩ (.bool true)).cell? ⟨nb, 0, none⟩ = some (.string name) := by
    rw [← hn]; exact World.cell?_of_block (w := w) (Below.heap_setCell w ⟨fb, 0, none⟩ _ nb hnf)
  have c2 : (w.setCell ⟨fb, 0, none⟩ (.bool true)).cell? ⟨vb, 0, none⟩ = some (.string value) := by
    rw [← hv]; exact World.cell?_of_block (w := w) (Below.heap_setCell w ⟨fb, 0, none⟩ _ vb hvf)
  have HO := Num.hide (show (w.setCell ⟨fb, 0, none⟩ (.bool true)).heap[fb]? = some (.cells #[.bool true] 4 (0, 0)) from one_setCell hf)
  have HK : Hid (∀ j, j ≠ fb → (w.setCell ⟨fb, 0, none⟩ (.bool true)).heap[j]? = w.heap[j]?) := fun j hj => Below.heap_setCell w ⟨fb, 0, none⟩ _ j hj
  have HE : Hid ((w.setCell ⟨fb, 0, none⟩ (.bool true)).os = w.os ∧ (w.setCell ⟨fb, 0, none⟩ (.bool true)).tape = w.tape ∧ (w.setCell ⟨fb, 0, none⟩ (.bool true)).output = w.output) := ⟨rfl, rfl, rfl⟩
  clear hf hnf hvf hv
  obtain ⟨W, hW⟩ : ∃ W, w.setCell ⟨fb, 0, none⟩ (.bool true) = W := ⟨_, rfl⟩
  rw [hW] at c1 c2 HO HK HE hsf
  have HR := Num.hide (setRes W name y)
  have HB0 := Num.hide (setBelow W name y)
  have hz := setSize W name y
  rw [hsf] at HB0 hz
  have HR2 : Hid ((setW W name y).heap[w.heap.size + 1]? = some (.cells #[.string ⟨#[]⟩, .string ⟨#[]⟩] 36 (0, 0))) := by rw [← hsf]; exact HR
  clear HR
  go_enter Tryz.func154, Tryz.ntmps154
  go_wp2_with fail
  refine (HN.out _).mono ?_
  rintro e w3 ⟨rfl, hb3⟩
  change Below (setW W name y).heap.size (setW W name y) w3 at hb3
  rw [hz] at hb3
  obtain ⟨k0, k1, f0, f1⟩ := two_cells (show w3.heap[w.heap.size + 1]? = _ from by rw [hb3.block _ (by omega)]; exact HR2.out)
  have r0 := Num.hide (box_first (x := name) (y := value) k0)
  have r1 := Num.hide (box_second (x := name) (y := value) k1)
  have HB1 := Num.hide (((HB0.out.trans (hb3.mono (by omega))).setCell (p := ⟨w.heap.size + 1, 0, none⟩) (by simp) (.string name)).setCell (p := ⟨w.heap.size + 1, 1, none⟩) (by simp) (.string value))
  clear hb3 HR2 HB0
  go_wp2
  generalize ((w3.setCell ⟨w.heap.size + 1, 0, none⟩ (.string name)).setCell ⟨w.heap.size + 1, 1, none⟩ (.string value)) = w4 at r0 r1 HB1 ⊢
  have r0 := r0.out
  have r1 := r1.out
  refine bodyPost_ret (v := .tuple #[.agg #[.string name, .string value], .bool (!b)]) (by simp [results, Tryz.results154, go_sem, r0, r1]) rfl ⟨rfl, (HB1.out.block fb hlf).trans HO.out, ⟨⟨?_, ?_, ?_, ?_, ?_⟩, ?_⟩⟩
  · exact HB1.out.os.trans HE.out.1
  · exact HB1.out.tape.trans HE.out.2.1
  · exact HB1.out.output.trans HE.out.2.2
  · have := HB1.out.size; omega
  · intro j hj
    exact (HB1.out.block j (by omega)).trans (HK.out j (by omega))
  · intro j hj hj2
    exact (HB1.out.block j hj2).trans (HK.out j (by omega))
theorem Far.mono {B n B' n' : Nat} {W W' : World} (h : Far B n W W') (hB : B' ≤ B) (hn : n ≤ n') : Far B' n' W W' := ⟨h.below.mono hB, fun j hj hj2 => h.rows j (by omega) hj2⟩
/-- what the choice of FieldSet knows: the name, the value, whether it was there -/
structure SetQ (nb fb vb : Nat) (name value : ByteArray) (b : Bool) (W : World) : Prop where
  hn : W.cell? ⟨nb, 0, none⟩ = some (.string name)
  hv : W.cell? ⟨vb, 0, none⟩ = some (.string value)
  hf : W.heap[fb]? = some (.cells #[.bool b] 4 (0, 0))
theorem SetQ.stay {nb fb vb n : Nat} {name value : ByteArray} {b : Bool} {W W' : World} (h : SetQ nb fb vb name value b W) (hb : Below n W W') (h1 : nb < n) (h2 : fb < n) (h3 : vb < n) : SetQ nb fb vb name value b W' :=
  ⟨(hb.cell (p := ⟨nb, 0, none⟩) h1).trans h.hn, (hb.cell (p := ⟨vb, 0, none⟩) h3).trans h.hv, (hb.block fb h2).trans h.hf⟩
theorem set_choice (w0 w : World) (l : List Fld) (name value : ByteArray) (fb : Nat) (h1 : w0.heap.size ≤ fb) (h2 : fb + 2 < w.heap.size) (hz : ∀ f ∈ l, f.1.size ≤ 281474976710656 ∧ f.2.size ≤ 281474976710656) (hx : name.size ≤ 281474976710656) (hy : value.size ≤ 281474976710656) :
    Choice 154 #[.pointer (some ⟨fb, 0, none⟩), .pointer (some ⟨fb + 2, 0, none⟩), .pointer (some ⟨fb + 1, 0, none⟩)] w0.heap.size w.heap.size w0 l (fun k => (setGo (l.take k) name value).1) (fun k W => SetQ fb (fb + 2) (fb + 1) name value (setGo (l.take k) name value).2 W) := by
  intro k hk W hB hn hQ
  have hzk := hz l[k] (List.getElem_mem hk)
  have hT := setGo_take l name value k hk
  simp only at hQ ⊢
  rw [hT]
  generalize setGo (l.take k) name value = r at hQ
  obtain ⟨L, b⟩ := r
  simp only at hQ
  generalize l[k] = f at hzk
  obtain ⟨x, y⟩ := f
  simp only at hzk
  by_cases e : x = name
  · subst e
    refine (setF_same y x value b fb (fb + 2) (fb + 1) W hQ.hn hQ.hv hQ.hf (by omega) (by omega) hx hy).mono ?_
    rintro e W' ⟨rfl, hf, hF⟩
    refine ⟨(x, value), !b, rfl, ?_, ⟨(hF.below.cell (p := ⟨fb, 0, none⟩) (by simp)).trans hQ.hn, (hF.below.cell (p := ⟨fb + 1, 0, none⟩) (by simp)).trans hQ.hv, ?_⟩, hF.mono (by omega) (by omega)⟩
    · cases b <;> simp [setStep]
    · rw [hf]; cases b <;> simp [setStep]
  · refine (setF_other x y name fb _ _ W hQ.hn hzk.1 hzk.2 e).mono ?_
    rintro e2 W' ⟨rfl, hb⟩
    refine ⟨(x, y), true, rfl, ?_, ?_, Far.of_below hb (by omega)⟩
    · simp [setStep, e]
    · have : (setStep name value (L, b) (x, y)).2 = b := by simp [setStep, e]
      rw [this]
      exact hQ.stay hb (by omega) (by omega) (by omega)
set_option maxRecDepth 100000 in
set_option maxHeartbeats 1000000 in
theorem set_impl (v : Value) (l : List Fld) (name value : ByteArray) (w : World) (h : Is w v l) (hl : bulk l ≤ 1073741823) (hx : name.size ≤ 281474976710656) (hy : value.size ≤ 281474976710656) :
    Calls Tryz.prog 99 #[v, .string name, .string value] w fun e w' => ∃ v', e = .returned v' ∧ Own w.heap.size w' v' (set l name value) ∧ Below w.heap.size w w' := by
  have hlen : l.length ≤ 1073741823 := by unfold bulk at hl; omega
  obtain ⟨i0, hi0, hz0, hz1, hz2⟩ := info_parts infoF
  have HN := Num.hide (fun W => new_any name value W hx hy)
  obtain ⟨w3, hw3⟩ : ∃ w3, ((w.alloc (.cells #[.string name] 9)).alloc (.cells #[.string value] 9)).alloc (.cells #[.bool false] 4) = w3 := ⟨_, rfl⟩
  have hs3 : w3.heap.size = w.heap.size + 3 := by rw [← hw3]; simp
  have hb : Below w.heap.size w w3 := by rw [← hw3]; exact (((Below.refl w.heap.size w).alloc (Nat.le_refl _) _).alloc (by simp) _).alloc (by simp; omega) _
  have hq0 : SetQ w.heap.size (w.heap.size + 2) (w.heap.size + 1) name value false w3 := by
    rw [← hw3]
    refine ⟨by rw [World.cell?_alloc_lt _ _ _ (by simp; omega), World.cell?_alloc_lt _ _ _ (by simp)]; simp, by rw [World.cell?_alloc_lt _ _ _ (by simp)]; simp, ?_⟩
    have := heap_alloc_new ((w.alloc (.cells #[.string name] 9)).alloc (.cells #[.string value] 9)) (.cells #[.bool false] 4)
    rw [← this, show ((w.alloc (.cells #[.string name] 9)).alloc (.cells #[.string value] 9)).heap.size = w.heap.size + 2 by simp]
  have HC := Num.hide (chosen_any 154 _ w.heap.size w w3 v l _ _ h rfl hb (by omega) rfl
    (fun k hk => by have := setGo_length (l.take k) name value; rw [List.length_take] at this; omega) (by omega) hq0
    (fun k W W' hQ hb2 => hQ.stay hb2 (by omega) (by omega) (by omega)) (set_choice w w3 l name value w.heap.size (Nat.le_refl _) (by omega) (sizes_of (by omega)) hx hy) (enters_of Tryz.func154 (by kernel_rfl) rfl))
  simp only [List.take_length, hs3] at HC
  clear hs3 hb hq0
  subst hw3
  have hgl := setGo_length l name value
  obtain ⟨R, hR⟩ : ∃ R, set l name value = R := ⟨_, rfl⟩
  rw [hR]
  unfold set at hR
  generalize setGo l name value = r at HC hR hgl
  obtain ⟨L, b⟩ := r
  simp only at HC hR hgl
  have HR := Num.hide hR
  clear h hR
  go_enter Tryz.func99, Tryz.ntmps99
  go_wp2_with fail
  refine HC.out.mono ?_
  rintro e w4 ⟨v', rfl, ho, hb1, hq⟩
  have HO := Num.hide ho
  have HB := Num.hide hb1
  have c1 := hq.hn
  have c2 := hq.hv
  have c3 := cell_of_one hq.hf
  have hs4 : w.heap.size + 3 ≤ w4.heap.size := by have := (Array.getElem?_eq_some_iff.1 hq.hf).1; omega
  clear ho hb1 hq
  cases b with
  | true =>
    have HR2 : Hid (L = R) := by rw [if_pos rfl] at HR; exact HR
    clear HR
    go_wp2
    go_ret
    exact ⟨_, rfl, by rw [← HR2.out]; exact Recs.own_mono HO.out (by omega), HB.out⟩
  | false =>
    have HR2 : Hid (L ++ [(name, value)] = R) := by rw [if_neg (by simp)] at HR; exact HR
    clear HR
    go_wp2_with fail
    refine (HN.out _).mono ?_
    rintro e w5 ⟨rfl, hb5⟩
    have HO5 := Num.hide (Recs.own_below HO.out hb5)
    have HB5 := Num.hide (HB.out.trans (hb5.mono (by omega)))
    have hs5 : w.heap.size + 3 ≤ w5.heap.size := Nat.le_trans hs4 hb5.size
    clear hb5 HO HB
    go_wp2_with (at_builtin; refine wpList_append_own _ rfl _ _ 37 rfl (w.heap.size + 3) 36 i0 _ 2 32 Tryz.underlying37 hi0 hz0 hz1 hz2 rfl (by decide) _ _ _ rfl (World.ownsRow.alloc HO5.out _) ⟨w5.heap.size, 0, none⟩ 1 1 [.string name, .string value] rfl rfl (cells_two w5 name value) (two_ok name value) (by unfold maxLen; omega) (by omega) ?c5 ?_)
    case c5 => first | omega | (simp; omega)
    intro v' w6 ho2 hg2 _
    obtain ⟨hp1, hp2⟩ := put_more (w := w5) hs5 HO5.out (Below.refl _ _) ho2 hg2
    have HP1 := Num.hide (Recs.own_mono hp1 (by omega : w.heap.size ≤ w.heap.size + 3))
    have HP2 := Num.hide (HB5.out.trans (hp2.mono (by omega)))
    clear ho2 hg2 hp1 hp2
    go_wp2
    go_ret
    exact ⟨_, rfl, by rw [← HR2.out]; exact HP1.out, HP2.out⟩
end Flds
end Go.Proofs.YtbajfklnekfeoaaGreatDoor
