/-
  AgeSpec: SatAdd, DateOf, FirstAge and AgeAt of the specification: the world stays but for new memory.
  SplitNum: Parts of a list: what SplitList makes of a text (no program in sight), and how a range over the text meets its bytes.
  LowerNum: Lower: small letters, and the row of bytes that a text is laid in to be worked over.
-/
import Derived.Test.YtihiljickefanaaGreatDoorPad
import Derived.Test.YtihiljickefanaaGreatDoorPae
import Derived.Test.YtihiljickefanaaGreatDoorPaf
import Derived.Test.YtihiljickefanaaGreatDoorPag
import Derived.Deep.Cut
import Derived.Test.YtihiljickefanaaGreatDoorRows
import Derived.WalkKit
import Derived.Test.YtihiljickefanaaGreatDoorTrimSpec
import Derived.Laws.RangeAny
import Derived.Laws.RangeString
import Derived.Test.YtihiljickefanaaGreatDoorSignNum
import Derived.WalkLawsBesides
import Derived.Lib.ConvBytes
import Derived.Laws.IdiomStrings
namespace Go.Proofs.YtihiljickefanaaGreatDoor
open Go.RowKit
set_option linter.unusedVariables false
namespace Age
open Flds (Fld ret_int)

theorem get_small (l : List Fld) (name : ByteArray) (hl : Flds.bulk l ≤ 1048576) : (Flds.get l name).1.size ≤ 4194304 := by
  have h := Flds.get_size l name
  unfold Flds.bulk at hl
  omega
set_option maxRecDepth 100000 in
set_option maxHeartbeats 1000000 in
theorem dateOf_spec (v : Value) (l : List Fld) (name : ByteArray) (w : World) (h : Flds.Is w v l) (hl : Flds.bulk l ≤ 1048576) :
    Calls Tryz.prog 31 #[v, .string name] w fun e w' => e = .returned (.tuple #[.int .i64 (dateOf l name).1, .bool (dateOf l name).2]) ∧ Below w.heap.size w w' := by
  have HG := Num.hide (Flds.get_spec_b v l name w h (by omega))
  have hsz := get_small l name hl
  obtain ⟨r, hr⟩ : ∃ r, dateOf l name = r := ⟨_, rfl⟩
  rw [hr]
  unfold dateOf at hr
  generalize Flds.get l name = g at HG hsz hr
  obtain ⟨s, b⟩ := g
  simp only at HG hsz hr
  have HD := Num.hide (fun W => Date.read_spec s W (by unfold maxLen; omega))
  generalize Date.readN s = n at HD hr
  generalize Date.readB s = f at HD hr
  clear h
  cases b with
  | true =>
    rw [if_pos rfl] at hr
    subst hr
    go_enter Tryz.func31, Tryz.ntmps31
    go_wp2_with fail
    refine HG.out.mono ?_
    rintro e w1 ⟨rfl, hb1⟩
    have HB := Num.hide hb1
    clear hb1
    go_wp2_with fail
    refine (HD.out _).mono ?_
    rintro e w2 ⟨rfl, hb2⟩
    have HB2 := Num.hide (HB.out.trans (hb2.mono HB.out.size))
    clear hb2
    go_wp2
    go_ret2
    exact ⟨rfl, HB2.out⟩
  | false =>
    rw [if_neg (by simp)] at hr
    subst hr
    go_enter Tryz.func31, Tryz.ntmps31
    go_wp2_with fail
    refine HG.out.mono ?_
    rintro e w1 ⟨rfl, hb1⟩
    have HB := Num.hide hb1
    clear hb1
    go_wp2
    go_ret2
    exact ⟨rfl, HB.out⟩
theorem row_stays {W W' : World} {g : Nat} {o : Obj} (h : W.heap[g]? = some o) (hb : Below W.heap.size W W') : W'.heap[g]? = some o := (hb.block g (Array.getElem?_eq_some_iff.1 h).1).trans h
set_option maxRecDepth 100000 in
set_option maxHeartbeats 2000000 in
theorem firstAge_spec (st : Int) (v : Value) (l : List Fld) (b : ByteArray) (asked came : Int) (w : World) (h : Flds.Is w v l) (hl : Flds.bulk l ≤ 1048576) (hcm : came ≤ 9223372036854775807) :
    Calls Tryz.prog 59 #[Resp.val st v b, .int .i64 asked, .int .i64 came] w fun e w' => e = .returned (.int .i64 (firstAge l asked came)) ∧ Below w.heap.size w w' := by
  have hb0 : Below w.heap.size w (w.alloc (.cells #[.int .i64 st, v, .string b] 26)) := (Below.refl _ _).alloc (Nat.le_refl _) _
  have HV0 := Num.hide (Recs.is_below h hb0)
  obtain ⟨av, cv, rfl, _⟩ := Flds.is_form h
  have HX0 : Hid ((w.alloc (.cells #[.int .i64 st, .slice av l.length cv, .string b] 26)).heap[w.heap.size]? = some (.cells #[.int .i64 st, .slice av l.length cv, .string b] 26)) := heap_alloc_new w _
  have HB0 := Num.hide hb0
  have HG := Num.hide (Flds.get_spec_b _ l ageName _ HV0.out (by omega))
  have hsz := get_small l ageName hl
  obtain ⟨r, hr⟩ : ∃ r, firstAge l asked came = r := ⟨_, rfl⟩
  rw [hr]
  unfold firstAge told at hr
  have hsb := secs_bd (Flds.get l ageName).1
  generalize Flds.get l ageName = g at HG hsz hr hsb
  obtain ⟨s, bs⟩ := g
  simp only at HG hsz hr hsb
  have HS := Num.hide (fun W => Sign.seconds_spec s W (by unfold maxLen; omega))
  generalize Sign.secs s = sc at HS hr hsb
  obtain ⟨T, tb⟩ := sc
  simp only at HS hr hsb
  have HR := Num.hide hr
  unfold Resp.val
  clear h hb0 hr
  go_enter Tryz.func59, Tryz.ntmps59
  go_wp2_with fail
  refine HG.out.mono ?_
  rintro e w1 ⟨rfl, hb1⟩
  have HX1 := Num.hide (row_stays HX0.out hb1)
  have HV1 := Num.hide (Recs.is_below HV0.out hb1)
  have HB1 := Num.hide (HB0.out.trans (hb1.mono HB0.out.size))
  clear hb1 HX0 HV0 HB0 HG
  go_wp2_with fail
  refine (HS.out _).mono ?_
  rintro e w2 ⟨rfl, rfl⟩
  have c1 := Recs.box_cell HX1.out 1
  simp only [List.getElem?_toArray, List.getElem?_cons_succ, List.getElem?_cons_zero] at c1
  have HD := Num.hide (dateOf_spec _ l dateName w1 HV1.out hl)
  have hdb := dateOf_bd l dateName
  obtain ⟨A, hA⟩ : ∃ A, apparent l came = A := ⟨_, rfl⟩
  have HA := Num.hide hA
  unfold apparent at hA
  generalize dateOf l dateName = d at HD hA hdb
  obtain ⟨D, db⟩ := d
  simp only at HD hA hdb
  have HA2 := Num.hide hA
  clear hA
  go_wp2_with fail
  refine HD.out.mono ?_
  rintro e w3 ⟨rfl, hb3⟩
  have HB3 := Num.hide (HB1.out.trans (hb3.mono HB1.out.size))
  clear hb3 c1 HX1 HV1 HB1 HD HS
  go_upto_region 5 with fail
  obtain ⟨P, hP⟩ : ∃ P, (db && decide (D < came)) = P := ⟨_, rfl⟩
  have HP := Num.hide hP
  have HAf : Hid (P = false → A = 0) := fun h => by
    rw [← HA2.out, if_neg]
    rintro ⟨e1, e2⟩
    rw [← hP, e1, decide_eq_true e2] at h; cases h
  have HAt : Hid (P = true → D < came ∧ A = min (came - D) 2147483648) := fun h => by
    rw [← hP, Bool.and_eq_true, decide_eq_true_iff] at h
    exact ⟨h.2, by rw [← HA2.out, if_pos h]⟩
  clear hP HA2
  go_cut [37] from 15 (fun v wx => v = .bool P ∧ wx = w3)
  case first =>
    cases db with
    | false =>
      obtain rfl : P = false := by rw [← HP.out]; rfl
      clear HP HAf HAt
      go_wp2
      go_meet
      case rel => exact ⟨rfl, rfl⟩
    | true =>
      by_cases hc : D < came
      · have dc : decide (D < came) = true := decide_eq_true hc
        obtain rfl : P = true := by rw [← HP.out, dc]; rfl
        clear HP HAf HAt
        go_wp2
        go_meet
        case rel => exact ⟨rfl, rfl⟩
      · have dc : decide (D < came) = false := decide_eq_false hc
        obtain rfl : P = false := by rw [← HP.out, dc]; rfl
        clear HP HAf HAt
        go_wp2
        go_meet
        case rel => exact ⟨rfl, rfl⟩
  case rest =>
  obtain ⟨rfl, rfl⟩ := hcut
  clear HP
  go_upto_if 37 with fail
  go_cut [13] from 15 (fun v wx => v = .int .i64 A ∧ wx = wc)
  case first =>
    cases P with
    | false =>
      obtain rfl := HAf.out rfl
      clear HA HAf HAt
      go_wp2
      go_meet
      case rel => exact ⟨rfl, rfl⟩
    | true =>
      obtain ⟨hc, hA⟩ := HAt.out rfl
      by_cases hm : 2147483648 < came - D
      · obtain rfl : A = 2147483648 := by omega
        clear HA HAf HAt hA
        go_wp2
        go_meet
        case rel => exact ⟨rfl, rfl⟩
      · obtain rfl : A = came - D := by omega
        clear HA HAf HAt hA
        go_wp2
        go_meet
        case rel => exact ⟨rfl, rfl⟩
  case rest =>
  obtain ⟨rfl, rfl⟩ := hcut
  clear HAf HAt
  obtain ⟨Dl, hDl⟩ : ∃ Dl, delay asked came = Dl := ⟨_, rfl⟩
  have HDl := Num.hide hDl
  unfold delay at hDl
  have HD2 := Num.hide hDl
  clear hDl
  go_upto_region 8 with fail
  obtain ⟨Q, hQ⟩ : ∃ Q, (decide (asked < came) && decide (0 ≤ asked)) = Q := ⟨_, rfl⟩
  have HQ := Num.hide hQ
  have HQf : Hid (Q = false → Dl = 0) := fun h => by
    rw [← HD2.out, if_neg]
    rintro ⟨e1, e2⟩
    rw [← hQ, decide_eq_true e1, decide_eq_true e2] at h; cases h
  have HQt : Hid (Q = true → asked < came ∧ 0 ≤ asked ∧ Dl = came - asked) := fun h => by
    rw [← hQ, Bool.and_eq_true, decide_eq_true_iff, decide_eq_true_iff] at h
    exact ⟨h.1, h.2, by rw [← HD2.out, if_pos h]⟩
  clear hQ HD2
  go_cut [48] from 15 (fun v wx => v = .bool Q ∧ wx = wc)
  case first =>
    by_cases h1 : asked < came
    · have d1 : decide (asked < came) = true := decide_eq_true h1
      by_cases h2 : 0 ≤ asked
      · have d2 : decide (0 ≤ asked) = true := decide_eq_true h2
        obtain rfl : Q = true := by rw [← HQ.out, d1, d2]; rfl
        clear HQ HQf HQt
        go_wp2
        go_meet
        case rel => exact ⟨rfl, rfl⟩
      · have d2 : decide (0 ≤ asked) = false := decide_eq_false h2
        obtain rfl : Q = false := by rw [← HQ.out, d1, d2]; rfl
        clear HQ HQf HQt
        go_wp2
        go_meet
        case rel => exact ⟨rfl, rfl⟩
    · have d1 : decide (asked < came) = false := decide_eq_false h1
      obtain rfl : Q = false := by rw [← HQ.out, d1]; rfl
      clear HQ HQf HQt
      go_wp2
      go_meet
      case rel => exact ⟨rfl, rfl⟩
  case rest =>
  obtain ⟨rfl, rfl⟩ := hcut
  clear HQ
  go_upto_if 48 with fail
  go_cut [14] from 15 (fun v wx => v = .int .i64 Dl ∧ wx = wc)
  case first =>
    cases Q with
    | false =>
      obtain rfl := HQf.out rfl
      clear HDl HQf HQt
      go_wp2
      go_meet
      case rel => exact ⟨rfl, rfl⟩
    | true =>
      obtain ⟨h1, h2, rfl⟩ := HQt.out rfl
      clear HDl HQf HQt
      go_wp2
      go_meet
      case rel => exact ⟨rfl, rfl⟩
  case rest =>
  obtain ⟨rfl, rfl⟩ := hcut
  clear HQf HQt
  have hr := HR.out
  rw [HA.out, HDl.out] at hr
  have HSa := Num.hide (fun W => satAdd_spec T Dl W)
  generalize satAdd T Dl = Sa at HSa hr
  clear HR HA HDl
  go_wp2_with fail
  refine (HSa.out _).mono ?_
  rintro e w4 ⟨rfl, rfl⟩
  by_cases hlt : A < Sa
  · obtain rfl : r = Sa := by omega
    clear hr
    go_wp2
    all_goals go_ret
    all_goals exact ⟨ret_int (by omega), HB3.out⟩
  · obtain rfl : r = A := by omega
    clear hr
    go_wp2
    all_goals go_ret
    all_goals exact ⟨ret_int (by omega), HB3.out⟩
end Age
end Go.Proofs.YtihiljickefanaaGreatDoor
namespace Go.Proofs.YtihiljickefanaaGreatDoor
open Go.RowKit
set_option linter.unusedVariables false
namespace Sign

/-- a part, trimmed; none where it is empty -/
def part (s : ByteArray) (a b : Nat) : List ByteArray := if (trim (s.extract a b)).size = 0 then [] else [trim (s.extract a b)]
/-- the byte n ahead of the end -/
def fromEnd (s : ByteArray) (n : Nat) : Nat := (s.data.toList.getD (s.size - n) 0).toNat
/-- the parts that come of the last n bytes, where a part began at 'a' -/
def rest (s : ByteArray) : Nat → Nat → Bool → List ByteArray
  | 0, a, q => part s a s.size
  | n + 1, a, q =>
    if fromEnd s (n + 1) = 34 then rest s n a (!q)
    else if q = true ∧ fromEnd s (n + 1) = 92 then (match n with | 0 => part s a s.size | m + 1 => rest s m a q)
    else if fromEnd s (n + 1) = 44 ∧ q = false then part s a (s.size - (n + 1)) ++ rest s n (s.size - (n + 1) + 1) q
    else rest s n a q
/-- the parts of a text -/
def split (s : ByteArray) : List ByteArray := rest s s.size 0 false

theorem rest_succ (s : ByteArray) (n a : Nat) (q : Bool) : rest s (n + 1) a q =
    if fromEnd s (n + 1) = 34 then rest s n a (!q)
    else if q = true ∧ fromEnd s (n + 1) = 92 then rest s (n - 1) a q
    else if fromEnd s (n + 1) = 44 ∧ q = false then part s a (s.size - (n + 1)) ++ rest s n (s.size - (n + 1) + 1) q
    else rest s n a q := by
  cases n with
  | zero => rfl
  | succ m => rfl
theorem fromEnd_at (s : ByteArray) (i : Nat) (h : i < s.size) : fromEnd s (s.size - i) = (s[i]).toNat := by
  unfold fromEnd
  rw [show s.size - (s.size - i) = i by omega, List.getD, List.getElem?_eq_getElem (show i < s.data.toList.length by rw [Array.length_toList]; exact h)]
  rfl
theorem rest_quote (s : ByteArray) (i a : Nat) (q : Bool) (h : i < s.size) (hc : (s[i]).toNat = 34) : rest s (s.size - i) a q = rest s (s.size - (i + 1)) a (!q) := by
  have e := fromEnd_at s i h
  obtain ⟨n, hn⟩ : ∃ n, s.size - i = n + 1 := ⟨s.size - i - 1, by omega⟩
  rw [hn] at e
  rw [show s.size - (i + 1) = n by omega, hn]
  rw [rest_succ, if_pos (by rw [e]; exact hc)]
theorem rest_esc (s : ByteArray) (i a : Nat) (h : i < s.size) (hc : (s[i]).toNat = 92) : rest s (s.size - i) a true = rest s (s.size - (i + 2)) a true := by
  have e := fromEnd_at s i h
  obtain ⟨n, hn⟩ : ∃ n, s.size - i = n + 1 := ⟨s.size - i - 1, by omega⟩
  rw [hn] at e
  rw [show s.size - (i + 2) = n - 1 by omega, hn]
  rw [rest_succ, if_neg (by rw [e]; omega), if_pos ⟨rfl, by rw [e]; exact hc⟩]
theorem rest_comma (s : ByteArray) (i a : Nat) (h : i < s.size) (hc : (s[i]).toNat = 44) : rest s (s.size - i) a false = part s a i ++ rest s (s.size - (i + 1)) (i + 1) false := by
  have e := fromEnd_at s i h
  obtain ⟨n, hn⟩ : ∃ n, s.size - i = n + 1 := ⟨s.size - i - 1, by omega⟩
  have e2 : s.size - (n + 1) = i := by omega
  rw [hn] at e
  rw [show s.size - (i + 1) = n by omega, hn]
  rw [rest_succ, if_neg (by rw [e]; omega), if_neg (by rintro ⟨h, _⟩; cases h), if_pos ⟨by rw [e]; exact hc, rfl⟩, e2]
theorem rest_else (s : ByteArray) (i a : Nat) (q : Bool) (h : i < s.size) (h1 : (s[i]).toNat ≠ 34) (h2 : ¬ (q = true ∧ (s[i]).toNat = 92)) (h3 : ¬ ((s[i]).toNat = 44 ∧ q = false)) : rest s (s.size - i) a q = rest s (s.size - (i + 1)) a q := by
  have e := fromEnd_at s i h
  obtain ⟨n, hn⟩ : ∃ n, s.size - i = n + 1 := ⟨s.size - i - 1, by omega⟩
  rw [hn] at e
  rw [show s.size - (i + 1) = n by omega, hn]
  rw [rest_succ, if_neg (by rw [e]; exact h1), if_neg (by rw [e]; exact h2), if_neg (by rw [e]; exact h3)]
theorem rest_end (s : ByteArray) (i a : Nat) (q : Bool) (h : s.size ≤ i) : rest s (s.size - i) a q = part s a s.size := by
  rw [show s.size - i = 0 by omega]; rfl
/-- bytes from 128 on change nothing -/
theorem rest_high (s : ByteArray) (a : Nat) (q : Bool) : ∀ (d i : Nat), i + d ≤ s.size → (∀ j (h : j < s.size), i ≤ j → j < i + d → 128 ≤ (s[j]).toNat) → rest s (s.size - i) a q = rest s (s.size - (i + d)) a q := by
  intro d
  induction d with
  | zero => intro i _ _; rfl
  | succ d ih =>
    intro i hi hh
    have h := hh i (by omega) (Nat.le_refl _) (by omega)
    rw [rest_else s i a q (by omega) (by omega) (by omega) (by omega), ih (i + 1) (by omega) (fun j hj h1 h2 => hh j hj (by omega) (by omega)), show i + 1 + d = i + (d + 1) by omega]
theorem cont_high (s : ByteArray) (i k : Nat) (h : (decide (i + k < s.size) && (s.get! (i + k)).toNat / 64 == 2) = true) : ∃ h : i + k < s.size, 128 ≤ (s[i + k]).toNat := by
  rw [Bool.and_eq_true, decide_eq_true_iff, beq_iff_eq] at h
  refine ⟨h.1, ?_⟩
  have e : s.get! (i + k) = s[i + k]'h.1 := Go.get_at s (i + k) h.1
  rw [e] at h
  omega
theorem decode_wide (s : ByteArray) (i : Nat) (h : i < s.size) (ha : 128 ≤ (s[i]).toNat) : i + (Utf8.decode s i).2 ≤ s.size ∧ ∀ j (hj : j < s.size), i ≤ j → j < i + (Utf8.decode s i).2 → 128 ≤ (s[j]).toNat := by
  have one : i + 1 ≤ s.size ∧ ∀ j (hj : j < s.size), i ≤ j → j < i + 1 → 128 ≤ (s[j]).toNat := ⟨by omega, fun j hj h1 h2 => by obtain rfl : j = i := by omega
                                                                                                                               exact ha⟩
  unfold Utf8.decode
  simp only
  split
  · exact one
  · split
    · next hc =>
      rw [Bool.and_eq_true] at hc
      obtain ⟨h1, g1⟩ := cont_high s i 1 hc.2
      split
      · refine ⟨by simp only; omega, fun j hj a b => ?_⟩
        simp only at b
        rcases (show j = i ∨ j = i + 1 by omega) with rfl | rfl
        · exact ha
        · exact g1
      · exact one
    · split
      · next hc =>
        rw [Bool.and_eq_true, Bool.and_eq_true] at hc
        obtain ⟨h1, g1⟩ := cont_high s i 1 hc.1.2
        obtain ⟨h2, g2⟩ := cont_high s i 2 hc.2
        split
        · refine ⟨by simp only; omega, fun j hj a b => ?_⟩
          simp only at b
          rcases (show j = i ∨ j = i + 1 ∨ j = i + 2 by omega) with rfl | rfl | rfl
          · exact ha
          · exact g1
          · exact g2
        · exact one
      · split
        · next hc =>
          rw [Bool.and_eq_true, Bool.and_eq_true, Bool.and_eq_true] at hc
          obtain ⟨h1, g1⟩ := cont_high s i 1 hc.1.1.2
          obtain ⟨h2, g2⟩ := cont_high s i 2 hc.1.2
          obtain ⟨h3, g3⟩ := cont_high s i 3 hc.2
          split
          · refine ⟨by simp only; omega, fun j hj a b => ?_⟩
            simp only at b
            rcases (show j = i ∨ j = i + 1 ∨ j = i + 2 ∨ j = i + 3 by omega) with rfl | rfl | rfl | rfl
            · exact ha
            · exact g1
            · exact g2
            · exact g3
          · exact one
        · exact one
theorem length_rest (s : ByteArray) : ∀ (n a : Nat) (q : Bool), (rest s n a q).length ≤ n + 1 := by
  intro n
  induction n using Nat.strongRecOn with
  | _ n ih =>
    intro a q
    have hp : ∀ x y, (part s x y).length ≤ 1 := fun x y => by unfold part; split <;> simp
    cases n with
    | zero => rw [rest]; have := hp a s.size; omega
    | succ m =>
      rw [rest_succ]
      split
      · have := ih m (by omega) a (!q); omega
      · split
        · have := ih (m - 1) (by omega) a q; omega
        · split
          · rw [List.length_append]; have := ih m (by omega) (s.size - (m + 1) + 1) q; have := hp a (s.size - (m + 1)); omega
          · have := ih m (by omega) a q; omega
end Sign
end Go.Proofs.YtihiljickefanaaGreatDoor
namespace Go.Proofs.YtihiljickefanaaGreatDoor
open Go.RowKit
set_option linter.unusedVariables false
namespace Sign

/-- a byte, small where it is a great letter -/
def lowB (b : UInt8) : UInt8 := if up (b.toNat : Int) then b + 32 else b
def lower (s : ByteArray) : ByteArray := ⟨(s.data.toList.map lowB).toArray⟩
theorem lowB_up (b : UInt8) (h : up (b.toNat : Int)) : ((lowB b).toNat : Int) = (b.toNat : Int) + 32 := by
  unfold lowB; rw [if_pos h]; unfold up at h; rw [UInt8.toNat_add]; simp; omega
theorem lowB_no (b : UInt8) (h : ¬ up (b.toNat : Int)) : lowB b = b := by unfold lowB; rw [if_neg h]
theorem size_lower (s : ByteArray) : (lower s).size = s.size := by
  show (s.data.toList.map lowB).toArray.size = s.size
  rw [List.size_toArray, List.length_map, Array.length_toList]; rfl

/-- the row at block g bears the bytes of the text, the first k of them small; it may be written -/
structure Part (g : Nat) (s : ByteArray) (k : Nat) (W : World) : Prop where
  done : ∀ j (h : j < s.size), j < k → W.cell? ⟨g, j, none⟩ = some (.int .u8 ((lowB s[j]).toNat : Int))
  todo : ∀ j (h : j < s.size), k ≤ j → W.cell? ⟨g, j, none⟩ = some (.int .u8 (s[j].toNat : Int))
  free : ∀ j (h : j < s.size), W.frozen? ⟨g, j, none⟩ = false

theorem bytes_below (w : World) (e : TypeId) (s : ByteArray) : Below w.heap.size w (Lib.bytesWorld w e s) :=
  ⟨rfl, rfl, rfl, by rw [Lib.bytesWorld_size]; omega, fun k hk => Lib.bytesWorld_at_old w e s k hk⟩
theorem bytes_part (w : World) (e : TypeId) (s : ByteArray) : Part w.heap.size s 0 (Lib.bytesWorld w e s) where
  done := fun j h h' => by omega
  todo := fun j h _ => by
    rw [Lib.bytesWorld_cell w e s j h]
    have hl : j < s.data.toList.length := by rw [Array.length_toList]; exact h
    rw [List.getD, List.getElem?_eq_getElem hl]; rfl
  free := fun j h => by
    have hsz : s.size ≤ (Lib.bytesCells w e s).size := by
      unfold Lib.bytesCells; rw [Array.size_append, Array.size_map]; exact Nat.le_add_right _ _
    unfold World.frozen?
    simp only [Lib.bytesWorld_at_new]
    have : decide ((Lib.bytesCells w e s).size ≤ j) = false := decide_eq_false (by omega)
    simp [this]
theorem part_up {g : Nat} {s : ByteArray} {k : Nat} {W : World} (p : Part g s k W) (hk : k < s.size) (h : up (s[k].toNat : Int)) : Part g s (k + 1) (W.setCell ⟨g, k, none⟩ (.int .u8 ((s[k].toNat : Int) + 32))) where
  done := fun j hj hjk => by
    by_cases e : j = k
    · subst e
      rw [World.cell?_setCell_same (h := p.todo j hj (Nat.le_refl _)), lowB_up _ h]
    · rw [World.cell?_setCell_other (h := by intro h; have h2 : k = j := congrArg Addr.off h; omega)]
      exact p.done j hj (by omega)
  todo := fun j hj hjk => by
    rw [World.cell?_setCell_other (h := by intro h; have h2 : k = j := congrArg Addr.off h; omega)]
    exact p.todo j hj (by omega)
  free := fun j hj => by rw [World.frozen?_setCell]; exact p.free j hj
theorem part_no {g : Nat} {s : ByteArray} {k : Nat} {W : World} (p : Part g s k W) (hk : k < s.size) (h : ¬ up (s[k].toNat : Int)) : Part g s (k + 1) W where
  done := fun j hj hjk => by
    by_cases e : j = k
    · subst e
      rw [lowB_no _ h]; exact p.todo j hj (Nat.le_refl _)
    · exact p.done j hj (by omega)
  todo := fun j hj hjk => p.todo j hj (by omega)
  free := p.free
theorem part_drew {g : Nat} {s : ByteArray} {k : Nat} {W : World} (p : Part g s k W) : Part g s k W.drew :=
  ⟨p.done, p.todo, p.free⟩
theorem part_back {g : Nat} {s : ByteArray} {W : World} (p : Part g s s.size W) (cap : Nat) :
    (convert 22 9 (.slice (some ⟨g, 0, none⟩) s.size cap)).run Tryz.prog W = .ok (.string (lower s)) W := by
  have e : s.size = (s.data.toList.map lowB).length := by rw [List.length_map, Array.length_toList]; rfl
  have h := run_convert_bytes_back (P := Tryz.prog) W 22 9 5 ⟨g, 0, none⟩ cap (s.data.toList.map lowB) Tryz.underlying22 Tryz.underlying5 Tryz.underlying9 (by
    intro j hj
    have hj' : j < s.size := by omega
    have h := p.done j hj' hj'
    have ea : (⟨g, 0, none⟩ : Addr).add j = ⟨g, j, none⟩ := by
      unfold Addr.add; by_cases e : j = 0
      · subst e; simp
      · simp [e]
    rw [ea, h, List.getElem_map]
    rfl)
  rw [← e] at h
  exact h
end Sign
end Go.Proofs.YtihiljickefanaaGreatDoor
