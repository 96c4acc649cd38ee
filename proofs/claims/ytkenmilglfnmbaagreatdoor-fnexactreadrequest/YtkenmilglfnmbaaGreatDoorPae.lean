/-
  Pairs: Two boxes that were just laid.
  ReqEq: eqRequest of the laws: requests held against each other.
  MarkText: markText of the laws: a text of its number alone; what was there stays.
  FldLaw: markFieldS of the laws: a list of fields marked.
  FldHeld: heldFieldS of the laws: a marked list of fields held against its marks.
  ReqMark: markRequest and heldRequest of the laws: the fields of one marked, and held against their marks.
  ReqReadLaw: FnExactReadRequest, whatever the program's ReadRequest keeps to: it answers as the specification's, in memory of its own, again and again.
  IsErr: errors.Is at this program, for errors that errors.New has made, and for none: Go's own text, walked.
  ReaderImpl: The program's reader of messages: its box, what it has ahead, what it passes; what is not right is thrown.
  WordsCut: A first line and a head's end, plain: what Cut finds at a blank, and Contains at an empty line.
-/
import Derived.Test.YtkenmilglfnmbaaGreatDoorRecs
import Derived.Test.YtkenmilglfnmbaaGreatDoorPab
import Derived.Test.YtkenmilglfnmbaaGreatDoorFldEq
import Derived.Test.YtkenmilglfnmbaaGreatDoorMem
import Derived.Test.YtkenmilglfnmbaaGreatDoorPad
import Derived.Test.YtkenmilglfnmbaaGreatDoorProg
import Derived.WalkKit
import Derived.LaidEql
import Derived.Stop.Asserts
import Derived.RowKitTokens
import Derived.Test.YtkenmilglfnmbaaGreatDoorPieceImpl
import Derived.Recover
import Derived.BigQuiet
import Derived.Deep.QuietTactic
import Derived.Test.YtkenmilglfnmbaaGreatDoorPac
import Derived.Test.YtkenmilglfnmbaaGreatDoorLineNum
import Derived.Lib.IndexMore
namespace Go.Proofs.YtkenmilglfnmbaaGreatDoor
open Go.RowKit
set_option linter.unusedVariables false
namespace Resp

/-- two boxes that were just laid -/
theorem box_one (w : World) (c1 c2 : Array Value) (t1 t2 : TypeId) (j : Nat) : ((w.alloc (.cells c1 t1)).alloc (.cells c2 t2)).cell? ⟨w.heap.size, j, none⟩ = c1[j]? := by
  rw [World.cell?_alloc_lt _ _ _ (by simp), cell_of_row _ _ _ _ _ _ (heap_alloc_new w _)]
theorem box_two (w : World) (c1 c2 : Array Value) (t1 t2 : TypeId) (j : Nat) : ((w.alloc (.cells c1 t1)).alloc (.cells c2 t2)).cell? ⟨w.heap.size + 1, j, none⟩ = c2[j]? := by
  have e : w.heap.size + 1 = (w.alloc (.cells c1 t1)).heap.size := by rw [World.size_alloc]
  rw [e, cell_of_row _ _ _ _ _ _ (heap_alloc_new _ _)]
end Resp
end Go.Proofs.YtkenmilglfnmbaaGreatDoor
namespace Go.Proofs.YtkenmilglfnmbaaGreatDoor
open Go.RowKit
set_option linter.unusedVariables false
namespace Req

set_option maxRecDepth 100000 in
set_option maxHeartbeats 2000000 in
theorem eq_any (m1 m2 u1 u2 : ByteArray) (v1 v2 : Value) (l1 l2 : List Flds.Fld) (b1 b2 : ByteArray) (w : World) (h1 : Flds.Is w v1 l1) (h2 : Flds.Is w v2 l2) (hl : l1.length ≤ 1099511627776) :
    Calls Tryz.prog 29 #[val m1 u1 v1 b1, val m2 u2 v2 b2] w fun e w' => e = .returned (.bool (decide (m1 = m2 ∧ u1 = u2 ∧ l1 = l2 ∧ b1 = b2))) ∧ Below w.heap.size w w' := by
  unfold val
  obtain ⟨r, hr⟩ : ∃ r, decide (m1 = m2 ∧ u1 = u2 ∧ l1 = l2 ∧ b1 = b2) = r := ⟨_, rfl⟩
  rw [hr]
  obtain ⟨a1, c1, rfl, _⟩ := Flds.is_form h1
  obtain ⟨a2, c2, rfl, _⟩ := Flds.is_form h2
  have hb0 := ((Below.refl w.heap.size w).alloc (Nat.le_refl _) (.cells #[.string m1, .string u1, .slice a1 l1.length c1, .string b1] 39)).alloc (by simp) (.cells #[.string m2, .string u2, .slice a2 l2.length c2, .string b2] 39)
  have HB0 := Num.hide hb0
  have HE := Num.hide (Flds.eq_any _ _ l1 l2 _ (Recs.is_stay h1 (Nat.le_refl _) hb0) (Recs.is_stay h2 (Nat.le_refl _) hb0) hl)
  clear h1 h2 hb0
  by_cases hm : m1 = m2
  · subst hm
    by_cases hu : u1 = u2
    · subst hu
      by_cases hll : l1 = l2
      · rw [decide_eq_true hll] at HE
        by_cases hbb : b1 = b2
        · obtain rfl : r = true := by rw [← hr]; exact decide_eq_true ⟨rfl, rfl, hll, hbb⟩
          subst hbb
          clear hr hll
          go_enter Tryz.func29, Tryz.ntmps29
          go_wp2_with fail
          refine HE.out.mono ?_
          rintro e w1 ⟨rfl, hb1⟩
          have k1 := (hb1.cell (p := ⟨w.heap.size, 3, none⟩) (by show w.heap.size < _; rw [World.size_alloc, World.size_alloc]; omega)).trans (Resp.box_one w _ _ _ _ 3)
          have k2 := (hb1.cell (p := ⟨w.heap.size + 1, 3, none⟩) (by show w.heap.size + 1 < _; rw [World.size_alloc, World.size_alloc]; omega)).trans (Resp.box_two w _ _ _ _ 3)
          have HB1 := Num.hide (HB0.out.trans (hb1.mono HB0.out.size))
          clear hb1 HB0 HE
          simp only [List.getElem?_toArray, List.getElem?_cons_succ, List.getElem?_cons_zero] at k1 k2
          go_wp2
          go_ret
          exact ⟨rfl, HB1.out⟩
        · obtain rfl : r = false := by rw [← hr]; exact decide_eq_false (fun h => hbb h.2.2.2)
          have db : (b1.toList == b2.toList) = false := Flds.text_ne hbb
          have db2 : (b1.toList != b2.toList) = true := by rw [bne, db]; rfl
          clear hr hll hbb
          go_enter Tryz.func29, Tryz.ntmps29
          go_wp2_with fail
          refine HE.out.mono ?_
          rintro e w1 ⟨rfl, hb1⟩
          have k1 := (hb1.cell (p := ⟨w.heap.size, 3, none⟩) (by show w.heap.size < _; rw [World.size_alloc, World.size_alloc]; omega)).trans (Resp.box_one w _ _ _ _ 3)
          have k2 := (hb1.cell (p := ⟨w.heap.size + 1, 3, none⟩) (by show w.heap.size + 1 < _; rw [World.size_alloc, World.size_alloc]; omega)).trans (Resp.box_two w _ _ _ _ 3)
          have HB1 := Num.hide (HB0.out.trans (hb1.mono HB0.out.size))
          clear hb1 HB0 HE
          simp only [List.getElem?_toArray, List.getElem?_cons_succ, List.getElem?_cons_zero] at k1 k2
          go_wp2
          go_ret
          exact ⟨rfl, HB1.out⟩
      · rw [decide_eq_false hll] at HE
        obtain rfl : r = false := by rw [← hr]; exact decide_eq_false (fun h => hll h.2.2.1)
        clear hr hll
        go_enter Tryz.func29, Tryz.ntmps29
        go_wp2_with fail
        refine HE.out.mono ?_
        rintro e w1 ⟨rfl, hb1⟩
        have HB1 := Num.hide (HB0.out.trans (hb1.mono HB0.out.size))
        clear hb1 HB0 HE
        go_wp2
        go_ret
        exact ⟨rfl, HB1.out⟩
    · obtain rfl : r = false := by rw [← hr]; exact decide_eq_false (fun h => hu h.2.1)
      have db : (u1.toList == u2.toList) = false := Flds.text_ne hu
      have db2 : (u1.toList != u2.toList) = true := by rw [bne, db]; rfl
      clear hr hu HE
      go_enter Tryz.func29, Tryz.ntmps29
      go_wp2
      go_ret
      exact ⟨rfl, HB0.out⟩
  · obtain rfl : r = false := by rw [← hr]; exact decide_eq_false (fun h => hm h.1)
    have db : (m1.toList == m2.toList) = false := Flds.text_ne hm
    have db2 : (m1.toList != m2.toList) = true := by rw [bne, db]; rfl
    clear hr hm HE
    go_enter Tryz.func29, Tryz.ntmps29
    go_wp2
    go_ret
    exact ⟨rfl, HB0.out⟩
end Req
end Go.Proofs.YtkenmilglfnmbaaGreatDoor
namespace Go.Proofs.YtkenmilglfnmbaaGreatDoor
open Go.RowKit
set_option linter.unusedVariables false
namespace Mark

/-- the digits of n ahead of what is there (at most so many) -/
def dg : Nat → Nat → List UInt8 → List UInt8
  | 0, _, acc => acc
  | f + 1, n, acc => if n = 0 then acc else dg f (n / 10) (Num.byte ((48 : Int) + (n : Int) % 10) :: acc)
/-- the mark of a number -/
def text (k : Int) : ByteArray := if k ≤ 0 then ⟨#[109, 48]⟩ else ⟨(109 :: dg k.toNat k.toNat []).toArray⟩
theorem dg_zero (f : Nat) (acc : List UInt8) : dg f 0 acc = acc := by
  cases f with
  | zero => rfl
  | succ f => rw [dg, if_pos rfl]
theorem dg_fuel : ∀ (n f : Nat) (acc : List UInt8), n ≤ f → dg f n acc = dg n n acc := by
  intro n
  induction n using Nat.strongRecOn with
  | _ n ih =>
    intro f acc h
    cases n with
    | zero => rw [dg_zero, dg_zero]
    | succ m =>
      obtain ⟨g, rfl⟩ : ∃ g, f = g + 1 := ⟨f - 1, by omega⟩
      rw [dg, dg, if_neg (by omega), if_neg (by omega), ih _ (by omega) g _ (by omega), ih _ (by omega) m _ (by omega)]
theorem dg_step (n : Nat) (acc : List UInt8) (h : 0 < n) : dg n n acc = dg (n / 10) (n / 10) (Num.byte ((48 : Int) + (n : Int) % 10) :: acc) := by
  obtain ⟨m, rfl⟩ : ∃ m, n = m + 1 := ⟨n - 1, by omega⟩
  rw [dg, if_neg (by omega), dg_fuel _ m _ (by omega)]
theorem cons_text (b : UInt8) (acc : List UInt8) : (⟨[b].toArray⟩ : ByteArray) ++ ⟨acc.toArray⟩ = ⟨(b :: acc).toArray⟩ := by
  rw [ByteArray.mk_append_mk]; simp
theorem size_text (acc : List UInt8) : (⟨acc.toArray⟩ : ByteArray).size = acc.length := by
  show acc.toArray.size = _
  rw [List.size_toArray]

set_option maxRecDepth 100000 in
set_option maxHeartbeats 1000000 in
theorem markText_any (k : Int) (w : World) (hk : k ≤ 1152921504606846976) : Calls Tryz.prog 128 #[.int .i64 k] w fun e w' => e = .returned (.string (text k)) ∧ Below w.heap.size w w' := by
  obtain ⟨T, hT⟩ : ∃ T, text k = T := ⟨_, rfl⟩
  rw [hT]
  unfold text at hT
  by_cases h0 : k ≤ 0
  · rw [if_pos h0] at hT
    subst hT
    go_enter Tryz.func128, Tryz.ntmps128
    go_wp2
    go_ret
    exact ⟨rfl, Below.refl _ _⟩
  · rw [if_neg h0] at hT
    obtain ⟨K, rfl⟩ := Int.eq_ofNat_of_zero_le (show 0 ≤ k by omega)
    rw [Int.toNat_natCast] at hT
    have HT := Num.hide hT
    clear hT
    go_enter Tryz.func128, Tryz.ntmps128
    go_wp2
    go_loopw [0, 3] (fun kv ov wr => ∃ (n : Nat) (acc : List UInt8), kv = .int .i64 (n : Int) ∧ ov = .string ⟨acc.toArray⟩ ∧ Hid (dg K K [] = dg n n acc) ∧ n + acc.length ≤ K ∧ Hid (Below w.heap.size w wr)) (fun kv _ _ => (intOf kv).toNat)
    case atStart => exact ⟨K, [], rfl, rfl, rfl, by simp, Below.refl _ _⟩
    case round =>
      obtain ⟨n, acc, rfl, rfl, HD, hn, HB⟩ := hrel
      by_cases hpos : 0 < n
      · have hconv := Mem.conv_one wr ((48 : Int) + (n : Int) % 10) (by omega) (by omega)
        have HD2 : Hid (dg K K [] = dg (n / 10) (n / 10) (Num.byte ((48 : Int) + (n : Int) % 10) :: acc)) := by rw [HD.out]; exact dg_step n acc hpos
        have hcons := cons_text (Num.byte ((48 : Int) + (n : Int) % 10)) acc
        generalize Num.byte ((48 : Int) + (n : Int) % 10) = b at hconv HD2 hcons
        have hs := size_text acc
        go_wp2
        go_roundw
        case rel => exact ⟨n / 10, b :: acc, by go_num, rfl, HD2, by simp only [List.length_cons]; omega, HB.out.alloc HB.out.size _⟩
        case measure => simp [intOf]; omega
      · obtain rfl : n = 0 := by omega
        have hd := HD.out
        rw [dg_zero] at hd
        have hT := HT.out
        rw [hd] at hT
        have hcons : (⟨#[109]⟩ : ByteArray) ++ ⟨acc.toArray⟩ = T := by rw [← hT]; exact cons_text 109 acc
        clear hT hd
        go_wp2
        go_ret
        exact ⟨rfl, HB.out⟩
end Mark
end Go.Proofs.YtkenmilglfnmbaaGreatDoor
namespace Go.Proofs.YtkenmilglfnmbaaGreatDoor
open Go.RowKit
set_option linter.unusedVariables false
namespace Flds

/-- so many marked fields from k on -/
def marks (k : Int) (n : Nat) : List Fld := (List.range n).map fun (i : Nat) => (Mark.text (k + 2 * (i : Int)), Mark.text (k + 2 * (i : Int) + 1))
theorem length_marks (k : Int) (n : Nat) : (marks k n).length = n := by simp [marks]
theorem marks_succ (k : Int) (n : Nat) : marks k (n + 1) = marks k n ++ [(Mark.text (k + 2 * (n : Int)), Mark.text (k + 2 * (n : Int) + 1))] := by simp [marks, List.range_succ]
theorem marks_at (k : Int) (n i : Nat) (h : i < n) : (marks k n)[i]'(by rw [length_marks]; exact h) = (Mark.text (k + 2 * (i : Int)), Mark.text (k + 2 * (i : Int) + 1)) := by simp [marks]
theorem set_marks (k : Int) (l : List Fld) (i : Nat) (h : i < l.length) : (marks k i ++ l.drop i).set i (Mark.text (k + 2 * (i : Int)), Mark.text (k + 2 * (i : Int) + 1)) = marks k (i + 1) ++ l.drop (i + 1) := by
  rw [List.set_append_right _ _ (by rw [length_marks]; exact Nat.le_refl _), length_marks, Nat.sub_self, List.drop_eq_getElem_cons h, List.set_cons_zero, marks_succ, List.append_assoc]; rfl

set_option maxRecDepth 100000 in
set_option maxHeartbeats 1000000 in
theorem mark_any (B : Nat) (v : Value) (l : List Fld) (k : Int) (w : World) (h : Own B w v l) (hl : l.length ≤ 1099511627776) (h0 : 0 ≤ k) (h1 : k ≤ 1099511627776) :
    Calls Tryz.prog 79 #[v, .int .i64 k] w fun e w' => e = .returned (.int .i64 (k + 2 * l.length)) ∧ Own B w' v (marks k l.length) ∧ w.grownBy w' v.ownBlock := by
  have HO := Num.hide h
  obtain ⟨a, c, rfl⟩ := Recs.own_len h
  clear h
  go_enter Tryz.func79, Tryz.ntmps79
  go_wp2
  go_loopw [1, 5] (fun kv iv wr => ∃ i : Nat, i ≤ l.length ∧ kv = .int .i64 (k + 2 * i) ∧ iv = .int .i64 (i : Int) ∧ Hid (Own B wr (.slice a l.length c) (marks k i ++ l.drop i)) ∧ Hid (w.grownBy wr (Value.slice a l.length c).ownBlock)) (fun _ iv _ => l.length - (intOf iv).toNat)
  case atStart => exact ⟨0, by omega, by simp, rfl, HO, Recs.grown_refl _ _⟩
  case round =>
    obtain ⟨i, hi, rfl, rfl, HO2, HG⟩ := hrel
    by_cases hlt : i < l.length
    · have hlen : (marks k i ++ l.drop i).length = l.length := by rw [List.length_append, length_marks, List.length_drop]; omega
      have HM1 := Num.hide (fun W => Mark.markText_any (k + 2 * (i : Int)) W (by omega))
      have HM2 := Num.hide (fun W => Mark.markText_any (k + 2 * (i : Int) + 1) W (by omega))
      have HT := Num.hide (set_marks k l i hlt)
      generalize Mark.text (k + 2 * (i : Int)) = t1 at HM1 HT
      generalize Mark.text (k + 2 * (i : Int) + 1) = t2 at HM2 HT
      generalize marks k i ++ l.drop i = L at HO2 hlen HT
      go_wp2_with fail
      refine (HM1.out _).mono ?_
      rintro e w1 ⟨rfl, hb1⟩
      have HO3 := Num.hide (Recs.own_below HO2.out hb1)
      obtain ⟨g, c', hv, hc, hm, hB, hg, k1, k2, hfz, q1, q2, q3⟩ := own_put HO3.out i (by omega)
      rw [hlen] at hv hc
      simp only [Value.slice.injEq, true_and] at hv
      obtain ⟨rfl, rfl⟩ := hv
      obtain ⟨hs1, hs2⟩ := q1 t1
      have HS1 := Num.hide hs1
      have HG2 := Num.hide (Recs.grown_trans HG.out (Recs.grown_trans (Recs.grown_of_below hb1 _) hs2))
      obtain ⟨o1, ho1⟩ : ∃ u, w1.cell? ⟨g, i * 2, none⟩ = some u := ⟨_, k1⟩
      have f1 := hfz (i * 2)
      have HX : Hid (∃ x, L[i]? = some x) := ⟨_, List.getElem?_eq_getElem (by omega)⟩
      have HS1' : Hid (∃ z, Own B (w1.setCell ⟨g, i * 2, none⟩ (.string t1)) (.slice (some ⟨g, 0, none⟩) l.length c) (L.set i (t1, z))) := ⟨_, hs1⟩
      have HLen := Num.hide hlen
      clear hs1 hs2 q1 q2 q3 k1 k2 hfz HS1 hb1 hlen
      go_wp2_with fail
      refine (HM2.out _).mono ?_
      rintro e w2 ⟨rfl, hb2⟩
      obtain ⟨z, hz⟩ := HS1'.out
      have HO4 := Num.hide (Recs.own_below hz hb2)
      obtain ⟨g', c2, hv, hc2, hm2, hB2, hg2, k1, k2, hfz, q1, q2, q3⟩ := own_put HO4.out i (by rw [List.length_set]; have := HLen.out; omega)
      rw [List.length_set, HLen.out] at hv hc2
      simp only [Value.slice.injEq, Option.some.injEq, Addr.mk.injEq, and_true, true_and] at hv
      obtain ⟨rfl, rfl⟩ := hv
      obtain ⟨hs1, hs2⟩ := q2 t2
      rw [List.set_set] at hs1
      have HS2 : Hid (Own B (w2.setCell ⟨g, i * 2 + 1, none⟩ (.string t2)) (.slice (some ⟨g, 0, none⟩) l.length c) (marks k (i + 1) ++ l.drop (i + 1))) := by
        rw [List.getElem_set_self, HT.out] at hs1; exact hs1
      have HG3 := Num.hide (Recs.grown_trans HG2.out (Recs.grown_trans (Recs.grown_of_below hb2 _) hs2))
      obtain ⟨o2, ho2⟩ : ∃ u, w2.cell? ⟨g, i * 2 + 1, none⟩ = some u := ⟨_, k2⟩
      have f2 := hfz (i * 2 + 1)
      clear hs1 hs2 q1 q2 q3 k1 k2 hfz hb2 hz ho1 f1
      go_wp2
      go_roundw
      case rel => exact ⟨i + 1, by omega, by go_num, by go_num, HS2, HG3⟩
      case measure => simp [intOf]; omega
    · obtain rfl : i = l.length := by omega
      have ho := HO2.out
      rw [List.drop_length, List.append_nil] at ho
      have HO4 := Num.hide ho
      clear ho
      go_wp2
      go_ret
      exact ⟨rfl, HO4.out, HG.out⟩
end Flds
end Go.Proofs.YtkenmilglfnmbaaGreatDoor
namespace Go.Proofs.YtkenmilglfnmbaaGreatDoor
open Go.RowKit
set_option linter.unusedVariables false
namespace Flds

set_option maxRecDepth 100000 in
set_option maxHeartbeats 2000000 in
theorem held_any (v : Value) (n : Nat) (k : Int) (w : World) (h : Is w v (marks k n)) (hl : n ≤ 1099511627776) (h0 : 0 ≤ k) (h1 : k ≤ 1099511627776) :
    Calls Tryz.prog 80 #[v, .int .i64 k] w fun e w' => e = .returned (.int .i64 (k + 2 * n)) ∧ Below w.heap.size w w' := by
  obtain ⟨a, c, rfl, h2⟩ := is_form h
  have h3 : 0 < n → ∃ b o, a = some ⟨b, o, none⟩ ∧ n ≤ c ∧ c ≤ maxLen ∧ b < w.heap.size ∧ ∀ i, i < n → w.cell? ⟨b, o + i * 2, none⟩ = some (.string (Mark.text (k + 2 * (i : Int)))) ∧ w.cell? ⟨b, o + i * 2 + 1, none⟩ = some (.string (Mark.text (k + 2 * (i : Int) + 1))) := by
    intro hn
    obtain ⟨b, o, h4, h5, h6, h7, h8⟩ := h2 (by rw [length_marks]; exact hn)
    refine ⟨b, o, h4, by rw [length_marks] at h5; exact h5, h6, h7, fun i hi => ?_⟩
    have := h8 i (by rw [length_marks]; exact hi)
    rw [marks_at k n i hi] at this
    exact this
  rw [length_marks]
  have HA := Num.hide h3
  clear h h2 h3
  go_enter Tryz.func80, Tryz.ntmps80
  go_wp2
  go_loopw [1, 5] (fun kv iv wr => ∃ i : Nat, i ≤ n ∧ kv = .int .i64 (k + 2 * i) ∧ iv = .int .i64 (i : Int) ∧ Hid (Below w.heap.size w wr)) (fun _ iv _ => n - (intOf iv).toNat)
  case atStart => exact ⟨0, by omega, by simp, rfl, Below.refl _ _⟩
  case round =>
    obtain ⟨i, hi, rfl, rfl, HB⟩ := hrel
    by_cases hlt : i < n
    · obtain ⟨b, o, rfl, hc, hm, hblt, hcell⟩ := Num.unhide HA (by omega)
      obtain ⟨g1, g2⟩ := hcell i hlt
      have c1 : wr.cell? ⟨b, o + i * 2, none⟩ = some (.string (Mark.text (k + 2 * (i : Int)))) := by rw [HB.out.cell (p := ⟨b, o + i * 2, none⟩) hblt]; exact g1
      have c2 : wr.cell? ⟨b, o + i * 2 + 1, none⟩ = some (.string (Mark.text (k + 2 * (i : Int) + 1))) := by rw [HB.out.cell (p := ⟨b, o + i * 2 + 1, none⟩) hblt]; exact g2
      have HM1 := Num.hide (fun W => Mark.markText_any (k + 2 * (i : Int)) W (by omega))
      have HM2 := Num.hide (fun W => Mark.markText_any (k + 2 * (i : Int) + 1) W (by omega))
      have hsz := HB.out.size
      generalize Mark.text (k + 2 * (i : Int)) = t1 at c1 HM1
      generalize Mark.text (k + 2 * (i : Int) + 1) = t2 at c2 HM2
      clear hcell g1 g2
      go_wp2
      go_region_with (go_at_call 128; refine (Num.unhide HM1 _).mono ?_; rintro e w2 ⟨rfl, hb2⟩; have d1 := (hb2.cell (p := ⟨b, o + i * 2, none⟩) (by simp; omega)).trans c1; have d2 := (hb2.cell (p := ⟨b, o + i * 2 + 1, none⟩) (by simp; omega)).trans c2)
      all_goals
        have HB2 := Num.hide (HB.out.drew.trans (hb2.mono hsz))
        have hsz2 := HB2.out.size
        clear hb2 d1 c1 c2
        go_wp2
        go_region_with (go_at_call 128; refine (Num.unhide HM2 _).mono ?_; rintro e w3 ⟨rfl, hb3⟩; have d3 := (hb3.cell (p := ⟨b, o + i * 2 + 1, none⟩) (by simp; omega)).trans d2)
        all_goals
          have HB3 := Num.hide (HB2.out.drew.trans (hb3.mono hsz2))
          clear hb3 d2 d3
          go_wp2
          go_roundw
          case rel => exact ⟨i + 1, by omega, by go_num, by go_num, HB3⟩
          case measure => simp [intOf]; omega
    · obtain rfl : i = n := by omega
      go_wp2
      go_ret
      exact ⟨rfl, HB.out⟩
end Flds
end Go.Proofs.YtkenmilglfnmbaaGreatDoor
namespace Go.Proofs.YtkenmilglfnmbaaGreatDoor
open Go.RowKit
set_option linter.unusedVariables false
namespace Req

set_option maxRecDepth 100000 in
set_option maxHeartbeats 1000000 in
theorem mark_any (m u : ByteArray) (b : ByteArray) (B : Nat) (v : Value) (l : List Flds.Fld) (k : Int) (w : World) (h : Flds.Own B w v l) (hl : l.length ≤ 1099511627776) (h0 : 0 ≤ k) (h1 : k ≤ 1099511627776) :
    Calls Tryz.prog 30 #[val m u v b, .int .i64 k] w fun e w' => e = .returned (.int .i64 (k + 2 * l.length)) ∧ Flds.Own B w' v (Flds.marks k l.length) ∧ w.grownBy w' v.ownBlock := by
  obtain ⟨a, c, rfl⟩ := Recs.own_len h
  unfold val
  have HO := Num.hide (World.ownsRow.alloc h (.cells #[.string m, .string u, .slice a l.length c, .string b] 39))
  have HM := Num.hide (fun W h => Flds.mark_any B (.slice a l.length c) l k W h hl h0 h1)
  clear h
  go_enter Tryz.func30, Tryz.ntmps30
  go_wp2_with fail
  refine (HM.out _ HO.out).mono ?_
  rintro e W1 ⟨rfl, ho, hg⟩
  have HO1 := Num.hide ho
  have HG1 := Num.hide (Recs.grown_trans (Recs.grown_of_below ((Below.refl w.heap.size w).alloc (Nat.le_refl _) _) _) hg)
  clear ho hg HO HM
  go_wp2
  go_ret
  exact ⟨rfl, HO1.out, HG1.out⟩
set_option maxRecDepth 100000 in
set_option maxHeartbeats 1000000 in
theorem held_any (m u : ByteArray) (b : ByteArray) (v : Value) (n : Nat) (k : Int) (w : World) (h : Flds.Is w v (Flds.marks k n)) (hl : n ≤ 1099511627776) (h0 : 0 ≤ k) (h1 : k ≤ 1099511627776) :
    Calls Tryz.prog 31 #[val m u v b, .int .i64 k] w fun e w' => e = .returned (.int .i64 (k + 2 * n)) ∧ Below w.heap.size w w' := by
  obtain ⟨a, c, hv, _⟩ := Flds.is_form h
  rw [Flds.length_marks] at hv
  subst hv
  unfold val
  have hb0 := (Below.refl w.heap.size w).alloc (Nat.le_refl _) (.cells #[.string m, .string u, .slice a n c, .string b] 39)
  have HI := Num.hide (Recs.is_stay h (Nat.le_refl _) hb0)
  have HB0 := Num.hide hb0
  have HH := Num.hide (fun W h => Flds.held_any (.slice a n c) n k W h hl h0 h1)
  have dk : decide (k + 2 * (n : Int) < 0) = false := by rw [decide_eq_false_iff_not]; omega
  clear h hb0
  go_enter Tryz.func31, Tryz.ntmps31
  go_wp2_with fail
  refine (HH.out _ HI.out).mono ?_
  rintro e W1 ⟨rfl, hb⟩
  have HB1 := Num.hide (HB0.out.trans (hb.mono HB0.out.size))
  clear hb HI HB0 HH
  go_wp2
  go_ret
  exact ⟨rfl, HB1.out⟩
end Req
end Go.Proofs.YtkenmilglfnmbaaGreatDoor
namespace Go.Proofs.YtkenmilglfnmbaaGreatDoor
open Go.RowKit
set_option linter.unusedVariables false
namespace Msg

theorem drop_len (l : List Flds.Fld) : (bare l).length ≤ l.length := Nat.le_trans (Flds.drop_length _ _) (Flds.drop_length _ _)
theorem readReq_len (s : ByteArray) : (readReq s).1.2.2.1.length ≤ 13 := by
  have hn : ∀ c, (noRq c).1.2.2.1.length ≤ 13 := fun c => Nat.zero_le _
  unfold readReq
  split
  · exact hn _
  · cases Line.eol s 0 with
    | none => exact hn _
    | some k =>
      simp only
      cases hq : Flds.read (s.extract (k + 2) s.size) with
      | none => exact hn _
      | some q =>
        obtain ⟨l, n⟩ := q
        simp only
        have h1 : l.length ≤ 13 := by
          have := Flds.readL_length (s.extract (k + 2) s.size)
          rw [(Flds.told_some hq).1] at this
          exact this
        split
        · split
          · have := drop_len l
            show (bare l).length ≤ 13
            omega
          · exact hn _
        · exact hn _
/-- a box of a request -/
def RBox (g : Nat) (m u : ByteArray) (v : Value) (b : ByteArray) (W : World) : Prop := W.heap[g]? = some (.cells #[.string m, .string u, v, .string b] 39)
theorem RBox.step {g : Nat} {m u b : ByteArray} {v : Value} {W W' : World} (h : RBox g m u v b W) (hb : Below W.heap.size W W') : RBox g m u v b W' := (hb.block g (Array.getElem?_eq_some_iff.1 h).1).trans h
theorem RBox.lt {g : Nat} {m u b : ByteArray} {v : Value} {W : World} (h : RBox g m u v b W) : g < W.heap.size := (Array.getElem?_eq_some_iff.1 h).1
theorem RBox.cells {g : Nat} {m u b : ByteArray} {v : Value} {W : World} (h : RBox g m u v b W) : W.cell? ⟨g, 0, none⟩ = some (.string m) ∧ W.cell? ⟨g, 1, none⟩ = some (.string u) ∧ W.cell? ⟨g, 2, none⟩ = some v ∧ W.cell? ⟨g, 3, none⟩ = some (.string b) :=
  ⟨Recs.box_cell h 0, Recs.box_cell h 1, Recs.box_cell h 2, Recs.box_cell h 3⟩
theorem RBox.mark {g : Nat} {m u b : ByteArray} {v : Value} {W W' : World} {row : Option Nat} (h : RBox g m u v b W) (hg : W.grownBy W' row) (hne : ∀ k, row = some k → k ≠ g) : RBox g m u v b W' :=
  (hg.block g h.lt (fun e => hne g e.symm rfl)).trans h
set_option maxRecDepth 100000 in
set_option maxHeartbeats 8000000 in
theorem readReq_law (G : World → Prop) (hG : ∀ W W', G W → Below W.heap.size W W' → G W')
    (hi : ∀ (s : ByteArray) W, s.size ≤ 1048576 → G W → Calls Tryz.prog 19 #[.string s] W fun e w' => ∃ v', e = .returned (.tuple #[Req.val (readReq s).1.1 (readReq s).1.2.1 v' (readReq s).1.2.2.2, .int .i64 (readReq s).2.1, .int .i64 (readReq s).2.2]) ∧ Flds.Own W.heap.size w' v' (readReq s).1.2.2.1 ∧ Below W.heap.size W w')
    (s : ByteArray) (w : World) (hs : s.size ≤ maxLen) (hg : G w) :
    Calls Tryz.prog 5 #[.string s] w fun e w' => e = .returned (.bool true) ∧ Below w.heap.size w w' := by
  unfold maxLen at hs
  by_cases hbig : 1048576 < s.size
  · have db : decide ((1048576 : Int) < (s.size : Int)) = true := by simp; omega
    clear hi hG hg
    go_enter Tryz.func5, Tryz.ntmps5
    go_wp2
    go_ret
    exact ⟨rfl, Below.refl _ _⟩
  · have db : decide ((1048576 : Int) < (s.size : Int)) = false := by simp; omega
    have HS := Num.hide (fun W => readReq_spec s W (by omega))
    have HI := Num.hide (fun W (hb : Below w.heap.size w W) => hi s W (by omega) (hG w W hg hb))
    have hL := readReq_len s
    clear hi hG hg
    generalize readReq s = R at HS HI hL
    obtain ⟨⟨m, u, L, b⟩, N, C⟩ := R
    simp only at HS HI hL
    unfold Req.val at HS HI
    have HEq := Num.hide (fun v1 v2 W h1 h2 => Req.eq_any m m u u v1 v2 L L b b W h1 h2 (by omega))
    have HMk := Num.hide (fun B v W h => Req.mark_any m u b B v L 1 W h (by omega) (by omega) (by omega))
    have HHd := Num.hide (fun v W h => Req.held_any m u b v L.length 1 W h (by omega) (by omega) (by omega))
    rw [decide_eq_true ⟨rfl, rfl, rfl, rfl⟩] at HEq
    unfold Req.val at HEq HMk HHd
    go_enter Tryz.func5, Tryz.ntmps5
    go_wp2_with fail
    refine (HS.out _).mono ?_
    rintro e W1 ⟨vw, rfl, ho1, hb1⟩
    obtain ⟨aw, cw, hvw⟩ := Recs.own_len ho1
    subst hvw
    have O1 := Num.hide (World.ownsRow.alloc ho1 (.cells #[.string m, .string u, .slice aw L.length cw, .string b] 39))
    have B1 := Num.hide (hb1.alloc hb1.size (.cells #[.string m, .string u, .slice aw L.length cw, .string b] 39))
    have X1 : Hid (RBox W1.heap.size m u (.slice aw L.length cw) b (W1.alloc (.cells #[.string m, .string u, .slice aw L.length cw, .string b] 39))) := heap_alloc_new W1 _
    have z1 : (W1.alloc (.cells #[.string m, .string u, .slice aw L.length cw, .string b] 39)).heap.size = W1.heap.size + 1 := by simp
    have D1 : Hid (∀ k, (Value.slice aw L.length cw).ownBlock = some k → k < W1.heap.size) := fun k hk => (Recs.own_lt ho1 k hk).2
    have s1 := hb1.size
    clear ho1 hb1
    go_upto_region 4 with fail
    generalize W1.alloc (.cells #[.string m, .string u, .slice aw L.length cw, .string b] 39) = V1 at O1 B1 X1 z1 ⊢
    generalize W1.heap.size = g1 at X1 z1 D1 s1 ⊢
    go_wp2_with fail
    refine (HI.out _ B1.out).mono ?_
    rintro e W2 ⟨vg, rfl, ho2, hb2⟩
    obtain ⟨ag, cg, hvg⟩ := Recs.own_len ho2
    subst hvg
    have O1b := Num.hide (World.ownsRow.alloc (Recs.own_below O1.out hb2) (.cells #[.string m, .string u, .slice ag L.length cg, .string b] 39))
    have O2 := Num.hide (World.ownsRow.alloc ho2 (.cells #[.string m, .string u, .slice ag L.length cg, .string b] 39))
    have B2 := Num.hide ((B1.out.trans (hb2.mono B1.out.size)).alloc (Nat.le_trans B1.out.size hb2.size) (.cells #[.string m, .string u, .slice ag L.length cg, .string b] 39))
    have X1b := Num.hide ((X1.out.step hb2).step ((Below.refl W2.heap.size W2).alloc (Nat.le_refl _) (.cells #[.string m, .string u, .slice ag L.length cg, .string b] 39)))
    have X2 : Hid (RBox W2.heap.size m u (.slice ag L.length cg) b (W2.alloc (.cells #[.string m, .string u, .slice ag L.length cg, .string b] 39))) := heap_alloc_new W2 _
    have z2 : (W2.alloc (.cells #[.string m, .string u, .slice ag L.length cg, .string b] 39)).heap.size = W2.heap.size + 1 := by simp
    have D2 : Hid (∀ k, (Value.slice ag L.length cg).ownBlock = some k → V1.heap.size ≤ k ∧ k < W2.heap.size) := fun k hk => Recs.own_lt ho2 k hk
    clear ho2 hb2 O1 B1 X1
    go_upto_region 5 with fail
    generalize W2.alloc (.cells #[.string m, .string u, .slice ag L.length cg, .string b] 39) = V2 at O1b O2 B2 X1b X2 z2 ⊢
    generalize W2.heap.size = g2 at X2 z2 D2 ⊢
    obtain ⟨p0, p1, p2, p3⟩ := X1b.out.cells
    obtain ⟨q0, q1, q2, q3⟩ := X2.out.cells
    go_wp2_with fail
    refine (HEq.out _ _ _ (Recs.own_is Flds.cells_len O2.out) (Recs.own_is Flds.cells_len O1b.out)).mono ?_
    rintro e W3 ⟨rfl, hb3⟩
    have O1c := Num.hide (Recs.own_below O1b.out hb3)
    have O3 := Num.hide (Recs.own_below O2.out hb3)
    have B3 := Num.hide (B2.out.trans (hb3.mono B2.out.size))
    have X1c := Num.hide (X1b.out.step hb3)
    have X3 := Num.hide (X2.out.step hb3)
    have s3 := hb3.size
    clear hb3 O1b O2 B2 X1b X2 p0 p1 p2 p3 q0 q1 q2 q3
    obtain ⟨q0, q1, q2, q3⟩ := X3.out.cells
    go_wp2_with fail
    refine (HMk.out _ _ _ O3.out).mono ?_
    rintro e W4 ⟨rfl, ho4, hg4⟩
    have B4 := Num.hide (B3.out.trans (Recs.below_mark O3.out (by omega) (by have := B3.out.size; omega) hg4))
    have O4 := Num.hide ho4
    have O1d := Num.hide (Recs.own_kept O1c.out hg4 (by
      cases hv : (Value.slice aw L.length cw).ownBlock with
      | none => exact .inl rfl
      | some k =>
        right
        intro e
        have h1 := D1.out k hv
        have h2 := D2.out k e.symm
        omega))
    have X1d := Num.hide (X1c.out.mark hg4 (fun k hk => by have := D2.out k hk; omega))
    have X4 := Num.hide (X3.out.mark hg4 (fun k hk => by have := D2.out k hk; omega))
    have s4 := hg4.size
    clear ho4 hg4 O1c O3 B3 X1c X3 q0 q1 q2 q3
    obtain ⟨q0, q1, q2, q3⟩ := X4.out.cells
    have dm : decide ((1 : Int) + 2 * (L.length : Int) < 0) = false := by simp; omega
    go_wp2_with fail
    refine (HHd.out _ _ (Recs.own_is Flds.cells_len O4.out)).mono ?_
    rintro e W5 ⟨rfl, hb5⟩
    have O5 := Num.hide (Recs.own_below O4.out hb5)
    have O1e := Num.hide (Recs.own_below O1d.out hb5)
    have B5 := Num.hide (B4.out.trans (hb5.mono B4.out.size))
    have X1e := Num.hide (X1d.out.step hb5)
    have X5 := Num.hide (X4.out.step hb5)
    clear hb5 O4 O1d B4 X1d X4 q0 q1 q2 q3
    go_wp2_with fail
    refine (HI.out _ B5.out).mono ?_
    rintro e W6 ⟨vh, rfl, ho6, hb6⟩
    obtain ⟨ah, ch, hvh⟩ := Recs.own_len ho6
    subst hvh
    have O5b := Num.hide (World.ownsRow.alloc (Recs.own_below O5.out hb6) (.cells #[.string m, .string u, .slice ah L.length ch, .string b] 39))
    have O1f := Num.hide (World.ownsRow.alloc (Recs.own_below O1e.out hb6) (.cells #[.string m, .string u, .slice ah L.length ch, .string b] 39))
    have O6 := Num.hide (World.ownsRow.alloc ho6 (.cells #[.string m, .string u, .slice ah L.length ch, .string b] 39))
    have B6 := Num.hide ((B5.out.trans (hb6.mono B5.out.size)).alloc (Nat.le_trans B5.out.size hb6.size) (.cells #[.string m, .string u, .slice ah L.length ch, .string b] 39))
    have hal := (Below.refl W6.heap.size W6).alloc (Nat.le_refl _) (.cells #[.string m, .string u, .slice ah L.length ch, .string b] 39)
    have X1f := Num.hide ((X1e.out.step hb6).step hal)
    have X5b := Num.hide ((X5.out.step hb6).step hal)
    have X6 : Hid (RBox W6.heap.size m u (.slice ah L.length ch) b (W6.alloc (.cells #[.string m, .string u, .slice ah L.length ch, .string b] 39))) := heap_alloc_new W6 _
    clear ho6 hb6 hal O5 O1e B5 X1e X5
    go_upto_region 16 with fail
    generalize W6.alloc (.cells #[.string m, .string u, .slice ah L.length ch, .string b] 39) = V6 at O5b O1f O6 B6 X1f X5b X6 ⊢
    generalize W6.heap.size = g6 at X6 ⊢
    obtain ⟨p0, p1, p2, p3⟩ := X1f.out.cells
    obtain ⟨q0, q1, q2, q3⟩ := X6.out.cells
    go_wp2_with fail
    refine (HEq.out _ _ _ (Recs.own_is Flds.cells_len O6.out) (Recs.own_is Flds.cells_len O1f.out)).mono ?_
    rintro e W7 ⟨rfl, hb7⟩
    have O7 := Num.hide (Recs.own_below O5b.out hb7)
    have B7 := Num.hide (B6.out.trans (hb7.mono B6.out.size))
    have X7 := Num.hide (X5b.out.step hb7)
    clear hb7 O5b O1f O6 B6 X1f X5b X6 p0 p1 p2 p3 q0 q1 q2 q3
    obtain ⟨q0, q1, q2, q3⟩ := X7.out.cells
    go_wp2_with fail
    refine (HHd.out _ _ (Recs.own_is Flds.cells_len O7.out)).mono ?_
    rintro e W8 ⟨rfl, hb8⟩
    have B8 := Num.hide (B7.out.trans (hb8.mono B7.out.size))
    clear hb8
    go_wp2
    go_ret
    exact ⟨rfl, B8.out⟩
end Msg
end Go.Proofs.YtkenmilglfnmbaaGreatDoor
namespace Go.Proofs.YtkenmilglfnmbaaGreatDoor
open Go.RowKit Go.Extern.Stop Go.Stop Go.Extern Go.Extern.ReflectliteType
set_option linter.unusedVariables false
namespace IsErr

theorem typeOf_ (v : Value) (w : World) : (Extern.ReflectliteType.typeOf #[.iface 199 v]).run Tryz.prog w = .ok (.iface 173 (.agg #[.pointer (some ⟨11, 199, none⟩)])) w := by kernel_rfl
/-- what the library's Comparable is in the model -/
def cmpF : TypeId → Sem Value := fun t => do Extern.Rtype.noPackHeld "Comparable" t; pure (.bool (← typeInfo t).comparable)
theorem comparable_ (w : World) : (Extern.ReflectliteType.method cmpF #[.agg #[.pointer (some ⟨11, 199, none⟩)]]).run Tryz.prog w = .ok (.bool true) w := by kernel_rfl
theorem method_ (v : Value) (w : World) : (Go.method 360 173 v "Comparable").run Tryz.prog w = .ok (247, v) w := by kernel_rfl
theorem comp_ : (Tryz.prog.info? 199).map (·.comparable) = some true := by kernel_rfl
theorem size_ : (Tryz.prog.info? 201).map (·.size) = some 1 := by kernel_rfl
theorem noIs (v : Value) (xT : TypeId) (w : World) : (Instr.typeAssert (.iface 199 v) xT 175 true).run Tryz.prog w = .ok (.tuple #[.nilIface, .bool false]) w := run_typeAssert_lacksB Tryz.underlying175 (by kernel_rfl) (by kernel_rfl) v xT w
theorem noUnwrap (v : Value) (xT : TypeId) (w : World) : (Instr.typeAssert (.iface 199 v) xT 178 true).run Tryz.prog w = .ok (.tuple #[.nilIface, .bool false]) w := run_typeAssert_lacksB Tryz.underlying178 (by kernel_rfl) (by kernel_rfl) v xT w
theorem noUnwraps (v : Value) (xT : TypeId) (w : World) : (Instr.typeAssert (.iface 199 v) xT 180 true).run Tryz.prog w = .ok (.tuple #[.nilIface, .bool false]) w := run_typeAssert_lacksB Tryz.underlying180 (by kernel_rfl) (by kernel_rfl) v xT w
set_option maxRecDepth 100000 in
set_option maxHeartbeats 2000000 in
/-- errors.Is(x, x) -/
theorem is_same (a : Addr) (w : World) :
    Calls Tryz.prog 85 #[.iface 199 (.pointer (some a)), .iface 199 (.pointer (some a))] w fun e w' => e = .returned (.bool true) ∧ w = w' := by
  obtain ⟨i, hi, hcmp⟩ := Option.map_eq_some_iff.1 comp_
  obtain ⟨j, hj, hjs⟩ := Option.map_eq_some_iff.1 size_
  have h8 := @run_callFunc_extern Tryz.prog 130 _ Extern.ReflectliteType.typeOf Tryz.func130 (by kernel_rfl) (by kernel_rfl) (by kernel_rfl) (by kernel_rfl)
  have h32 := @run_callFunc_extern Tryz.prog 247 _ (Extern.ReflectliteType.method cmpF) Tryz.func247 (by kernel_rfl) (by kernel_rfl) (by kernel_rfl) (by kernel_rfl)
  have tT := typeOf_
  have cT := comparable_
  have mR := method_
  have heq := run_eql_iface_ptr_same (P := Tryz.prog) w a Tryz.underlying71 Tryz.underlying199 hi hcmp hj
  go_enter Tryz.func85, Tryz.ntmps85
  go_wp2
  refine wp_loop_rounds 1 ?_
  rw [rounds_succ]
  go_wp2
  go_ret
  exact ⟨rfl, rfl⟩
/-- errors.Is(nil, x) -/
theorem is_nil (b : Addr) (w : World) :
    Calls Tryz.prog 85 #[.nilIface, .iface 199 (.pointer (some b))] w fun e w' => e = .returned (.bool false) ∧ w = w' := by
  have hn := run_eql_iface_nil_left (P := Tryz.prog) w 199 (.pointer (some b)) Tryz.underlying71
  go_enter Tryz.func85, Tryz.ntmps85
  go_wp2
  go_ret
  exact ⟨rfl, rfl⟩
set_option maxRecDepth 100000 in
set_option maxHeartbeats 2000000 in
/-- errors.Is(x, y), two pointers that differ -/
theorem is_other (a b : Addr) (ca cb : Array Value) (ta tb : TypeId) (w : World) (hne : a ≠ b) (ha : w.heap[a.block]? = some (.cells ca ta (0, 0))) (hb : w.heap[b.block]? = some (.cells cb tb (0, 0))) :
    Calls Tryz.prog 85 #[.iface 199 (.pointer (some a)), .iface 199 (.pointer (some b))] w fun e w' => e = .returned (.bool false) ∧ w = w' := by
  obtain ⟨i, hi, hcmp⟩ := Option.map_eq_some_iff.1 comp_
  obtain ⟨j, hj, hjs⟩ := Option.map_eq_some_iff.1 size_
  have h8 := @run_callFunc_extern Tryz.prog 130 _ Extern.ReflectliteType.typeOf Tryz.func130 (by kernel_rfl) (by kernel_rfl) (by kernel_rfl) (by kernel_rfl)
  have h32 := @run_callFunc_extern Tryz.prog 247 _ (Extern.ReflectliteType.method cmpF) Tryz.func247 (by kernel_rfl) (by kernel_rfl) (by kernel_rfl) (by kernel_rfl)
  have tT := typeOf_
  have cT := comparable_
  have mR := method_
  have nE := noIs
  have uE := noUnwrap
  have vE := noUnwraps
  have heq := run_eql_iface_ptr_other (P := Tryz.prog) w Tryz.underlying71 Tryz.underlying199 hi hcmp hj (by rw [hjs]; decide) hne ha hb
  go_enter Tryz.func85, Tryz.ntmps85
  go_wp2
  refine wp_loop_rounds 1 ?_
  rw [rounds_succ]
  go_wp2
  go_ret
  exact ⟨rfl, rfl⟩
end IsErr
end Go.Proofs.YtkenmilglfnmbaaGreatDoor
namespace Go.Proofs.YtkenmilglfnmbaaGreatDoor
open Go.RowKit
set_option linter.unusedVariables false
namespace Msg

/-- the box of a reader: its text, how far it has come, the fields that it has read -/
def Rd (g : Nat) (s : ByteArray) (n : Nat) (v : Value) (W : World) : Prop := W.heap[g]? = some (.cells #[.string s, .int .i64 (n : Int), v] 129 (0, 0))
theorem Rd.lt {g : Nat} {s : ByteArray} {n : Nat} {v : Value} {W : World} (h : Rd g s n v W) : g < W.heap.size := (Array.getElem?_eq_some_iff.1 h).1
theorem Rd.step {g : Nat} {s : ByteArray} {n : Nat} {v : Value} {W W' : World} (h : Rd g s n v W) (hb : Below W.heap.size W W') : Rd g s n v W' := (hb.block g h.lt).trans h
theorem Rd.cells {g : Nat} {s : ByteArray} {n : Nat} {v : Value} {W : World} (h : Rd g s n v W) : W.cell? ⟨g, 0, none⟩ = some (.string s) ∧ W.cell? ⟨g, 1, none⟩ = some (.int .i64 (n : Int)) ∧ W.cell? ⟨g, 2, none⟩ = some v :=
  ⟨Recs.box_cell h 0, Recs.box_cell h 1, Recs.box_cell h 2⟩
theorem Rd.pass {g : Nat} {s : ByteArray} {n : Nat} {v : Value} {W : World} (h : Rd g s n v W) (k : Nat) : Rd g s k v (W.setCell ⟨g, 1, none⟩ (.int .i64 (k : Int))) := Recs.box_set h 1 _
theorem Rd.hold {g : Nat} {s : ByteArray} {n : Nat} {v : Value} {W : World} (h : Rd g s n v W) (u : Value) : Rd g s n u (W.setCell ⟨g, 2, none⟩ u) := Recs.box_set h 2 _
/-- a store into the box leaves all else -/
theorem grown_set (W : World) (g i : Nat) (u : Value) : W.grownBy (W.setCell ⟨g, i, none⟩ u) (some g) :=
  ⟨rfl, rfl, rfl, by simp, fun j hj hr => heap_setCell_other W ⟨g, i, none⟩ j u (fun e => hr (by rw [show j = g from e]))⟩
/-- how a call ends whose code is c: it throws the error of that code -/
def thrown (m b : Addr) (c : Nat) : Ending := .panicked [{ v := Body.errV m b c, recovered := false }]

set_option maxRecDepth 100000 in
set_option maxHeartbeats 1000000 in
theorem rest_impl (g : Nat) (s : ByteArray) (n : Nat) (v : Value) (W : World) (h : Rd g s n v W) (hn : n ≤ s.size) (hs : s.size ≤ 1048576) :
    Calls Tryz.prog 157 #[.pointer (some ⟨g, 0, none⟩)] W fun e w' => e = .returned (.string (s.extract n s.size)) ∧ Below W.heap.size W w' := by
  obtain ⟨c0, c1, _⟩ := h.cells
  clear h
  go_enter Tryz.func157, Tryz.ntmps157
  go_wp2
  go_quiet (fail)
  go_wp2
  go_ret
  exact ⟨rfl, Recs.below_drewN (Below.refl _ W) _⟩
set_option maxRecDepth 100000 in
set_option maxHeartbeats 1000000 in
theorem pass_impl (g : Nat) (s : ByteArray) (n k : Nat) (v : Value) (W : World) (h : Rd g s n v W) (hn : n ≤ 1048576) (hk : k ≤ 1048576) :
    Calls Tryz.prog 159 #[.pointer (some ⟨g, 0, none⟩), .int .i64 (k : Int)] W fun e w' => e = .returned (.tuple #[]) ∧ Rd g s (n + k) v w' ∧ W.grownBy w' (some g) := by
  obtain ⟨c0, c1, _⟩ := h.cells
  have z1 := Recs.box_thaw h 1
  have HR := Num.hide (h.pass (n + k))
  have HG := Num.hide (grown_set W g 1 (.int .i64 ((n + k : Nat) : Int)))
  rw [Int.natCast_add] at HR HG
  clear h
  go_enter Tryz.func159, Tryz.ntmps159
  go_wp2
  go_end0
  exact ⟨rfl, HR.out, HG.out⟩
set_option maxRecDepth 100000 in
set_option maxHeartbeats 1000000 in
theorem demand_yes (W : World) : Calls Tryz.prog 104 #[.bool true] W fun e w' => e = .returned (.tuple #[]) ∧ W = w' := by
  go_enter Tryz.func104, Tryz.ntmps104
  go_wp2
  go_end0
  exact ⟨rfl, rfl⟩
set_option maxRecDepth 100000 in
set_option maxHeartbeats 1000000 in
theorem demand_no (m b : Addr) (W : World) (hE : Body.Errs m b W) : Calls Tryz.prog 104 #[.bool false] W fun e w' => e = thrown m b 2 ∧ W = w' := by
  have cb := hE.cb
  clear hE
  go_enter Tryz.func104, Tryz.ntmps104
  go_wp2
  exact ⟨rfl, rfl, rfl⟩
end Msg
end Go.Proofs.YtkenmilglfnmbaaGreatDoor
namespace Go.Proofs.YtkenmilglfnmbaaGreatDoor
open Go.RowKit
set_option linter.unusedVariables false
namespace Msg
open Line (byteAt byteAt_eq)

def blkI (r : Option Nat) (i : Nat) : Int := match r with | some k => (k : Int) - (i : Int) | none => -1
theorem index_blF (s : ByteArray) : ∀ (n i : Nat), n = s.size - i → Lib.index (s.data.toList.drop i) [32] = blkI (blF s n i) i := by
  intro n
  induction n with
  | zero => intro i h; rw [Line.drop_end s i (by omega)]; rfl
  | succ n ih =>
    intro i h
    obtain ⟨b, e, hb⟩ := Line.byteAt_list s i (by omega)
    have ih2 := ih (i + 1) (by omega)
    rw [e]
    unfold Lib.index blF
    rw [ih2]
    by_cases hc : byteAt s i = 32
    · rw [if_pos hc, if_pos]
      · show (0 : Int) = (i : Int) - (i : Int); omega
      · have h58 : b = 32 := by rw [← UInt8.toNat_inj, ← hb]; exact hc
        rw [h58]; rfl
    · rw [if_neg hc, if_neg]
      · cases hg : blF s n (i + 1) with
        | none => rfl
        | some k =>
          have := blF_in s _ _ _ hg
          show (if ((k : Int) - ((i + 1 : Nat) : Int) == -1) = true then (-1 : Int) else (k : Int) - ((i + 1 : Nat) : Int) + 1) = (k : Int) - (i : Int)
          rw [if_neg (by rw [beq_iff_eq]; omega)]; omega
      · intro hp
        apply hc
        simp only [List.isPrefixOf, Bool.and_eq_true, beq_iff_eq, and_true] at hp
        rw [hb, ← hp]; rfl
theorem index_blk (s : ByteArray) (i : Nat) : Lib.indexB (s.extract i s.size) ⟨#[32]⟩ = blkI (blk s i) i := by
  show Lib.index (s.extract i s.size).data.toList [32] = _
  rw [Line.extract_list]
  exact index_blF s _ i rfl
theorem cutb_none {s : ByteArray} {i : Nat} (h : blk s i = none) : (⟨(Lib.cut (s.extract i s.size).data.toList (⟨#[32]⟩ : ByteArray).data.toList).1.toArray⟩ : ByteArray) = s.extract i s.size ∧ (⟨(Lib.cut (s.extract i s.size).data.toList (⟨#[32]⟩ : ByteArray).data.toList).2.1.toArray⟩ : ByteArray) = ByteArray.empty ∧ (Lib.cut (s.extract i s.size).data.toList (⟨#[32]⟩ : ByteArray).data.toList).2.2 = false :=
  Lib.cutB_miss _ _ (by rw [index_blk, h]; rfl)
theorem cutb_some {s : ByteArray} {i k : Nat} (h : blk s i = some k) : (⟨(Lib.cut (s.extract i s.size).data.toList (⟨#[32]⟩ : ByteArray).data.toList).1.toArray⟩ : ByteArray) = s.extract i k ∧ (⟨(Lib.cut (s.extract i s.size).data.toList (⟨#[32]⟩ : ByteArray).data.toList).2.1.toArray⟩ : ByteArray) = s.extract (k + 1) s.size ∧ (Lib.cut (s.extract i s.size).data.toList (⟨#[32]⟩ : ByteArray).data.toList).2.2 = true := by
  have hin := blk_in h
  obtain ⟨h1, h2, h3⟩ := Lib.cutB_hit (s.extract i s.size) ⟨#[32]⟩ (k - i) (by rw [index_blk, h]; show (k : Int) - (i : Int) = ((k - i : Nat) : Int); omega)
  refine ⟨h1.trans (Line.ext_ext s i k hin.1 (by omega)), h2.trans ?_, h3⟩
  show (s.extract i s.size).extract (k - i + 1) (s.extract i s.size).size = _
  rw [ByteArray.extract_extract, ByteArray.size_extract]
  congr 1 <;> omega
/-- are there two blanks in a line? -/
def parted (s : ByteArray) : Bool := match blk s 0 with | none => false | some a => (blk s (a + 1)).isSome
theorem parted_no {s : ByteArray} (h : parted s = false) : words s = (⟨#[]⟩, ⟨#[]⟩, ⟨#[]⟩) := by
  unfold parted at h
  unfold words
  cases h1 : blk s 0 with
  | none => rfl
  | some a =>
    rw [h1] at h
    simp only at h ⊢
    cases h2 : blk s (a + 1) with
    | none => rfl
    | some b => rw [h2] at h; cases h
theorem contains_whole (s : ByteArray) : Lib.contains s.data.toList [13, 10, 13, 10] = whole s := by
  unfold Lib.contains
  rcases Lib.index_spec s.data.toList [13, 10, 13, 10] with ⟨h1, h2⟩ | ⟨i, h1, h2, h3, _⟩
  · rw [h1]
    cases hw : whole s with
    | false => rfl
    | true =>
      obtain ⟨p, q, hpq⟩ := whole_at hw
      have := h2 p.length (by rw [hpq, List.length_append]; omega)
      unfold Lib.occAt at this
      rw [hpq, List.drop_left] at this
      simp [List.isPrefixOf] at this
  · rw [h1, decide_eq_true (by omega : (0 : Int) ≤ (i : Int))]
    unfold Lib.occAt at h3
    obtain ⟨q, hq⟩ := List.isPrefixOf_iff_prefix.1 h3
    exact (whole_of s (s.data.toList.take i) q (by rw [show (13 :: 10 :: 13 :: 10 :: q : List UInt8) = [13, 10, 13, 10] ++ q from rfl, hq, List.take_append_drop])).symm
end Msg
end Go.Proofs.YtkenmilglfnmbaaGreatDoor
