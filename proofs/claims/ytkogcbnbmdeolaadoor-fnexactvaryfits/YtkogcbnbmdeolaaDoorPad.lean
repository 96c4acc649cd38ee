/-
  Boxes: Boxes of a call's own: what a store into one leaves of what lies below and of the rows behind.
  VarySpec: VaryNames of the specification.
  Pairs: Two boxes that were just laid.
  RespEq: eqResponse of the laws: responses held against each other.
-/
import Derived.Test.YtkogcbnbmdeolaaDoorRecs
import Derived.Test.YtkogcbnbmdeolaaDoorPab
import Derived.Test.YtkogcbnbmdeolaaDoorPac
import Derived.Test.YtkogcbnbmdeolaaDoorFldPut
import Derived.Maps.AppendAt
import Derived.Deep.Cut
import Derived.Test.YtkogcbnbmdeolaaDoorFldEq
namespace Go.Proofs.YtkogcbnbmdeolaaDoor
open Go.RowKit
set_option linter.unusedVariables false
namespace Recs

/-- what lies below B, and the rows from n on that were there, are as they were -/
structure Past (B n : Nat) (W W' : World) : Prop where
  below : Below B W W'
  rows : ∀ j, n ≤ j → j < W.heap.size → W'.heap[j]? = W.heap[j]?
theorem Past.refl (B n : Nat) (W : World) : Past B n W W := ⟨Below.refl _ _, fun _ _ _ => rfl⟩
theorem Past.set {B n : Nat} {W W' : World} (h : Past B n W W') (g i : Nat) (u : Value) (hB : B ≤ g) (hn : g < n) : Past B n W (W'.setCell ⟨g, i, none⟩ u) :=
  ⟨h.below.setCell (p := ⟨g, i, none⟩) hB u, fun j hj hl => (heap_setCell_other W' ⟨g, i, none⟩ j u (fun e => by have e2 : j = g := e; omega)).trans (h.rows j hj hl)⟩
theorem Past.drew {B n : Nat} {W W' : World} (h : Past B n W W') : Past B n W W'.drew := ⟨h.below.drew, h.rows⟩
theorem own_past {α : Type} {e : TypeId} {sz : Nat} {enc : α → List Value} {B n : Nat} {W W' : World} {v : Value} {l : List α} (h : Own e sz enc n W v l) (hf : Past B n W W') : Own e sz enc n W' v l := by
  refine ⟨h.1, ?_⟩
  have hlt := own_lt h
  rcases h.2 with h1 | ⟨g, cap, cur, h1, hB, hg, rest⟩
  · exact .inl h1
  · subst h1
    exact .inr ⟨g, cap, cur, rfl, hB, by rw [hf.rows g hB (hlt g rfl).2]; exact hg, rest⟩
/-- the cells of a box that is known whole -/
theorem box_cell {w : World} {g : Nat} {cs : Array Value} {T : TypeId} (h : w.heap[g]? = some (.cells cs T (0, 0))) (i : Nat) : w.cell? ⟨g, i, none⟩ = cs[i]? := cell_of_row w g _ _ _ _ h
theorem box_thaw {w : World} {g : Nat} {cs : Array Value} {T : TypeId} (h : w.heap[g]? = some (.cells cs T (0, 0))) (i : Nat) : w.frozen? ⟨g, i, none⟩ = false := frozen_of_row w g i _ _ h
theorem box_set {w : World} {g : Nat} {cs : Array Value} {T : TypeId} (h : w.heap[g]? = some (.cells cs T (0, 0))) (i : Nat) (u : Value) : (w.setCell ⟨g, i, none⟩ u).heap[g]? = some (.cells (cs.setIfInBounds i u) T (0, 0)) := heap_setCell_same w g i cs _ u h
theorem box_far {w : World} {g k i : Nat} {o : Option Obj} (h : w.heap[k]? = o) (u : Value) (hne : k ≠ g) : (w.setCell ⟨g, i, none⟩ u).heap[k]? = o := (heap_setCell_other w ⟨g, i, none⟩ k u (fun e => hne e)).trans h
/-- three boxes that were just laid, behind whatever was laid since -/
theorem three_rows (w W : World) (p r o : Obj) (hb : Below (((w.alloc p).alloc r).alloc o).heap.size (((w.alloc p).alloc r).alloc o) W) : W.heap[w.heap.size]? = some p ∧ W.heap[w.heap.size + 1]? = some r ∧ W.heap[w.heap.size + 1 + 1]? = some o := by
  have e1 : (w.alloc p).heap.size = w.heap.size + 1 := by rw [World.size_alloc]
  have e2 : ((w.alloc p).alloc r).heap.size = w.heap.size + 1 + 1 := by rw [World.size_alloc, World.size_alloc]
  have e3 : (((w.alloc p).alloc r).alloc o).heap.size = w.heap.size + 1 + 1 + 1 := by rw [World.size_alloc, World.size_alloc, World.size_alloc]
  refine ⟨?_, ?_, ?_⟩
  · rw [hb.block _ (by omega), heap_alloc_old _ _ (by omega), heap_alloc_old _ _ (by omega), heap_alloc_new]
  · rw [hb.block _ (by omega), heap_alloc_old _ _ (by omega), ← e1, heap_alloc_new]
  · rw [hb.block _ (by omega), ← e2, heap_alloc_new]
/-- a row of one's own is as it was behind a store into another block -/
theorem own_set {α : Type} {e : TypeId} {sz : Nat} {enc : α → List Value} {B : Nat} {W : World} {v : Value} {l : List α} (h : Own e sz enc B W v l) (g i : Nat) (u : Value) (hne : ∀ k, v.ownBlock = some k → k ≠ g) : Own e sz enc B (W.setCell ⟨g, i, none⟩ u) v l := by
  have hg : W.grownBy (W.setCell ⟨g, i, none⟩ u) (some g) := ⟨rfl, rfl, rfl, by simp, fun j hj hr => heap_setCell_other W ⟨g, i, none⟩ j u (fun e => hr (by rw [show j = g from e]))⟩
  refine own_kept h hg ?_
  cases hv : v.ownBlock with
  | none => exact .inl rfl
  | some k => exact .inr (fun e => hne k hv (Option.some.inj e))
end Recs
end Go.Proofs.YtkogcbnbmdeolaaDoor
namespace Go.Proofs.YtkogcbnbmdeolaaDoor
open Go.RowKit
set_option linter.unusedVariables false
set_option linter.unusedSimpArgs false
namespace Vary
open Flds (Fld)

/-- the memory within: what has been put lies in the first block or behind the parts -/
structure VMid (w w2 : World) (pv : Value) (L : List ByteArray) (o : List ByteArray) (ov : Value) (wr : World) : Prop where
  own : Strs.OwnS w.heap.size wr ov o
  apart : ∀ k, ov.ownBlock = some k → k = w.heap.size + 1 ∨ w2.heap.size ≤ k
  parts : Strs.Is wr pv L
  below : Below w.heap.size w wr
  size : w2.heap.size ≤ wr.heap.size
theorem VMid.step {w w2 : World} {pv : Value} {L o : List ByteArray} {ov : Value} {wr : World} (m : VMid w w2 pv L o ov wr) (hw : w.heap.size ≤ w2.heap.size) {w' : World} (h : Below wr.heap.size wr w') : VMid w w2 pv L o ov w' where
  own := Strs.own_below m.own h
  apart := m.apart
  parts := Strs.is_below (B := 0) m.parts h
  below := m.below.trans (h.mono (Nat.le_trans hw m.size))
  size := Nat.le_trans m.size h.size
theorem VMid.put {w w2 : World} {pb po pc : Nat} {L o : List ByteArray} {ov : Value} {wr : World} (m : VMid w w2 (.slice (some ⟨pb, po, none⟩) L.length pc) L o ov wr) (hp : 0 < L.length) (hw : w.heap.size + 1 < pb) (hpb : pb < w2.heap.size) {t : ByteArray} {v' : Value} {w3 : World}
    (ho : w3.ownsRow w.heap.size 9 1 v' (o.length + 1) (o.map Value.string ++ [.string t])) (hg : (wr.alloc (.cells #[.string t] 9)).grownBy w3 ov.ownBlock)
    (hat : v'.ownBlock = ov.ownBlock ∨ v'.ownBlock = some (wr.heap.size + 1)) : VMid w w2 (.slice (some ⟨pb, po, none⟩) L.length pc) L (o ++ [t]) v' w3 where
  own := Strs.own_snoc ho
  apart := by
    intro k hk
    rcases hat with e | e
    · exact m.apart k (e ▸ hk)
    · rw [e] at hk
      cases hk
      right
      have := m.size
      omega
  parts := by
    rcases m.parts with h1 | ⟨b, o', c, h1, h2, h3, h4⟩
    · exact absurd h1.1 (by intro e; rw [e] at hp; exact absurd hp (Nat.not_lt_zero _))
    · cases h1
      refine .inr ⟨pb, po, pc, rfl, h2, h3, fun j hj => ?_⟩
      have hlt : pb < wr.heap.size := Nat.lt_of_lt_of_le hpb m.size
      have hb : w3.heap[pb]? = wr.heap[pb]? := by
        rw [hg.block pb (by simp; omega) (by intro e; have := m.apart pb e.symm; omega)]
        exact heap_alloc_old wr _ hlt
      have e : w3.cell? ⟨pb, po + j, none⟩ = wr.cell? ⟨pb, po + j, none⟩ := by
        unfold World.cell?
        simp only [hb]
      rw [e]; exact h4 j hj
  below := (m.below.alloc (by have := m.size; have := m.below.size; omega) _).grown hg (by have := m.below.size; simp; omega) (fun j hj => (Strs.own_lt m.own j hj).1)
  size := by have h1 := m.size; have h2 := hg.size; simp at h2; omega
theorem row_is {W : World} {v : Value} {L : List ByteArray} {c : Nat} {a : Option Addr} (h : Strs.Is W v L) (hv : v = .slice a L.length c) (i : Nat) (hi : i < L.length) : ∃ b o, a = some ⟨b, o, none⟩ ∧ L.length ≤ c ∧ c ≤ maxLen ∧ W.cell? ⟨b, o + i, none⟩ = some (.string L[i]) := by
  rcases h with ⟨h1, _⟩ | ⟨b, o, c', h1, h2, h3, h4⟩
  · rw [h1] at hi; exact absurd hi (Nat.not_lt_zero _)
  · rw [hv] at h1
    cases h1
    exact ⟨b, o, rfl, h2, h3, h4 i hi⟩
set_option maxRecDepth 100000 in
set_option maxHeartbeats 8000000 in
theorem names_spec (st : Int) (v : Value) (l : List Fld) (b : ByteArray) (w : World) (h : Flds.Is w v l) (hl : Flds.bulk l ≤ 1048576) :
    Calls Tryd.prog 25 #[Resp.val st v b] w fun e w' => ∃ v', e = .returned v' ∧ Strs.OwnS w.heap.size w' v' (varyNames l) ∧ Below w.heap.size w w' := by
  obtain ⟨i0, hi0, hz0, hz1, hz2⟩ := info_parts Strs.infoS
  have e1 : (w.alloc (.cells #[.int .i64 st, v, .string b] 34)).heap.size = w.heap.size + 1 := by rw [World.size_alloc]
  have hb0 : Below w.heap.size w ((w.alloc (.cells #[.int .i64 st, v, .string b] 34)).alloc (.cells #[] 9)) := ((Below.refl _ _).alloc (Nat.le_refl _) _).alloc (by omega) _
  have e2 : ((w.alloc (.cells #[.int .i64 st, v, .string b] 34)).alloc (.cells #[] 9)).heap.size = w.heap.size + 1 + 1 := by rw [World.size_alloc, e1]
  have x0 : ((w.alloc (.cells #[.int .i64 st, v, .string b] 34)).alloc (.cells #[] 9)).heap[w.heap.size]? = some (.cells #[.int .i64 st, v, .string b] 34) := (heap_alloc_old _ _ (by omega)).trans (heap_alloc_new w _)
  have HX := Num.hide x0
  have HI := Num.hide (Recs.is_below h hb0)
  have HB0 := Num.hide hb0
  have HO0 : Hid (Strs.OwnS w.heap.size ((w.alloc (.cells #[.int .i64 st, v, .string b] 34)).alloc (.cells #[] 9)) (.slice (some ⟨w.heap.size + 1, 0, none⟩) 0 0) []) := by
    have := World.ownsRow_made (w.alloc (.cells #[.int .i64 st, v, .string b] 34)) (base := w.heap.size) (e := 9) (size := 1) #[] 0 (by omega) (Nat.zero_le _) rfl
    rw [e1] at this
    exact this
  have hE2 := Num.hide e2
  have hbk := Cc.get_bulk l varyName (by decide)
  obtain ⟨av, cv, rfl, _⟩ := Flds.is_form h
  have HG := Num.hide (Flds.get_spec_b _ l varyName _ HI.out (by omega))
  obtain ⟨R, hR⟩ : ∃ R, varyNames l = R := ⟨_, rfl⟩
  rw [hR]
  unfold varyNames at hR
  generalize Flds.get l varyName = gv at HG hR hbk
  obtain ⟨s, sb⟩ := gv
  simp only at HG hR hbk
  have HS := Num.hide (fun W => Sign.split_spec s W (by omega))
  have hlen := Cc.split_len s
  have HZ := Num.hide (Cc.split_small s)
  generalize Sign.split s = L at HS hR hlen HZ
  have HR := Num.hide hR
  have HN := Num.hide (names_take L)
  have hnl := Num.hide (fun i => names_len (L.take i))
  unfold Resp.val
  clear h hb0 x0 e2 hR
  go_enter Tryd.func25, Tryd.ntmps25
  go_upto_region 2 with fail
  generalize (w.alloc (.cells #[.int .i64 st, .slice av l.length cv, .string b] 34)).alloc (.cells #[] 9) = w0 at HX HI HB0 HO0 HG hE2 ⊢
  have c1 : w0.cell? ⟨w.heap.size, 1, none⟩ = some (.slice av l.length cv) := Recs.box_cell HX.out 1
  go_wp2_with fail
  refine HG.out.mono ?_
  rintro e w1 ⟨rfl, hb1⟩
  have HO1 := Num.hide (Strs.own_below HO0.out hb1)
  have HB1 := Num.hide (HB0.out.trans (hb1.mono HB0.out.size))
  have hs1 := hb1.size
  rw [hE2.out] at hs1
  clear hb1 c1 HX HI HB0 HO0 HG hE2
  go_wp2_with fail
  refine (HS.out _).mono ?_
  rintro e w2 ⟨pv, rfl, ho, hb2⟩
  obtain ⟨pa, pc, rfl⟩ := Strs.own_len ho
  have HP : Hid (∀ pb po, pa = some ⟨pb, po, none⟩ → w.heap.size + 1 < pb ∧ pb < w2.heap.size) := fun pb po e => by
    have := Strs.own_lt ho pb (by rw [e]; rfl)
    omega
  have hs2 := hb2.size
  have HM0 : Hid (VMid w w2 (.slice pa L.length pc) L (names (L.take 0)) (.slice (some ⟨w.heap.size + 1, 0, none⟩) 0 0) w2) :=
    ⟨Strs.own_below HO1.out hb2, fun k hk => by cases hk; exact .inl rfl, Strs.own_is ho, HB1.out.trans (hb2.mono HB1.out.size), Nat.le_refl _⟩
  clear ho hb2 HS HO1 HB1
  have hww : w.heap.size ≤ w2.heap.size := by omega
  go_wp2
  go_loopw [3, 7] (fun ov iv wr => ∃ i : Nat, i ≤ L.length ∧ iv = .int .i64 (i : Int) ∧ Hid (VMid w w2 (.slice pa L.length pc) L (names (L.take i)) ov wr)) (fun _ iv _ => L.length - (intOf iv).toNat)
  case atStart => exact ⟨0, by omega, rfl, HM0⟩
  case round =>
  clear HM0
  obtain ⟨i, hi, rfl, HM⟩ := hrel
  obtain ⟨oa, oc, hov⟩ := Strs.own_len HM.out.own
  have hol := hnl.out i
  rw [List.length_take] at hol
  by_cases hlt : i < L.length
  · obtain ⟨pb, po, rfl, hc1, hc2, hcell⟩ := row_is HM.out.parts rfl i hlt
    obtain ⟨hp1, hp2⟩ := HP.out pb po rfl
    have hz := HZ.out L[i] (List.getElem_mem hlt)
    have hnt := HN.out i hlt
    have HLw := Num.hide (fun W => Sign.lower_spec L[i] W (by unfold maxLen; omega))
    unfold nameStep at hnt
    generalize Sign.lower L[i] = n at hnt HLw
    generalize L[i] = t at hcell HLw hz
    have HNt := Num.hide hnt
    clear hnt
    subst hov
    go_wp2_with fail
    refine (HLw.out _).mono ?_
    rintro e w3 ⟨rfl, hb3⟩
    have HM3 := Num.hide (HM.out.step hww hb3)
    clear hb3 HM hcell HLw
    generalize names (L.take i) = o at HM3 HNt hol ⊢
    go_wp2
    go_loop [9, 10] (fun hv kv => ∃ k : Nat, k ≤ o.length ∧ kv = .int .i64 (k : Int) ∧ hv = .bool (inL (o.take k) n)) (fun _ kv => o.length - (intOf kv).toNat)
    case atStart => exact ⟨0, by omega, rfl, rfl⟩
    case round =>
    obtain ⟨k, hk, rfl, rfl⟩ := hrel
    by_cases hko : k < o.length
    · obtain ⟨ob, oo, rfl, hd1, hd2, hcell⟩ := row_is (Strs.own_is HM3.out.own) rfl k hko
      have hnm := inL_take (x := n) hko
      have HNm := Num.hide hnm
      cases hin : inL (o.take k) n with
      | true =>
        have HD : Hid (inL (o.take (k + 1)) n = true) := by rw [hnm, hin]; rfl
        clear hnm HNm hin hcell
        go_wp2
        go_round
        case rel => exact ⟨k + 1, by omega, by go_num, by rw [HD.out]⟩
        case measure => simp [intOf]; omega
      | false =>
        by_cases he : o[k] = n
        · have HD : Hid (inL (o.take (k + 1)) n = true) := by rw [hnm, decide_eq_true he, Bool.or_true]; rfl
          rw [he] at hcell
          have f1 : (n.toList == n.toList) = true := by simp
          clear hnm HNm hin he
          go_wp2
          go_round
          case rel => exact ⟨k + 1, by omega, by go_num, by rw [HD.out]⟩
          case measure => simp [intOf]; omega
        · have HD : Hid (inL (o.take (k + 1)) n = false) := by rw [hnm, hin, decide_eq_false he]; rfl
          have f1 := Flds.ne_text he
          clear hnm HNm hin he
          generalize o[k] = q at hcell f1
          go_wp2
          go_round
          case rel => exact ⟨k + 1, by omega, by go_num, by rw [HD.out]⟩
          case measure => simp [intOf]; omega
    · obtain rfl : k = o.length := by omega
      rw [List.take_length]
      cases hin : inL o n with
      | true =>
        have hnt := HNt.out
        rw [if_pos hin] at hnt
        have HNt2 := Num.hide hnt
        clear hnt HNt hin
        go_wp2
        go_roundw
        case rel => exact ⟨i + 1, by omega, by go_num, HNt2.out ▸ HM3⟩
        case measure => simp [intOf]; omega
      | false =>
        have hnt := HNt.out
        rw [if_neg (by rw [hin]; simp)] at hnt
        have HNt2 := Num.hide hnt
        have HPt := Num.hide (fun (v' : Value) (w4 : World) ho hg hat => HM3.out.put (t := n) (v' := v') (w3 := w4) (by omega) hp1 hp2 ho hg hat)
        clear hnt HNt hin
        go_wp2_with (at_builtin; refine wpList_append_own_at _ rfl _ _ 26 rfl w.heap.size 9 i0 (.string ⟨#[]⟩) 1 16 Tryd.underlying26 hi0 hz0 hz1 hz2 rfl (by decide) _ _ _ rfl (World.ownsRow.alloc HM3.out.own _) ⟨w3.heap.size, 0, none⟩ 1 1 [.string n] rfl rfl (Strs.cells_one w3 n) (Strs.one_ok n) (by unfold maxLen; omega) (by omega) ?c5 ?_)
        case c5 => have := HM3.out.size; first | omega | (simp; omega)
        intro v' w4 ho4 hg4 _ hat4
        have HM4 := Num.hide (HPt.out v' w4 ho4 hg4 hat4)
        clear ho4 hg4 hat4 HPt HM3
        go_wp2
        go_roundw
        case rel => exact ⟨i + 1, by omega, by go_num, HNt2.out ▸ HM4⟩
        case measure => simp [intOf]; omega
  · obtain rfl : i = L.length := by omega
    have HE : Hid (Strs.OwnS w.heap.size wr u3 R ∧ Below w.heap.size w wr) := ⟨by have h1 := HM.out.own; rw [List.take_length, HR.out] at h1; exact h1, HM.out.below⟩
    clear HM HN HR HZ hov
    go_wp2
    go_ret
    exact ⟨_, rfl, HE.out.1, HE.out.2⟩
end Vary
end Go.Proofs.YtkogcbnbmdeolaaDoor
namespace Go.Proofs.YtkogcbnbmdeolaaDoor
open Go.RowKit
set_option linter.unusedVariables false
namespace Resp

/-- two boxes that were just laid -/
theorem box_one (w : World) (c1 c2 : Array Value) (t1 t2 : TypeId) (j : Nat) : ((w.alloc (.cells c1 t1)).alloc (.cells c2 t2)).cell? ⟨w.heap.size, j, none⟩ = c1[j]? := by
  rw [World.cell?_alloc_lt _ _ _ (by simp), cell_of_row _ _ _ _ _ _ (heap_alloc_new w _)]
theorem box_two (w : World) (c1 c2 : Array Value) (t1 t2 : TypeId) (j : Nat) : ((w.alloc (.cells c1 t1)).alloc (.cells c2 t2)).cell? ⟨w.heap.size + 1, j, none⟩ = c2[j]? := by
  have e : w.heap.size + 1 = (w.alloc (.cells c1 t1)).heap.size := by rw [World.size_alloc]
  rw [e, cell_of_row _ _ _ _ _ _ (heap_alloc_new _ _)]
end Resp
end Go.Proofs.YtkogcbnbmdeolaaDoor
namespace Go.Proofs.YtkogcbnbmdeolaaDoor
open Go.RowKit
set_option linter.unusedVariables false
namespace Resp

set_option maxRecDepth 100000 in
set_option maxHeartbeats 2000000 in
theorem eq_any (s1 s2 : Int) (v1 v2 : Value) (l1 l2 : List Flds.Fld) (b1 b2 : ByteArray) (w : World) (h1 : Flds.Is w v1 l1) (h2 : Flds.Is w v2 l2) (hl : l1.length ≤ 1099511627776) :
    Calls Tryd.prog 28 #[val s1 v1 b1, val s2 v2 b2] w fun e w' => e = .returned (.bool (decide (s1 = s2 ∧ l1 = l2 ∧ b1 = b2))) ∧ Below w.heap.size w w' := by
  unfold val
  obtain ⟨r, hr⟩ : ∃ r, decide (s1 = s2 ∧ l1 = l2 ∧ b1 = b2) = r := ⟨_, rfl⟩
  rw [hr]
  obtain ⟨a1, c1, rfl, _⟩ := Flds.is_form h1
  obtain ⟨a2, c2, rfl, _⟩ := Flds.is_form h2
  have hb0 := ((Below.refl w.heap.size w).alloc (Nat.le_refl _) (.cells #[.int .i64 s1, .slice a1 l1.length c1, .string b1] 34)).alloc (by simp) (.cells #[.int .i64 s2, .slice a2 l2.length c2, .string b2] 34)
  have HB0 := Num.hide hb0
  have HE := Num.hide (Flds.eq_any _ _ l1 l2 _ (Recs.is_stay h1 (Nat.le_refl _) hb0) (Recs.is_stay h2 (Nat.le_refl _) hb0) hl)
  clear h1 h2 hb0
  by_cases hs : s1 = s2
  · have ds : (s1 != s2) = false := by rw [bne_eq_false_iff_eq]; exact hs
    by_cases hll : l1 = l2
    · rw [decide_eq_true hll] at HE
      by_cases hbb : b1 = b2
      · obtain rfl : r = true := by rw [← hr]; exact decide_eq_true ⟨hs, hll, hbb⟩
        subst hbb
        clear hr hs hll
        go_enter Tryd.func28, Tryd.ntmps28
        go_wp2_with fail
        refine HE.out.mono ?_
        rintro e w1 ⟨rfl, hb1⟩
        have k1 := (hb1.cell (p := ⟨w.heap.size, 2, none⟩) (by show w.heap.size < _; rw [World.size_alloc, World.size_alloc]; omega)).trans (box_one w _ _ _ _ 2)
        have k2 := (hb1.cell (p := ⟨w.heap.size + 1, 2, none⟩) (by show w.heap.size + 1 < _; rw [World.size_alloc, World.size_alloc]; omega)).trans (box_two w _ _ _ _ 2)
        have HB1 := Num.hide (HB0.out.trans (hb1.mono HB0.out.size))
        clear hb1 HB0 HE
        simp only [List.getElem?_toArray, List.getElem?_cons_succ, List.getElem?_cons_zero] at k1 k2
        go_wp2
        go_ret
        exact ⟨rfl, HB1.out⟩
      · obtain rfl : r = false := by rw [← hr]; exact decide_eq_false (fun h => hbb h.2.2)
        have db : (b1.toList == b2.toList) = false := Flds.text_ne hbb
        have db2 : (b1.toList != b2.toList) = true := by rw [bne, db]; rfl
        clear hr hs hll hbb
        go_enter Tryd.func28, Tryd.ntmps28
        go_wp2_with fail
        refine HE.out.mono ?_
        rintro e w1 ⟨rfl, hb1⟩
        have k1 := (hb1.cell (p := ⟨w.heap.size, 2, none⟩) (by show w.heap.size < _; rw [World.size_alloc, World.size_alloc]; omega)).trans (box_one w _ _ _ _ 2)
        have k2 := (hb1.cell (p := ⟨w.heap.size + 1, 2, none⟩) (by show w.heap.size + 1 < _; rw [World.size_alloc, World.size_alloc]; omega)).trans (box_two w _ _ _ _ 2)
        have HB1 := Num.hide (HB0.out.trans (hb1.mono HB0.out.size))
        clear hb1 HB0 HE
        simp only [List.getElem?_toArray, List.getElem?_cons_succ, List.getElem?_cons_zero] at k1 k2
        go_wp2
        go_ret
        exact ⟨rfl, HB1.out⟩
    · rw [decide_eq_false hll] at HE
      obtain rfl : r = false := by rw [← hr]; exact decide_eq_false (fun h => hll h.2.1)
      clear hr hs hll
      go_enter Tryd.func28, Tryd.ntmps28
      go_wp2_with fail
      refine HE.out.mono ?_
      rintro e w1 ⟨rfl, hb1⟩
      have HB1 := Num.hide (HB0.out.trans (hb1.mono HB0.out.size))
      clear hb1 HB0 HE
      go_wp2
      go_ret
      exact ⟨rfl, HB1.out⟩
  · have ds : (s1 != s2) = true := by rw [bne_iff_ne]; exact hs
    obtain rfl : r = false := by rw [← hr]; exact decide_eq_false (fun h => hs h.1)
    clear hr hs HE
    go_enter Tryd.func28, Tryd.ntmps28
    go_wp2
    go_ret
    exact ⟨rfl, HB0.out⟩
end Resp
end Go.Proofs.YtkogcbnbmdeolaaDoor
