/-
  RespReadNum: The boxes of ReadResponse's answer.
  RespReadSpec: ReadResponse of the specification: an answer off its text, its fields in a row of the call's own.
  RespEq: eqResponse of the laws: responses held against each other.
  RespMark: markResponse and heldResponse of the laws: the fields of one marked, and held against their marks.
  RespReadLaw: FnExactReadResponse, whatever the program's ReadResponse keeps to: it answers as the specification's, in memory of its own, again and again.
  ShelfNum: Library contracts at this program: strconv_Atoi, strconv_Atoi_err_var.
-/
import Derived.Test.YtbajfklnekfeoaaGreatDoorPat
import Derived.Test.YtbajfklnekfeoaaGreatDoorPai
import Derived.Test.YtbajfklnekfeoaaGreatDoorPaw
import Derived.Deep.Cut
import Derived.Test.YtbajfklnekfeoaaGreatDoorPac
import Derived.Test.YtbajfklnekfeoaaGreatDoorFldEq
import Derived.Test.YtbajfklnekfeoaaGreatDoorPau
import Derived.Shelf.Strings.Builder1
import Derived.Shelf.Strings.Builder2
import Derived.Shelf.Strings.OnBuilder
import Derived.Shelf.Strings.Trim
import Derived.Shelf.Small.Utf8
import Derived.Shelf.Small.Strs
import Derived.Shelf.Strings.BuilderF
import Derived.Shelf.Strings.BuilderK
import Derived.Shelf.Strconv.Atoi
import Derived.Shelf.Strconv.Itoa0
import Derived.Shelf.Strconv.Itoa1
import Derived.Shelf.LaysM
import Derived.Shelf.Strconv.Itoa2
import Derived.Shelf.Strconv.Itoa3
import Derived.Shelf.Strconv.AtoiErrFast
import Derived.Shelf.Strconv.ParseIntEmpty
import Derived.Shelf.Strconv.AtoiFail
import Derived.Shelf.Strconv.Clone
import Derived.Shelf.Strconv.SyntaxError
import Derived.Shelf.LaysC
import Derived.Shelf.Strconv.ToError
import Derived.Shelf.Strconv.AtoiErr
import Derived.Shelf.Strconv.ErrVar
import Derived.Shelf.Strings.Search1
import Derived.Shelf.Strings.Search2
import Derived.Shelf.Strings.Search3
import Derived.Shelf.Strings.Cut
import Derived.Shelf.Strings.Shaped
import Derived.Shelf.Strings.Prefix
import Derived.Shelf.Unicode.Decode
import Derived.Shelf.Strings.Runes
import Derived.Shelf.Strings.AsciiSet
import Derived.Shelf.Unicode.DecodeSlow
import Derived.Shelf.Unicode.DecodeAny
import Derived.Shelf.Unicode.DecodeLast
import Derived.Test.YtbajfklnekfeoaaGreatDoorRows
namespace Go.Proofs.YtbajfklnekfeoaaGreatDoor
open Go.RowKit
set_option linter.unusedVariables false
set_option linter.unusedSimpArgs false
namespace Msg

def Z3 : Array Value := #[.int .i64 0, .slice none 0 0, .string ⟨#[]⟩]
/-- the box of the answer and that of no answer, of the call's own; what was there stays -/
structure Two3 (w W : World) : Prop where
  res : W.heap[w.heap.size]? = some (.cells Z3 47)
  non : W.heap[w.heap.size + 1]? = some (.cells Z3 47)
  below : Below w.heap.size w W
theorem Two3.lt {w W : World} (h : Two3 w W) : w.heap.size + 1 < W.heap.size := (Array.getElem?_eq_some_iff.1 h.non).1
theorem Two3.step {w W W' : World} (h : Two3 w W) (hb : Below W.heap.size W W') : Two3 w W' := by
  have hl := h.lt
  exact ⟨(hb.block _ (by omega)).trans h.res, (hb.block _ hl).trans h.non, h.below.trans (hb.mono h.below.size)⟩
theorem Two3.first {w W : World} (hb : Below ((w.alloc (.cells Z3 47)).alloc (.cells Z3 47)).heap.size ((w.alloc (.cells Z3 47)).alloc (.cells Z3 47)) W) : Two3 w W := by
  have e1 : (w.alloc (.cells Z3 47)).heap.size = w.heap.size + 1 := by rw [World.size_alloc]
  have e2 : ((w.alloc (.cells Z3 47)).alloc (.cells Z3 47)).heap.size = w.heap.size + 1 + 1 := by rw [World.size_alloc, World.size_alloc]
  have hb0 := ((Below.refl w.heap.size w).alloc (Nat.le_refl _) (.cells Z3 47)).alloc (by simp) (.cells Z3 47)
  refine ⟨?_, ?_, hb0.trans (hb.mono hb0.size)⟩
  · rw [hb.block _ (by omega), heap_alloc_old _ _ (by omega), heap_alloc_new]
  · rw [hb.block _ (by omega), ← e1, heap_alloc_new]
theorem Two3.cells {w W : World} (h : Two3 w W) : (W.cell? ⟨w.heap.size + 1, 0, none⟩ = some (.int .i64 0) ∧ W.cell? ⟨w.heap.size + 1, 1, none⟩ = some (.slice none 0 0) ∧ W.cell? ⟨w.heap.size + 1, 2, none⟩ = some (.string ⟨#[]⟩)) ∧
    (W.cell? ⟨w.heap.size, 0, none⟩ = some (.int .i64 0) ∧ W.cell? ⟨w.heap.size, 1, none⟩ = some (.slice none 0 0) ∧ W.cell? ⟨w.heap.size, 2, none⟩ = some (.string ⟨#[]⟩)) ∧
    W.frozen? ⟨w.heap.size, 0, none⟩ = false ∧ W.frozen? ⟨w.heap.size, 1, none⟩ = false ∧ W.frozen? ⟨w.heap.size, 2, none⟩ = false :=
  ⟨⟨Recs.box_cell h.non 0, Recs.box_cell h.non 1, Recs.box_cell h.non 2⟩, ⟨Recs.box_cell h.res 0, Recs.box_cell h.res 1, Recs.box_cell h.res 2⟩, Recs.box_thaw h.res 0, Recs.box_thaw h.res 1, Recs.box_thaw h.res 2⟩
/-- what stores into the answer's box leave -/
theorem Two3.told {w W : World} (h : Two3 w W) (a b c : Value) : Below w.heap.size w (((W.setCell ⟨w.heap.size, 0, none⟩ a).setCell ⟨w.heap.size, 1, none⟩ b).setCell ⟨w.heap.size, 2, none⟩ c) :=
  ((h.below.setCell (p := ⟨w.heap.size, 0, none⟩) (Nat.le_refl _) a).setCell (p := ⟨w.heap.size, 1, none⟩) (Nat.le_refl _) b).setCell (p := ⟨w.heap.size, 2, none⟩) (Nat.le_refl _) c
theorem readDec_spec (s : ByteArray) (w : World) (hs : s.size ≤ maxLen) : Calls Tryz.prog 81 #[.string s] w fun e w' => e = .returned (.tuple #[.int .i64 ((decR s).getD 0), .bool (decR s).isSome]) ∧ Below w.heap.size w w' := by
  refine (ReadDec.spec_told s w hs).mono ?_
  rintro e w' ⟨a, t, rfl, hg, hb⟩
  obtain ⟨rfl, rfl⟩ := good_dec hg
  exact ⟨rfl, hb⟩
theorem decR_bd (s : ByteArray) : -999999999 ≤ (decR s).getD 0 ∧ (decR s).getD 0 ≤ 999999999 := by
  unfold decR
  split
  · next h => exact h.1
  · exact ⟨by decide, by decide⟩
end Msg
end Go.Proofs.YtbajfklnekfeoaaGreatDoor
namespace Go.Proofs.YtbajfklnekfeoaaGreatDoor
open Go.RowKit
set_option linter.unusedVariables false
set_option linter.unusedSimpArgs false
namespace Msg
open Line (eol lineOf)

set_option maxRecDepth 100000 in
set_option maxHeartbeats 8000000 in
theorem readResp_spec (s : ByteArray) (w : World) (hs : s.size ≤ 1048576) :
    Calls Tryz.prog 32 #[.string s] w fun e w' => ∃ v', e = .returned (.tuple #[Resp.val (readResp s).1.1 v' (readResp s).1.2.2, .int .i64 (readResp s).2.1, .int .i64 (readResp s).2.2]) ∧ Flds.Own w.heap.size w' v' (readResp s).1.2.1 ∧ Below w.heap.size w w' := by
  obtain ⟨r, hr⟩ : ∃ r, readResp s = r := ⟨_, rfl⟩
  rw [hr]
  unfold Resp.val
  have HW := Num.hide (fun W => whole_spec s W (by omega))
  have HB0 := Num.hide (((Below.refl w.heap.size w).alloc (Nat.le_refl _) (.cells #[.int .i64 0, .slice none 0 0, .string ⟨#[]⟩] 47)).alloc (by simp) (.cells #[.int .i64 0, .slice none 0 0, .string ⟨#[]⟩] 47))
  cases hw : whole s with
  | false =>
    rw [hw] at HW
    unfold readResp at hr
    rw [if_pos hw] at hr
    by_cases h15 : 1500 < s.size
    · rw [if_pos h15] at hr
      have d15 : decide (1500 < (s.size : Int)) = true := decide_eq_true (by omega)
      subst hr
      clear hw
      go_enter Tryz.func32, Tryz.ntmps32
      go_wp2_with fail
      refine (HW.out _).mono ?_
      rintro e w1 ⟨rfl, rfl⟩
      go_wp2
      exact bodyPost_ret (v := .tuple #[.agg #[.int .i64 0, .slice none 0 0, .string ⟨#[]⟩], .int .i64 0, .int .i64 2]) (by simp [results, Tryz.results32, go_sem]) rfl ⟨_, rfl, Recs.own_nil _ _, HB0.out⟩
    · rw [if_neg h15] at hr
      have d15 : decide (1500 < (s.size : Int)) = false := decide_eq_false (by omega)
      subst hr
      clear hw
      go_enter Tryz.func32, Tryz.ntmps32
      go_wp2_with fail
      refine (HW.out _).mono ?_
      rintro e w1 ⟨rfl, rfl⟩
      go_wp2
      exact bodyPost_ret (v := .tuple #[.agg #[.int .i64 0, .slice none 0 0, .string ⟨#[]⟩], .int .i64 0, .int .i64 1]) (by simp [results, Tryz.results32, go_sem]) rfl ⟨_, rfl, Recs.own_nil _ _, HB0.out⟩
  | true =>
    rw [hw] at HW
    obtain ⟨k, hk⟩ := whole_line hw
    have hin := Line.eol_in hk
    have hlo : lineOf s 0 = (s.extract 0 k, (k : Int) + 2) := by unfold lineOf; rw [hk]
    have HLn := Num.hide (fun W => Line.line_spec s 0 W (by omega) (Nat.zero_le _))
    rw [hlo] at HLn
    have HWd := Num.hide (fun W => words_spec (s.extract 0 k) W (by rw [ByteArray.size_extract]; omega))
    have hx : (s.extract (k + 2) s.size).size ≤ 1048576 := by rw [ByteArray.size_extract]; omega
    have HRd := Num.hide (fun W => Flds.read_spec (s.extract (k + 2) s.size) W hx)
    have hkk : (k : Int) + 2 ≤ (s.size : Int) := by omega
    have hws := words_size (s.extract 0 k)
    rw [ByteArray.size_extract] at hws
    have HDc := Num.hide (fun W => readDec_spec (words (s.extract 0 k)).2.1 W (by unfold maxLen; omega))
    have hdb := decR_bd (words (s.extract 0 k)).2.1
    clear hlo
    go_enter Tryz.func32, Tryz.ntmps32
    go_wp2_with fail
    refine (HW.out _).mono ?_
    rintro e w1 ⟨rfl, rfl⟩
    go_wp2_with fail
    refine (HLn.out _).mono ?_
    rintro e w1 ⟨rfl, rfl⟩
    go_wp2_with fail
    refine (HWd.out _).mono ?_
    rintro e W1 ⟨rfl, hb1⟩
    have T1 := Num.hide (Two3.first hb1)
    clear HW HLn HWd hb1 HB0
    have hrb := readL_bulk (s.extract (k + 2) s.size)
    have hlen := Flds.readL_length (s.extract (k + 2) s.size)
    unfold readResp at hr
    rw [if_neg (by rw [hw]; decide), hk] at hr
    simp only at hr
    have HD1 := Num.hide (fun v W h => Flds.drop_spec v (Flds.readL (s.extract (k + 2) s.size)) Body.teName W h (by omega))
    have hd1 := Flds.drop_length (Flds.readL (s.extract (k + 2) s.size)) Body.teName
    have HD2 := Num.hide (fun v W h => Flds.drop_spec v (Flds.drop (Flds.readL (s.extract (k + 2) s.size)) Body.teName) Body.clName W h (by omega))
    have hbb := bare_bulk (Flds.readL (s.extract (k + 2) s.size))
    change Hid (∀ v W, Flds.Is W v (Flds.drop (Flds.readL (s.extract (k + 2) s.size)) Body.teName) → Calls Tryz.prog 75 #[v, .string Body.clName] W fun e w' => ∃ v', e = .returned v' ∧ Flds.Own W.heap.size w' v' (bare (Flds.readL (s.extract (k + 2) s.size))) ∧ Below W.heap.size W w') at HD2
    have HR := Num.hide hr
    have HK := Num.hide hk
    clear hr hk hw
    generalize hL2 : bare (Flds.readL (s.extract (k + 2) s.size)) = L2 at HD2 hbb
    generalize hL1 : Flds.drop (Flds.readL (s.extract (k + 2) s.size)) Body.teName = L1 at HD1 HD2 hd1
    generalize hL0 : Flds.readL (s.extract (k + 2) s.size) = L0 at HRd HD1 hrb hlen hL2 hd1 hbb
    have HL0 := Num.hide hL0
    have HL2 := Num.hide hL2
    clear hL0 hL1 hL2
    unfold Body.teName at HD1
    unfold Body.clName at HD2
    generalize hwd : words (s.extract 0 k) = wd at HR hws HDc hdb ⊢
    obtain ⟨v8, cd, z8⟩ := wd
    simp only at HR hws HDc hdb ⊢
    obtain ⟨dr, hdr⟩ : ∃ d, decR cd = d := ⟨_, rfl⟩
    rw [hdr] at HDc HR hdb
    have HOk := Num.hide (fun v W h => respOk_spec (dr.getD 0) v L2 ⟨#[]⟩ W h (by omega) (by decide))
    unfold Resp.val at HOk
    obtain ⟨st, hst⟩ : ∃ st, dr.getD 0 = st := ⟨_, rfl⟩
    rw [hst] at HDc HOk hdb
    go_wp2_with fail
    refine (HDc.out _).mono ?_
    rintro e Wd ⟨rfl, hbd⟩
    have Td := Num.hide (T1.out.step hbd)
    clear hbd T1 HDc
    go_wp2_with fail
    refine (HRd.out _).mono ?_
    rintro e W2 ⟨vF, rfl, hoF, hb2⟩
    have T2 := Num.hide (Td.out.step hb2)
    have OF2 := Num.hide hoF
    obtain ⟨aF, cF, hvF⟩ := Recs.own_len hoF
    subst hvF
    clear hoF hb2 Td HRd
    go_wp2_with fail
    refine (HD1.out _ _ (Recs.own_is Flds.cells_len OF2.out)).mono ?_
    rintro e W3 ⟨v3, rfl, ho3, hb3⟩
    have T3 := Num.hide (T2.out.step hb3)
    have OF3 := Num.hide (Recs.own_below OF2.out hb3)
    have O3 := Num.hide ho3
    clear ho3 hb3 T2 OF2 HD1
    go_wp2_with fail
    refine (HD2.out _ _ (Recs.own_is Flds.cells_len O3.out)).mono ?_
    rintro e W4 ⟨v4, rfl, ho4, hb4⟩
    have T4 := Num.hide (T3.out.step hb4)
    have OF4 := Num.hide (Recs.own_below OF3.out hb4)
    have O4 := Num.hide ho4
    have s34 := hb4.size
    have hT3 := T3.out.lt
    obtain ⟨a4, c4, hv4⟩ := Recs.own_len ho4
    subst hv4
    clear ho4 hb4 T3 OF3 HD2 O3
    have T5 := Num.hide (T4.out.step ((Below.refl W4.heap.size W4).alloc (Nat.le_refl _) (.cells #[.int .i64 st, .slice a4 L2.length c4, .string ⟨#[]⟩] 47)))
    have O5 := Num.hide (World.ownsRow.alloc O4.out (.cells #[.int .i64 st, .slice a4 L2.length c4, .string ⟨#[]⟩] 47))
    have OF5 := Num.hide (World.ownsRow.alloc OF4.out (.cells #[.int .i64 st, .slice a4 L2.length c4, .string ⟨#[]⟩] 47))
    have R5 := Num.hide (heap_alloc_new W4 (.cells #[.int .i64 st, .slice a4 L2.length c4, .string ⟨#[]⟩] 47))
    have hB4 : ∀ j, (Value.slice a4 L2.length c4).ownBlock = some j → w.heap.size < j ∧ j < W4.heap.size := fun j hj => ⟨by have := (Recs.own_lt O4.out j hj).1; omega, (Recs.own_lt O4.out j hj).2⟩
    clear O4 OF4 T4
    go_upto_region 11 with fail
    generalize hg4 : W4.heap.size = g4 at R5 ⊢
    generalize W4.alloc (.cells #[.int .i64 st, .slice a4 L2.length c4, .string ⟨#[]⟩] 47) = W5 at T5 O5 OF5 R5 ⊢
    by_cases hver : v8 = ver
    · have dv : (v8.toList == [72, 84, 84, 80, 47, 49, 46, 49]) = true := by
        rw [hver, ByteArray.toList_eq]; rfl
      have dv2 : (v8.toList != [72, 84, 84, 80, 47, 49, 46, 49]) = false := by
        rw [hver, ByteArray.toList_eq]; rfl
      cases dr with
      | none =>
        have hr : noRs 2 = r := by
          rw [← HR.out]
          cases Flds.read (s.extract (k + 2) s.size) <;> rfl
        subst hr
        simp only [Option.isSome_none]
        clear HR hver
        obtain ⟨⟨n0, n1, n2⟩, ⟨a0, a1, a2⟩, f0, f1, f2⟩ := T5.out.cells
        have HE := Num.hide (T5.out.told (.int .i64 0) (.slice none 0 0) (.string ⟨#[]⟩))
        go_wp2
        exact bodyPost_ret (v := .tuple #[.agg #[.int .i64 0, .slice none 0 0, .string ⟨#[]⟩], .int .i64 0, .int .i64 2]) (by simp [results, Tryz.results32, go_sem, *]) rfl ⟨_, rfl, Recs.own_nil _ _, HE.out⟩
      | some sd =>
        obtain rfl : sd = st := hst
        simp only [Option.isSome_some]
        by_cases h3 : cd.size = 3
        · have d3 : ((cd.size : Int) != 3) = false := by rw [h3]; rfl
          cases hq : Flds.read (s.extract (k + 2) s.size) with
          | none =>
            obtain ⟨_, g2, g3⟩ := Flds.told_none hq
            have hr : noRs 2 = r := by rw [← HR.out, hq]
            subst hr
            rw [g2, g3]
            clear HR hver hq
            obtain ⟨⟨n0, n1, n2⟩, ⟨a0, a1, a2⟩, f0, f1, f2⟩ := T5.out.cells
            have HE := Num.hide (T5.out.told (.int .i64 0) (.slice none 0 0) (.string ⟨#[]⟩))
            go_wp2
            exact bodyPost_ret (v := .tuple #[.agg #[.int .i64 0, .slice none 0 0, .string ⟨#[]⟩], .int .i64 0, .int .i64 2]) (by simp [results, Tryz.results32, go_sem, *]) rfl ⟨_, rfl, Recs.own_nil _ _, HE.out⟩
          | some q =>
            obtain ⟨l, n⟩ := q
            obtain ⟨hq1, hq2, hq3⟩ := Flds.told_some hq
            have e0 : L0 = l := by rw [← HL0.out]; exact hq1
            have e2 : bare l = L2 := by rw [← HL2.out, e0]
            have hr := HR.out
            rw [hq] at hr
            simp only at hr
            rw [e2] at hr
            have hn := readGo_in _ _ _ _ _ (show Flds.readGo (s.extract (k + 2) s.size) 13 0 [] = some (l, n) from hq)
            rw [ByteArray.size_extract] at hn
            simp only at hn
            subst e0
            rw [hq2, hq3]
            clear HR hq hq1 HL0 HL2 e2
            have q0 := Recs.box_cell R5.out 0
            have q1 := Recs.box_cell R5.out 1
            have q2 := Recs.box_cell R5.out 2
            simp only [List.getElem?_toArray, List.getElem?_cons_succ, List.getElem?_cons_zero] at q0 q1 q2
            cases hok : respOk sd L2 ⟨#[]⟩ with
            | false =>
              rw [hok] at HOk
              rw [if_neg (fun h => by rw [hok] at h; exact absurd h.2.2 (by decide))] at hr
              subst hr
              clear hver hok
              go_wp2_with fail
              refine (HOk.out _ _ (Recs.own_is Flds.cells_len O5.out)).mono ?_
              rintro e W6 ⟨rfl, hb5⟩
              have T6 := Num.hide (T5.out.step hb5)
              clear hb5 T5 HOk
              obtain ⟨⟨n0, n1, n2⟩, ⟨a0, a1, a2⟩, f0, f1, f2⟩ := T6.out.cells
              have HE := Num.hide (T6.out.told (.int .i64 0) (.slice none 0 0) (.string ⟨#[]⟩))
              go_wp2
              exact bodyPost_ret (v := .tuple #[.agg #[.int .i64 0, .slice none 0 0, .string ⟨#[]⟩], .int .i64 0, .int .i64 2]) (by simp [results, Tryz.results32, go_sem, *]) rfl ⟨_, rfl, Recs.own_nil _ _, HE.out⟩
            | true =>
              rw [hok] at HOk
              rw [if_pos ⟨hver, h3, hok⟩] at hr
              have HR2 := Num.hide hr
              clear hr hver hok
              go_wp2_with fail
              refine (HOk.out _ _ (Recs.own_is Flds.cells_len O5.out)).mono ?_
              rintro e W6 ⟨rfl, hb5⟩
              have T6 := Num.hide (T5.out.step hb5)
              have O6 := Num.hide (Recs.own_below O5.out hb5)
              have OF6 := Num.hide (Recs.own_below OF5.out hb5)
              have R6 : Hid (W6.heap[g4]? = some (.cells #[.int .i64 sd, .slice a4 L2.length c4, .string ⟨#[]⟩] 47)) := (hb5.block _ ((Array.getElem?_eq_some_iff.1 R5.out).1)).trans R5.out
              clear hb5 T5 HOk O5 OF5 R5 q0 q1 q2
              have kn : ((k : Int) + 2 + (n : Int)) ≤ (s.size : Int) := by omega
              have kt : ((k : Int) + 2 + (n : Int)).toNat = k + 2 + n := by omega
              have hne : ∀ j, (Value.slice a4 L2.length c4).ownBlock = some j → j ≠ g4 ∧ j ≠ w.heap.size := fun j hj => by
                have := hB4 j hj
                omega
              have hgn : w.heap.size ≠ g4 := by have := hT3; omega
              by_cases h24 : sd = 204 ∨ sd = 304
              · have hr : ((sd, L2, (⟨#[]⟩ : ByteArray)), ((k + 2 + n : Nat) : Int), (0 : Int)) = r := by rw [← HR2.out, if_pos h24]
                subst hr
                have e24 : (sd == 204) = true ∨ ((sd == 204) = false ∧ (sd == 304) = true) := by
                  rcases h24 with h | h
                  · left; rw [h]; rfl
                  · right; rw [h]; exact ⟨rfl, rfl⟩
                clear HR2 h24
                obtain ⟨S8, R8, O8, B8⟩ : Hid (W6.heap[w.heap.size]? = some (.cells Z3 47)) ∧ Hid (W6.heap[g4]? = some (.cells #[.int .i64 sd, .slice a4 L2.length c4, .string ⟨#[]⟩] 47)) ∧ Hid (Flds.Own W3.heap.size W6 (.slice a4 L2.length c4) L2) ∧ Hid (Below w.heap.size w W6) := ⟨T6.out.res, R6, O6, T6.out.below⟩
                clear T6 O6 R6 OF6
                rcases e24 with d2 | ⟨d1, d2⟩
                · have a0 := Recs.box_cell S8.out 0
                  have a1 := Recs.box_cell S8.out 1
                  have a2 := Recs.box_cell S8.out 2
                  simp only [Z3, List.getElem?_toArray, List.getElem?_cons_succ, List.getElem?_cons_zero] at a0 a1 a2
                  have q0 := Recs.box_cell R8.out 0
                  have q1 := Recs.box_cell R8.out 1
                  have q2 := Recs.box_cell R8.out 2
                  simp only [List.getElem?_toArray, List.getElem?_cons_succ, List.getElem?_cons_zero] at q0 q1 q2
                  have f0 := Recs.box_thaw S8.out 0
                  have f1 := Recs.box_thaw S8.out 1
                  have f2 := Recs.box_thaw S8.out 2
                  have OF := Num.hide (Recs.own_set (Recs.own_set (Recs.own_set O8.out w.heap.size 0 (.int .i64 sd) (fun j hj => (hne j hj).2)) w.heap.size 1 (.slice a4 L2.length c4) (fun j hj => (hne j hj).2)) w.heap.size 2 (.string ⟨#[]⟩) (fun j hj => (hne j hj).2))
                  have BF := Num.hide (((B8.out.setCell (p := ⟨w.heap.size, 0, none⟩) (Nat.le_refl _) (.int .i64 sd)).setCell (p := ⟨w.heap.size, 1, none⟩) (Nat.le_refl _) (.slice a4 L2.length c4)).setCell (p := ⟨w.heap.size, 2, none⟩) (Nat.le_refl _) (.string ⟨#[]⟩))
                  go_wp2
                  exact bodyPost_ret (v := .tuple #[.agg #[.int .i64 sd, .slice a4 L2.length c4, .string ⟨#[]⟩], .int .i64 ((k : Int) + 2 + (n : Int)), .int .i64 0]) (by simp [results, Tryz.results32, go_sem, *]) rfl ⟨_, rfl, Recs.own_mono OF.out (by omega), BF.out⟩
                · have a0 := Recs.box_cell S8.out 0
                  have a1 := Recs.box_cell S8.out 1
                  have a2 := Recs.box_cell S8.out 2
                  simp only [Z3, List.getElem?_toArray, List.getElem?_cons_succ, List.getElem?_cons_zero] at a0 a1 a2
                  have q0 := Recs.box_cell R8.out 0
                  have q1 := Recs.box_cell R8.out 1
                  have q2 := Recs.box_cell R8.out 2
                  simp only [List.getElem?_toArray, List.getElem?_cons_succ, List.getElem?_cons_zero] at q0 q1 q2
                  have f0 := Recs.box_thaw S8.out 0
                  have f1 := Recs.box_thaw S8.out 1
                  have f2 := Recs.box_thaw S8.out 2
                  have OF := Num.hide (Recs.own_set (Recs.own_set (Recs.own_set O8.out w.heap.size 0 (.int .i64 sd) (fun j hj => (hne j hj).2)) w.heap.size 1 (.slice a4 L2.length c4) (fun j hj => (hne j hj).2)) w.heap.size 2 (.string ⟨#[]⟩) (fun j hj => (hne j hj).2))
                  have BF := Num.hide (((B8.out.setCell (p := ⟨w.heap.size, 0, none⟩) (Nat.le_refl _) (.int .i64 sd)).setCell (p := ⟨w.heap.size, 1, none⟩) (Nat.le_refl _) (.slice a4 L2.length c4)).setCell (p := ⟨w.heap.size, 2, none⟩) (Nat.le_refl _) (.string ⟨#[]⟩))
                  go_wp2
                  exact bodyPost_ret (v := .tuple #[.agg #[.int .i64 sd, .slice a4 L2.length c4, .string ⟨#[]⟩], .int .i64 ((k : Int) + 2 + (n : Int)), .int .i64 0]) (by simp [results, Tryz.results32, go_sem, *]) rfl ⟨_, rfl, Recs.own_mono OF.out (by omega), BF.out⟩
              · have d1 : (sd == 204) = false := by rw [beq_eq_false_iff_ne]; exact fun h => h24 (.inl h)
                have d2 : (sd == 304) = false := by rw [beq_eq_false_iff_ne]; exact fun h => h24 (.inr h)
                rw [if_neg h24] at HR2
                have HBo := Num.hide (fun v W h => Body.body_spec v L0 (s.extract (k + 2 + n) s.size) true W h (by omega) (by rw [ByteArray.size_extract]; omega))
                have hbd := Body.body_bd L0 (s.extract (k + 2 + n) s.size) true
                rw [ByteArray.size_extract] at hbd
                generalize Body.bodyOf L0 (s.extract (k + 2 + n) s.size) true = bo at HBo HR2 hbd
                obtain ⟨bt, bn, bc⟩ := bo
                simp only at HBo HR2 hbd
                clear h24
                go_wp2_with fail
                refine (HBo.out _ _ (Recs.own_is Flds.cells_len OF6.out)).mono ?_
                rintro e W7 ⟨rfl, hb7⟩
                have T7 := Num.hide (T6.out.step hb7)
                have O7 := Num.hide (Recs.own_below O6.out hb7)
                have R7 : Hid (W7.heap[g4]? = some (.cells #[.int .i64 sd, .slice a4 L2.length c4, .string ⟨#[]⟩] 47)) := (hb7.block _ ((Array.getElem?_eq_some_iff.1 R6.out).1)).trans R6.out
                clear hb7 T6 HBo O6 OF6 R6
                by_cases hbc : bc = 0
                · have d0 : (bc != 0) = false := by rw [hbc]; rfl
                  have hr : ((sd, L2, bt), ((k + 2 + n : Nat) : Int) + bn, (0 : Int)) = r := by rw [← HR2.out, if_pos hbc]
                  subst hr
                  clear HR2 hbc
                  have q2 := Recs.box_cell R7.out 2
                  simp only [List.getElem?_toArray, List.getElem?_cons_succ, List.getElem?_cons_zero] at q2
                  have z2 := Recs.box_thaw R7.out 2
                  go_upto_region 19 with fail
                  have R8 := Num.hide (Recs.box_set R7.out 2 (.string bt))
                  have S8 := Num.hide (Recs.box_far (i := 2) T7.out.res (.string bt) hgn)
                  have O8 := Num.hide (Recs.own_set O7.out g4 2 (.string bt) (fun j hj => (hne j hj).1))
                  have B8 := Num.hide (T7.out.below.setCell (p := ⟨g4, 2, none⟩) (by show w.heap.size ≤ g4; omega) (.string bt))
                  simp only [List.setIfInBounds_toArray, List.set_cons_succ, List.set_cons_zero] at R8
                  clear q2 z2 T7 O7 R7
                  generalize W7.setCell ⟨g4, 2, none⟩ (.string bt) = W8 at R8 S8 O8 B8 ⊢
                  have a0 := Recs.box_cell S8.out 0
                  have a1 := Recs.box_cell S8.out 1
                  have a2 := Recs.box_cell S8.out 2
                  simp only [Z3, List.getElem?_toArray, List.getElem?_cons_succ, List.getElem?_cons_zero] at a0 a1 a2
                  have q0 := Recs.box_cell R8.out 0
                  have q1 := Recs.box_cell R8.out 1
                  have q2 := Recs.box_cell R8.out 2
                  simp only [List.getElem?_toArray, List.getElem?_cons_succ, List.getElem?_cons_zero] at q0 q1 q2
                  have f0 := Recs.box_thaw S8.out 0
                  have f1 := Recs.box_thaw S8.out 1
                  have f2 := Recs.box_thaw S8.out 2
                  have OF := Num.hide (Recs.own_set (Recs.own_set (Recs.own_set O8.out w.heap.size 0 (.int .i64 sd) (fun j hj => (hne j hj).2)) w.heap.size 1 (.slice a4 L2.length c4) (fun j hj => (hne j hj).2)) w.heap.size 2 (.string bt) (fun j hj => (hne j hj).2))
                  have BF := Num.hide (((B8.out.setCell (p := ⟨w.heap.size, 0, none⟩) (Nat.le_refl _) (.int .i64 sd)).setCell (p := ⟨w.heap.size, 1, none⟩) (Nat.le_refl _) (.slice a4 L2.length c4)).setCell (p := ⟨w.heap.size, 2, none⟩) (Nat.le_refl _) (.string bt))
                  go_wp2
                  exact bodyPost_ret (v := .tuple #[.agg #[.int .i64 sd, .slice a4 L2.length c4, .string bt], .int .i64 ((k : Int) + 2 + (n : Int) + bn), .int .i64 0]) (by simp [results, Tryz.results32, go_sem, *]) rfl ⟨_, rfl, Recs.own_mono OF.out (by omega), BF.out⟩
                · have d0 : (bc != 0) = true := by rw [bne_iff_ne]; exact hbc
                  have hr : noRs (codeOf bc) = r := by rw [← HR2.out, if_neg hbc]
                  subst hr
                  have HCo := Num.hide (fun W => code_spec bc W)
                  clear HR2 hbc
                  obtain ⟨⟨n0, n1, n2⟩, ⟨a0, a1, a2⟩, f0, f1, f2⟩ := T7.out.cells
                  have HE := Num.hide (T7.out.told (.int .i64 0) (.slice none 0 0) (.string ⟨#[]⟩))
                  go_wp2
                  go_region_with (go_at_call 77; refine (HCo.out _).mono ?_; rintro e w' ⟨rfl, rfl⟩)
                  all_goals go_wp2
                  all_goals exact bodyPost_ret (v := .tuple #[.agg #[.int .i64 0, .slice none 0 0, .string ⟨#[]⟩], .int .i64 0, .int .i64 (codeOf bc)]) (by simp [results, Tryz.results32, go_sem, *]) rfl ⟨_, rfl, Recs.own_nil _ _, HE.out.drew⟩
        · have d3 : ((cd.size : Int) != 3) = true := by rw [bne_iff_ne]; omega
          have hr : noRs 2 = r := by
            rw [← HR.out]
            cases Flds.read (s.extract (k + 2) s.size) with
            | none => rfl
            | some q => simp only; rw [if_neg (fun h => h3 h.2.1)]
          subst hr
          clear HR hver
          obtain ⟨⟨n0, n1, n2⟩, ⟨a0, a1, a2⟩, f0, f1, f2⟩ := T5.out.cells
          have HE := Num.hide (T5.out.told (.int .i64 0) (.slice none 0 0) (.string ⟨#[]⟩))
          go_wp2
          exact bodyPost_ret (v := .tuple #[.agg #[.int .i64 0, .slice none 0 0, .string ⟨#[]⟩], .int .i64 0, .int .i64 2]) (by simp [results, Tryz.results32, go_sem, *]) rfl ⟨_, rfl, Recs.own_nil _ _, HE.out⟩
    · have dv : (v8.toList == [72, 84, 84, 80, 47, 49, 46, 49]) = false := by
        rw [beq_eq_false_iff_ne, ByteArray.toList_eq]
        intro e; exact hver (ByteArray.ext (Array.toList_inj.1 (by rw [e]; rfl)))
      have dv2 : (v8.toList != [72, 84, 84, 80, 47, 49, 46, 49]) = true := by rw [bne, dv]; rfl
      have hr : noRs 2 = r := by
        rw [← HR.out]
        cases Flds.read (s.extract (k + 2) s.size) with
        | none => rfl
        | some q =>
          simp only
          cases dr with
          | none => rfl
          | some sd => simp only; rw [if_neg (fun h => hver h.1)]
      subst hr
      clear HR hver
      obtain ⟨⟨n0, n1, n2⟩, ⟨a0, a1, a2⟩, f0, f1, f2⟩ := T5.out.cells
      have HE := Num.hide (T5.out.told (.int .i64 0) (.slice none 0 0) (.string ⟨#[]⟩))
      go_wp2
      exact bodyPost_ret (v := .tuple #[.agg #[.int .i64 0, .slice none 0 0, .string ⟨#[]⟩], .int .i64 0, .int .i64 2]) (by simp [results, Tryz.results32, go_sem, *]) rfl ⟨_, rfl, Recs.own_nil _ _, HE.out⟩
end Msg
end Go.Proofs.YtbajfklnekfeoaaGreatDoor
namespace Go.Proofs.YtbajfklnekfeoaaGreatDoor
open Go.RowKit
set_option linter.unusedVariables false
namespace Resp

set_option maxRecDepth 100000 in
set_option maxHeartbeats 2000000 in
theorem eq_any (s1 s2 : Int) (v1 v2 : Value) (l1 l2 : List Flds.Fld) (b1 b2 : ByteArray) (w : World) (h1 : Flds.Is w v1 l1) (h2 : Flds.Is w v2 l2) (hl : l1.length ≤ 1099511627776) :
    Calls Tryz.prog 33 #[val s1 v1 b1, val s2 v2 b2] w fun e w' => e = .returned (.bool (decide (s1 = s2 ∧ l1 = l2 ∧ b1 = b2))) ∧ Below w.heap.size w w' := by
  unfold val
  obtain ⟨r, hr⟩ : ∃ r, decide (s1 = s2 ∧ l1 = l2 ∧ b1 = b2) = r := ⟨_, rfl⟩
  rw [hr]
  obtain ⟨a1, c1, rfl, _⟩ := Flds.is_form h1
  obtain ⟨a2, c2, rfl, _⟩ := Flds.is_form h2
  have hb0 := ((Below.refl w.heap.size w).alloc (Nat.le_refl _) (.cells #[.int .i64 s1, .slice a1 l1.length c1, .string b1] 47)).alloc (by simp) (.cells #[.int .i64 s2, .slice a2 l2.length c2, .string b2] 47)
  have HB0 := Num.hide hb0
  have HE := Num.hide (Flds.eq_any _ _ l1 l2 _ (Recs.is_stay h1 (Nat.le_refl _) hb0) (Recs.is_stay h2 (Nat.le_refl _) hb0) hl)
  clear h1 h2 hb0
  by_cases hs : s1 = s2
  · have ds : (s1 != s2) = false := by rw [bne_eq_false_iff_eq]; exact hs
    by_cases hll : l1 = l2
    · rw [decide_eq_true hll] at HE
      by_cases hbb : b1 = b2
      · obtain rfl : r = true := by rw [← hr]; exact decide_eq_true ⟨hs, hll, hbb⟩
        subst hbb
        clear hr hs hll
        go_enter Tryz.func33, Tryz.ntmps33
        go_wp2_with fail
        refine HE.out.mono ?_
        rintro e w1 ⟨rfl, hb1⟩
        have k1 := (hb1.cell (p := ⟨w.heap.size, 2, none⟩) (by show w.heap.size < _; rw [World.size_alloc, World.size_alloc]; omega)).trans (box_one w _ _ _ _ 2)
        have k2 := (hb1.cell (p := ⟨w.heap.size + 1, 2, none⟩) (by show w.heap.size + 1 < _; rw [World.size_alloc, World.size_alloc]; omega)).trans (box_two w _ _ _ _ 2)
        have HB1 := Num.hide (HB0.out.trans (hb1.mono HB0.out.size))
        clear hb1 HB0 HE
        simp only [List.getElem?_toArray, List.getElem?_cons_succ, List.getElem?_cons_zero] at k1 k2
        go_wp2
        go_ret
        exact ⟨rfl, HB1.out⟩
      · obtain rfl : r = false := by rw [← hr]; exact decide_eq_false (fun h => hbb h.2.2)
        have db : (b1.toList == b2.toList) = false := Flds.text_ne hbb
        have db2 : (b1.toList != b2.toList) = true := by rw [bne, db]; rfl
        clear hr hs hll hbb
        go_enter Tryz.func33, Tryz.ntmps33
        go_wp2_with fail
        refine HE.out.mono ?_
        rintro e w1 ⟨rfl, hb1⟩
        have k1 := (hb1.cell (p := ⟨w.heap.size, 2, none⟩) (by show w.heap.size < _; rw [World.size_alloc, World.size_alloc]; omega)).trans (box_one w _ _ _ _ 2)
        have k2 := (hb1.cell (p := ⟨w.heap.size + 1, 2, none⟩) (by show w.heap.size + 1 < _; rw [World.size_alloc, World.size_alloc]; omega)).trans (box_two w _ _ _ _ 2)
        have HB1 := Num.hide (HB0.out.trans (hb1.mono HB0.out.size))
        clear hb1 HB0 HE
        simp only [List.getElem?_toArray, List.getElem?_cons_succ, List.getElem?_cons_zero] at k1 k2
        go_wp2
        go_ret
        exact ⟨rfl, HB1.out⟩
    · rw [decide_eq_false hll] at HE
      obtain rfl : r = false := by rw [← hr]; exact decide_eq_false (fun h => hll h.2.1)
      clear hr hs hll
      go_enter Tryz.func33, Tryz.ntmps33
      go_wp2_with fail
      refine HE.out.mono ?_
      rintro e w1 ⟨rfl, hb1⟩
      have HB1 := Num.hide (HB0.out.trans (hb1.mono HB0.out.size))
      clear hb1 HB0 HE
      go_wp2
      go_ret
      exact ⟨rfl, HB1.out⟩
  · have ds : (s1 != s2) = true := by rw [bne_iff_ne]; exact hs
    obtain rfl : r = false := by rw [← hr]; exact decide_eq_false (fun h => hs h.1)
    clear hr hs HE
    go_enter Tryz.func33, Tryz.ntmps33
    go_wp2
    go_ret
    exact ⟨rfl, HB0.out⟩
end Resp
end Go.Proofs.YtbajfklnekfeoaaGreatDoor
namespace Go.Proofs.YtbajfklnekfeoaaGreatDoor
open Go.RowKit
set_option linter.unusedVariables false
namespace Resp

set_option maxRecDepth 100000 in
set_option maxHeartbeats 1000000 in
theorem mark_any (s : Int) (b : ByteArray) (B : Nat) (v : Value) (l : List Flds.Fld) (k : Int) (w : World) (h : Flds.Own B w v l) (hl : l.length ≤ 1099511627776) (h0 : 0 ≤ k) (h1 : k ≤ 1099511627776) :
    Calls Tryz.prog 34 #[val s v b, .int .i64 k] w fun e w' => e = .returned (.int .i64 (k + 2 * l.length)) ∧ Flds.Own B w' v (Flds.marks k l.length) ∧ w.grownBy w' v.ownBlock := by
  obtain ⟨a, c, rfl⟩ := Recs.own_len h
  unfold val
  have HO := Num.hide (World.ownsRow.alloc h (.cells #[.int .i64 s, .slice a l.length c, .string b] 47))
  have HM := Num.hide (fun W h => Flds.mark_any B (.slice a l.length c) l k W h hl h0 h1)
  clear h
  go_enter Tryz.func34, Tryz.ntmps34
  go_wp2_with fail
  refine (HM.out _ HO.out).mono ?_
  rintro e W1 ⟨rfl, ho, hg⟩
  have HO1 := Num.hide ho
  have HG1 := Num.hide (Recs.grown_trans (Recs.grown_of_below ((Below.refl w.heap.size w).alloc (Nat.le_refl _) _) _) hg)
  clear ho hg HO HM
  go_wp2
  go_ret
  exact ⟨rfl, HO1.out, HG1.out⟩
set_option maxRecDepth 100000 in
set_option maxHeartbeats 1000000 in
theorem held_any (s : Int) (b : ByteArray) (v : Value) (n : Nat) (k : Int) (w : World) (h : Flds.Is w v (Flds.marks k n)) (hl : n ≤ 1099511627776) (h0 : 0 ≤ k) (h1 : k ≤ 1099511627776) :
    Calls Tryz.prog 35 #[val s v b, .int .i64 k] w fun e w' => e = .returned (.int .i64 (k + 2 * n)) ∧ Below w.heap.size w w' := by
  obtain ⟨a, c, hv, _⟩ := Flds.is_form h
  rw [Flds.length_marks] at hv
  subst hv
  unfold val
  have hb0 := (Below.refl w.heap.size w).alloc (Nat.le_refl _) (.cells #[.int .i64 s, .slice a n c, .string b] 47)
  have HI := Num.hide (Recs.is_stay h (Nat.le_refl _) hb0)
  have HB0 := Num.hide hb0
  have HH := Num.hide (fun W h => Flds.held_any (.slice a n c) n k W h hl h0 h1)
  have dk : decide (k + 2 * (n : Int) < 0) = false := by rw [decide_eq_false_iff_not]; omega
  clear h hb0
  go_enter Tryz.func35, Tryz.ntmps35
  go_wp2_with fail
  refine (HH.out _ HI.out).mono ?_
  rintro e W1 ⟨rfl, hb⟩
  have HB1 := Num.hide (HB0.out.trans (hb.mono HB0.out.size))
  clear hb HI HB0 HH
  go_wp2
  go_ret
  exact ⟨rfl, HB1.out⟩
end Resp
end Go.Proofs.YtbajfklnekfeoaaGreatDoor
namespace Go.Proofs.YtbajfklnekfeoaaGreatDoor
open Go.RowKit
set_option linter.unusedVariables false
namespace Msg

theorem drop_len3 (l : List Flds.Fld) : (bare l).length ≤ l.length := Nat.le_trans (Flds.drop_length _ _) (Flds.drop_length _ _)
theorem readResp_len (s : ByteArray) : (readResp s).1.2.1.length ≤ 13 := by
  have hn : ∀ c, (noRs c).1.2.1.length ≤ 13 := fun c => Nat.zero_le _
  unfold readResp
  split
  · exact hn _
  · cases Line.eol s 0 with
    | none => exact hn _
    | some k =>
      simp only
      cases hq : Flds.read (s.extract (k + 2) s.size) with
      | none => exact hn _
      | some q =>
        obtain ⟨l, n⟩ := q
        simp only
        have h1 : l.length ≤ 13 := by
          have := Flds.readL_length (s.extract (k + 2) s.size)
          rw [(Flds.told_some hq).1] at this
          exact this
        have h2 := drop_len3 l
        cases decR (words (s.extract 0 k)).2.1 with
        | none => exact hn _
        | some st =>
          simp only
          split
          · split
            · show (bare l).length ≤ 13
              omega
            · split
              · show (bare l).length ≤ 13
                omega
              · exact hn _
          · exact hn _
/-- a box of an answer -/
def SBox (g : Nat) (st : Int) (v : Value) (b : ByteArray) (W : World) : Prop := W.heap[g]? = some (.cells #[.int .i64 st, v, .string b] 47)
theorem SBox.step {g : Nat} {st : Int} {b : ByteArray} {v : Value} {W W' : World} (h : SBox g st v b W) (hb : Below W.heap.size W W') : SBox g st v b W' := (hb.block g (Array.getElem?_eq_some_iff.1 h).1).trans h
theorem SBox.lt {g : Nat} {st : Int} {b : ByteArray} {v : Value} {W : World} (h : SBox g st v b W) : g < W.heap.size := (Array.getElem?_eq_some_iff.1 h).1
theorem SBox.cells {g : Nat} {st : Int} {b : ByteArray} {v : Value} {W : World} (h : SBox g st v b W) : W.cell? ⟨g, 0, none⟩ = some (.int .i64 st) ∧ W.cell? ⟨g, 1, none⟩ = some v ∧ W.cell? ⟨g, 2, none⟩ = some (.string b) :=
  ⟨Recs.box_cell h 0, Recs.box_cell h 1, Recs.box_cell h 2⟩
theorem SBox.mark {g : Nat} {st : Int} {b : ByteArray} {v : Value} {W W' : World} {row : Option Nat} (h : SBox g st v b W) (hg : W.grownBy W' row) (hne : ∀ k, row = some k → k ≠ g) : SBox g st v b W' :=
  (hg.block g h.lt (fun e => hne g e.symm rfl)).trans h
set_option maxRecDepth 100000 in
set_option maxHeartbeats 8000000 in
theorem readResp_law (G : World → Prop) (hG : ∀ W W', G W → Below W.heap.size W W' → G W')
    (hi : ∀ (s : ByteArray) W, s.size ≤ 1048576 → G W → Calls Tryz.prog 24 #[.string s] W fun e w' => ∃ v', e = .returned (.tuple #[Resp.val (readResp s).1.1 v' (readResp s).1.2.2, .int .i64 (readResp s).2.1, .int .i64 (readResp s).2.2]) ∧ Flds.Own W.heap.size w' v' (readResp s).1.2.1 ∧ Below W.heap.size W w')
    (s : ByteArray) (w : World) (hs : s.size ≤ maxLen) (hg : G w) :
    Calls Tryz.prog 6 #[.string s] w fun e w' => e = .returned (.bool true) ∧ Below w.heap.size w w' := by
  unfold maxLen at hs
  by_cases hbig : 1048576 < s.size
  · have db : decide ((1048576 : Int) < (s.size : Int)) = true := by simp; omega
    clear hi hG hg
    go_enter Tryz.func6, Tryz.ntmps6
    go_wp2
    go_ret
    exact ⟨rfl, Below.refl _ _⟩
  · have db : decide ((1048576 : Int) < (s.size : Int)) = false := by simp; omega
    have HS := Num.hide (fun W => readResp_spec s W (by omega))
    have HI := Num.hide (fun W (hb : Below w.heap.size w W) => hi s W (by omega) (hG w W hg hb))
    have hL := readResp_len s
    clear hi hG hg
    generalize readResp s = R at HS HI hL
    obtain ⟨⟨st, L, b⟩, N, C⟩ := R
    simp only at HS HI hL
    unfold Resp.val at HS HI
    have HEq := Num.hide (fun v1 v2 W h1 h2 => Resp.eq_any st st v1 v2 L L b b W h1 h2 (by omega))
    have HMk := Num.hide (fun B v W h => Resp.mark_any st b B v L 1 W h (by omega) (by omega) (by omega))
    have HHd := Num.hide (fun v W h => Resp.held_any st b v L.length 1 W h (by omega) (by omega) (by omega))
    rw [decide_eq_true ⟨rfl, rfl, rfl⟩] at HEq
    unfold Resp.val at HEq HMk HHd
    go_enter Tryz.func6, Tryz.ntmps6
    go_wp2_with fail
    refine (HS.out _).mono ?_
    rintro e W1 ⟨vw, rfl, ho1, hb1⟩
    obtain ⟨aw, cw, hvw⟩ := Recs.own_len ho1
    subst hvw
    have O1 := Num.hide (World.ownsRow.alloc ho1 (.cells #[.int .i64 st, .slice aw L.length cw, .string b] 47))
    have B1 := Num.hide (hb1.alloc hb1.size (.cells #[.int .i64 st, .slice aw L.length cw, .string b] 47))
    have X1 : Hid (SBox W1.heap.size st (.slice aw L.length cw) b (W1.alloc (.cells #[.int .i64 st, .slice aw L.length cw, .string b] 47))) := heap_alloc_new W1 _
    have z1 : (W1.alloc (.cells #[.int .i64 st, .slice aw L.length cw, .string b] 47)).heap.size = W1.heap.size + 1 := by simp
    have D1 : Hid (∀ k, (Value.slice aw L.length cw).ownBlock = some k → k < W1.heap.size) := fun k hk => (Recs.own_lt ho1 k hk).2
    have s1 := hb1.size
    clear ho1 hb1
    go_upto_region 4 with fail
    generalize W1.alloc (.cells #[.int .i64 st, .slice aw L.length cw, .string b] 47) = V1 at O1 B1 X1 z1 ⊢
    generalize W1.heap.size = g1 at X1 z1 D1 s1 ⊢
    go_wp2_with fail
    refine (HI.out _ B1.out).mono ?_
    rintro e W2 ⟨vg, rfl, ho2, hb2⟩
    obtain ⟨ag, cg, hvg⟩ := Recs.own_len ho2
    subst hvg
    have O1b := Num.hide (World.ownsRow.alloc (Recs.own_below O1.out hb2) (.cells #[.int .i64 st, .slice ag L.length cg, .string b] 47))
    have O2 := Num.hide (World.ownsRow.alloc ho2 (.cells #[.int .i64 st, .slice ag L.length cg, .string b] 47))
    have B2 := Num.hide ((B1.out.trans (hb2.mono B1.out.size)).alloc (Nat.le_trans B1.out.size hb2.size) (.cells #[.int .i64 st, .slice ag L.length cg, .string b] 47))
    have X1b := Num.hide ((X1.out.step hb2).step ((Below.refl W2.heap.size W2).alloc (Nat.le_refl _) (.cells #[.int .i64 st, .slice ag L.length cg, .string b] 47)))
    have X2 : Hid (SBox W2.heap.size st (.slice ag L.length cg) b (W2.alloc (.cells #[.int .i64 st, .slice ag L.length cg, .string b] 47))) := heap_alloc_new W2 _
    have z2 : (W2.alloc (.cells #[.int .i64 st, .slice ag L.length cg, .string b] 47)).heap.size = W2.heap.size + 1 := by simp
    have D2 : Hid (∀ k, (Value.slice ag L.length cg).ownBlock = some k → V1.heap.size ≤ k ∧ k < W2.heap.size) := fun k hk => Recs.own_lt ho2 k hk
    clear ho2 hb2 O1 B1 X1
    go_upto_region 5 with fail
    generalize W2.alloc (.cells #[.int .i64 st, .slice ag L.length cg, .string b] 47) = V2 at O1b O2 B2 X1b X2 z2 ⊢
    generalize W2.heap.size = g2 at X2 z2 D2 ⊢
    obtain ⟨p0, p1, p2⟩ := X1b.out.cells
    obtain ⟨q0, q1, q2⟩ := X2.out.cells
    go_wp2_with fail
    refine (HEq.out _ _ _ (Recs.own_is Flds.cells_len O2.out) (Recs.own_is Flds.cells_len O1b.out)).mono ?_
    rintro e W3 ⟨rfl, hb3⟩
    have O1c := Num.hide (Recs.own_below O1b.out hb3)
    have O3 := Num.hide (Recs.own_below O2.out hb3)
    have B3 := Num.hide (B2.out.trans (hb3.mono B2.out.size))
    have X1c := Num.hide (X1b.out.step hb3)
    have X3 := Num.hide (X2.out.step hb3)
    have s3 := hb3.size
    clear hb3 O1b O2 B2 X1b X2 p0 p1 p2 q0 q1 q2
    obtain ⟨q0, q1, q2⟩ := X3.out.cells
    go_wp2_with fail
    refine (HMk.out _ _ _ O3.out).mono ?_
    rintro e W4 ⟨rfl, ho4, hg4⟩
    have B4 := Num.hide (B3.out.trans (Recs.below_mark O3.out (by omega) (by have := B3.out.size; omega) hg4))
    have O4 := Num.hide ho4
    have O1d := Num.hide (Recs.own_kept O1c.out hg4 (by
      cases hv : (Value.slice aw L.length cw).ownBlock with
      | none => exact .inl rfl
      | some k =>
        right
        intro e
        have h1 := D1.out k hv
        have h2 := D2.out k e.symm
        omega))
    have X1d := Num.hide (X1c.out.mark hg4 (fun k hk => by have := D2.out k hk; omega))
    have X4 := Num.hide (X3.out.mark hg4 (fun k hk => by have := D2.out k hk; omega))
    have s4 := hg4.size
    clear ho4 hg4 O1c O3 B3 X1c X3 q0 q1 q2
    obtain ⟨q0, q1, q2⟩ := X4.out.cells
    have dm : decide ((1 : Int) + 2 * (L.length : Int) < 0) = false := by simp; omega
    go_wp2_with fail
    refine (HHd.out _ _ (Recs.own_is Flds.cells_len O4.out)).mono ?_
    rintro e W5 ⟨rfl, hb5⟩
    have O5 := Num.hide (Recs.own_below O4.out hb5)
    have O1e := Num.hide (Recs.own_below O1d.out hb5)
    have B5 := Num.hide (B4.out.trans (hb5.mono B4.out.size))
    have X1e := Num.hide (X1d.out.step hb5)
    have X5 := Num.hide (X4.out.step hb5)
    clear hb5 O4 O1d B4 X1d X4 q0 q1 q2
    go_wp2_with fail
    refine (HI.out _ B5.out).mono ?_
    rintro e W6 ⟨vh, rfl, ho6, hb6⟩
    obtain ⟨ah, ch, hvh⟩ := Recs.own_len ho6
    subst hvh
    have O5b := Num.hide (World.ownsRow.alloc (Recs.own_below O5.out hb6) (.cells #[.int .i64 st, .slice ah L.length ch, .string b] 47))
    have O1f := Num.hide (World.ownsRow.alloc (Recs.own_below O1e.out hb6) (.cells #[.int .i64 st, .slice ah L.length ch, .string b] 47))
    have O6 := Num.hide (World.ownsRow.alloc ho6 (.cells #[.int .i64 st, .slice ah L.length ch, .string b] 47))
    have B6 := Num.hide ((B5.out.trans (hb6.mono B5.out.size)).alloc (Nat.le_trans B5.out.size hb6.size) (.cells #[.int .i64 st, .slice ah L.length ch, .string b] 47))
    have hal := (Below.refl W6.heap.size W6).alloc (Nat.le_refl _) (.cells #[.int .i64 st, .slice ah L.length ch, .string b] 47)
    have X1f := Num.hide ((X1e.out.step hb6).step hal)
    have X5b := Num.hide ((X5.out.step hb6).step hal)
    have X6 : Hid (SBox W6.heap.size st (.slice ah L.length ch) b (W6.alloc (.cells #[.int .i64 st, .slice ah L.length ch, .string b] 47))) := heap_alloc_new W6 _
    clear ho6 hb6 hal O5 O1e B5 X1e X5
    go_upto_region 16 with fail
    generalize W6.alloc (.cells #[.int .i64 st, .slice ah L.length ch, .string b] 47) = V6 at O5b O1f O6 B6 X1f X5b X6 ⊢
    generalize W6.heap.size = g6 at X6 ⊢
    obtain ⟨p0, p1, p2⟩ := X1f.out.cells
    obtain ⟨q0, q1, q2⟩ := X6.out.cells
    go_wp2_with fail
    refine (HEq.out _ _ _ (Recs.own_is Flds.cells_len O6.out) (Recs.own_is Flds.cells_len O1f.out)).mono ?_
    rintro e W7 ⟨rfl, hb7⟩
    have O7 := Num.hide (Recs.own_below O5b.out hb7)
    have B7 := Num.hide (B6.out.trans (hb7.mono B6.out.size))
    have X7 := Num.hide (X5b.out.step hb7)
    clear hb7 O5b O1f O6 B6 X1f X5b X6 p0 p1 p2 q0 q1 q2
    obtain ⟨q0, q1, q2⟩ := X7.out.cells
    go_wp2_with fail
    refine (HHd.out _ _ (Recs.own_is Flds.cells_len O7.out)).mono ?_
    rintro e W8 ⟨rfl, hb8⟩
    have B8 := Num.hide (B7.out.trans (hb8.mono B7.out.size))
    clear hb8
    go_wp2
    go_ret
    exact ⟨rfl, B8.out⟩
end Msg
end Go.Proofs.YtbajfklnekfeoaaGreatDoor
namespace Go.Proofs.YtbajfklnekfeoaaGreatDoor
open Go.Shelf
def Shelf.lays172_ren : Go.Shelf.Ren := ⟨fun | 172 => 164 | 244 => 188 | 245 => 88 | 247 => 198 | 279 => 136 | 280 => 137 | 281 => 138 | 282 => 139 | 287 => 87 | 316 => 161 | 171 => 113 | 205 => 170 | 321 => 134 | 322 => 135 | 243 => 163 | 246 => 89 | 283 => 140 | 284 => 141 | 285 => 142 | 286 => 143 | 129 => 172 | 317 => 171 | 318 => 173 | 319 => 174 | 320 => 175 | 337 => 192 | 338 => 193 | n => n, fun | 9 => 9 | 3 => 3 | 75 => 71 | 76 => 72 | 4 => 4 | 5 => 5 | 167 => 152 | 37 => 22 | 0 => 0 | 85 => 204 | 2 => 2 | 168 => 154 | 53 => 80 | 175 => 81 | 46 => 141 | 210 => 184 | 127 => 111 | 145 => 201 | 143 => 199 | 21 => 21 | 171 => 157 | 173 => 160 | 212 => 187 | 51 => 188 | 20 => 20 | 213 => 189 | 232 => 207 | 233 => 208 | 80 => 75 | n => n, fun | 15 => 2 | 16 => 3 | 17 => 4 | 18 => 6 | 19 => 7 | n => n⟩
theorem Shelf.lays172 : Go.Proofs.Lays.n172 Tryz.prog Shelf.lays172_ren := {
  mixed := by kernel_rfl
  f129 := Tryz.func172.trans (congrArg some (by kernel_rfl))
  f171 := Tryz.func113.trans (congrArg some (by kernel_rfl))
  f172 := Tryz.func164.trans (congrArg some (by kernel_rfl))
  f205 := Tryz.func170.trans (congrArg some (by kernel_rfl))
  f243 := Tryz.func163.trans (congrArg some (by kernel_rfl))
  f244 := Tryz.func188.trans (congrArg some (by kernel_rfl))
  f245 := Tryz.func88.trans (congrArg some (by kernel_rfl))
  f246 := Tryz.func89.trans (congrArg some (by kernel_rfl))
  f247 := Tryz.func198.trans (congrArg some (by kernel_rfl))
  f279 := Tryz.func136.trans (congrArg some (by kernel_rfl))
  f280 := Tryz.func137.trans (congrArg some (by kernel_rfl))
  f281 := Tryz.func138.trans (congrArg some (by kernel_rfl))
  f282 := Tryz.func139.trans (congrArg some (by kernel_rfl))
  f283 := Tryz.func140.trans (congrArg some (by kernel_rfl))
  f284 := Tryz.func141.trans (congrArg some (by kernel_rfl))
  f285 := Tryz.func142.trans (congrArg some (by kernel_rfl))
  f286 := Tryz.func143.trans (congrArg some (by kernel_rfl))
  f287 := Tryz.func87.trans (congrArg some (by kernel_rfl))
  f316 := Tryz.func161.trans (congrArg some (by kernel_rfl))
  f317 := Tryz.func171.trans (congrArg some (by kernel_rfl))
  f318 := Tryz.func173.trans (congrArg some (by kernel_rfl))
  f319 := Tryz.func174.trans (congrArg some (by kernel_rfl))
  f320 := Tryz.func175.trans (congrArg some (by kernel_rfl))
  f321 := Tryz.func134.trans (congrArg some (by kernel_rfl))
  f322 := Tryz.func135.trans (congrArg some (by kernel_rfl))
  f337 := Tryz.func192.trans (congrArg some (by kernel_rfl))
  f338 := Tryz.func193.trans (congrArg some (by kernel_rfl))
  t0 := Tryz.underlying0
  a0 := Tryz.isAgg0
  z0 := Tryz.sizeOf0
  v0 := Tryz.zeroValue0
  t2 := Tryz.underlying2
  a2 := Tryz.isAgg2
  z2 := Tryz.sizeOf2
  v2 := Tryz.zeroValue2
  t3 := Tryz.underlying3
  a3 := Tryz.isAgg3
  z3 := Tryz.sizeOf3
  v3 := Tryz.zeroValue3
  t4 := Tryz.underlying4
  a4 := Tryz.isAgg4
  z4 := Tryz.sizeOf4
  v4 := Tryz.zeroValue4
  t5 := Tryz.underlying5
  a5 := Tryz.isAgg5
  z5 := Tryz.sizeOf5
  v5 := Tryz.zeroValue5
  t9 := Tryz.underlying9
  a9 := Tryz.isAgg9
  z9 := Tryz.sizeOf9
  v9 := Tryz.zeroValue9
  t20 := Tryz.underlying20
  a20 := Tryz.isAgg20
  z20 := Tryz.sizeOf20
  v20 := Tryz.zeroValue20
  t21 := Tryz.underlying21
  a21 := Tryz.isAgg21
  z21 := Tryz.sizeOf21
  v21 := Tryz.zeroValue21
  t37 := Tryz.underlying22
  a37 := Tryz.isAgg22
  z37 := Tryz.sizeOf22
  v37 := Tryz.zeroValue22
  t46 := Tryz.underlying141
  a46 := Tryz.isAgg141
  z46 := Tryz.sizeOf141
  v46 := Tryz.zeroValue141
  t51 := Tryz.underlying188
  a51 := Tryz.isAgg188
  z51 := Tryz.sizeOf188
  v51 := Tryz.zeroValue188
  t53 := Tryz.underlying80
  a53 := Tryz.isAgg80
  z53 := Tryz.sizeOf80
  v53 := Tryz.zeroValue80
  t75 := Tryz.underlying71
  a75 := Tryz.isAgg71
  z75 := Tryz.sizeOf71
  v75 := Tryz.zeroValue71
  t76 := Tryz.underlying72
  a76 := Tryz.isAgg72
  z76 := Tryz.sizeOf72
  v76 := Tryz.zeroValue72
  t85 := Tryz.underlying204
  a85 := Tryz.isAgg204
  z85 := Tryz.sizeOf204
  v85 := Tryz.zeroValue204
  t127 := Tryz.underlying111
  a127 := Tryz.isAgg111
  z127 := Tryz.sizeOf111
  v127 := Tryz.zeroValue111
  t143 := Tryz.underlying199
  a143 := Tryz.isAgg199
  z143 := Tryz.sizeOf199
  v143 := Tryz.zeroValue199
  t145 := Tryz.underlying201
  a145 := Tryz.isAgg201
  z145 := Tryz.sizeOf201
  v145 := Tryz.zeroValue201
  t167 := Tryz.underlying152
  a167 := Tryz.isAgg152
  z167 := Tryz.sizeOf152
  v167 := Tryz.zeroValue152
  t168 := Tryz.underlying154
  a168 := Tryz.isAgg154
  z168 := Tryz.sizeOf154
  v168 := Tryz.zeroValue154
  t171 := Tryz.underlying157
  a171 := Tryz.isAgg157
  z171 := Tryz.sizeOf157
  v171 := Tryz.zeroValue157
  t173 := Tryz.underlying160
  a173 := Tryz.isAgg160
  z173 := Tryz.sizeOf160
  v173 := Tryz.zeroValue160
  t175 := Tryz.underlying81
  a175 := Tryz.isAgg81
  z175 := Tryz.sizeOf81
  v175 := Tryz.zeroValue81
  t210 := Tryz.underlying184
  a210 := Tryz.isAgg184
  z210 := Tryz.sizeOf184
  v210 := Tryz.zeroValue184
  t212 := Tryz.underlying187
  a212 := Tryz.isAgg187
  z212 := Tryz.sizeOf187
  v212 := Tryz.zeroValue187
  t213 := Tryz.underlying189
  a213 := Tryz.isAgg189
  z213 := Tryz.sizeOf189
  t232 := Tryz.underlying207
  a232 := Tryz.isAgg207
  z232 := Tryz.sizeOf207
  v232 := Tryz.zeroValue207
  t233 := Tryz.underlying208
  a233 := Tryz.isAgg208
  z233 := Tryz.sizeOf208
  v233 := Tryz.zeroValue208
  g15 := by kernel_rfl
  g16 := by kernel_rfl
  g17 := by kernel_rfl
  g18 := by kernel_rfl
  g19 := by kernel_rfl }
open Go.RowKit in
theorem Shelf.strconv_Atoi (s : ByteArray) (n : Int) (hl : s.size ≤ 18) (h : Lib.atoi s.data.toList = some n) (w : World) :
    Calls Tryz.prog 164 #[.string s] w fun e w' => e = .returned (.tuple #[.int .i64 n, .nilIface]) ∧ ∃ t, w' = Lib.bytesWorld w 5 t := Any.strconv_Atoi Shelf.lays172 s n hl h w
def Shelf.laysC172_ren : Go.Shelf.Ren := ⟨fun | 172 => 164 | 244 => 188 | 245 => 88 | 247 => 198 | 279 => 136 | 280 => 137 | 281 => 138 | 282 => 139 | 287 => 87 | 316 => 161 | 171 => 113 | 205 => 170 | 321 => 134 | 322 => 135 | 243 => 163 | 246 => 89 | 283 => 140 | 284 => 141 | 285 => 142 | 286 => 143 | 129 => 172 | 317 => 171 | 318 => 173 | 319 => 174 | 320 => 175 | 337 => 192 | 338 => 193 | n => n, fun | 9 => 9 | 3 => 3 | 75 => 71 | 76 => 72 | 4 => 4 | 5 => 5 | 167 => 152 | 37 => 22 | 0 => 0 | 85 => 204 | 2 => 2 | 168 => 154 | 53 => 80 | 175 => 81 | 46 => 141 | 210 => 184 | 127 => 111 | 145 => 201 | 143 => 199 | 21 => 21 | 171 => 157 | 173 => 160 | 212 => 187 | 51 => 188 | 20 => 20 | 213 => 189 | 232 => 207 | 233 => 208 | 80 => 75 | n => n, fun | 15 => 2 | 16 => 3 | 17 => 4 | 18 => 6 | 19 => 7 | n => n⟩
theorem Shelf.laysC172 : Go.Proofs.LaysC.n172 Tryz.prog Shelf.laysC172_ren := {
  mixed := by kernel_rfl
  f129 := Tryz.func172.trans (congrArg some (by kernel_rfl))
  f171 := Tryz.func113.trans (congrArg some (by kernel_rfl))
  f172 := Tryz.func164.trans (congrArg some (by kernel_rfl))
  f205 := Tryz.func170.trans (congrArg some (by kernel_rfl))
  f243 := Tryz.func163.trans (congrArg some (by kernel_rfl))
  f244 := Tryz.func188.trans (congrArg some (by kernel_rfl))
  f245 := Tryz.func88.trans (congrArg some (by kernel_rfl))
  f246 := Tryz.func89.trans (congrArg some (by kernel_rfl))
  f247 := Tryz.func198.trans (congrArg some (by kernel_rfl))
  f279 := Tryz.func136.trans (congrArg some (by kernel_rfl))
  f280 := Tryz.func137.trans (congrArg some (by kernel_rfl))
  f281 := Tryz.func138.trans (congrArg some (by kernel_rfl))
  f282 := Tryz.func139.trans (congrArg some (by kernel_rfl))
  f283 := Tryz.func140.trans (congrArg some (by kernel_rfl))
  f284 := Tryz.func141.trans (congrArg some (by kernel_rfl))
  f285 := Tryz.func142.trans (congrArg some (by kernel_rfl))
  f286 := Tryz.func143.trans (congrArg some (by kernel_rfl))
  f287 := Tryz.func87.trans (congrArg some (by kernel_rfl))
  f316 := Tryz.func161.trans (congrArg some (by kernel_rfl))
  f317 := Tryz.func171.trans (congrArg some (by kernel_rfl))
  f318 := Tryz.func173.trans (congrArg some (by kernel_rfl))
  f319 := Tryz.func174.trans (congrArg some (by kernel_rfl))
  f320 := Tryz.func175.trans (congrArg some (by kernel_rfl))
  f321 := Tryz.func134.trans (congrArg some (by kernel_rfl))
  f322 := Tryz.func135.trans (congrArg some (by kernel_rfl))
  f337 := Tryz.func192.trans (congrArg some (by kernel_rfl))
  f338 := Tryz.func193.trans (congrArg some (by kernel_rfl))
  t0 := Tryz.underlying0
  a0 := Tryz.isAgg0
  z0 := Tryz.sizeOf0
  v0 := Tryz.zeroValue0
  t2 := Tryz.underlying2
  a2 := Tryz.isAgg2
  z2 := Tryz.sizeOf2
  v2 := Tryz.zeroValue2
  t3 := Tryz.underlying3
  a3 := Tryz.isAgg3
  z3 := Tryz.sizeOf3
  v3 := Tryz.zeroValue3
  t4 := Tryz.underlying4
  a4 := Tryz.isAgg4
  z4 := Tryz.sizeOf4
  v4 := Tryz.zeroValue4
  t5 := Tryz.underlying5
  a5 := Tryz.isAgg5
  z5 := Tryz.sizeOf5
  v5 := Tryz.zeroValue5
  t9 := Tryz.underlying9
  a9 := Tryz.isAgg9
  z9 := Tryz.sizeOf9
  v9 := Tryz.zeroValue9
  t20 := Tryz.underlying20
  a20 := Tryz.isAgg20
  z20 := Tryz.sizeOf20
  v20 := Tryz.zeroValue20
  t21 := Tryz.underlying21
  a21 := Tryz.isAgg21
  z21 := Tryz.sizeOf21
  v21 := Tryz.zeroValue21
  t37 := Tryz.underlying22
  a37 := Tryz.isAgg22
  z37 := Tryz.sizeOf22
  v37 := Tryz.zeroValue22
  t46 := Tryz.underlying141
  a46 := Tryz.isAgg141
  z46 := Tryz.sizeOf141
  v46 := Tryz.zeroValue141
  t51 := Tryz.underlying188
  a51 := Tryz.isAgg188
  z51 := Tryz.sizeOf188
  v51 := Tryz.zeroValue188
  t53 := Tryz.underlying80
  a53 := Tryz.isAgg80
  z53 := Tryz.sizeOf80
  v53 := Tryz.zeroValue80
  t75 := Tryz.underlying71
  a75 := Tryz.isAgg71
  z75 := Tryz.sizeOf71
  v75 := Tryz.zeroValue71
  t76 := Tryz.underlying72
  a76 := Tryz.isAgg72
  z76 := Tryz.sizeOf72
  v76 := Tryz.zeroValue72
  t85 := Tryz.underlying204
  a85 := Tryz.isAgg204
  z85 := Tryz.sizeOf204
  v85 := Tryz.zeroValue204
  t127 := Tryz.underlying111
  a127 := Tryz.isAgg111
  z127 := Tryz.sizeOf111
  v127 := Tryz.zeroValue111
  t143 := Tryz.underlying199
  a143 := Tryz.isAgg199
  z143 := Tryz.sizeOf199
  v143 := Tryz.zeroValue199
  t145 := Tryz.underlying201
  a145 := Tryz.isAgg201
  z145 := Tryz.sizeOf201
  v145 := Tryz.zeroValue201
  t167 := Tryz.underlying152
  a167 := Tryz.isAgg152
  z167 := Tryz.sizeOf152
  v167 := Tryz.zeroValue152
  t168 := Tryz.underlying154
  a168 := Tryz.isAgg154
  z168 := Tryz.sizeOf154
  v168 := Tryz.zeroValue154
  t171 := Tryz.underlying157
  a171 := Tryz.isAgg157
  z171 := Tryz.sizeOf157
  v171 := Tryz.zeroValue157
  t173 := Tryz.underlying160
  a173 := Tryz.isAgg160
  z173 := Tryz.sizeOf160
  v173 := Tryz.zeroValue160
  t175 := Tryz.underlying81
  a175 := Tryz.isAgg81
  z175 := Tryz.sizeOf81
  v175 := Tryz.zeroValue81
  t210 := Tryz.underlying184
  a210 := Tryz.isAgg184
  z210 := Tryz.sizeOf184
  v210 := Tryz.zeroValue184
  t212 := Tryz.underlying187
  a212 := Tryz.isAgg187
  z212 := Tryz.sizeOf187
  v212 := Tryz.zeroValue187
  t213 := Tryz.underlying189
  a213 := Tryz.isAgg189
  z213 := Tryz.sizeOf189
  t232 := Tryz.underlying207
  a232 := Tryz.isAgg207
  z232 := Tryz.sizeOf207
  v232 := Tryz.zeroValue207
  t233 := Tryz.underlying208
  a233 := Tryz.isAgg208
  z233 := Tryz.sizeOf208
  v233 := Tryz.zeroValue208
  g15 := by kernel_rfl
  g16 := by kernel_rfl
  g17 := by kernel_rfl
  g18 := by kernel_rfl
  g19 := by kernel_rfl
  t80 := Tryz.underlying75
  a80 := Tryz.isAgg75
  z80 := Tryz.sizeOf75
  v80 := Tryz.zeroValue75
  i0 := by kernel_rfl
  i2 := by kernel_rfl
  i3 := by kernel_rfl
  i4 := by kernel_rfl
  i5 := by kernel_rfl
  i9 := by kernel_rfl
  i20 := by kernel_rfl
  i21 := by kernel_rfl
  i37 := by kernel_rfl
  i46 := by kernel_rfl
  i51 := by kernel_rfl
  i53 := by kernel_rfl
  i75 := by kernel_rfl
  i76 := by kernel_rfl
  i80 := by kernel_rfl
  i85 := by kernel_rfl
  i127 := by kernel_rfl
  i143 := by kernel_rfl
  i145 := by kernel_rfl
  i167 := by kernel_rfl
  i168 := by kernel_rfl
  i171 := by kernel_rfl
  i173 := by kernel_rfl
  i175 := by kernel_rfl
  i210 := by kernel_rfl
  i212 := by kernel_rfl
  i232 := by kernel_rfl
  i233 := by kernel_rfl
  m15 := by kernel_rfl
  m16 := by kernel_rfl
  m17 := by kernel_rfl
  m18 := by kernel_rfl
  m19 := by kernel_rfl
  c0 := by kernel_rfl
  c2 := by kernel_rfl
  c3 := by kernel_rfl
  c4 := by kernel_rfl
  c5 := by kernel_rfl
  c9 := by kernel_rfl
  c20 := by kernel_rfl
  c21 := by kernel_rfl
  c37 := by kernel_rfl
  c46 := by kernel_rfl
  c51 := by kernel_rfl
  c53 := by kernel_rfl
  c75 := by kernel_rfl
  c76 := by kernel_rfl
  c80 := by kernel_rfl
  c85 := by kernel_rfl
  c127 := by kernel_rfl
  c143 := by kernel_rfl
  c145 := by kernel_rfl
  c167 := by kernel_rfl
  c168 := by kernel_rfl
  c171 := by kernel_rfl
  c173 := by kernel_rfl
  c175 := by kernel_rfl
  c210 := by kernel_rfl
  c212 := by kernel_rfl
  c213 := by kernel_rfl
  c232 := by kernel_rfl
  c233 := by kernel_rfl }
open Go.RowKit in
theorem Shelf.strconv_Atoi_err_var (s : ByteArray) (hl : s.size ≤ 18) (h : Lib.atoi s.data.toList = none) (tp : TypeId) (p : Value) (w : World) (hvar : w.var? Tryz.prog "strconv.ErrSyntax" = some #[.iface tp p]) :
    Calls Tryz.prog 164 #[.string s] w fun e w' => ∃ N, e = .returned (.tuple #[.int .i64 0, .iface 154 (.pointer (some ⟨N, 0, none⟩))]) ∧ w.heap.size ≤ N ∧ w'.heap[N]? = some (.cells #[.string ⟨#[65, 116, 111, 105]⟩, .string s, .iface tp p] 184 (0, 0)) ∧ Below w.heap.size w w' := Any.strconv_Atoi_err_var Shelf.laysC172 s hl h tp p w hvar
end Go.Proofs.YtbajfklnekfeoaaGreatDoor
