/-
  ReqReadSpec: ReadRequest of the specification: a request off its text, its fields in a row of the call's own.
  Pairs: Two boxes that were just laid.
  ReqEq: eqRequest of the laws: requests held against each other.
  MarkText: markText of the laws: a text of its number alone; what was there stays.
  FldLaw: markFieldS of the laws: a list of fields marked.
  FldHeld: heldFieldS of the laws: a marked list of fields held against its marks.
  ReqMark: markRequest and heldRequest of the laws: the fields of one marked, and held against their marks.
-/
import Derived.Test.YtbajfklnekfeoaaGreatDoorPat
import Derived.Deep.Cut
import Derived.Test.YtbajfklnekfeoaaGreatDoorRecs
import Derived.Test.YtbajfklnekfeoaaGreatDoorPac
import Derived.Test.YtbajfklnekfeoaaGreatDoorFldEq
import Derived.Test.YtbajfklnekfeoaaGreatDoorMem
namespace Go.Proofs.YtbajfklnekfeoaaGreatDoor
open Go.RowKit
set_option linter.unusedVariables false
set_option linter.unusedSimpArgs false
namespace Msg
open Line (eol lineOf)

set_option maxRecDepth 100000 in
set_option maxHeartbeats 4000000 in
theorem readReq_spec (s : ByteArray) (w : World) (hs : s.size ≤ 1048576) :
    Calls Tryz.prog 28 #[.string s] w fun e w' => ∃ v', e = .returned (.tuple #[Req.val (readReq s).1.1 (readReq s).1.2.1 v' (readReq s).1.2.2.2, .int .i64 (readReq s).2.1, .int .i64 (readReq s).2.2]) ∧ Flds.Own w.heap.size w' v' (readReq s).1.2.2.1 ∧ Below w.heap.size w w' := by
  obtain ⟨r, hr⟩ : ∃ r, readReq s = r := ⟨_, rfl⟩
  rw [hr]
  unfold Req.val
  have HW := Num.hide (fun W => whole_spec s W (by omega))
  have HB0 := Num.hide (((Below.refl w.heap.size w).alloc (Nat.le_refl _) (.cells #[.string ⟨#[]⟩, .string ⟨#[]⟩, .slice none 0 0, .string ⟨#[]⟩] 39)).alloc (by simp) (.cells #[.string ⟨#[]⟩, .string ⟨#[]⟩, .slice none 0 0, .string ⟨#[]⟩] 39))
  cases hw : whole s with
  | false =>
    rw [hw] at HW
    unfold readReq at hr
    rw [if_pos hw] at hr
    by_cases h15 : 1500 < s.size
    · rw [if_pos h15] at hr
      have d15 : decide (1500 < (s.size : Int)) = true := decide_eq_true (by omega)
      subst hr
      clear hw
      go_enter Tryz.func28, Tryz.ntmps28
      go_wp2_with fail
      refine (HW.out _).mono ?_
      rintro e w1 ⟨rfl, rfl⟩
      go_wp2
      exact bodyPost_ret (v := .tuple #[.agg #[.string ⟨#[]⟩, .string ⟨#[]⟩, .slice none 0 0, .string ⟨#[]⟩], .int .i64 0, .int .i64 2]) (by simp [results, Tryz.results28, go_sem]) rfl ⟨_, rfl, Recs.own_nil _ _, HB0.out⟩
    · rw [if_neg h15] at hr
      have d15 : decide (1500 < (s.size : Int)) = false := decide_eq_false (by omega)
      subst hr
      clear hw
      go_enter Tryz.func28, Tryz.ntmps28
      go_wp2_with fail
      refine (HW.out _).mono ?_
      rintro e w1 ⟨rfl, rfl⟩
      go_wp2
      exact bodyPost_ret (v := .tuple #[.agg #[.string ⟨#[]⟩, .string ⟨#[]⟩, .slice none 0 0, .string ⟨#[]⟩], .int .i64 0, .int .i64 1]) (by simp [results, Tryz.results28, go_sem]) rfl ⟨_, rfl, Recs.own_nil _ _, HB0.out⟩
  | true =>
    rw [hw] at HW
    obtain ⟨k, hk⟩ := whole_line hw
    have hin := Line.eol_in hk
    have hlo : lineOf s 0 = (s.extract 0 k, (k : Int) + 2) := by unfold lineOf; rw [hk]
    have HLn := Num.hide (fun W => Line.line_spec s 0 W (by omega) (Nat.zero_le _))
    rw [hlo] at HLn
    have HWd := Num.hide (fun W => words_spec (s.extract 0 k) W (by rw [ByteArray.size_extract]; omega))
    have hx : (s.extract (k + 2) s.size).size ≤ 1048576 := by rw [ByteArray.size_extract]; omega
    have HRd := Num.hide (fun W => Flds.read_spec (s.extract (k + 2) s.size) W hx)
    have hkk : (k : Int) + 2 ≤ (s.size : Int) := by omega
    clear hlo
    go_enter Tryz.func28, Tryz.ntmps28
    go_wp2_with fail
    refine (HW.out _).mono ?_
    rintro e w1 ⟨rfl, rfl⟩
    go_wp2_with fail
    refine (HLn.out _).mono ?_
    rintro e w1 ⟨rfl, rfl⟩
    go_wp2_with fail
    refine (HWd.out _).mono ?_
    rintro e W1 ⟨rfl, hb1⟩
    have T1 := Num.hide (Two.first hb1)
    clear HW HLn HWd hb1 HB0
    have hrb := readL_bulk (s.extract (k + 2) s.size)
    have hlen := Flds.readL_length (s.extract (k + 2) s.size)
    have hws := words_size (s.extract 0 k)
    rw [ByteArray.size_extract] at hws
    unfold readReq at hr
    rw [if_neg (by rw [hw]; decide), hk] at hr
    simp only at hr
    have hN : Flds.readN (s.extract (k + 2) s.size) = 0 ∨ ∃ l n, Flds.read (s.extract (k + 2) s.size) = some (l, n) := by
      cases hq : Flds.read (s.extract (k + 2) s.size) with
      | none => left; exact (Flds.told_none hq).2.1
      | some q => right; exact ⟨q.1, q.2, rfl⟩
    have HD1 := Num.hide (fun v W h => Flds.drop_spec v (Flds.readL (s.extract (k + 2) s.size)) Body.teName W h (by omega))
    have hd1 := Flds.drop_length (Flds.readL (s.extract (k + 2) s.size)) Body.teName
    have HD2 := Num.hide (fun v W h => Flds.drop_spec v (Flds.drop (Flds.readL (s.extract (k + 2) s.size)) Body.teName) Body.clName W h (by omega))
    have hbb := bare_bulk (Flds.readL (s.extract (k + 2) s.size))
    change Hid (∀ v W, Flds.Is W v (Flds.drop (Flds.readL (s.extract (k + 2) s.size)) Body.teName) → Calls Tryz.prog 75 #[v, .string Body.clName] W fun e w' => ∃ v', e = .returned v' ∧ Flds.Own W.heap.size w' v' (bare (Flds.readL (s.extract (k + 2) s.size))) ∧ Below W.heap.size W w') at HD2
    have HOk := Num.hide (fun v W h => reqOk_spec (words (s.extract 0 k)).1 (words (s.extract 0 k)).2.1 v (bare (Flds.readL (s.extract (k + 2) s.size))) ⟨#[]⟩ W h (by omega) (by omega) (by omega) (by decide))
    have HR := Num.hide hr
    have HK := Num.hide hk
    unfold Req.val at HOk
    clear hr hk hw
    generalize hL2 : bare (Flds.readL (s.extract (k + 2) s.size)) = L2 at HD2 HOk hbb
    generalize hL1 : Flds.drop (Flds.readL (s.extract (k + 2) s.size)) Body.teName = L1 at HD1 HD2 hd1
    generalize hL0 : Flds.readL (s.extract (k + 2) s.size) = L0 at HRd HD1 hrb hlen hL2 hd1 hbb
    have HL0 := Num.hide hL0
    have HL2 := Num.hide hL2
    clear hL0 hL1 hL2
    unfold Body.teName at HD1
    unfold Body.clName at HD2
    generalize hwd : words (s.extract 0 k) = wd at HR HOk hws ⊢
    obtain ⟨m, u, v8⟩ := wd
    simp only at HR HOk hws ⊢
    go_wp2_with fail
    refine (HRd.out _).mono ?_
    rintro e W2 ⟨vF, rfl, hoF, hb2⟩
    have T2 := Num.hide (T1.out.step hb2)
    have OF2 := Num.hide hoF
    obtain ⟨aF, cF, hvF⟩ := Recs.own_len hoF
    subst hvF
    clear hoF hb2 T1 HRd
    go_wp2_with fail
    refine (HD1.out _ _ (Recs.own_is Flds.cells_len OF2.out)).mono ?_
    rintro e W3 ⟨v3, rfl, ho3, hb3⟩
    have T3 := Num.hide (T2.out.step hb3)
    have OF3 := Num.hide (Recs.own_below OF2.out hb3)
    have O3 := Num.hide ho3
    clear ho3 hb3 T2 OF2 HD1
    go_wp2_with fail
    refine (HD2.out _ _ (Recs.own_is Flds.cells_len O3.out)).mono ?_
    rintro e W4 ⟨v4, rfl, ho4, hb4⟩
    have T4 := Num.hide (T3.out.step hb4)
    have OF4 := Num.hide (Recs.own_below OF3.out hb4)
    have O4 := Num.hide ho4
    have s34 := hb4.size
    have hT3 := T3.out.lt
    obtain ⟨a4, c4, hv4⟩ := Recs.own_len ho4
    subst hv4
    clear ho4 hb4 T3 OF3 HD2 O3
    have T5 := Num.hide (T4.out.step ((Below.refl W4.heap.size W4).alloc (Nat.le_refl _) (.cells #[.string m, .string u, .slice a4 L2.length c4, .string ⟨#[]⟩] 39)))
    have O5 := Num.hide (World.ownsRow.alloc O4.out (.cells #[.string m, .string u, .slice a4 L2.length c4, .string ⟨#[]⟩] 39))
    have OF5 := Num.hide (World.ownsRow.alloc OF4.out (.cells #[.string m, .string u, .slice a4 L2.length c4, .string ⟨#[]⟩] 39))
    have R5 := Num.hide (heap_alloc_new W4 (.cells #[.string m, .string u, .slice a4 L2.length c4, .string ⟨#[]⟩] 39))
    have hB4 : ∀ j, (Value.slice a4 L2.length c4).ownBlock = some j → w.heap.size < j ∧ j < W4.heap.size := fun j hj => ⟨by have := (Recs.own_lt O4.out j hj).1; omega, (Recs.own_lt O4.out j hj).2⟩
    clear O4 OF4 T4
    go_upto_region 10 with fail
    generalize hg4 : W4.heap.size = g4 at R5 ⊢
    generalize W4.alloc (.cells #[.string m, .string u, .slice a4 L2.length c4, .string ⟨#[]⟩] 39) = W5 at T5 O5 OF5 R5 ⊢
    by_cases hver : v8 = ver
    · have dv : (v8.toList == [72, 84, 84, 80, 47, 49, 46, 49]) = true := by
        rw [hver, ByteArray.toList_eq]; rfl
      have dv2 : (v8.toList != [72, 84, 84, 80, 47, 49, 46, 49]) = false := by
        rw [hver, ByteArray.toList_eq]; rfl
      cases hq : Flds.read (s.extract (k + 2) s.size) with
      | none =>
        obtain ⟨_, g2, g3⟩ := Flds.told_none hq
        have hr : noRq 2 = r := by rw [← HR.out, hq]
        subst hr
        rw [g2, g3]
        clear HR hver hq
        obtain ⟨⟨n0, n1, n2, n3⟩, ⟨a0, a1, a2, a3⟩, f0, f1, f2, f3⟩ := T5.out.cells
        have HE := Num.hide (T5.out.told (.string ⟨#[]⟩) (.string ⟨#[]⟩) (.slice none 0 0) (.string ⟨#[]⟩))
        go_wp2
        exact bodyPost_ret (v := .tuple #[.agg #[.string ⟨#[]⟩, .string ⟨#[]⟩, .slice none 0 0, .string ⟨#[]⟩], .int .i64 0, .int .i64 2]) (by simp [results, Tryz.results28, go_sem, *]) rfl ⟨_, rfl, Recs.own_nil _ _, HE.out⟩
      | some q =>
        obtain ⟨l, n⟩ := q
        obtain ⟨hq1, hq2, hq3⟩ := Flds.told_some hq
        have e0 : L0 = l := by rw [← HL0.out]; exact hq1
        have e2 : bare l = L2 := by rw [← HL2.out, e0]
        have hr := HR.out
        rw [hq] at hr
        simp only at hr
        rw [e2] at hr
        have hn := readGo_in _ _ _ _ _ (show Flds.readGo (s.extract (k + 2) s.size) 13 0 [] = some (l, n) from hq)
        rw [ByteArray.size_extract] at hn
        simp only at hn
        subst e0
        rw [hq2, hq3]
        clear HR hq hq1 HL0 HL2 e2
        cases hok : reqOk m u L2 ⟨#[]⟩ with
        | false =>
          rw [hok] at HOk
          rw [if_neg (fun h => by rw [hok] at h; exact absurd h.2 (by decide))] at hr
          subst hr
          clear hver hok
          have q0 := Recs.box_cell R5.out 0
          have q1 := Recs.box_cell R5.out 1
          have q2 := Recs.box_cell R5.out 2
          have q3 := Recs.box_cell R5.out 3
          simp only [List.getElem?_toArray, List.getElem?_cons_succ, List.getElem?_cons_zero] at q0 q1 q2 q3
          go_wp2_with fail
          refine (HOk.out _ _ (Recs.own_is Flds.cells_len O5.out)).mono ?_
          rintro e W6 ⟨rfl, hb5⟩
          have T6 := Num.hide (T5.out.step hb5)
          clear hb5 T5 HOk
          obtain ⟨⟨n0, n1, n2, n3⟩, ⟨a0, a1, a2, a3⟩, f0, f1, f2, f3⟩ := T6.out.cells
          have HE := Num.hide (T6.out.told (.string ⟨#[]⟩) (.string ⟨#[]⟩) (.slice none 0 0) (.string ⟨#[]⟩))
          go_wp2
          exact bodyPost_ret (v := .tuple #[.agg #[.string ⟨#[]⟩, .string ⟨#[]⟩, .slice none 0 0, .string ⟨#[]⟩], .int .i64 0, .int .i64 2]) (by simp [results, Tryz.results28, go_sem, *]) rfl ⟨_, rfl, Recs.own_nil _ _, HE.out⟩
        | true =>
          rw [hok] at HOk
          rw [if_pos ⟨hver, hok⟩] at hr
          have HR2 := Num.hide hr
          clear hr hver hok
          have q0 := Recs.box_cell R5.out 0
          have q1 := Recs.box_cell R5.out 1
          have q2 := Recs.box_cell R5.out 2
          have q3 := Recs.box_cell R5.out 3
          simp only [List.getElem?_toArray, List.getElem?_cons_succ, List.getElem?_cons_zero] at q0 q1 q2 q3
          go_wp2_with fail
          refine (HOk.out _ _ (Recs.own_is Flds.cells_len O5.out)).mono ?_
          rintro e W6 ⟨rfl, hb5⟩
          have T6 := Num.hide (T5.out.step hb5)
          have O6 := Num.hide (Recs.own_below O5.out hb5)
          have OF6 := Num.hide (Recs.own_below OF5.out hb5)
          have R6 : Hid (W6.heap[g4]? = some (.cells #[.string m, .string u, .slice a4 L2.length c4, .string ⟨#[]⟩] 39)) := (hb5.block _ ((Array.getElem?_eq_some_iff.1 R5.out).1)).trans R5.out
          clear hb5 T5 HOk O5 OF5 R5
          have HBo := Num.hide (fun v W h => Body.body_spec v L0 (s.extract (k + 2 + n) s.size) false W h (by omega) (by rw [ByteArray.size_extract]; omega))
          have hbd := Body.body_bd L0 (s.extract (k + 2 + n) s.size) false
          rw [ByteArray.size_extract] at hbd
          generalize Body.bodyOf L0 (s.extract (k + 2 + n) s.size) false = bo at HBo HR2 hbd
          obtain ⟨bt, bn, bc⟩ := bo
          simp only at HBo HR2 hbd
          have kn : ((k : Int) + 2 + (n : Int)) ≤ (s.size : Int) := by omega
          have kt : ((k : Int) + 2 + (n : Int)).toNat = k + 2 + n := by omega
          go_wp2_with fail
          refine (HBo.out _ _ (Recs.own_is Flds.cells_len OF6.out)).mono ?_
          rintro e W7 ⟨rfl, hb7⟩
          have T7 := Num.hide (T6.out.step hb7)
          have O7 := Num.hide (Recs.own_below O6.out hb7)
          have R7 : Hid (W7.heap[g4]? = some (.cells #[.string m, .string u, .slice a4 L2.length c4, .string ⟨#[]⟩] 39)) := (hb7.block _ ((Array.getElem?_eq_some_iff.1 R6.out).1)).trans R6.out
          clear hb7 T6 HBo O6 OF6 R6
          by_cases hbc : bc = 0
          · have d0 : (bc != 0) = false := by rw [hbc]; rfl
            have hr : ((m, u, L2, bt), ((k + 2 + n : Nat) : Int) + bn, 0) = r := by rw [← HR2.out, if_pos hbc]
            subst hr
            clear HR2 hbc
            have q3 := Recs.box_cell R7.out 3
            simp only [List.getElem?_toArray, List.getElem?_cons_succ, List.getElem?_cons_zero] at q3
            have z3 := Recs.box_thaw R7.out 3
            have hne : ∀ j, (Value.slice a4 L2.length c4).ownBlock = some j → j ≠ g4 ∧ j ≠ w.heap.size := fun j hj => by
              have := hB4 j hj
              omega
            have hgn : w.heap.size ≠ g4 := by have := hT3; omega
            go_upto_region 16 with fail
            have R8 := Num.hide (Recs.box_set R7.out 3 (.string bt))
            have S8 := Num.hide (Recs.box_far (i := 3) T7.out.res (.string bt) hgn)
            have O8 := Num.hide (Recs.own_set O7.out g4 3 (.string bt) (fun j hj => (hne j hj).1))
            have B8 := Num.hide (T7.out.below.setCell (p := ⟨g4, 3, none⟩) (by show w.heap.size ≤ g4; omega) (.string bt))
            simp only [List.setIfInBounds_toArray, List.set_cons_succ, List.set_cons_zero] at R8
            clear q3 z3 T7 O7 R7
            generalize W7.setCell ⟨g4, 3, none⟩ (.string bt) = W8 at R8 S8 O8 B8 ⊢
            have q0 := Recs.box_cell R8.out 0
            have q1 := Recs.box_cell R8.out 1
            have q2 := Recs.box_cell R8.out 2
            have q3 := Recs.box_cell R8.out 3
            simp only [List.getElem?_toArray, List.getElem?_cons_succ, List.getElem?_cons_zero] at q0 q1 q2 q3
            have a0 := Recs.box_cell S8.out 0
            have a1 := Recs.box_cell S8.out 1
            have a2 := Recs.box_cell S8.out 2
            have a3 := Recs.box_cell S8.out 3
            simp only [Z, List.getElem?_toArray, List.getElem?_cons_succ, List.getElem?_cons_zero] at a0 a1 a2 a3
            have f0 := Recs.box_thaw S8.out 0
            have f1 := Recs.box_thaw S8.out 1
            have f2 := Recs.box_thaw S8.out 2
            have f3 := Recs.box_thaw S8.out 3
            have OF := Num.hide (Recs.own_set (Recs.own_set (Recs.own_set (Recs.own_set O8.out w.heap.size 0 (.string m) (fun j hj => (hne j hj).2)) w.heap.size 1 (.string u) (fun j hj => (hne j hj).2)) w.heap.size 2 (.slice a4 L2.length c4) (fun j hj => (hne j hj).2)) w.heap.size 3 (.string bt) (fun j hj => (hne j hj).2))
            have BF := Num.hide ((((B8.out.setCell (p := ⟨w.heap.size, 0, none⟩) (Nat.le_refl _) (.string m)).setCell (p := ⟨w.heap.size, 1, none⟩) (Nat.le_refl _) (.string u)).setCell (p := ⟨w.heap.size, 2, none⟩) (Nat.le_refl _) (.slice a4 L2.length c4)).setCell (p := ⟨w.heap.size, 3, none⟩) (Nat.le_refl _) (.string bt))
            go_wp2
            exact bodyPost_ret (v := .tuple #[.agg #[.string m, .string u, .slice a4 L2.length c4, .string bt], .int .i64 ((k : Int) + 2 + (n : Int) + bn), .int .i64 0]) (by simp [results, Tryz.results28, go_sem, *]) rfl ⟨_, rfl, Recs.own_mono OF.out (by omega), BF.out⟩
          · have d0 : (bc != 0) = true := by rw [bne_iff_ne]; exact hbc
            have hr : noRq (codeOf bc) = r := by rw [← HR2.out, if_neg hbc]
            subst hr
            have HCo := Num.hide (fun W => code_spec bc W)
            clear HR2 hbc
            obtain ⟨⟨n0, n1, n2, n3⟩, ⟨a0, a1, a2, a3⟩, f0, f1, f2, f3⟩ := T7.out.cells
            have HE := Num.hide (T7.out.told (.string ⟨#[]⟩) (.string ⟨#[]⟩) (.slice none 0 0) (.string ⟨#[]⟩))
            go_wp2
            go_region_with (go_at_call 77; refine (HCo.out _).mono ?_; rintro e w' ⟨rfl, rfl⟩)
            all_goals go_wp2
            all_goals exact bodyPost_ret (v := .tuple #[.agg #[.string ⟨#[]⟩, .string ⟨#[]⟩, .slice none 0 0, .string ⟨#[]⟩], .int .i64 0, .int .i64 (codeOf bc)]) (by simp [results, Tryz.results28, go_sem, *]) rfl ⟨_, rfl, Recs.own_nil _ _, HE.out.drew⟩
    · have dv : (v8.toList == [72, 84, 84, 80, 47, 49, 46, 49]) = false := by
        rw [beq_eq_false_iff_ne, ByteArray.toList_eq]
        intro e; exact hver (ByteArray.ext (Array.toList_inj.1 (by rw [e]; rfl)))
      have dv2 : (v8.toList != [72, 84, 84, 80, 47, 49, 46, 49]) = true := by rw [bne, dv]; rfl
      have hr : noRq 2 = r := by
        rw [← HR.out]
        cases Flds.read (s.extract (k + 2) s.size) with
        | none => rfl
        | some q => simp only; rw [if_neg (fun h => hver h.1)]
      subst hr
      clear HR hver
      obtain ⟨⟨n0, n1, n2, n3⟩, ⟨a0, a1, a2, a3⟩, f0, f1, f2, f3⟩ := T5.out.cells
      have HE := Num.hide (T5.out.told (.string ⟨#[]⟩) (.string ⟨#[]⟩) (.slice none 0 0) (.string ⟨#[]⟩))
      go_wp2
      exact bodyPost_ret (v := .tuple #[.agg #[.string ⟨#[]⟩, .string ⟨#[]⟩, .slice none 0 0, .string ⟨#[]⟩], .int .i64 0, .int .i64 2]) (by simp [results, Tryz.results28, go_sem, *]) rfl ⟨_, rfl, Recs.own_nil _ _, HE.out⟩
end Msg
end Go.Proofs.YtbajfklnekfeoaaGreatDoor
namespace Go.Proofs.YtbajfklnekfeoaaGreatDoor
open Go.RowKit
set_option linter.unusedVariables false
namespace Resp

/-- two boxes that were just laid -/
theorem box_one (w : World) (c1 c2 : Array Value) (t1 t2 : TypeId) (j : Nat) : ((w.alloc (.cells c1 t1)).alloc (.cells c2 t2)).cell? ⟨w.heap.size, j, none⟩ = c1[j]? := by
  rw [World.cell?_alloc_lt _ _ _ (by simp), cell_of_row _ _ _ _ _ _ (heap_alloc_new w _)]
theorem box_two (w : World) (c1 c2 : Array Value) (t1 t2 : TypeId) (j : Nat) : ((w.alloc (.cells c1 t1)).alloc (.cells c2 t2)).cell? ⟨w.heap.size + 1, j, none⟩ = c2[j]? := by
  have e : w.heap.size + 1 = (w.alloc (.cells c1 t1)).heap.size := by rw [World.size_alloc]
  rw [e, cell_of_row _ _ _ _ _ _ (heap_alloc_new _ _)]
end Resp
end Go.Proofs.YtbajfklnekfeoaaGreatDoor
namespace Go.Proofs.YtbajfklnekfeoaaGreatDoor
open Go.RowKit
set_option linter.unusedVariables false
namespace Req

set_option maxRecDepth 100000 in
set_option maxHeartbeats 2000000 in
theorem eq_any (m1 m2 u1 u2 : ByteArray) (v1 v2 : Value) (l1 l2 : List Flds.Fld) (b1 b2 : ByteArray) (w : World) (h1 : Flds.Is w v1 l1) (h2 : Flds.Is w v2 l2) (hl : l1.length ≤ 1099511627776) :
    Calls Tryz.prog 29 #[val m1 u1 v1 b1, val m2 u2 v2 b2] w fun e w' => e = .returned (.bool (decide (m1 = m2 ∧ u1 = u2 ∧ l1 = l2 ∧ b1 = b2))) ∧ Below w.heap.size w w' := by
  unfold val
  obtain ⟨r, hr⟩ : ∃ r, decide (m1 = m2 ∧ u1 = u2 ∧ l1 = l2 ∧ b1 = b2) = r := ⟨_, rfl⟩
  rw [hr]
  obtain ⟨a1, c1, rfl, _⟩ := Flds.is_form h1
  obtain ⟨a2, c2, rfl, _⟩ := Flds.is_form h2
  have hb0 := ((Below.refl w.heap.size w).alloc (Nat.le_refl _) (.cells #[.string m1, .string u1, .slice a1 l1.length c1, .string b1] 39)).alloc (by simp) (.cells #[.string m2, .string u2, .slice a2 l2.length c2, .string b2] 39)
  have HB0 := Num.hide hb0
  have HE := Num.hide (Flds.eq_any _ _ l1 l2 _ (Recs.is_stay h1 (Nat.le_refl _) hb0) (Recs.is_stay h2 (Nat.le_refl _) hb0) hl)
  clear h1 h2 hb0
  by_cases hm : m1 = m2
  · subst hm
    by_cases hu : u1 = u2
    · subst hu
      by_cases hll : l1 = l2
      · rw [decide_eq_true hll] at HE
        by_cases hbb : b1 = b2
        · obtain rfl : r = true := by rw [← hr]; exact decide_eq_true ⟨rfl, rfl, hll, hbb⟩
          subst hbb
          clear hr hll
          go_enter Tryz.func29, Tryz.ntmps29
          go_wp2_with fail
          refine HE.out.mono ?_
          rintro e w1 ⟨rfl, hb1⟩
          have k1 := (hb1.cell (p := ⟨w.heap.size, 3, none⟩) (by show w.heap.size < _; rw [World.size_alloc, World.size_alloc]; omega)).trans (Resp.box_one w _ _ _ _ 3)
          have k2 := (hb1.cell (p := ⟨w.heap.size + 1, 3, none⟩) (by show w.heap.size + 1 < _; rw [World.size_alloc, World.size_alloc]; omega)).trans (Resp.box_two w _ _ _ _ 3)
          have HB1 := Num.hide (HB0.out.trans (hb1.mono HB0.out.size))
          clear hb1 HB0 HE
          simp only [List.getElem?_toArray, List.getElem?_cons_succ, List.getElem?_cons_zero] at k1 k2
          go_wp2
          go_ret
          exact ⟨rfl, HB1.out⟩
        · obtain rfl : r = false := by rw [← hr]; exact decide_eq_false (fun h => hbb h.2.2.2)
          have db : (b1.toList == b2.toList) = false := Flds.text_ne hbb
          have db2 : (b1.toList != b2.toList) = true := by rw [bne, db]; rfl
          clear hr hll hbb
          go_enter Tryz.func29, Tryz.ntmps29
          go_wp2_with fail
          refine HE.out.mono ?_
          rintro e w1 ⟨rfl, hb1⟩
          have k1 := (hb1.cell (p := ⟨w.heap.size, 3, none⟩) (by show w.heap.size < _; rw [World.size_alloc, World.size_alloc]; omega)).trans (Resp.box_one w _ _ _ _ 3)
          have k2 := (hb1.cell (p := ⟨w.heap.size + 1, 3, none⟩) (by show w.heap.size + 1 < _; rw [World.size_alloc, World.size_alloc]; omega)).trans (Resp.box_two w _ _ _ _ 3)
          have HB1 := Num.hide (HB0.out.trans (hb1.mono HB0.out.size))
          clear hb1 HB0 HE
          simp only [List.getElem?_toArray, List.getElem?_cons_succ, List.getElem?_cons_zero] at k1 k2
          go_wp2
          go_ret
          exact ⟨rfl, HB1.out⟩
      · rw [decide_eq_false hll] at HE
        obtain rfl : r = false := by rw [← hr]; exact decide_eq_false (fun h => hll h.2.2.1)
        clear hr hll
        go_enter Tryz.func29, Tryz.ntmps29
        go_wp2_with fail
        refine HE.out.mono ?_
        rintro e w1 ⟨rfl, hb1⟩
        have HB1 := Num.hide (HB0.out.trans (hb1.mono HB0.out.size))
        clear hb1 HB0 HE
        go_wp2
        go_ret
        exact ⟨rfl, HB1.out⟩
    · obtain rfl : r = false := by rw [← hr]; exact decide_eq_false (fun h => hu h.2.1)
      have db : (u1.toList == u2.toList) = false := Flds.text_ne hu
      have db2 : (u1.toList != u2.toList) = true := by rw [bne, db]; rfl
      clear hr hu HE
      go_enter Tryz.func29, Tryz.ntmps29
      go_wp2
      go_ret
      exact ⟨rfl, HB0.out⟩
  · obtain rfl : r = false := by rw [← hr]; exact decide_eq_false (fun h => hm h.1)
    have db : (m1.toList == m2.toList) = false := Flds.text_ne hm
    have db2 : (m1.toList != m2.toList) = true := by rw [bne, db]; rfl
    clear hr hm HE
    go_enter Tryz.func29, Tryz.ntmps29
    go_wp2
    go_ret
    exact ⟨rfl, HB0.out⟩
end Req
end Go.Proofs.YtbajfklnekfeoaaGreatDoor
namespace Go.Proofs.YtbajfklnekfeoaaGreatDoor
open Go.RowKit
set_option linter.unusedVariables false
namespace Mark

/-- the digits of n ahead of what is there (at most so many) -/
def dg : Nat → Nat → List UInt8 → List UInt8
  | 0, _, acc => acc
  | f + 1, n, acc => if n = 0 then acc else dg f (n / 10) (Num.byte ((48 : Int) + (n : Int) % 10) :: acc)
/-- the mark of a number -/
def text (k : Int) : ByteArray := if k ≤ 0 then ⟨#[109, 48]⟩ else ⟨(109 :: dg k.toNat k.toNat []).toArray⟩
theorem dg_zero (f : Nat) (acc : List UInt8) : dg f 0 acc = acc := by
  cases f with
  | zero => rfl
  | succ f => rw [dg, if_pos rfl]
theorem dg_fuel : ∀ (n f : Nat) (acc : List UInt8), n ≤ f → dg f n acc = dg n n acc := by
  intro n
  induction n using Nat.strongRecOn with
  | _ n ih =>
    intro f acc h
    cases n with
    | zero => rw [dg_zero, dg_zero]
    | succ m =>
      obtain ⟨g, rfl⟩ : ∃ g, f = g + 1 := ⟨f - 1, by omega⟩
      rw [dg, dg, if_neg (by omega), if_neg (by omega), ih _ (by omega) g _ (by omega), ih _ (by omega) m _ (by omega)]
theorem dg_step (n : Nat) (acc : List UInt8) (h : 0 < n) : dg n n acc = dg (n / 10) (n / 10) (Num.byte ((48 : Int) + (n : Int) % 10) :: acc) := by
  obtain ⟨m, rfl⟩ : ∃ m, n = m + 1 := ⟨n - 1, by omega⟩
  rw [dg, if_neg (by omega), dg_fuel _ m _ (by omega)]
theorem cons_text (b : UInt8) (acc : List UInt8) : (⟨[b].toArray⟩ : ByteArray) ++ ⟨acc.toArray⟩ = ⟨(b :: acc).toArray⟩ := by
  rw [ByteArray.mk_append_mk]; simp
theorem size_text (acc : List UInt8) : (⟨acc.toArray⟩ : ByteArray).size = acc.length := by
  show acc.toArray.size = _
  rw [List.size_toArray]

set_option maxRecDepth 100000 in
set_option maxHeartbeats 1000000 in
theorem markText_any (k : Int) (w : World) (hk : k ≤ 1152921504606846976) : Calls Tryz.prog 128 #[.int .i64 k] w fun e w' => e = .returned (.string (text k)) ∧ Below w.heap.size w w' := by
  obtain ⟨T, hT⟩ : ∃ T, text k = T := ⟨_, rfl⟩
  rw [hT]
  unfold text at hT
  by_cases h0 : k ≤ 0
  · rw [if_pos h0] at hT
    subst hT
    go_enter Tryz.func128, Tryz.ntmps128
    go_wp2
    go_ret
    exact ⟨rfl, Below.refl _ _⟩
  · rw [if_neg h0] at hT
    obtain ⟨K, rfl⟩ := Int.eq_ofNat_of_zero_le (show 0 ≤ k by omega)
    rw [Int.toNat_natCast] at hT
    have HT := Num.hide hT
    clear hT
    go_enter Tryz.func128, Tryz.ntmps128
    go_wp2
    go_loopw [0, 3] (fun kv ov wr => ∃ (n : Nat) (acc : List UInt8), kv = .int .i64 (n : Int) ∧ ov = .string ⟨acc.toArray⟩ ∧ Hid (dg K K [] = dg n n acc) ∧ n + acc.length ≤ K ∧ Hid (Below w.heap.size w wr)) (fun kv _ _ => (intOf kv).toNat)
    case atStart => exact ⟨K, [], rfl, rfl, rfl, by simp, Below.refl _ _⟩
    case round =>
      obtain ⟨n, acc, rfl, rfl, HD, hn, HB⟩ := hrel
      by_cases hpos : 0 < n
      · have hconv := Mem.conv_one wr ((48 : Int) + (n : Int) % 10) (by omega) (by omega)
        have HD2 : Hid (dg K K [] = dg (n / 10) (n / 10) (Num.byte ((48 : Int) + (n : Int) % 10) :: acc)) := by rw [HD.out]; exact dg_step n acc hpos
        have hcons := cons_text (Num.byte ((48 : Int) + (n : Int) % 10)) acc
        generalize Num.byte ((48 : Int) + (n : Int) % 10) = b at hconv HD2 hcons
        have hs := size_text acc
        go_wp2
        go_roundw
        case rel => exact ⟨n / 10, b :: acc, by go_num, rfl, HD2, by simp only [List.length_cons]; omega, HB.out.alloc HB.out.size _⟩
        case measure => simp [intOf]; omega
      · obtain rfl : n = 0 := by omega
        have hd := HD.out
        rw [dg_zero] at hd
        have hT := HT.out
        rw [hd] at hT
        have hcons : (⟨#[109]⟩ : ByteArray) ++ ⟨acc.toArray⟩ = T := by rw [← hT]; exact cons_text 109 acc
        clear hT hd
        go_wp2
        go_ret
        exact ⟨rfl, HB.out⟩
end Mark
end Go.Proofs.YtbajfklnekfeoaaGreatDoor
namespace Go.Proofs.YtbajfklnekfeoaaGreatDoor
open Go.RowKit
set_option linter.unusedVariables false
namespace Flds

/-- so many marked fields from k on -/
def marks (k : Int) (n : Nat) : List Fld := (List.range n).map fun (i : Nat) => (Mark.text (k + 2 * (i : Int)), Mark.text (k + 2 * (i : Int) + 1))
theorem length_marks (k : Int) (n : Nat) : (marks k n).length = n := by simp [marks]
theorem marks_succ (k : Int) (n : Nat) : marks k (n + 1) = marks k n ++ [(Mark.text (k + 2 * (n : Int)), Mark.text (k + 2 * (n : Int) + 1))] := by simp [marks, List.range_succ]
theorem marks_at (k : Int) (n i : Nat) (h : i < n) : (marks k n)[i]'(by rw [length_marks]; exact h) = (Mark.text (k + 2 * (i : Int)), Mark.text (k + 2 * (i : Int) + 1)) := by simp [marks]
theorem set_marks (k : Int) (l : List Fld) (i : Nat) (h : i < l.length) : (marks k i ++ l.drop i).set i (Mark.text (k + 2 * (i : Int)), Mark.text (k + 2 * (i : Int) + 1)) = marks k (i + 1) ++ l.drop (i + 1) := by
  rw [List.set_append_right _ _ (by rw [length_marks]; exact Nat.le_refl _), length_marks, Nat.sub_self, List.drop_eq_getElem_cons h, List.set_cons_zero, marks_succ, List.append_assoc]; rfl

set_option maxRecDepth 100000 in
set_option maxHeartbeats 1000000 in
theorem mark_any (B : Nat) (v : Value) (l : List Fld) (k : Int) (w : World) (h : Own B w v l) (hl : l.length ≤ 1099511627776) (h0 : 0 ≤ k) (h1 : k ≤ 1099511627776) :
    Calls Tryz.prog 79 #[v, .int .i64 k] w fun e w' => e = .returned (.int .i64 (k + 2 * l.length)) ∧ Own B w' v (marks k l.length) ∧ w.grownBy w' v.ownBlock := by
  have HO := Num.hide h
  obtain ⟨a, c, rfl⟩ := Recs.own_len h
  clear h
  go_enter Tryz.func79, Tryz.ntmps79
  go_wp2
  go_loopw [1, 5] (fun kv iv wr => ∃ i : Nat, i ≤ l.length ∧ kv = .int .i64 (k + 2 * i) ∧ iv = .int .i64 (i : Int) ∧ Hid (Own B wr (.slice a l.length c) (marks k i ++ l.drop i)) ∧ Hid (w.grownBy wr (Value.slice a l.length c).ownBlock)) (fun _ iv _ => l.length - (intOf iv).toNat)
  case atStart => exact ⟨0, by omega, by simp, rfl, HO, Recs.grown_refl _ _⟩
  case round =>
    obtain ⟨i, hi, rfl, rfl, HO2, HG⟩ := hrel
    by_cases hlt : i < l.length
    · have hlen : (marks k i ++ l.drop i).length = l.length := by rw [List.length_append, length_marks, List.length_drop]; omega
      have HM1 := Num.hide (fun W => Mark.markText_any (k + 2 * (i : Int)) W (by omega))
      have HM2 := Num.hide (fun W => Mark.markText_any (k + 2 * (i : Int) + 1) W (by omega))
      have HT := Num.hide (set_marks k l i hlt)
      generalize Mark.text (k + 2 * (i : Int)) = t1 at HM1 HT
      generalize Mark.text (k + 2 * (i : Int) + 1) = t2 at HM2 HT
      generalize marks k i ++ l.drop i = L at HO2 hlen HT
      go_wp2_with fail
      refine (HM1.out _).mono ?_
      rintro e w1 ⟨rfl, hb1⟩
      have HO3 := Num.hide (Recs.own_below HO2.out hb1)
      obtain ⟨g, c', hv, hc, hm, hB, hg, k1, k2, hfz, q1, q2, q3⟩ := own_put HO3.out i (by omega)
      rw [hlen] at hv hc
      simp only [Value.slice.injEq, true_and] at hv
      obtain ⟨rfl, rfl⟩ := hv
      obtain ⟨hs1, hs2⟩ := q1 t1
      have HS1 := Num.hide hs1
      have HG2 := Num.hide (Recs.grown_trans HG.out (Recs.grown_trans (Recs.grown_of_below hb1 _) hs2))
      obtain ⟨o1, ho1⟩ : ∃ u, w1.cell? ⟨g, i * 2, none⟩ = some u := ⟨_, k1⟩
      have f1 := hfz (i * 2)
      have HX : Hid (∃ x, L[i]? = some x) := ⟨_, List.getElem?_eq_getElem (by omega)⟩
      have HS1' : Hid (∃ z, Own B (w1.setCell ⟨g, i * 2, none⟩ (.string t1)) (.slice (some ⟨g, 0, none⟩) l.length c) (L.set i (t1, z))) := ⟨_, hs1⟩
      have HLen := Num.hide hlen
      clear hs1 hs2 q1 q2 q3 k1 k2 hfz HS1 hb1 hlen
      go_wp2_with fail
      refine (HM2.out _).mono ?_
      rintro e w2 ⟨rfl, hb2⟩
      obtain ⟨z, hz⟩ := HS1'.out
      have HO4 := Num.hide (Recs.own_below hz hb2)
      obtain ⟨g', c2, hv, hc2, hm2, hB2, hg2, k1, k2, hfz, q1, q2, q3⟩ := own_put HO4.out i (by rw [List.length_set]; have := HLen.out; omega)
      rw [List.length_set, HLen.out] at hv hc2
      simp only [Value.slice.injEq, Option.some.injEq, Addr.mk.injEq, and_true, true_and] at hv
      obtain ⟨rfl, rfl⟩ := hv
      obtain ⟨hs1, hs2⟩ := q2 t2
      rw [List.set_set] at hs1
      have HS2 : Hid (Own B (w2.setCell ⟨g, i * 2 + 1, none⟩ (.string t2)) (.slice (some ⟨g, 0, none⟩) l.length c) (marks k (i + 1) ++ l.drop (i + 1))) := by
        rw [List.getElem_set_self, HT.out] at hs1; exact hs1
      have HG3 := Num.hide (Recs.grown_trans HG2.out (Recs.grown_trans (Recs.grown_of_below hb2 _) hs2))
      obtain ⟨o2, ho2⟩ : ∃ u, w2.cell? ⟨g, i * 2 + 1, none⟩ = some u := ⟨_, k2⟩
      have f2 := hfz (i * 2 + 1)
      clear hs1 hs2 q1 q2 q3 k1 k2 hfz hb2 hz ho1 f1
      go_wp2
      go_roundw
      case rel => exact ⟨i + 1, by omega, by go_num, by go_num, HS2, HG3⟩
      case measure => simp [intOf]; omega
    · obtain rfl : i = l.length := by omega
      have ho := HO2.out
      rw [List.drop_length, List.append_nil] at ho
      have HO4 := Num.hide ho
      clear ho
      go_wp2
      go_ret
      exact ⟨rfl, HO4.out, HG.out⟩
end Flds
end Go.Proofs.YtbajfklnekfeoaaGreatDoor
namespace Go.Proofs.YtbajfklnekfeoaaGreatDoor
open Go.RowKit
set_option linter.unusedVariables false
namespace Flds

set_option maxRecDepth 100000 in
set_option maxHeartbeats 2000000 in
theorem held_any (v : Value) (n : Nat) (k : Int) (w : World) (h : Is w v (marks k n)) (hl : n ≤ 1099511627776) (h0 : 0 ≤ k) (h1 : k ≤ 1099511627776) :
    Calls Tryz.prog 80 #[v, .int .i64 k] w fun e w' => e = .returned (.int .i64 (k + 2 * n)) ∧ Below w.heap.size w w' := by
  obtain ⟨a, c, rfl, h2⟩ := is_form h
  have h3 : 0 < n → ∃ b o, a = some ⟨b, o, none⟩ ∧ n ≤ c ∧ c ≤ maxLen ∧ b < w.heap.size ∧ ∀ i, i < n → w.cell? ⟨b, o + i * 2, none⟩ = some (.string (Mark.text (k + 2 * (i : Int)))) ∧ w.cell? ⟨b, o + i * 2 + 1, none⟩ = some (.string (Mark.text (k + 2 * (i : Int) + 1))) := by
    intro hn
    obtain ⟨b, o, h4, h5, h6, h7, h8⟩ := h2 (by rw [length_marks]; exact hn)
    refine ⟨b, o, h4, by rw [length_marks] at h5; exact h5, h6, h7, fun i hi => ?_⟩
    have := h8 i (by rw [length_marks]; exact hi)
    rw [marks_at k n i hi] at this
    exact this
  rw [length_marks]
  have HA := Num.hide h3
  clear h h2 h3
  go_enter Tryz.func80, Tryz.ntmps80
  go_wp2
  go_loopw [1, 5] (fun kv iv wr => ∃ i : Nat, i ≤ n ∧ kv = .int .i64 (k + 2 * i) ∧ iv = .int .i64 (i : Int) ∧ Hid (Below w.heap.size w wr)) (fun _ iv _ => n - (intOf iv).toNat)
  case atStart => exact ⟨0, by omega, by simp, rfl, Below.refl _ _⟩
  case round =>
    obtain ⟨i, hi, rfl, rfl, HB⟩ := hrel
    by_cases hlt : i < n
    · obtain ⟨b, o, rfl, hc, hm, hblt, hcell⟩ := Num.unhide HA (by omega)
      obtain ⟨g1, g2⟩ := hcell i hlt
      have c1 : wr.cell? ⟨b, o + i * 2, none⟩ = some (.string (Mark.text (k + 2 * (i : Int)))) := by rw [HB.out.cell (p := ⟨b, o + i * 2, none⟩) hblt]; exact g1
      have c2 : wr.cell? ⟨b, o + i * 2 + 1, none⟩ = some (.string (Mark.text (k + 2 * (i : Int) + 1))) := by rw [HB.out.cell (p := ⟨b, o + i * 2 + 1, none⟩) hblt]; exact g2
      have HM1 := Num.hide (fun W => Mark.markText_any (k + 2 * (i : Int)) W (by omega))
      have HM2 := Num.hide (fun W => Mark.markText_any (k + 2 * (i : Int) + 1) W (by omega))
      have hsz := HB.out.size
      generalize Mark.text (k + 2 * (i : Int)) = t1 at c1 HM1
      generalize Mark.text (k + 2 * (i : Int) + 1) = t2 at c2 HM2
      clear hcell g1 g2
      go_wp2
      go_region_with (go_at_call 128; refine (Num.unhide HM1 _).mono ?_; rintro e w2 ⟨rfl, hb2⟩; have d1 := (hb2.cell (p := ⟨b, o + i * 2, none⟩) (by simp; omega)).trans c1; have d2 := (hb2.cell (p := ⟨b, o + i * 2 + 1, none⟩) (by simp; omega)).trans c2)
      all_goals
        have HB2 := Num.hide (HB.out.drew.trans (hb2.mono hsz))
        have hsz2 := HB2.out.size
        clear hb2 d1 c1 c2
        go_wp2
        go_region_with (go_at_call 128; refine (Num.unhide HM2 _).mono ?_; rintro e w3 ⟨rfl, hb3⟩; have d3 := (hb3.cell (p := ⟨b, o + i * 2 + 1, none⟩) (by simp; omega)).trans d2)
        all_goals
          have HB3 := Num.hide (HB2.out.drew.trans (hb3.mono hsz2))
          clear hb3 d2 d3
          go_wp2
          go_roundw
          case rel => exact ⟨i + 1, by omega, by go_num, by go_num, HB3⟩
          case measure => simp [intOf]; omega
    · obtain rfl : i = n := by omega
      go_wp2
      go_ret
      exact ⟨rfl, HB.out⟩
end Flds
end Go.Proofs.YtbajfklnekfeoaaGreatDoor
namespace Go.Proofs.YtbajfklnekfeoaaGreatDoor
open Go.RowKit
set_option linter.unusedVariables false
namespace Req

set_option maxRecDepth 100000 in
set_option maxHeartbeats 1000000 in
theorem mark_any (m u : ByteArray) (b : ByteArray) (B : Nat) (v : Value) (l : List Flds.Fld) (k : Int) (w : World) (h : Flds.Own B w v l) (hl : l.length ≤ 1099511627776) (h0 : 0 ≤ k) (h1 : k ≤ 1099511627776) :
    Calls Tryz.prog 30 #[val m u v b, .int .i64 k] w fun e w' => e = .returned (.int .i64 (k + 2 * l.length)) ∧ Flds.Own B w' v (Flds.marks k l.length) ∧ w.grownBy w' v.ownBlock := by
  obtain ⟨a, c, rfl⟩ := Recs.own_len h
  unfold val
  have HO := Num.hide (World.ownsRow.alloc h (.cells #[.string m, .string u, .slice a l.length c, .string b] 39))
  have HM := Num.hide (fun W h => Flds.mark_any B (.slice a l.length c) l k W h hl h0 h1)
  clear h
  go_enter Tryz.func30, Tryz.ntmps30
  go_wp2_with fail
  refine (HM.out _ HO.out).mono ?_
  rintro e W1 ⟨rfl, ho, hg⟩
  have HO1 := Num.hide ho
  have HG1 := Num.hide (Recs.grown_trans (Recs.grown_of_below ((Below.refl w.heap.size w).alloc (Nat.le_refl _) _) _) hg)
  clear ho hg HO HM
  go_wp2
  go_ret
  exact ⟨rfl, HO1.out, HG1.out⟩
set_option maxRecDepth 100000 in
set_option maxHeartbeats 1000000 in
theorem held_any (m u : ByteArray) (b : ByteArray) (v : Value) (n : Nat) (k : Int) (w : World) (h : Flds.Is w v (Flds.marks k n)) (hl : n ≤ 1099511627776) (h0 : 0 ≤ k) (h1 : k ≤ 1099511627776) :
    Calls Tryz.prog 31 #[val m u v b, .int .i64 k] w fun e w' => e = .returned (.int .i64 (k + 2 * n)) ∧ Below w.heap.size w w' := by
  obtain ⟨a, c, hv, _⟩ := Flds.is_form h
  rw [Flds.length_marks] at hv
  subst hv
  unfold val
  have hb0 := (Below.refl w.heap.size w).alloc (Nat.le_refl _) (.cells #[.string m, .string u, .slice a n c, .string b] 39)
  have HI := Num.hide (Recs.is_stay h (Nat.le_refl _) hb0)
  have HB0 := Num.hide hb0
  have HH := Num.hide (fun W h => Flds.held_any (.slice a n c) n k W h hl h0 h1)
  have dk : decide (k + 2 * (n : Int) < 0) = false := by rw [decide_eq_false_iff_not]; omega
  clear h hb0
  go_enter Tryz.func31, Tryz.ntmps31
  go_wp2_with fail
  refine (HH.out _ HI.out).mono ?_
  rintro e W1 ⟨rfl, hb⟩
  have HB1 := Num.hide (HB0.out.trans (hb.mono HB0.out.size))
  clear hb HI HB0 HH
  go_wp2
  go_ret
  exact ⟨rfl, HB1.out⟩
end Req
end Go.Proofs.YtbajfklnekfeoaaGreatDoor
