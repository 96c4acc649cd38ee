/-
  RespShowSpec: ShowResponse of the specification: the text of an answer.
  RespShowLaw: FnExactShowResponse, whatever the program's ShowResponse keeps to: it answers as the specification's and leaves its argument as it was.
-/
import Derived.Test.YtmiahdiadlnijaaDoorPas
import Derived.Test.YtmiahdiadlnijaaDoorPav
import Derived.Test.YtmiahdiadlnijaaDoorReasonSpec
import Derived.Test.YtmiahdiadlnijaaDoorPbb
import Derived.Test.YtmiahdiadlnijaaDoorPau
import Derived.Test.YtmiahdiadlnijaaDoorRegLaw
import Derived.Test.YtmiahdiadlnijaaDoorPat
import Derived.Deep.Cut
namespace Go.Proofs.YtmiahdiadlnijaaDoor
open Go.RowKit
set_option linter.unusedVariables false
set_option linter.unusedSimpArgs false
namespace Msg

/-- a box of three values, of the call's own, and a list of fields; what was there stays -/
abbrev Box3 (w : World) (x y z : Value) (v : Value) (L : List Flds.Fld) (W : World) : Prop :=
  W.cell? ⟨w.heap.size, 0, none⟩ = some x ∧ W.cell? ⟨w.heap.size, 1, none⟩ = some y ∧ W.cell? ⟨w.heap.size, 2, none⟩ = some z ∧ Flds.Is W v L ∧ Below w.heap.size w W
theorem Box3.step {w : World} {x y z v : Value} {L : List Flds.Fld} {W W' : World} (h : Box3 w x y z v L W) (hb : Below W.heap.size W W') : Box3 w x y z v L W' := by
  obtain ⟨h0, h1, h2, h3, h4⟩ := h
  have hlt : w.heap.size < W.heap.size := Recs.lt_of_cell h0
  exact ⟨(hb.cell (p := ⟨w.heap.size, 0, none⟩) hlt).trans h0, (hb.cell (p := ⟨w.heap.size, 1, none⟩) hlt).trans h1, (hb.cell (p := ⟨w.heap.size, 2, none⟩) hlt).trans h2, Recs.is_below h3 hb, h4.trans (hb.mono h4.size)⟩
theorem Box3.drew {w : World} {x y z v : Value} {L : List Flds.Fld} {W : World} (h : Box3 w x y z v L W) : Box3 w x y z v L W.drew := h.step (Below.refl _ _).drew
theorem box3_first (w : World) (x y z : Value) (T : TypeId) {W : World} (hb : Below (w.alloc (.cells #[x, y, z] T)).heap.size (w.alloc (.cells #[x, y, z] T)) W) : W.cell? ⟨w.heap.size, 0, none⟩ = some x ∧ W.cell? ⟨w.heap.size, 1, none⟩ = some y ∧ W.cell? ⟨w.heap.size, 2, none⟩ = some z ∧ Below w.heap.size w W := by
  have hlt : w.heap.size < (w.alloc (.cells #[x, y, z] T)).heap.size := by rw [World.size_alloc]; omega
  have hc : ∀ j, W.cell? ⟨w.heap.size, j, none⟩ = (#[x, y, z] : Array Value)[j]? := fun j => (hb.cell (p := ⟨w.heap.size, j, none⟩) hlt).trans (cell_of_row _ _ _ _ _ _ (heap_alloc_new w _))
  have hb0 := (Below.refl w.heap.size w).alloc (Nat.le_refl _) (.cells #[x, y, z] T)
  exact ⟨hc 0, hc 1, hc 2, hb0.trans (hb.mono hb0.size)⟩
theorem shown_bulk {L : List Flds.Fld} (h : Flds.ok L = true) : Flds.bulk L ≤ 1099511627776 := by
  have h1 := Flds.showGo_size L
  have h2 : (Flds.showGo L).size ≤ 1058 := by rw [size_of, Flds.showGo_list]; have := lines_len h; rw [lines_map, List.length_append] at this; omega
  unfold Flds.bulk
  omega
theorem shown_le {L : List Flds.Fld} (h : Flds.ok L = true) : (Flds.shown L).size ≤ 1058 := by rw [size_of, shown_list h]; exact lines_len h
set_option maxRecDepth 100000 in
set_option maxHeartbeats 4000000 in
theorem showResp_spec (st : Int) (v : Value) (l : List Flds.Fld) (b : ByteArray) (w : World) (h : Flds.Is w v l) (hl : Flds.bulk l ≤ 1048576) (hb : b.size ≤ 1099511627776) :
    Calls Tryd.prog 19 #[Resp.val st v b] w fun e w' => e = .returned (.string (showResp st l b)) ∧ Below w.heap.size w w' := by
  have HOk := Num.hide (fun v W h => respOk_spec st v l b W h (by omega) hb)
  have hlen : l.length ≤ 1048576 := by unfold Flds.bulk at hl; omega
  have HF := Num.hide (fun W h => framed_spec v l b W h (by omega) hb)
  have HI := Num.hide h
  unfold Resp.val at HOk ⊢
  obtain ⟨a, c, rfl, _⟩ := Flds.is_form h
  have HB0 := Num.hide ((Below.refl w.heap.size w).alloc (Nat.le_refl _) (.cells #[.int .i64 st, .slice a l.length c, .string b] 39))
  clear h
  cases hok : respOk st l b with
  | true =>
    obtain ⟨⟨h1, h1'⟩, h2, h3, h4⟩ := resp_parts hok
    have HDc := Num.hide (fun W => Dec.spec_any st W (by omega) (by omega))
    have HRs := Num.hide (fun W => reason_spec st W)
    have hsr : showResp st l b = respText st l b := by unfold showResp; rw [if_pos hok]
    rw [hsr]
    obtain ⟨r, hr⟩ : ∃ r, respText st l b = r := ⟨_, rfl⟩
    rw [hr]
    unfold respText at hr
    rw [hok] at HOk
    have hdz : (decB st).size ≤ 20 := by rw [(dec_status st h1 h1').1]; omega
    have hrz : (reason st).size ≤ 40 := (reason_none st).2
    have hdd : (⟨(Lib.itoa st).toArray⟩ : ByteArray) = decB st := rfl
    rw [hdd] at HDc
    clear hdd
    generalize decB st = D at HDc hr hdz
    generalize reason st = R at HRs hr hrz
    by_cases h24 : st ≠ 204 ∧ st ≠ 304
    · have hrf : respFields st l b = framed l b := if_pos h24
      rw [hrf] at hr
      have hfo := ok_framed h2 b h3
      have hsm := shown_le hfo
      have HSh := Num.hide (fun v W h => Flds.show_spec v (framed l b) W h (shown_bulk hfo))
      generalize Flds.shown (framed l b) = S at HSh hr hsm
      have HR := Num.hide hr
      have q1 : (st != 204) = true := by rw [bne_iff_ne]; exact h24.1
      have q2 : (st != 304) = true := by rw [bne_iff_ne]; exact h24.2
      have f1 : ¬ 9223372036854775807 < 9 + D.size := by omega
      have f2 : ¬ 9223372036854775807 < 9 + D.size + 1 := by omega
      have f3 : ¬ 9223372036854775807 < 9 + D.size + 1 + R.size := by omega
      have f4 : ¬ 9223372036854775807 < 9 + D.size + 1 + R.size + 2 := by omega
      have f5 : ¬ 9223372036854775807 < 9 + D.size + 1 + R.size + 2 + S.size := by omega
      have f6 : ¬ 9223372036854775807 < 9 + D.size + 1 + R.size + 2 + S.size + b.size := by omega
      clear hr hok h2 h4 hfo hsr hrf h24
      go_enter Tryd.func19, Tryd.ntmps19
      go_wp2_with fail
      refine (HOk.out _ _ (Recs.is_stay HI.out (Nat.le_refl _) HB0.out)).mono ?_
      rintro e W2 ⟨rfl, hb2⟩
      obtain ⟨c0, c1, c2, hbw⟩ := box3_first w _ _ _ _ hb2
      have HBw := Num.hide hbw
      clear hb2 HOk hbw
      go_wp2_with fail
      refine (HF.out _ (Recs.is_below HI.out HBw.out)).mono ?_
      rintro e W3 ⟨v3, rfl, ho3, hb3⟩
      have HK : Hid (Box3 w (.int .i64 st) (.slice a l.length c) (.string b) v3 (framed l b) W3) := by
        have hlt : w.heap.size < W2.heap.size := Recs.lt_of_cell c0
        exact ⟨(hb3.cell (p := ⟨w.heap.size, 0, none⟩) hlt).trans c0, (hb3.cell (p := ⟨w.heap.size, 1, none⟩) hlt).trans c1, (hb3.cell (p := ⟨w.heap.size, 2, none⟩) hlt).trans c2, Recs.own_is Flds.cells_len ho3, HBw.out.trans (hb3.mono HBw.out.size)⟩
      clear ho3 hb3 c0 c1 c2
      go_wp2_with fail
      refine wp_region_held_drew (S := Box3 w (.int .i64 st) (.slice a l.length c) (.string b) v3 (framed l b)) (by kernel_rfl) HK.out.drew (fun hHeld => ?_)
      refine Reg.take (i := 0) (d := 22) (v := ?_) rfl rfl (by kernel_rfl) (by kernel_rfl) (by kernel_rfl) (fun _ _ _ h => h) (by rfl) ?_ hHeld ?_
      rotate_left
      · rintro W ⟨g0, g1, g2, g3, g4⟩
        first | (go_simp; done) | (go_simp; with_reducible rfl)
      simp only [Act.put, List.setIfInBounds_toArray, List.set_cons_zero, List.set_cons_succ]
      refine Reg.take (i := 1) (d := 23) (v := ?_) rfl rfl (by kernel_rfl) (by kernel_rfl) (by kernel_rfl) (fun _ _ _ h => h) (by rfl) ?_ hHeld ?_
      rotate_left
      · rintro W ⟨g0, g1, g2, g3, g4⟩
        first | (go_simp; done) | (go_simp; with_reducible rfl)
      simp only [Act.put, List.setIfInBounds_toArray, List.set_cons_zero, List.set_cons_succ]
      refine Reg.take (i := 5) (d := 27) (v := ?_) rfl rfl (by kernel_rfl) (by kernel_rfl) (by kernel_rfl) (fun _ _ _ h => h) (by rfl) ?_ hHeld ?_
      rotate_left
      · rintro W ⟨g0, g1, g2, g3, g4⟩
        first | (go_simp; done) | (go_simp; with_reducible rfl)
      simp only [Act.put, List.setIfInBounds_toArray, List.set_cons_zero, List.set_cons_succ]
      refine Reg.take (i := 6) (d := 28) (v := ?_) rfl rfl (by kernel_rfl) (by kernel_rfl) (by kernel_rfl) (fun _ _ _ h => h) (by rfl) ?_ hHeld ?_
      rotate_left
      · rintro W ⟨g0, g1, g2, g3, g4⟩
        first | (go_simp; done) | (go_simp; with_reducible rfl)
      simp only [Act.put, List.setIfInBounds_toArray, List.set_cons_zero, List.set_cons_succ]
      refine Reg.take (i := 10) (d := 32) (v := ?_) rfl rfl (by kernel_rfl) (by kernel_rfl) (by kernel_rfl) (fun _ _ _ h => h) (by rfl) ?_ hHeld ?_
      rotate_left
      · rintro W ⟨g0, g1, g2, g3, g4⟩
        first | (go_simp; done) | (go_simp; with_reducible rfl)
      simp only [Act.put, List.setIfInBounds_toArray, List.set_cons_zero, List.set_cons_succ]
      refine Reg.take (i := 13) (d := 35) (v := ?_) rfl rfl (by kernel_rfl) (by kernel_rfl) (by kernel_rfl) (fun _ _ _ h => h) (by rfl) ?_ hHeld ?_
      rotate_left
      · rintro W ⟨g0, g1, g2, g3, g4⟩
        first | (go_simp; done) | (go_simp; with_reducible rfl)
      simp only [Act.put, List.setIfInBounds_toArray, List.set_cons_zero, List.set_cons_succ]
      refine Reg.take (i := 14) (d := 36) (v := ?_) rfl rfl (by kernel_rfl) (by kernel_rfl) (by kernel_rfl) (fun _ _ _ h => h) (by rfl) ?_ hHeld ?_
      rotate_left
      · rintro W ⟨g0, g1, g2, g3, g4⟩
        first | (go_simp; done) | (go_simp; with_reducible rfl)
      simp only [Act.put, List.setIfInBounds_toArray, List.set_cons_zero, List.set_cons_succ]
      refine Reg.call (i := 2) rfl (by kernel_rfl) (by rfl) (fun K hK => ?_)
      go_wp2_with (first | (go_at_call 36; refine (HDc.out _).mono ?_; rintro e W3 ⟨rfl, hb3⟩))
      have HB3 := Num.hide hb3
      clear hb3
      refine hK.out _ _ ?_ (fun hHeld2 => ?_)
      · exact Box3.step hHeld HB3.out
      clear hK K
      replace hHeld := hHeld2
      clear hHeld2
      refine Reg.take (i := 3) (d := 25) (v := ?_) rfl rfl (by kernel_rfl) (by kernel_rfl) (by kernel_rfl) (fun _ _ _ h => h) (by rfl) ?_ hHeld ?_
      rotate_left
      · rintro W ⟨g0, g1, g2, g3, g4⟩
        first | (go_simp; done) | (go_simp; with_reducible rfl)
      simp only [Act.put, List.setIfInBounds_toArray, List.set_cons_zero, List.set_cons_succ]
      refine Reg.take (i := 4) (d := 26) (v := ?_) rfl rfl (by kernel_rfl) (by kernel_rfl) (by kernel_rfl) (fun _ _ _ h => h) (by rfl) ?_ hHeld ?_
      rotate_left
      · rintro W ⟨g0, g1, g2, g3, g4⟩
        first | (go_simp; done) | (go_simp; with_reducible rfl)
      simp only [Act.put, List.setIfInBounds_toArray, List.set_cons_zero, List.set_cons_succ]
      refine Reg.call (i := 7) rfl (by kernel_rfl) (by rfl) (fun K hK => ?_)
      go_wp2_with (first | (go_at_call 37; refine (HRs.out _).mono ?_; rintro e W4 ⟨rfl, hb4⟩))
      have HB4 := Num.hide hb4
      clear hb4
      refine hK.out _ _ ?_ (fun hHeld2 => ?_)
      · exact Box3.step hHeld HB4.out
      clear hK K
      replace hHeld := hHeld2
      clear hHeld2
      refine Reg.take (i := 8) (d := 30) (v := ?_) rfl rfl (by kernel_rfl) (by kernel_rfl) (by kernel_rfl) (fun _ _ _ h => h) (by rfl) ?_ hHeld ?_
      rotate_left
      · rintro W ⟨g0, g1, g2, g3, g4⟩
        first | (go_simp; done) | (go_simp; with_reducible rfl)
      simp only [Act.put, List.setIfInBounds_toArray, List.set_cons_zero, List.set_cons_succ]
      refine Reg.take (i := 9) (d := 31) (v := ?_) rfl rfl (by kernel_rfl) (by kernel_rfl) (by kernel_rfl) (fun _ _ _ h => h) (by rfl) ?_ hHeld ?_
      rotate_left
      · rintro W ⟨g0, g1, g2, g3, g4⟩
        first | (go_simp; done) | (go_simp; with_reducible rfl)
      simp only [Act.put, List.setIfInBounds_toArray, List.set_cons_zero, List.set_cons_succ]
      refine Reg.call (i := 11) rfl (by kernel_rfl) (by rfl) (fun K hK => ?_)
      go_wp2_with (first | (go_at_call 30; refine (HSh.out _ _ hHeld.2.2.2.1).mono ?_; rintro e W5 ⟨rfl, hb5⟩))
      have HB5 := Num.hide hb5
      clear hb5
      refine hK.out _ _ ?_ (fun hHeld2 => ?_)
      · exact Box3.step hHeld HB5.out
      clear hK K
      replace hHeld := hHeld2
      clear hHeld2
      refine Reg.take (i := 12) (d := 34) (v := ?_) rfl rfl (by kernel_rfl) (by kernel_rfl) (by kernel_rfl) (fun _ _ _ h => h) (by rfl) ?_ hHeld ?_
      rotate_left
      · rintro W ⟨g0, g1, g2, g3, g4⟩
        first | (go_simp; done) | (go_simp; with_reducible rfl)
      simp only [Act.put, List.setIfInBounds_toArray, List.set_cons_zero, List.set_cons_succ]
      refine Reg.take (i := 15) (d := 37) (v := ?_) rfl rfl (by kernel_rfl) (by kernel_rfl) (by kernel_rfl) (fun _ _ _ h => h) (by rfl) ?_ hHeld ?_
      rotate_left
      · rintro W ⟨g0, g1, g2, g3, g4⟩
        first | (go_simp; done) | (go_simp; with_reducible rfl)
      simp only [Act.put, List.setIfInBounds_toArray, List.set_cons_zero, List.set_cons_succ]
      refine Reg.take (i := 16) (d := 2) (v := ?_) rfl rfl (by kernel_rfl) (by kernel_rfl) (by kernel_rfl) (fun _ _ _ h => h) (by rfl) ?_ hHeld ?_
      rotate_left
      · rintro W ⟨g0, g1, g2, g3, g4⟩
        first | (go_simp; done) | (go_simp; with_reducible rfl)
      simp only [Act.put, List.setIfInBounds_toArray, List.set_cons_zero, List.set_cons_succ]
      refine wpAnyH_done (by kernel_rfl) ?_ _
      have HH := Num.hide hHeld.2.2.2.2
      have hr := HR.out
      subst hr
      go_wp2
      go_ret
      exact ⟨rfl, HH.out⟩
    · have hrf : respFields st l b = l := if_neg h24
      rw [hrf] at hr
      have hfo : Flds.ok l = true := (plain_parts h2).2.2.2
      have hsm := shown_le hfo
      have HSh := Num.hide (fun v W h => Flds.show_spec v l W h (shown_bulk hfo))
      generalize Flds.shown l = S at HSh hr hsm
      have HR := Num.hide hr
      have f1 : ¬ 9223372036854775807 < 9 + D.size := by omega
      have f2 : ¬ 9223372036854775807 < 9 + D.size + 1 := by omega
      have f3 : ¬ 9223372036854775807 < 9 + D.size + 1 + R.size := by omega
      have f4 : ¬ 9223372036854775807 < 9 + D.size + 1 + R.size + 2 := by omega
      have f5 : ¬ 9223372036854775807 < 9 + D.size + 1 + R.size + 2 + S.size := by omega
      have f6 : ¬ 9223372036854775807 < 9 + D.size + 1 + R.size + 2 + S.size + b.size := by omega
      have q1 : (st != 204) = false ∨ ((st != 204) = true ∧ (st != 304) = false) := by
        by_cases e : st = 204
        · left; rw [e]; rfl
        · right
          refine ⟨by rw [bne_iff_ne]; exact e, ?_⟩
          have : st = 304 := by omega
          rw [this]; rfl
      clear hr hok h2 h4 hfo hsr hrf h24
      rcases q1 with q1 | ⟨q1, q2⟩
      · go_enter Tryd.func19, Tryd.ntmps19
        go_wp2_with fail
        refine (HOk.out _ _ (Recs.is_stay HI.out (Nat.le_refl _) HB0.out)).mono ?_
        rintro e W2 ⟨rfl, hb2⟩
        obtain ⟨c0, c1, c2, hbw⟩ := box3_first w _ _ _ _ hb2
        have HK : Hid (Box3 w (.int .i64 st) (.slice a l.length c) (.string b) (.slice a l.length c) l W2) := ⟨c0, c1, c2, Recs.is_below HI.out hbw, hbw⟩
        clear hb2 HOk hbw
        go_wp2_with fail
        refine wp_region_held_drew (S := Box3 w (.int .i64 st) (.slice a l.length c) (.string b) (.slice a l.length c) l) (by kernel_rfl) HK.out.drew (fun hHeld => ?_)
        refine Reg.take (i := 0) (d := 22) (v := ?_) rfl rfl (by kernel_rfl) (by kernel_rfl) (by kernel_rfl) (fun _ _ _ h => h) (by rfl) ?_ hHeld ?_
        rotate_left
        · rintro W ⟨g0, g1, g2, g3, g4⟩
          first | (go_simp; done) | (go_simp; with_reducible rfl)
        simp only [Act.put, List.setIfInBounds_toArray, List.set_cons_zero, List.set_cons_succ]
        refine Reg.take (i := 1) (d := 23) (v := ?_) rfl rfl (by kernel_rfl) (by kernel_rfl) (by kernel_rfl) (fun _ _ _ h => h) (by rfl) ?_ hHeld ?_
        rotate_left
        · rintro W ⟨g0, g1, g2, g3, g4⟩
          first | (go_simp; done) | (go_simp; with_reducible rfl)
        simp only [Act.put, List.setIfInBounds_toArray, List.set_cons_zero, List.set_cons_succ]
        refine Reg.take (i := 5) (d := 27) (v := ?_) rfl rfl (by kernel_rfl) (by kernel_rfl) (by kernel_rfl) (fun _ _ _ h => h) (by rfl) ?_ hHeld ?_
        rotate_left
        · rintro W ⟨g0, g1, g2, g3, g4⟩
          first | (go_simp; done) | (go_simp; with_reducible rfl)
        simp only [Act.put, List.setIfInBounds_toArray, List.set_cons_zero, List.set_cons_succ]
        refine Reg.take (i := 6) (d := 28) (v := ?_) rfl rfl (by kernel_rfl) (by kernel_rfl) (by kernel_rfl) (fun _ _ _ h => h) (by rfl) ?_ hHeld ?_
        rotate_left
        · rintro W ⟨g0, g1, g2, g3, g4⟩
          first | (go_simp; done) | (go_simp; with_reducible rfl)
        simp only [Act.put, List.setIfInBounds_toArray, List.set_cons_zero, List.set_cons_succ]
        refine Reg.take (i := 10) (d := 32) (v := ?_) rfl rfl (by kernel_rfl) (by kernel_rfl) (by kernel_rfl) (fun _ _ _ h => h) (by rfl) ?_ hHeld ?_
        rotate_left
        · rintro W ⟨g0, g1, g2, g3, g4⟩
          first | (go_simp; done) | (go_simp; with_reducible rfl)
        simp only [Act.put, List.setIfInBounds_toArray, List.set_cons_zero, List.set_cons_succ]
        refine Reg.take (i := 13) (d := 35) (v := ?_) rfl rfl (by kernel_rfl) (by kernel_rfl) (by kernel_rfl) (fun _ _ _ h => h) (by rfl) ?_ hHeld ?_
        rotate_left
        · rintro W ⟨g0, g1, g2, g3, g4⟩
          first | (go_simp; done) | (go_simp; with_reducible rfl)
        simp only [Act.put, List.setIfInBounds_toArray, List.set_cons_zero, List.set_cons_succ]
        refine Reg.take (i := 14) (d := 36) (v := ?_) rfl rfl (by kernel_rfl) (by kernel_rfl) (by kernel_rfl) (fun _ _ _ h => h) (by rfl) ?_ hHeld ?_
        rotate_left
        · rintro W ⟨g0, g1, g2, g3, g4⟩
          first | (go_simp; done) | (go_simp; with_reducible rfl)
        simp only [Act.put, List.setIfInBounds_toArray, List.set_cons_zero, List.set_cons_succ]
        refine Reg.call (i := 2) rfl (by kernel_rfl) (by rfl) (fun K hK => ?_)
        go_wp2_with (first | (go_at_call 36; refine (HDc.out _).mono ?_; rintro e W3 ⟨rfl, hb3⟩))
        have HB3 := Num.hide hb3
        clear hb3
        refine hK.out _ _ ?_ (fun hHeld2 => ?_)
        · exact Box3.step hHeld HB3.out
        clear hK K
        replace hHeld := hHeld2
        clear hHeld2
        refine Reg.take (i := 3) (d := 25) (v := ?_) rfl rfl (by kernel_rfl) (by kernel_rfl) (by kernel_rfl) (fun _ _ _ h => h) (by rfl) ?_ hHeld ?_
        rotate_left
        · rintro W ⟨g0, g1, g2, g3, g4⟩
          first | (go_simp; done) | (go_simp; with_reducible rfl)
        simp only [Act.put, List.setIfInBounds_toArray, List.set_cons_zero, List.set_cons_succ]
        refine Reg.take (i := 4) (d := 26) (v := ?_) rfl rfl (by kernel_rfl) (by kernel_rfl) (by kernel_rfl) (fun _ _ _ h => h) (by rfl) ?_ hHeld ?_
        rotate_left
        · rintro W ⟨g0, g1, g2, g3, g4⟩
          first | (go_simp; done) | (go_simp; with_reducible rfl)
        simp only [Act.put, List.setIfInBounds_toArray, List.set_cons_zero, List.set_cons_succ]
        refine Reg.call (i := 7) rfl (by kernel_rfl) (by rfl) (fun K hK => ?_)
        go_wp2_with (first | (go_at_call 37; refine (HRs.out _).mono ?_; rintro e W4 ⟨rfl, hb4⟩))
        have HB4 := Num.hide hb4
        clear hb4
        refine hK.out _ _ ?_ (fun hHeld2 => ?_)
        · exact Box3.step hHeld HB4.out
        clear hK K
        replace hHeld := hHeld2
        clear hHeld2
        refine Reg.take (i := 8) (d := 30) (v := ?_) rfl rfl (by kernel_rfl) (by kernel_rfl) (by kernel_rfl) (fun _ _ _ h => h) (by rfl) ?_ hHeld ?_
        rotate_left
        · rintro W ⟨g0, g1, g2, g3, g4⟩
          first | (go_simp; done) | (go_simp; with_reducible rfl)
        simp only [Act.put, List.setIfInBounds_toArray, List.set_cons_zero, List.set_cons_succ]
        refine Reg.take (i := 9) (d := 31) (v := ?_) rfl rfl (by kernel_rfl) (by kernel_rfl) (by kernel_rfl) (fun _ _ _ h => h) (by rfl) ?_ hHeld ?_
        rotate_left
        · rintro W ⟨g0, g1, g2, g3, g4⟩
          first | (go_simp; done) | (go_simp; with_reducible rfl)
        simp only [Act.put, List.setIfInBounds_toArray, List.set_cons_zero, List.set_cons_succ]
        refine Reg.call (i := 11) rfl (by kernel_rfl) (by rfl) (fun K hK => ?_)
        go_wp2_with (first | (go_at_call 30; refine (HSh.out _ _ hHeld.2.2.2.1).mono ?_; rintro e W5 ⟨rfl, hb5⟩))
        have HB5 := Num.hide hb5
        clear hb5
        refine hK.out _ _ ?_ (fun hHeld2 => ?_)
        · exact Box3.step hHeld HB5.out
        clear hK K
        replace hHeld := hHeld2
        clear hHeld2
        refine Reg.take (i := 12) (d := 34) (v := ?_) rfl rfl (by kernel_rfl) (by kernel_rfl) (by kernel_rfl) (fun _ _ _ h => h) (by rfl) ?_ hHeld ?_
        rotate_left
        · rintro W ⟨g0, g1, g2, g3, g4⟩
          first | (go_simp; done) | (go_simp; with_reducible rfl)
        simp only [Act.put, List.setIfInBounds_toArray, List.set_cons_zero, List.set_cons_succ]
        refine Reg.take (i := 15) (d := 37) (v := ?_) rfl rfl (by kernel_rfl) (by kernel_rfl) (by kernel_rfl) (fun _ _ _ h => h) (by rfl) ?_ hHeld ?_
        rotate_left
        · rintro W ⟨g0, g1, g2, g3, g4⟩
          first | (go_simp; done) | (go_simp; with_reducible rfl)
        simp only [Act.put, List.setIfInBounds_toArray, List.set_cons_zero, List.set_cons_succ]
        refine Reg.take (i := 16) (d := 2) (v := ?_) rfl rfl (by kernel_rfl) (by kernel_rfl) (by kernel_rfl) (fun _ _ _ h => h) (by rfl) ?_ hHeld ?_
        rotate_left
        · rintro W ⟨g0, g1, g2, g3, g4⟩
          first | (go_simp; done) | (go_simp; with_reducible rfl)
        simp only [Act.put, List.setIfInBounds_toArray, List.set_cons_zero, List.set_cons_succ]
        refine wpAnyH_done (by kernel_rfl) ?_ _
        have HH := Num.hide hHeld.2.2.2.2
        have hr := HR.out
        subst hr
        go_wp2
        go_ret
        exact ⟨rfl, HH.out⟩
      · go_enter Tryd.func19, Tryd.ntmps19
        go_wp2_with fail
        refine (HOk.out _ _ (Recs.is_stay HI.out (Nat.le_refl _) HB0.out)).mono ?_
        rintro e W2 ⟨rfl, hb2⟩
        obtain ⟨c0, c1, c2, hbw⟩ := box3_first w _ _ _ _ hb2
        have HK : Hid (Box3 w (.int .i64 st) (.slice a l.length c) (.string b) (.slice a l.length c) l W2) := ⟨c0, c1, c2, Recs.is_below HI.out hbw, hbw⟩
        clear hb2 HOk hbw
        go_wp2_with fail
        refine wp_region_held_drew (S := Box3 w (.int .i64 st) (.slice a l.length c) (.string b) (.slice a l.length c) l) (by kernel_rfl) HK.out.drew (fun hHeld => ?_)
        refine Reg.take (i := 0) (d := 22) (v := ?_) rfl rfl (by kernel_rfl) (by kernel_rfl) (by kernel_rfl) (fun _ _ _ h => h) (by rfl) ?_ hHeld ?_
        rotate_left
        · rintro W ⟨g0, g1, g2, g3, g4⟩
          first | (go_simp; done) | (go_simp; with_reducible rfl)
        simp only [Act.put, List.setIfInBounds_toArray, List.set_cons_zero, List.set_cons_succ]
        refine Reg.take (i := 1) (d := 23) (v := ?_) rfl rfl (by kernel_rfl) (by kernel_rfl) (by kernel_rfl) (fun _ _ _ h => h) (by rfl) ?_ hHeld ?_
        rotate_left
        · rintro W ⟨g0, g1, g2, g3, g4⟩
          first | (go_simp; done) | (go_simp; with_reducible rfl)
        simp only [Act.put, List.setIfInBounds_toArray, List.set_cons_zero, List.set_cons_succ]
        refine Reg.take (i := 5) (d := 27) (v := ?_) rfl rfl (by kernel_rfl) (by kernel_rfl) (by kernel_rfl) (fun _ _ _ h => h) (by rfl) ?_ hHeld ?_
        rotate_left
        · rintro W ⟨g0, g1, g2, g3, g4⟩
          first | (go_simp; done) | (go_simp; with_reducible rfl)
        simp only [Act.put, List.setIfInBounds_toArray, List.set_cons_zero, List.set_cons_succ]
        refine Reg.take (i := 6) (d := 28) (v := ?_) rfl rfl (by kernel_rfl) (by kernel_rfl) (by kernel_rfl) (fun _ _ _ h => h) (by rfl) ?_ hHeld ?_
        rotate_left
        · rintro W ⟨g0, g1, g2, g3, g4⟩
          first | (go_simp; done) | (go_simp; with_reducible rfl)
        simp only [Act.put, List.setIfInBounds_toArray, List.set_cons_zero, List.set_cons_succ]
        refine Reg.take (i := 10) (d := 32) (v := ?_) rfl rfl (by kernel_rfl) (by kernel_rfl) (by kernel_rfl) (fun _ _ _ h => h) (by rfl) ?_ hHeld ?_
        rotate_left
        · rintro W ⟨g0, g1, g2, g3, g4⟩
          first | (go_simp; done) | (go_simp; with_reducible rfl)
        simp only [Act.put, List.setIfInBounds_toArray, List.set_cons_zero, List.set_cons_succ]
        refine Reg.take (i := 13) (d := 35) (v := ?_) rfl rfl (by kernel_rfl) (by kernel_rfl) (by kernel_rfl) (fun _ _ _ h => h) (by rfl) ?_ hHeld ?_
        rotate_left
        · rintro W ⟨g0, g1, g2, g3, g4⟩
          first | (go_simp; done) | (go_simp; with_reducible rfl)
        simp only [Act.put, List.setIfInBounds_toArray, List.set_cons_zero, List.set_cons_succ]
        refine Reg.take (i := 14) (d := 36) (v := ?_) rfl rfl (by kernel_rfl) (by kernel_rfl) (by kernel_rfl) (fun _ _ _ h => h) (by rfl) ?_ hHeld ?_
        rotate_left
        · rintro W ⟨g0, g1, g2, g3, g4⟩
          first | (go_simp; done) | (go_simp; with_reducible rfl)
        simp only [Act.put, List.setIfInBounds_toArray, List.set_cons_zero, List.set_cons_succ]
        refine Reg.call (i := 2) rfl (by kernel_rfl) (by rfl) (fun K hK => ?_)
        go_wp2_with (first | (go_at_call 36; refine (HDc.out _).mono ?_; rintro e W3 ⟨rfl, hb3⟩))
        have HB3 := Num.hide hb3
        clear hb3
        refine hK.out _ _ ?_ (fun hHeld2 => ?_)
        · exact Box3.step hHeld HB3.out
        clear hK K
        replace hHeld := hHeld2
        clear hHeld2
        refine Reg.take (i := 3) (d := 25) (v := ?_) rfl rfl (by kernel_rfl) (by kernel_rfl) (by kernel_rfl) (fun _ _ _ h => h) (by rfl) ?_ hHeld ?_
        rotate_left
        · rintro W ⟨g0, g1, g2, g3, g4⟩
          first | (go_simp; done) | (go_simp; with_reducible rfl)
        simp only [Act.put, List.setIfInBounds_toArray, List.set_cons_zero, List.set_cons_succ]
        refine Reg.take (i := 4) (d := 26) (v := ?_) rfl rfl (by kernel_rfl) (by kernel_rfl) (by kernel_rfl) (fun _ _ _ h => h) (by rfl) ?_ hHeld ?_
        rotate_left
        · rintro W ⟨g0, g1, g2, g3, g4⟩
          first | (go_simp; done) | (go_simp; with_reducible rfl)
        simp only [Act.put, List.setIfInBounds_toArray, List.set_cons_zero, List.set_cons_succ]
        refine Reg.call (i := 7) rfl (by kernel_rfl) (by rfl) (fun K hK => ?_)
        go_wp2_with (first | (go_at_call 37; refine (HRs.out _).mono ?_; rintro e W4 ⟨rfl, hb4⟩))
        have HB4 := Num.hide hb4
        clear hb4
        refine hK.out _ _ ?_ (fun hHeld2 => ?_)
        · exact Box3.step hHeld HB4.out
        clear hK K
        replace hHeld := hHeld2
        clear hHeld2
        refine Reg.take (i := 8) (d := 30) (v := ?_) rfl rfl (by kernel_rfl) (by kernel_rfl) (by kernel_rfl) (fun _ _ _ h => h) (by rfl) ?_ hHeld ?_
        rotate_left
        · rintro W ⟨g0, g1, g2, g3, g4⟩
          first | (go_simp; done) | (go_simp; with_reducible rfl)
        simp only [Act.put, List.setIfInBounds_toArray, List.set_cons_zero, List.set_cons_succ]
        refine Reg.take (i := 9) (d := 31) (v := ?_) rfl rfl (by kernel_rfl) (by kernel_rfl) (by kernel_rfl) (fun _ _ _ h => h) (by rfl) ?_ hHeld ?_
        rotate_left
        · rintro W ⟨g0, g1, g2, g3, g4⟩
          first | (go_simp; done) | (go_simp; with_reducible rfl)
        simp only [Act.put, List.setIfInBounds_toArray, List.set_cons_zero, List.set_cons_succ]
        refine Reg.call (i := 11) rfl (by kernel_rfl) (by rfl) (fun K hK => ?_)
        go_wp2_with (first | (go_at_call 30; refine (HSh.out _ _ hHeld.2.2.2.1).mono ?_; rintro e W5 ⟨rfl, hb5⟩))
        have HB5 := Num.hide hb5
        clear hb5
        refine hK.out _ _ ?_ (fun hHeld2 => ?_)
        · exact Box3.step hHeld HB5.out
        clear hK K
        replace hHeld := hHeld2
        clear hHeld2
        refine Reg.take (i := 12) (d := 34) (v := ?_) rfl rfl (by kernel_rfl) (by kernel_rfl) (by kernel_rfl) (fun _ _ _ h => h) (by rfl) ?_ hHeld ?_
        rotate_left
        · rintro W ⟨g0, g1, g2, g3, g4⟩
          first | (go_simp; done) | (go_simp; with_reducible rfl)
        simp only [Act.put, List.setIfInBounds_toArray, List.set_cons_zero, List.set_cons_succ]
        refine Reg.take (i := 15) (d := 37) (v := ?_) rfl rfl (by kernel_rfl) (by kernel_rfl) (by kernel_rfl) (fun _ _ _ h => h) (by rfl) ?_ hHeld ?_
        rotate_left
        · rintro W ⟨g0, g1, g2, g3, g4⟩
          first | (go_simp; done) | (go_simp; with_reducible rfl)
        simp only [Act.put, List.setIfInBounds_toArray, List.set_cons_zero, List.set_cons_succ]
        refine Reg.take (i := 16) (d := 2) (v := ?_) rfl rfl (by kernel_rfl) (by kernel_rfl) (by kernel_rfl) (fun _ _ _ h => h) (by rfl) ?_ hHeld ?_
        rotate_left
        · rintro W ⟨g0, g1, g2, g3, g4⟩
          first | (go_simp; done) | (go_simp; with_reducible rfl)
        simp only [Act.put, List.setIfInBounds_toArray, List.set_cons_zero, List.set_cons_succ]
        refine wpAnyH_done (by kernel_rfl) ?_ _
        have HH := Num.hide hHeld.2.2.2.2
        have hr := HR.out
        subst hr
        go_wp2
        go_ret
        exact ⟨rfl, HH.out⟩
  | false =>
    have hsr : showResp st l b = ⟨#[]⟩ := by unfold showResp; rw [if_neg (by rw [hok]; decide)]
    rw [hsr]
    rw [hok] at HOk
    clear hsr hok
    go_enter Tryd.func19, Tryd.ntmps19
    go_wp2_with fail
    refine (HOk.out _ _ (Recs.is_stay HI.out (Nat.le_refl _) HB0.out)).mono ?_
    rintro e W2 ⟨rfl, hb2⟩
    have HB2 := Num.hide (HB0.out.trans (hb2.mono HB0.out.size))
    clear hb2 HOk
    go_wp2
    go_ret
    exact ⟨rfl, HB2.out⟩
end Msg
end Go.Proofs.YtmiahdiadlnijaaDoor
namespace Go.Proofs.YtmiahdiadlnijaaDoor
open Go.RowKit
set_option linter.unusedVariables false
set_option linter.unusedSimpArgs false
namespace Msg

/-- the two boxes that the law loads, and what they lead to -/
abbrev SshowResp (w : World) (g0 g1 : Nat) (st : Int) (a vx : Value) (l : List Flds.Fld) (b : ByteArray) (W : World) : Prop :=
  W.cell? ⟨g0, 0, none⟩ = some (.int .i64 st) ∧ W.cell? ⟨g0, 1, none⟩ = some a ∧ W.cell? ⟨g0, 2, none⟩ = some (.string b) ∧ W.cell? ⟨g1, 0, none⟩ = some (.int .i64 st) ∧ W.cell? ⟨g1, 1, none⟩ = some vx ∧ W.cell? ⟨g1, 2, none⟩ = some (.string b) ∧ Flds.Arg W a l ∧ Flds.Is W vx l ∧ Below w.heap.size w W
theorem SshowResp.step {w : World} {g0 g1 : Nat} {st : Int} {a vx : Value} {l : List Flds.Fld} {b : ByteArray} {W W' : World} (h : SshowResp w g0 g1 st a vx l b W) (hb : Below W.heap.size W W') : SshowResp w g0 g1 st a vx l b W' := by
  obtain ⟨h0, h1, h2, h3, h4, h5, h6, h7, h8⟩ := h
  have l0 : g0 < W.heap.size := Recs.lt_of_cell h0
  have l1 : g1 < W.heap.size := Recs.lt_of_cell h3
  exact ⟨(hb.cell (p := ⟨g0, 0, none⟩) l0).trans h0, (hb.cell (p := ⟨g0, 1, none⟩) l0).trans h1, (hb.cell (p := ⟨g0, 2, none⟩) l0).trans h2, (hb.cell (p := ⟨g1, 0, none⟩) l1).trans h3, (hb.cell (p := ⟨g1, 1, none⟩) l1).trans h4, (hb.cell (p := ⟨g1, 2, none⟩) l1).trans h5, Flds.arg_stay h6 (Nat.le_refl _) hb, Recs.is_below h7 hb, h8.trans (hb.mono h8.size)⟩
set_option maxRecDepth 100000 in
set_option maxHeartbeats 8000000 in
theorem showResp_law (G : World → Prop) (hG : ∀ W W', G W → Below W.heap.size W W' → G W')
    (hi : ∀ (st : Int) (v : Value) (l : List Flds.Fld) (b : ByteArray) W, Flds.Is W v l → Flds.bulk l ≤ 1048576 → b.size ≤ 1048576 → G W → Calls Tryd.prog 20 #[Resp.val st v b] W fun e w' => e = .returned (.string (showResp st l b)) ∧ Below W.heap.size W w')
    (st : Int) (a : Value) (l : List Flds.Fld) (b : ByteArray) (w : World) (ha : Flds.Arg w a l) (hb : b.size ≤ maxLen) (hg : G w) :
    Calls Tryd.prog 6 #[Resp.val st a b] w fun e w' => e = .returned (.bool true) ∧ Below w.heap.size w w' := by
  have HZ := Num.hide (fun W h => Resp.sz_any st a l b 1048576 W h hb (by omega) (by omega))
  have HA := Num.hide ha
  obtain ⟨aa, ca, rfl, _⟩ := Flds.is_form ha.1
  have hb0 : Below w.heap.size w (w.alloc (.cells #[.int .i64 st, (.slice aa l.length ca), .string b] 35)) := (Below.refl _ w).alloc (Nat.le_refl _) _
  have B0 := Num.hide hb0
  have A0 := Num.hide (Flds.arg_stay HA.out (Nat.le_refl _) hb0)
  have X0 := Num.hide (heap_alloc_new w (.cells #[.int .i64 st, (.slice aa l.length ca), .string b] 35))
  have hz0 : w.heap.size < (w.alloc (.cells #[.int .i64 st, (.slice aa l.length ca), .string b] 35)).heap.size := by simp
  clear ha hb0
  unfold Resp.val at HZ ⊢
  by_cases hbk : ¬ (Resp.bulk l b : Int) ≤ 1048576
  · rw [Flds.left_no hbk] at HZ
    clear hi hG hg
    go_enter Tryd.func6, Tryd.ntmps6
    go_wp2_with fail
    refine (HZ.out _ A0.out).mono ?_
    rintro e W1 ⟨rfl, hb1⟩
    have B1 := Num.hide (B0.out.trans (hb1.mono B0.out.size))
    clear hb1
    go_wp2
    go_ret
    exact ⟨rfl, B1.out⟩
  · have hbb := Decidable.not_not.1 hbk
    rw [Flds.left_yes hbb] at HZ
    unfold Resp.bulk at hbb HZ
    have hlen : l.length ≤ 1048576 := by have := Flds.len_le l; omega
    have HTo := Num.hide (fun W h => Resp.to_any st (.slice aa l.length ca) l b W h hlen)
    have HS := Num.hide (fun v W h => showResp_spec st v l b W h (by omega) (by omega))
    have HI := Num.hide (fun v W h (hb : Below w.heap.size w W) => hi st v l b W h (by omega) (by omega) (hG w W hg hb))
    have HEq := Num.hide (fun v1 v2 W h1 h2 => Resp.eq_any st st v1 v2 l l b b W h1 h2 (by omega))
    rw [decide_eq_true ⟨rfl, rfl, rfl⟩] at HEq
    unfold Resp.val at HTo HS HI HEq
    generalize showResp st l b = r at HS HI
    have dz : decide ((1048576 : Int) - ((Flds.bulk l + b.size : Nat) : Int) < 0) = false := by simp; omega
    clear hi hG hg hbk
    go_enter Tryd.func6, Tryd.ntmps6
    go_wp2_with fail
    refine (HZ.out _ A0.out).mono ?_
    rintro e W1 ⟨rfl, hb1⟩
    have A1 := Num.hide (Flds.arg_stay A0.out (Nat.le_refl _) hb1)
    have B1 := Num.hide (B0.out.trans (hb1.mono B0.out.size))
    have X1 := Num.hide ((hb1.block w.heap.size hz0).trans X0.out)
    have z1 := hb1.size
    clear hb1 HZ A0 B0 X0
    obtain ⟨p0, p1, p2⟩ := (⟨Recs.box_cell X1.out 0, Recs.box_cell X1.out 1, Recs.box_cell X1.out 2⟩ : W1.cell? ⟨w.heap.size, 0, none⟩ = some (.int .i64 st) ∧ W1.cell? ⟨w.heap.size, 1, none⟩ = some (.slice aa l.length ca) ∧ W1.cell? ⟨w.heap.size, 2, none⟩ = some (.string b))
    go_wp2_with fail
    refine (HTo.out _ A1.out.1).mono ?_
    rintro e W2 ⟨v2, rfl, ho2, hb2⟩
    obtain ⟨a2, c2, hv2⟩ := Recs.own_len ho2
    subst hv2
    have I2 := Num.hide (Recs.own_is Flds.cells_len ho2)
    have A2 := Num.hide (Flds.arg_stay A1.out (Nat.le_refl _) hb2)
    have B2 := Num.hide (B1.out.trans (hb2.mono B1.out.size))
    have X2 := Num.hide ((hb2.block w.heap.size (by omega)).trans X1.out)
    have z2 := hb2.size
    clear ho2 hb2 A1 B1 X1 p0 p1 p2
    go_wp2_with fail
    refine (HS.out _ _ I2.out).mono ?_
    rintro e W3 ⟨rfl, hb3⟩
    have A3 := Num.hide (Flds.arg_stay A2.out (Nat.le_refl _) hb3)
    have B3 := Num.hide (B2.out.trans (hb3.mono B2.out.size))
    have X3 := Num.hide ((hb3.block w.heap.size (by omega)).trans X2.out)
    have z3 := hb3.size
    clear hb3 A2 B2 X2 I2 HS
    obtain ⟨p0, p1, p2⟩ := (⟨Recs.box_cell X3.out 0, Recs.box_cell X3.out 1, Recs.box_cell X3.out 2⟩ : W3.cell? ⟨w.heap.size, 0, none⟩ = some (.int .i64 st) ∧ W3.cell? ⟨w.heap.size, 1, none⟩ = some (.slice aa l.length ca) ∧ W3.cell? ⟨w.heap.size, 2, none⟩ = some (.string b))
    go_wp2_with fail
    refine (HTo.out _ A3.out.1).mono ?_
    rintro e W4 ⟨v4, rfl, ho4, hb4⟩
    obtain ⟨ax, cx, hv4⟩ := Recs.own_len ho4
    subst hv4
    have I4 := Num.hide (Recs.is_below (Recs.own_is Flds.cells_len ho4) ((Below.refl W4.heap.size W4).alloc (Nat.le_refl _) (.cells #[.int .i64 st, (.slice ax l.length cx), .string b] 39)))
    have A4 := Num.hide (Flds.arg_stay (Flds.arg_stay A3.out (Nat.le_refl _) hb4) (Nat.le_refl _) ((Below.refl W4.heap.size W4).alloc (Nat.le_refl _) (.cells #[.int .i64 st, (.slice ax l.length cx), .string b] 39)))
    have B4 := Num.hide ((B3.out.trans (hb4.mono B3.out.size)).alloc (Nat.le_trans B3.out.size hb4.size) (.cells #[.int .i64 st, (.slice ax l.length cx), .string b] 39))
    have X4 := Num.hide ((((Below.refl W4.heap.size W4).alloc (Nat.le_refl _) (.cells #[.int .i64 st, (.slice ax l.length cx), .string b] 39)).block w.heap.size (by have := hb4.size; omega)).trans ((hb4.block w.heap.size (by omega)).trans X3.out))
    have Y4 := Num.hide (heap_alloc_new W4 (.cells #[.int .i64 st, (.slice ax l.length cx), .string b] 39))
    clear ho4 hb4 A3 B3 X3 p0 p1 p2
    go_upto_region 7 with fail
    generalize W4.alloc (.cells #[.int .i64 st, (.slice ax l.length cx), .string b] 39) = V4 at I4 A4 B4 X4 Y4 ⊢
    generalize W4.heap.size = g1 at Y4 ⊢
    obtain ⟨q0, q1, q2⟩ := (⟨Recs.box_cell Y4.out 0, Recs.box_cell Y4.out 1, Recs.box_cell Y4.out 2⟩ : V4.cell? ⟨g1, 0, none⟩ = some (.int .i64 st) ∧ V4.cell? ⟨g1, 1, none⟩ = some (.slice ax l.length cx) ∧ V4.cell? ⟨g1, 2, none⟩ = some (.string b))
    go_wp2_with fail
    refine (HI.out _ _ I4.out B4.out).mono ?_
    rintro e W5 ⟨rfl, hb5⟩
    have HK : Hid (SshowResp w w.heap.size g1 st (.slice aa l.length ca) (.slice ax l.length cx) l b V4) := ⟨Recs.box_cell X4.out 0, Recs.box_cell X4.out 1, Recs.box_cell X4.out 2, Recs.box_cell Y4.out 0, Recs.box_cell Y4.out 1, Recs.box_cell Y4.out 2, A4.out, I4.out, B4.out⟩
    have HK5 := Num.hide (SshowResp.step HK.out hb5)
    clear hb5 A4 B4 X4 Y4 I4 HK HI q0 q1 q2
    go_wp2_with fail
    refine wp_region_held_drew (S := SshowResp w w.heap.size g1 st (.slice aa l.length ca) (.slice ax l.length cx) l b) (by kernel_rfl) (SshowResp.step HK5.out (Below.refl _ _).drew) (fun hHeld => ?_)
    refine Reg.take (i := 0) (d := 22) (v := ?_) rfl rfl (by kernel_rfl) (by kernel_rfl) (by kernel_rfl) (fun _ _ _ h => h) (by rfl) ?_ hHeld ?_
    rotate_left
    · rintro W ⟨k0, k1, k2, k3, k4, k5, k6, k7, k8⟩
      first | (go_simp; done) | (go_simp; with_reducible rfl)
    simp only [Act.put, List.setIfInBounds_toArray, List.set_cons_zero, List.set_cons_succ]
    refine Reg.take (i := 1) (d := 23) (v := ?_) rfl rfl (by kernel_rfl) (by kernel_rfl) (by kernel_rfl) (fun _ _ _ h => h) (by rfl) ?_ hHeld ?_
    rotate_left
    · rintro W ⟨k0, k1, k2, k3, k4, k5, k6, k7, k8⟩
      first | (go_simp; done) | (go_simp; with_reducible rfl)
    simp only [Act.put, List.setIfInBounds_toArray, List.set_cons_zero, List.set_cons_succ]
    refine Reg.call (i := 2) rfl (by kernel_rfl) (by rfl) (fun K hK => ?_)
    go_wp2_with (first | (go_at_call 16; refine (HTo.out _ hHeld.2.2.2.2.2.2.1.1).mono ?_; rintro e W9 ⟨vy, rfl, ho9, hb9⟩))
    obtain ⟨ay, cy, hvy⟩ := Recs.own_len ho9
    subst hvy
    have HO9 := Num.hide ho9
    have HB9 := Num.hide hb9
    clear ho9 hb9
    refine hK.out _ _ ?_ (fun hHeld2 => ?_)
    · exact SshowResp.step hHeld HB9.out
    clear hK K
    replace hHeld := hHeld2
    clear hHeld2
    refine Reg.call (i := 3) rfl (by kernel_rfl) (by rfl) (fun K hK => ?_)
    go_wp2_with (first | (go_at_call 18; refine (HEq.out _ _ _ hHeld.2.2.2.2.2.2.2.1 (Recs.own_is Flds.cells_len HO9.out)).mono ?_; rintro e W10 ⟨rfl, hb10⟩))
    have HB10 := Num.hide hb10
    clear hb10
    refine hK.out _ _ ?_ (fun hHeld2 => ?_)
    · exact SshowResp.step hHeld HB10.out
    clear hK K
    replace hHeld := hHeld2
    clear hHeld2
    refine Reg.take (i := 4) (d := 26) (v := ?_) rfl rfl (by kernel_rfl) (by kernel_rfl) (by kernel_rfl) (fun _ _ _ h => h) (by rfl) ?_ hHeld ?_
    rotate_left
    · rintro W ⟨k0, k1, k2, k3, k4, k5, k6, k7, k8⟩
      first | (go_simp; done) | (go_simp; with_reducible rfl)
    simp only [Act.put, List.setIfInBounds_toArray, List.set_cons_zero, List.set_cons_succ]
    refine wpAnyH_done (by kernel_rfl) ?_ _
    have HH := Num.hide hHeld.2.2.2.2.2.2.2.2
    go_wp2
    go_ret
    exact ⟨rfl, HH.out⟩
end Msg
end Go.Proofs.YtmiahdiadlnijaaDoor
