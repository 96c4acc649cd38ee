/-
  ReasonImpl: Reason of the program: the words of a status.
  RespShowImpl: ShowResponse of the program: the text of an answer.
-/
import Derived.Test.YtmiahdiadlnijaaDoorReasonNum
import Derived.Test.YtmiahdiadlnijaaDoorNum
import Derived.Test.YtmiahdiadlnijaaDoorRows
import Derived.WalkKit
import Derived.WalkLawsBesides
import Derived.Below
import Derived.Test.YtmiahdiadlnijaaDoorPau
import Derived.Test.YtmiahdiadlnijaaDoorPaz
import Derived.Test.YtmiahdiadlnijaaDoorPba
import Derived.Test.YtmiahdiadlnijaaDoorPbb
import Derived.Test.YtmiahdiadlnijaaDoorRegLaw
import Derived.Test.YtmiahdiadlnijaaDoorPaw
import Derived.Deep.Cut
namespace Go.Proofs.YtmiahdiadlnijaaDoor
open Go.RowKit
set_option linter.unusedVariables false
namespace Msg

theorem reasonF_other (st : Int) (h : ∀ i, i < 11 → ¬ known.getD i 0 = st) : ∀ (n i : Nat), i + n = 11 → reasonF st n i = ⟨#[83, 116, 97, 116, 117, 115]⟩ := by
  intro n
  induction n with
  | zero => intro i _; rfl
  | succ n ih =>
    intro i hi
    unfold reasonF
    rw [if_neg (h i (by omega)), ih (i + 1) (by omega)]
set_option maxRecDepth 100000 in
set_option maxHeartbeats 2000000 in
theorem reason_impl (st : Int) (w : World) : Calls Tryd.prog 39 #[.int .i64 st] w fun e w' => e = .returned (.string (reason st)) ∧ w = w' := by
  by_cases h200 : st = 200
  · subst h200
    have hr : reason 200 = texts.getD 0 ⟨#[]⟩ := by decide +kernel
    rw [hr]
    clear hr
    go_enter Tryd.func39, Tryd.ntmps39
    go_wp2
    go_ret
    exact ⟨rfl, rfl⟩
  by_cases h203 : st = 203
  · subst h203
    have hr : reason 203 = texts.getD 1 ⟨#[]⟩ := by decide +kernel
    rw [hr]
    clear hr
    go_enter Tryd.func39, Tryd.ntmps39
    go_wp2
    go_ret
    exact ⟨rfl, rfl⟩
  by_cases h204 : st = 204
  · subst h204
    have hr : reason 204 = texts.getD 2 ⟨#[]⟩ := by decide +kernel
    rw [hr]
    clear hr
    go_enter Tryd.func39, Tryd.ntmps39
    go_wp2
    go_ret
    exact ⟨rfl, rfl⟩
  by_cases h300 : st = 300
  · subst h300
    have hr : reason 300 = texts.getD 3 ⟨#[]⟩ := by decide +kernel
    rw [hr]
    clear hr
    go_enter Tryd.func39, Tryd.ntmps39
    go_wp2
    go_ret
    exact ⟨rfl, rfl⟩
  by_cases h301 : st = 301
  · subst h301
    have hr : reason 301 = texts.getD 4 ⟨#[]⟩ := by decide +kernel
    rw [hr]
    clear hr
    go_enter Tryd.func39, Tryd.ntmps39
    go_wp2
    go_ret
    exact ⟨rfl, rfl⟩
  by_cases h304 : st = 304
  · subst h304
    have hr : reason 304 = texts.getD 5 ⟨#[]⟩ := by decide +kernel
    rw [hr]
    clear hr
    go_enter Tryd.func39, Tryd.ntmps39
    go_wp2
    go_ret
    exact ⟨rfl, rfl⟩
  by_cases h400 : st = 400
  · subst h400
    have hr : reason 400 = texts.getD 6 ⟨#[]⟩ := by decide +kernel
    rw [hr]
    clear hr
    go_enter Tryd.func39, Tryd.ntmps39
    go_wp2
    go_ret
    exact ⟨rfl, rfl⟩
  by_cases h404 : st = 404
  · subst h404
    have hr : reason 404 = texts.getD 7 ⟨#[]⟩ := by decide +kernel
    rw [hr]
    clear hr
    go_enter Tryd.func39, Tryd.ntmps39
    go_wp2
    go_ret
    exact ⟨rfl, rfl⟩
  by_cases h410 : st = 410
  · subst h410
    have hr : reason 410 = texts.getD 8 ⟨#[]⟩ := by decide +kernel
    rw [hr]
    clear hr
    go_enter Tryd.func39, Tryd.ntmps39
    go_wp2
    go_ret
    exact ⟨rfl, rfl⟩
  by_cases h502 : st = 502
  · subst h502
    have hr : reason 502 = texts.getD 9 ⟨#[]⟩ := by decide +kernel
    rw [hr]
    clear hr
    go_enter Tryd.func39, Tryd.ntmps39
    go_wp2
    go_ret
    exact ⟨rfl, rfl⟩
  by_cases h504 : st = 504
  · subst h504
    have hr : reason 504 = texts.getD 10 ⟨#[]⟩ := by decide +kernel
    rw [hr]
    clear hr
    go_enter Tryd.func39, Tryd.ntmps39
    go_wp2
    go_ret
    exact ⟨rfl, rfl⟩
  · obtain ⟨r, hr⟩ : ∃ r, reason st = r := ⟨_, rfl⟩
    obtain rfl : ⟨#[83, 116, 97, 116, 117, 115]⟩ = r := by
      rw [← hr]
      unfold reason
      rw [reasonF_other st ?_ 11 0 rfl]
      intro i hi
      match i, hi with
      | 0, _ => exact fun h => h200 h.symm
      | 1, _ => exact fun h => h203 h.symm
      | 2, _ => exact fun h => h204 h.symm
      | 3, _ => exact fun h => h300 h.symm
      | 4, _ => exact fun h => h301 h.symm
      | 5, _ => exact fun h => h304 h.symm
      | 6, _ => exact fun h => h400 h.symm
      | 7, _ => exact fun h => h404 h.symm
      | 8, _ => exact fun h => h410 h.symm
      | 9, _ => exact fun h => h502 h.symm
      | 10, _ => exact fun h => h504 h.symm
    rw [hr]
    clear hr
    have d200 : (st == 200) = false := by rw [beq_eq_false_iff_ne]; exact h200
    have d203 : (st == 203) = false := by rw [beq_eq_false_iff_ne]; exact h203
    have d204 : (st == 204) = false := by rw [beq_eq_false_iff_ne]; exact h204
    have d300 : (st == 300) = false := by rw [beq_eq_false_iff_ne]; exact h300
    have d301 : (st == 301) = false := by rw [beq_eq_false_iff_ne]; exact h301
    have d304 : (st == 304) = false := by rw [beq_eq_false_iff_ne]; exact h304
    have d400 : (st == 400) = false := by rw [beq_eq_false_iff_ne]; exact h400
    have d404 : (st == 404) = false := by rw [beq_eq_false_iff_ne]; exact h404
    have d410 : (st == 410) = false := by rw [beq_eq_false_iff_ne]; exact h410
    have d502 : (st == 502) = false := by rw [beq_eq_false_iff_ne]; exact h502
    have d504 : (st == 504) = false := by rw [beq_eq_false_iff_ne]; exact h504
    go_enter Tryd.func39, Tryd.ntmps39
    go_wp2
    go_ret
    exact ⟨rfl, rfl⟩
theorem reason_impl_b (st : Int) (w : World) : Calls Tryd.prog 39 #[.int .i64 st] w fun e w' => e = .returned (.string (reason st)) ∧ Below w.heap.size w w' :=
  (reason_impl st w).mono (fun _ _ h => ⟨h.1, h.2 ▸ Below.refl _ _⟩)
end Msg
end Go.Proofs.YtmiahdiadlnijaaDoor
namespace Go.Proofs.YtmiahdiadlnijaaDoor
open Go.RowKit
set_option linter.unusedVariables false
set_option linter.unusedSimpArgs false
namespace Msg

set_option maxRecDepth 100000 in
set_option maxHeartbeats 4000000 in
theorem showResp_impl (st : Int) (v : Value) (l : List Flds.Fld) (b : ByteArray) (w : World) (h : Flds.Is w v l) (hl : Flds.bulk l ≤ 1048576) (hb : b.size ≤ 1048576) (hS : Sign.Signs w) (hT : Dec.Tab w) :
    Calls Tryd.prog 20 #[Resp.val st v b] w fun e w' => e = .returned (.string (showResp st l b)) ∧ Below w.heap.size w w' := by
  have HOk := Num.hide (fun v W h hS => respOk_impl st v l b W h hl hb hS)
  have HSg := Num.hide hS
  have hsg := Flds.signs_lt hS
  have HI := Num.hide h
  unfold Resp.val at HOk ⊢
  obtain ⟨a, c, rfl, _⟩ := Flds.is_form h
  have HB0 := Num.hide ((Below.refl w.heap.size w).alloc (Nat.le_refl _) (.cells #[.int .i64 st, .slice a l.length c, .string b] 39))
  clear h hS
  cases hok : respOk st l b with
  | false =>
    have hsr : showResp st l b = ⟨#[]⟩ := by unfold showResp; rw [if_neg (by rw [hok]; decide)]
    rw [hsr]
    rw [hok] at HOk
    clear hsr hok
    go_enter Tryd.func20, Tryd.ntmps20
    go_wp2_with fail
    refine (HOk.out _ _ (Recs.is_stay HI.out (Nat.le_refl _) HB0.out) (Flds.signs_below HSg.out HB0.out hsg)).mono ?_
    rintro e W2 ⟨rfl, hb2⟩
    have HB2 := Num.hide (HB0.out.trans (hb2.mono HB0.out.size))
    clear hb2 HOk
    go_wp2
    go_ret
    exact ⟨rfl, HB2.out⟩
  | true =>
    obtain ⟨⟨h1, h1'⟩, h2, h3, h4⟩ := resp_parts hok
    have HDc := Num.hide (fun W hT => Dec.impl_any st W (by omega) (by omega) hT)
    have HRs := Num.hide (fun W => reason_impl_b st W)
    have HHb := Num.hide (fun W => hasBody_impl st W)
    have HTb := Num.hide hT
    have hsr : showResp st l b = respText st l b := by unfold showResp; rw [if_pos hok]
    rw [hsr]
    obtain ⟨r, hr⟩ : ∃ r, respText st l b = r := ⟨_, rfl⟩
    rw [hr]
    unfold respText at hr
    rw [hok] at HOk
    have hdz : (decB st).size ≤ 20 := by rw [(dec_status st h1 h1').1]; omega
    have hrz : (reason st).size ≤ 40 := (reason_none st).2
    have hdd : (⟨(Lib.itoa st).toArray⟩ : ByteArray) = decB st := rfl
    rw [hdd] at HDc
    clear hdd hT
    generalize decB st = D at HDc hr hdz
    generalize reason st = R at HRs hr hrz
    have f1 : ¬ 9223372036854775807 < 9 + D.size := by omega
    have f2 : ¬ 9223372036854775807 < 9 + D.size + 1 := by omega
    have f3 : ¬ 9223372036854775807 < 9 + D.size + 1 + R.size := by omega
    have f4 : ¬ 9223372036854775807 < 9 + D.size + 1 + R.size + 2 := by omega
    by_cases h24 : st ≠ 204 ∧ st ≠ 304
    · have hrf : respFields st l b = framed l b := if_pos h24
      rw [hrf] at hr
      have hfo := ok_framed h2 b h3
      have hsm := shown_small hfo
      have HSh := Num.hide (fun v W h hS => Flds.show_impl v (framed l b) W h (ok_bulk hfo) hS)
      have HF := Num.hide (fun W h (hT : Dec.Tab W) => length_impl (.slice a l.length c) l b W h hl h3 hT)
      rw [set_plain h2] at HF
      generalize Flds.shown (framed l b) = S at HSh hr hsm
      have HR := Num.hide hr
      rw [decide_eq_true h24] at HHb
      have f5 : ¬ 9223372036854775807 < 9 + D.size + 1 + R.size + 2 + S.size := by omega
      have f6 : ¬ 9223372036854775807 < 9 + D.size + 1 + R.size + 2 + S.size + b.size := by omega
      clear hr hok h2 h4 hfo hsr hrf h24
      go_enter Tryd.func20, Tryd.ntmps20
      go_wp2_with fail
      refine (HOk.out _ _ (Recs.is_stay HI.out (Nat.le_refl _) HB0.out) (Flds.signs_below HSg.out HB0.out hsg)).mono ?_
      rintro e W2 ⟨rfl, hb2⟩
      have HK := Num.hide (Tri.first w _ _ _ _ hb2)
      obtain ⟨g0, g1, g2, _⟩ := HK.out
      clear hb2 HOk
      go_upto_region 3 with fail
      refine wp_region_held_drew (S := Tri w (.int .i64 st) (.slice a l.length c) (.string b)) (by kernel_rfl) HK.out.drew (fun hHeld => ?_)
      clear g0 g1 g2
      refine Reg.take (i := 0) (d := 7) (v := ?_) rfl rfl (by kernel_rfl) (by kernel_rfl) (by kernel_rfl) (fun _ _ _ h => h) (by rfl) ?_ hHeld ?_
      rotate_left
      · rintro W ⟨g0, g1, g2, g3⟩
        first | (go_simp; done) | (go_simp; with_reducible rfl)
      simp only [Act.put, List.setIfInBounds_toArray, List.set_cons_zero, List.set_cons_succ]
      refine Reg.take (i := 1) (d := 8) (v := ?_) rfl rfl (by kernel_rfl) (by kernel_rfl) (by kernel_rfl) (fun _ _ _ h => h) (by rfl) ?_ hHeld ?_
      rotate_left
      · rintro W ⟨g0, g1, g2, g3⟩
        first | (go_simp; done) | (go_simp; with_reducible rfl)
      simp only [Act.put, List.setIfInBounds_toArray, List.set_cons_zero, List.set_cons_succ]
      refine Reg.take (i := 5) (d := 12) (v := ?_) rfl rfl (by kernel_rfl) (by kernel_rfl) (by kernel_rfl) (fun _ _ _ h => h) (by rfl) ?_ hHeld ?_
      rotate_left
      · rintro W ⟨g0, g1, g2, g3⟩
        first | (go_simp; done) | (go_simp; with_reducible rfl)
      simp only [Act.put, List.setIfInBounds_toArray, List.set_cons_zero, List.set_cons_succ]
      refine Reg.take (i := 6) (d := 13) (v := ?_) rfl rfl (by kernel_rfl) (by kernel_rfl) (by kernel_rfl) (fun _ _ _ h => h) (by rfl) ?_ hHeld ?_
      rotate_left
      · rintro W ⟨g0, g1, g2, g3⟩
        first | (go_simp; done) | (go_simp; with_reducible rfl)
      simp only [Act.put, List.setIfInBounds_toArray, List.set_cons_zero, List.set_cons_succ]
      refine Reg.call (i := 2) rfl (by kernel_rfl) (by rfl) (fun K hK => ?_)
      go_wp2_with (first | (go_at_call 38; refine (HDc.out _ (HTb.out.below hHeld.2.2.2)).mono ?_; rintro e W3 ⟨rfl, hb3⟩))
      have HB3 := Num.hide hb3
      clear hb3
      refine hK.out _ _ ?_ (fun hHeld2 => ?_)
      · exact Tri.step hHeld HB3.out
      clear hK K
      replace hHeld := hHeld2
      clear hHeld2
      refine Reg.take (i := 3) (d := 10) (v := ?_) rfl rfl (by kernel_rfl) (by kernel_rfl) (by kernel_rfl) (fun _ _ _ h => h) (by rfl) ?_ hHeld ?_
      rotate_left
      · rintro W ⟨g0, g1, g2, g3⟩
        first | (go_simp; done) | (go_simp; with_reducible rfl)
      simp only [Act.put, List.setIfInBounds_toArray, List.set_cons_zero, List.set_cons_succ]
      refine Reg.take (i := 4) (d := 11) (v := ?_) rfl rfl (by kernel_rfl) (by kernel_rfl) (by kernel_rfl) (fun _ _ _ h => h) (by rfl) ?_ hHeld ?_
      rotate_left
      · rintro W ⟨g0, g1, g2, g3⟩
        first | (go_simp; done) | (go_simp; with_reducible rfl)
      simp only [Act.put, List.setIfInBounds_toArray, List.set_cons_zero, List.set_cons_succ]
      refine Reg.call (i := 7) rfl (by kernel_rfl) (by rfl) (fun K hK => ?_)
      go_wp2_with (first | (go_at_call 39; refine (HRs.out _).mono ?_; rintro e W4 ⟨rfl, hb4⟩))
      have HB4 := Num.hide hb4
      clear hb4
      refine hK.out _ _ ?_ (fun hHeld2 => ?_)
      · exact Tri.step hHeld HB4.out
      clear hK K
      replace hHeld := hHeld2
      clear hHeld2
      refine Reg.take (i := 8) (d := 15) (v := ?_) rfl rfl (by kernel_rfl) (by kernel_rfl) (by kernel_rfl) (fun _ _ _ h => h) (by rfl) ?_ hHeld ?_
      rotate_left
      · rintro W ⟨g0, g1, g2, g3⟩
        first | (go_simp; done) | (go_simp; with_reducible rfl)
      simp only [Act.put, List.setIfInBounds_toArray, List.set_cons_zero, List.set_cons_succ]
      refine Reg.take (i := 9) (d := 16) (v := ?_) rfl rfl (by kernel_rfl) (by kernel_rfl) (by kernel_rfl) (fun _ _ _ h => h) (by rfl) ?_ hHeld ?_
      rotate_left
      · rintro W ⟨g0, g1, g2, g3⟩
        first | (go_simp; done) | (go_simp; with_reducible rfl)
      simp only [Act.put, List.setIfInBounds_toArray, List.set_cons_zero, List.set_cons_succ]
      refine Reg.take (i := 10) (d := 3) (v := ?_) rfl rfl (by kernel_rfl) (by kernel_rfl) (by kernel_rfl) (fun _ _ _ h => h) (by rfl) ?_ hHeld ?_
      rotate_left
      · rintro W ⟨g0, g1, g2, g3⟩
        first | (go_simp; done) | (go_simp; with_reducible rfl)
      simp only [Act.put, List.setIfInBounds_toArray, List.set_cons_zero, List.set_cons_succ]
      refine wpAnyH_done (by kernel_rfl) ?_ _
      have HK2 := Num.hide hHeld
      obtain ⟨g0, g1, g2, _⟩ := HK2.out
      clear hHeld HK
      go_wp2_with fail
      refine (HHb.out _).mono ?_
      rintro e W6 ⟨rfl, rfl⟩
      go_upto_region 6 with fail
      refine wp_region_held_drew (S := Tri w (.int .i64 st) (.slice a l.length c) (.string b)) (by kernel_rfl) HK2.out.drew (fun hHeld => ?_)
      clear g0 g1 g2
      refine Reg.take (i := 0) (d := 26) (v := ?_) rfl rfl (by kernel_rfl) (by kernel_rfl) (by kernel_rfl) (fun _ _ _ h => h) (by rfl) ?_ hHeld ?_
      rotate_left
      · rintro W ⟨g0, g1, g2, g3⟩
        first | (go_simp; done) | (go_simp; with_reducible rfl)
      simp only [Act.put, List.setIfInBounds_toArray, List.set_cons_zero, List.set_cons_succ]
      refine Reg.take (i := 1) (d := 27) (v := ?_) rfl rfl (by kernel_rfl) (by kernel_rfl) (by kernel_rfl) (fun _ _ _ h => h) (by rfl) ?_ hHeld ?_
      rotate_left
      · rintro W ⟨g0, g1, g2, g3⟩
        first | (go_simp; done) | (go_simp; with_reducible rfl)
      simp only [Act.put, List.setIfInBounds_toArray, List.set_cons_zero, List.set_cons_succ]
      refine Reg.take (i := 2) (d := 28) (v := ?_) rfl rfl (by kernel_rfl) (by kernel_rfl) (by kernel_rfl) (fun _ _ _ h => h) (by rfl) ?_ hHeld ?_
      rotate_left
      · rintro W ⟨g0, g1, g2, g3⟩
        first | (go_simp; done) | (go_simp; with_reducible rfl)
      simp only [Act.put, List.setIfInBounds_toArray, List.set_cons_zero, List.set_cons_succ]
      refine Reg.take (i := 3) (d := 29) (v := ?_) rfl rfl (by kernel_rfl) (by kernel_rfl) (by kernel_rfl) (fun _ _ _ h => h) (by rfl) ?_ hHeld ?_
      rotate_left
      · rintro W ⟨g0, g1, g2, g3⟩
        first | (go_simp; done) | (go_simp; with_reducible rfl)
      simp only [Act.put, List.setIfInBounds_toArray, List.set_cons_zero, List.set_cons_succ]
      refine Reg.take (i := 4) (d := 30) (v := ?_) rfl rfl (by kernel_rfl) (by kernel_rfl) (by kernel_rfl) (fun _ _ _ h => h) (by rfl) ?_ hHeld ?_
      rotate_left
      · rintro W ⟨g0, g1, g2, g3⟩
        first | (go_simp; done) | (go_simp; with_reducible rfl)
      simp only [Act.put, List.setIfInBounds_toArray, List.set_cons_zero, List.set_cons_succ]
      refine Reg.take (i := 8) (d := 34) (v := ?_) rfl rfl (by kernel_rfl) (by kernel_rfl) (by kernel_rfl) (fun _ _ _ h => h) (by rfl) ?_ hHeld ?_
      rotate_left
      · rintro W ⟨g0, g1, g2, g3⟩
        first | (go_simp; done) | (go_simp; with_reducible rfl)
      simp only [Act.put, List.setIfInBounds_toArray, List.set_cons_zero, List.set_cons_succ]
      refine Reg.take (i := 9) (d := 35) (v := ?_) rfl rfl (by kernel_rfl) (by kernel_rfl) (by kernel_rfl) (fun _ _ _ h => h) (by rfl) ?_ hHeld ?_
      rotate_left
      · rintro W ⟨g0, g1, g2, g3⟩
        first | (go_simp; done) | (go_simp; with_reducible rfl)
      simp only [Act.put, List.setIfInBounds_toArray, List.set_cons_zero, List.set_cons_succ]
      refine Reg.call (i := 5) rfl (by kernel_rfl) (by rfl) (fun K hK => ?_)
      go_wp2_with (first | (go_at_call 33; refine (HF.out _ (Recs.is_stay HI.out (Nat.le_refl _) hHeld.2.2.2) (HTb.out.below hHeld.2.2.2)).mono ?_; rintro e W7 ⟨v7, rfl, ho7, hb7⟩))
      have HO7 := Num.hide ho7
      have HB7 := Num.hide hb7
      clear hb7 ho7
      refine hK.out _ _ ?_ (fun hHeld2 => ?_)
      · exact Tri.step hHeld HB7.out
      clear hK K
      replace hHeld := hHeld2
      clear hHeld2
      refine Reg.call (i := 6) rfl (by kernel_rfl) (by rfl) (fun K hK => ?_)
      go_wp2_with (first | (go_at_call 32; refine (HSh.out v7 _ (Recs.own_is Flds.cells_len HO7.out) (Flds.signs_below HSg.out hHeld.2.2.2 hsg)).mono ?_; rintro e W8 ⟨rfl, hb8⟩))
      have HB8 := Num.hide hb8
      clear hb8
      refine hK.out _ _ ?_ (fun hHeld2 => ?_)
      · exact Tri.step hHeld HB8.out
      clear hK K
      replace hHeld := hHeld2
      clear hHeld2
      refine Reg.take (i := 7) (d := 33) (v := ?_) rfl rfl (by kernel_rfl) (by kernel_rfl) (by kernel_rfl) (fun _ _ _ h => h) (by rfl) ?_ hHeld ?_
      rotate_left
      · rintro W ⟨g0, g1, g2, g3⟩
        first | (go_simp; done) | (go_simp; with_reducible rfl)
      simp only [Act.put, List.setIfInBounds_toArray, List.set_cons_zero, List.set_cons_succ]
      refine Reg.take (i := 10) (d := 36) (v := ?_) rfl rfl (by kernel_rfl) (by kernel_rfl) (by kernel_rfl) (fun _ _ _ h => h) (by rfl) ?_ hHeld ?_
      rotate_left
      · rintro W ⟨g0, g1, g2, g3⟩
        first | (go_simp; done) | (go_simp; with_reducible rfl)
      simp only [Act.put, List.setIfInBounds_toArray, List.set_cons_zero, List.set_cons_succ]
      refine Reg.take (i := 11) (d := 2) (v := ?_) rfl rfl (by kernel_rfl) (by kernel_rfl) (by kernel_rfl) (fun _ _ _ h => h) (by rfl) ?_ hHeld ?_
      rotate_left
      · rintro W ⟨g0, g1, g2, g3⟩
        first | (go_simp; done) | (go_simp; with_reducible rfl)
      simp only [Act.put, List.setIfInBounds_toArray, List.set_cons_zero, List.set_cons_succ]
      refine wpAnyH_done (by kernel_rfl) ?_ _
      have HH := Num.hide hHeld.2.2.2
      have hr := HR.out
      subst hr
      go_wp2
      go_ret
      exact ⟨rfl, HH.out⟩
    · have hrf : respFields st l b = l := if_neg h24
      rw [hrf] at hr
      have hb0 : b = ⟨#[]⟩ := h4.resolve_left h24
      have hlo : Flds.ok l = true := (plain_parts h2).2.2.2
      have hsm := shown_small hlo
      have HSh := Num.hide (fun v W h hS => Flds.show_impl v l W h hl hS)
      generalize Flds.shown l = S at HSh hr hsm
      have hr2 : ⟨#[72, 84, 84, 80, 47, 49, 46, 49, 32]⟩ ++ D ++ ⟨#[32]⟩ ++ R ++ ⟨#[13, 10]⟩ ++ S = r := by rw [← hr, hb0]; exact (ByteArray.append_empty).symm
      have HR := Num.hide hr2
      rw [decide_eq_false h24] at HHb
      have f5 : ¬ 9223372036854775807 < 9 + D.size + 1 + R.size + 2 + S.size := by omega
      clear hr hr2 hok h2 h4 hlo hsr hrf h24 hb0
      go_enter Tryd.func20, Tryd.ntmps20
      go_wp2_with fail
      refine (HOk.out _ _ (Recs.is_stay HI.out (Nat.le_refl _) HB0.out) (Flds.signs_below HSg.out HB0.out hsg)).mono ?_
      rintro e W2 ⟨rfl, hb2⟩
      have HK := Num.hide (Tri.first w _ _ _ _ hb2)
      obtain ⟨g0, g1, g2, _⟩ := HK.out
      clear hb2 HOk
      go_upto_region 3 with fail
      refine wp_region_held_drew (S := Tri w (.int .i64 st) (.slice a l.length c) (.string b)) (by kernel_rfl) HK.out.drew (fun hHeld => ?_)
      clear g0 g1 g2
      refine Reg.take (i := 0) (d := 7) (v := ?_) rfl rfl (by kernel_rfl) (by kernel_rfl) (by kernel_rfl) (fun _ _ _ h => h) (by rfl) ?_ hHeld ?_
      rotate_left
      · rintro W ⟨g0, g1, g2, g3⟩
        first | (go_simp; done) | (go_simp; with_reducible rfl)
      simp only [Act.put, List.setIfInBounds_toArray, List.set_cons_zero, List.set_cons_succ]
      refine Reg.take (i := 1) (d := 8) (v := ?_) rfl rfl (by kernel_rfl) (by kernel_rfl) (by kernel_rfl) (fun _ _ _ h => h) (by rfl) ?_ hHeld ?_
      rotate_left
      · rintro W ⟨g0, g1, g2, g3⟩
        first | (go_simp; done) | (go_simp; with_reducible rfl)
      simp only [Act.put, List.setIfInBounds_toArray, List.set_cons_zero, List.set_cons_succ]
      refine Reg.take (i := 5) (d := 12) (v := ?_) rfl rfl (by kernel_rfl) (by kernel_rfl) (by kernel_rfl) (fun _ _ _ h => h) (by rfl) ?_ hHeld ?_
      rotate_left
      · rintro W ⟨g0, g1, g2, g3⟩
        first | (go_simp; done) | (go_simp; with_reducible rfl)
      simp only [Act.put, List.setIfInBounds_toArray, List.set_cons_zero, List.set_cons_succ]
      refine Reg.take (i := 6) (d := 13) (v := ?_) rfl rfl (by kernel_rfl) (by kernel_rfl) (by kernel_rfl) (fun _ _ _ h => h) (by rfl) ?_ hHeld ?_
      rotate_left
      · rintro W ⟨g0, g1, g2, g3⟩
        first | (go_simp; done) | (go_simp; with_reducible rfl)
      simp only [Act.put, List.setIfInBounds_toArray, List.set_cons_zero, List.set_cons_succ]
      refine Reg.call (i := 2) rfl (by kernel_rfl) (by rfl) (fun K hK => ?_)
      go_wp2_with (first | (go_at_call 38; refine (HDc.out _ (HTb.out.below hHeld.2.2.2)).mono ?_; rintro e W3 ⟨rfl, hb3⟩))
      have HB3 := Num.hide hb3
      clear hb3
      refine hK.out _ _ ?_ (fun hHeld2 => ?_)
      · exact Tri.step hHeld HB3.out
      clear hK K
      replace hHeld := hHeld2
      clear hHeld2
      refine Reg.take (i := 3) (d := 10) (v := ?_) rfl rfl (by kernel_rfl) (by kernel_rfl) (by kernel_rfl) (fun _ _ _ h => h) (by rfl) ?_ hHeld ?_
      rotate_left
      · rintro W ⟨g0, g1, g2, g3⟩
        first | (go_simp; done) | (go_simp; with_reducible rfl)
      simp only [Act.put, List.setIfInBounds_toArray, List.set_cons_zero, List.set_cons_succ]
      refine Reg.take (i := 4) (d := 11) (v := ?_) rfl rfl (by kernel_rfl) (by kernel_rfl) (by kernel_rfl) (fun _ _ _ h => h) (by rfl) ?_ hHeld ?_
      rotate_left
      · rintro W ⟨g0, g1, g2, g3⟩
        first | (go_simp; done) | (go_simp; with_reducible rfl)
      simp only [Act.put, List.setIfInBounds_toArray, List.set_cons_zero, List.set_cons_succ]
      refine Reg.call (i := 7) rfl (by kernel_rfl) (by rfl) (fun K hK => ?_)
      go_wp2_with (first | (go_at_call 39; refine (HRs.out _).mono ?_; rintro e W4 ⟨rfl, hb4⟩))
      have HB4 := Num.hide hb4
      clear hb4
      refine hK.out _ _ ?_ (fun hHeld2 => ?_)
      · exact Tri.step hHeld HB4.out
      clear hK K
      replace hHeld := hHeld2
      clear hHeld2
      refine Reg.take (i := 8) (d := 15) (v := ?_) rfl rfl (by kernel_rfl) (by kernel_rfl) (by kernel_rfl) (fun _ _ _ h => h) (by rfl) ?_ hHeld ?_
      rotate_left
      · rintro W ⟨g0, g1, g2, g3⟩
        first | (go_simp; done) | (go_simp; with_reducible rfl)
      simp only [Act.put, List.setIfInBounds_toArray, List.set_cons_zero, List.set_cons_succ]
      refine Reg.take (i := 9) (d := 16) (v := ?_) rfl rfl (by kernel_rfl) (by kernel_rfl) (by kernel_rfl) (fun _ _ _ h => h) (by rfl) ?_ hHeld ?_
      rotate_left
      · rintro W ⟨g0, g1, g2, g3⟩
        first | (go_simp; done) | (go_simp; with_reducible rfl)
      simp only [Act.put, List.setIfInBounds_toArray, List.set_cons_zero, List.set_cons_succ]
      refine Reg.take (i := 10) (d := 3) (v := ?_) rfl rfl (by kernel_rfl) (by kernel_rfl) (by kernel_rfl) (fun _ _ _ h => h) (by rfl) ?_ hHeld ?_
      rotate_left
      · rintro W ⟨g0, g1, g2, g3⟩
        first | (go_simp; done) | (go_simp; with_reducible rfl)
      simp only [Act.put, List.setIfInBounds_toArray, List.set_cons_zero, List.set_cons_succ]
      refine wpAnyH_done (by kernel_rfl) ?_ _
      have HK2 := Num.hide hHeld
      obtain ⟨g0, g1, g2, _⟩ := HK2.out
      clear hHeld HK
      go_wp2_with fail
      refine (HHb.out _).mono ?_
      rintro e W6 ⟨rfl, rfl⟩
      go_wp2_with fail
      refine (HSh.out _ _ (Recs.is_stay HI.out (Nat.le_refl _) HK2.out.2.2.2) (Flds.signs_below HSg.out HK2.out.2.2.2 hsg)).mono ?_
      rintro e W7 ⟨rfl, hb7⟩
      have HH := Num.hide (HK2.out.2.2.2.trans (hb7.mono HK2.out.2.2.2.size))
      have hr := HR.out
      subst hr
      clear hb7
      go_wp2
      go_ret
      exact ⟨rfl, HH.out⟩
end Msg
end Go.Proofs.YtmiahdiadlnijaaDoor
