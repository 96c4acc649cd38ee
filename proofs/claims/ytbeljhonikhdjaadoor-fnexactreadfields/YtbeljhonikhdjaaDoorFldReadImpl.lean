/-
  ReadFields of the program: fields read off a text, in a row of the call's own; what was there stays.
-/
import Derived.Test.YtbeljhonikhdjaaDoorFldChsT
import Derived.Test.YtbeljhonikhdjaaDoorFldOkImpl
namespace Go.Proofs.YtbeljhonikhdjaaDoor
open Go.RowKit
set_option linter.unusedVariables false
namespace Flds

/-- sizes of the fields of lines -/
theorem fld_small {L : List ByteArray} (h : ∀ t ∈ L, t.size ≤ 1048576) : ∀ f ∈ L.filterMap fieldAt, f.1.size ≤ 1048576 ∧ f.2.size ≤ 1048576 := by
  intro f hf
  obtain ⟨t, ht, he⟩ := List.mem_filterMap.1 hf
  unfold fieldAt at he
  obtain ⟨k, hk, rfl⟩ := Option.map_eq_some_iff.1 he
  have := h t ht
  unfold fieldOf
  refine ⟨by show (Sign.lower _).size ≤ _; rw [Sign.size_lower, ByteArray.size_extract]; omega, ?_⟩
  have h2 := Sign.trim_size (t.extract (k + 1) t.size)
  rw [ByteArray.size_extract] at h2
  show (Sign.trim _).size ≤ _
  omega
/-- what is told, by the lines -/
theorem told_bad {s : ByteArray} {L : List ByteArray} {n : Nat} (h : lines s = some (L, n)) (hg : L.all good = false) : readL s = [] ∧ readN s = 0 ∧ readB s = false :=
  told_none (by rw [read_of_lines, h]; simp only [Option.bind_some]; rw [if_neg (by rw [hg]; decide)])
theorem told_good {s : ByteArray} {L : List ByteArray} {n : Nat} (h : lines s = some (L, n)) (hg : L.all good = true) : readL s = L.filterMap fieldAt ∧ readN s = (n : Int) ∧ readB s = true :=
  told_some (by rw [read_of_lines, h]; simp only [Option.bind_some]; rw [if_pos hg])
set_option maxRecDepth 100000 in
set_option maxHeartbeats 2000000 in
theorem read_impl (s : ByteArray) (w : World) (hs : s.size ≤ 1048576) (hS : Sign.Signs w) (hm : Lim w) :
    Calls Tryd.prog 16 #[.string s] w fun e w' => ∃ v', e = .returned (.tuple #[v', .int .i64 (readN s), .bool (readB s)]) ∧ Own w.heap.size w' v' (readL s) ∧ Below w.heap.size w w' := by
  have HLn := Num.hide (lines_impl s w hs hm)
  have HM := Num.hide hm
  have HSg := Num.hide hS
  have hlm := lim_lt hm
  have hsg := signs_lt hS
  clear hm hS
  cases hl : lines s with
  | none =>
    obtain ⟨e1, e2, e3⟩ := ln_told_none hl
    obtain ⟨g1, g2, g3⟩ := told_none (s := s) (by rw [read_of_lines, hl]; rfl)
    rw [g1, g2, g3]
    rw [e1, e2, e3] at HLn
    clear e1 e2 e3 g1 g2 g3 hl
    go_enter Tryd.func16, Tryd.ntmps16
    go_wp2_with fail
    refine HLn.out.mono ?_
    rintro e w1 ⟨v, rfl, ho, hb⟩
    have HB := Num.hide hb
    clear ho hb
    go_wp2
    go_ret3
    exact ⟨_, rfl, Recs.own_nil _ _, HB.out⟩
  | some p =>
    obtain ⟨L, n⟩ := p
    obtain ⟨e1, e2, e3⟩ := ln_told_some hl
    rw [e1, e2, e3] at HLn
    obtain ⟨hn, hz0⟩ := linesGo_len s _ _ _ hl
    simp only at hn hz0
    have hz : ∀ t ∈ L, t.size ≤ 1048576 := fun t ht => Nat.le_trans (hz0 t ht) hs
    have HZ := Num.hide hz
    have HFs := Num.hide (fun v W h hm => fieldsOf_any v L W h (by omega) HZ.out hm)
    have HOk := Num.hide (fun v W h hS => ok_impl v (L.filterMap fieldAt) W h (fun f hf => by have := fld_small HZ.out f hf; unfold maxLen; omega) hS)
    have hfl := flt_len L
    have hent : ∀ args W, (callFunc 42 args).run Tryd.prog W = .ok (.enter 42 args) W := enters_of Tryd.func42 (by kernel_rfl) rfl
    by_cases hsh : (L.filterMap fieldAt).length < L.length
    · obtain ⟨g1, g2, g3⟩ := told_bad hl (good_short L hsh)
      rw [g1, g2, g3]
      clear e1 e2 e3 g1 g2 g3 hl hz hz0 HOk
      generalize L.filterMap fieldAt = F at HFs hsh hfl
      go_enter Tryd.func16, Tryd.ntmps16
      go_wp2_with fail
      refine HLn.out.mono ?_
      rintro e w1 ⟨v, rfl, ho, hb⟩
      obtain ⟨va, vc, hv⟩ := Strs.own_len ho
      subst hv
      have HB := Num.hide hb
      have HO := Num.hide ho
      clear ho hb HLn
      go_wp2_with fail
      refine (HFs.out _ _ (Strs.own_is HO.out) (lim_below HM.out HB.out hlm)).mono ?_
      rintro e w2 ⟨u, rfl, ho2, hb2⟩
      obtain ⟨ua, uc, hu⟩ := Recs.own_len ho2
      subst hu
      have HB2 := Num.hide (HB.out.trans (hb2.mono HB.out.size))
      clear ho2 hb2
      go_wp2
      go_ret3
      exact ⟨_, rfl, Recs.own_nil _ _, HB2.out⟩
    · have hg := good_full L hsh
      have hok : ok (L.filterMap fieldAt) = L.all good := by
        unfold ok
        rw [← hg, decide_eq_true (by omega : (L.filterMap fieldAt).length ≤ 12), Bool.and_true]
      rw [hok] at HOk
      have hfe : decide (((L.filterMap fieldAt).length : Int) < (L.length : Int)) = false := by rw [decide_eq_false_iff_not]; omega
      cases hga : L.all good with
      | false =>
        obtain ⟨g1, g2, g3⟩ := told_bad hl hga
        rw [g1, g2, g3]
        rw [hga] at HOk
        clear e1 e2 e3 g1 g2 g3 hl hz hz0 hg hok hga
        generalize L.filterMap fieldAt = F at HFs hsh hfl hfe HOk
        go_enter Tryd.func16, Tryd.ntmps16
        go_wp2_with fail
        refine HLn.out.mono ?_
        rintro e w1 ⟨v, rfl, ho, hb⟩
        obtain ⟨va, vc, hv⟩ := Strs.own_len ho
        subst hv
        have HB := Num.hide hb
        have HO := Num.hide ho
        clear ho hb HLn
        go_wp2_with fail
        refine (HFs.out _ _ (Strs.own_is HO.out) (lim_below HM.out HB.out hlm)).mono ?_
        rintro e w2 ⟨u, rfl, ho2, hb2⟩
        obtain ⟨ua, uc, hu⟩ := Recs.own_len ho2
        subst hu
        have HB2 := Num.hide (HB.out.trans (hb2.mono HB.out.size))
        have HO2 := Num.hide ho2
        clear ho2 hb2
        go_wp2_with fail
        refine (HOk.out _ _ (Recs.own_is cells_len HO2.out) (signs_below HSg.out HB2.out hsg)).mono ?_
        rintro e w3 ⟨rfl, hb3⟩
        have HB3 := Num.hide (HB2.out.trans (hb3.mono HB2.out.size))
        clear hb3
        go_wp2
        go_ret3
        exact ⟨_, rfl, Recs.own_nil _ _, HB3.out⟩
      | true =>
        obtain ⟨g1, g2, g3⟩ := told_good hl hga
        rw [g1, g2, g3]
        rw [hga] at HOk
        clear e1 e2 e3 g1 g2 g3 hl hz hz0 hg hok hga
        generalize L.filterMap fieldAt = F at HFs hsh hfl hfe HOk
        go_enter Tryd.func16, Tryd.ntmps16
        go_wp2_with fail
        refine HLn.out.mono ?_
        rintro e w1 ⟨v, rfl, ho, hb⟩
        obtain ⟨va, vc, hv⟩ := Strs.own_len ho
        subst hv
        have HB := Num.hide hb
        have HO := Num.hide ho
        clear ho hb HLn
        go_wp2_with fail
        refine (HFs.out _ _ (Strs.own_is HO.out) (lim_below HM.out HB.out hlm)).mono ?_
        rintro e w2 ⟨u, rfl, ho2, hb2⟩
        obtain ⟨ua, uc, hu⟩ := Recs.own_len ho2
        subst hu
        have HB2 := Num.hide (HB.out.trans (hb2.mono HB.out.size))
        have HO2 := Num.hide (Recs.own_mono ho2 HB.out.size)
        clear ho2 hb2
        go_wp2_with fail
        refine (HOk.out _ _ (Recs.own_is cells_len HO2.out) (signs_below HSg.out HB2.out hsg)).mono ?_
        rintro e w3 ⟨rfl, hb3⟩
        have HB3 := Num.hide (HB2.out.trans (hb3.mono HB2.out.size))
        have HO3 := Num.hide (Recs.own_below HO2.out hb3)
        clear hb3
        go_wp2
        go_ret3
        exact ⟨_, rfl, HO3.out, HB3.out⟩
end Flds
end Go.Proofs.YtbeljhonikhdjaaDoor
