/-
  CcWalk: FnDirectives: names are small; a number is the least that is said; what stands twice counts once: for every draw.
-/
import Derived.Test.YtanimnjiolgknaaDoorQak
import Derived.Test.YtanimnjiolgknaaDoorQan
import Derived.Test.YtanimnjiolgknaaDoorQap
namespace Go.Proofs.YtanimnjiolgknaaDoor
open Go.RowKit
set_option linter.unusedVariables false
namespace Cc
open Flds (Fld)
open Draw (CodeAt Few AllSaid drawCc big_any)

/-- the memory within the law -/
structure Cw (w : World) (lv dv : Value) (l d : List Fld) (W : World) : Prop where
  flds : Flds.Own w.heap.size W lv l
  dirs : Dirs.Own w.heap.size W dv d
  below : Below w.heap.size w W
  signs : Sign.Signs W
  lim : Lim W
theorem Cw.step {w : World} {lv dv : Value} {l d : List Fld} {W W' : World} (h : Cw w lv dv l d W) (hb : Below W.heap.size W W') : Cw w lv dv l d W' :=
  ⟨Recs.own_below h.flds hb, Recs.own_below h.dirs hb, h.below.trans (hb.mono h.below.size), signs_below h.signs hb (signs_lt h.signs), lim_below h.lim hb (lim_lt h.lim)⟩
theorem strings_ok (l : List Fld) : ∀ u ∈ l.flatMap Flds.cells, u.oneCell' = true := by
  intro u hu
  obtain ⟨f, _, hf⟩ := List.mem_flatMap.1 hu
  unfold Flds.cells at hf
  simp at hf
  rcases hf with rfl | rfl <;> rfl
theorem own_two {B : Nat} {w : World} {v : Value} {l m : List Fld} (h : w.ownsRow B 61 2 v (l.length + m.length) (l.flatMap Flds.cells ++ m.flatMap Flds.cells)) : Flds.Own B w v (l ++ m) := by
  unfold Flds.Own Recs.Own
  rw [List.length_append, List.flatMap_append]
  exact h
theorem few_two {n : Nat} {l : List Fld} (h : Few n l) : Few (n + n) (l ++ l) :=
  ⟨by rw [List.length_append]; have := h.len; omega, fun f hf => by rcases List.mem_append.1 hf with h1 | h1 <;> exact h.small f h1⟩
theorem sec_at (d : List Fld) (name : ByteArray) (i : Nat) (hi : i < d.length) (h : d[i].1 = name) : (sec d name).2 = true ∧ (sec d name).1 ≤ (Sign.secs d[i].2).1 := by
  obtain ⟨c, h1, h2⟩ := least_some d name i hi h
  unfold sec
  rw [h1]
  exact ⟨rfl, h2⟩
theorem sec_bd (d : List Fld) (name : ByteArray) : 0 ≤ (sec d name).1 ∧ (sec d name).1 ≤ 2147483648 := by
  unfold sec
  cases h : least d name with
  | none => exact ⟨Int.le_refl _, by decide⟩
  | some c => exact least_bd d name c h

set_option maxRecDepth 100000 in
set_option maxHeartbeats 8000000 in
theorem cc_law (a : Option Addr) (cap : Nat) (code : List Int) (w : World) (hcode : CodeAt w.heap.size w a code) (hl : code.length ≤ 1048576) (hS : Sign.Signs w) (hm : Lim w) :
    Calls Tryd.prog 3 #[.slice a code.length cap] w fun e w' => e = .returned (.bool true) ∧ Below w.heap.size w w' := by
  have HC := Num.hide hcode
  have HSg := Num.hide hS
  have HLm := Num.hide hm
  have hsg := signs_lt hS
  have hlm := lim_lt hm
  have HBg := Num.hide (fun W => big_any a code.length cap W (by omega))
  rw [decide_eq_false (by omega : ¬ (1048576 < (code.length : Int)))] at HBg
  obtain ⟨i0, hi0, hz0, hz1, hz2⟩ := info_parts Flds.infoF
  clear hcode hS hm
  go_enter Tryd.func3, Tryd.ntmps3
  go_wp2_with fail
  refine (HBg.out _).mono ?_
  rintro e w0 ⟨rfl, rfl⟩
  go_wp2_with fail
  refine (drawCc cap a code w HC.out hl).mono ?_
  rintro e W1 ⟨v, l, nm, rfl, ho, hf, hs, hg, hx, hb⟩
  obtain ⟨g, c, rfl⟩ := hg
  have hbk := hf.bulk (by omega)
  have hbk2 := (few_two hf).bulk (by omega)
  have hlen := hf.len
  have hdl := dirs_len l
  have hds := dirs_small l
  have hlow := dirs_small_names l
  have htw := dirs_twice l hs
  have HSI := Num.hide (fun v W h hm hS => sec_impl v l nm W h (by omega) (by omega) hm hS)
  have HSS := Num.hide (fun v W h => sec_spec v l nm W h (by omega))
  have HDI := Num.hide (fun v W h hm hS => dirs_impl v l W h (by omega) hm hS)
  have HDS := Num.hide (fun v W h => dirs_spec v l W h (by omega))
  have HTI := Num.hide (fun v W h hm hS => sec_impl v (l ++ l) nm W h (by omega) (by omega) hm hS)
  have HTD := Num.hide (fun v W h hm hS => dirs_impl v (l ++ l) W h (by omega) hm hS)
  have HHI := Num.hide (fun v W h hm hS => has_impl v l nm W h (by omega) (by omega) hm hS)
  have HHA := Num.hide (fun v x W h hx hm hS => has_impl v l x W h (by omega) hx hm hS)
  rw [htw, sec_twice] at HTI
  rw [htw] at HTD
  rw [← sec_two] at HHI
  have hdd : (dirs l ++ dirs l).length = 2 * (dirs l).length := by rw [List.length_append]; omega
  generalize dirs l ++ dirs l = D2 at HTD hdd
  have HW1 : Hid (Flds.Own w.heap.size W1 (.slice (some ⟨g, 0, none⟩) l.length c) l) := ho
  have HB1 := Num.hide hb
  have HG1 := Num.hide (signs_below HSg.out hb hsg)
  have HM1 := Num.hide (lim_below HLm.out hb hlm)
  generalize dirs l = D at HSI HSS HDI HDS HTI HHI HHA hdl hds hlow hdd
  have hsb := sec_bd D nm
  have HAt := Num.hide (sec_at D nm)
  generalize sec D nm = r at HSI HSS HTI HHI hsb HAt
  obtain ⟨n, b⟩ := r
  simp only at HSI HSS HTI HHI hsb HAt
  have HZ := Num.hide hds
  have HLo := Num.hide hlow
  clear hf hs ho hb htw hds hlow
  go_wp2_with fail
  refine (HSI.out _ _ (Recs.own_is Flds.cells_len HW1.out) HM1.out HG1.out).mono ?_
  rintro e W2 ⟨rfl, hb⟩
  have HW2 := Num.hide (Recs.own_below HW1.out hb)
  have HB2 := Num.hide (HB1.out.trans (hb.mono HB1.out.size))
  have HG2 := Num.hide (signs_below HG1.out hb (signs_lt HG1.out))
  have HM2 := Num.hide (lim_below HM1.out hb (lim_lt HM1.out))
  clear hb HW1 HB1 HG1 HM1
  go_wp2_with fail
  refine (HDI.out _ _ (Recs.own_is Flds.cells_len HW2.out) HM2.out HG2.out).mono ?_
  rintro e W3 ⟨dv, rfl, ho, hb⟩
  have HW : Hid (Cw w (.slice (some ⟨g, 0, none⟩) l.length c) dv l D W3) := ⟨Recs.own_below HW2.out hb, Recs.own_mono ho HB2.out.size, HB2.out.trans (hb.mono HB2.out.size), signs_below HG2.out hb (signs_lt HG2.out), lim_below HM2.out hb (lim_lt HM2.out)⟩
  obtain ⟨da, dc, rfl⟩ := Recs.own_len ho
  clear ho hb HW2 HB2 HG2 HM2
  go_wp2
  go_loopw [8] (fun iv wr => ∃ i : Nat, i ≤ D.length ∧ iv = .int .i64 (i : Int) ∧ Hid (Cw w (.slice (some ⟨g, 0, none⟩) l.length c) (.slice da D.length dc) l D wr)) (fun iv _ => D.length - (intOf iv).toNat)
  case atStart => exact ⟨0, by omega, rfl, HW⟩
  case round =>
    clear HW
    obtain ⟨i, hi, rfl, HW⟩ := hrel
    by_cases hlt : i < D.length
    · obtain ⟨a2, c2, h1, h2⟩ := Flds.is_form (Recs.own_is Flds.cells_len HW.out.dirs)
      obtain ⟨bk, o, rfl, h4, h5, h6, h7⟩ := h2 (by omega)
      simp only [Value.slice.injEq, true_and] at h1
      obtain ⟨rfl, rfl⟩ := h1
      obtain ⟨c1, c2⟩ := h7 i hlt
      have hz := HZ.out D[i] (List.getElem_mem hlt)
      have hlo := HLo.out D[i] (List.getElem_mem hlt)
      have HH := Num.hide (fun v W h hm hS => HHA.out v D[i].1 W h (by omega) hm hS)
      rw [has_hit D D[i].1 i hlt rfl] at HH
      have hat := fun h => HAt.out i hlt h
      have hLw := fun W => Sign.lower_impl D[i].1 W (by unfold maxLen; omega)
      rw [hlo] at hLw
      generalize D[i] = f at c1 c2 hz hlo HH hat hLw
      obtain ⟨x, y⟩ := f
      simp only at c1 c2 hz hlo HH hat hLw
      have HLw := Num.hide hLw
      have HHs := HH
      have HA := Num.hide hat
      have HSy := Num.hide (fun W => Sign.seconds_spec y W (by unfold maxLen; omega))
      generalize Sign.secs y = sc at HA HSy
      obtain ⟨k, kb⟩ := sc
      simp only at HA HSy
      clear hlo hat hLw h2 h7 HH
      go_wp2
      refine wp_region_held_drew (S := fun W => W.cell? ⟨bk, o + i * 2, none⟩ = some (.string x) ∧ W.cell? ⟨bk, o + i * 2 + 1, none⟩ = some (.string y) ∧ Cw w (.slice (some ⟨g, 0, none⟩) l.length c) (.slice (some ⟨bk, o, none⟩) D.length dc) l D W) (by kernel_rfl) ⟨c1, c2, HW.out.step (Below.refl _ _).drew⟩ (fun hHeld => ?_)
      refine Reg.take (i := 0) (d := 37) (v := ?_) rfl rfl (by kernel_rfl) (by kernel_rfl) (by kernel_rfl) (fun _ _ _ h => h) (by rfl) ?_ hHeld ?_
      rotate_left
      · rintro W ⟨h1, h2, h3⟩
        first | (go_simp; done) | (go_simp; with_reducible rfl)
      simp only [Act.put, List.setIfInBounds_toArray, List.set_cons_zero, List.set_cons_succ]
      refine Reg.take (i := 1) (d := 38) (v := ?_) rfl rfl (by kernel_rfl) (by kernel_rfl) (by kernel_rfl) (fun _ _ _ h => h) (by rfl) ?_ hHeld ?_
      rotate_left
      · rintro W ⟨h1, h2, h3⟩
        first | (go_simp; done) | (go_simp; with_reducible rfl)
      simp only [Act.put, List.setIfInBounds_toArray, List.set_cons_zero, List.set_cons_succ]
      refine Reg.take (i := 2) (d := 39) (v := ?_) rfl rfl (by kernel_rfl) (by kernel_rfl) (by kernel_rfl) (fun _ _ _ h => h) (by rfl) ?_ hHeld ?_
      rotate_left
      · rintro W ⟨h1, h2, h3⟩
        first | (go_simp; done) | (go_simp; with_reducible rfl)
      simp only [Act.put, List.setIfInBounds_toArray, List.set_cons_zero, List.set_cons_succ]
      refine Reg.take (i := 3) (d := 40) (v := ?_) rfl rfl (by kernel_rfl) (by kernel_rfl) (by kernel_rfl) (fun _ _ _ h => h) (by rfl) ?_ hHeld ?_
      rotate_left
      · rintro W ⟨h1, h2, h3⟩
        first | (go_simp; done) | (go_simp; with_reducible rfl)
      simp only [Act.put, List.setIfInBounds_toArray, List.set_cons_zero, List.set_cons_succ]
      refine Reg.take (i := 4) (d := 41) (v := ?_) rfl rfl (by kernel_rfl) (by kernel_rfl) (by kernel_rfl) (fun _ _ _ h => h) (by rfl) ?_ hHeld ?_
      rotate_left
      · rintro W ⟨h1, h2, h3⟩
        first | (go_simp; done) | (go_simp; with_reducible rfl)
      simp only [Act.put, List.setIfInBounds_toArray, List.set_cons_zero, List.set_cons_succ]
      refine Reg.take (i := 5) (d := 42) (v := ?_) rfl rfl (by kernel_rfl) (by kernel_rfl) (by kernel_rfl) (fun _ _ _ h => h) (by rfl) ?_ hHeld ?_
      rotate_left
      · rintro W ⟨h1, h2, h3⟩
        first | (go_simp; done) | (go_simp; with_reducible rfl)
      simp only [Act.put, List.setIfInBounds_toArray, List.set_cons_zero, List.set_cons_succ]
      refine Reg.take (i := 6) (d := 43) (v := ?_) rfl rfl (by kernel_rfl) (by kernel_rfl) (by kernel_rfl) (fun _ _ _ h => h) (by rfl) ?_ hHeld ?_
      rotate_left
      · rintro W ⟨h1, h2, h3⟩
        first | (go_simp; done) | (go_simp; with_reducible rfl)
      simp only [Act.put, List.setIfInBounds_toArray, List.set_cons_zero, List.set_cons_succ]
      refine Reg.take (i := 7) (d := 44) (v := ?_) rfl rfl (by kernel_rfl) (by kernel_rfl) (by kernel_rfl) (fun _ _ _ h => h) (by rfl) ?_ hHeld ?_
      rotate_left
      · rintro W ⟨h1, h2, h3⟩
        first | (go_simp; done) | (go_simp; with_reducible rfl)
      simp only [Act.put, List.setIfInBounds_toArray, List.set_cons_zero, List.set_cons_succ]
      refine Reg.take (i := 8) (d := 45) (v := ?_) rfl rfl (by kernel_rfl) (by kernel_rfl) (by kernel_rfl) (fun _ _ _ h => h) (by rfl) ?_ hHeld ?_
      rotate_left
      · rintro W ⟨h1, h2, h3⟩
        first | (go_simp; done) | (go_simp; with_reducible rfl)
      simp only [Act.put, List.setIfInBounds_toArray, List.set_cons_zero, List.set_cons_succ]
      refine Reg.take (i := 9) (d := 46) (v := ?_) rfl rfl (by kernel_rfl) (by kernel_rfl) (by kernel_rfl) (fun _ _ _ h => h) (by rfl) ?_ hHeld ?_
      rotate_left
      · rintro W ⟨h1, h2, h3⟩
        first | (go_simp; done) | (go_simp; with_reducible rfl)
      simp only [Act.put, List.setIfInBounds_toArray, List.set_cons_zero, List.set_cons_succ]
      refine Reg.call (i := 10) rfl (by kernel_rfl) (by rfl) (fun K hK => ?_)
      go_wp2_with (first | (go_at_call 11; refine (HLw.out _).mono ?_; rintro e w2 ⟨rfl, hb2⟩))
      refine hK.out _ _ ?_ (fun hHeld2 => ?_)
      · exact ⟨(hb2.cell (p := ⟨bk, o + i * 2, none⟩) (Recs.lt_of_cell hHeld.1)).trans hHeld.1, (hb2.cell (p := ⟨bk, o + i * 2 + 1, none⟩) (Recs.lt_of_cell hHeld.1)).trans hHeld.2.1, hHeld.2.2.step hb2⟩
      clear hK K
      replace hHeld := hHeld2
      clear hHeld2
      refine Reg.take (i := 11) (d := 48) (v := ?_) rfl rfl (by kernel_rfl) (by kernel_rfl) (by kernel_rfl) (fun _ _ _ h => h) (by rfl) ?_ hHeld ?_
      rotate_left
      · rintro W ⟨h1, h2, h3⟩
        first | (go_simp; done) | (go_simp; with_reducible rfl)
      simp only [Act.put, List.setIfInBounds_toArray, List.set_cons_zero, List.set_cons_succ]
      refine Reg.take (i := 12) (d := 49) (v := ?_) rfl rfl (by kernel_rfl) (by kernel_rfl) (by kernel_rfl) (fun _ _ _ h => h) (by rfl) ?_ hHeld ?_
      rotate_left
      · rintro W ⟨h1, h2, h3⟩
        first | (go_simp; done) | (go_simp; with_reducible rfl)
      simp only [Act.put, List.setIfInBounds_toArray, List.set_cons_zero, List.set_cons_succ]
      refine Reg.take (i := 13) (d := 50) (v := ?_) rfl rfl (by kernel_rfl) (by kernel_rfl) (by kernel_rfl) (fun _ _ _ h => h) (by rfl) ?_ hHeld ?_
      rotate_left
      · rintro W ⟨h1, h2, h3⟩
        first | (go_simp; done) | (go_simp; with_reducible rfl)
      simp only [Act.put, List.setIfInBounds_toArray, List.set_cons_zero, List.set_cons_succ]
      refine Reg.take (i := 14) (d := 51) (v := ?_) rfl rfl (by kernel_rfl) (by kernel_rfl) (by kernel_rfl) (fun _ _ _ h => h) (by rfl) ?_ hHeld ?_
      rotate_left
      · rintro W ⟨h1, h2, h3⟩
        first | (go_simp; done) | (go_simp; with_reducible rfl)
      simp only [Act.put, List.setIfInBounds_toArray, List.set_cons_zero, List.set_cons_succ]
      refine Reg.take (i := 15) (d := 52) (v := ?_) rfl rfl (by kernel_rfl) (by kernel_rfl) (by kernel_rfl) (fun _ _ _ h => h) (by rfl) ?_ hHeld ?_
      rotate_left
      · rintro W ⟨h1, h2, h3⟩
        first | (go_simp; done) | (go_simp; with_reducible rfl)
      simp only [Act.put, List.setIfInBounds_toArray, List.set_cons_zero, List.set_cons_succ]
      refine Reg.take (i := 16) (d := 53) (v := ?_) rfl rfl (by kernel_rfl) (by kernel_rfl) (by kernel_rfl) (fun _ _ _ h => h) (by rfl) ?_ hHeld ?_
      rotate_left
      · rintro W ⟨h1, h2, h3⟩
        first | (go_simp; done) | (go_simp; with_reducible rfl)
      simp only [Act.put, List.setIfInBounds_toArray, List.set_cons_zero, List.set_cons_succ]
      refine Reg.take (i := 17) (d := 54) (v := ?_) rfl rfl (by kernel_rfl) (by kernel_rfl) (by kernel_rfl) (fun _ _ _ h => h) (by rfl) ?_ hHeld ?_
      rotate_left
      · rintro W ⟨h1, h2, h3⟩
        first | (go_simp; done) | (go_simp; with_reducible rfl)
      simp only [Act.put, List.setIfInBounds_toArray, List.set_cons_zero, List.set_cons_succ]
      refine Reg.take (i := 18) (d := 55) (v := ?_) rfl rfl (by kernel_rfl) (by kernel_rfl) (by kernel_rfl) (fun _ _ _ h => h) (by rfl) ?_ hHeld ?_
      rotate_left
      · rintro W ⟨h1, h2, h3⟩
        first | (go_simp; done) | (go_simp; with_reducible rfl)
      simp only [Act.put, List.setIfInBounds_toArray, List.set_cons_zero, List.set_cons_succ]
      refine Reg.call (i := 19) rfl (by kernel_rfl) (by rfl) (fun K hK => ?_)
      go_wp2_with (first | (go_at_call 12; refine (HHs.out _ _ (Recs.own_is Flds.cells_len hHeld.2.2.flds) hHeld.2.2.lim hHeld.2.2.signs).mono ?_; rintro e w3 ⟨rfl, hb3⟩))
      refine hK.out _ _ ?_ (fun hHeld2 => ?_)
      · exact ⟨(hb3.cell (p := ⟨bk, o + i * 2, none⟩) (Recs.lt_of_cell hHeld.1)).trans hHeld.1, (hb3.cell (p := ⟨bk, o + i * 2 + 1, none⟩) (Recs.lt_of_cell hHeld.1)).trans hHeld.2.1, hHeld.2.2.step hb3⟩
      clear hK K
      replace hHeld := hHeld2
      clear hHeld2
      refine Reg.take (i := 20) (d := 57) (v := ?_) rfl rfl (by kernel_rfl) (by kernel_rfl) (by kernel_rfl) (fun _ _ _ h => h) (by rfl) ?_ hHeld ?_
      rotate_left
      · rintro W ⟨h1, h2, h3⟩
        first | (go_simp; done) | (go_simp; with_reducible rfl)
      simp only [Act.put, List.setIfInBounds_toArray, List.set_cons_zero, List.set_cons_succ]
      refine Reg.take (i := 21) (d := 58) (v := ?_) rfl rfl (by kernel_rfl) (by kernel_rfl) (by kernel_rfl) (fun _ _ _ h => h) (by rfl) ?_ hHeld ?_
      rotate_left
      · rintro W ⟨h1, h2, h3⟩
        first | (go_simp; done) | (go_simp; with_reducible rfl)
      simp only [Act.put, List.setIfInBounds_toArray, List.set_cons_zero, List.set_cons_succ]
      refine wpAnyH_done (by kernel_rfl) ?_ _
      obtain ⟨e1, e2, e3⟩ := hHeld
      have HW2 := Num.hide e3
      clear e3 c1 c2
      by_cases he : x = nm
      · subst he
        obtain ⟨rfl, hle⟩ := HA.out rfl
        have hnk : decide (k < n) = false := decide_eq_false (by omega)
        go_wp2_with fail
        refine (HSy.out _).mono ?_
        rintro e w4 ⟨rfl, rfl⟩
        go_wp2
        go_roundw
        case rel => exact ⟨i + 1, by omega, by go_num, HW2⟩
        case measure => simp [intOf]; omega
      · have d' := Flds.text_ne' he
        clear he
        go_wp2
        go_roundw
        case rel => exact ⟨i + 1, by omega, by go_num, HW2⟩
        case measure => simp [intOf]; omega
    · obtain rfl : i = D.length := by omega
      go_wp2_with fail
      refine (HSS.out _ _ (Recs.own_is Flds.cells_len HW.out.flds)).mono ?_
      rintro e w2 ⟨rfl, hb⟩
      have HW2 := Num.hide (HW.out.step hb)
      clear hb HW
      go_wp2_with fail
      refine (HDS.out _ _ (Recs.own_is Flds.cells_len HW2.out.flds)).mono ?_
      rintro e W5 ⟨sv, rfl, ho, hb⟩
      obtain ⟨sa, sc, rfl⟩ := Recs.own_len ho
      have HW3 := Num.hide (HW2.out.step hb)
      have HM0 : Hid ((W5.alloc (.cells #[] 61)).ownsRow W5.heap.size 61 2 (.slice (some ⟨W5.heap.size, 0, none⟩) 0 0) 0 []) := Flds.made_nil W5
      clear ho hb HW2
      go_wp2_with (first | (at_builtin; refine wpList_append_own _ rfl _ _ 24 rfl W5.heap.size 61 i0 _ 2 32 Tryd.underlying24 hi0 hz0 hz1 hz2 rfl (by decide) _ _ _ rfl HM0.out ⟨g, 0, none⟩ l.length c (l.flatMap Flds.cells) rfl (by rw [Recs.flat_length Flds.cells_len]) (World.ownsRow.cells (World.ownsRow.alloc HW3.out.flds (.cells #[] 61)) (g := g) rfl) (strings_ok l) (by unfold maxLen; omega) (by omega) (by simp) ?_; intro v5 w5 ho5 hg5 _; have HB5 := Num.hide (((Below.refl W5.heap.size W5).alloc (Nat.le_refl _) (.cells #[] 61)).grown hg5 (by simp) (fun j hj => by cases hj; exact Nat.le_refl _)); have HW5 := Num.hide (HW3.out.step HB5.out); have hsz5 := HB5.out.size; have HO5 := Num.hide ho5; clear ho5 hg5) | (at_builtin; refine wpList_append_own _ rfl _ _ 24 rfl W5.heap.size 61 i0 _ 2 32 Tryd.underlying24 hi0 hz0 hz1 hz2 rfl (by decide) _ _ _ rfl HO5.out ⟨g, 0, none⟩ l.length c (l.flatMap Flds.cells) rfl (by rw [Recs.flat_length Flds.cells_len]) (World.ownsRow.cells HW5.out.flds (g := g) rfl) (strings_ok l) (by unfold maxLen; omega) (by omega) (by omega) ?_; intro v6 w6 ho6 hg6 _))
      have HB6 := Num.hide ((Below.refl W5.heap.size w5).grown hg6 hsz5 (fun j hj => (World.ownsRow.lt HO5.out j hj).1))
      have HW6 := Num.hide (HW3.out.step (HB5.out.trans HB6.out))
      have HO6 : Hid (Flds.Own W5.heap.size w6 v6 (l ++ l)) := own_two (by simpa using ho6)
      clear ho6 hg6 HB6 HB5 HO5 HW5
      go_wp2_with fail
      refine (HTI.out _ _ (Recs.own_is Flds.cells_len HO6.out) HW6.out.lim HW6.out.signs).mono ?_
      rintro e w7 ⟨rfl, hb⟩
      have HW7 := Num.hide (HW6.out.step hb)
      have HO7 := Num.hide (Recs.own_below HO6.out hb)
      clear hb HW6 HO6
      have dn : decide ((0 : Int) ≤ n) = true := decide_eq_true hsb.1
      have dm : decide (n ≤ (2147483648 : Int)) = true := decide_eq_true hsb.2
      go_wp2_with fail
      refine (HTD.out _ _ (Recs.own_is Flds.cells_len HO7.out) HW7.out.lim HW7.out.signs).mono ?_
      rintro e w8 ⟨tv, rfl, ho, hb⟩
      have HW8 := Num.hide (HW7.out.step hb)
      obtain ⟨ua, uc, rfl⟩ := Recs.own_len ho
      clear hb ho HW7 HO7
      rw [hdd]
      have dl : decide (((2 * D.length : Nat) : Int) ≤ 2 * (D.length : Int) + 1) = true := decide_eq_true (by omega)
      go_wp2_with fail
      refine (HHI.out _ _ (Recs.own_is Flds.cells_len HW8.out.flds) HW8.out.lim HW8.out.signs).mono ?_
      rintro e w9 ⟨rfl, hb⟩
      have HB9 := Num.hide (HW8.out.step hb).below
      clear hb HW8
      go_wp2
      go_ret
      exact ⟨by first | rfl | simp, HB9.out⟩
end Cc
end Go.Proofs.YtanimnjiolgknaaDoor
