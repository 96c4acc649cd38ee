/-
  AgeAtImpl: FirstAge and AgeAt of the program.
  FreshImpl: IsFresh of the program.
-/
import Derived.Test.YtihiljickefanaaGreatDoorPav
import Derived.Test.YtihiljickefanaaGreatDoorPao
import Derived.Test.YtihiljickefanaaGreatDoorPbb
namespace Go.Proofs.YtihiljickefanaaGreatDoor
open Go.RowKit
set_option linter.unusedVariables false
set_option linter.unusedSimpArgs false
namespace Age
open Flds (Fld ret_int)

/-- the answer's box, cell by cell, and the library's variables -/
abbrev EAt (w : World) (st : Int) (v : Value) (l : List Fld) (b : ByteArray) (W : World) : Prop :=
  W.cell? ⟨w.heap.size, 0, none⟩ = some (.int .i64 st) ∧ W.cell? ⟨w.heap.size, 1, none⟩ = some v ∧ W.cell? ⟨w.heap.size, 2, none⟩ = some (.string b) ∧ Flds.Is W v l ∧ Env W ∧ Below w.heap.size w W
theorem EAt.step {w : World} {st : Int} {v : Value} {l : List Fld} {b : ByteArray} {W W' : World} (h : EAt w st v l b W) (hb : Below W.heap.size W W') : EAt w st v l b W' := by
  obtain ⟨h0, h1, h2, h3, h4, h5⟩ := h
  have hlt : w.heap.size < W.heap.size := Recs.lt_of_cell h0
  exact ⟨(hb.cell (p := ⟨w.heap.size, 0, none⟩) hlt).trans h0, (hb.cell (p := ⟨w.heap.size, 1, none⟩) hlt).trans h1, (hb.cell (p := ⟨w.heap.size, 2, none⟩) hlt).trans h2, Recs.is_below h3 hb, h4.below hb, h5.trans (hb.mono h5.size)⟩
theorem eat_first (w : World) (st : Int) (v : Value) (l : List Fld) (b : ByteArray) (h : Flds.Is w v l) (hE : Env w) : EAt w st v l b (w.alloc (.cells #[.int .i64 st, v, .string b] 26)) := by
  have hb0 : Below w.heap.size w (w.alloc (.cells #[.int .i64 st, v, .string b] 26)) := (Below.refl _ _).alloc (Nat.le_refl _) _
  have x0 := heap_alloc_new w (.cells #[.int .i64 st, v, .string b] 26)
  exact ⟨by rw [cell_of_row _ _ _ _ _ _ x0]; rfl, by rw [cell_of_row _ _ _ _ _ _ x0]; rfl, by rw [cell_of_row _ _ _ _ _ _ x0]; rfl, Recs.is_below h hb0, hE.below hb0, hb0⟩
set_option maxRecDepth 100000 in
set_option maxHeartbeats 4000000 in
theorem firstAge_impl (st : Int) (v : Value) (l : List Fld) (b : ByteArray) (asked came : Int) (w : World) (h : Flds.Is w v l) (hl : Flds.bulk l ≤ 1048576) (hcm : came ≤ 9223372036854775807) (hE : Env w) :
    Calls Tryz.prog 10 #[Resp.val st v b, .int .i64 asked, .int .i64 came] w fun e w' => e = .returned (.int .i64 (firstAge l asked came)) ∧ Below w.heap.size w w' := by
  have HF0 := Num.hide (eat_first w st v l b h hE)
  have HDt := Num.hide (fun W h hE => byDate_impl v l came W h hl hcm hE)
  have HFl := Num.hide (fun W h => byField_impl v l asked came W h hl hcm)
  obtain ⟨av, cv, rfl, _⟩ := Flds.is_form h
  obtain ⟨r, hr⟩ : ∃ r, firstAge l asked came = r := ⟨_, rfl⟩
  rw [hr]
  unfold firstAge at hr
  generalize apparent l came = A at HDt hr
  generalize satAdd (told l) (delay asked came) = S at HFl hr
  have HR := Num.hide hr
  unfold Resp.val
  clear h hr hE
  go_enter Tryz.func10, Tryz.ntmps10
  go_upto_region 1 with fail
  generalize w.alloc (.cells #[.int .i64 st, .slice av l.length cv, .string b] 26) = w0 at HF0 ⊢
  have HF1 := Num.hide (HF0.out.step (Below.refl w0.heap.size w0).drew)
  clear HF0
  go_wp2
  refine wp_region_held_drew (S := EAt w st (.slice av l.length cv) l b) (by kernel_rfl) HF1.out (fun hHeld => ?_)
  refine Reg.take (i := 0) (d := 7) (v := ?_) rfl rfl (by kernel_rfl) (by kernel_rfl) (by kernel_rfl) (fun _ _ _ h => h) (by rfl) ?_ hHeld ?_
  rotate_left
  · rintro W ⟨h1, h2, h3, h4, h5, h6⟩
    first | (go_simp; done) | (go_simp; with_reducible rfl)
  simp only [Act.put, List.setIfInBounds_toArray, List.set_cons_zero, List.set_cons_succ]
  refine Reg.take (i := 1) (d := 8) (v := ?_) rfl rfl (by kernel_rfl) (by kernel_rfl) (by kernel_rfl) (fun _ _ _ h => h) (by rfl) ?_ hHeld ?_
  rotate_left
  · rintro W ⟨h1, h2, h3, h4, h5, h6⟩
    first | (go_simp; done) | (go_simp; with_reducible rfl)
  simp only [Act.put, List.setIfInBounds_toArray, List.set_cons_zero, List.set_cons_succ]
  refine Reg.take (i := 2) (d := 9) (v := ?_) rfl rfl (by kernel_rfl) (by kernel_rfl) (by kernel_rfl) (fun _ _ _ h => h) (by rfl) ?_ hHeld ?_
  rotate_left
  · rintro W ⟨h1, h2, h3, h4, h5, h6⟩
    first | (go_simp; done) | (go_simp; with_reducible rfl)
  simp only [Act.put, List.setIfInBounds_toArray, List.set_cons_zero, List.set_cons_succ]
  refine Reg.take (i := 4) (d := 11) (v := ?_) rfl rfl (by kernel_rfl) (by kernel_rfl) (by kernel_rfl) (fun _ _ _ h => h) (by rfl) ?_ hHeld ?_
  rotate_left
  · rintro W ⟨h1, h2, h3, h4, h5, h6⟩
    first | (go_simp; done) | (go_simp; with_reducible rfl)
  simp only [Act.put, List.setIfInBounds_toArray, List.set_cons_zero, List.set_cons_succ]
  refine Reg.take (i := 5) (d := 12) (v := ?_) rfl rfl (by kernel_rfl) (by kernel_rfl) (by kernel_rfl) (fun _ _ _ h => h) (by rfl) ?_ hHeld ?_
  rotate_left
  · rintro W ⟨h1, h2, h3, h4, h5, h6⟩
    first | (go_simp; done) | (go_simp; with_reducible rfl)
  simp only [Act.put, List.setIfInBounds_toArray, List.set_cons_zero, List.set_cons_succ]
  refine Reg.take (i := 6) (d := 13) (v := ?_) rfl rfl (by kernel_rfl) (by kernel_rfl) (by kernel_rfl) (fun _ _ _ h => h) (by rfl) ?_ hHeld ?_
  rotate_left
  · rintro W ⟨h1, h2, h3, h4, h5, h6⟩
    first | (go_simp; done) | (go_simp; with_reducible rfl)
  simp only [Act.put, List.setIfInBounds_toArray, List.set_cons_zero, List.set_cons_succ]
  refine Reg.take (i := 7) (d := 14) (v := ?_) rfl rfl (by kernel_rfl) (by kernel_rfl) (by kernel_rfl) (fun _ _ _ h => h) (by rfl) ?_ hHeld ?_
  rotate_left
  · rintro W ⟨h1, h2, h3, h4, h5, h6⟩
    first | (go_simp; done) | (go_simp; with_reducible rfl)
  simp only [Act.put, List.setIfInBounds_toArray, List.set_cons_zero, List.set_cons_succ]
  refine Reg.call (i := 3) rfl (by kernel_rfl) (by rfl) (fun K hK => ?_)
  go_wp2_with (first | (go_at_call 25; refine (HDt.out _ hHeld.2.2.2.1 hHeld.2.2.2.2.1).mono ?_; rintro e w2 ⟨rfl, hb2⟩))
  refine hK.out _ _ ?_ (fun hHeld2 => ?_)
  · exact hHeld.step hb2
  clear hK K
  replace hHeld := hHeld2
  clear hHeld2
  refine Reg.call (i := 8) rfl (by kernel_rfl) (by rfl) (fun K hK => ?_)
  go_wp2_with (first | (go_at_call 26; refine (HFl.out _ hHeld.2.2.2.1).mono ?_; rintro e w3 ⟨rfl, hb3⟩))
  refine hK.out _ _ ?_ (fun hHeld2 => ?_)
  · exact hHeld.step hb3
  clear hK K
  replace hHeld := hHeld2
  clear hHeld2
  refine Reg.take (i := 9) (d := 16) (v := ?_) rfl rfl (by kernel_rfl) (by kernel_rfl) (by kernel_rfl) (fun _ _ _ h => h) (by rfl) ?_ hHeld ?_
  rotate_left
  · rintro W ⟨h1, h2, h3, h4, h5, h6⟩
    first | (go_simp; done) | (go_simp; with_reducible rfl)
  simp only [Act.put, List.setIfInBounds_toArray, List.set_cons_zero, List.set_cons_succ]
  refine Reg.take (i := 10) (d := 6) (v := ?_) rfl rfl (by kernel_rfl) (by kernel_rfl) (by kernel_rfl) (fun _ _ _ h => h) (by rfl) ?_ hHeld ?_
  rotate_left
  · rintro W ⟨h1, h2, h3, h4, h5, h6⟩
    first | (go_simp; done) | (go_simp; with_reducible rfl)
  simp only [Act.put, List.setIfInBounds_toArray, List.set_cons_zero, List.set_cons_succ]
  refine wpAnyH_done (by kernel_rfl) ?_ _
  have HB := Num.hide hHeld.2.2.2.2.2
  clear hHeld HF1
  go_wp2
  go_ret
  exact ⟨ret_int (by first | rfl | (have := HR.out; split <;> omega) | (have := HR.out; omega)), HB.out⟩
set_option maxRecDepth 100000 in
set_option maxHeartbeats 2000000 in
theorem ageAt_impl (st : Int) (v : Value) (l : List Fld) (b : ByteArray) (asked came now : Int) (w : World) (h : Flds.Is w v l) (hl : Flds.bulk l ≤ 1048576) (hcm : came ≤ 9223372036854775807) (hnw : now ≤ 9223372036854775807) (hE : Env w) :
    Calls Tryz.prog 8 #[Resp.val st v b, .int .i64 asked, .int .i64 came, .int .i64 now] w fun e w' => e = .returned (.int .i64 (ageAt l asked came now)) ∧ Below w.heap.size w w' := by
  have HF0 := Num.hide (eat_first w st v l b h hE)
  have HFi := Num.hide (fun W h hE => firstAge_impl st v l b asked came W h hl hcm hE)
  obtain ⟨av, cv, rfl, _⟩ := Flds.is_form h
  unfold ageAt
  generalize firstAge l asked came = A at HFi ⊢
  rw [← later_here]
  have HL := Num.hide (fun W => later_impl came now W hnw)
  generalize later came now = L at HL ⊢
  have HS := Num.hide (fun W => satAdd_impl A L W)
  generalize satAdd A L = r at HS ⊢
  unfold Resp.val at HFi ⊢
  clear h hE
  go_enter Tryz.func8, Tryz.ntmps8
  go_upto_region 1 with fail
  generalize w.alloc (.cells #[.int .i64 st, .slice av l.length cv, .string b] 26) = w0 at HF0 ⊢
  obtain ⟨c0, c1, c2, _, _, _⟩ := HF0.out
  go_wp2_with fail
  refine (HFi.out _ HF0.out.2.2.2.1 HF0.out.2.2.2.2.1).mono ?_
  rintro e w1 ⟨rfl, hb⟩
  have HB := Num.hide (HF0.out.2.2.2.2.2.trans (hb.mono HF0.out.2.2.2.2.2.size))
  clear hb c0 c1 c2 HF0 HFi
  go_wp2_with fail
  refine (HL.out _).mono ?_
  rintro e w2 ⟨rfl, rfl⟩
  go_wp2_with fail
  refine (HS.out _).mono ?_
  rintro e w3 ⟨rfl, rfl⟩
  go_wp2
  go_ret
  exact ⟨rfl, HB.out⟩
end Age
end Go.Proofs.YtihiljickefanaaGreatDoor
namespace Go.Proofs.YtihiljickefanaaGreatDoor
open Go.RowKit
set_option linter.unusedVariables false
set_option linter.unusedSimpArgs false
namespace Age
open Flds (Fld ret_int)

/-- the answer's box, cell by cell, and what the program's tables hold -/
abbrev ZAt (w : World) (st : Int) (v : Value) (l : List Fld) (b : ByteArray) (W : World) : Prop :=
  W.cell? ⟨w.heap.size, 0, none⟩ = some (.int .i64 st) ∧ W.cell? ⟨w.heap.size, 1, none⟩ = some v ∧ W.cell? ⟨w.heap.size, 2, none⟩ = some (.string b) ∧ Flds.Is W v l ∧ EnvS W ∧ Below w.heap.size w W
theorem ZAt.step {w : World} {st : Int} {v : Value} {l : List Fld} {b : ByteArray} {W W' : World} (h : ZAt w st v l b W) (hb : Below W.heap.size W W') : ZAt w st v l b W' := by
  obtain ⟨h0, h1, h2, h3, h4, h5⟩ := h
  have hlt : w.heap.size < W.heap.size := Recs.lt_of_cell h0
  exact ⟨(hb.cell (p := ⟨w.heap.size, 0, none⟩) hlt).trans h0, (hb.cell (p := ⟨w.heap.size, 1, none⟩) hlt).trans h1, (hb.cell (p := ⟨w.heap.size, 2, none⟩) hlt).trans h2, Recs.is_below h3 hb, h4.below hb, h5.trans (hb.mono h5.size)⟩
theorem zat_first (w : World) (st : Int) (v : Value) (l : List Fld) (b : ByteArray) (h : Flds.Is w v l) (hE : EnvS w) : ZAt w st v l b (w.alloc (.cells #[.int .i64 st, v, .string b] 26)) := by
  have hb0 : Below w.heap.size w (w.alloc (.cells #[.int .i64 st, v, .string b] 26)) := (Below.refl _ _).alloc (Nat.le_refl _) _
  have x0 := heap_alloc_new w (.cells #[.int .i64 st, v, .string b] 26)
  exact ⟨by rw [cell_of_row _ _ _ _ _ _ x0]; rfl, by rw [cell_of_row _ _ _ _ _ _ x0]; rfl, by rw [cell_of_row _ _ _ _ _ _ x0]; rfl, Recs.is_below h hb0, hE.below hb0, hb0⟩
set_option maxRecDepth 100000 in
set_option maxHeartbeats 4000000 in
theorem isFresh_impl (st : Int) (v : Value) (l : List Fld) (b : ByteArray) (asked came now : Int) (w : World) (h : Flds.Is w v l) (hl : Flds.bulk l ≤ 1048576) (hcm : came ≤ 9223372036854775807) (hnw : now ≤ 9223372036854775807) (hE : EnvS w) :
    Calls Tryz.prog 12 #[Resp.val st v b, .int .i64 asked, .int .i64 came, .int .i64 now] w fun e w' => e = .returned (.bool (isFresh l asked came now)) ∧ Below w.heap.size w w' := by
  have HF0 := Num.hide (zat_first w st v l b h hE)
  have HLf := Num.hide (fun W h hE => lifetime_impl st v l b W h hl hE)
  have HAg := Num.hide (fun W h (hE : EnvS W) => ageAt_impl st v l b asked came now W h hl hcm hnw hE.1)
  obtain ⟨av, cv, rfl, _⟩ := Flds.is_form h
  obtain ⟨r, hr⟩ : ∃ r, isFresh l asked came now = r := ⟨_, rfl⟩
  rw [hr]
  unfold isFresh at hr
  generalize lifetime l = L at HLf hr
  generalize ageAt l asked came now = A at HAg hr
  have HR := Num.hide hr
  unfold Resp.val at HLf HAg ⊢
  clear h hr hE
  go_enter Tryz.func12, Tryz.ntmps12
  go_upto_region 1 with fail
  generalize w.alloc (.cells #[.int .i64 st, .slice av l.length cv, .string b] 26) = w0 at HF0 ⊢
  have HF1 := Num.hide (HF0.out.step (Below.refl w0.heap.size w0).drew)
  clear HF0
  go_wp2
  refine wp_region_held_drew (S := ZAt w st (.slice av l.length cv) l b) (by kernel_rfl) HF1.out (fun hHeld => ?_)
  refine Reg.take (i := 0) (d := 9) (v := ?_) rfl rfl (by kernel_rfl) (by kernel_rfl) (by kernel_rfl) (fun _ _ _ h => h) (by rfl) ?_ hHeld ?_
  rotate_left
  · rintro W ⟨h1, h2, h3, h4, h5, h6⟩
    first | (go_simp; done) | (go_simp; with_reducible rfl)
  simp only [Act.put, List.setIfInBounds_toArray, List.set_cons_zero, List.set_cons_succ]
  refine Reg.take (i := 2) (d := 11) (v := ?_) rfl rfl (by kernel_rfl) (by kernel_rfl) (by kernel_rfl) (fun _ _ _ h => h) (by rfl) ?_ hHeld ?_
  rotate_left
  · rintro W ⟨h1, h2, h3, h4, h5, h6⟩
    first | (go_simp; done) | (go_simp; with_reducible rfl)
  simp only [Act.put, List.setIfInBounds_toArray, List.set_cons_zero, List.set_cons_succ]
  refine Reg.take (i := 3) (d := 12) (v := ?_) rfl rfl (by kernel_rfl) (by kernel_rfl) (by kernel_rfl) (fun _ _ _ h => h) (by rfl) ?_ hHeld ?_
  rotate_left
  · rintro W ⟨h1, h2, h3, h4, h5, h6⟩
    first | (go_simp; done) | (go_simp; with_reducible rfl)
  simp only [Act.put, List.setIfInBounds_toArray, List.set_cons_zero, List.set_cons_succ]
  refine Reg.take (i := 4) (d := 13) (v := ?_) rfl rfl (by kernel_rfl) (by kernel_rfl) (by kernel_rfl) (fun _ _ _ h => h) (by rfl) ?_ hHeld ?_
  rotate_left
  · rintro W ⟨h1, h2, h3, h4, h5, h6⟩
    first | (go_simp; done) | (go_simp; with_reducible rfl)
  simp only [Act.put, List.setIfInBounds_toArray, List.set_cons_zero, List.set_cons_succ]
  refine Reg.take (i := 5) (d := 14) (v := ?_) rfl rfl (by kernel_rfl) (by kernel_rfl) (by kernel_rfl) (fun _ _ _ h => h) (by rfl) ?_ hHeld ?_
  rotate_left
  · rintro W ⟨h1, h2, h3, h4, h5, h6⟩
    first | (go_simp; done) | (go_simp; with_reducible rfl)
  simp only [Act.put, List.setIfInBounds_toArray, List.set_cons_zero, List.set_cons_succ]
  refine Reg.call (i := 1) rfl (by kernel_rfl) (by rfl) (fun K hK => ?_)
  go_wp2_with (first | (go_at_call 11; refine (HLf.out _ hHeld.2.2.2.1 hHeld.2.2.2.2.1).mono ?_; rintro e w2 ⟨rfl, hb2⟩))
  refine hK.out _ _ ?_ (fun hHeld2 => ?_)
  · exact hHeld.step hb2
  clear hK K
  replace hHeld := hHeld2
  clear hHeld2
  refine Reg.call (i := 6) rfl (by kernel_rfl) (by rfl) (fun K hK => ?_)
  go_wp2_with (first | (go_at_call 8; refine (HAg.out _ hHeld.2.2.2.1 hHeld.2.2.2.2.1).mono ?_; rintro e w3 ⟨rfl, hb3⟩))
  refine hK.out _ _ ?_ (fun hHeld2 => ?_)
  · exact hHeld.step hb3
  clear hK K
  replace hHeld := hHeld2
  clear hHeld2
  refine Reg.take (i := 7) (d := 16) (v := ?_) rfl rfl (by kernel_rfl) (by kernel_rfl) (by kernel_rfl) (fun _ _ _ h => h) (by rfl) ?_ hHeld ?_
  rotate_left
  · rintro W ⟨h1, h2, h3, h4, h5, h6⟩
    first | (go_simp; done) | (go_simp; with_reducible rfl)
  simp only [Act.put, List.setIfInBounds_toArray, List.set_cons_zero, List.set_cons_succ]
  refine Reg.take (i := 8) (d := 8) (v := ?_) rfl rfl (by kernel_rfl) (by kernel_rfl) (by kernel_rfl) (fun _ _ _ h => h) (by rfl) ?_ hHeld ?_
  rotate_left
  · rintro W ⟨h1, h2, h3, h4, h5, h6⟩
    first | (go_simp; done) | (go_simp; with_reducible rfl)
  simp only [Act.put, List.setIfInBounds_toArray, List.set_cons_zero, List.set_cons_succ]
  refine wpAnyH_done (by kernel_rfl) ?_ _
  have HB := Num.hide hHeld.2.2.2.2.2
  clear hHeld HF1
  go_wp2
  go_ret
  exact ⟨by rw [← HR.out]; rfl, HB.out⟩
end Age
end Go.Proofs.YtihiljickefanaaGreatDoor
