/-
  JoinImpl: joinPieces of the program: the pieces of a body put together, or the error of the first at fault; what was there stays.
-/
import Derived.Test.YtkenmilglfnmbaaGreatDoorQar
import Derived.Test.YtkenmilglfnmbaaGreatDoorQat
namespace Go.Proofs.YtkenmilglfnmbaaGreatDoor
open Go.RowKit Go.Shelf
attribute [local go_sem] Oper.semAt_some
set_option linter.unusedVariables false
namespace Body

set_option maxRecDepth 100000 in
theorem pieces_call (s : ByteArray) (w : World) : Calls Tryz.prog 86 #[.string s] w fun e w' => e = .returned (.func (.func 132) #[] #[.pointer (some ⟨w.heap.size, 0, none⟩)]) ∧ w' = w.alloc (.cells #[.string s] 9) := by
  go_enter Tryz.func86, Tryz.ntmps86
  go_wp2
  go_ret
  exact ⟨rfl, rfl⟩
set_option maxRecDepth 100000 in
set_option maxHeartbeats 4000000 in
theorem join_impl (s : ByteArray) (m b : Addr) (w : World) (hs : s.size ≤ 1048576) (hm : Lim w) (hS : Syn w) (hE : Errs m b w) :
    Calls Tryz.prog 44 #[.string s] w fun e w' => ∃ t u c, e = .returned (.tuple #[.string t, .int .i64 u, errV m b c]) ∧ c ≤ 2 ∧ tell t u c = unchunk s ∧ Below w.heap.size w w' := by
  have HG : Hid (∀ W, Below w.heap.size w W → Lim W ∧ Syn W ∧ Errs m b W) := fun W h => ⟨hm.below h, hS.below h, hE.below h⟩
  clear hm hS hE
  refine (callsIn_wide (n := 3)).1 ?_
  refine callsIn_of_wp_marks Tryz.func44 rfl trivial ?_ rfl
  simp only [Tryz.ntmps44, List.size_toArray, List.length_cons, List.length_nil, Nat.reduceAdd, Nat.reduceSub, Array.replicate_succ, Array.replicate_zero, List.push_toArray, List.append_toArray, List.nil_append, List.cons_append]
  gi_wp2_with (refine ⟨trivial, ?_⟩; gi_at_call 86; refine (callsIn_wide.2 (pieces_call _ _)).mono ?_; rintro e w' ⟨rfl, rfl⟩)
  have hsz : (((((w.alloc (.cells #[.string ⟨#[]⟩] 9)).alloc (.cells #[.int .i64 0] 3)).alloc (.cells #[.nilIface] 71)).alloc (.cells #[.pointer none, .slice none 0 0] 66)).alloc (.cells #[.int .i64 0] 3)).heap.size = w.heap.size + 1 + 1 + 1 + 1 + 1 := by simp
  obtain ⟨W0, hW0⟩ : ∃ W0, (((((w.alloc (.cells #[.string ⟨#[]⟩] 9)).alloc (.cells #[.int .i64 0] 3)).alloc (.cells #[.nilIface] 71)).alloc (.cells #[.pointer none, .slice none 0 0] 66)).alloc (.cells #[.int .i64 0] 3)).alloc (.cells #[.string s] 9) = W0 := ⟨_, rfl⟩
  rw [hW0]
  have hsz0 : W0.heap.size = w.heap.size + 1 + 1 + 1 + 1 + 1 + 1 := by rw [← hW0]; simp
  have hB0 : Below w.heap.size w W0 := by
    rw [← hW0]
    exact ((((((Below.refl _ w).alloc (Nat.le_refl _) _).alloc (by simp) _).alloc (by simp; omega) _).alloc (by simp; omega) _).alloc (by simp; omega) _).alloc (by simp; omega) _
  have k0 : Boxed W0 w.heap.size 9 (.string ⟨#[]⟩) := by
    rw [← hW0]
    exact (((((Boxed.new w 9 (.string ⟨#[]⟩)).alloc _).alloc _).alloc _).alloc _).alloc _
  have k1 : Boxed W0 (w.heap.size + 1) 3 (.int .i64 0) := by
    rw [← hW0]
    have := ((((Boxed.new (w.alloc (.cells #[.string ⟨#[]⟩] 9)) 3 (.int .i64 0)).alloc (.cells #[.nilIface] 71)).alloc (.cells #[.pointer none, .slice none 0 0] 66)).alloc (.cells #[.int .i64 0] 3)).alloc (.cells #[.string s] 9)
    rw [World.size_alloc] at this
    exact this
  have k2 : Boxed W0 (w.heap.size + 1 + 1) 71 .nilIface := by
    rw [← hW0]
    have := (((Boxed.new ((w.alloc (.cells #[.string ⟨#[]⟩] 9)).alloc (.cells #[.int .i64 0] 3)) 71 .nilIface).alloc (.cells #[.pointer none, .slice none 0 0] 66)).alloc (.cells #[.int .i64 0] 3)).alloc (.cells #[.string s] 9)
    rw [World.size_alloc, World.size_alloc] at this
    exact this
  have k3 : Lib.IsBuilderF 66 5 (w.heap.size + 1 + 1 + 1) (w.heap.size + 1 + 1 + 1) (Lib.byteCells (catB []).data.toList) W0 := by
    rw [← hW0]
    have := ((Lib.IsBuilderF.of (Lib.fresh_isBuilder 66 5 (((w.alloc (.cells #[.string ⟨#[]⟩] 9)).alloc (.cells #[.int .i64 0] 3)).alloc (.cells #[.nilIface] 71)))).alloc (.cells #[.int .i64 0] 3)).alloc (.cells #[.string s] 9)
    rw [World.size_alloc, World.size_alloc, World.size_alloc] at this
    exact this
  have k4 : Boxed W0 (w.heap.size + 1 + 1 + 1 + 1) 3 (.int .i64 0) := by
    rw [← hW0]
    have := (Boxed.new ((((w.alloc (.cells #[.string ⟨#[]⟩] 9)).alloc (.cells #[.int .i64 0] 3)).alloc (.cells #[.nilIface] 71)).alloc (.cells #[.pointer none, .slice none 0 0] 66)) 3 (.int .i64 0)).alloc (.cells #[.string s] 9)
    rw [World.size_alloc, World.size_alloc, World.size_alloc, World.size_alloc] at this
    exact this
  have k5 : Boxed W0 (w.heap.size + 1 + 1 + 1 + 1 + 1) 9 (.string s) := by
    rw [← hW0]
    have := Boxed.new (((((w.alloc (.cells #[.string ⟨#[]⟩] 9)).alloc (.cells #[.int .i64 0] 3)).alloc (.cells #[.nilIface] 71)).alloc (.cells #[.pointer none, .slice none 0 0] 66)).alloc (.cells #[.int .i64 0] 3)) 9 (.string s)
    rw [hsz] at this
    exact this
  clear hW0 hsz
  generalize h1 : w.heap.size + 1 = q1 at *
  generalize h2 : q1 + 1 = q2 at *
  generalize h3 : q2 + 1 = q3 at *
  generalize h4 : q3 + 1 = q4 at *
  generalize h5 : q4 + 1 = q5 at *
  have hINV : JInv w q1 q2 q3 q4 [] W0 := ⟨k0, k1, k2, k3, k4, hB0, fun x hx => by cases hx⟩
  refine wpIn_rangeFunc_ownH rfl (by omega) (gf := 132) (lb := #[.pointer (some ⟨q5, 0, none⟩)]) rfl trivial (enters_of Tryz.func132 (by kernel_rfl) rfl)
    (pieces_stops 2 w.heap.size q5 s m b W0 (by omega) hs (by omega) (fun W h => HG.out W (hB0.trans h)) k5) (fun h k => keepP_t h k) (keepP_b (by omega)) (Below.refl _ _) (fun _ => rfl)
    (fun pre W => JInv w q1 q2 q3 q4 pre W)
    (fun c pre W => JOut w q1 q2 m b c pre W)
    (jinv_own w q1 q2 q3 q4 (by omega)) (fun c => jout_own w q1 q2 m b c (by omega))
    hINV
    (fun x a' W => ∃ Bx, q4 < Bx ∧ JBox Bx x W ∧ a' = { tmps := #[.string s, undef, .pointer (some ⟨w.heap.size, 0, none⟩), .pointer (some ⟨q1, 0, none⟩), .pointer (some ⟨q2, 0, none⟩), .pointer (some ⟨q3, 0, none⟩), .pointer (some ⟨q4, 0, none⟩), .pointer (some ⟨Bx, 0, none⟩), errV m b x.1.2.2, .string s, .func (.func 132) #[] #[.pointer (some ⟨q5, 0, none⟩)], .agg #[.string x.1.1, .int .i64 (x.1.2.1 : Int)], errV m b x.1.2.2, undef, undef, undef, undef, undef, undef, undef, undef, undef, undef, undef, undef], defers := [] })
    (fun x a' => fun _ W W' row hs hg hr => by
      obtain ⟨Bx, h1, h2, h3⟩ := hs
      exact ⟨Bx, h1, rows_turn hg (fun r e => (hr r e).2) _ _ _ _ h2, h3⟩)
    ?assign ?body ?done ?stop
  case assign =>
    rintro l pre x W K hi hK
    have HK := Num.hide hK
    clear hK
    gi_wp2
    refine HK.out _ _ ((KeepsOthers.alloc _ _).from _) ⟨(Below.refl _ W).alloc hi.be.size _, fun k c fz hk => rows_alloc W _ _ _ _ _ hk⟩ (jinv_rows hi (rows_alloc W _) (hi.be.alloc hi.be.size _)) ⟨W.heap.size, hi.us.lt, World.alloc_heap_new W _, rfl⟩
  case body =>
    rintro l pre ⟨⟨t, u, c⟩, hp⟩ a' W hl _ hi ⟨Bx, hBx, hbx, rfl⟩ hlen
    have hq4 := hi.us.lt
    by_cases hc : c = 0
    · subst hc
      have hsum := sumU_le pre
      have hcat := catB_le pre
      have hcl : (Lib.byteCells (catB pre).data.toList).length = (catB pre).size := by unfold Lib.byteCells; simp
      have ht1 : t.size ≤ 60 := hp.1
      have hu1 : u ≤ 4194304 := hp.2.1
      have HW := Num.hide (Shelf.writeStringK q3 q3 _ t W hi.bd (by rw [hcl]; omega) (by omega))
      have c0 : W.cell? ⟨Bx, 0, none⟩ = some (.string t) := by simp [World.cell?, show W.heap[Bx]? = _ from hbx]
      have hsu : sumU pre ≤ 4398050705408 := by omega
      have HI := Num.hide hi
      have HX := Num.hide hbx
      clear hi hbx hINV k0 k1 k2 k3 k4 k5 hsum hcat hcl
      simp only [errV]
      gi_wp2_with fail
      refine ⟨trivial, ?_⟩
      refine (CallsIn.inRound l (callsIn_wide.2 HW.out)).mono ?_
      rintro e w2 ⟨rfl, hI2, hb2, hk2⟩
      have u4 : Boxed w2 q4 3 (.int .i64 (sumU pre : Int)) := hk2 q4 _ HI.out.us (fun e => by cases e; omega) (fun c fz e => by cases e)
      have x2 : JBox Bx ⟨(t, u, 0), hp⟩ w2 := hk2 Bx _ HX.out (fun e => by cases e; omega) (fun c fz e => by cases e)
      have cu := u4.cell
      have fu := u4.frozen
      have c1 : w2.cell? ⟨Bx, 1, none⟩ = some (.int .i64 (u : Int)) := by simp [World.cell?, show w2.heap[Bx]? = _ from x2]
      have HI2 := Num.hide hI2
      have HB2 := Num.hide hb2
      have HK2 := Num.hide hk2
      have U4 := Num.hide u4
      clear hI2 hb2 hk2 x2 u4
      gi_wp2
      have hb3 : Below w.heap.size W w2 := HB2.out.mono (by omega)
      have hs2 := HB2.out.size
      have hR : ∀ k t v, Boxed W k t v → k < q3 → Boxed w2 k t v := fun k t v h hk => (HB2.out.block k hk).trans h
      have hcells : Lib.byteCells (catB pre).data.toList ++ Lib.strCells t = Lib.byteCells (catB (pre ++ [⟨(t, u, 0), hp⟩])).data.toList := by
        rw [catB_snoc, ByteArray.data_append, Array.toList_append, Lib.byteCells_append]
        rfl
      have hI3 := HI2.out
      rw [hcells] at hI3
      refine ⟨(from_others HK2.out hs2 (by omega)).trans ((KeepsOthers.setCell _ _ _).from _), ⟨hb3.setCell (p := ⟨q4, 0, none⟩) (by show w.heap.size ≤ q4; omega) _, fun k c fz hk => ?_⟩, ?_⟩
      · have hkq3 : k ≠ q3 := by
          rintro rfl
          rcases HI.out.bd with ⟨_, v, hb, _⟩ | ⟨_, v, hb, _⟩ <;> (rw [hb] at hk; cases hk)
        have hkq4 : k ≠ q4 := by
          rintro rfl
          rw [show W.heap[k]? = _ from HI.out.us] at hk
          cases hk
        rw [Below.heap_setCell _ _ _ _ (fun e => hkq4 e)]
        exact HK2.out k _ hk (fun e => by cases e; exact hkq3 rfl) (fun c fz e => by cases e)
      · refine ⟨(hR _ _ _ HI.out.r0 (by omega)).other (by omega) _, (hR _ _ _ HI.out.r1 (by omega)).other (by omega) _, (hR _ _ _ HI.out.r2 (by omega)).other (by omega) _, isb_set (.inr hI3) U4.out (by decide) (by omega) _, ?_, (HI.out.be.trans hb3).setCell (p := ⟨q4, 0, none⟩) (by show w.heap.size ≤ q4; omega) _, ?_⟩
        · have := U4.out.set (.int .i64 ((sumU pre : Int) + (u : Int)))
          rw [sumU_snoc]
          exact this
        · intro x hx
          rcases List.mem_append.1 hx with hx | hx
          · exact HI.out.ok x hx
          · obtain rfl := List.mem_singleton.1 hx
            rfl
    · have hcd : c ≤ 2 := hp.2.2
      obtain ⟨ad, had⟩ : ∃ ad, errV m b c = .iface 199 (.pointer (some ad)) := by
        match c, hc, hcd with
        | 1, _, _ => exact ⟨m, rfl⟩
        | 2, _, _ => exact ⟨b, rfl⟩
      have HD := Num.hide had
      have z0 := hi.r0
      have z1 := hi.r1.other (B' := w.heap.size) (by omega) (.string ⟨#[]⟩)
      have z2 := (hi.r2.other (B' := w.heap.size) (by omega) (.string ⟨#[]⟩)).other (B' := q1) (by omega) (.int .i64 0)
      have y0 := (((z0.set (.string ⟨#[]⟩)).other (B' := q1) (by omega) (.int .i64 0)).other (B' := q2) (by omega) (.iface 199 (.pointer (some ad))))
      have y1 := ((z1.set (.int .i64 0)).other (B' := q2) (by omega) (.iface 199 (.pointer (some ad))))
      have y2 := z2.set (.iface 199 (.pointer (some ad)))
      have d0 := z0.cell
      have f0 := z0.frozen
      have d1 := z1.cell
      have f1 := z1.frozen
      have d2 := z2.cell
      have f2 := z2.frozen
      have HI := Num.hide hi
      have Y0 := Num.hide y0
      have Y1 := Num.hide y1
      have Y2 := Num.hide y2
      clear hi hbx hINV k0 k1 k2 k3 k4 k5 z0 z1 z2 y0 y1 y2
      simp only [had]
      clear had
      gi_wp2
      refine ⟨((KeepsOthers.setCell _ _ _).trans ((KeepsOthers.setCell _ _ _).trans (KeepsOthers.setCell _ _ _))).from _, rfl, ⟨pre, _, rfl, hc, by rw [HD.out]; exact Y2.out⟩, Y0.out, Y1.out, ?_⟩
      exact ((HI.out.be.setCell (p := ⟨w.heap.size, 0, none⟩) (Nat.le_refl _) _).setCell (p := ⟨q1, 0, none⟩) (by show w.heap.size ≤ q1; omega) _).setCell (p := ⟨q2, 0, none⟩) (by show w.heap.size ≤ q2; omega) _
  case done =>
    rintro D xs W hD hEnd hi hK
    have hq4 := hi.us.lt
    have HT := Num.hide (fun W' h => Shelf.builderStringK q3 q3 (catB xs).data.toList W' h)
    have hmx : Tryz.prog.follows .mixedOrders = true := by kernel_rfl
    have HE : Hid (unchunk s = (catB xs, (sumU xs : Int), 0)) := hEnd hi.ok
    have cu := hi.us.cell
    have HI := Num.hide hi
    have HK := Num.hide hK
    clear hi hK hEnd hINV k0 k1 k2 k3 k4 k5
    have hTe : (⟨(catB xs).data.toList.toArray⟩ : ByteArray) = catB xs := rfl
    rw [hTe] at HT
    clear hTe
    obtain ⟨T, hT⟩ : ∃ T, catB xs = T := ⟨_, rfl⟩
    rw [hT] at HE HT
    obtain ⟨U, hU⟩ : ∃ U : Int, (sumU xs : Int) = U := ⟨_, rfl⟩
    rw [hU] at HE cu
    gi_wp2
    gi_region_with_o (refine ⟨trivial, ?_⟩; refine (callsIn_wide.2 (HT.out _ (by rw [← hT]; exact HI.out.bd) (by show q3 ≤ W.heap.size; omega))).mono ?_; rintro e w3 ⟨rfl, hI3, hb3, hk3⟩; have u4 : Boxed w3 q4 3 (.int .i64 U) := (by rw [← hU]; exact hk3 q4 _ HI.out.us (fun e => by cases e; omega) (fun c fz e => by cases e)); have z0 : Boxed w3 w.heap.size 9 (.string ⟨#[]⟩) := (hb3.block _ (by omega)).trans HI.out.r0; have z1 := Boxed.other (show Boxed w3 q1 3 (.int .i64 0) from (hb3.block _ (by omega)).trans HI.out.r1) (B' := w.heap.size) (by omega) (.string T); have z2 := (Boxed.other (show Boxed w3 q2 71 .nilIface from (hb3.block _ (by omega)).trans HI.out.r2) (B' := w.heap.size) (by omega) (.string T)).other (B' := q1) (by omega) (.int .i64 U); have v4 := u4.cell; have d0 := z0.cell; have f0 := z0.frozen; have d1 := z1.cell; have f1 := z1.frozen; have d2 := z2.cell; have f2 := z2.frozen; have HB3 := Num.hide hb3; have HK3 := Num.hide hk3; have Z0 := Num.hide z0; have Z1 := Num.hide z1; have Z2 := Num.hide z2; clear hI3 hb3 hk3 u4 z0 z1 z2)
    all_goals
      gi_wp2
      have hK3 : w3.heap[D]? = some (.deferred (some [])) := HK3.out D _ HK.out (fun e => by cases e; omega) (fun c fz e => by cases e)
      have hKf := (KeepsOthers.setCell _ ⟨q2, 0, none⟩ .nilIface).same D _ ((KeepsOthers.setCell _ ⟨q1, 0, none⟩ (.int .i64 U)).same D _ ((KeepsOthers.setCell w3 ⟨w.heap.size, 0, none⟩ (.string T)).same D _ hK3 rfl) rfl) rfl
      have y0 := ((Z0.out.set (.string T)).other (B' := q1) (by omega) (.int .i64 U)).other (B' := q2) (by omega) .nilIface
      have y1 := (Z1.out.set (.int .i64 U)).other (B' := q2) (by omega) .nilIface
      have y2 := Z2.out.set .nilIface
      have hbf : Below w.heap.size w (((w3.setCell ⟨w.heap.size, 0, none⟩ (.string T)).setCell ⟨q1, 0, none⟩ (.int .i64 U)).setCell ⟨q2, 0, none⟩ .nilIface) :=
        (((HI.out.be.drew.trans (HB3.out.mono (by omega))).setCell (p := ⟨w.heap.size, 0, none⟩) (Nat.le_refl _) _).setCell (p := ⟨q1, 0, none⟩) (by show w.heap.size ≤ q1; omega) _).setCell (p := ⟨q2, 0, none⟩) (by show w.heap.size ≤ q2; omega) _
      generalize ((w3.setCell ⟨w.heap.size, 0, none⟩ (.string T)).setCell ⟨q1, 0, none⟩ (.int .i64 U)).setCell ⟨q2, 0, none⟩ .nilIface = wf at hKf y0 y1 y2 hbf ⊢
      have c0 := cell_kept y0.cell (grownBy_putObj' wf D (.deferred none)) (fun r e => by cases e; exact ⟨_, hKf, rfl⟩)
      have c1 := cell_kept y1.cell (grownBy_putObj' wf D (.deferred none)) (fun r e => by cases e; exact ⟨_, hKf, rfl⟩)
      have c2 := cell_kept y2.cell (grownBy_putObj' wf D (.deferred none)) (fun r e => by cases e; exact ⟨_, hKf, rfl⟩)
      refine ⟨by simp, .inl ⟨_, _, rfl, run_takeDeferred hKf, ?_⟩⟩
      refine ⟨.tuple #[.string T, .int .i64 U, .nilIface], ?_, T, U, 0, rfl, by omega, ?_, hbf.trans (belowK_b (w := w) (Nat.le_refl _) wf D _ _ (by omega) hKf rfl rfl)⟩
      · simp [results, Tryz.f44, go_sem, c0, c1, c2]
      · rw [HE.out]
        rfl
  case stop =>
    rintro D c pre W hD hLeft ho hK
    obtain rfl := ho.cr
    obtain ⟨init, x, rfl, hx, hb2⟩ := ho.last
    have hun := hLeft init x rfl hx
    gi_wp2
    have c0 := cell_kept ho.r0.cell (grownBy_putObj' W D (.deferred none)) (fun r e => by cases e; exact ⟨_, hK, rfl⟩)
    have c1 := cell_kept ho.r1.cell (grownBy_putObj' W D (.deferred none)) (fun r e => by cases e; exact ⟨_, hK, rfl⟩)
    have c2 := cell_kept hb2.cell (grownBy_putObj' W D (.deferred none)) (fun r e => by cases e; exact ⟨_, hK, rfl⟩)
    refine ⟨by simp, .inl ⟨_, _, rfl, run_takeDeferred hK, ?_⟩⟩
    refine ⟨.tuple #[.string ⟨#[]⟩, .int .i64 0, errV m b x.1.2.2], ?_, ⟨#[]⟩, 0, x.1.2.2, rfl, x.2.2.2, ?_, ho.be.trans (belowK_b (w := w) (Nat.le_refl _) W D _ _ (by omega) hK rfl rfl)⟩
    · simp [results, Tryz.f44, go_sem, c0, c1, c2]
    · rw [hun]
      unfold tell
      rw [if_neg hx]
end Body
end Go.Proofs.YtkenmilglfnmbaaGreatDoor
