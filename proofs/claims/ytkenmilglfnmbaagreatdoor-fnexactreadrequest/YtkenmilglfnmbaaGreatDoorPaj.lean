/-
  RegTwo: One step through a region that draws its order: two operations that come up together.
  ReqLineImpl: request of the program's reader, where its line or its fields are not right: the steps of a request, one after the other; what is not right is thrown.
  ReqTakeImpl: request of the program's reader: the steps of a request, one after the other; what is not right is thrown.
  CatchImpl: messageCode of the program, and the closures that catch what a reader has thrown.
  ReqRdImpl: ReadRequest of the program: a request is read off a text; what was thrown is caught and told as a code.
  RespVal: A response as a value.
  RespOkSpec: ResponseOk of the specification: is an answer right?
-/
import Derived.Test.YtkenmilglfnmbaaGreatDoorRegLaw
import Derived.Test.YtkenmilglfnmbaaGreatDoorPai
import Derived.Test.YtkenmilglfnmbaaGreatDoorPaf
import Derived.Deep.Cut
import Derived.Test.YtkenmilglfnmbaaGreatDoorPae
import Derived.Tactics2
import Derived.Defers
import Derived.RegionTactic
import Derived.BigRegion
import Derived.ChangeAlike
import Derived.Test.YtkenmilglfnmbaaGreatDoorFlds
import Derived.Test.YtkenmilglfnmbaaGreatDoorPab
import Derived.Test.YtkenmilglfnmbaaGreatDoorPaa
namespace Go.Proofs.YtkenmilglfnmbaaGreatDoor
open Go.RowKit
set_option linter.unusedVariables false
namespace Reg

variable {P : Program} {ops : Array Oper} {Q : Exit → Act → World → Prop} {md : Region.Mode} {S : World → Prop}
theorem two {i j : Nat} {o p : Oper} {fuel : Nat} {listed : Array Bool} {a : Act} {w : World} (hi : ops.toList[i]? = some o) (hj : ops.toList[j]? = some p) (hr : Region.ready md ops listed = [i, j])
    (hwi : Region.wanted o (yielded ops a.tmps) = true) (hwj : Region.wanted p (yielded ops a.tmps) = true)
    (h1 : ∀ K' : Act → World → Prop, Shut (∀ a w, S w → (S w → wpAnyH P md ops Q S fuel (listed.setIfInBounds i true) a w) → K' a w) → Oper.wp P o a w K' Q)
    (h2 : ∀ K' : Act → World → Prop, Shut (∀ a w, S w → (S w → wpAnyH P md ops Q S fuel (listed.setIfInBounds j true) a w) → K' a w) → Oper.wp P p a w K' Q) : wpAnyH P md ops Q S (fuel + 1) listed a w :=
  wpAnyH_ready hr (by simp) (AllReadyH.cons (at_ hi) (fun K hK => by rw [if_pos hwi]; exact h1 K hK) (AllReadyH.cons (at_ hj) (fun K hK => by rw [if_pos hwj]; exact h2 K hK) AllReadyH.nil))
end Reg
end Go.Proofs.YtkenmilglfnmbaaGreatDoor
namespace Go.Proofs.YtkenmilglfnmbaaGreatDoor
open Go.RowKit
set_option linter.unusedVariables false
set_option linter.unusedSimpArgs false
namespace Msg
open Line (eol)

set_option maxRecDepth 100000 in
set_option maxHeartbeats 4000000 in
theorem request_line (g : Nat) (s : ByteArray) (v0 : Value) (m b : Addr) (W : World) (k : Nat) (h : Rd g s 0 v0 W) (hs : s.size ≤ 1048576) (hw : whole s = true) (hk : eol s 0 = some k) (hp : parted (s.extract 0 k) = false) (hG : ∀ X, W.grownBy X (some g) → Ground m b X) :
    Calls Tryz.prog 54 #[.pointer (some ⟨g, 0, none⟩)] W fun e w' => reqEnd g s m b W (readReq s) e w' := by
  have hkb := Line.eol_in hk
  have hgl := h.lt
  have S0 := Num.hide (St.first h)
  have HG := Num.hide hG
  rw [rq_line hw hk (unparted_ver hp)]
  have HF := Num.hide (fun W h (hG : Ground m b W) => first_no g s k v0 m b W h hs hk (by omega) hp hG.lim hG.errs)
  clear h hG hw hk hp hkb
  go_enter Tryz.func54, Tryz.ntmps54
  go_wp2_with fail
  refine (HF.out _ S0.out.rd (HG.out _ S0.out.grown)).mono ?_
  rintro e w1 ⟨rfl, hb1⟩
  have HE := Num.hide (ended g s m b W w1 2 (.inr rfl) (S0.out.step hb1).grown)
  unfold thrown at HE ⊢
  exact ⟨rfl, HE.out⟩
set_option maxRecDepth 100000 in
set_option maxHeartbeats 4000000 in
theorem request_ver (g : Nat) (s : ByteArray) (v0 : Value) (m b : Addr) (W : World) (k : Nat) (h : Rd g s 0 v0 W) (hs : s.size ≤ 1048576) (hw : whole s = true) (hk : eol s 0 = some k) (hp : parted (s.extract 0 k) = true) (hv : ¬ (words (s.extract 0 k)).2.2 = ver) (hG : ∀ X, W.grownBy X (some g) → Ground m b X) :
    Calls Tryz.prog 54 #[.pointer (some ⟨g, 0, none⟩)] W fun e w' => reqEnd g s m b W (readReq s) e w' := by
  have hkb := Line.eol_in hk
  have hgl := h.lt
  have S0 := Num.hide (St.first h)
  have HG := Num.hide hG
  rw [rq_line hw hk hv]
  have HF := Num.hide (fun W h (hG : Ground m b W) => first_yes g s k v0 m b W h hs hk (by omega) hp hG.lim hG.errs)
  have hws := words_size (s.extract 0 k)
  rw [ByteArray.size_extract] at hws
  have dv := ver_no hv
  clear h hG hw hk hp hkb hv
  generalize words (s.extract 0 k) = wd at HF hws dv
  obtain ⟨mm, uu, vv⟩ := wd
  simp only at HF hws dv
  go_enter Tryz.func54, Tryz.ntmps54
  go_wp2_with fail
  refine (HF.out _ S0.out.rd (HG.out _ S0.out.grown)).mono ?_
  rintro e w1 ⟨rfl, hr1, hg1⟩
  have S1 := Num.hide (S0.out.grow hg1 hgl hr1)
  clear hr1 hg1 S0 HF
  go_wp2_with fail
  refine (demand_no m b _ (HG.out _ S1.out.grown).errs).mono ?_
  rintro e w2 ⟨rfl, rfl⟩
  have HE := Num.hide (ended g s m b W w1 2 (.inr rfl) S1.out.grown)
  unfold thrown at HE ⊢
  exact ⟨rfl, HE.out⟩
set_option maxRecDepth 100000 in
set_option maxHeartbeats 4000000 in
theorem request_fields (g : Nat) (s : ByteArray) (v0 : Value) (m b : Addr) (W : World) (k : Nat) (h : Rd g s 0 v0 W) (hs : s.size ≤ 1048576) (hw : whole s = true) (hk : eol s 0 = some k) (hp : parted (s.extract 0 k) = true) (hv : (words (s.extract 0 k)).2.2 = ver) (hf : Flds.read (s.extract (k + 2) s.size) = none) (hG : ∀ X, W.grownBy X (some g) → Ground m b X) :
    Calls Tryz.prog 54 #[.pointer (some ⟨g, 0, none⟩)] W fun e w' => reqEnd g s m b W (readReq s) e w' := by
  have hkb := Line.eol_in hk
  have hgl := h.lt
  have S0 := Num.hide (St.first h)
  have HG := Num.hide hG
  rw [rq_fields hw hk hf]
  have HF := Num.hide (fun W h (hG : Ground m b W) => first_yes g s k v0 m b W h hs hk (by omega) hp hG.lim hG.errs)
  have hws := words_size (s.extract 0 k)
  rw [ByteArray.size_extract] at hws
  have HFl := Num.hide (fun v W h hG => fields_no g s (k + 2) v m b W h hs (by omega) hf hG)
  have dv := ver_yes hv
  clear h hG hw hk hp hkb hv hf
  generalize words (s.extract 0 k) = wd at HF hws dv
  obtain ⟨mm, uu, vv⟩ := wd
  simp only at HF hws dv
  go_enter Tryz.func54, Tryz.ntmps54
  go_wp2_with fail
  refine (HF.out _ S0.out.rd (HG.out _ S0.out.grown)).mono ?_
  rintro e w1 ⟨rfl, hr1, hg1⟩
  have S1 := Num.hide (S0.out.grow hg1 hgl hr1)
  clear hr1 hg1 S0 HF
  go_wp2_with fail
  refine (demand_yes _).mono ?_
  rintro e w2 ⟨rfl, rfl⟩
  go_wp2_with fail
  refine (HFl.out _ _ S1.out.rd (HG.out _ S1.out.grown)).mono ?_
  rintro e w3 ⟨rfl, hb3⟩
  have HE := Num.hide (ended g s m b W w3 2 (.inr rfl) (S1.out.step hb3).grown)
  unfold thrown at HE ⊢
  exact ⟨rfl, HE.out⟩
end Msg
end Go.Proofs.YtkenmilglfnmbaaGreatDoor
namespace Go.Proofs.YtkenmilglfnmbaaGreatDoor
open Go.RowKit
set_option linter.unusedVariables false
set_option linter.unusedSimpArgs false
namespace Msg
open Line (eol)

set_option maxRecDepth 100000 in
set_option maxHeartbeats 4000000 in
theorem request_put (g : Nat) (s : ByteArray) (v0 : Value) (m b : Addr) (W : World) (k : Nat) (h : Rd g s 0 v0 W) (hs : s.size ≤ 1048576) (hw : whole s = true) (hk : eol s 0 = some k) (hp : parted (s.extract 0 k) = true) (hv : (words (s.extract 0 k)).2.2 = ver) (l : List Flds.Fld) (n : Nat) (hf : Flds.read (s.extract (k + 2) s.size) = some (l, n)) (hG : ∀ X, W.grownBy X (some g) → Ground m b X) :
    Calls Tryz.prog 54 #[.pointer (some ⟨g, 0, none⟩)] W fun e w' => reqEnd g s m b W (readReq s) e w' := by
  have hkb := Line.eol_in hk
  have hgl := h.lt
  have S0 := Num.hide (St.first h)
  have HG := Num.hide hG
  have HF := Num.hide (fun W h (hG : Ground m b W) => first_yes g s k v0 m b W h hs hk (by omega) hp hG.lim hG.errs)
  have hws := words_size (s.extract 0 k)
  rw [ByteArray.size_extract] at hws
  have hnz : n ≤ (s.extract (k + 2) s.size).size := readGo_in _ _ _ _ _ (show Flds.readGo (s.extract (k + 2) s.size) 13 0 [] = some (l, n) from hf)
  rw [ByteArray.size_extract] at hnz
  have HFl := Num.hide (fun v W h hG => fields_yes g s (k + 2) v l n m b W h hs (by omega) hf (by omega) hG)
  have dv := ver_yes hv
  have hlb : Flds.bulk l ≤ 2000 := by have := readL_bulk (s.extract (k + 2) s.size); rw [(Flds.told_some hf).1] at this; exact this
  have hbb := bare_bulk l
  have HBr := Num.hide (fun v W h => bare_impl v l W h (by omega))
  have HR := Num.hide (fun h => rq_wrong hw hk hf h)
  have HR2 := Num.hide (fun h => rq_body hw hk hf hv h)
  have HB := Num.hide (fun v W h hI hG => takeBody_impl g s (k + 2 + n) v l false m b W h hs (by omega) hI (by omega) hG)
  have hbin := body_in l (s.extract (k + 2 + n) s.size) false
  clear h hG hw hk hp hv hf
  generalize readReq s = R at HR HR2 ⊢
  generalize Body.bodyOf l (s.extract (k + 2 + n) s.size) false = T at HR2 hbin HB
  generalize words (s.extract 0 k) = wd at HF hws dv HR HR2
  obtain ⟨mm, uu, vv⟩ := wd
  simp only at HF hws dv HR HR2
  have HOk := Num.hide (fun v W h hS => reqOk_impl mm uu v (bare l) ⟨#[]⟩ W h (by omega) (by omega) (by omega) (by decide) hS)
  have HCm := Num.hide (fun W => Shelf.clone mm W (by omega))
  have HCu := Num.hide (fun W => Shelf.clone uu W (by omega))
  unfold Req.val at HOk
  go_enter Tryz.func54, Tryz.ntmps54
  go_wp2_with fail
  refine (HF.out _ S0.out.rd (HG.out _ S0.out.grown)).mono ?_
  rintro e w1 ⟨rfl, hr1, hg1⟩
  have S1 := Num.hide (S0.out.grow hg1 hgl hr1)
  clear hr1 hg1 S0 HF
  go_wp2_with fail
  refine (demand_yes _).mono ?_
  rintro e w2 ⟨rfl, rfl⟩
  go_wp2_with fail
  refine (HFl.out _ _ S1.out.rd (HG.out _ S1.out.grown)).mono ?_
  rintro e w3 ⟨rfl, v3, hr3, ho3, hg3⟩
  have S3 := Num.hide (S1.out.grow hg3 hgl hr3)
  obtain ⟨a3, q3, hv3⟩ := Recs.own_len ho3
  subst hv3
  have O3 := Num.hide ho3
  clear hr3 hg3 ho3 S1 HFl
  obtain ⟨c0, c1, c2⟩ := S3.out.rd.cells
  go_upto_region 4 with fail
  go_cut [6] from 18 (fun qv wx => ∃ (gq : Nat) (vq : Value), qv = .pointer (some ⟨gq, 0, none⟩) ∧ w3.heap.size ≤ gq ∧ Hid (RBox gq mm uu vq ⟨#[]⟩ wx) ∧ Hid (Flds.Own w3.heap.size wx vq (bare l)) ∧ Hid (∀ j, vq.ownBlock = some j → j ≠ gq) ∧ Hid (Below w3.heap.size w3 wx))
  case first =>
    refine wp_region_held_drew (S := fun X => Below w3.heap.size w3 X) (by kernel_rfl) (Below.refl _ _).drew (fun hHeld => ?_)
    clear c0 c1 c2
    refine Reg.take (i := 0) (d := 18) (v := ?_) rfl rfl (by kernel_rfl) (by kernel_rfl) (by kernel_rfl) (fun _ _ _ h => h) (by rfl) ?_ hHeld ?_
    rotate_left
    · rintro X hX
      obtain ⟨g0, g1, g2⟩ := (S3.out.rd.step hX).cells
      first | (go_simp; done) | (go_simp; with_reducible rfl)
    simp only [Act.put, List.setIfInBounds_toArray, List.set_cons_zero, List.set_cons_succ]
    refine Reg.take (i := 2) (d := 20) (v := ?_) rfl rfl (by kernel_rfl) (by kernel_rfl) (by kernel_rfl) (fun _ _ _ h => h) (by rfl) ?_ hHeld ?_
    rotate_left
    · rintro X hX
      obtain ⟨g0, g1, g2⟩ := (S3.out.rd.step hX).cells
      first | (go_simp; done) | (go_simp; with_reducible rfl)
    simp only [Act.put, List.setIfInBounds_toArray, List.set_cons_zero, List.set_cons_succ]
    refine Reg.take (i := 4) (d := 22) (v := ?_) rfl rfl (by kernel_rfl) (by kernel_rfl) (by kernel_rfl) (fun _ _ _ h => h) (by rfl) ?_ hHeld ?_
    rotate_left
    · rintro X hX
      obtain ⟨g0, g1, g2⟩ := (S3.out.rd.step hX).cells
      first | (go_simp; done) | (go_simp; with_reducible rfl)
    simp only [Act.put, List.setIfInBounds_toArray, List.set_cons_zero, List.set_cons_succ]
    refine Reg.take (i := 5) (d := 23) (v := ?_) rfl rfl (by kernel_rfl) (by kernel_rfl) (by kernel_rfl) (fun _ _ _ h => h) (by rfl) ?_ hHeld ?_
    rotate_left
    · rintro X hX
      obtain ⟨g0, g1, g2⟩ := (S3.out.rd.step hX).cells
      first | (go_simp; done) | (go_simp; with_reducible rfl)
    simp only [Act.put, List.setIfInBounds_toArray, List.set_cons_zero, List.set_cons_succ]
    refine Reg.take (i := 6) (d := 24) (v := ?_) rfl rfl (by kernel_rfl) (by kernel_rfl) (by kernel_rfl) (fun _ _ _ h => h) (by rfl) ?_ hHeld ?_
    rotate_left
    · rintro X hX
      obtain ⟨g0, g1, g2⟩ := (S3.out.rd.step hX).cells
      first | (go_simp; done) | (go_simp; with_reducible rfl)
    simp only [Act.put, List.setIfInBounds_toArray, List.set_cons_zero, List.set_cons_succ]
    refine Reg.take (i := 7) (d := 25) (v := ?_) rfl rfl (by kernel_rfl) (by kernel_rfl) (by kernel_rfl) (fun _ _ _ h => h) (by rfl) ?_ hHeld ?_
    rotate_left
    · rintro X hX
      obtain ⟨g0, g1, g2⟩ := (S3.out.rd.step hX).cells
      first | (go_simp; done) | (go_simp; with_reducible rfl)
    simp only [Act.put, List.setIfInBounds_toArray, List.set_cons_zero, List.set_cons_succ]
    have hHw := hHeld
    generalize w3.drew = Y0 at hHeld ⊢
    clear hHw
    refine Reg.two (i := 1) (j := 10) rfl rfl (by kernel_rfl) (by rfl) (by rfl) (fun K hK => ?_) (fun K hK => ?_)
    · go_wp2_with (first | (go_at_call 106; refine (HCm.out _).mono ?_; rintro e Y1 ⟨rfl, hb1⟩))
      refine hK.out _ _ ?_ (fun hHeld2 => ?_)
      · exact hHeld.trans (hb1.mono hHeld.size)
      clear hK K hHeld hb1
      replace hHeld := hHeld2
      clear hHeld2
      refine Reg.two (i := 3) (j := 10) rfl rfl (by kernel_rfl) (by rfl) (by rfl) (fun K hK => ?_) (fun K hK => ?_)
      · go_wp2_with (first | (go_at_call 106; refine (HCu.out _).mono ?_; rintro e Y2 ⟨rfl, hb2⟩))
        refine hK.out _ _ ?_ (fun hHeld2 => ?_)
        · exact hHeld.trans (hb2.mono hHeld.size)
        clear hK K hHeld hb2
        replace hHeld := hHeld2
        clear hHeld2
        refine Reg.two (i := 8) (j := 10) rfl rfl (by kernel_rfl) (by rfl) (by rfl) (fun K hK => ?_) (fun K hK => ?_)
        · go_wp2_with (first | (go_at_call 107; refine (HBr.out _ _ (Recs.is_below (Recs.own_is Flds.cells_len O3.out) hHeld)).mono ?_; rintro e Y3 ⟨vq, rfl, ho3, hb3⟩; obtain ⟨aq, cq, hvq⟩ := Recs.own_len ho3; subst hvq))
          have OQ3 := Num.hide (Recs.own_mono ho3 hHeld.size)
          refine hK.out _ _ ?_ (fun hHeld2 => ?_)
          · exact hHeld.trans (hb3.mono hHeld.size)
          clear hK K hHeld hb3
          replace hHeld := hHeld2
          clear hHeld2
          refine Reg.take (i := 9) (d := 27) (v := ?_) rfl rfl (by kernel_rfl) (by kernel_rfl) (by kernel_rfl) (fun _ _ _ h => h) (by rfl) ?_ hHeld ?_
          rotate_left
          · rintro X hX
            obtain ⟨g0, g1, g2⟩ := (S3.out.rd.step hX).cells
            first | (go_simp; done) | (go_simp; with_reducible rfl)
          simp only [Act.put, List.setIfInBounds_toArray, List.set_cons_zero, List.set_cons_succ]
          refine Reg.call (i := 10) rfl (by kernel_rfl) (by rfl) (fun K hK => ?_)
          go_wp2
          have AL4 : Hid (zBox Y3.heap.size (Y3.alloc (.cells #[.string ⟨#[]⟩, .string ⟨#[]⟩, .slice none 0 0, .string ⟨#[]⟩] 39))) := heap_alloc_new Y3 _
          have hb4 : Below Y3.heap.size Y3 (Y3.alloc (.cells #[.string ⟨#[]⟩, .string ⟨#[]⟩, .slice none 0 0, .string ⟨#[]⟩] 39)) := (Below.refl _ _).alloc (Nat.le_refl _) _
          have hgq : w3.heap.size ≤ Y3.heap.size := hHeld.size
          have NQ : Hid (∀ j, (Value.slice aq (bare l).length cq).ownBlock = some j → j ≠ Y3.heap.size) := fun j hj => by have := (Recs.own_lt OQ3.out j hj).2; omega
          have OQ4 := Num.hide (Recs.own_below OQ3.out hb4)
          refine hK.out _ _ ?_ (fun hHeld2 => ?_)
          · exact hHeld.trans (hb4.mono hHeld.size)
          clear hK K hHeld hb4
          generalize Y3.alloc (.cells #[.string ⟨#[]⟩, .string ⟨#[]⟩, .slice none 0 0, .string ⟨#[]⟩] 39) = Y4 at *
          generalize Y3.heap.size = gq at *
          replace hHeld := hHeld2
          clear hHeld2
          refine Reg.call (i := 11) rfl (by kernel_rfl) (by rfl) (fun K hK => ?_)
          obtain ⟨z0, z1, z2, z3⟩ := RBox.thaw AL4.out
          obtain ⟨k0, k1, k2, k3⟩ := RBox.cells AL4.out
          have FB := Num.hide (RBox.fill AL4.out mm uu (Value.slice aq (bare l).length cq))
          have FS := Num.hide ((((hHeld.setCell (p := ⟨gq, 0, none⟩) hgq (.string mm)).setCell (p := ⟨gq, 1, none⟩) hgq (.string uu)).setCell (p := ⟨gq, 2, none⟩) hgq (Value.slice aq (bare l).length cq)).setCell (p := ⟨gq, 3, none⟩) hgq (.string ⟨#[]⟩))
          have FO := Num.hide (Recs.own_set (Recs.own_set (Recs.own_set (Recs.own_set OQ4.out gq 0 (.string mm) NQ.out) gq 1 (.string uu) NQ.out) gq 2 (Value.slice aq (bare l).length cq) NQ.out) gq 3 (.string ⟨#[]⟩) NQ.out)
          go_wp2
          refine hK.out _ _ ?_ (fun hHeld2 => ?_)
          · exact FS.out
          clear hK K hHeld2
          refine wpAnyH_done (by kernel_rfl) ?_ _
          go_wp2
          go_meet
          case rel => exact ⟨gq, _, rfl, hgq, FB, FO, NQ, FS⟩
        · go_wp2
          have AL3 : Hid (zBox Y2.heap.size (Y2.alloc (.cells #[.string ⟨#[]⟩, .string ⟨#[]⟩, .slice none 0 0, .string ⟨#[]⟩] 39))) := heap_alloc_new Y2 _
          have hb3 : Below Y2.heap.size Y2 (Y2.alloc (.cells #[.string ⟨#[]⟩, .string ⟨#[]⟩, .slice none 0 0, .string ⟨#[]⟩] 39)) := (Below.refl _ _).alloc (Nat.le_refl _) _
          have hgq : w3.heap.size ≤ Y2.heap.size := hHeld.size
          refine hK.out _ _ ?_ (fun hHeld2 => ?_)
          · exact hHeld.trans (hb3.mono hHeld.size)
          clear hK K hHeld hb3
          generalize Y2.alloc (.cells #[.string ⟨#[]⟩, .string ⟨#[]⟩, .slice none 0 0, .string ⟨#[]⟩] 39) = Y3 at *
          generalize Y2.heap.size = gq at *
          replace hHeld := hHeld2
          clear hHeld2
          refine Reg.call (i := 8) rfl (by kernel_rfl) (by rfl) (fun K hK => ?_)
          go_wp2_with (first | (go_at_call 107; refine (HBr.out _ _ (Recs.is_below (Recs.own_is Flds.cells_len O3.out) hHeld)).mono ?_; rintro e Y4 ⟨vq, rfl, ho4, hb4⟩; obtain ⟨aq, cq, hvq⟩ := Recs.own_len ho4; subst hvq))
          have OQ4 := Num.hide (Recs.own_mono ho4 hHeld.size)
          have NQ : Hid (∀ j, (Value.slice aq (bare l).length cq).ownBlock = some j → j ≠ gq) := fun j hj => by have := (Recs.own_lt ho4 j hj).1; have := AL3.out.lt; omega
          have AL4 := Num.hide (AL3.out.step hb4)
          refine hK.out _ _ ?_ (fun hHeld2 => ?_)
          · exact hHeld.trans (hb4.mono hHeld.size)
          clear hK K hHeld hb4
          replace hHeld := hHeld2
          clear hHeld2
          refine Reg.take (i := 9) (d := 27) (v := ?_) rfl rfl (by kernel_rfl) (by kernel_rfl) (by kernel_rfl) (fun _ _ _ h => h) (by rfl) ?_ hHeld ?_
          rotate_left
          · rintro X hX
            obtain ⟨g0, g1, g2⟩ := (S3.out.rd.step hX).cells
            first | (go_simp; done) | (go_simp; with_reducible rfl)
          simp only [Act.put, List.setIfInBounds_toArray, List.set_cons_zero, List.set_cons_succ]
          refine Reg.call (i := 11) rfl (by kernel_rfl) (by rfl) (fun K hK => ?_)
          obtain ⟨z0, z1, z2, z3⟩ := RBox.thaw AL4.out
          obtain ⟨k0, k1, k2, k3⟩ := RBox.cells AL4.out
          have FB := Num.hide (RBox.fill AL4.out mm uu (Value.slice aq (bare l).length cq))
          have FS := Num.hide ((((hHeld.setCell (p := ⟨gq, 0, none⟩) hgq (.string mm)).setCell (p := ⟨gq, 1, none⟩) hgq (.string uu)).setCell (p := ⟨gq, 2, none⟩) hgq (Value.slice aq (bare l).length cq)).setCell (p := ⟨gq, 3, none⟩) hgq (.string ⟨#[]⟩))
          have FO := Num.hide (Recs.own_set (Recs.own_set (Recs.own_set (Recs.own_set OQ4.out gq 0 (.string mm) NQ.out) gq 1 (.string uu) NQ.out) gq 2 (Value.slice aq (bare l).length cq) NQ.out) gq 3 (.string ⟨#[]⟩) NQ.out)
          go_wp2
          refine hK.out _ _ ?_ (fun hHeld2 => ?_)
          · exact FS.out
          clear hK K hHeld2
          refine wpAnyH_done (by kernel_rfl) ?_ _
          go_wp2
          go_meet
          case rel => exact ⟨gq, _, rfl, hgq, FB, FO, NQ, FS⟩
      · go_wp2
        have AL2 : Hid (zBox Y1.heap.size (Y1.alloc (.cells #[.string ⟨#[]⟩, .string ⟨#[]⟩, .slice none 0 0, .string ⟨#[]⟩] 39))) := heap_alloc_new Y1 _
        have hb2 : Below Y1.heap.size Y1 (Y1.alloc (.cells #[.string ⟨#[]⟩, .string ⟨#[]⟩, .slice none 0 0, .string ⟨#[]⟩] 39)) := (Below.refl _ _).alloc (Nat.le_refl _) _
        have hgq : w3.heap.size ≤ Y1.heap.size := hHeld.size
        refine hK.out _ _ ?_ (fun hHeld2 => ?_)
        · exact hHeld.trans (hb2.mono hHeld.size)
        clear hK K hHeld hb2
        generalize Y1.alloc (.cells #[.string ⟨#[]⟩, .string ⟨#[]⟩, .slice none 0 0, .string ⟨#[]⟩] 39) = Y2 at *
        generalize Y1.heap.size = gq at *
        replace hHeld := hHeld2
        clear hHeld2
        refine Reg.call (i := 3) rfl (by kernel_rfl) (by rfl) (fun K hK => ?_)
        go_wp2_with (first | (go_at_call 106; refine (HCu.out _).mono ?_; rintro e Y3 ⟨rfl, hb3⟩))
        have AL3 := Num.hide (AL2.out.step hb3)
        refine hK.out _ _ ?_ (fun hHeld2 => ?_)
        · exact hHeld.trans (hb3.mono hHeld.size)
        clear hK K hHeld hb3
        replace hHeld := hHeld2
        clear hHeld2
        refine Reg.call (i := 8) rfl (by kernel_rfl) (by rfl) (fun K hK => ?_)
        go_wp2_with (first | (go_at_call 107; refine (HBr.out _ _ (Recs.is_below (Recs.own_is Flds.cells_len O3.out) hHeld)).mono ?_; rintro e Y4 ⟨vq, rfl, ho4, hb4⟩; obtain ⟨aq, cq, hvq⟩ := Recs.own_len ho4; subst hvq))
        have OQ4 := Num.hide (Recs.own_mono ho4 hHeld.size)
        have NQ : Hid (∀ j, (Value.slice aq (bare l).length cq).ownBlock = some j → j ≠ gq) := fun j hj => by have := (Recs.own_lt ho4 j hj).1; have := AL3.out.lt; omega
        have AL4 := Num.hide (AL3.out.step hb4)
        refine hK.out _ _ ?_ (fun hHeld2 => ?_)
        · exact hHeld.trans (hb4.mono hHeld.size)
        clear hK K hHeld hb4
        replace hHeld := hHeld2
        clear hHeld2
        refine Reg.take (i := 9) (d := 27) (v := ?_) rfl rfl (by kernel_rfl) (by kernel_rfl) (by kernel_rfl) (fun _ _ _ h => h) (by rfl) ?_ hHeld ?_
        rotate_left
        · rintro X hX
          obtain ⟨g0, g1, g2⟩ := (S3.out.rd.step hX).cells
          first | (go_simp; done) | (go_simp; with_reducible rfl)
        simp only [Act.put, List.setIfInBounds_toArray, List.set_cons_zero, List.set_cons_succ]
        refine Reg.call (i := 11) rfl (by kernel_rfl) (by rfl) (fun K hK => ?_)
        obtain ⟨z0, z1, z2, z3⟩ := RBox.thaw AL4.out
        obtain ⟨k0, k1, k2, k3⟩ := RBox.cells AL4.out
        have FB := Num.hide (RBox.fill AL4.out mm uu (Value.slice aq (bare l).length cq))
        have FS := Num.hide ((((hHeld.setCell (p := ⟨gq, 0, none⟩) hgq (.string mm)).setCell (p := ⟨gq, 1, none⟩) hgq (.string uu)).setCell (p := ⟨gq, 2, none⟩) hgq (Value.slice aq (bare l).length cq)).setCell (p := ⟨gq, 3, none⟩) hgq (.string ⟨#[]⟩))
        have FO := Num.hide (Recs.own_set (Recs.own_set (Recs.own_set (Recs.own_set OQ4.out gq 0 (.string mm) NQ.out) gq 1 (.string uu) NQ.out) gq 2 (Value.slice aq (bare l).length cq) NQ.out) gq 3 (.string ⟨#[]⟩) NQ.out)
        go_wp2
        refine hK.out _ _ ?_ (fun hHeld2 => ?_)
        · exact FS.out
        clear hK K hHeld2
        refine wpAnyH_done (by kernel_rfl) ?_ _
        go_wp2
        go_meet
        case rel => exact ⟨gq, _, rfl, hgq, FB, FO, NQ, FS⟩
    · go_wp2
      have AL1 : Hid (zBox Y0.heap.size (Y0.alloc (.cells #[.string ⟨#[]⟩, .string ⟨#[]⟩, .slice none 0 0, .string ⟨#[]⟩] 39))) := heap_alloc_new Y0 _
      have hb1 : Below Y0.heap.size Y0 (Y0.alloc (.cells #[.string ⟨#[]⟩, .string ⟨#[]⟩, .slice none 0 0, .string ⟨#[]⟩] 39)) := (Below.refl _ _).alloc (Nat.le_refl _) _
      have hgq : w3.heap.size ≤ Y0.heap.size := hHeld.size
      refine hK.out _ _ ?_ (fun hHeld2 => ?_)
      · exact hHeld.trans (hb1.mono hHeld.size)
      clear hK K hHeld hb1
      generalize Y0.alloc (.cells #[.string ⟨#[]⟩, .string ⟨#[]⟩, .slice none 0 0, .string ⟨#[]⟩] 39) = Y1 at *
      generalize Y0.heap.size = gq at *
      replace hHeld := hHeld2
      clear hHeld2
      refine Reg.call (i := 1) rfl (by kernel_rfl) (by rfl) (fun K hK => ?_)
      go_wp2_with (first | (go_at_call 106; refine (HCm.out _).mono ?_; rintro e Y2 ⟨rfl, hb2⟩))
      have AL2 := Num.hide (AL1.out.step hb2)
      refine hK.out _ _ ?_ (fun hHeld2 => ?_)
      · exact hHeld.trans (hb2.mono hHeld.size)
      clear hK K hHeld hb2
      replace hHeld := hHeld2
      clear hHeld2
      refine Reg.call (i := 3) rfl (by kernel_rfl) (by rfl) (fun K hK => ?_)
      go_wp2_with (first | (go_at_call 106; refine (HCu.out _).mono ?_; rintro e Y3 ⟨rfl, hb3⟩))
      have AL3 := Num.hide (AL2.out.step hb3)
      refine hK.out _ _ ?_ (fun hHeld2 => ?_)
      · exact hHeld.trans (hb3.mono hHeld.size)
      clear hK K hHeld hb3
      replace hHeld := hHeld2
      clear hHeld2
      refine Reg.call (i := 8) rfl (by kernel_rfl) (by rfl) (fun K hK => ?_)
      go_wp2_with (first | (go_at_call 107; refine (HBr.out _ _ (Recs.is_below (Recs.own_is Flds.cells_len O3.out) hHeld)).mono ?_; rintro e Y4 ⟨vq, rfl, ho4, hb4⟩; obtain ⟨aq, cq, hvq⟩ := Recs.own_len ho4; subst hvq))
      have OQ4 := Num.hide (Recs.own_mono ho4 hHeld.size)
      have NQ : Hid (∀ j, (Value.slice aq (bare l).length cq).ownBlock = some j → j ≠ gq) := fun j hj => by have := (Recs.own_lt ho4 j hj).1; have := AL3.out.lt; omega
      have AL4 := Num.hide (AL3.out.step hb4)
      refine hK.out _ _ ?_ (fun hHeld2 => ?_)
      · exact hHeld.trans (hb4.mono hHeld.size)
      clear hK K hHeld hb4
      replace hHeld := hHeld2
      clear hHeld2
      refine Reg.take (i := 9) (d := 27) (v := ?_) rfl rfl (by kernel_rfl) (by kernel_rfl) (by kernel_rfl) (fun _ _ _ h => h) (by rfl) ?_ hHeld ?_
      rotate_left
      · rintro X hX
        obtain ⟨g0, g1, g2⟩ := (S3.out.rd.step hX).cells
        first | (go_simp; done) | (go_simp; with_reducible rfl)
      simp only [Act.put, List.setIfInBounds_toArray, List.set_cons_zero, List.set_cons_succ]
      refine Reg.call (i := 11) rfl (by kernel_rfl) (by rfl) (fun K hK => ?_)
      obtain ⟨z0, z1, z2, z3⟩ := RBox.thaw AL4.out
      obtain ⟨k0, k1, k2, k3⟩ := RBox.cells AL4.out
      have FB := Num.hide (RBox.fill AL4.out mm uu (Value.slice aq (bare l).length cq))
      have FS := Num.hide ((((hHeld.setCell (p := ⟨gq, 0, none⟩) hgq (.string mm)).setCell (p := ⟨gq, 1, none⟩) hgq (.string uu)).setCell (p := ⟨gq, 2, none⟩) hgq (Value.slice aq (bare l).length cq)).setCell (p := ⟨gq, 3, none⟩) hgq (.string ⟨#[]⟩))
      have FO := Num.hide (Recs.own_set (Recs.own_set (Recs.own_set (Recs.own_set OQ4.out gq 0 (.string mm) NQ.out) gq 1 (.string uu) NQ.out) gq 2 (Value.slice aq (bare l).length cq) NQ.out) gq 3 (.string ⟨#[]⟩) NQ.out)
      go_wp2
      refine hK.out _ _ ?_ (fun hHeld2 => ?_)
      · exact FS.out
      clear hK K hHeld2
      refine wpAnyH_done (by kernel_rfl) ?_ _
      go_wp2
      go_meet
      case rel => exact ⟨gq, _, rfl, hgq, FB, FO, NQ, FS⟩
  case rest =>
    obtain ⟨gq, vq, rfl, hgq, FB, FO, NQ, FS⟩ := hcut
    have S4 := Num.hide (S3.out.step FS.out)
    have O4 := Num.hide (Recs.own_below O3.out FS.out)
    have hg3 := S3.out.grown.size
    have hb3 := S3.out.box.lt
    have hwl := S4.out.grown.size
    clear c0 c1 c2 HBr HCm HCu dv
    obtain ⟨aq, cq, hvq⟩ := Recs.own_len FO.out
    subst hvq
    obtain ⟨k0, k1, k2, k3⟩ := RBox.cells FB.out
    go_wp2_with fail
    refine (HOk.out _ _ (Recs.own_is Flds.cells_len FO.out) (HG.out _ S4.out.grown).signs).mono ?_
    rintro e w5 ⟨rfl, hb5⟩
    have S5 := Num.hide (S4.out.step hb5)
    have O5 := Num.hide (Recs.own_below O4.out hb5)
    have FO5 := Num.hide (Recs.own_below FO.out hb5)
    have FB5 := Num.hide (RBox.step FB.out hb5)
    have hz5 := hb5.size
    clear hb5 k0 k1 k2 k3 S4 O4 FO FB HOk S3 O3
    cases hok : reqOk mm uu (bare l) ⟨#[]⟩ with
    | false =>
      have hR := HR.out hok
      subst hR
      clear HR2 HB hok
      go_wp2_with fail
      refine (demand_no m b _ (HG.out _ S5.out.grown).errs).mono ?_
      rintro e w6 ⟨rfl, rfl⟩
      have HE := Num.hide (ended g s m b W w5 2 (.inr rfl) S5.out.grown)
      unfold thrown at HE ⊢
      exact ⟨rfl, HE.out⟩
    | true =>
      have hR := HR2.out hok
      clear HR HR2 hok
      go_wp2_with fail
      refine (demand_yes _).mono ?_
      rintro e w6 ⟨rfl, rfl⟩
      go_wp2_with fail
      refine (HB.out _ _ S5.out.rd (Recs.own_is Flds.cells_len O5.out) (HG.out _ S5.out.grown)).mono ?_
      rintro e w6 hbe
      clear HB
      unfold bodyEnd at hbe
      obtain ⟨hg6, hif⟩ := hbe
      by_cases h0 : T.2.2 = 0
      · rw [if_pos h0] at hif hR
        obtain ⟨rfl, hr6⟩ := hif
        obtain ⟨_, hu0, _⟩ := hbin h0
        subst hR
        have S6 := Num.hide (S5.out.grow hg6 hgl hr6)
        have FO6 := Num.hide (Recs.own_kept FO5.out hg6 (by
          cases hv : (Value.slice aq (bare l).length cq).ownBlock with
          | none => exact .inl rfl
          | some j => exact .inr (fun e => by have := (Recs.own_lt FO5.out j hv).1; have e2 := Option.some.inj e; omega)))
        have FB6 := Num.hide (RBox.mark FB5.out hg6 (fun j hj => by have := Option.some.inj hj; omega))
        have hwr : W.heap.size < w3.heap.size := hb3
        have hnr : ∀ j, (Value.slice aq (bare l).length cq).ownBlock = some j → j ≠ W.heap.size := fun j hj => by have := (Recs.own_lt FO6.out j hj).1; omega
        have HE : Hid (reqEnd g s m b W ((mm, uu, bare l, T.1), ((k + 2 + n : Nat) : Int) + T.2.1, 0) (.returned (.agg #[.string mm, .string uu, .slice aq (bare l).length cq, .string T.1])) (((((w6.setCell ⟨gq, 3, none⟩ (.string T.1)).setCell ⟨W.heap.size, 0, none⟩ (.string mm)).setCell ⟨W.heap.size, 1, none⟩ (.string uu)).setCell ⟨W.heap.size, 2, none⟩ (.slice aq (bare l).length cq)).setCell ⟨W.heap.size, 3, none⟩ (.string T.1))) := by
          refine ⟨grown_far (grown_far (grown_far (grown_far (grown_far S6.out.grown gq 3 _ (by omega)) _ 0 _ (Nat.le_refl _)) _ 1 _ (Nat.le_refl _)) _ 2 _ (Nat.le_refl _)) _ 3 _ (Nat.le_refl _), ?_⟩
          rw [if_pos rfl]
          refine ⟨_, rfl, Recs.own_mono (Recs.own_set (Recs.own_set (Recs.own_set (Recs.own_set (Recs.own_set FO6.out gq 3 _ NQ.out) _ 0 _ hnr) _ 1 _ hnr) _ 2 _ hnr) _ 3 _ hnr) (by omega), .slice a3 l.length q3, k + 2 + n + T.2.1.toNat, by show ((k + 2 + n : Nat) : Int) + T.2.1 = ((k + 2 + n + T.2.1.toNat : Nat) : Int); omega, ?_⟩
          exact Recs.box_far (Recs.box_far (Recs.box_far (Recs.box_far (Recs.box_far hr6 _ (by omega)) _ (by omega)) _ (by omega)) _ (by omega)) _ (by omega)
        obtain ⟨k0, k1, k2, k3⟩ := RBox.cells FB6.out
        have z3 := (RBox.thaw FB6.out).2.2.2
        obtain ⟨o0, o1, o2, o3⟩ := RBox.cells S6.out.box
        obtain ⟨y0, y1, y2, y3⟩ := RBox.thaw S6.out.box
        obtain ⟨r, hr⟩ : ∃ r, W.heap.size = r := ⟨_, rfl⟩
        rw [hr] at HE o0 o1 o2 o3 y0 y1 y2 y3 ⊢
        have n1 : ¬ gq = r := by omega
        have n2 : ¬ r = gq := by omega
        clear hg6 hr6 S6 FO6 FB6 S5 O5 FO5 FB5 hnr hbin h0
        go_wp2
        exact bodyPost_ret (v := .agg #[.string mm, .string uu, .slice aq (bare l).length cq, .string T.1]) (by simp [results, Tryz.results54, go_sem, *]) rfl HE.out
      · rw [if_neg h0] at hif hR
        obtain ⟨hc, rfl⟩ := hif
        have hgr := Recs.grown_trans S5.out.grown hg6
        have HE : Hid (reqEnd g s m b W R (thrown m b T.2.2.toNat) w6) := by
          rw [hR]
          rcases hc with h1 | h1
          · rw [h1]; exact ended g s m b W w6 1 (.inl rfl) hgr
          · rw [h1]; exact ended g s m b W w6 2 (.inr rfl) hgr
        clear hR hc hgr hbin
        unfold thrown at HE ⊢
        exact ⟨rfl, HE.out⟩
end Msg
end Go.Proofs.YtkenmilglfnmbaaGreatDoor
namespace Go.Proofs.YtkenmilglfnmbaaGreatDoor
open Go.RowKit Go.Extern.Stop Go.Stop
set_option linter.unusedVariables false
namespace Msg

set_option maxRecDepth 100000 in
set_option maxHeartbeats 2000000 in
theorem code_more (m b : Addr) (w : World) (hE : Body.Errs m b w) : Calls Tryz.prog 101 #[Body.errV m b 1] w fun e w' => e = .returned (.int .i64 1) ∧ w = w' := by
  have hm := hE.cm
  have HI := Num.hide (IsErr.is_same m w)
  clear hE
  show Calls _ _ #[.iface 199 (.pointer (some m))] _ _
  go_enter Tryz.func101, Tryz.ntmps101
  go_wp2_with fail
  refine HI.out.mono ?_
  rintro e w1 ⟨rfl, rfl⟩
  go_wp2
  go_ret
  exact ⟨rfl, rfl⟩
set_option maxRecDepth 100000 in
set_option maxHeartbeats 2000000 in
theorem code_bad (m b : Addr) (w : World) (hE : Body.Errs m b w) : Calls Tryz.prog 101 #[Body.errV m b 2] w fun e w' => e = .returned (.int .i64 2) ∧ w = w' := by
  have hm := hE.cm
  obtain ⟨ca, ta, ha⟩ := hE.rm
  obtain ⟨cb, tb, hb⟩ := hE.rb
  have HI := Num.hide (IsErr.is_other b m _ _ _ _ w (fun e => hE.ne e.symm) hb ha)
  clear hE ha hb
  show Calls _ _ #[.iface 199 (.pointer (some b))] _ _
  go_enter Tryz.func101, Tryz.ntmps101
  go_wp2_with fail
  refine HI.out.mono ?_
  rintro e w1 ⟨rfl, rfl⟩
  go_wp2
  go_ret
  exact ⟨rfl, rfl⟩
theorem code_impl (m b : Addr) (c : Nat) (hc : c = 1 ∨ c = 2) (w : World) (hE : Body.Errs m b w) : Calls Tryz.prog 101 #[Body.errV m b c] w fun e w' => e = .returned (.int .i64 (c : Int)) ∧ w = w' := by
  rcases hc with rfl | rfl
  · exact code_more m b w hE
  · exact code_bad m b w hE
theorem asserts (m b : Addr) (c : Nat) (hc : c = 1 ∨ c = 2) (xT : TypeId) (w : World) : (Instr.typeAssert (Body.errV m b c) xT 71 true).run Tryz.prog w = .ok (.tuple #[Body.errV m b c, .bool true]) w := by
  rcases hc with rfl | rfl
  · exact run_typeAssert_hasB Tryz.underlying71 (by kernel_rfl) (.pointer (some m)) xT w
  · exact run_typeAssert_hasB Tryz.underlying71 (by kernel_rfl) (.pointer (some b)) xT w
theorem asserts_nil (xT : TypeId) (w : World) : (Instr.typeAssert .nilIface xT 71 true).run Tryz.prog w = .ok (.tuple #[.nilIface, .bool false]) w := by kernel_rfl
set_option maxRecDepth 100000 in
set_option maxHeartbeats 400000 in
theorem catch_throw (p : Addr) (c : Nat) (hc : c = 1 ∨ c = 2) (x : Int) (m b : Addr) (w : World) (hE : Body.Errs m b w) (hp : w.cell? p = some (.int .i64 x)) (hz : w.frozen? p = false) :
    CallsD Tryz.prog 100 #[.pointer (some p)] (.panicking [{ v := Body.errV m b c, recovered := false }]) w fun e u' w' => e = .returned (.tuple #[]) ∧ u' = .panicking [{ v := Body.errV m b c, recovered := true }] ∧ w' = w.setCell p (.int .i64 (c : Int)) := by
  have hA := asserts m b c hc
  have HC := Num.hide (code_impl m b c hc w hE)
  clear hE
  generalize Body.errV m b c = ev at hA HC ⊢
  refine callsD_of_wpS Tryz.func100 rfl fun c₀ cs hu => ?_
  apply wpS_seq
  apply wpS_region
  simp [wpOpsS, go_sem, recoverD, hu, Tryz.ntmps100, Exit.thenS, hA]
  apply wpS_seq
  apply wpS_region
  simp [wpOpsS, go_sem, Exit.thenS]
  refine wpS_cond (t := true) (by simp [Act.eval, Array.replicate]) ?_
  simp only [if_true]
  apply wpS_region
  simp [wpOpsS, go_sem, Array.replicate]
  refine HC.out.mono ?_
  rintro e w1 ⟨rfl, rfl⟩
  simp [go_sem, hp, hz, bodyPostS, results, Tryz.results100]
set_option maxRecDepth 100000 in
set_option maxHeartbeats 2000000 in
theorem catch_idle (p : Addr) (w : World) :
    CallsD Tryz.prog 100 #[.pointer (some p)] .returning w fun e u' w' => e = .returned (.tuple #[]) ∧ u' = .returning ∧ w' = w := by
  have hA := asserts_nil
  refine callsD_of_wpS Tryz.func100 rfl fun c₀ cs hu => ?_
  apply wpS_seq
  apply wpS_region
  simp [wpOpsS, go_sem, recoverD, hu, Tryz.ntmps100, Exit.thenS, hA]
  apply wpS_seq
  apply wpS_region
  simp [wpOpsS, go_sem, Exit.thenS]
  refine wpS_cond (t := false) (by simp [Act.eval, Array.replicate]) ?_
  simp only [Bool.false_eq_true, if_false]
  refine wpS_of_wp (wp_skip ?_)
  cases c₀
  simp_all [bodyPostS, results, Tryz.results100]
set_option maxRecDepth 100000 in
set_option maxHeartbeats 400000 in
theorem catch_throw3 (p : Addr) (c : Nat) (hc : c = 1 ∨ c = 2) (x : Int) (m b : Addr) (w : World) (hE : Body.Errs m b w) (hp : w.cell? p = some (.int .i64 x)) (hz : w.frozen? p = false) :
    CallsD Tryz.prog 114 #[.pointer (some p)] (.panicking [{ v := Body.errV m b c, recovered := false }]) w fun e u' w' => e = .returned (.tuple #[]) ∧ u' = .panicking [{ v := Body.errV m b c, recovered := true }] ∧ w' = w.setCell p (.int .i64 (c : Int)) := by
  have hA := asserts m b c hc
  have HC := Num.hide (code_impl m b c hc w hE)
  clear hE
  generalize Body.errV m b c = ev at hA HC ⊢
  refine callsD_of_wpS Tryz.func114 rfl fun c₀ cs hu => ?_
  apply wpS_seq
  apply wpS_region
  simp [wpOpsS, go_sem, recoverD, hu, Tryz.ntmps114, Exit.thenS, hA]
  apply wpS_seq
  apply wpS_region
  simp [wpOpsS, go_sem, Exit.thenS]
  refine wpS_cond (t := true) (by simp [Act.eval, Array.replicate]) ?_
  simp only [if_true]
  apply wpS_region
  simp [wpOpsS, go_sem, Array.replicate]
  refine HC.out.mono ?_
  rintro e w1 ⟨rfl, rfl⟩
  simp [go_sem, hp, hz, bodyPostS, results, Tryz.results114]
set_option maxRecDepth 100000 in
set_option maxHeartbeats 2000000 in
theorem catch_idle3 (p : Addr) (w : World) :
    CallsD Tryz.prog 114 #[.pointer (some p)] .returning w fun e u' w' => e = .returned (.tuple #[]) ∧ u' = .returning ∧ w' = w := by
  have hA := asserts_nil
  refine callsD_of_wpS Tryz.func114 rfl fun c₀ cs hu => ?_
  apply wpS_seq
  apply wpS_region
  simp [wpOpsS, go_sem, recoverD, hu, Tryz.ntmps114, Exit.thenS, hA]
  apply wpS_seq
  apply wpS_region
  simp [wpOpsS, go_sem, Exit.thenS]
  refine wpS_cond (t := false) (by simp [Act.eval, Array.replicate]) ?_
  simp only [Bool.false_eq_true, if_false]
  refine wpS_of_wp (wp_skip ?_)
  cases c₀
  simp_all [bodyPostS, results, Tryz.results114]
end Msg
end Go.Proofs.YtkenmilglfnmbaaGreatDoor
namespace Go.Proofs.YtkenmilglfnmbaaGreatDoor
open Go.RowKit
set_option linter.unusedVariables false
set_option linter.unusedSimpArgs false
namespace Msg
open Line (eol)

theorem request_impl (g : Nat) (s : ByteArray) (v0 : Value) (m b : Addr) (W : World) (h : Rd g s 0 v0 W) (hs : s.size ≤ 1048576) (hw : whole s = true) (hG : ∀ X, W.grownBy X (some g) → Ground m b X) :
    Calls Tryz.prog 54 #[.pointer (some ⟨g, 0, none⟩)] W fun e w' => reqEnd g s m b W (readReq s) e w' := by
  obtain ⟨k, hk⟩ := whole_line hw
  cases hp : parted (s.extract 0 k) with
  | false => exact request_line g s v0 m b W k h hs hw hk hp hG
  | true =>
    by_cases hv : (words (s.extract 0 k)).2.2 = ver
    · cases hf : Flds.read (s.extract (k + 2) s.size) with
      | none => exact request_fields g s v0 m b W k h hs hw hk hp hv hf hG
      | some q => exact request_put g s v0 m b W k h hs hw hk hp hv q.1 q.2 hf hG
    · exact request_ver g s v0 m b W k h hs hw hk hp hv hG
/-- the three boxes of a call of readMessage: the answer, the code, the reader -/
def Z4 : Obj := .cells #[.string ⟨#[]⟩, .string ⟨#[]⟩, .slice none 0 0, .string ⟨#[]⟩] 39
def Zc : Obj := .cells #[.int .i64 0] 3
def Zr (s : ByteArray) : Obj := .cells #[.string s, .int .i64 0, .slice none 0 0] 129
/-- the boxes of the answer and of the code, as they were laid -/
structure Told4 (w X : World) : Prop where
  ans : X.heap[w.heap.size]? = some Z4
  cd : X.heap[w.heap.size + 1]? = some Zc
theorem Told4.code {w X : World} (h : Told4 w X) : X.cell? ⟨w.heap.size + 1, 0, none⟩ = some (.int .i64 0) := Recs.box_cell h.cd 0
theorem Told4.thaw {w X : World} (h : Told4 w X) : X.frozen? ⟨w.heap.size + 1, 0, none⟩ = false := Recs.box_thaw h.cd 0
theorem Told4.rows {w X : World} (h : Told4 w X) : X.cell? ⟨w.heap.size, 0, none⟩ = some (.string ⟨#[]⟩) ∧ X.cell? ⟨w.heap.size, 1, none⟩ = some (.string ⟨#[]⟩) ∧ X.cell? ⟨w.heap.size, 2, none⟩ = some (.slice none 0 0) ∧ X.cell? ⟨w.heap.size, 3, none⟩ = some (.string ⟨#[]⟩) := ⟨Recs.box_cell h.ans 0, Recs.box_cell h.ans 1, Recs.box_cell h.ans 2, Recs.box_cell h.ans 3⟩
theorem Told4.thaws {w X : World} (h : Told4 w X) : X.frozen? ⟨w.heap.size, 0, none⟩ = false ∧ X.frozen? ⟨w.heap.size, 1, none⟩ = false ∧ X.frozen? ⟨w.heap.size, 2, none⟩ = false ∧ X.frozen? ⟨w.heap.size, 3, none⟩ = false := ⟨Recs.box_thaw h.ans 0, Recs.box_thaw h.ans 1, Recs.box_thaw h.ans 2, Recs.box_thaw h.ans 3⟩
theorem Told4.coded {w X : World} (h : Told4 w X) (c : Nat) : (X.setCell ⟨w.heap.size + 1, 0, none⟩ (.int .i64 (c : Int))).cell? ⟨w.heap.size + 1, 0, none⟩ = some (.int .i64 (c : Int)) := Recs.box_cell (Recs.box_set h.cd 0 _) 0
theorem Told4.cells {w X : World} (h : Told4 w X) (c : Nat) : (X.setCell ⟨w.heap.size + 1, 0, none⟩ (.int .i64 (c : Int))).cell? ⟨w.heap.size, 0, none⟩ = some (.string ⟨#[]⟩) ∧ (X.setCell ⟨w.heap.size + 1, 0, none⟩ (.int .i64 (c : Int))).cell? ⟨w.heap.size, 1, none⟩ = some (.string ⟨#[]⟩) ∧ (X.setCell ⟨w.heap.size + 1, 0, none⟩ (.int .i64 (c : Int))).cell? ⟨w.heap.size, 2, none⟩ = some (.slice none 0 0) ∧ (X.setCell ⟨w.heap.size + 1, 0, none⟩ (.int .i64 (c : Int))).cell? ⟨w.heap.size, 3, none⟩ = some (.string ⟨#[]⟩) := by
  have e : (X.setCell ⟨w.heap.size + 1, 0, none⟩ (.int .i64 (c : Int))).heap[w.heap.size]? = some Z4 := Recs.box_far h.ans _ (by omega)
  exact ⟨Recs.box_cell e 0, Recs.box_cell e 1, Recs.box_cell e 2, Recs.box_cell e 3⟩
/-- an answer told into its box -/
def fill (r : Nat) (a b : ByteArray) (v : Value) (c : ByteArray) (X : World) : World := (((X.setCell ⟨r, 0, none⟩ (.string a)).setCell ⟨r, 1, none⟩ (.string b)).setCell ⟨r, 2, none⟩ v).setCell ⟨r, 3, none⟩ (.string c)
theorem fill_row {r : Nat} {a b c : ByteArray} {v : Value} {X : World} (h : RBox r a b v c X) (a' b' : ByteArray) (v' : Value) (c' : ByteArray) : RBox r a' b' v' c' (fill r a' b' v' c' X) := by
  unfold fill
  exact Recs.box_set (Recs.box_set (Recs.box_set (Recs.box_set h 0 _) 1 _) 2 _) 3 _
theorem fill_far {r k : Nat} {X : World} {o : Option Obj} (h : X.heap[k]? = o) (hne : k ≠ r) (a b c : ByteArray) (v : Value) : (fill r a b v c X).heap[k]? = o := by
  unfold fill
  exact Recs.box_far (Recs.box_far (Recs.box_far (Recs.box_far h _ hne) _ hne) _ hne) _ hne
theorem fill_own {r B : Nat} {X : World} {x : Value} {L : List Flds.Fld} (h : Flds.Own B X x L) (hne : ∀ j, x.ownBlock = some j → j ≠ r) (a b c : ByteArray) (v : Value) : Flds.Own B (fill r a b v c X) x L := by
  unfold fill
  exact Recs.own_set (Recs.own_set (Recs.own_set (Recs.own_set h r 0 _ hne) r 1 _ hne) r 2 _ hne) r 3 _ hne
theorem fill_below {r B : Nat} {w X : World} (h : Below B w X) (hB : B ≤ r) (a b c : ByteArray) (v : Value) : Below B w (fill r a b v c X) := by
  unfold fill
  exact (((h.setCell (p := ⟨r, 0, none⟩) hB _).setCell (p := ⟨r, 1, none⟩) hB _).setCell (p := ⟨r, 2, none⟩) hB _).setCell (p := ⟨r, 3, none⟩) hB _
/-- the world in which an answer has been told -/
def told4 (r : Nat) (mm uu : ByteArray) (v : Value) (bb : ByteArray) (X : World) : World := ((fill r mm uu v bb (fill r mm uu v bb X)).setCell ⟨r + 1, 0, none⟩ (.int .i64 0)).drew
theorem done4 (w X : World) (ht : Told4 w X) (hb : Below w.heap.size w X) (mm uu bb : ByteArray) (v : Value) (L : List Flds.Fld) (B : Nat) (ho : Flds.Own B X v L) (hB : w.heap.size + 1 < B) :
    (told4 w.heap.size mm uu v bb X).cell? ⟨w.heap.size, 0, none⟩ = some (.string mm) ∧ (told4 w.heap.size mm uu v bb X).cell? ⟨w.heap.size, 1, none⟩ = some (.string uu) ∧ (told4 w.heap.size mm uu v bb X).cell? ⟨w.heap.size, 2, none⟩ = some v ∧ (told4 w.heap.size mm uu v bb X).cell? ⟨w.heap.size, 3, none⟩ = some (.string bb) ∧ (told4 w.heap.size mm uu v bb X).cell? ⟨w.heap.size + 1, 0, none⟩ = some (.int .i64 0) ∧ Flds.Own w.heap.size (told4 w.heap.size mm uu v bb X) v L ∧ Below w.heap.size w (told4 w.heap.size mm uu v bb X) := by
  have n0 : ∀ j, v.ownBlock = some j → j ≠ w.heap.size := fun j hj => by have := (Recs.own_lt ho j hj).1; omega
  have n1 : ∀ j, v.ownBlock = some j → j ≠ w.heap.size + 1 := fun j hj => by have := (Recs.own_lt ho j hj).1; omega
  have a8 := fill_row (fill_row ht.ans mm uu v bb) mm uu v bb
  have b8 := fill_far (fill_far ht.cd (by omega : w.heap.size + 1 ≠ w.heap.size) mm uu bb v) (by omega : w.heap.size + 1 ≠ w.heap.size) mm uu bb v
  have o8 := fill_own (fill_own ho n0 mm uu bb v) n0 mm uu bb v
  have w8 := fill_below (fill_below hb (Nat.le_refl _) mm uu bb v) (Nat.le_refl _) mm uu bb v
  unfold told4
  generalize fill w.heap.size mm uu v bb (fill w.heap.size mm uu v bb X) = Y at a8 b8 o8 w8 ⊢
  have h1 := Recs.box_far (g := w.heap.size + 1) (i := 0) a8 (.int .i64 0) (by omega)
  have h2 := Recs.box_set b8 0 (.int .i64 0)
  have o9 := Recs.own_set o8 (w.heap.size + 1) 0 (.int .i64 0) n1
  have w9 := w8.setCell (p := ⟨w.heap.size + 1, 0, none⟩) (Nat.le_succ _) (.int .i64 0)
  generalize Y.setCell ⟨w.heap.size + 1, 0, none⟩ (.int .i64 0) = Z at h1 h2 o9 w9 ⊢
  exact ⟨Recs.box_cell h1 0, Recs.box_cell h1 1, Recs.box_cell h1 2, Recs.box_cell h1 3, Recs.box_cell h2 0, Recs.own_mono (Recs.own_drew o9) (by omega), w9.drew⟩
theorem told_no (w X : World) (c : Nat) (ht : Told4 w X) (hb : Below w.heap.size w X) : Flds.Own w.heap.size (X.setCell ⟨w.heap.size + 1, 0, none⟩ (.int .i64 (c : Int))) (.slice none 0 0) [] ∧ Below w.heap.size w (X.setCell ⟨w.heap.size + 1, 0, none⟩ (.int .i64 (c : Int))) :=
  ⟨Recs.own_nil _ _, hb.setCell (p := ⟨w.heap.size + 1, 0, none⟩) (by show w.heap.size ≤ w.heap.size + 1; omega) _⟩
/-- what is not read tells nothing but its code -/
theorem read_no (s : ByteArray) (R : Rq) (h : readReq s = R) (h0 : ¬ R.2.2 = 0) : R = noRq R.2.2 := by
  have key : ∀ c : Int, noRq c = noRq (noRq c).2.2 := fun _ => rfl
  subst h
  revert h0
  unfold readReq
  split
  · intro _; exact key _
  · cases eol s 0 with
    | none => intro _; exact key _
    | some k =>
      simp only
      cases Flds.read (s.extract (k + 2) s.size) with
      | none => intro _; exact key _
      | some q =>
        obtain ⟨l, n⟩ := q
        simp only
        split
        · split
          · intro h; exact absurd rfl h
          · intro _; exact key _
        · intro _; exact key _
theorem read_code (s : ByteArray) (R : Rq) (h : readReq s = R) (h0 : ¬ R.2.2 = 0) : R.2.2 = 1 ∨ R.2.2 = 2 := by
  have key : ∀ c : Int, c = 0 ∨ c = 1 ∨ c = 2 → ¬ (noRq c).2.2 = 0 → (noRq c).2.2 = 1 ∨ (noRq c).2.2 = 2 := fun c h h0 => h.resolve_left h0
  have kc : ∀ c : Int, codeOf c = 0 ∨ codeOf c = 1 ∨ codeOf c = 2 := fun c => by unfold codeOf; (repeat' split) <;> simp
  subst h
  revert h0
  unfold readReq
  split
  · exact key _ (by split <;> simp)
  · cases eol s 0 with
    | none => exact key _ (.inr (.inr rfl))
    | some k =>
      simp only
      cases Flds.read (s.extract (k + 2) s.size) with
      | none => exact key _ (.inr (.inr rfl))
      | some q =>
        obtain ⟨l, n⟩ := q
        simp only
        split
        · split
          · intro h; exact absurd rfl h
          · exact key _ (kc _)
        · exact key _ (.inr (.inr rfl))
theorem ground_grown {m b : Addr} {w W X : World} {g : Nat} (hG : Ground m b w) (hb : Below w.heap.size w W) (hg : w.heap.size ≤ g) (h : W.grownBy X (some g)) : Ground m b X :=
  hG.below (hb.grown h hb.size (fun k hk => by have := Option.some.inj hk; omega))
set_option maxRecDepth 100000 in
set_option maxHeartbeats 2000000 in
theorem readMsg_impl (s : ByteArray) (m b : Addr) (w : World) (hs : s.size ≤ 1048576) (hG : Ground m b w) :
    Calls Tryz.prog 53 #[.string s, .func (.func 54) #[] #[]] w fun e w' => ∃ v', e = .returned (.tuple #[Req.val (readReq s).1.1 (readReq s).1.2.1 v' (readReq s).1.2.2.2, .int .i64 (readReq s).2.1, .int .i64 (readReq s).2.2]) ∧ Flds.Own w.heap.size w' v' (readReq s).1.2.2.1 ∧ Below w.heap.size w w' := by
  have hmf : ∀ (fn : Fn) (first cap : Array Value) (w : World), (Instr.makeFunc fn first cap).run Tryz.prog w = .ok (.func fn first cap) w := fun _ _ _ _ => rfl
  obtain ⟨R, hR⟩ : ∃ R, readReq s = R := ⟨_, rfl⟩
  rw [hR]
  obtain ⟨c, hcc⟩ : ∃ c, (if 1500 < s.size then 2 else 1 : Nat) = c := ⟨_, rfl⟩
  have hc : c = 1 ∨ c = 2 := by rw [← hcc]; split <;> simp
  have hno : whole s = false → R = noRq (c : Int) := fun hw => by rw [← hR, ← hcc]; unfold readReq; rw [if_pos hw]; split <;> rfl
  go_enter_defers Tryz.func53, Tryz.ntmps53
  go_upto_region 3 with fail
  have hb0 : Below w.heap.size w (((w.alloc Z4).alloc Zc).alloc (Zr s)) := (((Below.refl w.heap.size w).alloc (Nat.le_refl _) Z4).alloc (by simp) Zc).alloc (by simp; omega) (Zr s)
  have hz0 : (((w.alloc Z4).alloc Zc).alloc (Zr s)).heap.size = w.heap.size + 1 + 1 + 1 := by rw [World.size_alloc, World.size_alloc, World.size_alloc]
  obtain ⟨r0, r1, r2⟩ := Recs.three_rows w _ Z4 Zc (Zr s) (Below.refl _ _)
  change Code.wp _ _ _ _ (((w.alloc Z4).alloc Zc).alloc (Zr s))
  generalize (((w.alloc Z4).alloc Zc).alloc (Zr s)) = W at hb0 hz0 r0 r1 r2 ⊢
  have hrd : Rd (w.heap.size + 1 + 1) s 0 (.slice none 0 0) W := r2
  have HDn : Hid (∀ X, W.grownBy X (some (w.heap.size + 1 + 1)) → Told4 w X ∧ Below w.heap.size w X ∧ Ground m b X) := fun X hX =>
    ⟨⟨(hX.block _ (by omega) (by simp; omega)).trans r0, (hX.block _ (by omega) (by simp)).trans r1⟩, hb0.grown hX hb0.size (fun k hk => by have := Option.some.inj hk; omega), ground_grown hG hb0 (by omega) hX⟩
  have HAw := Num.hide (await_impl (w.heap.size + 1 + 1) s (.slice none 0 0) m b W hrd hs (hG.below hb0).lim (hG.below hb0).errs)
  have HRq := Num.hide (fun X h hw hG => request_impl (w.heap.size + 1 + 1) s (.slice none 0 0) m b X h hs hw hG)
  have HRd := Num.hide hrd
  rw [hR] at HRq
  clear r0 r1 r2 hrd hG hb0
  cases hw : whole s with
  | false =>
    rw [hw, if_neg (by decide), hcc] at HAw
    have hR2 := hno hw
    clear hw hR HRq hno hcc
    subst hR2
    go_wp2_with fail
    refine HAw.out.mono ?_
    rintro e w1 ⟨rfl, hb1⟩
    obtain ⟨ht, hb, hg⟩ := HDn.out w1 (Recs.grown_of_below hb1 _)
    unfold thrown
    refine leaves_cons (f := 100) (args := #[.pointer (some ⟨w.heap.size + 1, 0, none⟩)]) (by simp) (by simp [go_sem]) ?_
    refine (catch_throw ⟨w.heap.size + 1, 0, none⟩ c hc 0 m b w1 hg.errs ht.code ht.thaw).mono ?_
    rintro e u' w'' ⟨rfl, rfl, rfl⟩
    have HF := Num.hide (told_no w w1 c ht hb)
    obtain ⟨k0, k1, k2, k3⟩ := ht.cells c
    have kc := ht.coded c
    simp [Leaves, settle, results, Tryz.results53, go_sem, k0, k1, k2, k3, kc]
    exact ⟨.slice none 0 0, ⟨rfl, rfl, rfl⟩, HF.out.1, HF.out.2⟩
  | true =>
    rw [hw, if_pos rfl] at HAw
    clear hno hcc hc
    go_wp2_with fail
    refine HAw.out.mono ?_
    rintro e w1 ⟨rfl, hb1⟩
    have G1 := Num.hide (Recs.grown_of_below hb1 (some (w.heap.size + 1 + 1)))
    have R1 := Num.hide (HRd.out.step hb1)
    have hz1 := hb1.size
    clear hb1 HAw HRd
    go_wp2_with fail
    refine (HRq.out w1 R1.out hw (fun X hX => (HDn.out X (Recs.grown_trans G1.out hX)).2.2)).mono ?_
    rintro e w2 hre
    obtain ⟨hg2, hif⟩ := hre
    obtain ⟨ht, hb, hg⟩ := HDn.out w2 (Recs.grown_trans G1.out hg2)
    have hz2 := hg2.size
    clear hg2 HRq HDn
    by_cases h0 : R.2.2 = 0
    · rw [if_pos h0] at hif
      obtain ⟨v, rfl, ho, f, n, hn, hrd⟩ := hif
      obtain ⟨⟨mm, uu, L, bb⟩, N, C⟩ := R
      simp only at h0 hrd ho hn
      subst h0
      subst hn
      obtain ⟨a2, q2, hv⟩ := Recs.own_len ho
      subst hv
      obtain ⟨k0, k1, k2, k3⟩ := ht.rows
      obtain ⟨z0, z1, z2, z3⟩ := ht.thaws
      have kc := ht.code
      have zc := ht.thaw
      obtain ⟨c0, c1, c2⟩ := hrd.cells
      have HD := Num.hide (done4 w w2 ht hb mm uu bb _ L _ ho (by omega))
      unfold Req.val
      clear ho hb hg hrd ht hw
      go_upto_region 5 with fail
      go_region
      go_wp2
      refine leaves_cons (f := 100) (args := #[.pointer (some ⟨w.heap.size + 1, 0, none⟩)]) (by simp) (by simp [go_sem]) ?_
      refine (catch_idle ⟨w.heap.size + 1, 0, none⟩ _).mono ?_
      rintro e u' w'' ⟨rfl, rfl, rfl⟩
      change Leaves _ _ _ _ _ _ (told4 w.heap.size mm uu (.slice a2 L.length q2) bb w2)
      obtain ⟨j0, j1, j2, j3, jc, jo, jb⟩ := HD.out
      generalize told4 w.heap.size mm uu (.slice a2 L.length q2) bb w2 = Y at j0 j1 j2 j3 jc jo jb ⊢
      simp [Leaves, settle, results, Tryz.results53, go_sem, j0, j1, j2, j3, jc]
      exact ⟨_, rfl, jo, jb⟩
    · rw [if_neg h0] at hif
      have hc : R.2.2 = 1 ∨ R.2.2 = 2 := read_code s R hR h0
      obtain ⟨d, hd, hdc⟩ : ∃ d : Nat, (d = 1 ∨ d = 2) ∧ R = noRq (d : Int) := by
        rcases hc with h1 | h1
        · exact ⟨1, .inl rfl, by rw [read_no s R hR h0, h1]; rfl⟩
        · exact ⟨2, .inr rfl, by rw [read_no s R hR h0, h1]; rfl⟩
      clear hc hR h0 hw
      subst hdc
      obtain rfl : e = thrown m b d := hif
      unfold thrown
      refine leaves_cons (f := 100) (args := #[.pointer (some ⟨w.heap.size + 1, 0, none⟩)]) (by simp) (by simp [go_sem]) ?_
      refine (catch_throw ⟨w.heap.size + 1, 0, none⟩ d hd 0 m b w2 hg.errs ht.code ht.thaw).mono ?_
      rintro e u' w'' ⟨rfl, rfl, rfl⟩
      have HF := Num.hide (told_no w w2 d ht hb)
      obtain ⟨k0, k1, k2, k3⟩ := ht.cells d
      have kc := ht.coded d
      simp [Leaves, settle, results, Tryz.results53, go_sem, k0, k1, k2, k3, kc]
      exact ⟨.slice none 0 0, ⟨rfl, rfl, rfl⟩, HF.out.1, HF.out.2⟩
set_option maxRecDepth 100000 in
set_option maxHeartbeats 2000000 in
theorem readReq_impl (s : ByteArray) (m b : Addr) (w : World) (hs : s.size ≤ 1048576) (hG : Ground m b w) :
    Calls Tryz.prog 19 #[.string s] w fun e w' => ∃ v', e = .returned (.tuple #[Req.val (readReq s).1.1 (readReq s).1.2.1 v' (readReq s).1.2.2.2, .int .i64 (readReq s).2.1, .int .i64 (readReq s).2.2]) ∧ Flds.Own w.heap.size w' v' (readReq s).1.2.2.1 ∧ Below w.heap.size w w' := by
  have hb0 := (Below.refl w.heap.size w).alloc (Nat.le_refl _) Z4
  have HM := Num.hide (readMsg_impl s m b (w.alloc Z4) hs (hG.below hb0))
  clear hG hb0
  generalize readReq s = R at HM ⊢
  obtain ⟨⟨mm, uu, L, bb⟩, N, C⟩ := R
  unfold Req.val at HM ⊢
  simp only at HM ⊢
  go_enter Tryz.func19, Tryz.ntmps19
  go_wp2_with fail
  refine HM.out.mono ?_
  rintro e w1 ⟨v, rfl, ho, hb⟩
  have hz : (w.alloc Z4).heap.size = w.heap.size + 1 := by rw [World.size_alloc]
  have hrow : w1.heap[w.heap.size]? = some Z4 := (hb.block _ (by omega)).trans (heap_alloc_new w Z4)
  have hB0 := (Below.refl w.heap.size w).alloc (Nat.le_refl _) Z4
  have hB1 := hB0.trans (hb.mono hB0.size)
  have n0 : ∀ j, v.ownBlock = some j → j ≠ w.heap.size := fun j hj => by have := (Recs.own_lt ho j hj).1; omega
  have o1 := Recs.own_set ho w.heap.size 0 (.string mm) n0
  have o2 := Recs.own_set o1 w.heap.size 1 (.string uu) n0
  have o3 := Recs.own_set o2 w.heap.size 2 v n0
  have HO := Num.hide (Recs.own_mono (Recs.own_set o3 w.heap.size 3 (.string bb) n0) (by omega : w.heap.size ≤ (w.alloc Z4).heap.size))
  have HB := Num.hide ((((hB1.setCell (p := ⟨w.heap.size, 0, none⟩) (Nat.le_refl _) (.string mm)).setCell (p := ⟨w.heap.size, 1, none⟩) (Nat.le_refl _) (.string uu)).setCell (p := ⟨w.heap.size, 2, none⟩) (Nat.le_refl _) v).setCell (p := ⟨w.heap.size, 3, none⟩) (Nat.le_refl _) (.string bb))
  have k0 := Recs.box_cell hrow 0
  have k1 := Recs.box_cell hrow 1
  have k2 := Recs.box_cell hrow 2
  have k3 := Recs.box_cell hrow 3
  have z0 := Recs.box_thaw hrow 0
  have z1 := Recs.box_thaw hrow 1
  have z2 := Recs.box_thaw hrow 2
  have z3 := Recs.box_thaw hrow 3
  simp only [List.getElem?_toArray, List.getElem?_cons_succ, List.getElem?_cons_zero] at k0 k1 k2 k3
  obtain ⟨a2, q2, hv⟩ := Recs.own_len ho
  subst hv
  clear ho hb hrow hB0 hB1 n0 o1 o2 o3 hz HM
  go_wp2
  exact bodyPost_ret (v := .tuple #[.agg #[.string mm, .string uu, .slice a2 L.length q2, .string bb], .int .i64 N, .int .i64 C]) (by simp [results, Tryz.results19, go_sem, *]) rfl ⟨_, rfl, HO.out, HB.out⟩
end Msg
end Go.Proofs.YtkenmilglfnmbaaGreatDoor
namespace Go.Proofs.YtkenmilglfnmbaaGreatDoor
open Go.RowKit
set_option linter.unusedVariables false
namespace Resp

/-- a response: its status, its fields, its body -/
abbrev R := Int × List Flds.Fld × ByteArray
/-- the value of a response whose fields lie at v -/
def val (s : Int) (v : Value) (b : ByteArray) : Value := .agg #[.int .i64 s, v, .string b]
/-- how much a response holds -/
def bulk (l : List Flds.Fld) (b : ByteArray) : Nat := Flds.bulk l + b.size
end Resp
end Go.Proofs.YtkenmilglfnmbaaGreatDoor
namespace Go.Proofs.YtkenmilglfnmbaaGreatDoor
open Go.RowKit
set_option linter.unusedVariables false
namespace Msg

set_option maxRecDepth 100000 in
set_option maxHeartbeats 2000000 in
theorem respOk_spec (s : Int) (v : Value) (l : List Flds.Fld) (b : ByteArray) (w : World) (h : Flds.Is w v l) (hl : Flds.bulk l ≤ 1099511627776) (hb : b.size ≤ 1099511627776) :
    Calls Tryz.prog 25 #[Resp.val s v b] w fun e w' => e = .returned (.bool (respOk s l b)) ∧ Below w.heap.size w w' := by
  unfold Resp.val
  have HT := Num.hide (fun W => Date.in_spec s 200 599 W)
  obtain ⟨a, c, rfl, _⟩ := Flds.is_form h
  have hb0 := (Below.refl w.heap.size w).alloc (Nat.le_refl _) (.cells #[.int .i64 s, .slice a l.length c, .string b] 47)
  have HB0 := Num.hide hb0
  have HP := Num.hide (plain_spec (.slice a l.length c) l _ (Recs.is_stay h (Nat.le_refl _) hb0) hl)
  clear h hb0 hl
  obtain ⟨r, hr⟩ : ∃ r, respOk s l b = r := ⟨_, rfl⟩
  rw [hr]
  unfold respOk at hr
  generalize decide (200 ≤ s ∧ s ≤ 599) = t1 at HT hr
  generalize plain l = t3 at HP hr
  cases t1 with
  | false =>
    obtain rfl : false = r := by rw [← hr]; rfl
    clear hr HP
    go_enter Tryz.func25, Tryz.ntmps25
    go_wp2_with fail
    refine (HT.out _).mono ?_
    rintro e w1 ⟨rfl, rfl⟩
    go_wp2
    go_ret
    exact ⟨rfl, HB0.out⟩
  | true =>
    cases t3 with
    | false =>
      obtain rfl : false = r := by rw [← hr]; rfl
      clear hr
      go_enter Tryz.func25, Tryz.ntmps25
      go_wp2_with fail
      refine (HT.out _).mono ?_
      rintro e w1 ⟨rfl, rfl⟩
      go_wp2_with fail
      refine HP.out.mono ?_
      rintro e w2 ⟨rfl, hb2⟩
      have HB2 := Num.hide (HB0.out.trans (hb2.mono HB0.out.size))
      have k0 := (hb2.cell (p := ⟨w.heap.size, 0, none⟩) (by show w.heap.size < _; rw [World.size_alloc]; omega)).trans (cell_of_row _ _ _ _ _ _ (heap_alloc_new w _))
      have k2 := (hb2.cell (p := ⟨w.heap.size, 2, none⟩) (by show w.heap.size < _; rw [World.size_alloc]; omega)).trans (cell_of_row _ _ _ _ _ _ (heap_alloc_new w _))
      simp only [List.getElem?_toArray, List.getElem?_cons_succ, List.getElem?_cons_zero] at k0 k2
      clear hb2 HP
      go_wp2
      go_ret
      exact ⟨rfl, HB2.out⟩
    | true =>
      by_cases h60 : (b.size : Int) ≤ 60
      · rw [decide_eq_true (by omega : b.size ≤ 60)] at hr
        by_cases h4 : s = 204
        · have d4 : (s != 204) = false := by rw [bne_eq_false_iff_eq]; exact h4
          rw [decide_eq_false (fun h => h.1 h4), Bool.false_or] at hr
          by_cases he : b = ⟨#[]⟩
          · obtain rfl : true = r := by rw [← hr, decide_eq_true he]; rfl
            have db : b.toList.isEmpty = true := by rw [he, ByteArray.toList_eq]; rfl
            clear hr h4
            subst he
            go_enter Tryz.func25, Tryz.ntmps25
            go_wp2_with fail
            refine (HT.out _).mono ?_
            rintro e w1 ⟨rfl, rfl⟩
            go_wp2_with fail
            refine HP.out.mono ?_
            rintro e w2 ⟨rfl, hb2⟩
            have HB2 := Num.hide (HB0.out.trans (hb2.mono HB0.out.size))
            have k0 := (hb2.cell (p := ⟨w.heap.size, 0, none⟩) (by show w.heap.size < _; rw [World.size_alloc]; omega)).trans (cell_of_row _ _ _ _ _ _ (heap_alloc_new w _))
            have k2 := (hb2.cell (p := ⟨w.heap.size, 2, none⟩) (by show w.heap.size < _; rw [World.size_alloc]; omega)).trans (cell_of_row _ _ _ _ _ _ (heap_alloc_new w _))
            simp only [List.getElem?_toArray, List.getElem?_cons_succ, List.getElem?_cons_zero] at k0 k2
            clear hb2 HP
            go_wp2
            go_ret
            exact ⟨rfl, HB2.out⟩
          · obtain rfl : false = r := by rw [← hr, decide_eq_false he]; rfl
            have db : b.toList.isEmpty = false := Sign.empty_false b (by
              by_cases hz : 0 < b.size
              · exact hz
              · exact absurd (Sign.empty_true b (by omega)) he)
            clear hr h4 he
            go_enter Tryz.func25, Tryz.ntmps25
            go_wp2_with fail
            refine (HT.out _).mono ?_
            rintro e w1 ⟨rfl, rfl⟩
            go_wp2_with fail
            refine HP.out.mono ?_
            rintro e w2 ⟨rfl, hb2⟩
            have HB2 := Num.hide (HB0.out.trans (hb2.mono HB0.out.size))
            have k0 := (hb2.cell (p := ⟨w.heap.size, 0, none⟩) (by show w.heap.size < _; rw [World.size_alloc]; omega)).trans (cell_of_row _ _ _ _ _ _ (heap_alloc_new w _))
            have k2 := (hb2.cell (p := ⟨w.heap.size, 2, none⟩) (by show w.heap.size < _; rw [World.size_alloc]; omega)).trans (cell_of_row _ _ _ _ _ _ (heap_alloc_new w _))
            simp only [List.getElem?_toArray, List.getElem?_cons_succ, List.getElem?_cons_zero] at k0 k2
            clear hb2 HP
            go_wp2
            go_ret
            exact ⟨rfl, HB2.out⟩
        · have d4 : (s != 204) = true := by rw [bne_iff_ne]; exact h4
          by_cases h3 : s = 304
          · have d3 : (s != 304) = false := by rw [bne_eq_false_iff_eq]; exact h3
            rw [decide_eq_false (fun h => h.2 h3), Bool.false_or] at hr
            by_cases he : b = ⟨#[]⟩
            · obtain rfl : true = r := by rw [← hr, decide_eq_true he]; rfl
              clear hr h4 h3
              subst he
              go_enter Tryz.func25, Tryz.ntmps25
              go_wp2_with fail
              refine (HT.out _).mono ?_
              rintro e w1 ⟨rfl, rfl⟩
              go_wp2_with fail
              refine HP.out.mono ?_
              rintro e w2 ⟨rfl, hb2⟩
              have HB2 := Num.hide (HB0.out.trans (hb2.mono HB0.out.size))
              have k0 := (hb2.cell (p := ⟨w.heap.size, 0, none⟩) (by show w.heap.size < _; rw [World.size_alloc]; omega)).trans (cell_of_row _ _ _ _ _ _ (heap_alloc_new w _))
              have k2 := (hb2.cell (p := ⟨w.heap.size, 2, none⟩) (by show w.heap.size < _; rw [World.size_alloc]; omega)).trans (cell_of_row _ _ _ _ _ _ (heap_alloc_new w _))
              simp only [List.getElem?_toArray, List.getElem?_cons_succ, List.getElem?_cons_zero] at k0 k2
              clear hb2 HP
              go_wp2
              go_ret
              exact ⟨rfl, HB2.out⟩
            · obtain rfl : false = r := by rw [← hr, decide_eq_false he]; rfl
              have db : b.toList.isEmpty = false := Sign.empty_false b (by
                by_cases hz : 0 < b.size
                · exact hz
                · exact absurd (Sign.empty_true b (by omega)) he)
              clear hr h4 he h3
              go_enter Tryz.func25, Tryz.ntmps25
              go_wp2_with fail
              refine (HT.out _).mono ?_
              rintro e w1 ⟨rfl, rfl⟩
              go_wp2_with fail
              refine HP.out.mono ?_
              rintro e w2 ⟨rfl, hb2⟩
              have HB2 := Num.hide (HB0.out.trans (hb2.mono HB0.out.size))
              have k0 := (hb2.cell (p := ⟨w.heap.size, 0, none⟩) (by show w.heap.size < _; rw [World.size_alloc]; omega)).trans (cell_of_row _ _ _ _ _ _ (heap_alloc_new w _))
              have k2 := (hb2.cell (p := ⟨w.heap.size, 2, none⟩) (by show w.heap.size < _; rw [World.size_alloc]; omega)).trans (cell_of_row _ _ _ _ _ _ (heap_alloc_new w _))
              simp only [List.getElem?_toArray, List.getElem?_cons_succ, List.getElem?_cons_zero] at k0 k2
              clear hb2 HP
              go_wp2
              go_ret
              exact ⟨rfl, HB2.out⟩
          · have d3 : (s != 304) = true := by rw [bne_iff_ne]; exact h3
            obtain rfl : true = r := by rw [← hr, decide_eq_true ⟨h4, h3⟩]; rfl
            clear hr h4 h3
            go_enter Tryz.func25, Tryz.ntmps25
            go_wp2_with fail
            refine (HT.out _).mono ?_
            rintro e w1 ⟨rfl, rfl⟩
            go_wp2_with fail
            refine HP.out.mono ?_
            rintro e w2 ⟨rfl, hb2⟩
            have HB2 := Num.hide (HB0.out.trans (hb2.mono HB0.out.size))
            have k0 := (hb2.cell (p := ⟨w.heap.size, 0, none⟩) (by show w.heap.size < _; rw [World.size_alloc]; omega)).trans (cell_of_row _ _ _ _ _ _ (heap_alloc_new w _))
            have k2 := (hb2.cell (p := ⟨w.heap.size, 2, none⟩) (by show w.heap.size < _; rw [World.size_alloc]; omega)).trans (cell_of_row _ _ _ _ _ _ (heap_alloc_new w _))
            simp only [List.getElem?_toArray, List.getElem?_cons_succ, List.getElem?_cons_zero] at k0 k2
            clear hb2 HP
            go_wp2
            go_ret
            exact ⟨rfl, HB2.out⟩
      · obtain rfl : false = r := by rw [← hr, decide_eq_false (by omega : ¬ b.size ≤ 60)]; rfl
        have d60 : decide ((b.size : Int) ≤ 60) = false := decide_eq_false h60
        clear hr
        go_enter Tryz.func25, Tryz.ntmps25
        go_wp2_with fail
        refine (HT.out _).mono ?_
        rintro e w1 ⟨rfl, rfl⟩
        go_wp2_with fail
        refine HP.out.mono ?_
        rintro e w2 ⟨rfl, hb2⟩
        have HB2 := Num.hide (HB0.out.trans (hb2.mono HB0.out.size))
        have k0 := (hb2.cell (p := ⟨w.heap.size, 0, none⟩) (by show w.heap.size < _; rw [World.size_alloc]; omega)).trans (cell_of_row _ _ _ _ _ _ (heap_alloc_new w _))
        have k2 := (hb2.cell (p := ⟨w.heap.size, 2, none⟩) (by show w.heap.size < _; rw [World.size_alloc]; omega)).trans (cell_of_row _ _ _ _ _ _ (heap_alloc_new w _))
        simp only [List.getElem?_toArray, List.getElem?_cons_succ, List.getElem?_cons_zero] at k0 k2
        clear hb2 HP
        go_wp2
        go_ret
        exact ⟨rfl, HB2.out⟩
end Msg
end Go.Proofs.YtkenmilglfnmbaaGreatDoor
