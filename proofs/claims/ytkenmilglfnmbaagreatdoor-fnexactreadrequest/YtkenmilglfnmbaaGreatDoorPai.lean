/-
  TakeImpl: takeFields and takeBody of the program's reader.
  TakeSt: How a request's reader stands between its steps: its box, the box of its answer, and all else as it lay; plain facts of readReq.
  UriImpl: UriOk of the program.
  FldNew: newField of the program: a field of two texts, in memory of its own.
  FldDropImpl: FieldDrop of the program: those of another name, in a row of the call's own; what was there stays.
  FldSameNum: Two fields compared, whole.
  FldSameImpl: SameFields of the program, and slices.Equal at fields: whether two lists of fields are the same.
  OwnImpl: withoutFraming and ownFieldsOk of the program: fields without those that say how long a body is.
  ReqOkImpl: methodOk and RequestOk of the program: is a request right?
-/
import Derived.Test.YtkenmilglfnmbaaGreatDoorPae
import Derived.Test.YtkenmilglfnmbaaGreatDoorPag
import Derived.Test.YtkenmilglfnmbaaGreatDoorPah
import Derived.Test.YtkenmilglfnmbaaGreatDoorPad
import Derived.Test.YtkenmilglfnmbaaGreatDoorRegLaw
import Derived.Deep.Cut
import Derived.Test.YtkenmilglfnmbaaGreatDoorPaf
import Derived.Test.YtkenmilglfnmbaaGreatDoorPaa
import Derived.Test.YtkenmilglfnmbaaGreatDoorSignNum
import Derived.Test.YtkenmilglfnmbaaGreatDoorByteAt
import Derived.Test.YtkenmilglfnmbaaGreatDoorRows
import Derived.Laws.Strings
import Derived.Test.YtkenmilglfnmbaaGreatDoorFlds
import Derived.Deep.QuietTactic
import Derived.BigQuiet
import Derived.Laws.StructEq
import Derived.Test.YtkenmilglfnmbaaGreatDoorPac
import Derived.Test.YtkenmilglfnmbaaGreatDoorTokenImpl
import Derived.Test.YtkenmilglfnmbaaGreatDoorPab
namespace Go.Proofs.YtkenmilglfnmbaaGreatDoor
open Go.RowKit
set_option linter.unusedVariables false
set_option linter.unusedSimpArgs false
namespace Msg

/-- what the reader's methods want of a world: the program's and the library's variables -/
structure Ground (m b : Addr) (W : World) : Prop where
  lim : Body.Lim W
  syn : Body.Syn W
  errs : Body.Errs m b W
  signs : Sign.Signs W
theorem Ground.below {m b : Addr} {W W' : World} (h : Ground m b W) (hb : Below W.heap.size W W') : Ground m b W' :=
  ⟨h.lim.below hb, h.syn.below hb, h.errs.below hb, Flds.signs_below h.signs hb (Flds.signs_lt h.signs)⟩
set_option maxRecDepth 100000 in
set_option maxHeartbeats 2000000 in
theorem fields_yes (g : Nat) (s : ByteArray) (n : Nat) (v : Value) (l : List Flds.Fld) (k : Nat) (m b : Addr) (W : World) (h : Rd g s n v W) (hs : s.size ≤ 1048576) (hn : n ≤ s.size) (hr : Flds.read (s.extract n s.size) = some (l, k)) (hk : k ≤ 1048576) (hG : Ground m b W) :
    Calls Tryz.prog 105 #[.pointer (some ⟨g, 0, none⟩)] W fun e w' => e = .returned (.tuple #[]) ∧ ∃ v', Rd g s (n + k) v' w' ∧ Flds.Own W.heap.size w' v' l ∧ W.grownBy w' (some g) := by
  have hx : (s.extract n s.size).size ≤ 1048576 := by rw [ByteArray.size_extract]; omega
  have HRs := Num.hide (fun W h => rest_impl g s n v W h hn hs)
  have HF := Num.hide (fun W hS hm => Flds.read_impl (s.extract n s.size) W hx hS hm)
  obtain ⟨h1, h2, h3⟩ := Flds.told_some hr
  rw [h1, h2, h3] at HF
  have HP := Num.hide (fun v W h => pass_impl g s n k v W h (by omega) hk)
  have HR := Num.hide h
  have HG := Num.hide hG
  clear h hG hr h1 h2 h3
  generalize s.extract n s.size = T at HRs HF hx
  go_enter Tryz.func105, Tryz.ntmps105
  go_wp2_with fail
  refine (HRs.out _ HR.out).mono ?_
  rintro e w1 ⟨rfl, hb1⟩
  have B1 := Num.hide hb1
  have R1 := Num.hide (HR.out.step hb1)
  clear hb1
  go_wp2_with fail
  refine (HF.out _ (HG.out.below B1.out).signs (HG.out.below B1.out).lim).mono ?_
  rintro e w2 ⟨v2, rfl, ho2, hb2⟩
  have O2 := Num.hide (Recs.own_mono ho2 B1.out.size)
  have B2 := Num.hide (B1.out.trans (hb2.mono B1.out.size))
  have R2 := Num.hide (R1.out.step hb2)
  clear ho2 hb2
  go_wp2_with fail
  refine (demand_yes _).mono ?_
  rintro e w3 ⟨rfl, rfl⟩
  have hgl := HR.out.lt
  have O3 := Num.hide (Recs.own_set O2.out g 2 v2 (fun k hk => by have := (Recs.own_lt O2.out k hk).1; omega))
  have R3 := Num.hide (R2.out.hold v2)
  have G3 := Num.hide (Recs.grown_trans (Recs.grown_of_below B2.out (some g)) (grown_set w2 g 2 v2))
  have c2 := (R2.out.cells).2.2
  have z2 := Recs.box_thaw R2.out 2
  obtain ⟨a2, q2, rfl⟩ := Recs.own_len O2.out
  clear O2
  go_wp2_with fail
  refine (HP.out _ _ R3.out).mono ?_
  rintro e w4 ⟨rfl, hr4, hg4⟩
  have R4 := Num.hide hr4
  have G4 := Num.hide (Recs.grown_trans G3.out hg4)
  have O4 := Num.hide (Recs.own_kept O3.out hg4 (by
    cases hv : (Value.slice a2 l.length q2).ownBlock with
    | none => exact .inl rfl
    | some j => exact .inr (fun e => by have := (Recs.own_lt O3.out j hv).1; have e2 := Option.some.inj e; omega)))
  clear hr4 hg4
  go_wp2
  go_end0
  exact ⟨rfl, _, R4.out, O4.out, G4.out⟩
set_option maxRecDepth 100000 in
set_option maxHeartbeats 2000000 in
theorem fields_no (g : Nat) (s : ByteArray) (n : Nat) (v : Value) (m b : Addr) (W : World) (h : Rd g s n v W) (hs : s.size ≤ 1048576) (hn : n ≤ s.size) (hr : Flds.read (s.extract n s.size) = none) (hG : Ground m b W) :
    Calls Tryz.prog 105 #[.pointer (some ⟨g, 0, none⟩)] W fun e w' => e = thrown m b 2 ∧ Below W.heap.size W w' := by
  have hx : (s.extract n s.size).size ≤ 1048576 := by rw [ByteArray.size_extract]; omega
  have HRs := Num.hide (fun W h => rest_impl g s n v W h hn hs)
  have HF := Num.hide (fun W hS hm => Flds.read_impl (s.extract n s.size) W hx hS hm)
  rw [(show Flds.readB (s.extract n s.size) = false by unfold Flds.readB; rw [hr]; rfl)] at HF
  have HR := Num.hide h
  have HG := Num.hide hG
  clear h hG hr
  generalize Flds.readN (s.extract n s.size) = N at HF
  generalize Flds.readL (s.extract n s.size) = L at HF
  generalize s.extract n s.size = T at HRs HF hx
  go_enter Tryz.func105, Tryz.ntmps105
  go_wp2_with fail
  refine (HRs.out _ HR.out).mono ?_
  rintro e w1 ⟨rfl, hb1⟩
  have B1 := Num.hide hb1
  clear hb1
  go_wp2_with fail
  refine (HF.out _ (HG.out.below B1.out).signs (HG.out.below B1.out).lim).mono ?_
  rintro e w2 ⟨v2, rfl, ho2, hb2⟩
  have B2 := Num.hide (B1.out.trans (hb2.mono B1.out.size))
  clear ho2 hb2
  go_wp2_with fail
  refine (demand_no m b _ (HG.out.below B2.out).errs).mono ?_
  rintro e w3 ⟨rfl, rfl⟩
  unfold thrown
  exact ⟨rfl, rfl, B2.out⟩
/-- what a body is: its text, its bytes and its code -/
def bodyEnd (g : Nat) (s : ByteArray) (n : Nat) (v : Value) (m b : Addr) (W : World) (T : Body.Told) (e : Ending) (w' : World) : Prop :=
  W.grownBy w' (some g) ∧ if T.2.2 = 0 then (e = .returned (.string T.1) ∧ Rd g s (n + T.2.1.toNat) v w') else (T.2.2 = 1 ∨ T.2.2 = 2) ∧ e = thrown m b T.2.2.toNat
set_option maxRecDepth 100000 in
set_option maxHeartbeats 4000000 in
theorem takeBody_impl (g : Nat) (s : ByteArray) (n : Nat) (v : Value) (l : List Flds.Fld) (c : Bool) (m b : Addr) (W : World) (h : Rd g s n v W) (hs : s.size ≤ 1048576) (hn : n ≤ s.size) (hI : Flds.Is W v l) (hl : Flds.bulk l ≤ 1048576) (hG : Ground m b W) :
    Calls Tryz.prog 108 #[.pointer (some ⟨g, 0, none⟩), .bool c] W fun e w' => bodyEnd g s n v m b W (Body.bodyOf l (s.extract n s.size) c) e w' := by
  have hx : (s.extract n s.size).size ≤ 1048576 := by rw [ByteArray.size_extract]; omega
  have HRs := Num.hide (fun W h => rest_impl g s n v W h hn hs)
  have HA := Num.hide (fun W h (hG : Ground m b W) => Body.ahead_impl v l (s.extract n s.size) c m b W h hl hx hG.lim hG.syn hG.errs)
  have hin := body_in l (s.extract n s.size) c
  have HP := Num.hide (fun k W h (hk : k ≤ 1048576) => pass_impl g s n k v W h (by omega) hk)
  have HR := Num.hide h
  have HG := Num.hide hG
  generalize Body.bodyOf l (s.extract n s.size) c = R at HA hin ⊢
  generalize s.extract n s.size = T at HRs HA hx hin
  obtain ⟨a, q, rfl, _⟩ := Flds.is_form hI
  obtain ⟨c0, c1, c2⟩ := h.cells
  have hS0 : (fun X => Rd g s n (.slice a l.length q) X ∧ Flds.Is X (.slice a l.length q) l ∧ Below W.heap.size W X) W := ⟨h, hI, Below.refl _ _⟩
  clear h hG hI c0 c1 c2
  go_enter Tryz.func108, Tryz.ntmps108
  go_upto_region 1 with fail
  refine wp_region_held_drew (S := fun X => Rd g s n (.slice a l.length q) X ∧ Flds.Is X (.slice a l.length q) l ∧ Below W.heap.size W X) (by kernel_rfl) ⟨hS0.1.step (Below.refl _ _).drew, Recs.is_below hS0.2.1 (Below.refl _ _).drew, (Below.refl _ _).drew⟩ (fun hHeld => ?_)
  clear hS0
  refine Reg.take (i := 0) (d := 9) (v := ?_) rfl rfl (by kernel_rfl) (by kernel_rfl) (by kernel_rfl) (fun _ _ _ h => h) (by rfl) ?_ hHeld ?_
  rotate_left
  · rintro X ⟨g3, _, g4⟩
    obtain ⟨g0, g1, g2⟩ := g3.cells
    first | (go_simp; done) | (go_simp; with_reducible rfl)
  simp only [Act.put, List.setIfInBounds_toArray, List.set_cons_zero, List.set_cons_succ]
  refine Reg.take (i := 1) (d := 10) (v := ?_) rfl rfl (by kernel_rfl) (by kernel_rfl) (by kernel_rfl) (fun _ _ _ h => h) (by rfl) ?_ hHeld ?_
  rotate_left
  · rintro X ⟨g3, _, g4⟩
    obtain ⟨g0, g1, g2⟩ := g3.cells
    first | (go_simp; done) | (go_simp; with_reducible rfl)
  simp only [Act.put, List.setIfInBounds_toArray, List.set_cons_zero, List.set_cons_succ]
  refine Reg.take (i := 2) (d := 11) (v := ?_) rfl rfl (by kernel_rfl) (by kernel_rfl) (by kernel_rfl) (fun _ _ _ h => h) (by rfl) ?_ hHeld ?_
  rotate_left
  · rintro X ⟨g3, _, g4⟩
    obtain ⟨g0, g1, g2⟩ := g3.cells
    first | (go_simp; done) | (go_simp; with_reducible rfl)
  simp only [Act.put, List.setIfInBounds_toArray, List.set_cons_zero, List.set_cons_succ]
  refine Reg.take (i := 3) (d := 12) (v := ?_) rfl rfl (by kernel_rfl) (by kernel_rfl) (by kernel_rfl) (fun _ _ _ h => h) (by rfl) ?_ hHeld ?_
  rotate_left
  · rintro X ⟨g3, _, g4⟩
    obtain ⟨g0, g1, g2⟩ := g3.cells
    first | (go_simp; done) | (go_simp; with_reducible rfl)
  simp only [Act.put, List.setIfInBounds_toArray, List.set_cons_zero, List.set_cons_succ]
  refine Reg.take (i := 4) (d := 13) (v := ?_) rfl rfl (by kernel_rfl) (by kernel_rfl) (by kernel_rfl) (fun _ _ _ h => h) (by rfl) ?_ hHeld ?_
  rotate_left
  · rintro X ⟨g3, _, g4⟩
    obtain ⟨g0, g1, g2⟩ := g3.cells
    first | (go_simp; done) | (go_simp; with_reducible rfl)
  simp only [Act.put, List.setIfInBounds_toArray, List.set_cons_zero, List.set_cons_succ]
  refine Reg.take (i := 5) (d := 14) (v := ?_) rfl rfl (by kernel_rfl) (by kernel_rfl) (by kernel_rfl) (fun _ _ _ h => h) (by rfl) ?_ hHeld ?_
  rotate_left
  · rintro X ⟨g3, _, g4⟩
    obtain ⟨g0, g1, g2⟩ := g3.cells
    first | (go_simp; done) | (go_simp; with_reducible rfl)
  simp only [Act.put, List.setIfInBounds_toArray, List.set_cons_zero, List.set_cons_succ]
  refine Reg.take (i := 6) (d := 15) (v := ?_) rfl rfl (by kernel_rfl) (by kernel_rfl) (by kernel_rfl) (fun _ _ _ h => h) (by rfl) ?_ hHeld ?_
  rotate_left
  · rintro X ⟨g3, _, g4⟩
    obtain ⟨g0, g1, g2⟩ := g3.cells
    first | (go_simp; done) | (go_simp; with_reducible rfl)
  simp only [Act.put, List.setIfInBounds_toArray, List.set_cons_zero, List.set_cons_succ]
  refine Reg.take (i := 8) (d := 17) (v := ?_) rfl rfl (by kernel_rfl) (by kernel_rfl) (by kernel_rfl) (fun _ _ _ h => h) (by rfl) ?_ hHeld ?_
  rotate_left
  · rintro X ⟨g3, _, g4⟩
    obtain ⟨g0, g1, g2⟩ := g3.cells
    first | (go_simp; done) | (go_simp; with_reducible rfl)
  simp only [Act.put, List.setIfInBounds_toArray, List.set_cons_zero, List.set_cons_succ]
  refine Reg.call (i := 7) rfl (by kernel_rfl) (by rfl) (fun K hK => ?_)
  go_wp2_with (first | (go_at_call 157; refine (HRs.out _ hHeld.1).mono ?_; rintro e W3 ⟨rfl, hb3⟩))
  have HB3 := Num.hide hb3
  clear hb3
  refine hK.out _ _ ?_ (fun hHeld2 => ?_)
  · exact ⟨hHeld.1.step HB3.out, Recs.is_below hHeld.2.1 HB3.out, hHeld.2.2.trans (HB3.out.mono hHeld.2.2.size)⟩
  clear hK K
  replace hHeld := hHeld2
  clear hHeld2
  refine Reg.call (i := 9) rfl (by kernel_rfl) (by rfl) (fun K hK => ?_)
  go_wp2_with (first | (go_at_call 48; refine (HA.out _ hHeld.2.1 (HG.out.below hHeld.2.2)).mono ?_; rintro e W4 ⟨t, u, k, rfl, hk, ht, hb4⟩))
  have HB4 := Num.hide hb4
  have HT := Num.hide ht
  clear hb4 ht
  refine hK.out _ _ ?_ (fun hHeld2 => ?_)
  · exact ⟨hHeld.1.step HB4.out, Recs.is_below hHeld.2.1 HB4.out, hHeld.2.2.trans (HB4.out.mono hHeld.2.2.size)⟩
  clear hK K
  replace hHeld := hHeld2
  clear hHeld2
  refine Reg.take (i := 10) (d := 8) (v := ?_) rfl rfl (by kernel_rfl) (by kernel_rfl) (by kernel_rfl) (fun _ _ _ h => h) (by rfl) ?_ hHeld ?_
  rotate_left
  · rintro X ⟨g3, _, g4⟩
    obtain ⟨g0, g1, g2⟩ := g3.cells
    first | (go_simp; done) | (go_simp; with_reducible rfl)
  simp only [Act.put, List.setIfInBounds_toArray, List.set_cons_zero, List.set_cons_succ]
  refine Reg.take (i := 11) (d := 19) (v := ?_) rfl rfl (by kernel_rfl) (by kernel_rfl) (by kernel_rfl) (fun _ _ _ h => h) (by rfl) ?_ hHeld ?_
  rotate_left
  · rintro X ⟨g3, _, g4⟩
    obtain ⟨g0, g1, g2⟩ := g3.cells
    first | (go_simp; done) | (go_simp; with_reducible rfl)
  simp only [Act.put, List.setIfInBounds_toArray, List.set_cons_zero, List.set_cons_succ]
  refine Reg.take (i := 12) (d := 20) (v := ?_) rfl rfl (by kernel_rfl) (by kernel_rfl) (by kernel_rfl) (fun _ _ _ h => h) (by rfl) ?_ hHeld ?_
  rotate_left
  · rintro X ⟨g3, _, g4⟩
    obtain ⟨g0, g1, g2⟩ := g3.cells
    first | (go_simp; done) | (go_simp; with_reducible rfl)
  simp only [Act.put, List.setIfInBounds_toArray, List.set_cons_zero, List.set_cons_succ]
  refine Reg.take (i := 13) (d := 21) (v := ?_) rfl rfl (by kernel_rfl) (by kernel_rfl) (by kernel_rfl) (fun _ _ _ h => h) (by rfl) ?_ hHeld ?_
  rotate_left
  · rintro X ⟨g3, _, g4⟩
    obtain ⟨g0, g1, g2⟩ := g3.cells
    first | (go_simp; done) | (go_simp; with_reducible rfl)
  simp only [Act.put, List.setIfInBounds_toArray, List.set_cons_zero, List.set_cons_succ]
  refine Reg.take (i := 14) (d := 5) (v := ?_) rfl rfl (by kernel_rfl) (by kernel_rfl) (by kernel_rfl) (fun _ _ _ h => h) (by rfl) ?_ hHeld ?_
  rotate_left
  · rintro X ⟨g3, _, g4⟩
    obtain ⟨g0, g1, g2⟩ := g3.cells
    first | (go_simp; done) | (go_simp; with_reducible rfl)
  simp only [Act.put, List.setIfInBounds_toArray, List.set_cons_zero, List.set_cons_succ]
  refine Reg.take (i := 15) (d := 6) (v := ?_) rfl rfl (by kernel_rfl) (by kernel_rfl) (by kernel_rfl) (fun _ _ _ h => h) (by rfl) ?_ hHeld ?_
  rotate_left
  · rintro X ⟨g3, _, g4⟩
    obtain ⟨g0, g1, g2⟩ := g3.cells
    first | (go_simp; done) | (go_simp; with_reducible rfl)
  simp only [Act.put, List.setIfInBounds_toArray, List.set_cons_zero, List.set_cons_succ]
  refine Reg.take (i := 16) (d := 7) (v := ?_) rfl rfl (by kernel_rfl) (by kernel_rfl) (by kernel_rfl) (fun _ _ _ h => h) (by rfl) ?_ hHeld ?_
  rotate_left
  · rintro X ⟨g3, _, g4⟩
    obtain ⟨g0, g1, g2⟩ := g3.cells
    first | (go_simp; done) | (go_simp; with_reducible rfl)
  simp only [Act.put, List.setIfInBounds_toArray, List.set_cons_zero, List.set_cons_succ]
  refine wpAnyH_done (by kernel_rfl) ?_ _
  obtain ⟨hr4, _, hb4⟩ := hHeld
  have HRd := Num.hide hr4
  have HBl := Num.hide hb4
  clear hr4 hb4 HB3 HB4 HA HRs HG
  match k, hk with
  | 0, _ =>
    have e0 : Body.errV m b 0 = .nilIface := rfl
    rw [e0]
    have ht := HT.out
    unfold Body.tell at ht
    rw [if_pos rfl] at ht
    subst ht
    obtain ⟨h60, hu0, hu1⟩ := hin rfl
    simp only at hu0 hu1
    obtain ⟨U, rfl⟩ := Int.eq_ofNat_of_zero_le hu0
    clear hin HT e0
    go_wp2_with fail
    refine (HP.out U _ HRd.out (by omega)).mono ?_
    rintro e w5 ⟨rfl, hr5, hg5⟩
    have HF : Hid (bodyEnd g s n (.slice a l.length q) m b W (t, (U : Int), 0) (.returned (.string t)) w5) := ⟨Recs.grown_trans (Recs.grown_of_below HBl.out (some g)) hg5, by rw [if_pos rfl]; exact ⟨rfl, hr5⟩⟩
    clear hr5 hg5
    go_wp2
    go_ret
    exact HF.out
  | 1, _ =>
    have e0 : Body.errV m b 1 = .iface 199 (.pointer (some m)) := rfl
    rw [e0]
    have ht := HT.out
    unfold Body.tell at ht
    rw [if_neg (by decide)] at ht
    subst ht
    have HF : Hid (bodyEnd g s n (.slice a l.length q) m b W (⟨#[]⟩, 0, ((1 : Nat) : Int)) (thrown m b 1) W4) := ⟨Recs.grown_of_below HBl.out (some g), by rw [if_neg (by decide)]; exact ⟨.inl rfl, rfl⟩⟩
    clear hin HT e0
    go_wp2
    exact ⟨rfl, HF.out⟩
  | 2, _ =>
    have e0 : Body.errV m b 2 = .iface 199 (.pointer (some b)) := rfl
    rw [e0]
    have ht := HT.out
    unfold Body.tell at ht
    rw [if_neg (by decide)] at ht
    subst ht
    have HF : Hid (bodyEnd g s n (.slice a l.length q) m b W (⟨#[]⟩, 0, ((2 : Nat) : Int)) (thrown m b 2) W4) := ⟨Recs.grown_of_below HBl.out (some g), by rw [if_neg (by decide)]; exact ⟨.inr rfl, rfl⟩⟩
    clear hin HT e0
    go_wp2
    exact ⟨rfl, HF.out⟩
end Msg
end Go.Proofs.YtkenmilglfnmbaaGreatDoor
namespace Go.Proofs.YtkenmilglfnmbaaGreatDoor
open Go.RowKit
set_option linter.unusedVariables false
namespace Msg
open Line (eol)

/-- the box of an answer that is not yet told -/
abbrev zBox (r : Nat) (X : World) : Prop := RBox r ⟨#[]⟩ ⟨#[]⟩ (.slice none 0 0) ⟨#[]⟩ X
theorem RBox.thaw {r : Nat} {a b c : ByteArray} {v : Value} {X : World} (h : RBox r a b v c X) : X.frozen? ⟨r, 0, none⟩ = false ∧ X.frozen? ⟨r, 1, none⟩ = false ∧ X.frozen? ⟨r, 2, none⟩ = false ∧ X.frozen? ⟨r, 3, none⟩ = false :=
  ⟨Recs.box_thaw h 0, Recs.box_thaw h 1, Recs.box_thaw h 2, Recs.box_thaw h 3⟩
theorem RBox.fill {r : Nat} {a b c : ByteArray} {v : Value} {X : World} (h : RBox r a b v c X) (a' b' : ByteArray) (v' : Value) : RBox r a' b' v' ⟨#[]⟩ ((((X.setCell ⟨r, 0, none⟩ (.string a')).setCell ⟨r, 1, none⟩ (.string b')).setCell ⟨r, 2, none⟩ v').setCell ⟨r, 3, none⟩ (.string ⟨#[]⟩)) :=
  Recs.box_set (Recs.box_set (Recs.box_set (Recs.box_set h 0 _) 1 _) 2 _) 3 _
structure St (w : World) (g : Nat) (s : ByteArray) (n : Nat) (v : Value) (X : World) : Prop where
  grown : w.grownBy X (some g)
  box : zBox w.heap.size X
  rd : Rd g s n v X
theorem grown_far {w X : World} {o : Option Nat} (h : w.grownBy X o) (r i : Nat) (u : Value) (hr : w.heap.size ≤ r) : w.grownBy (X.setCell ⟨r, i, none⟩ u) o :=
  ⟨h.os, h.tape, h.output, by rw [show (X.setCell ⟨r, i, none⟩ u).heap.size = X.heap.size by simp]; exact h.size, fun j hj hne => (heap_setCell_other X ⟨r, i, none⟩ j u (fun e => by have e2 : j = r := e; omega)).trans (h.block j hj hne)⟩
theorem grown_alloc {w X : World} {o : Option Nat} (h : w.grownBy X o) (b : Obj) : w.grownBy (X.alloc b) o := Recs.grown_trans h (World.grownBy_alloc X b o)
theorem St.step {w X X' : World} {g : Nat} {s : ByteArray} {n : Nat} {v : Value} (h : St w g s n v X) (hb : Below X.heap.size X X') : St w g s n v X' :=
  ⟨Recs.grown_trans h.grown (Recs.grown_of_below hb _), h.box.step hb, h.rd.step hb⟩
theorem St.grow {w X X' : World} {g : Nat} {s : ByteArray} {n n' : Nat} {v v' : Value} (h : St w g s n v X) (hg : X.grownBy X' (some g)) (hl : g < w.heap.size) (hr : Rd g s n' v' X') : St w g s n' v' X' :=
  ⟨Recs.grown_trans h.grown hg, h.box.mark hg (fun k hk => by have := Option.some.inj hk; omega), hr⟩
theorem St.first {w : World} {g : Nat} {s : ByteArray} {n : Nat} {v : Value} (h : Rd g s n v w) : St w g s n v (w.alloc (.cells #[.string ⟨#[]⟩, .string ⟨#[]⟩, .slice none 0 0, .string ⟨#[]⟩] 39)) :=
  ⟨World.grownBy_alloc w _ _, heap_alloc_new w _, h.step ((Below.refl w.heap.size w).alloc (Nat.le_refl _) _)⟩
/-- how the reading of a request ends -/
def reqEnd (g : Nat) (s : ByteArray) (m b : Addr) (w : World) (R : Rq) (e : Ending) (X : World) : Prop :=
  w.grownBy X (some g) ∧ if R.2.2 = 0 then ∃ v, e = .returned (Req.val R.1.1 R.1.2.1 v R.1.2.2.2) ∧ Flds.Own w.heap.size X v R.1.2.2.1 ∧ ∃ (f : Value) (n : Nat), R.2.1 = (n : Int) ∧ Rd g s n f X else e = thrown m b R.2.2.toNat
theorem ended (g : Nat) (s : ByteArray) (m b : Addr) (w X : World) (c : Nat) (hc : c = 1 ∨ c = 2) (h : w.grownBy X (some g)) : reqEnd g s m b w (noRq (c : Int)) (thrown m b c) X := by
  refine ⟨h, ?_⟩
  rcases hc with rfl | rfl
  · rw [if_neg (by decide)]; rfl
  · rw [if_neg (by decide)]; rfl
theorem rq_line {s : ByteArray} {k : Nat} (hw : whole s = true) (hk : eol s 0 = some k) (hv : ¬ (words (s.extract 0 k)).2.2 = ver) : readReq s = noRq 2 := by
  unfold readReq
  rw [hw, if_neg (by decide), hk]
  simp only
  cases Flds.read (s.extract (k + 2) s.size) with
  | none => rfl
  | some q => obtain ⟨l, n⟩ := q; simp only; rw [if_neg (fun h => hv h.1)]
theorem rq_fields {s : ByteArray} {k : Nat} (hw : whole s = true) (hk : eol s 0 = some k) (hf : Flds.read (s.extract (k + 2) s.size) = none) : readReq s = noRq 2 := by
  unfold readReq
  rw [hw, if_neg (by decide), hk]
  simp only
  rw [hf]
theorem rq_wrong {s : ByteArray} {k : Nat} {l : List Flds.Fld} {n : Nat} (hw : whole s = true) (hk : eol s 0 = some k) (hf : Flds.read (s.extract (k + 2) s.size) = some (l, n)) (hr : reqOk (words (s.extract 0 k)).1 (words (s.extract 0 k)).2.1 (bare l) ⟨#[]⟩ = false) : readReq s = noRq 2 := by
  unfold readReq
  rw [hw, if_neg (by decide), hk]
  simp only
  rw [hf]
  simp only
  rw [if_neg (fun h => by rw [hr] at h; exact absurd h.2 (by decide))]
theorem rq_body {s : ByteArray} {k : Nat} {l : List Flds.Fld} {n : Nat} (hw : whole s = true) (hk : eol s 0 = some k) (hf : Flds.read (s.extract (k + 2) s.size) = some (l, n)) (hv : (words (s.extract 0 k)).2.2 = ver) (hr : reqOk (words (s.extract 0 k)).1 (words (s.extract 0 k)).2.1 (bare l) ⟨#[]⟩ = true) :
    readReq s = if (Body.bodyOf l (s.extract (k + 2 + n) s.size) false).2.2 = 0 then (((words (s.extract 0 k)).1, (words (s.extract 0 k)).2.1, bare l, (Body.bodyOf l (s.extract (k + 2 + n) s.size) false).1), ((k + 2 + n : Nat) : Int) + (Body.bodyOf l (s.extract (k + 2 + n) s.size) false).2.1, 0) else noRq (codeOf (Body.bodyOf l (s.extract (k + 2 + n) s.size) false).2.2) := by
  unfold readReq
  rw [hw, if_neg (by decide), hk]
  simp only
  rw [hf]
  simp only
  rw [if_pos ⟨hv, hr⟩]
theorem ver_yes {x : ByteArray} (h : x = ver) : (x.toList == [72, 84, 84, 80, 47, 49, 46, 49]) = true := by rw [h, ByteArray.toList_eq]; rfl
theorem ver_no {x : ByteArray} (h : ¬ x = ver) : (x.toList == [72, 84, 84, 80, 47, 49, 46, 49]) = false := by
  rw [beq_eq_false_iff_ne, ByteArray.toList_eq]
  intro e; exact h (ByteArray.ext (Array.toList_inj.1 (by rw [e]; rfl)))
theorem unparted_ver {s : ByteArray} (h : parted s = false) : ¬ (words s).2.2 = ver := by rw [parted_no h]; decide
/-- a body's code is 0, 1 or 2 -/
theorem body_code {m b : Addr} {g : Nat} {s : ByteArray} {n : Nat} {v : Value} {w X : World} {T : Body.Told} {e : Ending} (h : bodyEnd g s n v m b w T e X) : w.grownBy X (some g) := h.1
end Msg
end Go.Proofs.YtkenmilglfnmbaaGreatDoor
namespace Go.Proofs.YtkenmilglfnmbaaGreatDoor
open Go.RowKit
set_option linter.unusedVariables false
namespace Msg
open Line (byteAt byteAt_eq)

set_option maxRecDepth 100000 in
set_option maxHeartbeats 1000000 in
theorem uri_impl (s : ByteArray) (w : World) (hs : s.size ≤ maxLen) : Calls Tryz.prog 96 #[.string s] w fun e w' => e = .returned (.bool (uriOk s)) ∧ w = w' := by
  unfold maxLen at hs
  obtain ⟨r, hr⟩ : ∃ r, uriOk s = r := ⟨_, rfl⟩
  rw [hr]
  by_cases h0 : s.size = 0
  · have he : s.toList.isEmpty = true := by
      have : s = ⟨#[]⟩ := ByteArray.ext (Array.eq_empty_of_size_eq_zero h0)
      rw [this, ByteArray.toList_eq]; rfl
    obtain rfl : false = r := by rw [← hr]; unfold uriOk; rw [decide_eq_false (by omega : ¬ (1 ≤ s.size ∧ s.size ≤ 20)), Bool.and_false]; rfl
    clear hr
    go_enter Tryz.func96, Tryz.ntmps96
    go_wp2
    go_ret
    exact ⟨rfl, rfl⟩
  · have he : s.toList.isEmpty = false := Sign.empty_false s (by omega)
    by_cases h20 : (20 : Int) < (s.size : Int)
    · have d20 : decide ((20 : Int) < (s.size : Int)) = true := decide_eq_true h20
      obtain rfl : false = r := by rw [← hr]; unfold uriOk; rw [decide_eq_false (by omega : ¬ (1 ≤ s.size ∧ s.size ≤ 20)), Bool.and_false]; rfl
      clear hr
      go_enter Tryz.func96, Tryz.ntmps96
      go_wp2
      go_ret
      exact ⟨rfl, rfl⟩
    · have d20 : decide ((20 : Int) < (s.size : Int)) = false := decide_eq_false h20
      have hp : 0 < s.size := by omega
      have hz : (0 : Int) < (s.size : Int) := by omega
      unfold uriOk at hr
      rw [decide_eq_true (by omega : 1 ≤ s.size ∧ s.size ≤ 20), Bool.and_true, byteAt_eq s 0 hp] at hr
      by_cases h47 : (s[0]).toNat = 47
      · rw [decide_eq_true h47, Bool.and_true] at hr
        have d47 : (((s[0]).toNat : Int) != 47) = false := by rw [h47]; rfl
        have HR := Num.hide hr
        clear hr h47
        go_enter Tryz.func96, Tryz.ntmps96
        go_wp2
        go_loop [18] (fun iv => ∃ k : Nat, k ≤ s.size ∧ iv = .int .i64 (k : Int) ∧ Hid ((s.data.toList.take k).all uriB = true)) (fun iv => s.size - (intOf iv).toNat)
        case atStart => exact ⟨0, by omega, rfl, by show _ = _; simp⟩
        case round =>
          obtain ⟨k, hk, rfl, HA⟩ := hrel
          by_cases hlt : k < s.size
          · have hc := s[k].toNat_lt
            have HT := Num.hide (Sign.all_take s uriB k hlt)
            have HN := Num.hide (fun h => Sign.not_all s uriB k hlt h)
            by_cases h1 : (s[k].toNat : Int) < 33
            · obtain rfl : r = false := by rw [← HR.out]; exact HN.out (decide_eq_false (by omega))
              clear HR HA HT HN
              go_wp2
              all_goals go_ret
              all_goals exact ⟨rfl, rfl⟩
            · have d1 : decide ((s[k].toNat : Int) < 33) = false := decide_eq_false h1
              by_cases h2 : 126 < (s[k].toNat : Int)
              · obtain rfl : r = false := by rw [← HR.out]; exact HN.out (decide_eq_false (by omega))
                clear HR HA HT HN
                go_wp2
                all_goals go_ret
                all_goals exact ⟨rfl, rfl⟩
              · have d2 : decide (126 < (s[k].toNat : Int)) = false := decide_eq_false h2
                have HA2 : Hid ((s.data.toList.take (k + 1)).all uriB = true) := by
                  show _ = _; rw [HT.out, HA.out, Bool.true_and]; exact decide_eq_true (by omega)
                clear HA HT HN
                go_wp2
                all_goals go_round
                case rel => exact ⟨k + 1, by omega, by go_num, HA2⟩
                case measure => simp [intOf]; omega
          · obtain rfl : k = s.size := by omega
            obtain rfl : r = true := by rw [← HR.out]; exact Sign.all_full s uriB HA.out
            clear HA HR
            go_wp2
            go_ret
            exact ⟨rfl, rfl⟩
      · obtain rfl : false = r := by rw [← hr, decide_eq_false h47, Bool.and_false]
        have d47 : (((s[0]).toNat : Int) != 47) = true := by rw [bne_iff_ne]; omega
        clear hr h47
        go_enter Tryz.func96, Tryz.ntmps96
        go_wp2
        go_ret
        exact ⟨rfl, rfl⟩
theorem uri_impl_b (s : ByteArray) (w : World) (hs : s.size ≤ maxLen) : Calls Tryz.prog 96 #[.string s] w fun e w' => e = .returned (.bool (uriOk s)) ∧ Below w.heap.size w w' :=
  (uri_impl s w hs).mono (fun _ _ h => ⟨h.1, h.2 ▸ Below.refl _ _⟩)
end Msg
end Go.Proofs.YtkenmilglfnmbaaGreatDoor
namespace Go.Proofs.YtkenmilglfnmbaaGreatDoor
open Go.RowKit
set_option linter.unusedVariables false
namespace Flds

set_option maxRecDepth 100000 in
set_option maxHeartbeats 1000000 in
theorem new_any (x y : ByteArray) (w : World) (hx : x.size ≤ 281474976710656) (hy : y.size ≤ 281474976710656) :
    Calls Tryz.prog 155 #[.string x, .string y] w fun e w' => e = .returned (.agg #[.string x, .string y]) ∧ Below w.heap.size w w' := by
  have c0 : (w.alloc (.cells #[.string ⟨#[]⟩, .string ⟨#[]⟩] 36)).heap[w.heap.size]? = some (.cells #[.string ⟨#[]⟩, .string ⟨#[]⟩] 36) := heap_alloc_new w _
  have HC := Num.hide c0
  have HB0 := Num.hide ((Below.refl w.heap.size w).alloc (Nat.le_refl _) (.cells #[.string ⟨#[]⟩, .string ⟨#[]⟩] 36))
  have hz0 : w.heap.size + 1 = (w.alloc (.cells #[.string ⟨#[]⟩, .string ⟨#[]⟩] 36)).heap.size := by simp
  clear c0
  go_enter Tryz.func155, Tryz.ntmps155
  go_wp2_with fail
  refine (Shelf.clone x _ hx).mono ?_
  rintro e w1 ⟨rfl, hb1⟩
  go_wp2_with fail
  refine (Shelf.clone y _ hy).mono ?_
  rintro e w2 ⟨rfl, hb2⟩
  obtain ⟨k0, k1, f0, f1⟩ := two_cells (show w2.heap[w.heap.size]? = _ from by rw [hb2.block _ (by have := hb1.size; omega), hb1.block _ (by omega)]; exact HC.out)
  have HB := Num.hide (HB0.out.trans (((hb1.mono (by omega : w.heap.size ≤ _)).trans (hb2.mono (by have := hb1.size; omega)))))
  clear hb1 hb2 HB0 HC hz0
  have r0 := Num.hide (box_first (x := x) (y := y) k0)
  have r1 := Num.hide (box_second (x := x) (y := y) k1)
  have HB1 := Num.hide ((HB.out.setCell (p := ⟨w.heap.size, 0, none⟩) (Nat.le_refl _) (.string x)).setCell (p := ⟨w.heap.size, 1, none⟩) (Nat.le_refl _) (.string y))
  go_wp2
  generalize ((w2.setCell ⟨w.heap.size, 0, none⟩ (.string x)).setCell ⟨w.heap.size, 1, none⟩ (.string y)) = w3 at r0 r1 HB1 ⊢
  have r0 := r0.out
  have r1 := r1.out
  exact bodyPost_ret (v := .agg #[.string x, .string y]) (by simp [results, Tryz.results155, go_sem, r0, r1]) rfl ⟨rfl, HB1.out⟩
end Flds
end Go.Proofs.YtkenmilglfnmbaaGreatDoor
namespace Go.Proofs.YtkenmilglfnmbaaGreatDoor
open Go.RowKit
set_option linter.unusedVariables false
namespace Flds

/-- what holds while the choice is made -/
def DropAt (w : World) (x y name : ByteArray) (nb : Nat) (W : World) : Prop := W.cell? ⟨w.heap.size, 0, none⟩ = some (.string x) ∧ W.cell? ⟨w.heap.size, 1, none⟩ = some (.string y) ∧ W.cell? ⟨nb, 0, none⟩ = some (.string name) ∧ Below w.heap.size w W ∧ nb < w.heap.size
def dropW (w : World) (x y : ByteArray) : World := ((w.alloc (.cells #[.string x, .string y] 36)).alloc (.cells #[.string ⟨#[]⟩, .string ⟨#[]⟩] 36)).drew
theorem dropAt0 (w : World) (x y name : ByteArray) (nb : Nat) (hn : w.cell? ⟨nb, 0, none⟩ = some (.string name)) : DropAt w x y name nb (dropW w x y) := by
  have hlt := Recs.lt_of_cell hn
  have hb : Below w.heap.size w (dropW w x y) := (((Below.refl _ _).alloc (Nat.le_refl _) _).alloc (by simp) _).drew
  refine ⟨?_, ?_, by rw [hb.cell (p := ⟨nb, 0, none⟩) hlt]; exact hn, hb, hlt⟩
  · show ((w.alloc _).alloc _).cell? _ = _
    rw [World.cell?_alloc_lt _ _ _ (by simp)]; simp
  · show ((w.alloc _).alloc _).cell? _ = _
    rw [World.cell?_alloc_lt _ _ _ (by simp)]; simp
theorem dropAt_below {w : World} {x y name : ByteArray} {nb : Nat} {W W' : World} (h : DropAt w x y name nb W) (hb : Below W.heap.size W W') : DropAt w x y name nb W' :=
  ⟨by rw [hb.cell (p := ⟨w.heap.size, 0, none⟩) (Recs.lt_of_cell h.1)]; exact h.1, by rw [hb.cell (p := ⟨w.heap.size, 1, none⟩) (Recs.lt_of_cell h.2.1)]; exact h.2.1, by rw [hb.cell (p := ⟨nb, 0, none⟩) (Recs.lt_of_cell h.2.2.1)]; exact h.2.2.1, h.2.2.2.1.trans (hb.mono h.2.2.2.1.size), h.2.2.2.2⟩
theorem dropAt_set {w : World} {x y name : ByteArray} {nb : Nat} {W : World} {x' y' : Value} (h : DropAt w x y name nb W) : DropAt w x y name nb ((W.setCell ⟨w.heap.size + 1, 0, none⟩ x').setCell ⟨w.heap.size + 1, 1, none⟩ y') := by
  have hb : Below (w.heap.size + 1) W ((W.setCell ⟨w.heap.size + 1, 0, none⟩ x').setCell ⟨w.heap.size + 1, 1, none⟩ y') := ((Below.refl _ _).setCell (p := ⟨w.heap.size + 1, 0, none⟩) (Nat.le_refl _) _).setCell (p := ⟨w.heap.size + 1, 1, none⟩) (Nat.le_refl _) _
  have hlt := h.2.2.2.2
  exact ⟨by rw [hb.cell (p := ⟨w.heap.size, 0, none⟩) (by show w.heap.size < _; omega)]; exact h.1, by rw [hb.cell (p := ⟨w.heap.size, 1, none⟩) (by show w.heap.size < _; omega)]; exact h.2.1, by rw [hb.cell (p := ⟨nb, 0, none⟩) (by show nb < _; omega)]; exact h.2.2.1, h.2.2.2.1.trans (hb.mono (by omega)), hlt⟩
theorem dropRes (w : World) (x y : ByteArray) : (dropW w x y).heap[w.heap.size + 1]? = some (.cells #[.string ⟨#[]⟩, .string ⟨#[]⟩] 36 (0, 0)) := by
  have := heap_alloc_new (w.alloc (.cells #[.string x, .string y] 36)) (.cells #[.string ⟨#[]⟩, .string ⟨#[]⟩] 36)
  show ((w.alloc _).alloc _).heap[w.heap.size + 1]? = _
  rw [← this, show (w.alloc (.cells #[.string x, .string y] 36)).heap.size = w.heap.size + 1 by simp]
set_option maxRecDepth 100000 in
set_option maxHeartbeats 4000000 in
theorem dropF_any (x y name : ByteArray) (nb : Nat) (w : World) (hn : w.cell? ⟨nb, 0, none⟩ = some (.string name)) (hx : x.size ≤ 281474976710656) (hy : y.size ≤ 281474976710656) :
    Calls Tryz.prog 187 #[.agg #[.string x, .string y], .pointer (some ⟨nb, 0, none⟩)] w fun e w' => e = .returned (.tuple #[.agg #[.string x, .string y], .bool (!decide (x = name))]) ∧ Below w.heap.size w w' := by
  have HN := Num.hide (fun W => new_any x y W hx hy)
  have HD0 := Num.hide (dropAt0 w x y name nb hn)
  have HR := Num.hide (dropRes w x y)
  have hne : (x.toList != name.toList) = !decide (x = name) := by
    by_cases h : x = name
    · subst h; simp
    · rw [bne, ne_text h, decide_eq_false h]
  generalize (!decide (x = name)) = r at hne ⊢
  clear hn
  go_enter Tryz.func187, Tryz.ntmps187
  go_wp2
  have hz : w.heap.size + 2 = (dropW w x y).heap.size := by simp [dropW]
  refine wp_region_held_drew (S := DropAt w x y name nb) (by kernel_rfl) HD0.out (fun hHeld => ?_)
  refine Reg.take (i := 0) (d := 5) (v := ?_) rfl rfl (by kernel_rfl) (by kernel_rfl) (by kernel_rfl) (fun _ _ _ h => h) (by rfl) ?_ hHeld ?_
  rotate_left
  · rintro W ⟨h1, h2, h3, h4⟩
    first | (go_simp; done) | (go_simp; with_reducible rfl)
  simp only [Act.put, List.setIfInBounds_toArray, List.set_cons_zero, List.set_cons_succ]
  refine Reg.take (i := 1) (d := 6) (v := ?_) rfl rfl (by kernel_rfl) (by kernel_rfl) (by kernel_rfl) (fun _ _ _ h => h) (by rfl) ?_ hHeld ?_
  rotate_left
  · rintro W ⟨h1, h2, h3, h4⟩
    first | (go_simp; done) | (go_simp; with_reducible rfl)
  simp only [Act.put, List.setIfInBounds_toArray, List.set_cons_zero, List.set_cons_succ]
  refine Reg.take (i := 2) (d := 7) (v := ?_) rfl rfl (by kernel_rfl) (by kernel_rfl) (by kernel_rfl) (fun _ _ _ h => h) (by rfl) ?_ hHeld ?_
  rotate_left
  · rintro W ⟨h1, h2, h3, h4⟩
    first | (go_simp; done) | (go_simp; with_reducible rfl)
  simp only [Act.put, List.setIfInBounds_toArray, List.set_cons_zero, List.set_cons_succ]
  refine Reg.take (i := 3) (d := 8) (v := ?_) rfl rfl (by kernel_rfl) (by kernel_rfl) (by kernel_rfl) (fun _ _ _ h => h) (by rfl) ?_ hHeld ?_
  rotate_left
  · rintro W ⟨h1, h2, h3, h4⟩
    first | (go_simp; done) | (go_simp; with_reducible rfl)
  simp only [Act.put, List.setIfInBounds_toArray, List.set_cons_zero, List.set_cons_succ]
  refine Reg.take (i := 5) (d := 10) (v := ?_) rfl rfl (by kernel_rfl) (by kernel_rfl) (by kernel_rfl) (fun _ _ _ h => h) (by rfl) ?_ hHeld ?_
  rotate_left
  · rintro W ⟨h1, h2, h3, h4⟩
    first | (go_simp; done) | (go_simp; with_reducible rfl)
  simp only [Act.put, List.setIfInBounds_toArray, List.set_cons_zero, List.set_cons_succ]
  refine Reg.take (i := 6) (d := 11) (v := ?_) rfl rfl (by kernel_rfl) (by kernel_rfl) (by kernel_rfl) (fun _ _ _ h => h) (by rfl) ?_ hHeld ?_
  rotate_left
  · rintro W ⟨h1, h2, h3, h4⟩
    first | (go_simp; done) | (go_simp; with_reducible rfl)
  simp only [Act.put, List.setIfInBounds_toArray, List.set_cons_zero, List.set_cons_succ]
  refine Reg.take (i := 7) (d := 12) (v := ?_) rfl rfl (by kernel_rfl) (by kernel_rfl) (by kernel_rfl) (fun _ _ _ h => h) (by rfl) ?_ hHeld ?_
  rotate_left
  · rintro W ⟨h1, h2, h3, h4⟩
    first | (go_simp; done) | (go_simp; with_reducible rfl)
  simp only [Act.put, List.setIfInBounds_toArray, List.set_cons_zero, List.set_cons_succ]
  refine Reg.take (i := 8) (d := 13) (v := ?_) rfl rfl (by kernel_rfl) (by kernel_rfl) (by kernel_rfl) (fun _ _ _ h => h) (by rfl) ?_ hHeld ?_
  rotate_left
  · rintro W ⟨h1, h2, h3, h4⟩
    first | (go_simp; done) | (go_simp; with_reducible rfl)
  simp only [Act.put, List.setIfInBounds_toArray, List.set_cons_zero, List.set_cons_succ]
  refine Reg.call (i := 4) rfl (by kernel_rfl) (by rfl) (fun K hK => ?_)
  go_wp2_with (first | (go_at_call 155; refine (Num.unhide HN _).mono ?_; rintro e w3 ⟨rfl, hb3⟩))
  refine hK.out _ _ (dropAt_below hHeld hb3) (fun hHeld2 => ?_)
  obtain ⟨k0, k1, f0, f1⟩ := two_cells (show w3.heap[w.heap.size + 1]? = _ from by rw [hb3.block _ (by change w.heap.size + 1 < (dropW w x y).heap.size; omega)]; exact HR.out)
  clear hK K hb3 HR hHeld
  replace hHeld := hHeld2
  clear hHeld2
  have r0 := Num.hide (box_first (x := x) (y := y) k0)
  have r1 := Num.hide (box_second (x := x) (y := y) k1)
  have HS := Num.hide (dropAt_set (x' := .string x) (y' := .string y) hHeld)
  refine Reg.call (i := 9) rfl (by kernel_rfl) (by rfl) (fun K hK => ?_)
  go_wp2
  refine hK.out _ _ HS.out (fun hHeld2 => ?_)
  clear hK K hHeld
  replace hHeld := hHeld2
  clear hHeld2 k0 k1 f0 f1
  generalize ((w3.setCell ⟨w.heap.size + 1, 0, none⟩ (.string x)).setCell ⟨w.heap.size + 1, 1, none⟩ (.string y)) = w4 at r0 r1 HS hHeld ⊢
  refine Reg.take (i := 10) (d := 4) (v := ?_) rfl rfl (by kernel_rfl) (by kernel_rfl) (by kernel_rfl) (fun _ _ _ h => h) (by rfl) ?_ hHeld ?_
  rotate_left
  · rintro W ⟨h1, h2, h3, h4⟩
    first | (go_simp; done) | (go_simp; with_reducible rfl)
  simp only [Act.put, List.setIfInBounds_toArray, List.set_cons_zero, List.set_cons_succ]
  refine wpAnyH_done (by kernel_rfl) ?_ _
  have r0 := r0.out
  have r1 := r1.out
  go_wp2
  exact bodyPost_ret (v := .tuple #[.agg #[.string x, .string y], .bool r]) (by simp [results, Tryz.results187, go_sem, r0, r1, show (x.toList == name.toList) = !r by rw [← hne, bne, Bool.not_not]]) rfl ⟨rfl, HS.out.2.2.2.1⟩
theorem drop_take_b (l : List Fld) (name : ByteArray) (k : Nat) (h : k < l.length) : drop (l.take (k + 1)) name = drop (l.take k) name ++ (if (!decide (l[k].1 = name)) = true then [l[k]] else []) := by
  rw [drop_take l name k h]
  by_cases e : l[k].1 = name
  · rw [if_pos e, if_neg (by simp [e])]
  · rw [if_neg e, if_pos (by simp [e])]
theorem drop_choice (w0 w : World) (l : List Fld) (name : ByteArray) (nb : Nat) (hb : Below w0.heap.size w0 w) (hz : ∀ f ∈ l, f.1.size ≤ 281474976710656 ∧ f.2.size ≤ 281474976710656) :
    Choice 187 #[.pointer (some ⟨nb, 0, none⟩)] w0.heap.size w.heap.size w0 l (fun k => drop (l.take k) name) (fun _ W => W.cell? ⟨nb, 0, none⟩ = some (.string name)) := by
  intro k hk W hB hn hQ
  have hzk := hz l[k] (List.getElem_mem hk)
  refine (dropF_any l[k].1 l[k].2 name nb W hQ hzk.1 hzk.2).mono ?_
  rintro e W' ⟨rfl, hb2⟩
  exact ⟨l[k], _, rfl, drop_take_b l name k hk, (hb2.cell (p := ⟨nb, 0, none⟩) (Recs.lt_of_cell hQ)).trans hQ, Far.of_below hb2 hB.size⟩
theorem sizes_of {l : List Fld} (h : bulk l ≤ 1099511627776) : ∀ f ∈ l, f.1.size ≤ 281474976710656 ∧ f.2.size ≤ 281474976710656 := by
  intro f hf
  obtain ⟨i, hi, rfl⟩ := List.getElem_of_mem hf
  have h1 := bulk_take l i hi
  have h2 := bulk_le l (i + 1)
  unfold bulk at h
  omega
set_option maxRecDepth 100000 in
set_option maxHeartbeats 1000000 in
theorem drop_impl (v : Value) (l : List Fld) (name : ByteArray) (w : World) (h : Is w v l) (hl : bulk l ≤ 1073741824) :
    Calls Tryz.prog 162 #[v, .string name] w fun e w' => ∃ v', e = .returned v' ∧ Own w.heap.size w' v' (drop l name) ∧ Below w.heap.size w w' := by
  have hlen : l.length ≤ 1073741824 := by unfold bulk at hl; omega
  have hb := (Below.refl w.heap.size w).alloc (Nat.le_refl _) (.cells #[.string name] 9)
  have HC := Num.hide (chosen_any 187 #[.pointer (some ⟨w.heap.size, 0, none⟩)] w.heap.size w (w.alloc (.cells #[.string name] 9)) v l (fun k => drop (l.take k) name) (fun _ W => W.cell? ⟨w.heap.size, 0, none⟩ = some (.string name)) h rfl hb (by simp) rfl
    (fun k hk => by have := drop_length (l.take k) name; rw [List.length_take] at this; omega) hlen (by simp)
    (fun k W W' hQ hb2 => (hb2.cell (p := ⟨w.heap.size, 0, none⟩) (by simp)).trans hQ) (drop_choice w _ l name w.heap.size hb (sizes_of (by omega))) (enters_of Tryz.func187 (by kernel_rfl) rfl))
  simp only [List.take_length] at HC
  clear h hb
  go_enter Tryz.func162, Tryz.ntmps162
  go_wp2_with fail
  refine HC.out.mono ?_
  rintro e w1 ⟨v', rfl, ho, hb1, _⟩
  have HO := Num.hide (Recs.own_mono ho (by simp : w.heap.size ≤ _))
  have HB := Num.hide hb1
  clear ho hb1
  go_wp2
  go_ret
  exact ⟨_, rfl, HO.out, HB.out⟩
end Flds
end Go.Proofs.YtkenmilglfnmbaaGreatDoor
namespace Go.Proofs.YtkenmilglfnmbaaGreatDoor
open Go.RowKit
set_option linter.unusedVariables false
namespace Flds

theorem take_succ_same {α : Type} (a b : List α) (k : Nat) (ha : k < a.length) (hb : k < b.length) : a.take (k + 1) = b.take (k + 1) ↔ a.take k = b.take k ∧ a[k] = b[k] := by
  rw [List.take_succ_eq_append_getElem ha, List.take_succ_eq_append_getElem hb]
  constructor
  · intro h
    have h1 := List.append_inj h (by rw [List.length_take, List.length_take]; omega)
    exact ⟨h1.1, by simpa using h1.2⟩
  · rintro ⟨h1, h2⟩; rw [h1, h2]
theorem guard_run (op : BinOp) (a b : Operand) (xs ys : Array Value) (W : World) : (eqGuard op 36 a b (.agg xs) (.agg ys)).run Tryz.prog W = .ok () W := run_eqGuard_agg W op 36 a b xs ys (by kernel_rfl)
theorem eq_run (x y x' y' : ByteArray) (W : World) : (Op.equalIn 10000 36 (.agg #[.string x, .string y]) (.agg #[.string x', .string y'])).run Tryz.prog W = .ok (x.toList == x'.toList && y.toList == y'.toList) W := by
  have u9 := Tryz.underlying9
  have a9 := Tryz.isAgg9
  have z9 := Tryz.sizeOf9
  rw [show (10000 : Nat) = 9999 + 1 from rfl, run_equalIn_agg W 9999 36 _ _ (by kernel_rfl) (by kernel_rfl)]
  simp only [Program.fieldsOf, Tryz.underlying36]
  go_simp
  by_cases h1 : x.toList = x'.toList <;> by_cases h2 : y.toList = y'.toList <;> simp [h1, h2]
theorem neq_run (x y x' y' : ByteArray) (W : World) : (binOp .neq 36 (.agg #[.string x, .string y]) (.agg #[.string x', .string y'])).run Tryz.prog W = .ok (.bool (!decide (((x, y) : Fld) = (x', y')))) W := by
  have e : (x.toList == x'.toList && y.toList == y'.toList) = decide (((x, y) : Fld) = (x', y')) := by
    rw [Bool.eq_iff_iff, Bool.and_eq_true, beq_iff_eq, beq_iff_eq, decide_eq_true_iff, ByteArray.toList_eq, ByteArray.toList_eq, ByteArray.toList_eq, ByteArray.toList_eq, Prod.mk.injEq]
    exact ⟨fun h => ⟨ByteArray.ext (Array.toList_inj.1 h.1), ByteArray.ext (Array.toList_inj.1 h.2)⟩, fun h => ⟨by rw [h.1], by rw [h.2]⟩⟩
  rw [run_neq_struct, eq_run, e]; rfl
end Flds
end Go.Proofs.YtkenmilglfnmbaaGreatDoor
namespace Go.Proofs.YtkenmilglfnmbaaGreatDoor
open Go.RowKit
set_option linter.unusedVariables false
namespace Flds

set_option maxRecDepth 100000 in
set_option maxHeartbeats 1000000 in
theorem equal_lib (va vb : Value) (la lb : List Fld) (w : World) (ha : Is w va la) (hb : Is w vb lb) (hla : la.length ≤ 1099511627776) : Calls Tryz.prog 179 #[va, vb] w fun e w' => e = .returned (.bool (decide (la = lb))) ∧ ∃ n, w' = w.drewN n := by
  obtain ⟨aa, ca, rfl, ha2⟩ := is_form ha
  obtain ⟨ab, cb, rfl, hb2⟩ := is_form hb
  have HA := Num.hide ha2
  have HB := Num.hide hb2
  clear ha hb ha2 hb2
  obtain ⟨r, hr⟩ : ∃ r, decide (la = lb) = r := ⟨_, rfl⟩
  rw [hr]
  have HR := Num.hide hr
  clear hr
  by_cases hl : la.length = lb.length
  · have hne : ((la.length : Int) != (lb.length : Int)) = false := by rw [hl]; simp
    have HL := Num.hide hl
    clear hl
    go_enter Tryz.func179, Tryz.ntmps179
    go_wp2
    clear hne
    go_loopw [13] (fun i wr => ∃ k n : Nat, k ≤ la.length ∧ i = .int .i64 (k : Int) ∧ Hid (wr = w.drewN n) ∧ Hid (la.take k = lb.take k)) (fun i _ => la.length - (intOf i).toNat)
    case atStart => exact ⟨0, 0, by omega, rfl, rfl, by simp [Hid]⟩
    case round =>
      obtain ⟨k, n, hk, rfl, HW, HT⟩ := hrel
      by_cases hlt : k < la.length
      · have hlt2 : k < lb.length := by have := HL.out; omega
        obtain ⟨ba, oa, rfl, hca, hma, hba, hcella⟩ := Num.unhide HA (by omega)
        obtain ⟨bb, ob, rfl, hcb, hmb, hbb, hcellb⟩ := Num.unhide HB (by omega)
        obtain ⟨ga1, ga2⟩ := hcella k hlt
        obtain ⟨gb1, gb2⟩ := hcellb k hlt2
        have c1 : wr.cell? ⟨ba, oa + k * 2, none⟩ = some (.string la[k].1) := by rw [HW.out]; exact ga1
        have c2 : wr.cell? ⟨ba, oa + k * 2 + 1, none⟩ = some (.string la[k].2) := by rw [HW.out]; exact ga2
        have c3 : wr.cell? ⟨bb, ob + k * 2, none⟩ = some (.string lb[k].1) := by rw [HW.out]; exact gb1
        have c4 : wr.cell? ⟨bb, ob + k * 2 + 1, none⟩ = some (.string lb[k].2) := by rw [HW.out]; exact gb2
        have HS := Num.hide (take_succ_same la lb k hlt hlt2)
        clear hcella hcellb ga1 ga2 gb1 gb2
        generalize la[k] = f at c1 c2 HS
        generalize lb[k] = g at c3 c4 HS
        obtain ⟨x, y⟩ := f
        obtain ⟨x', y'⟩ := g
        simp only at c1 c2 c3 c4
        have hg := fun op a b W => guard_run op a b #[.string x, .string y] #[.string x', .string y'] W
        have hq := fun W => neq_run x y x' y' W
        by_cases he : ((x, y) : Fld) = (x', y')
        · rw [decide_eq_true he] at hq
          have HT2 : Hid (la.take (k + 1) = lb.take (k + 1)) := HS.out.2 ⟨HT.out, he⟩
          clear he
          go_wp2
          go_quiet (fail)
          go_wp2
          go_roundw
          case rel => exact ⟨k + 1, n + nq, by omega, by go_num, by show _ = _; rw [HW.out, World.drewN_drewN], HT2⟩
          case measure => simp [intOf]; omega
        · rw [decide_eq_false he] at hq
          have hf : r = false := by
            rw [← HR.out]
            refine decide_eq_false (fun h => he ?_)
            exact (HS.out.1 (by rw [h])).2
          subst hf
          clear he
          go_wp2
          go_quiet (fail)
          go_wp2
          go_ret
          exact ⟨rfl, n + nq, by rw [HW.out, World.drewN_drewN]⟩
      · have ht : r = true := by
          rw [← HR.out]
          refine decide_eq_true ?_
          have h := HT.out
          rwa [List.take_of_length_le (by omega), List.take_of_length_le (by have := HL.out; omega)] at h
        subst ht
        go_wp2
        go_ret
        exact ⟨rfl, n, HW.out⟩
  · have hne : ((la.length : Int) != (lb.length : Int)) = true := by rw [bne_iff_ne]; omega
    have hf : r = false := by rw [← HR.out]; exact decide_eq_false (fun h => hl (by rw [h]))
    subst hf
    go_enter Tryz.func179, Tryz.ntmps179
    go_wp2
    go_ret
    exact ⟨rfl, 0, rfl⟩
set_option maxHeartbeats 1000000 in
theorem same_impl (va vb : Value) (la lb : List Fld) (w : World) (ha : Is w va la) (hb : Is w vb lb) (hla : la.length ≤ 1099511627776) : Calls Tryz.prog 151 #[va, vb] w fun e w' => e = .returned (.bool (decide (la = lb))) ∧ Below w.heap.size w w' := by
  have HL := Num.hide (fun W h1 h2 => equal_lib va vb la lb W h1 h2 hla)
  have HA := Num.hide ha
  have HB := Num.hide hb
  clear ha hb
  generalize decide (la = lb) = r at HL ⊢
  go_enter Tryz.func151, Tryz.ntmps151
  go_wp2_with fail
  refine (HL.out _ HA.out HB.out).mono ?_
  rintro e w1 ⟨rfl, n, rfl⟩
  go_wp2
  go_ret
  exact ⟨rfl, Recs.below_drewN (Below.refl _ _) n⟩
end Flds
end Go.Proofs.YtkenmilglfnmbaaGreatDoor
namespace Go.Proofs.YtkenmilglfnmbaaGreatDoor
open Go.RowKit
set_option linter.unusedVariables false
namespace Msg

set_option maxRecDepth 100000 in
set_option maxHeartbeats 2000000 in
theorem bare_impl (v : Value) (l : List Flds.Fld) (w : World) (h : Flds.Is w v l) (hl : Flds.bulk l ≤ 1048576) :
    Calls Tryz.prog 107 #[v] w fun e w' => ∃ v', e = .returned v' ∧ Flds.Own w.heap.size w' v' (bare l) ∧ Below w.heap.size w w' := by
  have HD1 := Num.hide (Flds.drop_impl v l Body.clName w h (by omega))
  have HD2 := Num.hide (fun v W h => Flds.drop_impl v (Flds.drop l Body.clName) Body.teName W h (by have := bulk_drop l Body.clName; omega))
  have HBt := Num.hide (bare_two l)
  rw [HBt.out] at HD2
  obtain ⟨a, c, rfl, _⟩ := Flds.is_form h
  clear h
  go_enter Tryz.func107, Tryz.ntmps107
  go_wp2_with fail
  refine HD1.out.mono ?_
  rintro e w1 ⟨v1, rfl, ho, hb⟩
  have HO1 := Num.hide ho
  have HB1 := Num.hide hb
  clear ho hb
  go_wp2_with fail
  refine (HD2.out _ _ (Recs.own_is Flds.cells_len HO1.out)).mono ?_
  rintro e w2 ⟨v2, rfl, ho2, hb2⟩
  have HO2 := Num.hide (Recs.own_mono ho2 HB1.out.size)
  have HB2 := Num.hide (HB1.out.trans (hb2.mono HB1.out.size))
  clear ho2 hb2
  go_wp2
  go_ret
  exact ⟨_, rfl, HO2.out, HB2.out⟩
set_option maxRecDepth 100000 in
set_option maxHeartbeats 2000000 in
theorem own_impl (v : Value) (l : List Flds.Fld) (w : World) (h : Flds.Is w v l) (hl : Flds.bulk l ≤ 1048576) (hS : Sign.Signs w) :
    Calls Tryz.prog 97 #[v] w fun e w' => e = .returned (.bool (plain l)) ∧ Below w.heap.size w w' := by
  have hlen : l.length ≤ 1048576 := by unfold Flds.bulk at hl; omega
  have HI := Num.hide h
  have HO := Num.hide (Flds.ok_impl v l w h (Flds.max_of hl) hS)
  have HBr := Num.hide (fun W h => bare_impl v l W h hl)
  have HSm := Num.hide (fun v2 W h1 h2 => Flds.same_impl v v2 l (bare l) W h1 h2 (by omega))
  obtain ⟨r, hr⟩ : ∃ r, plain l = r := ⟨_, rfl⟩
  rw [hr]
  rw [← own_plain] at hr
  obtain ⟨a, c, rfl, _⟩ := Flds.is_form h
  clear h hS
  generalize Flds.ok l = o at HO hr
  by_cases h12 : (l.length : Int) < 12
  · rw [decide_eq_true (by omega : l.length < 12), Bool.true_and] at hr
    cases o with
    | false =>
      obtain rfl : false = r := by rw [← hr]; rfl
      clear hr
      go_enter Tryz.func97, Tryz.ntmps97
      go_wp2_with fail
      refine HO.out.mono ?_
      rintro e w1 ⟨rfl, hb⟩
      have HB := Num.hide hb
      clear hb
      go_wp2
      go_ret
      exact ⟨rfl, HB.out⟩
    | true =>
      rw [Bool.true_and] at hr
      rw [hr] at HSm
      clear hr
      go_enter Tryz.func97, Tryz.ntmps97
      go_wp2_with fail
      refine HO.out.mono ?_
      rintro e w1 ⟨rfl, hb⟩
      have HB := Num.hide hb
      clear hb
      go_wp2_with fail
      refine (HBr.out _ (Recs.is_below HI.out HB.out)).mono ?_
      rintro e w2 ⟨v2, rfl, ho2, hb2⟩
      have HO2 := Num.hide ho2
      have HB2 := Num.hide (HB.out.trans (hb2.mono HB.out.size))
      clear ho2 hb2
      go_wp2_with fail
      refine (HSm.out _ _ (Recs.is_below HI.out HB2.out) (Recs.own_is Flds.cells_len HO2.out)).mono ?_
      rintro e w3 ⟨rfl, hb3⟩
      have HB3 := Num.hide (HB2.out.trans (hb3.mono HB2.out.size))
      clear hb3
      go_wp2
      go_ret
      exact ⟨rfl, HB3.out⟩
  · have d12 : decide ((l.length : Int) < 12) = false := decide_eq_false h12
    obtain rfl : false = r := by rw [← hr, decide_eq_false (by omega : ¬ l.length < 12)]; rfl
    clear hr HO
    go_enter Tryz.func97, Tryz.ntmps97
    go_wp2
    go_ret
    exact ⟨rfl, Below.refl _ _⟩
end Msg
end Go.Proofs.YtkenmilglfnmbaaGreatDoor
namespace Go.Proofs.YtkenmilglfnmbaaGreatDoor
open Go.RowKit
set_option linter.unusedVariables false
namespace Msg

set_option maxRecDepth 100000 in
set_option maxHeartbeats 2000000 in
theorem method_impl (m : ByteArray) (w : World) (hm : m.size ≤ maxLen) (hS : Sign.Signs w) :
    Calls Tryz.prog 95 #[.string m] w fun e w' => e = .returned (.bool (Sign.isTok m && decide (m.size ≤ 10))) ∧ w = w' := by
  have HT := Num.hide (Sign.isTok_impl m w hm hS)
  obtain ⟨r, hr⟩ : ∃ r, (Sign.isTok m && decide (m.size ≤ 10)) = r := ⟨_, rfl⟩
  rw [hr]
  generalize Sign.isTok m = t at HT hr
  clear hS
  unfold maxLen at hm
  by_cases h10 : (m.size : Int) ≤ 10
  · obtain rfl : t = r := by rw [← hr, decide_eq_true (by omega), Bool.and_true]
    clear hr
    go_enter Tryz.func95, Tryz.ntmps95
    go_wp2_with fail
    refine HT.out.mono ?_
    rintro e w1 ⟨rfl, rfl⟩
    go_wp2
    go_ret
    exact ⟨rfl, rfl⟩
  · obtain rfl : false = r := by rw [← hr, decide_eq_false (by omega), Bool.and_false]
    have d10 : decide ((m.size : Int) ≤ 10) = false := decide_eq_false h10
    clear hr
    go_enter Tryz.func95, Tryz.ntmps95
    go_wp2
    go_ret
    exact ⟨rfl, rfl⟩
theorem signs_alloc {w : World} (h : Sign.Signs w) (o : Obj) : Sign.Signs (w.alloc o) := Flds.signs_below h ((Below.refl w.heap.size w).alloc (Nat.le_refl _) o) (Flds.signs_lt h)
set_option maxRecDepth 100000 in
set_option maxHeartbeats 2000000 in
theorem reqOk_impl (m u : ByteArray) (v : Value) (l : List Flds.Fld) (b : ByteArray) (w : World) (h : Flds.Is w v l) (hl : Flds.bulk l ≤ 1048576) (hm : m.size ≤ 1048576) (hu : u.size ≤ 1048576) (hb : b.size ≤ 1048576) (hS : Sign.Signs w) :
    Calls Tryz.prog 50 #[Req.val m u v b] w fun e w' => e = .returned (.bool (reqOk m u l b)) ∧ Below w.heap.size w w' := by
  unfold Req.val
  obtain ⟨a, c, rfl, _⟩ := Flds.is_form h
  have hb0 := (Below.refl w.heap.size w).alloc (Nat.le_refl _) (.cells #[.string m, .string u, .slice a l.length c, .string b] 39)
  have HB0 := Num.hide hb0
  have HT := Num.hide (method_impl m _ (by unfold maxLen; omega) (signs_alloc hS (.cells #[.string m, .string u, .slice a l.length c, .string b] 39)))
  have HU := Num.hide (fun W => uri_impl u W (by unfold maxLen; omega))
  have HP := Num.hide (own_impl (.slice a l.length c) l _ (Recs.is_stay h (Nat.le_refl _) hb0) hl (signs_alloc hS _))
  clear h hb0 hl hS
  obtain ⟨r, hr⟩ : ∃ r, reqOk m u l b = r := ⟨_, rfl⟩
  rw [hr]
  unfold reqOk at hr
  generalize (Sign.isTok m && decide (m.size ≤ 10)) = t1 at HT hr
  generalize uriOk u = t2 at HU hr
  generalize plain l = t3 at HP hr
  cases t1 with
  | false =>
    obtain rfl : false = r := by rw [← hr]; rfl
    clear hr HU HP
    go_enter Tryz.func50, Tryz.ntmps50
    go_wp2_with fail
    refine HT.out.mono ?_
    rintro e w1 ⟨rfl, rfl⟩
    go_wp2
    go_ret
    exact ⟨rfl, HB0.out⟩
  | true =>
    cases t2 with
    | false =>
      obtain rfl : false = r := by rw [← hr]; rfl
      clear hr HP
      go_enter Tryz.func50, Tryz.ntmps50
      go_wp2_with fail
      refine HT.out.mono ?_
      rintro e w1 ⟨rfl, rfl⟩
      go_wp2_with fail
      refine (HU.out _).mono ?_
      rintro e w1 ⟨rfl, rfl⟩
      go_wp2
      go_ret
      exact ⟨rfl, HB0.out⟩
    | true =>
      have fin : ∀ W, Below (w.alloc (.cells #[.string m, .string u, .slice a l.length c, .string b] 39)).heap.size (w.alloc (.cells #[.string m, .string u, .slice a l.length c, .string b] 39)) W → W.cell? ⟨w.heap.size, 3, none⟩ = some (.string b) := fun W hb2 => by
        have k3 := (hb2.cell (p := ⟨w.heap.size, 3, none⟩) (by show w.heap.size < _; rw [World.size_alloc]; omega)).trans (cell_of_row _ _ _ _ _ _ (heap_alloc_new w _))
        simp only [List.getElem?_toArray, List.getElem?_cons_succ, List.getElem?_cons_zero] at k3
        exact k3
      have FIN := Num.hide fin
      clear fin
      cases t3 with
      | false =>
        obtain rfl : false = r := by rw [← hr]; rfl
        clear hr
        go_enter Tryz.func50, Tryz.ntmps50
        go_wp2_with fail
        refine HT.out.mono ?_
        rintro e w1 ⟨rfl, rfl⟩
        go_wp2_with fail
        refine (HU.out _).mono ?_
        rintro e w1 ⟨rfl, rfl⟩
        go_wp2_with fail
        refine HP.out.mono ?_
        rintro e w2 ⟨rfl, hb2⟩
        have HB2 := Num.hide (HB0.out.trans (hb2.mono HB0.out.size))
        clear hb2 HP
        go_wp2
        go_ret
        exact ⟨rfl, HB2.out⟩
      | true =>
        by_cases h60 : (b.size : Int) ≤ 60
        · obtain rfl : true = r := by rw [← hr, decide_eq_true (by omega : b.size ≤ 60)]; rfl
          clear hr
          go_enter Tryz.func50, Tryz.ntmps50
          go_wp2_with fail
          refine HT.out.mono ?_
          rintro e w1 ⟨rfl, rfl⟩
          go_wp2_with fail
          refine (HU.out _).mono ?_
          rintro e w1 ⟨rfl, rfl⟩
          go_wp2_with fail
          refine HP.out.mono ?_
          rintro e w2 ⟨rfl, hb2⟩
          have HB2 := Num.hide (HB0.out.trans (hb2.mono HB0.out.size))
          have k3 := FIN.out _ hb2
          clear hb2 HP
          go_wp2
          go_ret
          exact ⟨rfl, HB2.out⟩
        · obtain rfl : false = r := by rw [← hr, decide_eq_false (by omega : ¬ b.size ≤ 60)]; rfl
          have d60 : decide ((b.size : Int) ≤ 60) = false := decide_eq_false h60
          clear hr
          go_enter Tryz.func50, Tryz.ntmps50
          go_wp2_with fail
          refine HT.out.mono ?_
          rintro e w1 ⟨rfl, rfl⟩
          go_wp2_with fail
          refine (HU.out _).mono ?_
          rintro e w1 ⟨rfl, rfl⟩
          go_wp2_with fail
          refine HP.out.mono ?_
          rintro e w2 ⟨rfl, hb2⟩
          have HB2 := Num.hide (HB0.out.trans (hb2.mono HB0.out.size))
          have k3 := FIN.out _ hb2
          clear hb2 HP
          go_wp2
          go_ret
          exact ⟨rfl, HB2.out⟩
end Msg
end Go.Proofs.YtkenmilglfnmbaaGreatDoor
