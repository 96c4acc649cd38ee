/-
  OnlyLaw: FnExactOnlyStored, whatever the program's OnlyStored keeps to: it answers as the specification's and leaves its argument as it was.
-/
import Derived.Test.YtjeokackmkfooaaDoorQao
import Derived.Test.YtjeokackmkfooaaDoorQas
import Derived.Test.YtjeokackmkfooaaDoorQat
import Derived.Test.YtjeokackmkfooaaDoorQap
import Derived.Deep.Cut
namespace Go.Proofs.YtjeokackmkfooaaDoor
open Go.RowKit
set_option linter.unusedVariables false
set_option linter.unusedSimpArgs false
namespace Pol

/-- the two boxes that the law loads, and what they lead to -/
abbrev SonlyStored (w : World) (g0 g1 : Nat) (m u : ByteArray) (a vx : Value) (l : List Flds.Fld) (b : ByteArray) (W : World) : Prop :=
  W.cell? ⟨g0, 0, none⟩ = some (.string m) ∧ W.cell? ⟨g0, 1, none⟩ = some (.string u) ∧ W.cell? ⟨g0, 2, none⟩ = some a ∧ W.cell? ⟨g0, 3, none⟩ = some (.string b) ∧ W.cell? ⟨g1, 0, none⟩ = some (.string m) ∧ W.cell? ⟨g1, 1, none⟩ = some (.string u) ∧ W.cell? ⟨g1, 2, none⟩ = some vx ∧ W.cell? ⟨g1, 3, none⟩ = some (.string b) ∧ Flds.Arg W a l ∧ Flds.Is W vx l ∧ Below w.heap.size w W
theorem SonlyStored.step {w : World} {g0 g1 : Nat} {m u : ByteArray} {a vx : Value} {l : List Flds.Fld} {b : ByteArray} {W W' : World} (h : SonlyStored w g0 g1 m u a vx l b W) (hb : Below W.heap.size W W') : SonlyStored w g0 g1 m u a vx l b W' := by
  obtain ⟨h0, h1, h2, h3, h4, h5, h6, h7, h8, h9, h10⟩ := h
  have l0 : g0 < W.heap.size := Recs.lt_of_cell h0
  have l1 : g1 < W.heap.size := Recs.lt_of_cell h4
  exact ⟨(hb.cell (p := ⟨g0, 0, none⟩) l0).trans h0, (hb.cell (p := ⟨g0, 1, none⟩) l0).trans h1, (hb.cell (p := ⟨g0, 2, none⟩) l0).trans h2, (hb.cell (p := ⟨g0, 3, none⟩) l0).trans h3, (hb.cell (p := ⟨g1, 0, none⟩) l1).trans h4, (hb.cell (p := ⟨g1, 1, none⟩) l1).trans h5, (hb.cell (p := ⟨g1, 2, none⟩) l1).trans h6, (hb.cell (p := ⟨g1, 3, none⟩) l1).trans h7, Flds.arg_stay h8 (Nat.le_refl _) hb, Recs.is_below h9 hb, h10.trans (hb.mono h10.size)⟩
set_option maxRecDepth 100000 in
set_option maxHeartbeats 8000000 in
theorem onlyStored_law (G : World → Prop) (hG : ∀ W W', G W → Below W.heap.size W W' → G W')
    (hi : ∀ (m u : ByteArray) (v : Value) (l : List Flds.Fld) (b : ByteArray) W, Flds.Is W v l → Flds.bulk l ≤ 1048576 → m.size ≤ 1048576 → u.size ≤ 1048576 → b.size ≤ 1048576 → G W → Calls Tryd.prog 7 #[Req.val m u v b] W fun e w' => e = .returned (.bool (onlyStored l)) ∧ Below W.heap.size W w')
    (m u : ByteArray) (a : Value) (l : List Flds.Fld) (b : ByteArray) (w : World) (ha : Flds.Arg w a l) (hm : m.size ≤ maxLen) (hu : u.size ≤ maxLen) (hb : b.size ≤ maxLen) (hg : G w) :
    Calls Tryd.prog 3 #[Req.val m u a b] w fun e w' => e = .returned (.bool true) ∧ Below w.heap.size w w' := by
  have HZ := Num.hide (fun W h => Req.sz_any m u a l b 1048576 W h hm hu hb (by omega) (by omega))
  have HA := Num.hide ha
  obtain ⟨aa, ca, rfl, _⟩ := Flds.is_form ha.1
  have hb0 : Below w.heap.size w (w.alloc (.cells #[.string m, .string u, (.slice aa l.length ca), .string b] 24)) := (Below.refl _ w).alloc (Nat.le_refl _) _
  have B0 := Num.hide hb0
  have A0 := Num.hide (Flds.arg_stay HA.out (Nat.le_refl _) hb0)
  have X0 := Num.hide (heap_alloc_new w (.cells #[.string m, .string u, (.slice aa l.length ca), .string b] 24))
  have hz0 : w.heap.size < (w.alloc (.cells #[.string m, .string u, (.slice aa l.length ca), .string b] 24)).heap.size := by simp
  clear ha hb0
  unfold Req.val at HZ ⊢
  by_cases hbk : ¬ (Req.bulk m u l b : Int) ≤ 1048576
  · rw [Flds.left_no hbk] at HZ
    clear hi hG hg
    go_enter Tryd.func3, Tryd.ntmps3
    go_wp2_with fail
    refine (HZ.out _ A0.out).mono ?_
    rintro e W1 ⟨rfl, hb1⟩
    have B1 := Num.hide (B0.out.trans (hb1.mono B0.out.size))
    clear hb1
    go_wp2
    go_ret
    exact ⟨rfl, B1.out⟩
  · have hbb := Decidable.not_not.1 hbk
    rw [Flds.left_yes hbb] at HZ
    unfold Req.bulk at hbb HZ
    have hlen : l.length ≤ 1048576 := by have := Flds.len_le l; omega
    have HTo := Num.hide (fun W h => Req.to_any m u (.slice aa l.length ca) l b W h hlen)
    have HS := Num.hide (fun v W h => onlyStored_spec m u v l b W h (by omega))
    have HI := Num.hide (fun v W h (hb : Below w.heap.size w W) => hi m u v l b W h (by omega) (by omega) (by omega) (by omega) (hG w W hg hb))
    have HEq := Num.hide (fun v1 v2 W h1 h2 => Req.eq_any m m u u v1 v2 l l b b W h1 h2 (by omega))
    rw [decide_eq_true ⟨rfl, rfl, rfl, rfl⟩] at HEq
    unfold Req.val at HTo HS HI HEq
    generalize onlyStored l = r at HS HI
    have dz : decide ((1048576 : Int) - ((m.size + u.size + Flds.bulk l + b.size : Nat) : Int) < 0) = false := by simp; omega
    clear hi hG hg hbk
    go_enter Tryd.func3, Tryd.ntmps3
    go_wp2_with fail
    refine (HZ.out _ A0.out).mono ?_
    rintro e W1 ⟨rfl, hb1⟩
    have A1 := Num.hide (Flds.arg_stay A0.out (Nat.le_refl _) hb1)
    have B1 := Num.hide (B0.out.trans (hb1.mono B0.out.size))
    have X1 := Num.hide ((hb1.block w.heap.size hz0).trans X0.out)
    have z1 := hb1.size
    clear hb1 HZ A0 B0 X0
    obtain ⟨p0, p1, p2, p3⟩ := (⟨Recs.box_cell X1.out 0, Recs.box_cell X1.out 1, Recs.box_cell X1.out 2, Recs.box_cell X1.out 3⟩ : W1.cell? ⟨w.heap.size, 0, none⟩ = some (.string m) ∧ W1.cell? ⟨w.heap.size, 1, none⟩ = some (.string u) ∧ W1.cell? ⟨w.heap.size, 2, none⟩ = some (.slice aa l.length ca) ∧ W1.cell? ⟨w.heap.size, 3, none⟩ = some (.string b))
    go_wp2_with fail
    refine (HTo.out _ A1.out.1).mono ?_
    rintro e W2 ⟨v2, rfl, ho2, hb2⟩
    obtain ⟨a2, c2, hv2⟩ := Recs.own_len ho2
    subst hv2
    have I2 := Num.hide (Recs.own_is Flds.cells_len ho2)
    have A2 := Num.hide (Flds.arg_stay A1.out (Nat.le_refl _) hb2)
    have B2 := Num.hide (B1.out.trans (hb2.mono B1.out.size))
    have X2 := Num.hide ((hb2.block w.heap.size (by omega)).trans X1.out)
    have z2 := hb2.size
    clear ho2 hb2 A1 B1 X1 p0 p1 p2 p3
    go_wp2_with fail
    refine (HS.out _ _ I2.out).mono ?_
    rintro e W3 ⟨rfl, hb3⟩
    have A3 := Num.hide (Flds.arg_stay A2.out (Nat.le_refl _) hb3)
    have B3 := Num.hide (B2.out.trans (hb3.mono B2.out.size))
    have X3 := Num.hide ((hb3.block w.heap.size (by omega)).trans X2.out)
    have z3 := hb3.size
    clear hb3 A2 B2 X2 I2 HS
    obtain ⟨p0, p1, p2, p3⟩ := (⟨Recs.box_cell X3.out 0, Recs.box_cell X3.out 1, Recs.box_cell X3.out 2, Recs.box_cell X3.out 3⟩ : W3.cell? ⟨w.heap.size, 0, none⟩ = some (.string m) ∧ W3.cell? ⟨w.heap.size, 1, none⟩ = some (.string u) ∧ W3.cell? ⟨w.heap.size, 2, none⟩ = some (.slice aa l.length ca) ∧ W3.cell? ⟨w.heap.size, 3, none⟩ = some (.string b))
    go_wp2_with fail
    refine (HTo.out _ A3.out.1).mono ?_
    rintro e W4 ⟨v4, rfl, ho4, hb4⟩
    obtain ⟨ax, cx, hv4⟩ := Recs.own_len ho4
    subst hv4
    have I4 := Num.hide (Recs.is_below (Recs.own_is Flds.cells_len ho4) ((Below.refl W4.heap.size W4).alloc (Nat.le_refl _) (.cells #[.string m, .string u, (.slice ax l.length cx), .string b] 29)))
    have A4 := Num.hide (Flds.arg_stay (Flds.arg_stay A3.out (Nat.le_refl _) hb4) (Nat.le_refl _) ((Below.refl W4.heap.size W4).alloc (Nat.le_refl _) (.cells #[.string m, .string u, (.slice ax l.length cx), .string b] 29)))
    have B4 := Num.hide ((B3.out.trans (hb4.mono B3.out.size)).alloc (Nat.le_trans B3.out.size hb4.size) (.cells #[.string m, .string u, (.slice ax l.length cx), .string b] 29))
    have X4 := Num.hide ((((Below.refl W4.heap.size W4).alloc (Nat.le_refl _) (.cells #[.string m, .string u, (.slice ax l.length cx), .string b] 29)).block w.heap.size (by have := hb4.size; omega)).trans ((hb4.block w.heap.size (by omega)).trans X3.out))
    have Y4 := Num.hide (heap_alloc_new W4 (.cells #[.string m, .string u, (.slice ax l.length cx), .string b] 29))
    clear ho4 hb4 A3 B3 X3 p0 p1 p2 p3
    go_upto_region 7 with fail
    generalize W4.alloc (.cells #[.string m, .string u, (.slice ax l.length cx), .string b] 29) = V4 at I4 A4 B4 X4 Y4 ⊢
    generalize W4.heap.size = g1 at Y4 ⊢
    obtain ⟨q0, q1, q2, q3⟩ := (⟨Recs.box_cell Y4.out 0, Recs.box_cell Y4.out 1, Recs.box_cell Y4.out 2, Recs.box_cell Y4.out 3⟩ : V4.cell? ⟨g1, 0, none⟩ = some (.string m) ∧ V4.cell? ⟨g1, 1, none⟩ = some (.string u) ∧ V4.cell? ⟨g1, 2, none⟩ = some (.slice ax l.length cx) ∧ V4.cell? ⟨g1, 3, none⟩ = some (.string b))
    go_wp2_with fail
    refine (HI.out _ _ I4.out B4.out).mono ?_
    rintro e W5 ⟨rfl, hb5⟩
    have HK : Hid (SonlyStored w w.heap.size g1 m u (.slice aa l.length ca) (.slice ax l.length cx) l b V4) := ⟨Recs.box_cell X4.out 0, Recs.box_cell X4.out 1, Recs.box_cell X4.out 2, Recs.box_cell X4.out 3, Recs.box_cell Y4.out 0, Recs.box_cell Y4.out 1, Recs.box_cell Y4.out 2, Recs.box_cell Y4.out 3, A4.out, I4.out, B4.out⟩
    have HK5 := Num.hide (SonlyStored.step HK.out hb5)
    clear hb5 A4 B4 X4 Y4 I4 HK HI q0 q1 q2 q3
    go_wp2_with fail
    refine wp_region_held_drew (S := SonlyStored w w.heap.size g1 m u (.slice aa l.length ca) (.slice ax l.length cx) l b) (by kernel_rfl) (SonlyStored.step HK5.out (Below.refl _ _).drew) (fun hHeld => ?_)
    refine Reg.take (i := 0) (d := 22) (v := ?_) rfl rfl (by kernel_rfl) (by kernel_rfl) (by kernel_rfl) (fun _ _ _ h => h) (by rfl) ?_ hHeld ?_
    rotate_left
    · rintro W ⟨k0, k1, k2, k3, k4, k5, k6, k7, k8, k9, k10⟩
      first | (go_simp; done) | (go_simp; with_reducible rfl)
    simp only [Act.put, List.setIfInBounds_toArray, List.set_cons_zero, List.set_cons_succ]
    refine Reg.take (i := 1) (d := 23) (v := ?_) rfl rfl (by kernel_rfl) (by kernel_rfl) (by kernel_rfl) (fun _ _ _ h => h) (by rfl) ?_ hHeld ?_
    rotate_left
    · rintro W ⟨k0, k1, k2, k3, k4, k5, k6, k7, k8, k9, k10⟩
      first | (go_simp; done) | (go_simp; with_reducible rfl)
    simp only [Act.put, List.setIfInBounds_toArray, List.set_cons_zero, List.set_cons_succ]
    refine Reg.call (i := 2) rfl (by kernel_rfl) (by rfl) (fun K hK => ?_)
    go_wp2_with (first | (go_at_call 6; refine (HTo.out _ hHeld.2.2.2.2.2.2.2.2.1.1).mono ?_; rintro e W9 ⟨vy, rfl, ho9, hb9⟩))
    obtain ⟨ay, cy, hvy⟩ := Recs.own_len ho9
    subst hvy
    have HO9 := Num.hide ho9
    have HB9 := Num.hide hb9
    clear ho9 hb9
    refine hK.out _ _ ?_ (fun hHeld2 => ?_)
    · exact SonlyStored.step hHeld HB9.out
    clear hK K
    replace hHeld := hHeld2
    clear hHeld2
    refine Reg.call (i := 3) rfl (by kernel_rfl) (by rfl) (fun K hK => ?_)
    go_wp2_with (first | (go_at_call 8; refine (HEq.out _ _ _ hHeld.2.2.2.2.2.2.2.2.2.1 (Recs.own_is Flds.cells_len HO9.out)).mono ?_; rintro e W10 ⟨rfl, hb10⟩))
    have HB10 := Num.hide hb10
    clear hb10
    refine hK.out _ _ ?_ (fun hHeld2 => ?_)
    · exact SonlyStored.step hHeld HB10.out
    clear hK K
    replace hHeld := hHeld2
    clear hHeld2
    refine Reg.take (i := 4) (d := 26) (v := ?_) rfl rfl (by kernel_rfl) (by kernel_rfl) (by kernel_rfl) (fun _ _ _ h => h) (by rfl) ?_ hHeld ?_
    rotate_left
    · rintro W ⟨k0, k1, k2, k3, k4, k5, k6, k7, k8, k9, k10⟩
      first | (go_simp; done) | (go_simp; with_reducible rfl)
    simp only [Act.put, List.setIfInBounds_toArray, List.set_cons_zero, List.set_cons_succ]
    refine wpAnyH_done (by kernel_rfl) ?_ _
    have HH := Num.hide hHeld.2.2.2.2.2.2.2.2.2.2
    go_wp2
    go_ret
    exact ⟨rfl, HH.out⟩
end Pol
end Go.Proofs.YtjeokackmkfooaaDoor
