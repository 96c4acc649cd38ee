/-
  MustCls: What forbids that what is stored is told: the closures of the program.
  AgeAtImpl: FirstAge and AgeAt of the program.
  MustRun: MustCheck of the program: the list of what forbids that it is told is gone through.
  FreshImpl: IsFresh of the program.
-/
import Derived.Test.YtbcjpjhpobmpbaaGreatDoorPbe
import Derived.Test.YtbcjpjhpobmpbaaGreatDoorPad
import Derived.Test.YtbcjpjhpobmpbaaGreatDoorPah
import Derived.Test.YtbcjpjhpobmpbaaGreatDoorPap
import Derived.Test.YtbcjpjhpobmpbaaGreatDoorPbb
import Derived.Deep.Cut
import Derived.Test.YtbcjpjhpobmpbaaGreatDoorRegLaw
import Derived.LoopN
import Derived.FnLit
namespace Go.Proofs.YtbcjpjhpobmpbaaGreatDoor
open Go.RowKit
set_option linter.unusedVariables false
set_option linter.unusedSimpArgs false
namespace Pol
open Flds (Fld)
open Age (EnvS sMaxAge maxAge expiresName ageAt lifetime satAdd)

/-- the boxes of the request, the answer, its age and its lifetime, and what the program's tables hold -/
abbrev MAt (w : World) (g h : Nat) (m u : ByteArray) (v1 : Value) (l1 : List Fld) (b1 : ByteArray) (st : Int) (v2 : Value) (l2 : List Fld) (b2 : ByteArray) (age lives : Int) (W : World) : Prop := (PAt w g m u v1 l1 b1 st v2 l2 b2 W ∧ EnvS W) ∧ W.cell? ⟨g + 2, 0, none⟩ = some (.int .i64 age) ∧ W.cell? ⟨h, 0, none⟩ = some (.int .i64 lives)
theorem MAt.step {w : World} {g h : Nat} {m u : ByteArray} {v1 : Value} {l1 : List Fld} {b1 : ByteArray} {st : Int} {v2 : Value} {l2 : List Fld} {b2 : ByteArray} {age lives : Int} {W W' : World} (h0 : MAt w g h m u v1 l1 b1 st v2 l2 b2 age lives W) (hb : Below W.heap.size W W') : MAt w g h m u v1 l1 b1 st v2 l2 b2 age lives W' :=
  ⟨⟨PAt.step h0.1.1 hb, h0.1.2.below hb⟩, (hb.cell (p := ⟨g + 2, 0, none⟩) (Recs.lt_of_cell h0.2.1)).trans h0.2.1, (hb.cell (p := ⟨h, 0, none⟩) (Recs.lt_of_cell h0.2.2)).trans h0.2.2⟩
theorem MAt.q {w : World} {g h : Nat} {m u : ByteArray} {v1 : Value} {l1 : List Fld} {b1 : ByteArray} {st : Int} {v2 : Value} {l2 : List Fld} {b2 : ByteArray} {age lives : Int} {W : World} (h0 : MAt w g h m u v1 l1 b1 st v2 l2 b2 age lives W) : Flds.Is W v1 l1 := h0.1.1.2.2.2.2.2.2.2.1
theorem MAt.r {w : World} {g h : Nat} {m u : ByteArray} {v1 : Value} {l1 : List Fld} {b1 : ByteArray} {st : Int} {v2 : Value} {l2 : List Fld} {b2 : ByteArray} {age lives : Int} {W : World} (h0 : MAt w g h m u v1 l1 b1 st v2 l2 b2 age lives W) : Flds.Is W v2 l2 := h0.1.1.2.2.2.2.2.2.2.2.1
set_option maxRecDepth 100000 in
set_option maxHeartbeats 1000000 in
theorem tooOld_impl (v : Value) (l : List Fld) (age : Int) (w : World) (h : Flds.Is w v l) (hl : Flds.bulk l ≤ 1048576) (hE : EnvS w) :
    Calls Tryz.prog 68 #[v, .int .i64 age] w fun e w' => e = .returned (.bool ((Cc.sec (Cc.dirs l) maxAge).2 && decide ((Cc.sec (Cc.dirs l) maxAge).1 < age))) ∧ Below w.heap.size w w' := by
  have HS := Num.hide (Cc.sec_impl v l maxAge w h hl (by decide) hE.1.2 hE.2)
  generalize Cc.sec (Cc.dirs l) maxAge = S at HS ⊢
  obtain ⟨S1, S2⟩ := S
  simp only at HS ⊢
  clear h hE
  go_enter Tryz.func68, Tryz.ntmps68
  go_wp2_with fail
  refine HS.out.mono ?_
  rintro e w1 ⟨rfl, hb⟩
  have HB := Num.hide hb
  clear hb
  cases S2 with
  | false =>
    go_wp2
    go_ret
    exact ⟨rfl, HB.out⟩
  | true =>
    go_wp2
    go_ret
    exact ⟨by simp, HB.out⟩
set_option maxRecDepth 100000 in
set_option maxHeartbeats 1000000 in
theorem tooSoon_impl (v : Value) (l : List Fld) (age lives : Int) (w : World) (h : Flds.Is w v l) (hl : Flds.bulk l ≤ 1048576) (hE : EnvS w) :
    Calls Tryz.prog 70 #[v, .int .i64 age, .int .i64 lives] w fun e w' => e = .returned (.bool ((Cc.sec (Cc.dirs l) minFresh).2 && decide (lives < satAdd age (Cc.sec (Cc.dirs l) minFresh).1))) ∧ Below w.heap.size w w' := by
  have HS := Num.hide (Cc.sec_impl v l minFresh w h hl (by decide) hE.1.2 hE.2)
  generalize Cc.sec (Cc.dirs l) minFresh = S at HS ⊢
  obtain ⟨S1, S2⟩ := S
  simp only at HS ⊢
  have HT := Num.hide (fun W => Age.satAdd_impl age S1 W)
  generalize satAdd age S1 = Z at HT ⊢
  clear h hE
  go_enter Tryz.func70, Tryz.ntmps70
  go_wp2_with fail
  refine HS.out.mono ?_
  rintro e w1 ⟨rfl, hb⟩
  have HB := Num.hide hb
  clear hb
  cases S2 with
  | false =>
    go_wp2
    go_ret
    exact ⟨rfl, HB.out⟩
  | true =>
    go_wp2_with fail
    refine (HT.out _).mono ?_
    rintro e w2 ⟨rfl, rfl⟩
    go_wp2
    go_ret
    exact ⟨by simp, HB.out⟩
set_option maxRecDepth 100000 in
set_option maxHeartbeats 1000000 in
theorem must1_impl (w : World) (g h : Nat) (m u : ByteArray) (v1 : Value) (l1 : List Fld) (b1 : ByteArray) (st : Int) (v2 : Value) (l2 : List Fld) (b2 : ByteArray) (age lives : Int) (W : World) (h0 : MAt w g h m u v1 l1 b1 st v2 l2 b2 age lives W) (hl1 : Flds.bulk l1 ≤ 1048576) (hl2 : Flds.bulk l2 ≤ 1048576) :
    Calls Tryz.prog 66 #[.pointer (some ⟨g, 0, none⟩), .pointer (some ⟨g + 1, 0, none⟩)] W fun e w' => e = .returned (.bool (said l1 noCache || said l2 noCache)) ∧ Below W.heap.size W w' := by
  have K := Num.hide h0
  have HA := Num.hide (Cc.has_impl v1 l1 noCache W h0.q hl1 (by decide) h0.1.2.1.2 h0.1.2.2)
  have HC := Num.hide (fun W (h0 : MAt w g h m u v1 l1 b1 st v2 l2 b2 age lives W) => Cc.has_impl v2 l2 noCache W h0.r (by omega) (by decide) h0.1.2.1.2 h0.1.2.2)
  unfold said
  generalize Cc.has (Cc.dirs l1) noCache = R1 at HA ⊢
  generalize Cc.has (Cc.dirs l2) noCache = R2 at HC ⊢
  obtain ⟨c0, c1, c2, c3, c4, c5, c6, -, -, -⟩ := K.out.1.1
  clear h0
  go_enter Tryz.func66, Tryz.ntmps66
  go_wp2_with fail
  refine HA.out.mono ?_
  rintro e w1 ⟨rfl, hb⟩
  have HB := Num.hide hb
  have K2 := Num.hide (MAt.step K.out hb)
  clear hb c0 c1 c2 c3 c4 c5 c6 K HA
  obtain ⟨c0, c1, c2, c3, c4, c5, c6, -, -, -⟩ := K2.out.1.1
  cases R1 with
  | true =>
    go_wp2
    go_ret
    exact ⟨rfl, HB.out⟩
  | false =>
    go_wp2_with fail
    refine (HC.out _ K2.out).mono ?_
    rintro e w2 ⟨rfl, hb⟩
    have HB2 := Num.hide (HB.out.trans (hb.mono HB.out.size))
    clear hb HB
    go_wp2
    go_ret
    exact ⟨rfl, HB2.out⟩
set_option maxRecDepth 100000 in
set_option maxHeartbeats 1000000 in
theorem must2_impl (w : World) (g h : Nat) (m u : ByteArray) (v1 : Value) (l1 : List Fld) (b1 : ByteArray) (st : Int) (v2 : Value) (l2 : List Fld) (b2 : ByteArray) (age lives : Int) (W : World) (h0 : MAt w g h m u v1 l1 b1 st v2 l2 b2 age lives W) (hl1 : Flds.bulk l1 ≤ 1048576) (hl2 : Flds.bulk l2 ≤ 1048576) :
    Calls Tryz.prog 67 #[.pointer (some ⟨g, 0, none⟩), .pointer (some ⟨g + 2, 0, none⟩)] W fun e w' => e = .returned (.bool ((Cc.sec (Cc.dirs l1) maxAge).2 && decide ((Cc.sec (Cc.dirs l1) maxAge).1 < age))) ∧ Below W.heap.size W w' := by
  have K := Num.hide h0
  have HA := Num.hide (tooOld_impl v1 l1 age W h0.q hl1 h0.1.2)
  obtain ⟨R1, hR1⟩ : ∃ R1, ((Cc.sec (Cc.dirs l1) maxAge).2 && decide ((Cc.sec (Cc.dirs l1) maxAge).1 < age)) = R1 := ⟨_, rfl⟩
  rw [hR1] at HA ⊢
  clear hR1
  obtain ⟨c0, c1, c2, c3, c4, c5, c6, -, -, -⟩ := K.out.1.1
  obtain ⟨-, k1, k2⟩ := K.out
  clear h0
  go_enter Tryz.func67, Tryz.ntmps67
  go_wp2_with fail
  refine HA.out.mono ?_
  rintro e w1 ⟨rfl, hb⟩
  have HB := Num.hide hb
  clear hb
  go_wp2
  go_ret
  exact ⟨rfl, HB.out⟩
set_option maxRecDepth 100000 in
set_option maxHeartbeats 1000000 in
theorem must3_impl (w : World) (g h : Nat) (m u : ByteArray) (v1 : Value) (l1 : List Fld) (b1 : ByteArray) (st : Int) (v2 : Value) (l2 : List Fld) (b2 : ByteArray) (age lives : Int) (W : World) (h0 : MAt w g h m u v1 l1 b1 st v2 l2 b2 age lives W) (hl1 : Flds.bulk l1 ≤ 1048576) (hl2 : Flds.bulk l2 ≤ 1048576) :
    Calls Tryz.prog 69 #[.pointer (some ⟨g, 0, none⟩), .pointer (some ⟨g + 2, 0, none⟩), .pointer (some ⟨h, 0, none⟩)] W fun e w' => e = .returned (.bool ((Cc.sec (Cc.dirs l1) minFresh).2 && decide (lives < satAdd age (Cc.sec (Cc.dirs l1) minFresh).1))) ∧ Below W.heap.size W w' := by
  have K := Num.hide h0
  have HA := Num.hide (tooSoon_impl v1 l1 age lives W h0.q hl1 h0.1.2)
  obtain ⟨R1, hR1⟩ : ∃ R1, ((Cc.sec (Cc.dirs l1) minFresh).2 && decide (lives < satAdd age (Cc.sec (Cc.dirs l1) minFresh).1)) = R1 := ⟨_, rfl⟩
  rw [hR1] at HA ⊢
  clear hR1
  obtain ⟨c0, c1, c2, c3, c4, c5, c6, -, -, -⟩ := K.out.1.1
  obtain ⟨-, k1, k2⟩ := K.out
  clear h0
  go_enter Tryz.func69, Tryz.ntmps69
  go_wp2_with fail
  refine HA.out.mono ?_
  rintro e w1 ⟨rfl, hb⟩
  have HB := Num.hide hb
  clear hb
  go_wp2
  go_ret
  exact ⟨rfl, HB.out⟩
set_option maxRecDepth 100000 in
set_option maxHeartbeats 1000000 in
theorem must4_impl (w : World) (g h : Nat) (m u : ByteArray) (v1 : Value) (l1 : List Fld) (b1 : ByteArray) (st : Int) (v2 : Value) (l2 : List Fld) (b2 : ByteArray) (age lives : Int) (W : World) (h0 : MAt w g h m u v1 l1 b1 st v2 l2 b2 age lives W) (hl1 : Flds.bulk l1 ≤ 1048576) (hl2 : Flds.bulk l2 ≤ 1048576) :
    Calls Tryz.prog 71 #[.pointer (some ⟨h, 0, none⟩), .pointer (some ⟨g + 2, 0, none⟩)] W fun e w' => e = .returned (.bool (decide (lives ≤ age))) ∧ Below W.heap.size W w' := by
  have K := Num.hide h0
  obtain ⟨c0, c1, c2, c3, c4, c5, c6, -, -, -⟩ := K.out.1.1
  obtain ⟨-, k1, k2⟩ := K.out
  clear h0
  go_enter Tryz.func71, Tryz.ntmps71
  go_wp2
  go_ret
  exact ⟨rfl, Below.refl _ _⟩
theorem must_bars (l1 l2 : List Fld) (asked came now age lives : Int) (ha : ageAt l2 asked came now = age) (hv : lifetime l2 = lives) : mustCheck l1 l2 asked came now = ((said l1 noCache || said l2 noCache) || ((Cc.sec (Cc.dirs l1) maxAge).2 && decide ((Cc.sec (Cc.dirs l1) maxAge).1 < age)) || ((Cc.sec (Cc.dirs l1) minFresh).2 && decide (lives < satAdd age (Cc.sec (Cc.dirs l1) minFresh).1)) || decide (lives ≤ age)) := by
  unfold mustCheck tooOld tooStale
  rw [ha, hv]
end Pol
end Go.Proofs.YtbcjpjhpobmpbaaGreatDoor
namespace Go.Proofs.YtbcjpjhpobmpbaaGreatDoor
open Go.RowKit
set_option linter.unusedVariables false
set_option linter.unusedSimpArgs false
namespace Age
open Flds (Fld ret_int)

/-- the answer's box, cell by cell, and the library's variables -/
abbrev EAt (w : World) (st : Int) (v : Value) (l : List Fld) (b : ByteArray) (W : World) : Prop :=
  W.cell? ⟨w.heap.size, 0, none⟩ = some (.int .i64 st) ∧ W.cell? ⟨w.heap.size, 1, none⟩ = some v ∧ W.cell? ⟨w.heap.size, 2, none⟩ = some (.string b) ∧ Flds.Is W v l ∧ Env W ∧ Below w.heap.size w W
theorem EAt.step {w : World} {st : Int} {v : Value} {l : List Fld} {b : ByteArray} {W W' : World} (h : EAt w st v l b W) (hb : Below W.heap.size W W') : EAt w st v l b W' := by
  obtain ⟨h0, h1, h2, h3, h4, h5⟩ := h
  have hlt : w.heap.size < W.heap.size := Recs.lt_of_cell h0
  exact ⟨(hb.cell (p := ⟨w.heap.size, 0, none⟩) hlt).trans h0, (hb.cell (p := ⟨w.heap.size, 1, none⟩) hlt).trans h1, (hb.cell (p := ⟨w.heap.size, 2, none⟩) hlt).trans h2, Recs.is_below h3 hb, h4.below hb, h5.trans (hb.mono h5.size)⟩
theorem eat_first (w : World) (st : Int) (v : Value) (l : List Fld) (b : ByteArray) (h : Flds.Is w v l) (hE : Env w) : EAt w st v l b (w.alloc (.cells #[.int .i64 st, v, .string b] 35)) := by
  have hb0 : Below w.heap.size w (w.alloc (.cells #[.int .i64 st, v, .string b] 35)) := (Below.refl _ _).alloc (Nat.le_refl _) _
  have x0 := heap_alloc_new w (.cells #[.int .i64 st, v, .string b] 35)
  exact ⟨by rw [cell_of_row _ _ _ _ _ _ x0]; rfl, by rw [cell_of_row _ _ _ _ _ _ x0]; rfl, by rw [cell_of_row _ _ _ _ _ _ x0]; rfl, Recs.is_below h hb0, hE.below hb0, hb0⟩
set_option maxRecDepth 100000 in
set_option maxHeartbeats 4000000 in
theorem firstAge_impl (st : Int) (v : Value) (l : List Fld) (b : ByteArray) (asked came : Int) (w : World) (h : Flds.Is w v l) (hl : Flds.bulk l ≤ 1048576) (hcm : came ≤ 9223372036854775807) (hE : Env w) :
    Calls Tryz.prog 73 #[Resp.val st v b, .int .i64 asked, .int .i64 came] w fun e w' => e = .returned (.int .i64 (firstAge l asked came)) ∧ Below w.heap.size w w' := by
  have HF0 := Num.hide (eat_first w st v l b h hE)
  have HDt := Num.hide (fun W h hE => byDate_impl v l came W h hl hcm hE)
  have HFl := Num.hide (fun W h => byField_impl v l asked came W h hl hcm)
  obtain ⟨av, cv, rfl, _⟩ := Flds.is_form h
  obtain ⟨r, hr⟩ : ∃ r, firstAge l asked came = r := ⟨_, rfl⟩
  rw [hr]
  unfold firstAge at hr
  generalize apparent l came = A at HDt hr
  generalize satAdd (told l) (delay asked came) = S at HFl hr
  have HR := Num.hide hr
  unfold Resp.val
  clear h hr hE
  go_enter Tryz.func73, Tryz.ntmps73
  go_upto_region 1 with fail
  generalize w.alloc (.cells #[.int .i64 st, .slice av l.length cv, .string b] 35) = w0 at HF0 ⊢
  have HF1 := Num.hide (HF0.out.step (Below.refl w0.heap.size w0).drew)
  clear HF0
  go_wp2
  refine wp_region_held_drew (S := EAt w st (.slice av l.length cv) l b) (by kernel_rfl) HF1.out (fun hHeld => ?_)
  refine Reg.take (i := 0) (d := 7) (v := ?_) rfl rfl (by kernel_rfl) (by kernel_rfl) (by kernel_rfl) (fun _ _ _ h => h) (by rfl) ?_ hHeld ?_
  rotate_left
  · rintro W ⟨h1, h2, h3, h4, h5, h6⟩
    first | (go_simp; done) | (go_simp; with_reducible rfl)
  simp only [Act.put, List.setIfInBounds_toArray, List.set_cons_zero, List.set_cons_succ]
  refine Reg.take (i := 1) (d := 8) (v := ?_) rfl rfl (by kernel_rfl) (by kernel_rfl) (by kernel_rfl) (fun _ _ _ h => h) (by rfl) ?_ hHeld ?_
  rotate_left
  · rintro W ⟨h1, h2, h3, h4, h5, h6⟩
    first | (go_simp; done) | (go_simp; with_reducible rfl)
  simp only [Act.put, List.setIfInBounds_toArray, List.set_cons_zero, List.set_cons_succ]
  refine Reg.take (i := 2) (d := 9) (v := ?_) rfl rfl (by kernel_rfl) (by kernel_rfl) (by kernel_rfl) (fun _ _ _ h => h) (by rfl) ?_ hHeld ?_
  rotate_left
  · rintro W ⟨h1, h2, h3, h4, h5, h6⟩
    first | (go_simp; done) | (go_simp; with_reducible rfl)
  simp only [Act.put, List.setIfInBounds_toArray, List.set_cons_zero, List.set_cons_succ]
  refine Reg.take (i := 4) (d := 11) (v := ?_) rfl rfl (by kernel_rfl) (by kernel_rfl) (by kernel_rfl) (fun _ _ _ h => h) (by rfl) ?_ hHeld ?_
  rotate_left
  · rintro W ⟨h1, h2, h3, h4, h5, h6⟩
    first | (go_simp; done) | (go_simp; with_reducible rfl)
  simp only [Act.put, List.setIfInBounds_toArray, List.set_cons_zero, List.set_cons_succ]
  refine Reg.take (i := 5) (d := 12) (v := ?_) rfl rfl (by kernel_rfl) (by kernel_rfl) (by kernel_rfl) (fun _ _ _ h => h) (by rfl) ?_ hHeld ?_
  rotate_left
  · rintro W ⟨h1, h2, h3, h4, h5, h6⟩
    first | (go_simp; done) | (go_simp; with_reducible rfl)
  simp only [Act.put, List.setIfInBounds_toArray, List.set_cons_zero, List.set_cons_succ]
  refine Reg.take (i := 6) (d := 13) (v := ?_) rfl rfl (by kernel_rfl) (by kernel_rfl) (by kernel_rfl) (fun _ _ _ h => h) (by rfl) ?_ hHeld ?_
  rotate_left
  · rintro W ⟨h1, h2, h3, h4, h5, h6⟩
    first | (go_simp; done) | (go_simp; with_reducible rfl)
  simp only [Act.put, List.setIfInBounds_toArray, List.set_cons_zero, List.set_cons_succ]
  refine Reg.take (i := 7) (d := 14) (v := ?_) rfl rfl (by kernel_rfl) (by kernel_rfl) (by kernel_rfl) (fun _ _ _ h => h) (by rfl) ?_ hHeld ?_
  rotate_left
  · rintro W ⟨h1, h2, h3, h4, h5, h6⟩
    first | (go_simp; done) | (go_simp; with_reducible rfl)
  simp only [Act.put, List.setIfInBounds_toArray, List.set_cons_zero, List.set_cons_succ]
  refine Reg.call (i := 3) rfl (by kernel_rfl) (by rfl) (fun K hK => ?_)
  go_wp2_with (first | (go_at_call 99; refine (HDt.out _ hHeld.2.2.2.1 hHeld.2.2.2.2.1).mono ?_; rintro e w2 ⟨rfl, hb2⟩))
  refine hK.out _ _ ?_ (fun hHeld2 => ?_)
  · exact hHeld.step hb2
  clear hK K
  replace hHeld := hHeld2
  clear hHeld2
  refine Reg.call (i := 8) rfl (by kernel_rfl) (by rfl) (fun K hK => ?_)
  go_wp2_with (first | (go_at_call 100; refine (HFl.out _ hHeld.2.2.2.1).mono ?_; rintro e w3 ⟨rfl, hb3⟩))
  refine hK.out _ _ ?_ (fun hHeld2 => ?_)
  · exact hHeld.step hb3
  clear hK K
  replace hHeld := hHeld2
  clear hHeld2
  refine Reg.take (i := 9) (d := 16) (v := ?_) rfl rfl (by kernel_rfl) (by kernel_rfl) (by kernel_rfl) (fun _ _ _ h => h) (by rfl) ?_ hHeld ?_
  rotate_left
  · rintro W ⟨h1, h2, h3, h4, h5, h6⟩
    first | (go_simp; done) | (go_simp; with_reducible rfl)
  simp only [Act.put, List.setIfInBounds_toArray, List.set_cons_zero, List.set_cons_succ]
  refine Reg.take (i := 10) (d := 6) (v := ?_) rfl rfl (by kernel_rfl) (by kernel_rfl) (by kernel_rfl) (fun _ _ _ h => h) (by rfl) ?_ hHeld ?_
  rotate_left
  · rintro W ⟨h1, h2, h3, h4, h5, h6⟩
    first | (go_simp; done) | (go_simp; with_reducible rfl)
  simp only [Act.put, List.setIfInBounds_toArray, List.set_cons_zero, List.set_cons_succ]
  refine wpAnyH_done (by kernel_rfl) ?_ _
  have HB := Num.hide hHeld.2.2.2.2.2
  clear hHeld HF1
  go_wp2
  go_ret
  exact ⟨ret_int (by first | rfl | (have := HR.out; split <;> omega) | (have := HR.out; omega)), HB.out⟩
set_option maxRecDepth 100000 in
set_option maxHeartbeats 2000000 in
theorem ageAt_impl (st : Int) (v : Value) (l : List Fld) (b : ByteArray) (asked came now : Int) (w : World) (h : Flds.Is w v l) (hl : Flds.bulk l ≤ 1048576) (hcm : came ≤ 9223372036854775807) (hnw : now ≤ 9223372036854775807) (hE : Env w) :
    Calls Tryz.prog 35 #[Resp.val st v b, .int .i64 asked, .int .i64 came, .int .i64 now] w fun e w' => e = .returned (.int .i64 (ageAt l asked came now)) ∧ Below w.heap.size w w' := by
  have HF0 := Num.hide (eat_first w st v l b h hE)
  have HFi := Num.hide (fun W h hE => firstAge_impl st v l b asked came W h hl hcm hE)
  obtain ⟨av, cv, rfl, _⟩ := Flds.is_form h
  unfold ageAt
  generalize firstAge l asked came = A at HFi ⊢
  rw [← later_here]
  have HL := Num.hide (fun W => later_impl came now W hnw)
  generalize later came now = L at HL ⊢
  have HS := Num.hide (fun W => satAdd_impl A L W)
  generalize satAdd A L = r at HS ⊢
  unfold Resp.val at HFi ⊢
  clear h hE
  go_enter Tryz.func35, Tryz.ntmps35
  go_upto_region 1 with fail
  generalize w.alloc (.cells #[.int .i64 st, .slice av l.length cv, .string b] 35) = w0 at HF0 ⊢
  obtain ⟨c0, c1, c2, _, _, _⟩ := HF0.out
  go_wp2_with fail
  refine (HFi.out _ HF0.out.2.2.2.1 HF0.out.2.2.2.2.1).mono ?_
  rintro e w1 ⟨rfl, hb⟩
  have HB := Num.hide (HF0.out.2.2.2.2.2.trans (hb.mono HF0.out.2.2.2.2.2.size))
  clear hb c0 c1 c2 HF0 HFi
  go_wp2_with fail
  refine (HL.out _).mono ?_
  rintro e w2 ⟨rfl, rfl⟩
  go_wp2_with fail
  refine (HS.out _).mono ?_
  rintro e w3 ⟨rfl, rfl⟩
  go_wp2
  go_ret
  exact ⟨rfl, HB.out⟩
end Age
end Go.Proofs.YtbcjpjhpobmpbaaGreatDoor
namespace Go.Proofs.YtbcjpjhpobmpbaaGreatDoor
open Go.RowKit
set_option linter.unusedVariables false
set_option linter.unusedSimpArgs false
namespace Pol
open Flds (Fld)
open Age (EnvS sMaxAge maxAge expiresName ageAt lifetime satAdd)

set_option maxRecDepth 100000 in
set_option maxHeartbeats 4000000 in
theorem must_allows (Q : World → Prop) (hQ : ∀ W W', Q W → Below W.heap.size W W' → Q W') (g a h : Nat) (B1 B2 B3 B4 : Bool)
    (hc1 : ∀ W, Q W → W.cell? ⟨a, 0, none⟩ = some (.func (.func 66) #[] #[.pointer (some ⟨g, 0, none⟩), .pointer (some ⟨g + 1, 0, none⟩)]))
    (hc2 : ∀ W, Q W → W.cell? ⟨a, 1, none⟩ = some (.func (.func 67) #[] #[.pointer (some ⟨g, 0, none⟩), .pointer (some ⟨g + 2, 0, none⟩)]))
    (hc3 : ∀ W, Q W → W.cell? ⟨a, 2, none⟩ = some (.func (.func 69) #[] #[.pointer (some ⟨g, 0, none⟩), .pointer (some ⟨g + 2, 0, none⟩), .pointer (some ⟨h, 0, none⟩)]))
    (hc4 : ∀ W, Q W → W.cell? ⟨a, 3, none⟩ = some (.func (.func 71) #[] #[.pointer (some ⟨h, 0, none⟩), .pointer (some ⟨g + 2, 0, none⟩)]))
    (h1 : ∀ W, Q W → Calls Tryz.prog 66 #[.pointer (some ⟨g, 0, none⟩), .pointer (some ⟨g + 1, 0, none⟩)] W fun e w' => e = .returned (.bool B1) ∧ Below W.heap.size W w')
    (h2 : ∀ W, Q W → Calls Tryz.prog 67 #[.pointer (some ⟨g, 0, none⟩), .pointer (some ⟨g + 2, 0, none⟩)] W fun e w' => e = .returned (.bool B2) ∧ Below W.heap.size W w')
    (h3 : ∀ W, Q W → Calls Tryz.prog 69 #[.pointer (some ⟨g, 0, none⟩), .pointer (some ⟨g + 2, 0, none⟩), .pointer (some ⟨h, 0, none⟩)] W fun e w' => e = .returned (.bool B3) ∧ Below W.heap.size W w')
    (h4 : ∀ W, Q W → Calls Tryz.prog 71 #[.pointer (some ⟨h, 0, none⟩), .pointer (some ⟨g + 2, 0, none⟩)] W fun e w' => e = .returned (.bool B4) ∧ Below W.heap.size W w')
    (w : World) (hq : Q w) :
    Calls Tryz.prog 28 #[.agg #[.slice (some ⟨a, 0, none⟩) 4 4]] w fun e w' => e = .returned (.bool (!(B1 || B2 || B3 || B4))) ∧ Below w.heap.size w w' := by
  have HC1 := Num.hide hc1
  have H1 := Num.hide h1
  have HC2 := Num.hide hc2
  have H2 := Num.hide h2
  have HC3 := Num.hide hc3
  have H3 := Num.hide h3
  have HC4 := Num.hide hc4
  have H4 := Num.hide h4
  have HQ := Num.hide hQ
  obtain ⟨r, hr⟩ : ∃ r, (!(B1 || B2 || B3 || B4)) = r := ⟨_, rfl⟩
  rw [hr]
  have HR := Num.hide hr
  have hb0 : Below w.heap.size w (w.alloc (.cells #[.slice (some ⟨a, 0, none⟩) 4 4] 61)) := (Below.refl _ _).alloc (Nat.le_refl _) _
  have HQ1 := Num.hide (hQ _ _ hq hb0)
  have HB1 := Num.hide hb0
  have X1 := Num.hide (heap_alloc_new w (.cells #[.slice (some ⟨a, 0, none⟩) 4 4] 61))
  have hent1 : ∀ args W, (callFunc 66 args).run Tryz.prog W = .ok (.enter 66 args) W := enters_of Tryz.func66 (by kernel_rfl) rfl
  have hent2 : ∀ args W, (callFunc 67 args).run Tryz.prog W = .ok (.enter 67 args) W := enters_of Tryz.func67 (by kernel_rfl) rfl
  have hent3 : ∀ args W, (callFunc 69 args).run Tryz.prog W = .ok (.enter 69 args) W := enters_of Tryz.func69 (by kernel_rfl) rfl
  have hent4 : ∀ args W, (callFunc 71 args).run Tryz.prog W = .ok (.enter 71 args) W := enters_of Tryz.func71 (by kernel_rfl) rfl
  clear hr hq hQ hb0 hc1 h1 hc2 h2 hc3 h3 hc4 h4
  go_enter Tryz.func28, Tryz.ntmps28
  go_upto_region 1 with fail
  generalize w.alloc (.cells #[.slice (some ⟨a, 0, none⟩) 4 4] 61) = w1 at HQ1 HB1 X1 ⊢
  have c0 : w1.cell? ⟨w.heap.size, 0, none⟩ = some (.slice (some ⟨a, 0, none⟩) 4 4) := Recs.box_cell X1.out 0
  go_wp2_with fail
  refine wp_loop_rounds 5 ?_
  clear c0 X1
  have k1 := HC1.out _ HQ1.out
  rw [rounds_succ]
  go_wp2_with fail
  refine (H1.out _ HQ1.out).mono ?_
  rintro e w2 ⟨rfl, hb⟩
  have HQ2 := Num.hide (HQ.out _ _ HQ1.out hb)
  have HB2 := Num.hide (HB1.out.trans (hb.mono HB1.out.size))
  clear hb k1 HQ1 HB1 H1 HC1 hent1
  cases B1 with
  | true =>
    obtain rfl : r = false := by rw [← HR.out]; simp
    clear HR HQ2
    go_wp2
    go_ret
    exact ⟨rfl, HB2.out⟩
  | false =>
  go_wp2_with fail
  have k2 := HC2.out _ HQ2.out
  rw [rounds_succ]
  go_wp2_with fail
  refine (H2.out _ HQ2.out).mono ?_
  rintro e w3 ⟨rfl, hb⟩
  have HQ3 := Num.hide (HQ.out _ _ HQ2.out hb)
  have HB3 := Num.hide (HB2.out.trans (hb.mono HB2.out.size))
  clear hb k2 HQ2 HB2 H2 HC2 hent2
  cases B2 with
  | true =>
    obtain rfl : r = false := by rw [← HR.out]; simp
    clear HR HQ3
    go_wp2
    go_ret
    exact ⟨rfl, HB3.out⟩
  | false =>
  go_wp2_with fail
  have k3 := HC3.out _ HQ3.out
  rw [rounds_succ]
  go_wp2_with fail
  refine (H3.out _ HQ3.out).mono ?_
  rintro e w4 ⟨rfl, hb⟩
  have HQ4 := Num.hide (HQ.out _ _ HQ3.out hb)
  have HB4 := Num.hide (HB3.out.trans (hb.mono HB3.out.size))
  clear hb k3 HQ3 HB3 H3 HC3 hent3
  cases B3 with
  | true =>
    obtain rfl : r = false := by rw [← HR.out]; simp
    clear HR HQ4
    go_wp2
    go_ret
    exact ⟨rfl, HB4.out⟩
  | false =>
  go_wp2_with fail
  have k4 := HC4.out _ HQ4.out
  rw [rounds_succ]
  go_wp2_with fail
  refine (H4.out _ HQ4.out).mono ?_
  rintro e w5 ⟨rfl, hb⟩
  have HQ5 := Num.hide (HQ.out _ _ HQ4.out hb)
  have HB5 := Num.hide (HB4.out.trans (hb.mono HB4.out.size))
  clear hb k4 HQ4 HB4 H4 HC4 hent4
  cases B4 with
  | true =>
    obtain rfl : r = false := by rw [← HR.out]; simp
    clear HR HQ5
    go_wp2
    go_ret
    exact ⟨rfl, HB5.out⟩
  | false =>
  go_wp2_with fail
  rw [rounds_succ]
  obtain rfl : r = true := by rw [← HR.out]; rfl
  clear HR HQ5
  go_wp2
  go_ret
  exact ⟨rfl, HB5.out⟩
/-- the boxes and the list of what forbids -/
abbrev NAt (w : World) (g h : Nat) (m u : ByteArray) (v1 : Value) (l1 : List Fld) (b1 : ByteArray) (st : Int) (v2 : Value) (l2 : List Fld) (b2 : ByteArray) (age lives : Int) (a : Nat) (W : World) : Prop := MAt w g h m u v1 l1 b1 st v2 l2 b2 age lives W ∧ W.cell? ⟨a, 0, none⟩ = some (.func (.func 66) #[] #[.pointer (some ⟨g, 0, none⟩), .pointer (some ⟨g + 1, 0, none⟩)]) ∧ W.cell? ⟨a, 1, none⟩ = some (.func (.func 67) #[] #[.pointer (some ⟨g, 0, none⟩), .pointer (some ⟨g + 2, 0, none⟩)]) ∧ W.cell? ⟨a, 2, none⟩ = some (.func (.func 69) #[] #[.pointer (some ⟨g, 0, none⟩), .pointer (some ⟨g + 2, 0, none⟩), .pointer (some ⟨h, 0, none⟩)]) ∧ W.cell? ⟨a, 3, none⟩ = some (.func (.func 71) #[] #[.pointer (some ⟨h, 0, none⟩), .pointer (some ⟨g + 2, 0, none⟩)])
theorem NAt.step {w : World} {g h : Nat} {m u : ByteArray} {v1 : Value} {l1 : List Fld} {b1 : ByteArray} {st : Int} {v2 : Value} {l2 : List Fld} {b2 : ByteArray} {age lives : Int} {a : Nat} {W W' : World} (h0 : NAt w g h m u v1 l1 b1 st v2 l2 b2 age lives a W) (hb : Below W.heap.size W W') : NAt w g h m u v1 l1 b1 st v2 l2 b2 age lives a W' := by
  obtain ⟨h0, k0, k1, k2, k3⟩ := h0
  have la : a < W.heap.size := Recs.lt_of_cell k0
  exact ⟨MAt.step h0 hb, (hb.cell (p := ⟨a, 0, none⟩) la).trans k0, (hb.cell (p := ⟨a, 1, none⟩) la).trans k1, (hb.cell (p := ⟨a, 2, none⟩) la).trans k2, (hb.cell (p := ⟨a, 3, none⟩) la).trans k3⟩
set_option maxRecDepth 100000 in
set_option maxHeartbeats 4000000 in
theorem telling_impl (m u : ByteArray) (st : Int) (v1 v2 : Value) (l1 l2 : List Fld) (b1 b2 : ByteArray) (age : Int) (w : World) (h1 : Flds.Is w v1 l1) (h2 : Flds.Is w v2 l2) (hl2 : Flds.bulk l2 ≤ 1048576) (hE : EnvS w) :
    Calls Tryz.prog 34 #[Req.val m u v1 b1, Resp.val st v2 b2, .int .i64 age] w fun e w' => ∃ h a, e = .returned (.agg #[.slice (some ⟨a, 0, none⟩) 4 4]) ∧ NAt w w.heap.size h m u v1 l1 b1 st v2 l2 b2 age (lifetime l2) a w' := by
  have hmf : ∀ (fn : Fn) (first cap : Array Value) (w : World), (Instr.makeFunc fn first cap).run Tryz.prog w = .ok (.func fn first cap) w := fun _ _ _ _ => rfl
  have hp := pat_first w m u v1 l1 b1 st v2 l2 b2 h1 h2
  have z0 : ((w.alloc (.cells #[.string m, .string u, v1, .string b1] 32)).alloc (.cells #[.int .i64 st, v2, .string b2] 35)).heap.size = w.heap.size + 2 := by rw [World.size_alloc, World.size_alloc]
  have hb1 : Below ((w.alloc (.cells #[.string m, .string u, v1, .string b1] 32)).alloc (.cells #[.int .i64 st, v2, .string b2] 35)).heap.size ((w.alloc (.cells #[.string m, .string u, v1, .string b1] 32)).alloc (.cells #[.int .i64 st, v2, .string b2] 35)) ((((w.alloc (.cells #[.string m, .string u, v1, .string b1] 32)).alloc (.cells #[.int .i64 st, v2, .string b2] 35)).alloc (.cells #[.int .i64 age] 3)).alloc (.cells #[.slice none 0 0] 61)) := ((Below.refl _ _).alloc (Nat.le_refl _) _).alloc (by simp) _
  have xa : ((((w.alloc (.cells #[.string m, .string u, v1, .string b1] 32)).alloc (.cells #[.int .i64 st, v2, .string b2] 35)).alloc (.cells #[.int .i64 age] 3)).alloc (.cells #[.slice none 0 0] 61)).heap[w.heap.size + 2]? = some (.cells #[.int .i64 age] 3) := by
    rw [heap_alloc_old _ _ (by rw [World.size_alloc]; omega)]
    have := heap_alloc_new ((w.alloc (.cells #[.string m, .string u, v1, .string b1] 32)).alloc (.cells #[.int .i64 st, v2, .string b2] 35)) (.cells #[.int .i64 age] 3)
    rwa [z0] at this
  have xp : ((((w.alloc (.cells #[.string m, .string u, v1, .string b1] 32)).alloc (.cells #[.int .i64 st, v2, .string b2] 35)).alloc (.cells #[.int .i64 age] 3)).alloc (.cells #[.slice none 0 0] 61)).heap[w.heap.size + 3]? = some (.cells #[.slice none 0 0] 61) := by
    have := heap_alloc_new (((w.alloc (.cells #[.string m, .string u, v1, .string b1] 32)).alloc (.cells #[.int .i64 st, v2, .string b2] 35)).alloc (.cells #[.int .i64 age] 3)) (.cells #[.slice none 0 0] 61)
    rwa [World.size_alloc, z0] at this
  have K0 : Hid (PAt w w.heap.size m u v1 l1 b1 st v2 l2 b2 ((((w.alloc (.cells #[.string m, .string u, v1, .string b1] 32)).alloc (.cells #[.int .i64 st, v2, .string b2] 35)).alloc (.cells #[.int .i64 age] 3)).alloc (.cells #[.slice none 0 0] 61)) ∧ EnvS ((((w.alloc (.cells #[.string m, .string u, v1, .string b1] 32)).alloc (.cells #[.int .i64 st, v2, .string b2] 35)).alloc (.cells #[.int .i64 age] 3)).alloc (.cells #[.slice none 0 0] 61))) := ⟨PAt.step hp hb1, (hE.below hp.2.2.2.2.2.2.2.2.2).below hb1⟩
  have XA := Num.hide xa
  have XP := Num.hide xp
  have H1 := Num.hide h1
  have H2 := Num.hide h2
  have HE := Num.hide hE
  have HLf := Num.hide (fun W h (hE : EnvS W) => Age.lifetime_impl st v2 l2 b2 W h hl2 hE)
  obtain ⟨av1, cv1, rfl, _⟩ := Flds.is_form h1
  obtain ⟨av2, cv2, rfl, _⟩ := Flds.is_form h2
  generalize lifetime l2 = lives at HLf ⊢
  unfold Resp.val at HLf
  unfold Req.val Resp.val
  clear h1 h2 hE hp hb1 xa xp z0
  go_enter Tryz.func34, Tryz.ntmps34
  go_upto_region 1 with fail
  generalize (((w.alloc (.cells #[.string m, .string u, .slice av1 l1.length cv1, .string b1] 32)).alloc (.cells #[.int .i64 st, .slice av2 l2.length cv2, .string b2] 35)).alloc (.cells #[.int .i64 age] 3)).alloc (.cells #[.slice none 0 0] 61) = w0 at K0 XA XP ⊢
  obtain ⟨c0, c1, c2, c3, c4, c5, c6, -, -, -⟩ := K0.out.1
  go_wp2_with fail
  refine (HLf.out _ K0.out.1.2.2.2.2.2.2.2.2.1 K0.out.2).mono ?_
  rintro e w1 ⟨rfl, hb⟩
  have K1 : Hid (PAt w w.heap.size m u (.slice av1 l1.length cv1) l1 b1 st (.slice av2 l2.length cv2) l2 b2 w1 ∧ EnvS w1) := ⟨PAt.step K0.out.1 hb, K0.out.2.below hb⟩
  have la : w.heap.size + 2 < w0.heap.size := (Array.getElem?_eq_some_iff.1 XA.out).1
  have lp : w.heap.size + 3 < w0.heap.size := (Array.getElem?_eq_some_iff.1 XP.out).1
  have XA1 := Num.hide ((hb.block _ la).trans XA.out)
  have XP1 := Num.hide ((hb.block _ lp).trans XP.out)
  have hs1 := hb.size
  clear hb c0 c1 c2 c3 c4 c5 c6 K0 XA XP
  have lp1 : w.heap.size + 3 < w1.heap.size := by omega
  clear la lp hs1
  have XP2 : ((w1.alloc (.cells #[.int .i64 lives] 3)).alloc (.cells #[.func (.func 66) #[] #[.pointer (some ⟨w.heap.size, 0, none⟩), .pointer (some ⟨w.heap.size + 1, 0, none⟩)], .func (.func 67) #[] #[.pointer (some ⟨w.heap.size, 0, none⟩), .pointer (some ⟨w.heap.size + 1 + 1, 0, none⟩)], .func (.func 69) #[] #[.pointer (some ⟨w.heap.size, 0, none⟩), .pointer (some ⟨w.heap.size + 1 + 1, 0, none⟩), .pointer (some ⟨w1.heap.size, 0, none⟩)], .func (.func 71) #[] #[.pointer (some ⟨w1.heap.size, 0, none⟩), .pointer (some ⟨w.heap.size + 1 + 1, 0, none⟩)]] 63)).heap[w.heap.size + 3]? = some (.cells #[.slice none 0 0] 61) := by
    rw [heap_alloc_old _ _ (by rw [World.size_alloc]; omega), heap_alloc_old _ _ (by omega)]; exact XP1.out
  have c7 : ((w1.alloc (.cells #[.int .i64 lives] 3)).alloc (.cells #[.func (.func 66) #[] #[.pointer (some ⟨w.heap.size, 0, none⟩), .pointer (some ⟨w.heap.size + 1, 0, none⟩)], .func (.func 67) #[] #[.pointer (some ⟨w.heap.size, 0, none⟩), .pointer (some ⟨w.heap.size + 1 + 1, 0, none⟩)], .func (.func 69) #[] #[.pointer (some ⟨w.heap.size, 0, none⟩), .pointer (some ⟨w.heap.size + 1 + 1, 0, none⟩), .pointer (some ⟨w1.heap.size, 0, none⟩)], .func (.func 71) #[] #[.pointer (some ⟨w1.heap.size, 0, none⟩), .pointer (some ⟨w.heap.size + 1 + 1, 0, none⟩)]] 63)).cell? ⟨w.heap.size + 1 + 1 + 1, 0, none⟩ = some (.slice none 0 0) := Recs.box_cell XP2 0
  have z7 : ((w1.alloc (.cells #[.int .i64 lives] 3)).alloc (.cells #[.func (.func 66) #[] #[.pointer (some ⟨w.heap.size, 0, none⟩), .pointer (some ⟨w.heap.size + 1, 0, none⟩)], .func (.func 67) #[] #[.pointer (some ⟨w.heap.size, 0, none⟩), .pointer (some ⟨w.heap.size + 1 + 1, 0, none⟩)], .func (.func 69) #[] #[.pointer (some ⟨w.heap.size, 0, none⟩), .pointer (some ⟨w.heap.size + 1 + 1, 0, none⟩), .pointer (some ⟨w1.heap.size, 0, none⟩)], .func (.func 71) #[] #[.pointer (some ⟨w1.heap.size, 0, none⟩), .pointer (some ⟨w.heap.size + 1 + 1, 0, none⟩)]] 63)).frozen? ⟨w.heap.size + 1 + 1 + 1, 0, none⟩ = false := Recs.box_thaw XP2 0
  have Y2 : ((w1.alloc (.cells #[.int .i64 lives] 3)).alloc (.cells #[.func (.func 66) #[] #[.pointer (some ⟨w.heap.size, 0, none⟩), .pointer (some ⟨w.heap.size + 1, 0, none⟩)], .func (.func 67) #[] #[.pointer (some ⟨w.heap.size, 0, none⟩), .pointer (some ⟨w.heap.size + 1 + 1, 0, none⟩)], .func (.func 69) #[] #[.pointer (some ⟨w.heap.size, 0, none⟩), .pointer (some ⟨w.heap.size + 1 + 1, 0, none⟩), .pointer (some ⟨w1.heap.size, 0, none⟩)], .func (.func 71) #[] #[.pointer (some ⟨w1.heap.size, 0, none⟩), .pointer (some ⟨w.heap.size + 1 + 1, 0, none⟩)]] 63)).heap[w1.heap.size + 1]? = some (.cells #[.func (.func 66) #[] #[.pointer (some ⟨w.heap.size, 0, none⟩), .pointer (some ⟨w.heap.size + 1, 0, none⟩)], .func (.func 67) #[] #[.pointer (some ⟨w.heap.size, 0, none⟩), .pointer (some ⟨w.heap.size + 1 + 1, 0, none⟩)], .func (.func 69) #[] #[.pointer (some ⟨w.heap.size, 0, none⟩), .pointer (some ⟨w.heap.size + 1 + 1, 0, none⟩), .pointer (some ⟨w1.heap.size, 0, none⟩)], .func (.func 71) #[] #[.pointer (some ⟨w1.heap.size, 0, none⟩), .pointer (some ⟨w.heap.size + 1 + 1, 0, none⟩)]] 63) := by
    have := heap_alloc_new (w1.alloc (.cells #[.int .i64 lives] 3)) (.cells #[.func (.func 66) #[] #[.pointer (some ⟨w.heap.size, 0, none⟩), .pointer (some ⟨w.heap.size + 1, 0, none⟩)], .func (.func 67) #[] #[.pointer (some ⟨w.heap.size, 0, none⟩), .pointer (some ⟨w.heap.size + 1 + 1, 0, none⟩)], .func (.func 69) #[] #[.pointer (some ⟨w.heap.size, 0, none⟩), .pointer (some ⟨w.heap.size + 1 + 1, 0, none⟩), .pointer (some ⟨w1.heap.size, 0, none⟩)], .func (.func 71) #[] #[.pointer (some ⟨w1.heap.size, 0, none⟩), .pointer (some ⟨w.heap.size + 1 + 1, 0, none⟩)]] 63)
    rwa [World.size_alloc] at this
  have L2 : ((w1.alloc (.cells #[.int .i64 lives] 3)).alloc (.cells #[.func (.func 66) #[] #[.pointer (some ⟨w.heap.size, 0, none⟩), .pointer (some ⟨w.heap.size + 1, 0, none⟩)], .func (.func 67) #[] #[.pointer (some ⟨w.heap.size, 0, none⟩), .pointer (some ⟨w.heap.size + 1 + 1, 0, none⟩)], .func (.func 69) #[] #[.pointer (some ⟨w.heap.size, 0, none⟩), .pointer (some ⟨w.heap.size + 1 + 1, 0, none⟩), .pointer (some ⟨w1.heap.size, 0, none⟩)], .func (.func 71) #[] #[.pointer (some ⟨w1.heap.size, 0, none⟩), .pointer (some ⟨w.heap.size + 1 + 1, 0, none⟩)]] 63)).heap[w1.heap.size]? = some (.cells #[.int .i64 lives] 3) := by
    rw [heap_alloc_old _ _ (by rw [World.size_alloc]; omega), heap_alloc_new]
  have B2 : Below w1.heap.size w1 ((w1.alloc (.cells #[.int .i64 lives] 3)).alloc (.cells #[.func (.func 66) #[] #[.pointer (some ⟨w.heap.size, 0, none⟩), .pointer (some ⟨w.heap.size + 1, 0, none⟩)], .func (.func 67) #[] #[.pointer (some ⟨w.heap.size, 0, none⟩), .pointer (some ⟨w.heap.size + 1 + 1, 0, none⟩)], .func (.func 69) #[] #[.pointer (some ⟨w.heap.size, 0, none⟩), .pointer (some ⟨w.heap.size + 1 + 1, 0, none⟩), .pointer (some ⟨w1.heap.size, 0, none⟩)], .func (.func 71) #[] #[.pointer (some ⟨w1.heap.size, 0, none⟩), .pointer (some ⟨w.heap.size + 1 + 1, 0, none⟩)]] 63)) := ((Below.refl _ _).alloc (Nat.le_refl _) _).alloc (by simp) _
  have HX2 := Num.hide XP2
  have HY2 := Num.hide Y2
  have HL2 := Num.hide L2
  have HB2 := Num.hide B2
  clear XP2 Y2 L2 B2
  go_wp2
  generalize ((w1.alloc (.cells #[.int .i64 lives] 3)).alloc (.cells #[.func (.func 66) #[] #[.pointer (some ⟨w.heap.size, 0, none⟩), .pointer (some ⟨w.heap.size + 1, 0, none⟩)], .func (.func 67) #[] #[.pointer (some ⟨w.heap.size, 0, none⟩), .pointer (some ⟨w.heap.size + 1 + 1, 0, none⟩)], .func (.func 69) #[] #[.pointer (some ⟨w.heap.size, 0, none⟩), .pointer (some ⟨w.heap.size + 1 + 1, 0, none⟩), .pointer (some ⟨w1.heap.size, 0, none⟩)], .func (.func 71) #[] #[.pointer (some ⟨w1.heap.size, 0, none⟩), .pointer (some ⟨w.heap.size + 1 + 1, 0, none⟩)]] 63)) = W2 at HX2 HY2 HL2 HB2 c7 z7 ⊢
  have K2 := Num.hide (PAt.step K1.out.1 HB2.out)
  have XA2 := (HB2.out.block _ (by omega : w.heap.size + 2 < w1.heap.size)).trans XA1.out
  obtain ⟨c0, c1, c2, c3, c4, c5, c6, -, -, hbw⟩ := K2.out
  have far : ∀ (j k : Nat), j ≠ w.heap.size + 3 → (W2.setCell ⟨w.heap.size + 1 + 1 + 1, 0, none⟩ (.slice (some ⟨w1.heap.size + 1, 0, none⟩) 4 4)).cell? ⟨j, k, none⟩ = W2.cell? ⟨j, k, none⟩ := fun j k hj => World.cell?_of_block (w := W2) (heap_setCell_other W2 _ j _ (fun e => hj e))
  have XF := Recs.box_set HX2.out 0 (.slice (some ⟨w1.heap.size + 1, 0, none⟩) 4 4)
  have hbf : Below w.heap.size w (W2.setCell ⟨w.heap.size + 1 + 1 + 1, 0, none⟩ (.slice (some ⟨w1.heap.size + 1, 0, none⟩) 4 4)) := hbw.setCell (p := ⟨w.heap.size + 1 + 1 + 1, 0, none⟩) (by show w.heap.size ≤ w.heap.size + 1 + 1 + 1; omega) _
  have cr : (W2.setCell ⟨w.heap.size + 1 + 1 + 1, 0, none⟩ (.slice (some ⟨w1.heap.size + 1, 0, none⟩) 4 4)).cell? ⟨w.heap.size + 1 + 1 + 1, 0, none⟩ = some (.slice (some ⟨w1.heap.size + 1, 0, none⟩) 4 4) := Recs.box_cell XF 0
  clear c7 z7
  generalize W2.setCell ⟨w.heap.size + 1 + 1 + 1, 0, none⟩ (.slice (some ⟨w1.heap.size + 1, 0, none⟩) 4 4) = WF at far XF hbf cr ⊢
  exact bodyPost_ret (v := .agg #[.slice (some ⟨w1.heap.size + 1, 0, none⟩) 4 4]) (by simp [results, Tryz.results34, go_sem, cr]) rfl ⟨w1.heap.size, w1.heap.size + 1, rfl, ⟨⟨⟨(far _ _ (by omega)).trans c0, (far _ _ (by omega)).trans c1, (far _ _ (by omega)).trans c2, (far _ _ (by omega)).trans c3, (far _ _ (by omega)).trans c4, (far _ _ (by omega)).trans c5, (far _ _ (by omega)).trans c6, Recs.is_below H1.out hbf, Recs.is_below H2.out hbf, hbf⟩, HE.out.below hbf⟩, (far _ _ (by omega)).trans (Recs.box_cell XA2 0), (far _ _ (by omega)).trans (Recs.box_cell HL2.out 0)⟩, (far _ _ (by omega)).trans (Recs.box_cell HY2.out 0), (far _ _ (by omega)).trans (Recs.box_cell HY2.out 1), (far _ _ (by omega)).trans (Recs.box_cell HY2.out 2), (far _ _ (by omega)).trans (Recs.box_cell HY2.out 3)⟩
set_option maxRecDepth 100000 in
set_option maxHeartbeats 8000000 in
theorem mustCheck_impl (m u : ByteArray) (st : Int) (v1 v2 : Value) (l1 l2 : List Fld) (b1 b2 : ByteArray) (asked came now : Int) (w : World) (h1 : Flds.Is w v1 l1) (h2 : Flds.Is w v2 l2) (hl1 : Flds.bulk l1 ≤ 1048576) (hl2 : Flds.bulk l2 ≤ 1048576) (hcm : came ≤ 9223372036854775807) (hnw : now ≤ 9223372036854775807) (hE : EnvS w) :
    Calls Tryz.prog 15 #[Req.val m u v1 b1, Resp.val st v2 b2, .int .i64 asked, .int .i64 came, .int .i64 now] w fun e w' => e = .returned (.bool (mustCheck l1 l2 asked came now)) ∧ Below w.heap.size w w' := by
  have HF0 : Hid (PAt w w.heap.size m u v1 l1 b1 st v2 l2 b2 ((w.alloc (.cells #[.string m, .string u, v1, .string b1] 32)).alloc (.cells #[.int .i64 st, v2, .string b2] 35)) ∧ EnvS ((w.alloc (.cells #[.string m, .string u, v1, .string b1] 32)).alloc (.cells #[.int .i64 st, v2, .string b2] 35))) := ⟨pat_first w m u v1 l1 b1 st v2 l2 b2 h1 h2, hE.below (pat_first w m u v1 l1 b1 st v2 l2 b2 h1 h2).2.2.2.2.2.2.2.2.2⟩
  have HAg := Num.hide (fun W h (hE : EnvS W) => Age.ageAt_impl st v2 l2 b2 asked came now W h hl2 hcm hnw hE.1)
  have HTe := Num.hide (fun W h1 h2 (hE : EnvS W) => telling_impl m u st v1 v2 l1 l2 b1 b2 (ageAt l2 asked came now) W h1 h2 hl2 hE)
  have HAl := Num.hide (fun W W1 h a (hN : NAt W W.heap.size h m u v1 l1 b1 st v2 l2 b2 (ageAt l2 asked came now) (lifetime l2) a W1) => must_allows (NAt W W.heap.size h m u v1 l1 b1 st v2 l2 b2 (ageAt l2 asked came now) (lifetime l2) a) (fun _ _ h hb => NAt.step h hb) W.heap.size a h _ _ _ _ (fun _ h => h.2.1) (fun _ h => h.2.2.1) (fun _ h => h.2.2.2.1) (fun _ h => h.2.2.2.2) (fun X hX => must1_impl W W.heap.size h m u v1 l1 b1 st v2 l2 b2 _ _ X hX.1 hl1 hl2) (fun X hX => must2_impl W W.heap.size h m u v1 l1 b1 st v2 l2 b2 _ _ X hX.1 hl1 hl2) (fun X hX => must3_impl W W.heap.size h m u v1 l1 b1 st v2 l2 b2 _ _ X hX.1 hl1 hl2) (fun X hX => must4_impl W W.heap.size h m u v1 l1 b1 st v2 l2 b2 _ _ X hX.1 hl1 hl2) W1 hN)
  rw [← must_bars l1 l2 asked came now _ _ rfl rfl] at HAl
  generalize mustCheck l1 l2 asked came now = r at HAl ⊢
  generalize ageAt l2 asked came now = age at HAg HTe HAl
  generalize lifetime l2 = lives at HTe HAl
  obtain ⟨av1, cv1, rfl, _⟩ := Flds.is_form h1
  obtain ⟨av2, cv2, rfl, _⟩ := Flds.is_form h2
  unfold Resp.val at HAg
  unfold Req.val Resp.val at HTe
  unfold Req.val Resp.val
  clear h1 h2 hE
  go_enter Tryz.func15, Tryz.ntmps15
  go_upto_region 1 with fail
  generalize (w.alloc (.cells #[.string m, .string u, .slice av1 l1.length cv1, .string b1] 32)).alloc (.cells #[.int .i64 st, .slice av2 l2.length cv2, .string b2] 35) = w0 at HF0 ⊢
  have HF1 : Hid (PAt w w.heap.size m u (.slice av1 l1.length cv1) l1 b1 st (.slice av2 l2.length cv2) l2 b2 w0.drew ∧ EnvS w0.drew) := ⟨PAt.step HF0.out.1 (Below.refl w0.heap.size w0).drew, HF0.out.2.below (Below.refl w0.heap.size w0).drew⟩
  clear HF0
  go_wp2
  refine wp_region_held_drew (S := fun W => PAt w w.heap.size m u (.slice av1 l1.length cv1) l1 b1 st (.slice av2 l2.length cv2) l2 b2 W ∧ EnvS W) (by kernel_rfl) HF1.out (fun hHeld => ?_)
  refine Reg.take (i := 0) (d := 11) (v := ?_) rfl rfl (by kernel_rfl) (by kernel_rfl) (by kernel_rfl) (fun _ _ _ h => h) (by rfl) ?_ hHeld ?_
  rotate_left
  · rintro W ⟨⟨h0, h1, h2, h3, h4, h5, h6, h7, h8, h9⟩, h10⟩
    first | (go_simp; done) | (go_simp; with_reducible rfl)
  simp only [Act.put, List.setIfInBounds_toArray, List.set_cons_zero, List.set_cons_succ]
  refine Reg.take (i := 1) (d := 12) (v := ?_) rfl rfl (by kernel_rfl) (by kernel_rfl) (by kernel_rfl) (fun _ _ _ h => h) (by rfl) ?_ hHeld ?_
  rotate_left
  · rintro W ⟨⟨h0, h1, h2, h3, h4, h5, h6, h7, h8, h9⟩, h10⟩
    first | (go_simp; done) | (go_simp; with_reducible rfl)
  simp only [Act.put, List.setIfInBounds_toArray, List.set_cons_zero, List.set_cons_succ]
  refine Reg.take (i := 2) (d := 13) (v := ?_) rfl rfl (by kernel_rfl) (by kernel_rfl) (by kernel_rfl) (fun _ _ _ h => h) (by rfl) ?_ hHeld ?_
  rotate_left
  · rintro W ⟨⟨h0, h1, h2, h3, h4, h5, h6, h7, h8, h9⟩, h10⟩
    first | (go_simp; done) | (go_simp; with_reducible rfl)
  simp only [Act.put, List.setIfInBounds_toArray, List.set_cons_zero, List.set_cons_succ]
  refine Reg.take (i := 3) (d := 14) (v := ?_) rfl rfl (by kernel_rfl) (by kernel_rfl) (by kernel_rfl) (fun _ _ _ h => h) (by rfl) ?_ hHeld ?_
  rotate_left
  · rintro W ⟨⟨h0, h1, h2, h3, h4, h5, h6, h7, h8, h9⟩, h10⟩
    first | (go_simp; done) | (go_simp; with_reducible rfl)
  simp only [Act.put, List.setIfInBounds_toArray, List.set_cons_zero, List.set_cons_succ]
  refine Reg.take (i := 4) (d := 15) (v := ?_) rfl rfl (by kernel_rfl) (by kernel_rfl) (by kernel_rfl) (fun _ _ _ h => h) (by rfl) ?_ hHeld ?_
  rotate_left
  · rintro W ⟨⟨h0, h1, h2, h3, h4, h5, h6, h7, h8, h9⟩, h10⟩
    first | (go_simp; done) | (go_simp; with_reducible rfl)
  simp only [Act.put, List.setIfInBounds_toArray, List.set_cons_zero, List.set_cons_succ]
  refine Reg.take (i := 5) (d := 16) (v := ?_) rfl rfl (by kernel_rfl) (by kernel_rfl) (by kernel_rfl) (fun _ _ _ h => h) (by rfl) ?_ hHeld ?_
  rotate_left
  · rintro W ⟨⟨h0, h1, h2, h3, h4, h5, h6, h7, h8, h9⟩, h10⟩
    first | (go_simp; done) | (go_simp; with_reducible rfl)
  simp only [Act.put, List.setIfInBounds_toArray, List.set_cons_zero, List.set_cons_succ]
  refine Reg.call (i := 6) rfl (by kernel_rfl) (by rfl) (fun K hK => ?_)
  go_wp2_with (first | (go_at_call 35; refine (HAg.out _ hHeld.1.2.2.2.2.2.2.2.2.1 hHeld.2).mono ?_; rintro e w2 ⟨rfl, hb2⟩))
  refine hK.out _ _ ?_ (fun hHeld2 => ?_)
  · exact ⟨PAt.step hHeld.1 hb2, hHeld.2.below hb2⟩
  clear hK K
  replace hHeld := hHeld2
  clear hHeld2
  refine Reg.call (i := 7) rfl (by kernel_rfl) (by rfl) (fun K hK => ?_)
  go_wp2_with (first | (go_at_call 34; refine (HTe.out _ hHeld.1.2.2.2.2.2.2.2.1 hHeld.1.2.2.2.2.2.2.2.2.1 hHeld.2).mono ?_; rintro e w3 ⟨h, a, rfl, hN⟩))
  refine hK.out _ _ ?_ (fun hHeld2 => ?_)
  · exact ⟨PAt.step hHeld.1 hN.1.1.1.2.2.2.2.2.2.2.2.2, hHeld.2.below hN.1.1.1.2.2.2.2.2.2.2.2.2⟩
  clear hK K
  replace hHeld := hHeld2
  clear hHeld2
  refine Reg.call (i := 8) rfl (by kernel_rfl) (by rfl) (fun K hK => ?_)
  go_wp2_with (first | (go_at_call 28; refine (HAl.out _ _ _ _ hN).mono ?_; rintro e w4 ⟨rfl, hb4⟩))
  refine hK.out _ _ ?_ (fun hHeld2 => ?_)
  · exact ⟨PAt.step hHeld.1 hb4, hHeld.2.below hb4⟩
  clear hK K
  replace hHeld := hHeld2
  clear hHeld2
  refine Reg.take (i := 9) (d := 20) (v := ?_) rfl rfl (by kernel_rfl) (by kernel_rfl) (by kernel_rfl) (fun _ _ _ h => h) (by rfl) ?_ hHeld ?_
  rotate_left
  · rintro W ⟨⟨h0, h1, h2, h3, h4, h5, h6, h7, h8, h9⟩, h10⟩
    first | (go_simp; done) | (go_simp; with_reducible rfl)
  simp only [Act.put, List.setIfInBounds_toArray, List.set_cons_zero, List.set_cons_succ]
  refine Reg.take (i := 10) (d := 10) (v := ?_) rfl rfl (by kernel_rfl) (by kernel_rfl) (by kernel_rfl) (fun _ _ _ h => h) (by rfl) ?_ hHeld ?_
  rotate_left
  · rintro W ⟨⟨h0, h1, h2, h3, h4, h5, h6, h7, h8, h9⟩, h10⟩
    first | (go_simp; done) | (go_simp; with_reducible rfl)
  simp only [Act.put, List.setIfInBounds_toArray, List.set_cons_zero, List.set_cons_succ]
  refine wpAnyH_done (by kernel_rfl) ?_ _
  have HB := Num.hide hHeld.1.2.2.2.2.2.2.2.2.2
  clear hHeld HF1
  go_wp2
  go_ret
  exact ⟨rfl, HB.out⟩
end Pol
end Go.Proofs.YtbcjpjhpobmpbaaGreatDoor
namespace Go.Proofs.YtbcjpjhpobmpbaaGreatDoor
open Go.RowKit
set_option linter.unusedVariables false
set_option linter.unusedSimpArgs false
namespace Age
open Flds (Fld ret_int)

/-- the answer's box, cell by cell, and what the program's tables hold -/
abbrev ZAt (w : World) (st : Int) (v : Value) (l : List Fld) (b : ByteArray) (W : World) : Prop :=
  W.cell? ⟨w.heap.size, 0, none⟩ = some (.int .i64 st) ∧ W.cell? ⟨w.heap.size, 1, none⟩ = some v ∧ W.cell? ⟨w.heap.size, 2, none⟩ = some (.string b) ∧ Flds.Is W v l ∧ EnvS W ∧ Below w.heap.size w W
theorem ZAt.step {w : World} {st : Int} {v : Value} {l : List Fld} {b : ByteArray} {W W' : World} (h : ZAt w st v l b W) (hb : Below W.heap.size W W') : ZAt w st v l b W' := by
  obtain ⟨h0, h1, h2, h3, h4, h5⟩ := h
  have hlt : w.heap.size < W.heap.size := Recs.lt_of_cell h0
  exact ⟨(hb.cell (p := ⟨w.heap.size, 0, none⟩) hlt).trans h0, (hb.cell (p := ⟨w.heap.size, 1, none⟩) hlt).trans h1, (hb.cell (p := ⟨w.heap.size, 2, none⟩) hlt).trans h2, Recs.is_below h3 hb, h4.below hb, h5.trans (hb.mono h5.size)⟩
theorem zat_first (w : World) (st : Int) (v : Value) (l : List Fld) (b : ByteArray) (h : Flds.Is w v l) (hE : EnvS w) : ZAt w st v l b (w.alloc (.cells #[.int .i64 st, v, .string b] 35)) := by
  have hb0 : Below w.heap.size w (w.alloc (.cells #[.int .i64 st, v, .string b] 35)) := (Below.refl _ _).alloc (Nat.le_refl _) _
  have x0 := heap_alloc_new w (.cells #[.int .i64 st, v, .string b] 35)
  exact ⟨by rw [cell_of_row _ _ _ _ _ _ x0]; rfl, by rw [cell_of_row _ _ _ _ _ _ x0]; rfl, by rw [cell_of_row _ _ _ _ _ _ x0]; rfl, Recs.is_below h hb0, hE.below hb0, hb0⟩
set_option maxRecDepth 100000 in
set_option maxHeartbeats 4000000 in
theorem isFresh_impl (st : Int) (v : Value) (l : List Fld) (b : ByteArray) (asked came now : Int) (w : World) (h : Flds.Is w v l) (hl : Flds.bulk l ≤ 1048576) (hcm : came ≤ 9223372036854775807) (hnw : now ≤ 9223372036854775807) (hE : EnvS w) :
    Calls Tryz.prog 20 #[Resp.val st v b, .int .i64 asked, .int .i64 came, .int .i64 now] w fun e w' => e = .returned (.bool (isFresh l asked came now)) ∧ Below w.heap.size w w' := by
  have HF0 := Num.hide (zat_first w st v l b h hE)
  have HLf := Num.hide (fun W h hE => lifetime_impl st v l b W h hl hE)
  have HAg := Num.hide (fun W h (hE : EnvS W) => ageAt_impl st v l b asked came now W h hl hcm hnw hE.1)
  obtain ⟨av, cv, rfl, _⟩ := Flds.is_form h
  obtain ⟨r, hr⟩ : ∃ r, isFresh l asked came now = r := ⟨_, rfl⟩
  rw [hr]
  unfold isFresh at hr
  generalize lifetime l = L at HLf hr
  generalize ageAt l asked came now = A at HAg hr
  have HR := Num.hide hr
  unfold Resp.val at HLf HAg ⊢
  clear h hr hE
  go_enter Tryz.func20, Tryz.ntmps20
  go_upto_region 1 with fail
  generalize w.alloc (.cells #[.int .i64 st, .slice av l.length cv, .string b] 35) = w0 at HF0 ⊢
  have HF1 := Num.hide (HF0.out.step (Below.refl w0.heap.size w0).drew)
  clear HF0
  go_wp2
  refine wp_region_held_drew (S := ZAt w st (.slice av l.length cv) l b) (by kernel_rfl) HF1.out (fun hHeld => ?_)
  refine Reg.take (i := 0) (d := 9) (v := ?_) rfl rfl (by kernel_rfl) (by kernel_rfl) (by kernel_rfl) (fun _ _ _ h => h) (by rfl) ?_ hHeld ?_
  rotate_left
  · rintro W ⟨h1, h2, h3, h4, h5, h6⟩
    first | (go_simp; done) | (go_simp; with_reducible rfl)
  simp only [Act.put, List.setIfInBounds_toArray, List.set_cons_zero, List.set_cons_succ]
  refine Reg.take (i := 2) (d := 11) (v := ?_) rfl rfl (by kernel_rfl) (by kernel_rfl) (by kernel_rfl) (fun _ _ _ h => h) (by rfl) ?_ hHeld ?_
  rotate_left
  · rintro W ⟨h1, h2, h3, h4, h5, h6⟩
    first | (go_simp; done) | (go_simp; with_reducible rfl)
  simp only [Act.put, List.setIfInBounds_toArray, List.set_cons_zero, List.set_cons_succ]
  refine Reg.take (i := 3) (d := 12) (v := ?_) rfl rfl (by kernel_rfl) (by kernel_rfl) (by kernel_rfl) (fun _ _ _ h => h) (by rfl) ?_ hHeld ?_
  rotate_left
  · rintro W ⟨h1, h2, h3, h4, h5, h6⟩
    first | (go_simp; done) | (go_simp; with_reducible rfl)
  simp only [Act.put, List.setIfInBounds_toArray, List.set_cons_zero, List.set_cons_succ]
  refine Reg.take (i := 4) (d := 13) (v := ?_) rfl rfl (by kernel_rfl) (by kernel_rfl) (by kernel_rfl) (fun _ _ _ h => h) (by rfl) ?_ hHeld ?_
  rotate_left
  · rintro W ⟨h1, h2, h3, h4, h5, h6⟩
    first | (go_simp; done) | (go_simp; with_reducible rfl)
  simp only [Act.put, List.setIfInBounds_toArray, List.set_cons_zero, List.set_cons_succ]
  refine Reg.take (i := 5) (d := 14) (v := ?_) rfl rfl (by kernel_rfl) (by kernel_rfl) (by kernel_rfl) (fun _ _ _ h => h) (by rfl) ?_ hHeld ?_
  rotate_left
  · rintro W ⟨h1, h2, h3, h4, h5, h6⟩
    first | (go_simp; done) | (go_simp; with_reducible rfl)
  simp only [Act.put, List.setIfInBounds_toArray, List.set_cons_zero, List.set_cons_succ]
  refine Reg.call (i := 1) rfl (by kernel_rfl) (by rfl) (fun K hK => ?_)
  go_wp2_with (first | (go_at_call 41; refine (HLf.out _ hHeld.2.2.2.1 hHeld.2.2.2.2.1).mono ?_; rintro e w2 ⟨rfl, hb2⟩))
  refine hK.out _ _ ?_ (fun hHeld2 => ?_)
  · exact hHeld.step hb2
  clear hK K
  replace hHeld := hHeld2
  clear hHeld2
  refine Reg.call (i := 6) rfl (by kernel_rfl) (by rfl) (fun K hK => ?_)
  go_wp2_with (first | (go_at_call 35; refine (HAg.out _ hHeld.2.2.2.1 hHeld.2.2.2.2.1).mono ?_; rintro e w3 ⟨rfl, hb3⟩))
  refine hK.out _ _ ?_ (fun hHeld2 => ?_)
  · exact hHeld.step hb3
  clear hK K
  replace hHeld := hHeld2
  clear hHeld2
  refine Reg.take (i := 7) (d := 16) (v := ?_) rfl rfl (by kernel_rfl) (by kernel_rfl) (by kernel_rfl) (fun _ _ _ h => h) (by rfl) ?_ hHeld ?_
  rotate_left
  · rintro W ⟨h1, h2, h3, h4, h5, h6⟩
    first | (go_simp; done) | (go_simp; with_reducible rfl)
  simp only [Act.put, List.setIfInBounds_toArray, List.set_cons_zero, List.set_cons_succ]
  refine Reg.take (i := 8) (d := 8) (v := ?_) rfl rfl (by kernel_rfl) (by kernel_rfl) (by kernel_rfl) (fun _ _ _ h => h) (by rfl) ?_ hHeld ?_
  rotate_left
  · rintro W ⟨h1, h2, h3, h4, h5, h6⟩
    first | (go_simp; done) | (go_simp; with_reducible rfl)
  simp only [Act.put, List.setIfInBounds_toArray, List.set_cons_zero, List.set_cons_succ]
  refine wpAnyH_done (by kernel_rfl) ?_ _
  have HB := Num.hide hHeld.2.2.2.2.2
  clear hHeld HF1
  go_wp2
  go_ret
  exact ⟨by rw [← HR.out]; rfl, HB.out⟩
end Age
end Go.Proofs.YtbcjpjhpobmpbaaGreatDoor
