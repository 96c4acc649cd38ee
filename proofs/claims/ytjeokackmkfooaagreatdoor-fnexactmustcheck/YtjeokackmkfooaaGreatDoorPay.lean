/-
  LifeSrcs: The list of the sources of a lifetime of the program.
  LifeRun: Lifetime of the program: the first source that says anything counts.
  MustCls: What forbids that what is stored is told: the closures of the program.
  AgeAtImpl: FirstAge and AgeAt of the program.
-/
import Derived.Test.YtjeokackmkfooaaGreatDoorPax
import Derived.Test.YtjeokackmkfooaaGreatDoorPag
import Derived.Deep.Cut
import Derived.LoopN
import Derived.Test.YtjeokackmkfooaaGreatDoorPad
import Derived.Test.YtjeokackmkfooaaGreatDoorPah
import Derived.Test.YtjeokackmkfooaaGreatDoorPao
import Derived.Test.YtjeokackmkfooaaGreatDoorPav
import Derived.Test.YtjeokackmkfooaaGreatDoorRegLaw
namespace Go.Proofs.YtjeokackmkfooaaGreatDoor
open Go.RowKit
set_option linter.unusedVariables false
set_option linter.unusedSimpArgs false
namespace Age
open Flds (Fld ret_int)

/-- a source, over what lies at g -/
abbrev srcV (f g : Nat) : Value := .func (.func f) #[] #[.pointer (some ⟨g, 0, none⟩)]
set_option maxRecDepth 100000 in
set_option maxHeartbeats 1000000 in
theorem sources_impl (a : Option Addr) (n c : Nat) (w : World) :
    Calls Tryz.prog 76 #[.slice a n c] w fun e w' => e = .returned (.slice (some ⟨w.heap.size + 1, 0, none⟩) 4 4) ∧ (∃ T, w'.heap[w.heap.size]? = some (.cells #[.slice a n c] T (0, 0))) ∧ (∃ T, w'.heap[w.heap.size + 1]? = some (.cells #[srcV 104 w.heap.size, srcV 105 w.heap.size, srcV 106 w.heap.size, srcV 108 w.heap.size] T (0, 0))) ∧ Below w.heap.size w w' := by
  have hmf : ∀ (fn : Fn) (first cap : Array Value) (w : World), (Instr.makeFunc fn first cap).run Tryz.prog w = .ok (.func fn first cap) w := fun _ _ _ _ => rfl
  go_enter Tryz.func76, Tryz.ntmps76
  go_wp2
  go_ret
  have e1 : ∀ o : Obj, (w.alloc o).heap.size = w.heap.size + 1 := fun o => by rw [World.size_alloc]
  refine ⟨rfl, ⟨24, ?_⟩, ⟨97, ?_⟩, ((Below.refl _ _).alloc (Nat.le_refl _) _).alloc (by rw [e1]; omega) _⟩
  · rw [heap_alloc_old _ _ (by rw [e1]; omega), heap_alloc_new]
  · rw [← e1 (.cells #[.slice a n c] 24), heap_alloc_new]
/-- the sources lie in a row, and what they are over in a box -/
abbrev SrcAt (w : World) (g : Nat) (v : Value) (l : List Fld) (W : World) : Prop :=
  W.cell? ⟨g, 0, none⟩ = some v ∧ W.cell? ⟨g + 1, 0, none⟩ = some (srcV 104 g) ∧ W.cell? ⟨g + 1, 1, none⟩ = some (srcV 105 g) ∧ W.cell? ⟨g + 1, 2, none⟩ = some (srcV 106 g) ∧ W.cell? ⟨g + 1, 3, none⟩ = some (srcV 108 g) ∧ Flds.Is W v l ∧ EnvS W ∧ Below w.heap.size w W
theorem SrcAt.step {w : World} {g : Nat} {v : Value} {l : List Fld} {W W' : World} (h : SrcAt w g v l W) (hb : Below W.heap.size W W') : SrcAt w g v l W' := by
  obtain ⟨h0, h1, h2, h3, h4, h5, h6, h7⟩ := h
  have l0 : g < W.heap.size := Recs.lt_of_cell h0
  have l1 : g + 1 < W.heap.size := Recs.lt_of_cell h1
  exact ⟨(hb.cell (p := ⟨g, 0, none⟩) l0).trans h0, (hb.cell (p := ⟨g + 1, 0, none⟩) l1).trans h1, (hb.cell (p := ⟨g + 1, 1, none⟩) l1).trans h2, (hb.cell (p := ⟨g + 1, 2, none⟩) l1).trans h3, (hb.cell (p := ⟨g + 1, 3, none⟩) l1).trans h4, Recs.is_below h5 hb, h6.below hb, h7.trans (hb.mono h7.size)⟩
end Age
end Go.Proofs.YtjeokackmkfooaaGreatDoor
namespace Go.Proofs.YtjeokackmkfooaaGreatDoor
open Go.RowKit
set_option linter.unusedVariables false
set_option linter.unusedSimpArgs false
namespace Age
open Flds (Fld ret_int)

set_option maxRecDepth 100000 in
set_option maxHeartbeats 4000000 in
theorem lifetime_impl (st : Int) (v : Value) (l : List Fld) (b : ByteArray) (w : World) (h : Flds.Is w v l) (hl : Flds.bulk l ≤ 1048576) (hE : EnvS w) :
    Calls Tryz.prog 30 #[Resp.val st v b] w fun e w' => e = .returned (.int .i64 (lifetime l)) ∧ Below w.heap.size w w' := by
  have hb0 : Below w.heap.size w (w.alloc (.cells #[.int .i64 st, v, .string b] 28)) := (Below.refl _ _).alloc (Nat.le_refl _) _
  have HI0 := Num.hide (Recs.is_below h hb0)
  have HE0 := Num.hide (hE.below hb0)
  have HB0 := Num.hide hb0
  obtain ⟨av, cv, rfl, _⟩ := Flds.is_form h
  have X0 := Num.hide (heap_alloc_new w (.cells #[.int .i64 st, .slice av l.length cv, .string b] 28))
  have H1 := Num.hide (fun p W hp h hE => src1_impl p (.slice av l.length cv) l W hp h hl hE)
  have H2 := Num.hide (fun p W hp h hE => src2_impl p (.slice av l.length cv) l W hp h hl hE)
  have H3 := Num.hide (fun p W hp h hE => src3_impl p (.slice av l.length cv) l W hp h hl hE)
  have H4 := Num.hide (fun p W hp h hE => src4_impl p (.slice av l.length cv) l W hp h hl hE)
  obtain ⟨r, hr⟩ : ∃ r, lifetime l = r := ⟨_, rfl⟩
  rw [hr]
  rw [lifetime_src] at hr
  generalize Cc.sec (Cc.dirs l) sMaxAge = S at H1 hr
  generalize Cc.sec (Cc.dirs l) maxAge = M at H2 hr
  generalize untilE l = U at H3 hr
  generalize partL l = P at H4 hr
  obtain ⟨S1, S2⟩ := S
  obtain ⟨M1, M2⟩ := M
  obtain ⟨U1, U2⟩ := U
  obtain ⟨P1, P2⟩ := P
  simp only at H1 H2 H3 H4 hr
  have HR := Num.hide hr
  have hent1 : ∀ args W, (callFunc 104 args).run Tryz.prog W = .ok (.enter 104 args) W := enters_of Tryz.func104 (by kernel_rfl) rfl
  have hent2 : ∀ args W, (callFunc 105 args).run Tryz.prog W = .ok (.enter 105 args) W := enters_of Tryz.func105 (by kernel_rfl) rfl
  have hent3 : ∀ args W, (callFunc 106 args).run Tryz.prog W = .ok (.enter 106 args) W := enters_of Tryz.func106 (by kernel_rfl) rfl
  have hent4 : ∀ args W, (callFunc 108 args).run Tryz.prog W = .ok (.enter 108 args) W := enters_of Tryz.func108 (by kernel_rfl) rfl
  unfold Resp.val
  clear h hb0 hr hE
  go_enter Tryz.func30, Tryz.ntmps30
  go_upto_region 1 with fail
  generalize w.alloc (.cells #[.int .i64 st, .slice av l.length cv, .string b] 28) = w0 at HI0 HE0 HB0 X0 ⊢
  have c1 : w0.cell? ⟨w.heap.size, 1, none⟩ = some (.slice av l.length cv) := Recs.box_cell X0.out 1
  go_wp2_with fail
  refine (sources_impl av l.length cv w0).mono ?_
  rintro e w1 ⟨rfl, ⟨T, hx⟩, ⟨T2, hy⟩, hb⟩
  have HS1 : Hid (SrcAt w w0.heap.size (.slice av l.length cv) l w1) := ⟨Recs.box_cell hx 0, Recs.box_cell hy 0, Recs.box_cell hy 1, Recs.box_cell hy 2, Recs.box_cell hy 3, Recs.is_below HI0.out hb, HE0.out.below hb, HB0.out.trans (hb.mono HB0.out.size)⟩
  clear hx hy hb X0 HI0 HE0 HB0 c1
  generalize w0.heap.size = g at HS1 ⊢
  clear w0
  obtain ⟨k0, k1, k2, k3, k4, -, -, -⟩ := HS1.out
  go_wp2_with fail
  refine wp_loop_rounds 5 ?_
  rw [rounds_succ]
  go_wp2_with fail
  refine (H1.out _ _ k0 HS1.out.2.2.2.2.2.1 HS1.out.2.2.2.2.2.2.1).mono ?_
  rintro e w2 ⟨rfl, hb⟩
  have HS2 := Num.hide (SrcAt.step HS1.out hb)
  clear hb k0 k1 k2 k3 k4 HS1 H1 hent1
  cases S2 with
  | true =>
    obtain rfl : S1 = r := by have := HR.out; simpa using this
    have HB := Num.hide HS2.out.2.2.2.2.2.2.2
    clear HS2 HR
    go_wp2
    go_ret
    exact ⟨rfl, HB.out⟩
  | false =>
  obtain ⟨k0, k1, k2, k3, k4, -, -, -⟩ := HS2.out
  have hr := HR.out
  rw [if_neg (by simp)] at hr
  clear HR
  have HR := Num.hide hr
  clear hr
  go_wp2_with fail
  rw [rounds_succ]
  go_wp2_with fail
  refine (H2.out _ _ k0 HS2.out.2.2.2.2.2.1 HS2.out.2.2.2.2.2.2.1).mono ?_
  rintro e w3 ⟨rfl, hb⟩
  have HS3 := Num.hide (SrcAt.step HS2.out hb)
  clear hb k0 k1 k2 k3 k4 HS2 H2 hent2
  cases M2 with
  | true =>
    obtain rfl : M1 = r := by have := HR.out; simpa using this
    have HB := Num.hide HS3.out.2.2.2.2.2.2.2
    clear HS3 HR
    go_wp2
    go_ret
    exact ⟨rfl, HB.out⟩
  | false =>
  obtain ⟨k0, k1, k2, k3, k4, -, -, -⟩ := HS3.out
  have hr := HR.out
  rw [if_neg (by simp)] at hr
  clear HR
  have HR := Num.hide hr
  clear hr
  go_wp2_with fail
  rw [rounds_succ]
  go_wp2_with fail
  refine (H3.out _ _ k0 HS3.out.2.2.2.2.2.1 HS3.out.2.2.2.2.2.2.1).mono ?_
  rintro e w4 ⟨rfl, hb⟩
  have HS4 := Num.hide (SrcAt.step HS3.out hb)
  clear hb k0 k1 k2 k3 k4 HS3 H3 hent3
  cases U2 with
  | true =>
    obtain rfl : U1 = r := by have := HR.out; simpa using this
    have HB := Num.hide HS4.out.2.2.2.2.2.2.2
    clear HS4 HR
    go_wp2
    go_ret
    exact ⟨rfl, HB.out⟩
  | false =>
  obtain ⟨k0, k1, k2, k3, k4, -, -, -⟩ := HS4.out
  have hr := HR.out
  rw [if_neg (by simp)] at hr
  clear HR
  have HR := Num.hide hr
  clear hr
  go_wp2_with fail
  rw [rounds_succ]
  go_wp2_with fail
  refine (H4.out _ _ k0 HS4.out.2.2.2.2.2.1 HS4.out.2.2.2.2.2.2.1).mono ?_
  rintro e w5 ⟨rfl, hb⟩
  have HS5 := Num.hide (SrcAt.step HS4.out hb)
  clear hb k0 k1 k2 k3 k4 HS4 H4 hent4
  cases P2 with
  | true =>
    obtain rfl : P1 = r := by have := HR.out; simpa using this
    have HB := Num.hide HS5.out.2.2.2.2.2.2.2
    clear HS5 HR
    go_wp2
    go_ret
    exact ⟨rfl, HB.out⟩
  | false =>
  obtain ⟨k0, k1, k2, k3, k4, -, -, -⟩ := HS5.out
  have hr := HR.out
  rw [if_neg (by simp)] at hr
  clear HR
  have HR := Num.hide hr
  clear hr
  go_wp2_with fail
  rw [rounds_succ]
  obtain rfl := HR.out
  have HB := Num.hide HS5.out.2.2.2.2.2.2.2
  clear HS5 HR k0 k1 k2 k3 k4
  go_wp2
  go_ret
  exact ⟨rfl, HB.out⟩
end Age
end Go.Proofs.YtjeokackmkfooaaGreatDoor
namespace Go.Proofs.YtjeokackmkfooaaGreatDoor
open Go.RowKit
set_option linter.unusedVariables false
set_option linter.unusedSimpArgs false
namespace Pol
open Flds (Fld)
open Age (EnvS sMaxAge maxAge expiresName ageAt lifetime satAdd)

/-- the boxes of the request, the answer, its age and its lifetime, and what the program's tables hold -/
abbrev MAt (w : World) (g h : Nat) (m u : ByteArray) (v1 : Value) (l1 : List Fld) (b1 : ByteArray) (st : Int) (v2 : Value) (l2 : List Fld) (b2 : ByteArray) (age lives : Int) (W : World) : Prop := (PAt w g m u v1 l1 b1 st v2 l2 b2 W ∧ EnvS W) ∧ W.cell? ⟨g + 2, 0, none⟩ = some (.int .i64 age) ∧ W.cell? ⟨h, 0, none⟩ = some (.int .i64 lives)
theorem MAt.step {w : World} {g h : Nat} {m u : ByteArray} {v1 : Value} {l1 : List Fld} {b1 : ByteArray} {st : Int} {v2 : Value} {l2 : List Fld} {b2 : ByteArray} {age lives : Int} {W W' : World} (h0 : MAt w g h m u v1 l1 b1 st v2 l2 b2 age lives W) (hb : Below W.heap.size W W') : MAt w g h m u v1 l1 b1 st v2 l2 b2 age lives W' :=
  ⟨⟨PAt.step h0.1.1 hb, h0.1.2.below hb⟩, (hb.cell (p := ⟨g + 2, 0, none⟩) (Recs.lt_of_cell h0.2.1)).trans h0.2.1, (hb.cell (p := ⟨h, 0, none⟩) (Recs.lt_of_cell h0.2.2)).trans h0.2.2⟩
theorem MAt.q {w : World} {g h : Nat} {m u : ByteArray} {v1 : Value} {l1 : List Fld} {b1 : ByteArray} {st : Int} {v2 : Value} {l2 : List Fld} {b2 : ByteArray} {age lives : Int} {W : World} (h0 : MAt w g h m u v1 l1 b1 st v2 l2 b2 age lives W) : Flds.Is W v1 l1 := h0.1.1.2.2.2.2.2.2.2.1
theorem MAt.r {w : World} {g h : Nat} {m u : ByteArray} {v1 : Value} {l1 : List Fld} {b1 : ByteArray} {st : Int} {v2 : Value} {l2 : List Fld} {b2 : ByteArray} {age lives : Int} {W : World} (h0 : MAt w g h m u v1 l1 b1 st v2 l2 b2 age lives W) : Flds.Is W v2 l2 := h0.1.1.2.2.2.2.2.2.2.2.1
set_option maxRecDepth 100000 in
set_option maxHeartbeats 1000000 in
theorem tooOld_impl (v : Value) (l : List Fld) (age : Int) (w : World) (h : Flds.Is w v l) (hl : Flds.bulk l ≤ 1048576) (hE : EnvS w) :
    Calls Tryz.prog 66 #[v, .int .i64 age] w fun e w' => e = .returned (.bool ((Cc.sec (Cc.dirs l) maxAge).2 && decide ((Cc.sec (Cc.dirs l) maxAge).1 < age))) ∧ Below w.heap.size w w' := by
  have HS := Num.hide (Cc.sec_impl v l maxAge w h hl (by decide) hE.1.2 hE.2)
  generalize Cc.sec (Cc.dirs l) maxAge = S at HS ⊢
  obtain ⟨S1, S2⟩ := S
  simp only at HS ⊢
  clear h hE
  go_enter Tryz.func66, Tryz.ntmps66
  go_wp2_with fail
  refine HS.out.mono ?_
  rintro e w1 ⟨rfl, hb⟩
  have HB := Num.hide hb
  clear hb
  cases S2 with
  | false =>
    go_wp2
    go_ret
    exact ⟨rfl, HB.out⟩
  | true =>
    go_wp2
    go_ret
    exact ⟨by simp, HB.out⟩
set_option maxRecDepth 100000 in
set_option maxHeartbeats 1000000 in
theorem tooSoon_impl (v : Value) (l : List Fld) (age lives : Int) (w : World) (h : Flds.Is w v l) (hl : Flds.bulk l ≤ 1048576) (hE : EnvS w) :
    Calls Tryz.prog 68 #[v, .int .i64 age, .int .i64 lives] w fun e w' => e = .returned (.bool ((Cc.sec (Cc.dirs l) minFresh).2 && decide (lives < satAdd age (Cc.sec (Cc.dirs l) minFresh).1))) ∧ Below w.heap.size w w' := by
  have HS := Num.hide (Cc.sec_impl v l minFresh w h hl (by decide) hE.1.2 hE.2)
  generalize Cc.sec (Cc.dirs l) minFresh = S at HS ⊢
  obtain ⟨S1, S2⟩ := S
  simp only at HS ⊢
  have HT := Num.hide (fun W => Age.satAdd_impl age S1 W)
  generalize satAdd age S1 = Z at HT ⊢
  clear h hE
  go_enter Tryz.func68, Tryz.ntmps68
  go_wp2_with fail
  refine HS.out.mono ?_
  rintro e w1 ⟨rfl, hb⟩
  have HB := Num.hide hb
  clear hb
  cases S2 with
  | false =>
    go_wp2
    go_ret
    exact ⟨rfl, HB.out⟩
  | true =>
    go_wp2_with fail
    refine (HT.out _).mono ?_
    rintro e w2 ⟨rfl, rfl⟩
    go_wp2
    go_ret
    exact ⟨by simp, HB.out⟩
set_option maxRecDepth 100000 in
set_option maxHeartbeats 1000000 in
theorem must1_impl (w : World) (g h : Nat) (m u : ByteArray) (v1 : Value) (l1 : List Fld) (b1 : ByteArray) (st : Int) (v2 : Value) (l2 : List Fld) (b2 : ByteArray) (age lives : Int) (W : World) (h0 : MAt w g h m u v1 l1 b1 st v2 l2 b2 age lives W) (hl1 : Flds.bulk l1 ≤ 1048576) (hl2 : Flds.bulk l2 ≤ 1048576) :
    Calls Tryz.prog 64 #[.pointer (some ⟨g, 0, none⟩), .pointer (some ⟨g + 1, 0, none⟩)] W fun e w' => e = .returned (.bool (said l1 noCache || said l2 noCache)) ∧ Below W.heap.size W w' := by
  have K := Num.hide h0
  have HA := Num.hide (Cc.has_impl v1 l1 noCache W h0.q hl1 (by decide) h0.1.2.1.2 h0.1.2.2)
  have HC := Num.hide (fun W (h0 : MAt w g h m u v1 l1 b1 st v2 l2 b2 age lives W) => Cc.has_impl v2 l2 noCache W h0.r (by omega) (by decide) h0.1.2.1.2 h0.1.2.2)
  unfold said
  generalize Cc.has (Cc.dirs l1) noCache = R1 at HA ⊢
  generalize Cc.has (Cc.dirs l2) noCache = R2 at HC ⊢
  obtain ⟨c0, c1, c2, c3, c4, c5, c6, -, -, -⟩ := K.out.1.1
  clear h0
  go_enter Tryz.func64, Tryz.ntmps64
  go_wp2_with fail
  refine HA.out.mono ?_
  rintro e w1 ⟨rfl, hb⟩
  have HB := Num.hide hb
  have K2 := Num.hide (MAt.step K.out hb)
  clear hb c0 c1 c2 c3 c4 c5 c6 K HA
  obtain ⟨c0, c1, c2, c3, c4, c5, c6, -, -, -⟩ := K2.out.1.1
  cases R1 with
  | true =>
    go_wp2
    go_ret
    exact ⟨rfl, HB.out⟩
  | false =>
    go_wp2_with fail
    refine (HC.out _ K2.out).mono ?_
    rintro e w2 ⟨rfl, hb⟩
    have HB2 := Num.hide (HB.out.trans (hb.mono HB.out.size))
    clear hb HB
    go_wp2
    go_ret
    exact ⟨rfl, HB2.out⟩
set_option maxRecDepth 100000 in
set_option maxHeartbeats 1000000 in
theorem must2_impl (w : World) (g h : Nat) (m u : ByteArray) (v1 : Value) (l1 : List Fld) (b1 : ByteArray) (st : Int) (v2 : Value) (l2 : List Fld) (b2 : ByteArray) (age lives : Int) (W : World) (h0 : MAt w g h m u v1 l1 b1 st v2 l2 b2 age lives W) (hl1 : Flds.bulk l1 ≤ 1048576) (hl2 : Flds.bulk l2 ≤ 1048576) :
    Calls Tryz.prog 65 #[.pointer (some ⟨g, 0, none⟩), .pointer (some ⟨g + 2, 0, none⟩)] W fun e w' => e = .returned (.bool ((Cc.sec (Cc.dirs l1) maxAge).2 && decide ((Cc.sec (Cc.dirs l1) maxAge).1 < age))) ∧ Below W.heap.size W w' := by
  have K := Num.hide h0
  have HA := Num.hide (tooOld_impl v1 l1 age W h0.q hl1 h0.1.2)
  obtain ⟨R1, hR1⟩ : ∃ R1, ((Cc.sec (Cc.dirs l1) maxAge).2 && decide ((Cc.sec (Cc.dirs l1) maxAge).1 < age)) = R1 := ⟨_, rfl⟩
  rw [hR1] at HA ⊢
  clear hR1
  obtain ⟨c0, c1, c2, c3, c4, c5, c6, -, -, -⟩ := K.out.1.1
  obtain ⟨-, k1, k2⟩ := K.out
  clear h0
  go_enter Tryz.func65, Tryz.ntmps65
  go_wp2_with fail
  refine HA.out.mono ?_
  rintro e w1 ⟨rfl, hb⟩
  have HB := Num.hide hb
  clear hb
  go_wp2
  go_ret
  exact ⟨rfl, HB.out⟩
set_option maxRecDepth 100000 in
set_option maxHeartbeats 1000000 in
theorem must3_impl (w : World) (g h : Nat) (m u : ByteArray) (v1 : Value) (l1 : List Fld) (b1 : ByteArray) (st : Int) (v2 : Value) (l2 : List Fld) (b2 : ByteArray) (age lives : Int) (W : World) (h0 : MAt w g h m u v1 l1 b1 st v2 l2 b2 age lives W) (hl1 : Flds.bulk l1 ≤ 1048576) (hl2 : Flds.bulk l2 ≤ 1048576) :
    Calls Tryz.prog 67 #[.pointer (some ⟨g, 0, none⟩), .pointer (some ⟨g + 2, 0, none⟩), .pointer (some ⟨h, 0, none⟩)] W fun e w' => e = .returned (.bool ((Cc.sec (Cc.dirs l1) minFresh).2 && decide (lives < satAdd age (Cc.sec (Cc.dirs l1) minFresh).1))) ∧ Below W.heap.size W w' := by
  have K := Num.hide h0
  have HA := Num.hide (tooSoon_impl v1 l1 age lives W h0.q hl1 h0.1.2)
  obtain ⟨R1, hR1⟩ : ∃ R1, ((Cc.sec (Cc.dirs l1) minFresh).2 && decide (lives < satAdd age (Cc.sec (Cc.dirs l1) minFresh).1)) = R1 := ⟨_, rfl⟩
  rw [hR1] at HA ⊢
  clear hR1
  obtain ⟨c0, c1, c2, c3, c4, c5, c6, -, -, -⟩ := K.out.1.1
  obtain ⟨-, k1, k2⟩ := K.out
  clear h0
  go_enter Tryz.func67, Tryz.ntmps67
  go_wp2_with fail
  refine HA.out.mono ?_
  rintro e w1 ⟨rfl, hb⟩
  have HB := Num.hide hb
  clear hb
  go_wp2
  go_ret
  exact ⟨rfl, HB.out⟩
set_option maxRecDepth 100000 in
set_option maxHeartbeats 1000000 in
theorem must4_impl (w : World) (g h : Nat) (m u : ByteArray) (v1 : Value) (l1 : List Fld) (b1 : ByteArray) (st : Int) (v2 : Value) (l2 : List Fld) (b2 : ByteArray) (age lives : Int) (W : World) (h0 : MAt w g h m u v1 l1 b1 st v2 l2 b2 age lives W) (hl1 : Flds.bulk l1 ≤ 1048576) (hl2 : Flds.bulk l2 ≤ 1048576) :
    Calls Tryz.prog 69 #[.pointer (some ⟨h, 0, none⟩), .pointer (some ⟨g + 2, 0, none⟩)] W fun e w' => e = .returned (.bool (decide (lives ≤ age))) ∧ Below W.heap.size W w' := by
  have K := Num.hide h0
  obtain ⟨c0, c1, c2, c3, c4, c5, c6, -, -, -⟩ := K.out.1.1
  obtain ⟨-, k1, k2⟩ := K.out
  clear h0
  go_enter Tryz.func69, Tryz.ntmps69
  go_wp2
  go_ret
  exact ⟨rfl, Below.refl _ _⟩
theorem must_bars (l1 l2 : List Fld) (asked came now age lives : Int) (ha : ageAt l2 asked came now = age) (hv : lifetime l2 = lives) : mustCheck l1 l2 asked came now = ((said l1 noCache || said l2 noCache) || ((Cc.sec (Cc.dirs l1) maxAge).2 && decide ((Cc.sec (Cc.dirs l1) maxAge).1 < age)) || ((Cc.sec (Cc.dirs l1) minFresh).2 && decide (lives < satAdd age (Cc.sec (Cc.dirs l1) minFresh).1)) || decide (lives ≤ age)) := by
  unfold mustCheck tooOld tooStale
  rw [ha, hv]
end Pol
end Go.Proofs.YtjeokackmkfooaaGreatDoor
namespace Go.Proofs.YtjeokackmkfooaaGreatDoor
open Go.RowKit
set_option linter.unusedVariables false
set_option linter.unusedSimpArgs false
namespace Age
open Flds (Fld ret_int)

/-- the answer's box, cell by cell, and the library's variables -/
abbrev EAt (w : World) (st : Int) (v : Value) (l : List Fld) (b : ByteArray) (W : World) : Prop :=
  W.cell? ⟨w.heap.size, 0, none⟩ = some (.int .i64 st) ∧ W.cell? ⟨w.heap.size, 1, none⟩ = some v ∧ W.cell? ⟨w.heap.size, 2, none⟩ = some (.string b) ∧ Flds.Is W v l ∧ Env W ∧ Below w.heap.size w W
theorem EAt.step {w : World} {st : Int} {v : Value} {l : List Fld} {b : ByteArray} {W W' : World} (h : EAt w st v l b W) (hb : Below W.heap.size W W') : EAt w st v l b W' := by
  obtain ⟨h0, h1, h2, h3, h4, h5⟩ := h
  have hlt : w.heap.size < W.heap.size := Recs.lt_of_cell h0
  exact ⟨(hb.cell (p := ⟨w.heap.size, 0, none⟩) hlt).trans h0, (hb.cell (p := ⟨w.heap.size, 1, none⟩) hlt).trans h1, (hb.cell (p := ⟨w.heap.size, 2, none⟩) hlt).trans h2, Recs.is_below h3 hb, h4.below hb, h5.trans (hb.mono h5.size)⟩
theorem eat_first (w : World) (st : Int) (v : Value) (l : List Fld) (b : ByteArray) (h : Flds.Is w v l) (hE : Env w) : EAt w st v l b (w.alloc (.cells #[.int .i64 st, v, .string b] 28)) := by
  have hb0 : Below w.heap.size w (w.alloc (.cells #[.int .i64 st, v, .string b] 28)) := (Below.refl _ _).alloc (Nat.le_refl _) _
  have x0 := heap_alloc_new w (.cells #[.int .i64 st, v, .string b] 28)
  exact ⟨by rw [cell_of_row _ _ _ _ _ _ x0]; rfl, by rw [cell_of_row _ _ _ _ _ _ x0]; rfl, by rw [cell_of_row _ _ _ _ _ _ x0]; rfl, Recs.is_below h hb0, hE.below hb0, hb0⟩
set_option maxRecDepth 100000 in
set_option maxHeartbeats 4000000 in
theorem firstAge_impl (st : Int) (v : Value) (l : List Fld) (b : ByteArray) (asked came : Int) (w : World) (h : Flds.Is w v l) (hl : Flds.bulk l ≤ 1048576) (hcm : came ≤ 9223372036854775807) (hE : Env w) :
    Calls Tryz.prog 71 #[Resp.val st v b, .int .i64 asked, .int .i64 came] w fun e w' => e = .returned (.int .i64 (firstAge l asked came)) ∧ Below w.heap.size w w' := by
  have HF0 := Num.hide (eat_first w st v l b h hE)
  have HDt := Num.hide (fun W h hE => byDate_impl v l came W h hl hcm hE)
  have HFl := Num.hide (fun W h => byField_impl v l asked came W h hl hcm)
  obtain ⟨av, cv, rfl, _⟩ := Flds.is_form h
  obtain ⟨r, hr⟩ : ∃ r, firstAge l asked came = r := ⟨_, rfl⟩
  rw [hr]
  unfold firstAge at hr
  generalize apparent l came = A at HDt hr
  generalize satAdd (told l) (delay asked came) = S at HFl hr
  have HR := Num.hide hr
  unfold Resp.val
  clear h hr hE
  go_enter Tryz.func71, Tryz.ntmps71
  go_upto_region 1 with fail
  generalize w.alloc (.cells #[.int .i64 st, .slice av l.length cv, .string b] 28) = w0 at HF0 ⊢
  have HF1 := Num.hide (HF0.out.step (Below.refl w0.heap.size w0).drew)
  clear HF0
  go_wp2
  refine wp_region_held_drew (S := EAt w st (.slice av l.length cv) l b) (by kernel_rfl) HF1.out (fun hHeld => ?_)
  refine Reg.take (i := 0) (d := 7) (v := ?_) rfl rfl (by kernel_rfl) (by kernel_rfl) (by kernel_rfl) (fun _ _ _ h => h) (by rfl) ?_ hHeld ?_
  rotate_left
  · rintro W ⟨h1, h2, h3, h4, h5, h6⟩
    first | (go_simp; done) | (go_simp; with_reducible rfl)
  simp only [Act.put, List.setIfInBounds_toArray, List.set_cons_zero, List.set_cons_succ]
  refine Reg.take (i := 1) (d := 8) (v := ?_) rfl rfl (by kernel_rfl) (by kernel_rfl) (by kernel_rfl) (fun _ _ _ h => h) (by rfl) ?_ hHeld ?_
  rotate_left
  · rintro W ⟨h1, h2, h3, h4, h5, h6⟩
    first | (go_simp; done) | (go_simp; with_reducible rfl)
  simp only [Act.put, List.setIfInBounds_toArray, List.set_cons_zero, List.set_cons_succ]
  refine Reg.take (i := 2) (d := 9) (v := ?_) rfl rfl (by kernel_rfl) (by kernel_rfl) (by kernel_rfl) (fun _ _ _ h => h) (by rfl) ?_ hHeld ?_
  rotate_left
  · rintro W ⟨h1, h2, h3, h4, h5, h6⟩
    first | (go_simp; done) | (go_simp; with_reducible rfl)
  simp only [Act.put, List.setIfInBounds_toArray, List.set_cons_zero, List.set_cons_succ]
  refine Reg.take (i := 4) (d := 11) (v := ?_) rfl rfl (by kernel_rfl) (by kernel_rfl) (by kernel_rfl) (fun _ _ _ h => h) (by rfl) ?_ hHeld ?_
  rotate_left
  · rintro W ⟨h1, h2, h3, h4, h5, h6⟩
    first | (go_simp; done) | (go_simp; with_reducible rfl)
  simp only [Act.put, List.setIfInBounds_toArray, List.set_cons_zero, List.set_cons_succ]
  refine Reg.take (i := 5) (d := 12) (v := ?_) rfl rfl (by kernel_rfl) (by kernel_rfl) (by kernel_rfl) (fun _ _ _ h => h) (by rfl) ?_ hHeld ?_
  rotate_left
  · rintro W ⟨h1, h2, h3, h4, h5, h6⟩
    first | (go_simp; done) | (go_simp; with_reducible rfl)
  simp only [Act.put, List.setIfInBounds_toArray, List.set_cons_zero, List.set_cons_succ]
  refine Reg.take (i := 6) (d := 13) (v := ?_) rfl rfl (by kernel_rfl) (by kernel_rfl) (by kernel_rfl) (fun _ _ _ h => h) (by rfl) ?_ hHeld ?_
  rotate_left
  · rintro W ⟨h1, h2, h3, h4, h5, h6⟩
    first | (go_simp; done) | (go_simp; with_reducible rfl)
  simp only [Act.put, List.setIfInBounds_toArray, List.set_cons_zero, List.set_cons_succ]
  refine Reg.take (i := 7) (d := 14) (v := ?_) rfl rfl (by kernel_rfl) (by kernel_rfl) (by kernel_rfl) (fun _ _ _ h => h) (by rfl) ?_ hHeld ?_
  rotate_left
  · rintro W ⟨h1, h2, h3, h4, h5, h6⟩
    first | (go_simp; done) | (go_simp; with_reducible rfl)
  simp only [Act.put, List.setIfInBounds_toArray, List.set_cons_zero, List.set_cons_succ]
  refine Reg.call (i := 3) rfl (by kernel_rfl) (by rfl) (fun K hK => ?_)
  go_wp2_with (first | (go_at_call 101; refine (HDt.out _ hHeld.2.2.2.1 hHeld.2.2.2.2.1).mono ?_; rintro e w2 ⟨rfl, hb2⟩))
  refine hK.out _ _ ?_ (fun hHeld2 => ?_)
  · exact hHeld.step hb2
  clear hK K
  replace hHeld := hHeld2
  clear hHeld2
  refine Reg.call (i := 8) rfl (by kernel_rfl) (by rfl) (fun K hK => ?_)
  go_wp2_with (first | (go_at_call 102; refine (HFl.out _ hHeld.2.2.2.1).mono ?_; rintro e w3 ⟨rfl, hb3⟩))
  refine hK.out _ _ ?_ (fun hHeld2 => ?_)
  · exact hHeld.step hb3
  clear hK K
  replace hHeld := hHeld2
  clear hHeld2
  refine Reg.take (i := 9) (d := 16) (v := ?_) rfl rfl (by kernel_rfl) (by kernel_rfl) (by kernel_rfl) (fun _ _ _ h => h) (by rfl) ?_ hHeld ?_
  rotate_left
  · rintro W ⟨h1, h2, h3, h4, h5, h6⟩
    first | (go_simp; done) | (go_simp; with_reducible rfl)
  simp only [Act.put, List.setIfInBounds_toArray, List.set_cons_zero, List.set_cons_succ]
  refine Reg.take (i := 10) (d := 6) (v := ?_) rfl rfl (by kernel_rfl) (by kernel_rfl) (by kernel_rfl) (fun _ _ _ h => h) (by rfl) ?_ hHeld ?_
  rotate_left
  · rintro W ⟨h1, h2, h3, h4, h5, h6⟩
    first | (go_simp; done) | (go_simp; with_reducible rfl)
  simp only [Act.put, List.setIfInBounds_toArray, List.set_cons_zero, List.set_cons_succ]
  refine wpAnyH_done (by kernel_rfl) ?_ _
  have HB := Num.hide hHeld.2.2.2.2.2
  clear hHeld HF1
  go_wp2
  go_ret
  exact ⟨ret_int (by first | rfl | (have := HR.out; split <;> omega) | (have := HR.out; omega)), HB.out⟩
set_option maxRecDepth 100000 in
set_option maxHeartbeats 2000000 in
theorem ageAt_impl (st : Int) (v : Value) (l : List Fld) (b : ByteArray) (asked came now : Int) (w : World) (h : Flds.Is w v l) (hl : Flds.bulk l ≤ 1048576) (hcm : came ≤ 9223372036854775807) (hnw : now ≤ 9223372036854775807) (hE : Env w) :
    Calls Tryz.prog 28 #[Resp.val st v b, .int .i64 asked, .int .i64 came, .int .i64 now] w fun e w' => e = .returned (.int .i64 (ageAt l asked came now)) ∧ Below w.heap.size w w' := by
  have HF0 := Num.hide (eat_first w st v l b h hE)
  have HFi := Num.hide (fun W h hE => firstAge_impl st v l b asked came W h hl hcm hE)
  obtain ⟨av, cv, rfl, _⟩ := Flds.is_form h
  unfold ageAt
  generalize firstAge l asked came = A at HFi ⊢
  rw [← later_here]
  have HL := Num.hide (fun W => later_impl came now W hnw)
  generalize later came now = L at HL ⊢
  have HS := Num.hide (fun W => satAdd_impl A L W)
  generalize satAdd A L = r at HS ⊢
  unfold Resp.val at HFi ⊢
  clear h hE
  go_enter Tryz.func28, Tryz.ntmps28
  go_upto_region 1 with fail
  generalize w.alloc (.cells #[.int .i64 st, .slice av l.length cv, .string b] 28) = w0 at HF0 ⊢
  obtain ⟨c0, c1, c2, _, _, _⟩ := HF0.out
  go_wp2_with fail
  refine (HFi.out _ HF0.out.2.2.2.1 HF0.out.2.2.2.2.1).mono ?_
  rintro e w1 ⟨rfl, hb⟩
  have HB := Num.hide (HF0.out.2.2.2.2.2.trans (hb.mono HF0.out.2.2.2.2.2.size))
  clear hb c0 c1 c2 HF0 HFi
  go_wp2_with fail
  refine (HL.out _).mono ?_
  rintro e w2 ⟨rfl, rfl⟩
  go_wp2_with fail
  refine (HS.out _).mono ?_
  rintro e w3 ⟨rfl, rfl⟩
  go_wp2
  go_ret
  exact ⟨rfl, HB.out⟩
end Age
end Go.Proofs.YtjeokackmkfooaaGreatDoor
