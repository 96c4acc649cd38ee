/-
  LifeSrcs: The list of the sources of a lifetime of the program.
  LifeRun: Lifetime of the program: the first source that says anything counts.
  RespOpen: A response that came in, as the law's argument: what it reads as.
-/
import Derived.Test.YtihiljickefanaaGreatDoorPba
import Derived.Test.YtihiljickefanaaGreatDoorPag
import Derived.Deep.Cut
import Derived.LoopN
import Derived.Test.YtihiljickefanaaGreatDoorPan
import Derived.Deep.Strs
namespace Go.Proofs.YtihiljickefanaaGreatDoor
open Go.RowKit
set_option linter.unusedVariables false
set_option linter.unusedSimpArgs false
namespace Age
open Flds (Fld ret_int)

/-- a source, over what lies at g -/
abbrev srcV (f g : Nat) : Value := .func (.func f) #[] #[.pointer (some ⟨g, 0, none⟩)]
set_option maxRecDepth 100000 in
set_option maxHeartbeats 1000000 in
theorem sources_impl (a : Option Addr) (n c : Nat) (w : World) :
    Calls Tryz.prog 27 #[.slice a n c] w fun e w' => e = .returned (.slice (some ⟨w.heap.size + 1, 0, none⟩) 4 4) ∧ (∃ T, w'.heap[w.heap.size]? = some (.cells #[.slice a n c] T (0, 0))) ∧ (∃ T, w'.heap[w.heap.size + 1]? = some (.cells #[srcV 45 w.heap.size, srcV 47 w.heap.size, srcV 48 w.heap.size, srcV 50 w.heap.size] T (0, 0))) ∧ Below w.heap.size w w' := by
  have hmf : ∀ (fn : Fn) (first cap : Array Value) (w : World), (Instr.makeFunc fn first cap).run Tryz.prog w = .ok (.func fn first cap) w := fun _ _ _ _ => rfl
  go_enter Tryz.func27, Tryz.ntmps27
  go_wp2
  go_ret
  have e1 : ∀ o : Obj, (w.alloc o).heap.size = w.heap.size + 1 := fun o => by rw [World.size_alloc]
  refine ⟨rfl, ⟨24, ?_⟩, ⟨56, ?_⟩, ((Below.refl _ _).alloc (Nat.le_refl _) _).alloc (by rw [e1]; omega) _⟩
  · rw [heap_alloc_old _ _ (by rw [e1]; omega), heap_alloc_new]
  · rw [← e1 (.cells #[.slice a n c] 24), heap_alloc_new]
/-- the sources lie in a row, and what they are over in a box -/
abbrev SrcAt (w : World) (g : Nat) (v : Value) (l : List Fld) (W : World) : Prop :=
  W.cell? ⟨g, 0, none⟩ = some v ∧ W.cell? ⟨g + 1, 0, none⟩ = some (srcV 45 g) ∧ W.cell? ⟨g + 1, 1, none⟩ = some (srcV 47 g) ∧ W.cell? ⟨g + 1, 2, none⟩ = some (srcV 48 g) ∧ W.cell? ⟨g + 1, 3, none⟩ = some (srcV 50 g) ∧ Flds.Is W v l ∧ EnvS W ∧ Below w.heap.size w W
theorem SrcAt.step {w : World} {g : Nat} {v : Value} {l : List Fld} {W W' : World} (h : SrcAt w g v l W) (hb : Below W.heap.size W W') : SrcAt w g v l W' := by
  obtain ⟨h0, h1, h2, h3, h4, h5, h6, h7⟩ := h
  have l0 : g < W.heap.size := Recs.lt_of_cell h0
  have l1 : g + 1 < W.heap.size := Recs.lt_of_cell h1
  exact ⟨(hb.cell (p := ⟨g, 0, none⟩) l0).trans h0, (hb.cell (p := ⟨g + 1, 0, none⟩) l1).trans h1, (hb.cell (p := ⟨g + 1, 1, none⟩) l1).trans h2, (hb.cell (p := ⟨g + 1, 2, none⟩) l1).trans h3, (hb.cell (p := ⟨g + 1, 3, none⟩) l1).trans h4, Recs.is_below h5 hb, h6.below hb, h7.trans (hb.mono h7.size)⟩
end Age
end Go.Proofs.YtihiljickefanaaGreatDoor
namespace Go.Proofs.YtihiljickefanaaGreatDoor
open Go.RowKit
set_option linter.unusedVariables false
set_option linter.unusedSimpArgs false
namespace Age
open Flds (Fld ret_int)

set_option maxRecDepth 100000 in
set_option maxHeartbeats 4000000 in
theorem lifetime_impl (st : Int) (v : Value) (l : List Fld) (b : ByteArray) (w : World) (h : Flds.Is w v l) (hl : Flds.bulk l ≤ 1048576) (hE : EnvS w) :
    Calls Tryz.prog 11 #[Resp.val st v b] w fun e w' => e = .returned (.int .i64 (lifetime l)) ∧ Below w.heap.size w w' := by
  have hb0 : Below w.heap.size w (w.alloc (.cells #[.int .i64 st, v, .string b] 26)) := (Below.refl _ _).alloc (Nat.le_refl _) _
  have HI0 := Num.hide (Recs.is_below h hb0)
  have HE0 := Num.hide (hE.below hb0)
  have HB0 := Num.hide hb0
  obtain ⟨av, cv, rfl, _⟩ := Flds.is_form h
  have X0 := Num.hide (heap_alloc_new w (.cells #[.int .i64 st, .slice av l.length cv, .string b] 26))
  have H1 := Num.hide (fun p W hp h hE => src1_impl p (.slice av l.length cv) l W hp h hl hE)
  have H2 := Num.hide (fun p W hp h hE => src2_impl p (.slice av l.length cv) l W hp h hl hE)
  have H3 := Num.hide (fun p W hp h hE => src3_impl p (.slice av l.length cv) l W hp h hl hE)
  have H4 := Num.hide (fun p W hp h hE => src4_impl p (.slice av l.length cv) l W hp h hl hE)
  obtain ⟨r, hr⟩ : ∃ r, lifetime l = r := ⟨_, rfl⟩
  rw [hr]
  rw [lifetime_src] at hr
  generalize Cc.sec (Cc.dirs l) sMaxAge = S at H1 hr
  generalize Cc.sec (Cc.dirs l) maxAge = M at H2 hr
  generalize untilE l = U at H3 hr
  generalize partL l = P at H4 hr
  obtain ⟨S1, S2⟩ := S
  obtain ⟨M1, M2⟩ := M
  obtain ⟨U1, U2⟩ := U
  obtain ⟨P1, P2⟩ := P
  simp only at H1 H2 H3 H4 hr
  have HR := Num.hide hr
  have hent1 : ∀ args W, (callFunc 45 args).run Tryz.prog W = .ok (.enter 45 args) W := enters_of Tryz.func45 (by kernel_rfl) rfl
  have hent2 : ∀ args W, (callFunc 47 args).run Tryz.prog W = .ok (.enter 47 args) W := enters_of Tryz.func47 (by kernel_rfl) rfl
  have hent3 : ∀ args W, (callFunc 48 args).run Tryz.prog W = .ok (.enter 48 args) W := enters_of Tryz.func48 (by kernel_rfl) rfl
  have hent4 : ∀ args W, (callFunc 50 args).run Tryz.prog W = .ok (.enter 50 args) W := enters_of Tryz.func50 (by kernel_rfl) rfl
  unfold Resp.val
  clear h hb0 hr hE
  go_enter Tryz.func11, Tryz.ntmps11
  go_upto_region 1 with fail
  generalize w.alloc (.cells #[.int .i64 st, .slice av l.length cv, .string b] 26) = w0 at HI0 HE0 HB0 X0 ⊢
  have c1 : w0.cell? ⟨w.heap.size, 1, none⟩ = some (.slice av l.length cv) := Recs.box_cell X0.out 1
  go_wp2_with fail
  refine (sources_impl av l.length cv w0).mono ?_
  rintro e w1 ⟨rfl, ⟨T, hx⟩, ⟨T2, hy⟩, hb⟩
  have HS1 : Hid (SrcAt w w0.heap.size (.slice av l.length cv) l w1) := ⟨Recs.box_cell hx 0, Recs.box_cell hy 0, Recs.box_cell hy 1, Recs.box_cell hy 2, Recs.box_cell hy 3, Recs.is_below HI0.out hb, HE0.out.below hb, HB0.out.trans (hb.mono HB0.out.size)⟩
  clear hx hy hb X0 HI0 HE0 HB0 c1
  generalize w0.heap.size = g at HS1 ⊢
  clear w0
  obtain ⟨k0, k1, k2, k3, k4, -, -, -⟩ := HS1.out
  go_wp2_with fail
  refine wp_loop_rounds 5 ?_
  rw [rounds_succ]
  go_wp2_with fail
  refine (H1.out _ _ k0 HS1.out.2.2.2.2.2.1 HS1.out.2.2.2.2.2.2.1).mono ?_
  rintro e w2 ⟨rfl, hb⟩
  have HS2 := Num.hide (SrcAt.step HS1.out hb)
  clear hb k0 k1 k2 k3 k4 HS1 H1 hent1
  cases S2 with
  | true =>
    obtain rfl : S1 = r := by have := HR.out; simpa using this
    have HB := Num.hide HS2.out.2.2.2.2.2.2.2
    clear HS2 HR
    go_wp2
    go_ret
    exact ⟨rfl, HB.out⟩
  | false =>
  obtain ⟨k0, k1, k2, k3, k4, -, -, -⟩ := HS2.out
  have hr := HR.out
  rw [if_neg (by simp)] at hr
  clear HR
  have HR := Num.hide hr
  clear hr
  go_wp2_with fail
  rw [rounds_succ]
  go_wp2_with fail
  refine (H2.out _ _ k0 HS2.out.2.2.2.2.2.1 HS2.out.2.2.2.2.2.2.1).mono ?_
  rintro e w3 ⟨rfl, hb⟩
  have HS3 := Num.hide (SrcAt.step HS2.out hb)
  clear hb k0 k1 k2 k3 k4 HS2 H2 hent2
  cases M2 with
  | true =>
    obtain rfl : M1 = r := by have := HR.out; simpa using this
    have HB := Num.hide HS3.out.2.2.2.2.2.2.2
    clear HS3 HR
    go_wp2
    go_ret
    exact ⟨rfl, HB.out⟩
  | false =>
  obtain ⟨k0, k1, k2, k3, k4, -, -, -⟩ := HS3.out
  have hr := HR.out
  rw [if_neg (by simp)] at hr
  clear HR
  have HR := Num.hide hr
  clear hr
  go_wp2_with fail
  rw [rounds_succ]
  go_wp2_with fail
  refine (H3.out _ _ k0 HS3.out.2.2.2.2.2.1 HS3.out.2.2.2.2.2.2.1).mono ?_
  rintro e w4 ⟨rfl, hb⟩
  have HS4 := Num.hide (SrcAt.step HS3.out hb)
  clear hb k0 k1 k2 k3 k4 HS3 H3 hent3
  cases U2 with
  | true =>
    obtain rfl : U1 = r := by have := HR.out; simpa using this
    have HB := Num.hide HS4.out.2.2.2.2.2.2.2
    clear HS4 HR
    go_wp2
    go_ret
    exact ⟨rfl, HB.out⟩
  | false =>
  obtain ⟨k0, k1, k2, k3, k4, -, -, -⟩ := HS4.out
  have hr := HR.out
  rw [if_neg (by simp)] at hr
  clear HR
  have HR := Num.hide hr
  clear hr
  go_wp2_with fail
  rw [rounds_succ]
  go_wp2_with fail
  refine (H4.out _ _ k0 HS4.out.2.2.2.2.2.1 HS4.out.2.2.2.2.2.2.1).mono ?_
  rintro e w5 ⟨rfl, hb⟩
  have HS5 := Num.hide (SrcAt.step HS4.out hb)
  clear hb k0 k1 k2 k3 k4 HS4 H4 hent4
  cases P2 with
  | true =>
    obtain rfl : P1 = r := by have := HR.out; simpa using this
    have HB := Num.hide HS5.out.2.2.2.2.2.2.2
    clear HS5 HR
    go_wp2
    go_ret
    exact ⟨rfl, HB.out⟩
  | false =>
  obtain ⟨k0, k1, k2, k3, k4, -, -, -⟩ := HS5.out
  have hr := HR.out
  rw [if_neg (by simp)] at hr
  clear HR
  have HR := Num.hide hr
  clear hr
  go_wp2_with fail
  rw [rounds_succ]
  obtain rfl := HR.out
  have HB := Num.hide HS5.out.2.2.2.2.2.2.2
  clear HS5 HR k0 k1 k2 k3 k4
  go_wp2
  go_ret
  exact ⟨rfl, HB.out⟩
end Age
end Go.Proofs.YtihiljickefanaaGreatDoor
namespace Go.Proofs.YtihiljickefanaaGreatDoor
open Go.ChangeShapes Go.WideShapes Go.ChangeAt Go.RowKit Go.Deep
set_option linter.unusedVariables false
namespace Resp

/-- what the walk is told of a response that came in -/
def Arg (w : World) (v : Value) (s : Int) (l : List Flds.Fld) (b : ByteArray) : Prop := ∃ u, v = val s u b ∧ Flds.Arg w u l ∧ b.size ≤ maxLen ∧ (Lit.int .i64 s).wf = true
theorem three {α : Type} {cs : Array α} (h : cs.size = 3) : ∃ c0 c1 c2, cs = #[c0, c1, c2] := by
  obtain ⟨l⟩ := cs
  match l, h with
  | [c0, c1, c2], _ => exact ⟨c0, c1, c2, rfl⟩
set_option maxRecDepth 100000 in
theorem opened {H : Type} {enc : TypeId × Value → H} {W : World} {base : Nat} {v : Value} {d : DataW H} {p : List MemPlace}
    (hok : Value.okWide Tryz.prog W .any base 39 v) (h : DataW.Trod enc Tryz.prog W 0 (fun _ => true) true 39 v d p) : ∃ s l b, Arg W v s l b := by
  obtain ⟨cs, rfl, hz⟩ := okWide_struct Tryz.underlying39 hok
  obtain ⟨fuel, hf⟩ := h
  obtain ⟨c0, c1, c2, rfl⟩ := three (hz.trans (by kernel_rfl))
  obtain ⟨y0, y1, y2, n, _, hl, h0, h1, h2⟩ := trod_struct3 Tryz.underlying39 hf
  have e0 : Tryz.prog.cellsOf 3 = 1 := by kernel_rfl
  have e1 : Tryz.prog.cellsOf 37 = 1 := by kernel_rfl
  have e2 : Tryz.prog.cellsOf 9 = 1 := by kernel_rfl
  simp only [Value.cells] at h0 h1 h2
  rw [e0] at h0
  rw [e1] at h1
  rw [e2] at h2
  simp only [List.drop_zero, List.drop_succ_cons, List.take_succ_cons, List.take_zero] at h0 h1 h2
  obtain ⟨a0, len0, cap0, l, hcs, hla⟩ := Flds.opened_cells h1
  obtain ⟨t, et, _, ht⟩ := DataW.trod_string Tryz.underlying9 h2
  obtain ⟨k, ek, _, hk⟩ := DataW.trod_int Tryz.underlying3 h0
  simp only [List.cons.injEq, and_true] at hcs et ek
  subst hcs et ek
  exact ⟨k, l, t, _, rfl, hla, ht, hk⟩
theorem arg_stay {C : Nat} {w w' : World} {v : Value} {s : Int} {l : List Flds.Fld} {b : ByteArray} (h : Arg w v s l b) (hC : w.heap.size ≤ C) (hb : Below C w w') : Arg w' v s l b := by
  obtain ⟨u, h1, h2, h3⟩ := h
  exact ⟨u, h1, Flds.arg_stay h2 hC hb, h3⟩
end Resp
end Go.Proofs.YtihiljickefanaaGreatDoor
