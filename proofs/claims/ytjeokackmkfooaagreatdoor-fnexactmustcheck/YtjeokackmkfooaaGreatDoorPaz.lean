/-
  MustRun: MustCheck of the program: the list of what forbids that it is told is gone through.
  DrawByte: The specification's cursor over the bytes of a draw: what a byte of it is, and what the cursor holds then.
  DrawLive: A cursor of the draws, in whatever state: what it tells is bounded; nothing but the cursor and new memory changes.
  DrawPick: l1Pick of the draws, of a cursor in whatever state.
-/
import Derived.Test.YtjeokackmkfooaaGreatDoorPay
import Derived.Test.YtjeokackmkfooaaGreatDoorRegLaw
import Derived.Deep.Cut
import Derived.LoopN
import Derived.FnLit
import Derived.Test.YtjeokackmkfooaaGreatDoorRows
import Derived.Test.YtjeokackmkfooaaGreatDoorNum
import Derived.WalkKit
import Derived.WalkLawsBesides
import Derived.Outline
import Derived.BigQuiet
import Derived.Deep.QuietTactic
namespace Go.Proofs.YtjeokackmkfooaaGreatDoor
open Go.RowKit
set_option linter.unusedVariables false
set_option linter.unusedSimpArgs false
namespace Pol
open Flds (Fld)
open Age (EnvS sMaxAge maxAge expiresName ageAt lifetime satAdd)

set_option maxRecDepth 100000 in
set_option maxHeartbeats 4000000 in
theorem must_allows (Q : World → Prop) (hQ : ∀ W W', Q W → Below W.heap.size W W' → Q W') (g a h : Nat) (B1 B2 B3 B4 : Bool)
    (hc1 : ∀ W, Q W → W.cell? ⟨a, 0, none⟩ = some (.func (.func 64) #[] #[.pointer (some ⟨g, 0, none⟩), .pointer (some ⟨g + 1, 0, none⟩)]))
    (hc2 : ∀ W, Q W → W.cell? ⟨a, 1, none⟩ = some (.func (.func 65) #[] #[.pointer (some ⟨g, 0, none⟩), .pointer (some ⟨g + 2, 0, none⟩)]))
    (hc3 : ∀ W, Q W → W.cell? ⟨a, 2, none⟩ = some (.func (.func 67) #[] #[.pointer (some ⟨g, 0, none⟩), .pointer (some ⟨g + 2, 0, none⟩), .pointer (some ⟨h, 0, none⟩)]))
    (hc4 : ∀ W, Q W → W.cell? ⟨a, 3, none⟩ = some (.func (.func 69) #[] #[.pointer (some ⟨h, 0, none⟩), .pointer (some ⟨g + 2, 0, none⟩)]))
    (h1 : ∀ W, Q W → Calls Tryz.prog 64 #[.pointer (some ⟨g, 0, none⟩), .pointer (some ⟨g + 1, 0, none⟩)] W fun e w' => e = .returned (.bool B1) ∧ Below W.heap.size W w')
    (h2 : ∀ W, Q W → Calls Tryz.prog 65 #[.pointer (some ⟨g, 0, none⟩), .pointer (some ⟨g + 2, 0, none⟩)] W fun e w' => e = .returned (.bool B2) ∧ Below W.heap.size W w')
    (h3 : ∀ W, Q W → Calls Tryz.prog 67 #[.pointer (some ⟨g, 0, none⟩), .pointer (some ⟨g + 2, 0, none⟩), .pointer (some ⟨h, 0, none⟩)] W fun e w' => e = .returned (.bool B3) ∧ Below W.heap.size W w')
    (h4 : ∀ W, Q W → Calls Tryz.prog 69 #[.pointer (some ⟨h, 0, none⟩), .pointer (some ⟨g + 2, 0, none⟩)] W fun e w' => e = .returned (.bool B4) ∧ Below W.heap.size W w')
    (w : World) (hq : Q w) :
    Calls Tryz.prog 26 #[.agg #[.slice (some ⟨a, 0, none⟩) 4 4]] w fun e w' => e = .returned (.bool (!(B1 || B2 || B3 || B4))) ∧ Below w.heap.size w w' := by
  have HC1 := Num.hide hc1
  have H1 := Num.hide h1
  have HC2 := Num.hide hc2
  have H2 := Num.hide h2
  have HC3 := Num.hide hc3
  have H3 := Num.hide h3
  have HC4 := Num.hide hc4
  have H4 := Num.hide h4
  have HQ := Num.hide hQ
  obtain ⟨r, hr⟩ : ∃ r, (!(B1 || B2 || B3 || B4)) = r := ⟨_, rfl⟩
  rw [hr]
  have HR := Num.hide hr
  have hb0 : Below w.heap.size w (w.alloc (.cells #[.slice (some ⟨a, 0, none⟩) 4 4] 58)) := (Below.refl _ _).alloc (Nat.le_refl _) _
  have HQ1 := Num.hide (hQ _ _ hq hb0)
  have HB1 := Num.hide hb0
  have X1 := Num.hide (heap_alloc_new w (.cells #[.slice (some ⟨a, 0, none⟩) 4 4] 58))
  have hent1 : ∀ args W, (callFunc 64 args).run Tryz.prog W = .ok (.enter 64 args) W := enters_of Tryz.func64 (by kernel_rfl) rfl
  have hent2 : ∀ args W, (callFunc 65 args).run Tryz.prog W = .ok (.enter 65 args) W := enters_of Tryz.func65 (by kernel_rfl) rfl
  have hent3 : ∀ args W, (callFunc 67 args).run Tryz.prog W = .ok (.enter 67 args) W := enters_of Tryz.func67 (by kernel_rfl) rfl
  have hent4 : ∀ args W, (callFunc 69 args).run Tryz.prog W = .ok (.enter 69 args) W := enters_of Tryz.func69 (by kernel_rfl) rfl
  clear hr hq hQ hb0 hc1 h1 hc2 h2 hc3 h3 hc4 h4
  go_enter Tryz.func26, Tryz.ntmps26
  go_upto_region 1 with fail
  generalize w.alloc (.cells #[.slice (some ⟨a, 0, none⟩) 4 4] 58) = w1 at HQ1 HB1 X1 ⊢
  have c0 : w1.cell? ⟨w.heap.size, 0, none⟩ = some (.slice (some ⟨a, 0, none⟩) 4 4) := Recs.box_cell X1.out 0
  go_wp2_with fail
  refine wp_loop_rounds 5 ?_
  clear c0 X1
  have k1 := HC1.out _ HQ1.out
  rw [rounds_succ]
  go_wp2_with fail
  refine (H1.out _ HQ1.out).mono ?_
  rintro e w2 ⟨rfl, hb⟩
  have HQ2 := Num.hide (HQ.out _ _ HQ1.out hb)
  have HB2 := Num.hide (HB1.out.trans (hb.mono HB1.out.size))
  clear hb k1 HQ1 HB1 H1 HC1 hent1
  cases B1 with
  | true =>
    obtain rfl : r = false := by rw [← HR.out]; simp
    clear HR HQ2
    go_wp2
    go_ret
    exact ⟨rfl, HB2.out⟩
  | false =>
  go_wp2_with fail
  have k2 := HC2.out _ HQ2.out
  rw [rounds_succ]
  go_wp2_with fail
  refine (H2.out _ HQ2.out).mono ?_
  rintro e w3 ⟨rfl, hb⟩
  have HQ3 := Num.hide (HQ.out _ _ HQ2.out hb)
  have HB3 := Num.hide (HB2.out.trans (hb.mono HB2.out.size))
  clear hb k2 HQ2 HB2 H2 HC2 hent2
  cases B2 with
  | true =>
    obtain rfl : r = false := by rw [← HR.out]; simp
    clear HR HQ3
    go_wp2
    go_ret
    exact ⟨rfl, HB3.out⟩
  | false =>
  go_wp2_with fail
  have k3 := HC3.out _ HQ3.out
  rw [rounds_succ]
  go_wp2_with fail
  refine (H3.out _ HQ3.out).mono ?_
  rintro e w4 ⟨rfl, hb⟩
  have HQ4 := Num.hide (HQ.out _ _ HQ3.out hb)
  have HB4 := Num.hide (HB3.out.trans (hb.mono HB3.out.size))
  clear hb k3 HQ3 HB3 H3 HC3 hent3
  cases B3 with
  | true =>
    obtain rfl : r = false := by rw [← HR.out]; simp
    clear HR HQ4
    go_wp2
    go_ret
    exact ⟨rfl, HB4.out⟩
  | false =>
  go_wp2_with fail
  have k4 := HC4.out _ HQ4.out
  rw [rounds_succ]
  go_wp2_with fail
  refine (H4.out _ HQ4.out).mono ?_
  rintro e w5 ⟨rfl, hb⟩
  have HQ5 := Num.hide (HQ.out _ _ HQ4.out hb)
  have HB5 := Num.hide (HB4.out.trans (hb.mono HB4.out.size))
  clear hb k4 HQ4 HB4 H4 HC4 hent4
  cases B4 with
  | true =>
    obtain rfl : r = false := by rw [← HR.out]; simp
    clear HR HQ5
    go_wp2
    go_ret
    exact ⟨rfl, HB5.out⟩
  | false =>
  go_wp2_with fail
  rw [rounds_succ]
  obtain rfl : r = true := by rw [← HR.out]; rfl
  clear HR HQ5
  go_wp2
  go_ret
  exact ⟨rfl, HB5.out⟩
/-- the boxes and the list of what forbids -/
abbrev NAt (w : World) (g h : Nat) (m u : ByteArray) (v1 : Value) (l1 : List Fld) (b1 : ByteArray) (st : Int) (v2 : Value) (l2 : List Fld) (b2 : ByteArray) (age lives : Int) (a : Nat) (W : World) : Prop := MAt w g h m u v1 l1 b1 st v2 l2 b2 age lives W ∧ W.cell? ⟨a, 0, none⟩ = some (.func (.func 64) #[] #[.pointer (some ⟨g, 0, none⟩), .pointer (some ⟨g + 1, 0, none⟩)]) ∧ W.cell? ⟨a, 1, none⟩ = some (.func (.func 65) #[] #[.pointer (some ⟨g, 0, none⟩), .pointer (some ⟨g + 2, 0, none⟩)]) ∧ W.cell? ⟨a, 2, none⟩ = some (.func (.func 67) #[] #[.pointer (some ⟨g, 0, none⟩), .pointer (some ⟨g + 2, 0, none⟩), .pointer (some ⟨h, 0, none⟩)]) ∧ W.cell? ⟨a, 3, none⟩ = some (.func (.func 69) #[] #[.pointer (some ⟨h, 0, none⟩), .pointer (some ⟨g + 2, 0, none⟩)])
theorem NAt.step {w : World} {g h : Nat} {m u : ByteArray} {v1 : Value} {l1 : List Fld} {b1 : ByteArray} {st : Int} {v2 : Value} {l2 : List Fld} {b2 : ByteArray} {age lives : Int} {a : Nat} {W W' : World} (h0 : NAt w g h m u v1 l1 b1 st v2 l2 b2 age lives a W) (hb : Below W.heap.size W W') : NAt w g h m u v1 l1 b1 st v2 l2 b2 age lives a W' := by
  obtain ⟨h0, k0, k1, k2, k3⟩ := h0
  have la : a < W.heap.size := Recs.lt_of_cell k0
  exact ⟨MAt.step h0 hb, (hb.cell (p := ⟨a, 0, none⟩) la).trans k0, (hb.cell (p := ⟨a, 1, none⟩) la).trans k1, (hb.cell (p := ⟨a, 2, none⟩) la).trans k2, (hb.cell (p := ⟨a, 3, none⟩) la).trans k3⟩
set_option maxRecDepth 100000 in
set_option maxHeartbeats 4000000 in
theorem telling_impl (m u : ByteArray) (st : Int) (v1 v2 : Value) (l1 l2 : List Fld) (b1 b2 : ByteArray) (age : Int) (w : World) (h1 : Flds.Is w v1 l1) (h2 : Flds.Is w v2 l2) (hl2 : Flds.bulk l2 ≤ 1048576) (hE : EnvS w) :
    Calls Tryz.prog 27 #[Req.val m u v1 b1, Resp.val st v2 b2, .int .i64 age] w fun e w' => ∃ h a, e = .returned (.agg #[.slice (some ⟨a, 0, none⟩) 4 4]) ∧ NAt w w.heap.size h m u v1 l1 b1 st v2 l2 b2 age (lifetime l2) a w' := by
  have hmf : ∀ (fn : Fn) (first cap : Array Value) (w : World), (Instr.makeFunc fn first cap).run Tryz.prog w = .ok (.func fn first cap) w := fun _ _ _ _ => rfl
  have hp := pat_first w m u v1 l1 b1 st v2 l2 b2 h1 h2
  have z0 : ((w.alloc (.cells #[.string m, .string u, v1, .string b1] 26)).alloc (.cells #[.int .i64 st, v2, .string b2] 28)).heap.size = w.heap.size + 2 := by rw [World.size_alloc, World.size_alloc]
  have hb1 : Below ((w.alloc (.cells #[.string m, .string u, v1, .string b1] 26)).alloc (.cells #[.int .i64 st, v2, .string b2] 28)).heap.size ((w.alloc (.cells #[.string m, .string u, v1, .string b1] 26)).alloc (.cells #[.int .i64 st, v2, .string b2] 28)) ((((w.alloc (.cells #[.string m, .string u, v1, .string b1] 26)).alloc (.cells #[.int .i64 st, v2, .string b2] 28)).alloc (.cells #[.int .i64 age] 3)).alloc (.cells #[.slice none 0 0] 58)) := ((Below.refl _ _).alloc (Nat.le_refl _) _).alloc (by simp) _
  have xa : ((((w.alloc (.cells #[.string m, .string u, v1, .string b1] 26)).alloc (.cells #[.int .i64 st, v2, .string b2] 28)).alloc (.cells #[.int .i64 age] 3)).alloc (.cells #[.slice none 0 0] 58)).heap[w.heap.size + 2]? = some (.cells #[.int .i64 age] 3) := by
    rw [heap_alloc_old _ _ (by rw [World.size_alloc]; omega)]
    have := heap_alloc_new ((w.alloc (.cells #[.string m, .string u, v1, .string b1] 26)).alloc (.cells #[.int .i64 st, v2, .string b2] 28)) (.cells #[.int .i64 age] 3)
    rwa [z0] at this
  have xp : ((((w.alloc (.cells #[.string m, .string u, v1, .string b1] 26)).alloc (.cells #[.int .i64 st, v2, .string b2] 28)).alloc (.cells #[.int .i64 age] 3)).alloc (.cells #[.slice none 0 0] 58)).heap[w.heap.size + 3]? = some (.cells #[.slice none 0 0] 58) := by
    have := heap_alloc_new (((w.alloc (.cells #[.string m, .string u, v1, .string b1] 26)).alloc (.cells #[.int .i64 st, v2, .string b2] 28)).alloc (.cells #[.int .i64 age] 3)) (.cells #[.slice none 0 0] 58)
    rwa [World.size_alloc, z0] at this
  have K0 : Hid (PAt w w.heap.size m u v1 l1 b1 st v2 l2 b2 ((((w.alloc (.cells #[.string m, .string u, v1, .string b1] 26)).alloc (.cells #[.int .i64 st, v2, .string b2] 28)).alloc (.cells #[.int .i64 age] 3)).alloc (.cells #[.slice none 0 0] 58)) ∧ EnvS ((((w.alloc (.cells #[.string m, .string u, v1, .string b1] 26)).alloc (.cells #[.int .i64 st, v2, .string b2] 28)).alloc (.cells #[.int .i64 age] 3)).alloc (.cells #[.slice none 0 0] 58))) := ⟨PAt.step hp hb1, (hE.below hp.2.2.2.2.2.2.2.2.2).below hb1⟩
  have XA := Num.hide xa
  have XP := Num.hide xp
  have H1 := Num.hide h1
  have H2 := Num.hide h2
  have HE := Num.hide hE
  have HLf := Num.hide (fun W h (hE : EnvS W) => Age.lifetime_impl st v2 l2 b2 W h hl2 hE)
  obtain ⟨av1, cv1, rfl, _⟩ := Flds.is_form h1
  obtain ⟨av2, cv2, rfl, _⟩ := Flds.is_form h2
  generalize lifetime l2 = lives at HLf ⊢
  unfold Resp.val at HLf
  unfold Req.val Resp.val
  clear h1 h2 hE hp hb1 xa xp z0
  go_enter Tryz.func27, Tryz.ntmps27
  go_upto_region 1 with fail
  generalize (((w.alloc (.cells #[.string m, .string u, .slice av1 l1.length cv1, .string b1] 26)).alloc (.cells #[.int .i64 st, .slice av2 l2.length cv2, .string b2] 28)).alloc (.cells #[.int .i64 age] 3)).alloc (.cells #[.slice none 0 0] 58) = w0 at K0 XA XP ⊢
  obtain ⟨c0, c1, c2, c3, c4, c5, c6, -, -, -⟩ := K0.out.1
  go_wp2_with fail
  refine (HLf.out _ K0.out.1.2.2.2.2.2.2.2.2.1 K0.out.2).mono ?_
  rintro e w1 ⟨rfl, hb⟩
  have K1 : Hid (PAt w w.heap.size m u (.slice av1 l1.length cv1) l1 b1 st (.slice av2 l2.length cv2) l2 b2 w1 ∧ EnvS w1) := ⟨PAt.step K0.out.1 hb, K0.out.2.below hb⟩
  have la : w.heap.size + 2 < w0.heap.size := (Array.getElem?_eq_some_iff.1 XA.out).1
  have lp : w.heap.size + 3 < w0.heap.size := (Array.getElem?_eq_some_iff.1 XP.out).1
  have XA1 := Num.hide ((hb.block _ la).trans XA.out)
  have XP1 := Num.hide ((hb.block _ lp).trans XP.out)
  have hs1 := hb.size
  clear hb c0 c1 c2 c3 c4 c5 c6 K0 XA XP
  have lp1 : w.heap.size + 3 < w1.heap.size := by omega
  clear la lp hs1
  have XP2 : ((w1.alloc (.cells #[.int .i64 lives] 3)).alloc (.cells #[.func (.func 64) #[] #[.pointer (some ⟨w.heap.size, 0, none⟩), .pointer (some ⟨w.heap.size + 1, 0, none⟩)], .func (.func 65) #[] #[.pointer (some ⟨w.heap.size, 0, none⟩), .pointer (some ⟨w.heap.size + 1 + 1, 0, none⟩)], .func (.func 67) #[] #[.pointer (some ⟨w.heap.size, 0, none⟩), .pointer (some ⟨w.heap.size + 1 + 1, 0, none⟩), .pointer (some ⟨w1.heap.size, 0, none⟩)], .func (.func 69) #[] #[.pointer (some ⟨w1.heap.size, 0, none⟩), .pointer (some ⟨w.heap.size + 1 + 1, 0, none⟩)]] 60)).heap[w.heap.size + 3]? = some (.cells #[.slice none 0 0] 58) := by
    rw [heap_alloc_old _ _ (by rw [World.size_alloc]; omega), heap_alloc_old _ _ (by omega)]; exact XP1.out
  have c7 : ((w1.alloc (.cells #[.int .i64 lives] 3)).alloc (.cells #[.func (.func 64) #[] #[.pointer (some ⟨w.heap.size, 0, none⟩), .pointer (some ⟨w.heap.size + 1, 0, none⟩)], .func (.func 65) #[] #[.pointer (some ⟨w.heap.size, 0, none⟩), .pointer (some ⟨w.heap.size + 1 + 1, 0, none⟩)], .func (.func 67) #[] #[.pointer (some ⟨w.heap.size, 0, none⟩), .pointer (some ⟨w.heap.size + 1 + 1, 0, none⟩), .pointer (some ⟨w1.heap.size, 0, none⟩)], .func (.func 69) #[] #[.pointer (some ⟨w1.heap.size, 0, none⟩), .pointer (some ⟨w.heap.size + 1 + 1, 0, none⟩)]] 60)).cell? ⟨w.heap.size + 1 + 1 + 1, 0, none⟩ = some (.slice none 0 0) := Recs.box_cell XP2 0
  have z7 : ((w1.alloc (.cells #[.int .i64 lives] 3)).alloc (.cells #[.func (.func 64) #[] #[.pointer (some ⟨w.heap.size, 0, none⟩), .pointer (some ⟨w.heap.size + 1, 0, none⟩)], .func (.func 65) #[] #[.pointer (some ⟨w.heap.size, 0, none⟩), .pointer (some ⟨w.heap.size + 1 + 1, 0, none⟩)], .func (.func 67) #[] #[.pointer (some ⟨w.heap.size, 0, none⟩), .pointer (some ⟨w.heap.size + 1 + 1, 0, none⟩), .pointer (some ⟨w1.heap.size, 0, none⟩)], .func (.func 69) #[] #[.pointer (some ⟨w1.heap.size, 0, none⟩), .pointer (some ⟨w.heap.size + 1 + 1, 0, none⟩)]] 60)).frozen? ⟨w.heap.size + 1 + 1 + 1, 0, none⟩ = false := Recs.box_thaw XP2 0
  have Y2 : ((w1.alloc (.cells #[.int .i64 lives] 3)).alloc (.cells #[.func (.func 64) #[] #[.pointer (some ⟨w.heap.size, 0, none⟩), .pointer (some ⟨w.heap.size + 1, 0, none⟩)], .func (.func 65) #[] #[.pointer (some ⟨w.heap.size, 0, none⟩), .pointer (some ⟨w.heap.size + 1 + 1, 0, none⟩)], .func (.func 67) #[] #[.pointer (some ⟨w.heap.size, 0, none⟩), .pointer (some ⟨w.heap.size + 1 + 1, 0, none⟩), .pointer (some ⟨w1.heap.size, 0, none⟩)], .func (.func 69) #[] #[.pointer (some ⟨w1.heap.size, 0, none⟩), .pointer (some ⟨w.heap.size + 1 + 1, 0, none⟩)]] 60)).heap[w1.heap.size + 1]? = some (.cells #[.func (.func 64) #[] #[.pointer (some ⟨w.heap.size, 0, none⟩), .pointer (some ⟨w.heap.size + 1, 0, none⟩)], .func (.func 65) #[] #[.pointer (some ⟨w.heap.size, 0, none⟩), .pointer (some ⟨w.heap.size + 1 + 1, 0, none⟩)], .func (.func 67) #[] #[.pointer (some ⟨w.heap.size, 0, none⟩), .pointer (some ⟨w.heap.size + 1 + 1, 0, none⟩), .pointer (some ⟨w1.heap.size, 0, none⟩)], .func (.func 69) #[] #[.pointer (some ⟨w1.heap.size, 0, none⟩), .pointer (some ⟨w.heap.size + 1 + 1, 0, none⟩)]] 60) := by
    have := heap_alloc_new (w1.alloc (.cells #[.int .i64 lives] 3)) (.cells #[.func (.func 64) #[] #[.pointer (some ⟨w.heap.size, 0, none⟩), .pointer (some ⟨w.heap.size + 1, 0, none⟩)], .func (.func 65) #[] #[.pointer (some ⟨w.heap.size, 0, none⟩), .pointer (some ⟨w.heap.size + 1 + 1, 0, none⟩)], .func (.func 67) #[] #[.pointer (some ⟨w.heap.size, 0, none⟩), .pointer (some ⟨w.heap.size + 1 + 1, 0, none⟩), .pointer (some ⟨w1.heap.size, 0, none⟩)], .func (.func 69) #[] #[.pointer (some ⟨w1.heap.size, 0, none⟩), .pointer (some ⟨w.heap.size + 1 + 1, 0, none⟩)]] 60)
    rwa [World.size_alloc] at this
  have L2 : ((w1.alloc (.cells #[.int .i64 lives] 3)).alloc (.cells #[.func (.func 64) #[] #[.pointer (some ⟨w.heap.size, 0, none⟩), .pointer (some ⟨w.heap.size + 1, 0, none⟩)], .func (.func 65) #[] #[.pointer (some ⟨w.heap.size, 0, none⟩), .pointer (some ⟨w.heap.size + 1 + 1, 0, none⟩)], .func (.func 67) #[] #[.pointer (some ⟨w.heap.size, 0, none⟩), .pointer (some ⟨w.heap.size + 1 + 1, 0, none⟩), .pointer (some ⟨w1.heap.size, 0, none⟩)], .func (.func 69) #[] #[.pointer (some ⟨w1.heap.size, 0, none⟩), .pointer (some ⟨w.heap.size + 1 + 1, 0, none⟩)]] 60)).heap[w1.heap.size]? = some (.cells #[.int .i64 lives] 3) := by
    rw [heap_alloc_old _ _ (by rw [World.size_alloc]; omega), heap_alloc_new]
  have B2 : Below w1.heap.size w1 ((w1.alloc (.cells #[.int .i64 lives] 3)).alloc (.cells #[.func (.func 64) #[] #[.pointer (some ⟨w.heap.size, 0, none⟩), .pointer (some ⟨w.heap.size + 1, 0, none⟩)], .func (.func 65) #[] #[.pointer (some ⟨w.heap.size, 0, none⟩), .pointer (some ⟨w.heap.size + 1 + 1, 0, none⟩)], .func (.func 67) #[] #[.pointer (some ⟨w.heap.size, 0, none⟩), .pointer (some ⟨w.heap.size + 1 + 1, 0, none⟩), .pointer (some ⟨w1.heap.size, 0, none⟩)], .func (.func 69) #[] #[.pointer (some ⟨w1.heap.size, 0, none⟩), .pointer (some ⟨w.heap.size + 1 + 1, 0, none⟩)]] 60)) := ((Below.refl _ _).alloc (Nat.le_refl _) _).alloc (by simp) _
  have HX2 := Num.hide XP2
  have HY2 := Num.hide Y2
  have HL2 := Num.hide L2
  have HB2 := Num.hide B2
  clear XP2 Y2 L2 B2
  go_wp2
  generalize ((w1.alloc (.cells #[.int .i64 lives] 3)).alloc (.cells #[.func (.func 64) #[] #[.pointer (some ⟨w.heap.size, 0, none⟩), .pointer (some ⟨w.heap.size + 1, 0, none⟩)], .func (.func 65) #[] #[.pointer (some ⟨w.heap.size, 0, none⟩), .pointer (some ⟨w.heap.size + 1 + 1, 0, none⟩)], .func (.func 67) #[] #[.pointer (some ⟨w.heap.size, 0, none⟩), .pointer (some ⟨w.heap.size + 1 + 1, 0, none⟩), .pointer (some ⟨w1.heap.size, 0, none⟩)], .func (.func 69) #[] #[.pointer (some ⟨w1.heap.size, 0, none⟩), .pointer (some ⟨w.heap.size + 1 + 1, 0, none⟩)]] 60)) = W2 at HX2 HY2 HL2 HB2 c7 z7 ⊢
  have K2 := Num.hide (PAt.step K1.out.1 HB2.out)
  have XA2 := (HB2.out.block _ (by omega : w.heap.size + 2 < w1.heap.size)).trans XA1.out
  obtain ⟨c0, c1, c2, c3, c4, c5, c6, -, -, hbw⟩ := K2.out
  have far : ∀ (j k : Nat), j ≠ w.heap.size + 3 → (W2.setCell ⟨w.heap.size + 1 + 1 + 1, 0, none⟩ (.slice (some ⟨w1.heap.size + 1, 0, none⟩) 4 4)).cell? ⟨j, k, none⟩ = W2.cell? ⟨j, k, none⟩ := fun j k hj => World.cell?_of_block (w := W2) (heap_setCell_other W2 _ j _ (fun e => hj e))
  have XF := Recs.box_set HX2.out 0 (.slice (some ⟨w1.heap.size + 1, 0, none⟩) 4 4)
  have hbf : Below w.heap.size w (W2.setCell ⟨w.heap.size + 1 + 1 + 1, 0, none⟩ (.slice (some ⟨w1.heap.size + 1, 0, none⟩) 4 4)) := hbw.setCell (p := ⟨w.heap.size + 1 + 1 + 1, 0, none⟩) (by show w.heap.size ≤ w.heap.size + 1 + 1 + 1; omega) _
  have cr : (W2.setCell ⟨w.heap.size + 1 + 1 + 1, 0, none⟩ (.slice (some ⟨w1.heap.size + 1, 0, none⟩) 4 4)).cell? ⟨w.heap.size + 1 + 1 + 1, 0, none⟩ = some (.slice (some ⟨w1.heap.size + 1, 0, none⟩) 4 4) := Recs.box_cell XF 0
  clear c7 z7
  generalize W2.setCell ⟨w.heap.size + 1 + 1 + 1, 0, none⟩ (.slice (some ⟨w1.heap.size + 1, 0, none⟩) 4 4) = WF at far XF hbf cr ⊢
  exact bodyPost_ret (v := .agg #[.slice (some ⟨w1.heap.size + 1, 0, none⟩) 4 4]) (by simp [results, Tryz.results27, go_sem, cr]) rfl ⟨w1.heap.size, w1.heap.size + 1, rfl, ⟨⟨⟨(far _ _ (by omega)).trans c0, (far _ _ (by omega)).trans c1, (far _ _ (by omega)).trans c2, (far _ _ (by omega)).trans c3, (far _ _ (by omega)).trans c4, (far _ _ (by omega)).trans c5, (far _ _ (by omega)).trans c6, Recs.is_below H1.out hbf, Recs.is_below H2.out hbf, hbf⟩, HE.out.below hbf⟩, (far _ _ (by omega)).trans (Recs.box_cell XA2 0), (far _ _ (by omega)).trans (Recs.box_cell HL2.out 0)⟩, (far _ _ (by omega)).trans (Recs.box_cell HY2.out 0), (far _ _ (by omega)).trans (Recs.box_cell HY2.out 1), (far _ _ (by omega)).trans (Recs.box_cell HY2.out 2), (far _ _ (by omega)).trans (Recs.box_cell HY2.out 3)⟩
set_option maxRecDepth 100000 in
set_option maxHeartbeats 8000000 in
theorem mustCheck_impl (m u : ByteArray) (st : Int) (v1 v2 : Value) (l1 l2 : List Fld) (b1 b2 : ByteArray) (asked came now : Int) (w : World) (h1 : Flds.Is w v1 l1) (h2 : Flds.Is w v2 l2) (hl1 : Flds.bulk l1 ≤ 1048576) (hl2 : Flds.bulk l2 ≤ 1048576) (hcm : came ≤ 9223372036854775807) (hnw : now ≤ 9223372036854775807) (hE : EnvS w) :
    Calls Tryz.prog 9 #[Req.val m u v1 b1, Resp.val st v2 b2, .int .i64 asked, .int .i64 came, .int .i64 now] w fun e w' => e = .returned (.bool (mustCheck l1 l2 asked came now)) ∧ Below w.heap.size w w' := by
  have HF0 : Hid (PAt w w.heap.size m u v1 l1 b1 st v2 l2 b2 ((w.alloc (.cells #[.string m, .string u, v1, .string b1] 26)).alloc (.cells #[.int .i64 st, v2, .string b2] 28)) ∧ EnvS ((w.alloc (.cells #[.string m, .string u, v1, .string b1] 26)).alloc (.cells #[.int .i64 st, v2, .string b2] 28))) := ⟨pat_first w m u v1 l1 b1 st v2 l2 b2 h1 h2, hE.below (pat_first w m u v1 l1 b1 st v2 l2 b2 h1 h2).2.2.2.2.2.2.2.2.2⟩
  have HAg := Num.hide (fun W h (hE : EnvS W) => Age.ageAt_impl st v2 l2 b2 asked came now W h hl2 hcm hnw hE.1)
  have HTe := Num.hide (fun W h1 h2 (hE : EnvS W) => telling_impl m u st v1 v2 l1 l2 b1 b2 (ageAt l2 asked came now) W h1 h2 hl2 hE)
  have HAl := Num.hide (fun W W1 h a (hN : NAt W W.heap.size h m u v1 l1 b1 st v2 l2 b2 (ageAt l2 asked came now) (lifetime l2) a W1) => must_allows (NAt W W.heap.size h m u v1 l1 b1 st v2 l2 b2 (ageAt l2 asked came now) (lifetime l2) a) (fun _ _ h hb => NAt.step h hb) W.heap.size a h _ _ _ _ (fun _ h => h.2.1) (fun _ h => h.2.2.1) (fun _ h => h.2.2.2.1) (fun _ h => h.2.2.2.2) (fun X hX => must1_impl W W.heap.size h m u v1 l1 b1 st v2 l2 b2 _ _ X hX.1 hl1 hl2) (fun X hX => must2_impl W W.heap.size h m u v1 l1 b1 st v2 l2 b2 _ _ X hX.1 hl1 hl2) (fun X hX => must3_impl W W.heap.size h m u v1 l1 b1 st v2 l2 b2 _ _ X hX.1 hl1 hl2) (fun X hX => must4_impl W W.heap.size h m u v1 l1 b1 st v2 l2 b2 _ _ X hX.1 hl1 hl2) W1 hN)
  rw [← must_bars l1 l2 asked came now _ _ rfl rfl] at HAl
  generalize mustCheck l1 l2 asked came now = r at HAl ⊢
  generalize ageAt l2 asked came now = age at HAg HTe HAl
  generalize lifetime l2 = lives at HTe HAl
  obtain ⟨av1, cv1, rfl, _⟩ := Flds.is_form h1
  obtain ⟨av2, cv2, rfl, _⟩ := Flds.is_form h2
  unfold Resp.val at HAg
  unfold Req.val Resp.val at HTe
  unfold Req.val Resp.val
  clear h1 h2 hE
  go_enter Tryz.func9, Tryz.ntmps9
  go_upto_region 1 with fail
  generalize (w.alloc (.cells #[.string m, .string u, .slice av1 l1.length cv1, .string b1] 26)).alloc (.cells #[.int .i64 st, .slice av2 l2.length cv2, .string b2] 28) = w0 at HF0 ⊢
  have HF1 : Hid (PAt w w.heap.size m u (.slice av1 l1.length cv1) l1 b1 st (.slice av2 l2.length cv2) l2 b2 w0.drew ∧ EnvS w0.drew) := ⟨PAt.step HF0.out.1 (Below.refl w0.heap.size w0).drew, HF0.out.2.below (Below.refl w0.heap.size w0).drew⟩
  clear HF0
  go_wp2
  refine wp_region_held_drew (S := fun W => PAt w w.heap.size m u (.slice av1 l1.length cv1) l1 b1 st (.slice av2 l2.length cv2) l2 b2 W ∧ EnvS W) (by kernel_rfl) HF1.out (fun hHeld => ?_)
  refine Reg.take (i := 0) (d := 11) (v := ?_) rfl rfl (by kernel_rfl) (by kernel_rfl) (by kernel_rfl) (fun _ _ _ h => h) (by rfl) ?_ hHeld ?_
  rotate_left
  · rintro W ⟨⟨h0, h1, h2, h3, h4, h5, h6, h7, h8, h9⟩, h10⟩
    first | (go_simp; done) | (go_simp; with_reducible rfl)
  simp only [Act.put, List.setIfInBounds_toArray, List.set_cons_zero, List.set_cons_succ]
  refine Reg.take (i := 1) (d := 12) (v := ?_) rfl rfl (by kernel_rfl) (by kernel_rfl) (by kernel_rfl) (fun _ _ _ h => h) (by rfl) ?_ hHeld ?_
  rotate_left
  · rintro W ⟨⟨h0, h1, h2, h3, h4, h5, h6, h7, h8, h9⟩, h10⟩
    first | (go_simp; done) | (go_simp; with_reducible rfl)
  simp only [Act.put, List.setIfInBounds_toArray, List.set_cons_zero, List.set_cons_succ]
  refine Reg.take (i := 2) (d := 13) (v := ?_) rfl rfl (by kernel_rfl) (by kernel_rfl) (by kernel_rfl) (fun _ _ _ h => h) (by rfl) ?_ hHeld ?_
  rotate_left
  · rintro W ⟨⟨h0, h1, h2, h3, h4, h5, h6, h7, h8, h9⟩, h10⟩
    first | (go_simp; done) | (go_simp; with_reducible rfl)
  simp only [Act.put, List.setIfInBounds_toArray, List.set_cons_zero, List.set_cons_succ]
  refine Reg.take (i := 3) (d := 14) (v := ?_) rfl rfl (by kernel_rfl) (by kernel_rfl) (by kernel_rfl) (fun _ _ _ h => h) (by rfl) ?_ hHeld ?_
  rotate_left
  · rintro W ⟨⟨h0, h1, h2, h3, h4, h5, h6, h7, h8, h9⟩, h10⟩
    first | (go_simp; done) | (go_simp; with_reducible rfl)
  simp only [Act.put, List.setIfInBounds_toArray, List.set_cons_zero, List.set_cons_succ]
  refine Reg.take (i := 4) (d := 15) (v := ?_) rfl rfl (by kernel_rfl) (by kernel_rfl) (by kernel_rfl) (fun _ _ _ h => h) (by rfl) ?_ hHeld ?_
  rotate_left
  · rintro W ⟨⟨h0, h1, h2, h3, h4, h5, h6, h7, h8, h9⟩, h10⟩
    first | (go_simp; done) | (go_simp; with_reducible rfl)
  simp only [Act.put, List.setIfInBounds_toArray, List.set_cons_zero, List.set_cons_succ]
  refine Reg.take (i := 5) (d := 16) (v := ?_) rfl rfl (by kernel_rfl) (by kernel_rfl) (by kernel_rfl) (fun _ _ _ h => h) (by rfl) ?_ hHeld ?_
  rotate_left
  · rintro W ⟨⟨h0, h1, h2, h3, h4, h5, h6, h7, h8, h9⟩, h10⟩
    first | (go_simp; done) | (go_simp; with_reducible rfl)
  simp only [Act.put, List.setIfInBounds_toArray, List.set_cons_zero, List.set_cons_succ]
  refine Reg.call (i := 6) rfl (by kernel_rfl) (by rfl) (fun K hK => ?_)
  go_wp2_with (first | (go_at_call 28; refine (HAg.out _ hHeld.1.2.2.2.2.2.2.2.2.1 hHeld.2).mono ?_; rintro e w2 ⟨rfl, hb2⟩))
  refine hK.out _ _ ?_ (fun hHeld2 => ?_)
  · exact ⟨PAt.step hHeld.1 hb2, hHeld.2.below hb2⟩
  clear hK K
  replace hHeld := hHeld2
  clear hHeld2
  refine Reg.call (i := 7) rfl (by kernel_rfl) (by rfl) (fun K hK => ?_)
  go_wp2_with (first | (go_at_call 27; refine (HTe.out _ hHeld.1.2.2.2.2.2.2.2.1 hHeld.1.2.2.2.2.2.2.2.2.1 hHeld.2).mono ?_; rintro e w3 ⟨h, a, rfl, hN⟩))
  refine hK.out _ _ ?_ (fun hHeld2 => ?_)
  · exact ⟨PAt.step hHeld.1 hN.1.1.1.2.2.2.2.2.2.2.2.2, hHeld.2.below hN.1.1.1.2.2.2.2.2.2.2.2.2⟩
  clear hK K
  replace hHeld := hHeld2
  clear hHeld2
  refine Reg.call (i := 8) rfl (by kernel_rfl) (by rfl) (fun K hK => ?_)
  go_wp2_with (first | (go_at_call 26; refine (HAl.out _ _ _ _ hN).mono ?_; rintro e w4 ⟨rfl, hb4⟩))
  refine hK.out _ _ ?_ (fun hHeld2 => ?_)
  · exact ⟨PAt.step hHeld.1 hb4, hHeld.2.below hb4⟩
  clear hK K
  replace hHeld := hHeld2
  clear hHeld2
  refine Reg.take (i := 9) (d := 20) (v := ?_) rfl rfl (by kernel_rfl) (by kernel_rfl) (by kernel_rfl) (fun _ _ _ h => h) (by rfl) ?_ hHeld ?_
  rotate_left
  · rintro W ⟨⟨h0, h1, h2, h3, h4, h5, h6, h7, h8, h9⟩, h10⟩
    first | (go_simp; done) | (go_simp; with_reducible rfl)
  simp only [Act.put, List.setIfInBounds_toArray, List.set_cons_zero, List.set_cons_succ]
  refine Reg.take (i := 10) (d := 10) (v := ?_) rfl rfl (by kernel_rfl) (by kernel_rfl) (by kernel_rfl) (fun _ _ _ h => h) (by rfl) ?_ hHeld ?_
  rotate_left
  · rintro W ⟨⟨h0, h1, h2, h3, h4, h5, h6, h7, h8, h9⟩, h10⟩
    first | (go_simp; done) | (go_simp; with_reducible rfl)
  simp only [Act.put, List.setIfInBounds_toArray, List.set_cons_zero, List.set_cons_succ]
  refine wpAnyH_done (by kernel_rfl) ?_ _
  have HB := Num.hide hHeld.1.2.2.2.2.2.2.2.2.2
  clear hHeld HF1
  go_wp2
  go_ret
  exact ⟨rfl, HB.out⟩
end Pol
end Go.Proofs.YtjeokackmkfooaaGreatDoor
namespace Go.Proofs.YtjeokackmkfooaaGreatDoor
open Go.RowKit
set_option linter.unusedVariables false
namespace Draw

theorem and_255 (n : Int) : bits .and .i64 n 255 = n % 256 := by
  have h255 : (BitVec.ofInt 64 255).toNat = 2 ^ 8 - 1 := by decide
  have key : (BitVec.ofInt 64 n &&& BitVec.ofInt 64 255).toNat = (n % ((2 ^ 64 : Nat) : Int)).toNat % 2 ^ 8 := by
    rw [BitVec.toNat_and, BitVec.toNat_ofInt, h255, Nat.and_two_pow_sub_one_eq_mod]
  show IntKind.i64.wrap ((BitVec.ofInt 64 n &&& BitVec.ofInt 64 255).toNat : Nat) = n % 256
  rw [key, IntKind.wrap_i64]
  omega
/-- the mixed number behind a step, and the byte that it gives -/
def nh (h : Int) : Int := wrap64 (wrap64 (h * 6364136223846793005) + 1442695040888963407)
def rx (h : Int) : Int := bits .xor .i64 (nh h / 8589934592) (nh h / 35184372088832) % 256
/-- of what was there all but one block is as it was -/
structure Only (C : Nat) (w w' : World) : Prop where
  os : w'.os = w.os
  tape : w'.tape = w.tape
  output : w'.output = w.output
  size : w.heap.size ≤ w'.heap.size
  block : ∀ k, k < w.heap.size → k ≠ C → w'.heap[k]? = w.heap[k]?
theorem Only.refl (C : Nat) (w : World) : Only C w w := ⟨rfl, rfl, rfl, Nat.le_refl _, fun _ _ _ => rfl⟩
theorem Only.trans {C : Nat} {a b c : World} (h : Only C a b) (k : Only C b c) : Only C a c :=
  ⟨k.os.trans h.os, k.tape.trans h.tape, k.output.trans h.output, Nat.le_trans h.size k.size, fun i hi hc => (k.block i (Nat.lt_of_lt_of_le hi h.size) hc).trans (h.block i hi hc)⟩
theorem Only.setCell {C : Nat} {a w : World} (h : Only C a w) (j : Nat) (u : Value) : Only C a (w.setCell ⟨C, j, none⟩ u) :=
  h.trans ⟨rfl, rfl, rfl, by simp [World.setCell], fun k _ hk => Below.heap_setCell _ _ _ _ hk⟩
theorem Only.drewN {C : Nat} {a w : World} (h : Only C a w) (n : Nat) : Only C a (w.drewN n) := h.trans ⟨rfl, rfl, rfl, Nat.le_refl _, fun _ _ _ => rfl⟩
theorem Only.drew {C : Nat} {a w : World} (h : Only C a w) : Only C a w.drew := h.trans ⟨rfl, rfl, rfl, Nat.le_refl _, fun _ _ _ => rfl⟩
theorem Only.alloc {C : Nat} {a w : World} (h : Only C a w) (o : Obj) : Only C a (w.alloc o) :=
  h.trans ⟨rfl, rfl, rfl, by simp, fun k hk _ => Below.heap_alloc _ _ _ hk⟩
theorem Only.of_below {C : Nat} {a w w' : World} (h : Only C a w) (hb : Below a.heap.size w w') : Only C a w' :=
  ⟨hb.os.trans h.os, hb.tape.trans h.tape, hb.output.trans h.output, Nat.le_trans h.size hb.size, fun k hk hc => (hb.block k hk).trans (h.block k hk hc)⟩
theorem Only.owns {C base : Nat} {e : TypeId} {size n : Nat} {v : Value} {xs : List Value} {w w' : World} (h : Only C w w') (hC : C < base) (ho : w.ownsRow base e size v n xs) : w'.ownsRow base e size v n xs := by
  refine ⟨ho.1, ?_⟩
  rcases ho.2 with hn | ⟨g, cap, cur, rfl, hb, hg, rest⟩
  · exact .inl hn
  · exact .inr ⟨g, cap, cur, rfl, hb, by rw [h.block g (Array.getElem?_eq_some_iff.1 hg).1 (by omega)]; exact hg, rest⟩
theorem Only.below {C B : Nat} {w w' : World} (h : Only C w w') (hB : B ≤ C) (hC : C < w.heap.size) : Below B w w' :=
  ⟨h.os, h.tape, h.output, h.size, fun k hk => h.block k (by omega) (by omega)⟩
/-- what the cursor holds: the bytes of the draw, how many were taken, the mixed number -/
def Cur (w : World) (C : Nat) (a : Option Addr) (len cap k : Nat) (h : Int) : Prop := w.heap[C]? = some (.cells #[.slice a len cap, .int .i64 k, .int .i64 h] 80 (0, 0))
/-- the bytes of the draw lie below block B -/
def CodeAt (B : Nat) (w : World) (a : Option Addr) (l : List Int) : Prop :=
  (∀ i (h : i < l.length), 0 ≤ l[i] ∧ l[i] ≤ 255) ∧ (l = [] ∨ ∃ b off, a = some ⟨b, off, none⟩ ∧ b < B ∧ ∀ i (h : i < l.length), w.cell? ⟨b, off + i, none⟩ = some (.int .u8 l[i]))
theorem CodeAt.below {B : Nat} {w w' : World} {a : Option Addr} {l : List Int} (h : CodeAt B w a l) (hb : Below B w w') : CodeAt B w' a l := by
  refine ⟨h.1, ?_⟩
  rcases h.2 with h | ⟨b, off, ha, hB, hc⟩
  · exact .inl h
  · exact .inr ⟨b, off, ha, hB, fun i hi => by rw [hb.cell (p := ⟨b, off + i, none⟩) hB]; exact hc i hi⟩
theorem Cur.set2 {w : World} {C : Nat} {a : Option Addr} {len cap k : Nat} {h : Int} (H : Cur w C a len cap k h) (g : Int) : Cur (w.setCell ⟨C, 2, none⟩ (.int .i64 g)) C a len cap k g := by
  unfold Cur at *
  rw [heap_setCell_same w C 2 _ _ _ H]; rfl
theorem Cur.set1 {w : World} {C : Nat} {a : Option Addr} {len cap k : Nat} {h : Int} (H : Cur w C a len cap k h) (g : Nat) : Cur (w.setCell ⟨C, 1, none⟩ (.int .i64 g)) C a len cap g h := by
  unfold Cur at *
  rw [heap_setCell_same w C 1 _ _ _ H]; rfl
theorem Cur.cells {w : World} {C : Nat} {a : Option Addr} {len cap k : Nat} {h : Int} (H : Cur w C a len cap k h) :
    w.cell? ⟨C, 0, none⟩ = some (.slice a len cap) ∧ w.cell? ⟨C, 1, none⟩ = some (.int .i64 k) ∧ w.cell? ⟨C, 2, none⟩ = some (.int .i64 h) ∧ w.frozen? ⟨C, 1, none⟩ = false ∧ w.frozen? ⟨C, 2, none⟩ = false := by
  unfold Cur at H
  refine ⟨?_, ?_, ?_, frozen_of_row w C 1 _ _ H, frozen_of_row w C 2 _ _ H⟩
  · rw [cell_of_row w C 0 _ _ _ H]; rfl
  · rw [cell_of_row w C 1 _ _ _ H]; rfl
  · rw [cell_of_row w C 2 _ _ _ H]; rfl
/-- the byte, and how many were taken then -/
def bx (l : List Int) (k : Nat) (h : Int) : Int := if k < l.length then (rx h + l.getD k 0) % 256 else rx h
def bk (l : List Int) (k : Nat) : Nat := if k < l.length then k + 1 else k
theorem bx_bd (l : List Int) (k : Nat) (h : Int) : 0 ≤ bx l k h ∧ bx l k h ≤ 255 := by
  unfold bx rx
  split <;> omega
theorem bk_le (l : List Int) (k : Nat) (h : k ≤ l.length) : bk l k ≤ l.length := by
  unfold bk; split <;> omega
set_option maxRecDepth 100000 in
set_option maxHeartbeats 1000000 in
theorem byte_past (C k len cap : Nat) (a : Option Addr) (h : Int) (w : World) (hC : Cur w C a len cap k h) (hk : len ≤ k) (hk2 : k ≤ 1048576) (hl : len ≤ 1048576) :
    Calls Tryz.prog 49 #[.pointer (some ⟨C, 0, none⟩)] w fun e w' => e = .returned (.int .i64 (rx h)) ∧ Cur w' C a len cap k (nh h) ∧ Only C w w' := by
  obtain ⟨c0, c1, c2, f1, f2⟩ := hC.cells
  have hn : wrap64 (wrap64 (h * 6364136223846793005) + 1442695040888963407) = nh h := rfl
  have ha := and_255
  go_enter Tryz.func49, Tryz.ntmps49
  go_wp2
  go_quiet (fail)
  go_wp2
  go_quiet (fail)
  go_wp2
  go_ret
  exact ⟨rfl, hC.set2 (nh h), (((Only.refl C w).setCell 2 _).drewN _).drewN _⟩
set_option maxRecDepth 100000 in
set_option maxHeartbeats 1000000 in
theorem byte_in (C k len cap b off : Nat) (h z : Int) (w : World) (hC : Cur w C (some ⟨b, off, none⟩) len cap k h) (hk : k < len) (hl : len ≤ 1048576) (hbC : b < C)
    (hz : w.cell? ⟨b, off + k, none⟩ = some (.int .u8 z)) (hz0 : 0 ≤ z) (hz1 : z ≤ 255) :
    Calls Tryz.prog 49 #[.pointer (some ⟨C, 0, none⟩)] w fun e w' => e = .returned (.int .i64 ((rx h + z) % 256)) ∧ Cur w' C (some ⟨b, off, none⟩) len cap (k + 1) (nh h) ∧ Only C w w' := by
  obtain ⟨c0, c1, c2, f1, f2⟩ := hC.cells
  have hn : wrap64 (wrap64 (h * 6364136223846793005) + 1442695040888963407) = nh h := rfl
  have ha := and_255
  have hz2 : (w.setCell ⟨C, 2, none⟩ (.int .i64 (nh h))).cell? ⟨b, off + k, none⟩ = some (.int .u8 z) := by
    rw [← hz]; exact World.cell?_of_block (w := w) (Below.heap_setCell w ⟨C, 2, none⟩ _ b (by show b ≠ C; omega))
  have hxr : Hid (rx h = bits .xor .i64 (nh h / 8589934592) (nh h / 35184372088832) % 256) := rfl
  have hkl : (k : Int) < (len : Int) := by omega
  go_enter Tryz.func49, Tryz.ntmps49
  go_wp2
  go_quiet (fail)
  go_wp2
  go_quiet (fail)
  go_wp2
  go_quiet (fail)
  go_wp2
  go_ret
  refine ⟨?_, ?_, ?_⟩
  · show Ending.returned (.int .i64 _) = _
    rw [hxr.out, Int.emod_add_emod]
  · exact ((hC.set2 (nh h)).set1 (k + 1))
  · exact (((Only.refl C w).setCell 2 _).drewN _).setCell 1 _
theorem byte_any (B C k cap : Nat) (a : Option Addr) (l : List Int) (h : Int) (w : World) (hC : Cur w C a l.length cap k h) (hB : B ≤ C) (hcode : CodeAt B w a l) (hl : l.length ≤ 1048576) (hk : k ≤ l.length) :
    Calls Tryz.prog 49 #[.pointer (some ⟨C, 0, none⟩)] w fun e w' => e = .returned (.int .i64 (bx l k h)) ∧ Cur w' C a l.length cap (bk l k) (nh h) ∧ Only C w w' := by
  unfold bx bk
  by_cases hlt : k < l.length
  · rw [if_pos hlt, if_pos hlt]
    rcases hcode.2 with hn | ⟨b, off, rfl, hbB, hc⟩
    · rw [hn] at hlt; simp at hlt
    · have hz := hcode.1 k hlt
      have e : l.getD k 0 = l[k] := by rw [List.getD_eq_getElem?_getD, List.getElem?_eq_getElem hlt]; rfl
      rw [e]
      exact byte_in C k l.length cap b off h l[k] w hC hlt hl (by omega) (hc k hlt) hz.1 hz.2
  · rw [if_neg hlt, if_neg hlt]
    exact byte_past C k l.length cap a h w hC (by omega) (by omega) hl
/-- the state of a cursor: how many bytes were taken, the mixed number -/
def bv (l : List Int) (s : Nat × Int) : Int := bx l s.1 s.2
def ns (l : List Int) (s : Nat × Int) : Nat × Int := (bk l s.1, nh s.2)
theorem bv_bd (l : List Int) (s : Nat × Int) : 0 ≤ bv l s ∧ bv l s ≤ 255 := bx_bd l s.1 s.2
/-- a cursor over the bytes 'l' lies in block C of the world, in this state -/
structure At (B C cap : Nat) (a : Option Addr) (l : List Int) (w : World) (s : Nat × Int) : Prop where
  cur : Cur w C a l.length cap s.1 s.2
  le : s.1 ≤ l.length
  code : CodeAt B w a l
  hB : B ≤ C
  hl : l.length ≤ 1048576
theorem At.lt {B C cap : Nat} {a : Option Addr} {l : List Int} {w : World} {s : Nat × Int} (h : At B C cap a l w s) : C < w.heap.size := (Array.getElem?_eq_some_iff.1 (show w.heap[C]? = _ from h.cur)).1
theorem At.below {B C cap : Nat} {a : Option Addr} {l : List Int} {w w' : World} {s : Nat × Int} (h : At B C cap a l w s) (hb : Below w.heap.size w w') : At B C cap a l w' s :=
  ⟨(hb.block C h.lt).trans h.cur, h.le, h.code.below (hb.mono (by have := h.lt; have := h.hB; omega)), h.hB, h.hl⟩
theorem At.under {B C cap K : Nat} {a : Option Addr} {l : List Int} {w w' : World} {s : Nat × Int} (h : At B C cap a l w s) (hb : Below K w w') (hK : C < K) : At B C cap a l w' s :=
  ⟨(hb.block C hK).trans h.cur, h.le, h.code.below (hb.mono (by have := h.hB; omega)), h.hB, h.hl⟩
theorem At.alloc {B C cap : Nat} {a : Option Addr} {l : List Int} {w : World} {s : Nat × Int} (h : At B C cap a l w s) (o : Obj) : At B C cap a l (w.alloc o) s := h.below ((Below.refl _ _).alloc (Nat.le_refl _) _)
theorem At.drew {B C cap : Nat} {a : Option Addr} {l : List Int} {w : World} {s : Nat × Int} (h : At B C cap a l w s) : At B C cap a l w.drew s := h.below (Below.refl _ _).drew
theorem byte_at (B C cap : Nat) (a : Option Addr) (l : List Int) (w : World) (s : Nat × Int) (h : At B C cap a l w s) :
    Calls Tryz.prog 49 #[.pointer (some ⟨C, 0, none⟩)] w fun e w' => e = .returned (.int .i64 (bv l s)) ∧ At B C cap a l w' (ns l s) ∧ Only C w w' := by
  refine (byte_any B C s.1 cap a l s.2 w h.cur h.hB h.code h.hl h.le).mono ?_
  rintro e w' ⟨rfl, hc, ho⟩
  exact ⟨rfl, ⟨hc, bk_le l s.1 h.le, h.code.below (ho.below h.hB h.lt), h.hB, h.hl⟩, ho⟩
/-- a number below another, and the state then -/
def blv (l : List Int) (n : Int) (s : Nat × Int) : Int :=
  if n ≤ 0 then 0 else if n ≤ 256 then bv l s % n else (bv l s * 16777216 + bv l (ns l s) * 65536 + bv l (ns l (ns l s)) * 256 + bv l (ns l (ns l (ns l s)))) % n
def bls (l : List Int) (n : Int) (s : Nat × Int) : Nat × Int := if n ≤ 0 then s else if n ≤ 256 then ns l s else ns l (ns l (ns l (ns l s)))
theorem blv_bd (l : List Int) (n : Int) (s : Nat × Int) (h : 0 < n) : 0 ≤ blv l n s ∧ blv l n s < n := by
  unfold blv
  rw [if_neg (by omega)]
  split
  · exact ⟨Int.emod_nonneg _ (by omega), Int.emod_lt_of_pos _ h⟩
  · exact ⟨Int.emod_nonneg _ (by omega), Int.emod_lt_of_pos _ h⟩
set_option maxRecDepth 100000 in
set_option maxHeartbeats 1000000 in
theorem below_at (B C cap : Nat) (a : Option Addr) (l : List Int) (n : Int) (w : World) (s : Nat × Int) (h : At B C cap a l w s) (hn : n ≤ 4294967296) :
    Calls Tryz.prog 24 #[.pointer (some ⟨C, 0, none⟩), .int .i64 n] w fun e w' => e = .returned (.int .i64 (blv l n s)) ∧ At B C cap a l w' (bls l n s) ∧ Only C w w' := by
  by_cases h0 : n ≤ 0
  · have e1 : blv l n s = 0 := if_pos h0
    have e2 : bls l n s = s := if_pos h0
    rw [e1, e2]
    go_enter Tryz.func24, Tryz.ntmps24
    go_wp2
    go_ret
    exact ⟨rfl, h, Only.refl _ _⟩
  · have b1 := bv_bd l s
    by_cases h256 : n ≤ 256
    · have e1 : blv l n s = bv l s % n := by unfold blv; rw [if_neg h0, if_pos h256]
      have e2 : bls l n s = ns l s := by unfold bls; rw [if_neg h0, if_pos h256]
      rw [e1, e2]
      have hp : 0 < n := by omega
      clear e1 e2
      go_enter Tryz.func24, Tryz.ntmps24
      go_wp2_with fail
      refine (byte_at B C cap a l _ s h).mono ?_
      rintro e w1 ⟨rfl, h1, ho⟩
      go_wp2
      go_ret
      exact ⟨rfl, h1, ho⟩
    · have e1 : blv l n s = (bv l s * 16777216 + bv l (ns l s) * 65536 + bv l (ns l (ns l s)) * 256 + bv l (ns l (ns l (ns l s)))) % n := by unfold blv; rw [if_neg h0, if_neg h256]
      have e2 : bls l n s = ns l (ns l (ns l (ns l s))) := by unfold bls; rw [if_neg h0, if_neg h256]
      rw [e1, e2]
      have b2 := bv_bd l (ns l s)
      have b3 := bv_bd l (ns l (ns l s))
      have b4 := bv_bd l (ns l (ns l (ns l s)))
      have hp : 0 < n := by omega
      clear e1 e2
      go_enter Tryz.func24, Tryz.ntmps24
      go_wp2_with fail
      refine (byte_at B C cap a l _ s h).mono ?_
      rintro e w1 ⟨rfl, h1, o1⟩
      go_wp2_with fail
      refine (byte_at B C cap a l _ _ h1).mono ?_
      rintro e w2 ⟨rfl, h2, o2⟩
      go_wp2_with fail
      refine (byte_at B C cap a l _ _ h2).mono ?_
      rintro e w3 ⟨rfl, h3, o3⟩
      go_wp2_with fail
      refine (byte_at B C cap a l _ _ h3).mono ?_
      rintro e w4 ⟨rfl, h4, o4⟩
      go_wp2
      go_ret
      exact ⟨rfl, h4, ((o1.trans o2).trans o3).trans o4⟩
/-- the mixed number at first -/
def h0 (l : List Int) : Nat → Int
  | 0 => 10101 + l.length
  | i + 1 => bits .and .i64 (h0 l i * 131 + l.getD i 0 + 7) 1073741823
theorem h0_bd (l : List Int) (i : Nat) (hl : l.length ≤ 1048576) : 0 ≤ h0 l i ∧ h0 l i ≤ 1073741823 := by
  cases i with
  | zero => simp only [h0]; omega
  | succ i =>
    have key : ∀ n : Int, bits .and .i64 n 1073741823 = n % 1073741824 := by
      intro n
      have hk : (BitVec.ofInt 64 1073741823).toNat = 2 ^ 30 - 1 := by decide
      have key : (BitVec.ofInt 64 n &&& BitVec.ofInt 64 1073741823).toNat = (n % ((2 ^ 64 : Nat) : Int)).toNat % 2 ^ 30 := by
        rw [BitVec.toNat_and, BitVec.toNat_ofInt, hk, Nat.and_two_pow_sub_one_eq_mod]
      show IntKind.i64.wrap ((BitVec.ofInt 64 n &&& BitVec.ofInt 64 1073741823).toNat : Nat) = n % 1073741824
      rw [key, IntKind.wrap_i64]
      omega
    simp only [h0, key]
    omega
/-- what a new cursor begins with -/
def st0 (l : List Int) : Nat × Int := (0, h0 l (min l.length 4000))
theorem new_end {B cap k : Nat} {a : Option Addr} {l : List Int} (w : World) (hcode : CodeAt B w a l) (hB : B ≤ w.heap.size) (hl : l.length ≤ 1048576) (e : min l.length 4000 = k) :
    ∃ C, Ending.returned (.pointer (some ⟨w.heap.size, 0, none⟩)) = .returned (.pointer (some ⟨C, 0, none⟩)) ∧ w.heap.size ≤ C ∧ At B C cap a l (w.alloc (.cells #[.slice a l.length cap, .int .i64 0, .int .i64 (h0 l k)] 80)) (st0 l) ∧ Below w.heap.size w (w.alloc (.cells #[.slice a l.length cap, .int .i64 0, .int .i64 (h0 l k)] 80)) := by
  have hb : Below w.heap.size w (w.alloc (.cells #[.slice a l.length cap, .int .i64 0, .int .i64 (h0 l k)] 80)) := (Below.refl _ _).alloc (Nat.le_refl _) _
  refine ⟨w.heap.size, rfl, Nat.le_refl _, ⟨?_, Nat.zero_le _, hcode.below (hb.mono hB), hB, hl⟩, hb⟩
  show (w.alloc _).heap[w.heap.size]? = _
  rw [heap_alloc_new w _]
  simp only [st0, e]
  rfl
set_option maxRecDepth 100000 in
set_option maxHeartbeats 1000000 in
theorem new_at (B cap : Nat) (a : Option Addr) (l : List Int) (w : World) (hB : B ≤ w.heap.size) (hcode : CodeAt B w a l) (hl : l.length ≤ 1048576) :
    Calls Tryz.prog 21 #[.slice a l.length cap] w fun e w' => ∃ C, e = .returned (.pointer (some ⟨C, 0, none⟩)) ∧ w.heap.size ≤ C ∧ At B C cap a l w' (st0 l) ∧ Below w.heap.size w w' := by
  have HC := Num.hide hcode
  clear hcode
  go_enter Tryz.func21, Tryz.ntmps21
  go_wp2
  go_loop [3, 4] (fun h i => ∃ k : Nat, k ≤ l.length ∧ k ≤ 4000 ∧ i = .int .i64 k ∧ h = .int .i64 (h0 l k)) (fun _ i => 4000 - (intOf i).toNat)
  case atStart => exact ⟨0, by omega, by omega, rfl, rfl⟩
  case round =>
    obtain ⟨k, hk, hk4, rfl, rfl⟩ := hrel
    have hb := h0_bd l k hl
    by_cases hkl : k < l.length
    · by_cases h4 : k < 4000
      · rcases (Num.unhide HC).2 with hn | ⟨b, off, rfl, hbB, hc⟩
        · rw [hn] at hkl; simp at hkl
        · have hz := (Num.unhide HC).1 k hkl
          have hck := hc k hkl
          have hs : Hid (h0 l (k + 1) = bits .and .i64 (h0 l k * 131 + l[k] + 7) 1073741823) := by
            show _ = _
            simp only [h0]
            rw [List.getD_eq_getElem?_getD, List.getElem?_eq_getElem hkl]; rfl
          generalize l[k] = z at *
          have hkl' : (k : Int) < (l.length : Int) := by omega
          clear hc
          go_wp2
          go_round
          case rel => exact ⟨k + 1, by omega, by omega, by go_num, by rw [hs.out]⟩
          case measure => simp [intOf]; omega
      · have e := Num.hide (show min l.length 4000 = k by omega)
        go_wp2
        go_ret
        exact new_end w (Num.unhide HC) hB hl (Num.unhide e)
    · have e := Num.hide (show min l.length 4000 = k by omega)
      go_wp2
      go_ret
      exact new_end w (Num.unhide HC) hB hl (Num.unhide e)
end Draw
end Go.Proofs.YtjeokackmkfooaaGreatDoor
namespace Go.Proofs.YtjeokackmkfooaaGreatDoor
open Go.RowKit
set_option linter.unusedVariables false
namespace Draw

/-- a cursor over some bytes that lie below block B lies in block C -/
def Live (B C : Nat) (w : World) : Prop := ∃ cap a l s, At B C cap a l w s
theorem Live.lt {B C : Nat} {w : World} (h : Live B C w) : C < w.heap.size := by obtain ⟨_, _, _, _, h⟩ := h; exact h.lt
theorem Live.hB {B C : Nat} {w : World} (h : Live B C w) : B ≤ C := by obtain ⟨_, _, _, _, h⟩ := h; exact h.hB
theorem Live.below {B C : Nat} {w w' : World} (h : Live B C w) (hb : Below w.heap.size w w') : Live B C w' := by obtain ⟨_, _, _, _, h⟩ := h; exact ⟨_, _, _, _, h.below hb⟩
theorem Live.under {B C K : Nat} {w w' : World} (h : Live B C w) (hb : Below K w w') (hK : C < K) : Live B C w' := by obtain ⟨_, _, _, _, h⟩ := h; exact ⟨_, _, _, _, h.under hb hK⟩
theorem Live.alloc {B C : Nat} {w : World} (h : Live B C w) (o : Obj) : Live B C (w.alloc o) := h.below ((Below.refl _ _).alloc (Nat.le_refl _) _)
theorem below_live (B C : Nat) (n : Int) (w : World) (h : Live B C w) (h0 : 0 < n) (hn : n ≤ 4294967296) :
    Calls Tryz.prog 24 #[.pointer (some ⟨C, 0, none⟩), .int .i64 n] w fun e w' => ∃ z : Int, e = .returned (.int .i64 z) ∧ 0 ≤ z ∧ z < n ∧ Live B C w' ∧ Only C w w' := by
  obtain ⟨cap, a, l, s, h⟩ := h
  refine (below_at B C cap a l n w s h hn).mono ?_
  rintro e w' ⟨rfl, h2, ho⟩
  have := blv_bd l n s h0
  exact ⟨_, rfl, this.1, this.2, ⟨_, _, _, _, h2⟩, ho⟩
end Draw
end Go.Proofs.YtjeokackmkfooaaGreatDoor
namespace Go.Proofs.YtjeokackmkfooaaGreatDoor
open Go.RowKit
set_option linter.unusedVariables false
namespace Draw

/-- are they texts of at most 64 bytes? -/
def textsB (cs : Array Value) : Bool := cs.toList.all fun v => match v with | .string x => decide (x.size ≤ 64) | _ => false
theorem texts_at {cs : Array Value} (h : textsB cs = true) (i : Nat) (hi : i < cs.size) : ∃ x, cs[i]? = some (.string x) ∧ x.size ≤ 64 := by
  unfold textsB at h
  rw [List.all_eq_true] at h
  have h2 := h (cs[i]) (by simp)
  rw [Array.getElem?_eq_getElem hi]
  generalize cs[i] = v at h2
  cases v with
  | string x => exact ⟨x, rfl, of_decide_eq_true h2⟩
  | _ => cases h2
/-- are they such, too? -/
def textsQ (q : ByteArray → Bool) (cs : Array Value) : Bool := cs.toList.all fun v => match v with | .string x => decide (x.size ≤ 64) && q x | _ => false
theorem textsQ_at {q : ByteArray → Bool} {cs : Array Value} (h : textsQ q cs = true) (i : Nat) (hi : i < cs.size) : ∃ x, cs[i]? = some (.string x) ∧ x.size ≤ 64 ∧ q x = true := by
  unfold textsQ at h
  rw [List.all_eq_true] at h
  have h2 := h (cs[i]) (by simp)
  rw [Array.getElem?_eq_getElem hi]
  generalize cs[i] = v at h2
  cases v with
  | string x =>
    simp only [Bool.and_eq_true] at h2
    exact ⟨x, rfl, of_decide_eq_true h2.1, h2.2⟩
  | _ => cases h2
theorem textsQ_true {cs : Array Value} (h : textsB cs = true) : textsQ (fun _ => true) cs = true := by
  unfold textsB at h
  unfold textsQ
  rw [List.all_eq_true] at h ⊢
  intro v hv
  have h2 := h v hv
  cases v with
  | string x => simpa using h2
  | _ => cases h2
set_option maxRecDepth 100000 in
set_option maxHeartbeats 1000000 in
theorem pick_p (P : ByteArray → Prop) (B C R : Nat) (cs : Array Value) (n : Nat) (w : World) (h : Live B C w) (hR : R ≠ C) (hrow : w.heap[R]? = some (.cells cs 9)) (hn : cs.size = n) (h0 : 0 < n) (h1 : n ≤ 256) (ht : ∀ i, i < cs.size → ∃ x, cs[i]? = some (.string x) ∧ P x) :
    Calls Tryz.prog 42 #[.pointer (some ⟨C, 0, none⟩), .slice (some ⟨R, 0, none⟩) n n] w fun e w' => ∃ x, e = .returned (.string x) ∧ P x ∧ Live B C w' ∧ Only C w w' := by
  have HR := Num.hide hrow
  have HT := Num.hide ht
  have HN := Num.hide hn
  clear hrow ht hn
  go_enter Tryz.func42, Tryz.ntmps42
  go_wp2_with fail
  refine (below_live B C n _ h (by omega) (by omega)).mono ?_
  rintro e w1 ⟨z, rfl, hz0, hz1, hl, ho⟩
  obtain ⟨j, rfl⟩ := Int.eq_ofNat_of_zero_le hz0
  obtain ⟨x, hx, hq⟩ := Num.unhide HT j (by have := HN.out; omega)
  have hc : w1.cell? ⟨R, j, none⟩ = some (.string x) := by
    rw [cell_of_row w1 R j _ _ _ ((ho.block R (Array.getElem?_eq_some_iff.1 (Num.unhide HR)).1 hR).trans (Num.unhide HR))]
    exact hx
  have HQ := Num.hide hq
  clear hx hq
  have HL := Num.hide hl
  have HO := Num.hide ho
  clear hl ho
  go_wp2
  go_ret
  exact ⟨x, rfl, HQ.out, HL.out, HO.out⟩
theorem pick_q (q : ByteArray → Bool) (B C R : Nat) (cs : Array Value) (n : Nat) (w : World) (h : Live B C w) (hR : R ≠ C) (hrow : w.heap[R]? = some (.cells cs 9)) (hn : cs.size = n) (h0 : 0 < n) (h1 : n ≤ 256) (ht : textsQ q cs = true) :
    Calls Tryz.prog 42 #[.pointer (some ⟨C, 0, none⟩), .slice (some ⟨R, 0, none⟩) n n] w fun e w' => ∃ x, e = .returned (.string x) ∧ x.size ≤ 64 ∧ q x = true ∧ Live B C w' ∧ Only C w w' :=
  (pick_p (fun x => x.size ≤ 64 ∧ q x = true) B C R cs n w h hR hrow hn h0 h1 (fun i hi => textsQ_at ht i hi)).mono fun e w' ⟨x, h1, ⟨h2, h3⟩, h4⟩ => ⟨x, h1, h2, h3, h4⟩
theorem pick_live (B C R : Nat) (cs : Array Value) (n : Nat) (w : World) (h : Live B C w) (hR : R ≠ C) (hrow : w.heap[R]? = some (.cells cs 9)) (hn : cs.size = n) (h0 : 0 < n) (h1 : n ≤ 256) (ht : textsB cs = true) :
    Calls Tryz.prog 42 #[.pointer (some ⟨C, 0, none⟩), .slice (some ⟨R, 0, none⟩) n n] w fun e w' => ∃ x, e = .returned (.string x) ∧ x.size ≤ 64 ∧ Live B C w' ∧ Only C w w' :=
  (pick_q (fun _ => true) B C R cs n w h hR hrow hn h0 h1 (textsQ_true ht)).mono fun e w' ⟨x, h1, h2, _, h3, h4⟩ => ⟨x, h1, h2, h3, h4⟩
end Draw
end Go.Proofs.YtjeokackmkfooaaGreatDoor
