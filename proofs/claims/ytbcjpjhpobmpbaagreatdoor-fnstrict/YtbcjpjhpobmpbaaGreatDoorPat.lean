/-
  StoreCls: What forbids that an answer is stored: the closures of the program.
  StoreRun: Storable of the program: the list of what forbids it is gone through.
  RespOpen: A response that came in, as the law's argument: what it reads as.
  DrawByte: The specification's cursor over the bytes of a draw: what a byte of it is, and what the cursor holds then.
-/
import Derived.Test.YtbcjpjhpobmpbaaGreatDoorPaq
import Derived.Test.YtbcjpjhpobmpbaaGreatDoorPas
import Derived.Test.YtbcjpjhpobmpbaaGreatDoorPah
import Derived.Test.YtbcjpjhpobmpbaaGreatDoorPaa
import Derived.Deep.Cut
import Derived.LoopN
import Derived.FnLit
import Derived.Test.YtbcjpjhpobmpbaaGreatDoorPak
import Derived.Deep.Strs
import Derived.Test.YtbcjpjhpobmpbaaGreatDoorRows
import Derived.Test.YtbcjpjhpobmpbaaGreatDoorNum
import Derived.WalkKit
import Derived.WalkLawsBesides
import Derived.Outline
import Derived.BigQuiet
import Derived.Deep.QuietTactic
namespace Go.Proofs.YtbcjpjhpobmpbaaGreatDoor
open Go.RowKit
set_option linter.unusedVariables false
set_option linter.unusedSimpArgs false
namespace Pol
open Flds (Fld)
open Age (sMaxAge maxAge expiresName)

/-- the two boxes, and what the program's tables hold -/
abbrev SAt (w : World) (g : Nat) (m u : ByteArray) (v1 : Value) (l1 : List Fld) (b1 : ByteArray) (st : Int) (v2 : Value) (l2 : List Fld) (b2 : ByteArray) (W : World) : Prop := PAt w g m u v1 l1 b1 st v2 l2 b2 W ∧ LimS W
theorem SAt.step {w : World} {g : Nat} {m u : ByteArray} {v1 : Value} {l1 : List Fld} {b1 : ByteArray} {st : Int} {v2 : Value} {l2 : List Fld} {b2 : ByteArray} {W W' : World} (h : SAt w g m u v1 l1 b1 st v2 l2 b2 W) (hb : Below W.heap.size W W') : SAt w g m u v1 l1 b1 st v2 l2 b2 W' := ⟨PAt.step h.1 hb, h.2.below hb⟩
theorem SAt.q {w : World} {g : Nat} {m u : ByteArray} {v1 : Value} {l1 : List Fld} {b1 : ByteArray} {st : Int} {v2 : Value} {l2 : List Fld} {b2 : ByteArray} {W : World} (h : SAt w g m u v1 l1 b1 st v2 l2 b2 W) : Flds.Is W v1 l1 := h.1.2.2.2.2.2.2.2.1
theorem SAt.r {w : World} {g : Nat} {m u : ByteArray} {v1 : Value} {l1 : List Fld} {b1 : ByteArray} {st : Int} {v2 : Value} {l2 : List Fld} {b2 : ByteArray} {W : World} (h : SAt w g m u v1 l1 b1 st v2 l2 b2 W) : Flds.Is W v2 l2 := h.1.2.2.2.2.2.2.2.2.1
set_option maxRecDepth 100000 in
set_option maxHeartbeats 1000000 in
theorem store1_impl (w : World) (g : Nat) (m u : ByteArray) (v1 : Value) (l1 : List Fld) (b1 : ByteArray) (st : Int) (v2 : Value) (l2 : List Fld) (b2 : ByteArray) (W : World) (h : SAt w g m u v1 l1 b1 st v2 l2 b2 W) (hl1 : Flds.bulk l1 ≤ 1048576) (hl2 : Flds.bulk l2 + b2.size ≤ 1048576) :
    Calls Tryz.prog 48 #[.pointer (some ⟨g + 1, 0, none⟩)] W fun e w' => e = .returned (.bool (!Msg.respOk st l2 b2 || decide (st = 304))) ∧ Below W.heap.size W w' := by
  have K := Num.hide h
  have HH := Num.hide (Msg.respOk_impl st v2 l2 b2 W h.r (by omega) (by omega) h.2.2)
  have K1 := Num.hide (fun w1 hb => SAt.step (W' := w1) h hb)
  obtain ⟨av2, cv2, rfl, _⟩ := Flds.is_form h.r
  generalize Msg.respOk st l2 b2 = R at HH ⊢
  unfold Resp.val at HH
  obtain ⟨c0, c1, c2, c3, c4, c5, c6, -, -, -⟩ := K.out.1
  clear h
  go_enter Tryz.func48, Tryz.ntmps48
  go_wp2_with fail
  refine HH.out.mono ?_
  rintro e w1 ⟨rfl, hb⟩
  have HB := Num.hide hb
  have K2 := Num.hide (K1.out _ hb)
  clear hb c0 c1 c2 c3 c4 c5 c6 K K1 HH
  obtain ⟨c0, c1, c2, c3, c4, c5, c6, -, -, -⟩ := K2.out.1
  cases R with
  | false =>
    go_wp2
    go_ret
    exact ⟨rfl, HB.out⟩
  | true =>
    by_cases hs : st = 304
    · have d1 : (st == 304) = true := beq_iff_eq.2 hs
      have d2 : decide (st = 304) = true := decide_eq_true hs
      go_wp2
      go_ret
      exact ⟨by rw [d2]; rfl, HB.out⟩
    · have d1 : (st == 304) = false := beq_eq_false_iff_ne.2 hs
      have d2 : decide (st = 304) = false := decide_eq_false hs
      go_wp2
      go_ret
      exact ⟨by rw [d2]; rfl, HB.out⟩
set_option maxRecDepth 100000 in
set_option maxHeartbeats 1000000 in
theorem store2_impl (w : World) (g : Nat) (m u : ByteArray) (v1 : Value) (l1 : List Fld) (b1 : ByteArray) (st : Int) (v2 : Value) (l2 : List Fld) (b2 : ByteArray) (W : World) (h : SAt w g m u v1 l1 b1 st v2 l2 b2 W) (hl1 : Flds.bulk l1 ≤ 1048576) (hl2 : Flds.bulk l2 + b2.size ≤ 1048576) :
    Calls Tryz.prog 50 #[.pointer (some ⟨g, 0, none⟩)] W fun e w' => e = .returned (.bool (!decide (m = getM))) ∧ Below W.heap.size W w' := by
  have K := Num.hide h
  obtain ⟨c0, c1, c2, c3, c4, c5, c6, -, -, -⟩ := K.out.1
  clear h
  by_cases hm : m = getM
  · have d0 := text_is (y := [71, 69, 84]) hm
    have d1 : (m.toList != [71, 69, 84]) = false := by rw [bne, d0]; rfl
    rw [decide_eq_true hm]
    clear hm
    go_enter Tryz.func50, Tryz.ntmps50
    go_wp2
    go_ret
    exact ⟨rfl, Below.refl _ _⟩
  · have d0 := text_not (y := [71, 69, 84]) hm
    have d1 : (m.toList != [71, 69, 84]) = true := by rw [bne, d0]; rfl
    rw [decide_eq_false hm]
    clear hm
    go_enter Tryz.func50, Tryz.ntmps50
    go_wp2
    go_ret
    exact ⟨rfl, Below.refl _ _⟩
set_option maxRecDepth 100000 in
set_option maxHeartbeats 1000000 in
theorem store3_impl (w : World) (g : Nat) (m u : ByteArray) (v1 : Value) (l1 : List Fld) (b1 : ByteArray) (st : Int) (v2 : Value) (l2 : List Fld) (b2 : ByteArray) (W : World) (h : SAt w g m u v1 l1 b1 st v2 l2 b2 W) (hl1 : Flds.bulk l1 ≤ 1048576) (hl2 : Flds.bulk l2 + b2.size ≤ 1048576) :
    Calls Tryz.prog 51 #[.pointer (some ⟨g, 0, none⟩), .pointer (some ⟨g + 1, 0, none⟩)] W fun e w' => e = .returned (.bool (said l1 noStore || said l2 noStore)) ∧ Below W.heap.size W w' := by
  have K := Num.hide h
  have HA := Num.hide (Cc.has_impl v1 l1 noStore W h.q hl1 (by decide) h.2.1 h.2.2)
  have HC := Num.hide (fun W (h : SAt w g m u v1 l1 b1 st v2 l2 b2 W) => Cc.has_impl v2 l2 noStore W h.r (by omega) (by decide) h.2.1 h.2.2)
  unfold said
  generalize Cc.has (Cc.dirs l1) noStore = R1 at HA ⊢
  generalize Cc.has (Cc.dirs l2) noStore = R2 at HC ⊢
  obtain ⟨c0, c1, c2, c3, c4, c5, c6, -, -, -⟩ := K.out.1
  clear h
  go_enter Tryz.func51, Tryz.ntmps51
  go_wp2_with fail
  refine HA.out.mono ?_
  rintro e w1 ⟨rfl, hb⟩
  have HB := Num.hide hb
  have K2 := Num.hide (SAt.step K.out hb)
  clear hb c0 c1 c2 c3 c4 c5 c6 K HA
  obtain ⟨c0, c1, c2, c3, c4, c5, c6, -, -, -⟩ := K2.out.1
  cases R1 with
  | true =>
    go_wp2
    go_ret
    exact ⟨rfl, HB.out⟩
  | false =>
    go_wp2_with fail
    refine (HC.out _ K2.out).mono ?_
    rintro e w2 ⟨rfl, hb⟩
    have HB2 := Num.hide (HB.out.trans (hb.mono HB.out.size))
    clear hb HB
    go_wp2
    go_ret
    exact ⟨rfl, HB2.out⟩
set_option maxRecDepth 100000 in
set_option maxHeartbeats 1000000 in
theorem store4_impl (w : World) (g : Nat) (m u : ByteArray) (v1 : Value) (l1 : List Fld) (b1 : ByteArray) (st : Int) (v2 : Value) (l2 : List Fld) (b2 : ByteArray) (W : World) (h : SAt w g m u v1 l1 b1 st v2 l2 b2 W) (hl1 : Flds.bulk l1 ≤ 1048576) (hl2 : Flds.bulk l2 + b2.size ≤ 1048576) :
    Calls Tryz.prog 53 #[.pointer (some ⟨g + 1, 0, none⟩)] W fun e w' => e = .returned (.bool (said l2 priv)) ∧ Below W.heap.size W w' := by
  have K := Num.hide h
  have HA := Num.hide (Cc.has_impl v2 l2 priv W h.r (by omega) (by decide) h.2.1 h.2.2)
  unfold said
  generalize Cc.has (Cc.dirs l2) priv = R1 at HA ⊢
  obtain ⟨c0, c1, c2, c3, c4, c5, c6, -, -, -⟩ := K.out.1
  clear h
  go_enter Tryz.func53, Tryz.ntmps53
  go_wp2_with fail
  refine HA.out.mono ?_
  rintro e w1 ⟨rfl, hb⟩
  have HB := Num.hide hb
  clear hb
  go_wp2
  go_ret
  exact ⟨rfl, HB.out⟩
set_option maxRecDepth 100000 in
set_option maxHeartbeats 1000000 in
theorem store5_impl (w : World) (g : Nat) (m u : ByteArray) (v1 : Value) (l1 : List Fld) (b1 : ByteArray) (st : Int) (v2 : Value) (l2 : List Fld) (b2 : ByteArray) (W : World) (h : SAt w g m u v1 l1 b1 st v2 l2 b2 W) (hl1 : Flds.bulk l1 ≤ 1048576) (hl2 : Flds.bulk l2 + b2.size ≤ 1048576) :
    Calls Tryz.prog 54 #[.pointer (some ⟨g + 1, 0, none⟩)] W fun e w' => e = .returned (.bool (starred (Sign.split (Flds.get l2 varyName).1))) ∧ Below W.heap.size W w' := by
  have K := Num.hide h
  have HA := Num.hide (varies_impl v2 l2 W h.r (by omega))
  generalize starred (Sign.split (Flds.get l2 varyName).1) = R1 at HA ⊢
  obtain ⟨c0, c1, c2, c3, c4, c5, c6, -, -, -⟩ := K.out.1
  clear h
  go_enter Tryz.func54, Tryz.ntmps54
  go_wp2_with fail
  refine HA.out.mono ?_
  rintro e w1 ⟨rfl, hb⟩
  have HB := Num.hide hb
  clear hb
  go_wp2
  go_ret
  exact ⟨rfl, HB.out⟩
set_option maxRecDepth 100000 in
set_option maxHeartbeats 1000000 in
theorem store6_impl (w : World) (g : Nat) (m u : ByteArray) (v1 : Value) (l1 : List Fld) (b1 : ByteArray) (st : Int) (v2 : Value) (l2 : List Fld) (b2 : ByteArray) (W : World) (h : SAt w g m u v1 l1 b1 st v2 l2 b2 W) (hl1 : Flds.bulk l1 ≤ 1048576) (hl2 : Flds.bulk l2 + b2.size ≤ 1048576) :
    Calls Tryz.prog 56 #[.pointer (some ⟨g, 0, none⟩), .pointer (some ⟨g + 1, 0, none⟩)] W fun e w' => e = .returned (.bool ((Flds.get l1 authName).2 && !(said l2 publ || said l2 sMaxAge || said l2 mustRe))) ∧ Below W.heap.size W w' := by
  have K := Num.hide h
  have HA := Num.hide (auth_impl v1 l1 W h.q (by omega))
  have HC := Num.hide (fun W (h : SAt w g m u v1 l1 b1 st v2 l2 b2 W) => shared_impl v2 l2 W h.r (by omega) h.2)
  generalize (Flds.get l1 authName).2 = R1 at HA ⊢
  obtain ⟨R2, hR2⟩ : ∃ R2, (said l2 publ || said l2 sMaxAge || said l2 mustRe) = R2 := ⟨_, rfl⟩
  rw [hR2] at HC ⊢
  obtain ⟨c0, c1, c2, c3, c4, c5, c6, -, -, -⟩ := K.out.1
  clear h hR2
  go_enter Tryz.func56, Tryz.ntmps56
  go_wp2_with fail
  refine HA.out.mono ?_
  rintro e w1 ⟨rfl, hb⟩
  have HB := Num.hide hb
  have K2 := Num.hide (SAt.step K.out hb)
  clear hb c0 c1 c2 c3 c4 c5 c6 K HA
  obtain ⟨c0, c1, c2, c3, c4, c5, c6, -, -, -⟩ := K2.out.1
  cases R1 with
  | false =>
    go_wp2
    go_ret
    exact ⟨rfl, HB.out⟩
  | true =>
    go_wp2_with fail
    refine (HC.out _ K2.out).mono ?_
    rintro e w2 ⟨rfl, hb⟩
    have HB2 := Num.hide (HB.out.trans (hb.mono HB.out.size))
    clear hb HB
    go_wp2
    go_ret
    exact ⟨rfl, HB2.out⟩
set_option maxRecDepth 100000 in
set_option maxHeartbeats 1000000 in
theorem store7_impl (w : World) (g : Nat) (m u : ByteArray) (v1 : Value) (l1 : List Fld) (b1 : ByteArray) (st : Int) (v2 : Value) (l2 : List Fld) (b2 : ByteArray) (W : World) (h : SAt w g m u v1 l1 b1 st v2 l2 b2 W) (hl1 : Flds.bulk l1 ≤ 1048576) (hl2 : Flds.bulk l2 + b2.size ≤ 1048576) :
    Calls Tryz.prog 59 #[.pointer (some ⟨g + 1, 0, none⟩)] W fun e w' => e = .returned (.bool (!heuristic st && !((Flds.get l2 expiresName).2 || (said l2 publ || said l2 maxAge || said l2 sMaxAge)))) ∧ Below W.heap.size W w' := by
  have K := Num.hide h
  have HA := Num.hide (heuristic_impl_b st W)
  have HC := Num.hide (fun W (h : SAt w g m u v1 l1 b1 st v2 l2 b2 W) => meant_impl v2 l2 W h.r (by omega) h.2)
  generalize heuristic st = R1 at HA ⊢
  obtain ⟨R2, hR2⟩ : ∃ R2, ((Flds.get l2 expiresName).2 || (said l2 publ || said l2 maxAge || said l2 sMaxAge)) = R2 := ⟨_, rfl⟩
  rw [hR2] at HC ⊢
  obtain ⟨c0, c1, c2, c3, c4, c5, c6, -, -, -⟩ := K.out.1
  clear h hR2
  go_enter Tryz.func59, Tryz.ntmps59
  go_wp2_with fail
  refine HA.out.mono ?_
  rintro e w1 ⟨rfl, hb⟩
  have HB := Num.hide hb
  have K2 := Num.hide (SAt.step K.out hb)
  clear hb c0 c1 c2 c3 c4 c5 c6 K HA
  obtain ⟨c0, c1, c2, c3, c4, c5, c6, -, -, -⟩ := K2.out.1
  cases R1 with
  | true =>
    go_wp2
    go_ret
    exact ⟨rfl, HB.out⟩
  | false =>
    go_wp2_with fail
    refine (HC.out _ K2.out).mono ?_
    rintro e w2 ⟨rfl, hb⟩
    have HB2 := Num.hide (HB.out.trans (hb.mono HB.out.size))
    clear hb HB
    go_wp2
    go_ret
    exact ⟨rfl, HB2.out⟩
theorem store_bars (m : ByteArray) (l1 : List Fld) (st : Int) (l2 : List Fld) (b2 : ByteArray) : storable m l1 st l2 b2 = !((!Msg.respOk st l2 b2 || decide (st = 304)) || (!decide (m = getM)) || (said l1 noStore || said l2 noStore) || said l2 priv || starred (Sign.split (Flds.get l2 varyName).1) || ((Flds.get l1 authName).2 && !(said l2 publ || said l2 sMaxAge || said l2 mustRe)) || (!heuristic st && !((Flds.get l2 expiresName).2 || (said l2 publ || said l2 maxAge || said l2 sMaxAge)))) := by
  unfold storable barred alone letsBe
  rw [decide_not]
  generalize Msg.respOk st l2 b2 = x1
  generalize decide (st = 304) = x2
  generalize decide (m = getM) = x3
  generalize said l1 noStore = x4
  generalize said l2 noStore = x5
  generalize said l2 priv = x6
  generalize starred (Sign.split (Flds.get l2 varyName).1) = x7
  generalize (Flds.get l1 authName).2 = x8
  generalize said l2 publ = x9
  generalize said l2 sMaxAge = x10
  generalize said l2 mustRe = x11
  generalize heuristic st = x12
  generalize (Flds.get l2 expiresName).2 = x13
  generalize said l2 maxAge = x14
  cases x1 <;> cases x2 <;> cases x3 <;> cases x4 <;> cases x5 <;> cases x6 <;> cases x7 <;> simp only [Bool.not_true, Bool.not_false, Bool.true_and, Bool.and_true, Bool.false_and, Bool.and_false, Bool.true_or, Bool.or_true, Bool.false_or, Bool.or_false]
  cases x8 <;> cases x9 <;> cases x10 <;> cases x11 <;> cases x12 <;> cases x13 <;> cases x14 <;> rfl
end Pol
end Go.Proofs.YtbcjpjhpobmpbaaGreatDoor
namespace Go.Proofs.YtbcjpjhpobmpbaaGreatDoor
open Go.RowKit
set_option linter.unusedVariables false
set_option linter.unusedSimpArgs false
namespace Pol
open Flds (Fld)
open Age (sMaxAge maxAge expiresName)

set_option maxRecDepth 100000 in
set_option maxHeartbeats 4000000 in
theorem store_allows (Q : World → Prop) (hQ : ∀ W W', Q W → Below W.heap.size W W' → Q W') (g a : Nat) (B1 B2 B3 B4 B5 B6 B7 : Bool)
    (hc1 : ∀ W, Q W → W.cell? ⟨a, 0, none⟩ = some (.func (.func 48) #[] #[.pointer (some ⟨g + 1, 0, none⟩)]))
    (hc2 : ∀ W, Q W → W.cell? ⟨a, 1, none⟩ = some (.func (.func 50) #[] #[.pointer (some ⟨g, 0, none⟩)]))
    (hc3 : ∀ W, Q W → W.cell? ⟨a, 2, none⟩ = some (.func (.func 51) #[] #[.pointer (some ⟨g, 0, none⟩), .pointer (some ⟨g + 1, 0, none⟩)]))
    (hc4 : ∀ W, Q W → W.cell? ⟨a, 3, none⟩ = some (.func (.func 53) #[] #[.pointer (some ⟨g + 1, 0, none⟩)]))
    (hc5 : ∀ W, Q W → W.cell? ⟨a, 4, none⟩ = some (.func (.func 54) #[] #[.pointer (some ⟨g + 1, 0, none⟩)]))
    (hc6 : ∀ W, Q W → W.cell? ⟨a, 5, none⟩ = some (.func (.func 56) #[] #[.pointer (some ⟨g, 0, none⟩), .pointer (some ⟨g + 1, 0, none⟩)]))
    (hc7 : ∀ W, Q W → W.cell? ⟨a, 6, none⟩ = some (.func (.func 59) #[] #[.pointer (some ⟨g + 1, 0, none⟩)]))
    (h1 : ∀ W, Q W → Calls Tryz.prog 48 #[.pointer (some ⟨g + 1, 0, none⟩)] W fun e w' => e = .returned (.bool B1) ∧ Below W.heap.size W w')
    (h2 : ∀ W, Q W → Calls Tryz.prog 50 #[.pointer (some ⟨g, 0, none⟩)] W fun e w' => e = .returned (.bool B2) ∧ Below W.heap.size W w')
    (h3 : ∀ W, Q W → Calls Tryz.prog 51 #[.pointer (some ⟨g, 0, none⟩), .pointer (some ⟨g + 1, 0, none⟩)] W fun e w' => e = .returned (.bool B3) ∧ Below W.heap.size W w')
    (h4 : ∀ W, Q W → Calls Tryz.prog 53 #[.pointer (some ⟨g + 1, 0, none⟩)] W fun e w' => e = .returned (.bool B4) ∧ Below W.heap.size W w')
    (h5 : ∀ W, Q W → Calls Tryz.prog 54 #[.pointer (some ⟨g + 1, 0, none⟩)] W fun e w' => e = .returned (.bool B5) ∧ Below W.heap.size W w')
    (h6 : ∀ W, Q W → Calls Tryz.prog 56 #[.pointer (some ⟨g, 0, none⟩), .pointer (some ⟨g + 1, 0, none⟩)] W fun e w' => e = .returned (.bool B6) ∧ Below W.heap.size W w')
    (h7 : ∀ W, Q W → Calls Tryz.prog 59 #[.pointer (some ⟨g + 1, 0, none⟩)] W fun e w' => e = .returned (.bool B7) ∧ Below W.heap.size W w')
    (w : World) (hq : Q w) :
    Calls Tryz.prog 28 #[.agg #[.slice (some ⟨a, 0, none⟩) 7 7]] w fun e w' => e = .returned (.bool (!(B1 || B2 || B3 || B4 || B5 || B6 || B7))) ∧ Below w.heap.size w w' := by
  have HC1 := Num.hide hc1
  have H1 := Num.hide h1
  have HC2 := Num.hide hc2
  have H2 := Num.hide h2
  have HC3 := Num.hide hc3
  have H3 := Num.hide h3
  have HC4 := Num.hide hc4
  have H4 := Num.hide h4
  have HC5 := Num.hide hc5
  have H5 := Num.hide h5
  have HC6 := Num.hide hc6
  have H6 := Num.hide h6
  have HC7 := Num.hide hc7
  have H7 := Num.hide h7
  have HQ := Num.hide hQ
  obtain ⟨r, hr⟩ : ∃ r, (!(B1 || B2 || B3 || B4 || B5 || B6 || B7)) = r := ⟨_, rfl⟩
  rw [hr]
  have HR := Num.hide hr
  have hb0 : Below w.heap.size w (w.alloc (.cells #[.slice (some ⟨a, 0, none⟩) 7 7] 61)) := (Below.refl _ _).alloc (Nat.le_refl _) _
  have HQ1 := Num.hide (hQ _ _ hq hb0)
  have HB1 := Num.hide hb0
  have X1 := Num.hide (heap_alloc_new w (.cells #[.slice (some ⟨a, 0, none⟩) 7 7] 61))
  have hent1 : ∀ args W, (callFunc 48 args).run Tryz.prog W = .ok (.enter 48 args) W := enters_of Tryz.func48 (by kernel_rfl) rfl
  have hent2 : ∀ args W, (callFunc 50 args).run Tryz.prog W = .ok (.enter 50 args) W := enters_of Tryz.func50 (by kernel_rfl) rfl
  have hent3 : ∀ args W, (callFunc 51 args).run Tryz.prog W = .ok (.enter 51 args) W := enters_of Tryz.func51 (by kernel_rfl) rfl
  have hent4 : ∀ args W, (callFunc 53 args).run Tryz.prog W = .ok (.enter 53 args) W := enters_of Tryz.func53 (by kernel_rfl) rfl
  have hent5 : ∀ args W, (callFunc 54 args).run Tryz.prog W = .ok (.enter 54 args) W := enters_of Tryz.func54 (by kernel_rfl) rfl
  have hent6 : ∀ args W, (callFunc 56 args).run Tryz.prog W = .ok (.enter 56 args) W := enters_of Tryz.func56 (by kernel_rfl) rfl
  have hent7 : ∀ args W, (callFunc 59 args).run Tryz.prog W = .ok (.enter 59 args) W := enters_of Tryz.func59 (by kernel_rfl) rfl
  clear hr hq hQ hb0 hc1 h1 hc2 h2 hc3 h3 hc4 h4 hc5 h5 hc6 h6 hc7 h7
  go_enter Tryz.func28, Tryz.ntmps28
  go_upto_region 1 with fail
  generalize w.alloc (.cells #[.slice (some ⟨a, 0, none⟩) 7 7] 61) = w1 at HQ1 HB1 X1 ⊢
  have c0 : w1.cell? ⟨w.heap.size, 0, none⟩ = some (.slice (some ⟨a, 0, none⟩) 7 7) := Recs.box_cell X1.out 0
  go_wp2_with fail
  refine wp_loop_rounds 8 ?_
  clear c0 X1
  have k1 := HC1.out _ HQ1.out
  rw [rounds_succ]
  go_wp2_with fail
  refine (H1.out _ HQ1.out).mono ?_
  rintro e w2 ⟨rfl, hb⟩
  have HQ2 := Num.hide (HQ.out _ _ HQ1.out hb)
  have HB2 := Num.hide (HB1.out.trans (hb.mono HB1.out.size))
  clear hb k1 HQ1 HB1 H1 HC1 hent1
  cases B1 with
  | true =>
    obtain rfl : r = false := by rw [← HR.out]; simp
    clear HR HQ2
    go_wp2
    go_ret
    exact ⟨rfl, HB2.out⟩
  | false =>
  go_wp2_with fail
  have k2 := HC2.out _ HQ2.out
  rw [rounds_succ]
  go_wp2_with fail
  refine (H2.out _ HQ2.out).mono ?_
  rintro e w3 ⟨rfl, hb⟩
  have HQ3 := Num.hide (HQ.out _ _ HQ2.out hb)
  have HB3 := Num.hide (HB2.out.trans (hb.mono HB2.out.size))
  clear hb k2 HQ2 HB2 H2 HC2 hent2
  cases B2 with
  | true =>
    obtain rfl : r = false := by rw [← HR.out]; simp
    clear HR HQ3
    go_wp2
    go_ret
    exact ⟨rfl, HB3.out⟩
  | false =>
  go_wp2_with fail
  have k3 := HC3.out _ HQ3.out
  rw [rounds_succ]
  go_wp2_with fail
  refine (H3.out _ HQ3.out).mono ?_
  rintro e w4 ⟨rfl, hb⟩
  have HQ4 := Num.hide (HQ.out _ _ HQ3.out hb)
  have HB4 := Num.hide (HB3.out.trans (hb.mono HB3.out.size))
  clear hb k3 HQ3 HB3 H3 HC3 hent3
  cases B3 with
  | true =>
    obtain rfl : r = false := by rw [← HR.out]; simp
    clear HR HQ4
    go_wp2
    go_ret
    exact ⟨rfl, HB4.out⟩
  | false =>
  go_wp2_with fail
  have k4 := HC4.out _ HQ4.out
  rw [rounds_succ]
  go_wp2_with fail
  refine (H4.out _ HQ4.out).mono ?_
  rintro e w5 ⟨rfl, hb⟩
  have HQ5 := Num.hide (HQ.out _ _ HQ4.out hb)
  have HB5 := Num.hide (HB4.out.trans (hb.mono HB4.out.size))
  clear hb k4 HQ4 HB4 H4 HC4 hent4
  cases B4 with
  | true =>
    obtain rfl : r = false := by rw [← HR.out]; simp
    clear HR HQ5
    go_wp2
    go_ret
    exact ⟨rfl, HB5.out⟩
  | false =>
  go_wp2_with fail
  have k5 := HC5.out _ HQ5.out
  rw [rounds_succ]
  go_wp2_with fail
  refine (H5.out _ HQ5.out).mono ?_
  rintro e w6 ⟨rfl, hb⟩
  have HQ6 := Num.hide (HQ.out _ _ HQ5.out hb)
  have HB6 := Num.hide (HB5.out.trans (hb.mono HB5.out.size))
  clear hb k5 HQ5 HB5 H5 HC5 hent5
  cases B5 with
  | true =>
    obtain rfl : r = false := by rw [← HR.out]; simp
    clear HR HQ6
    go_wp2
    go_ret
    exact ⟨rfl, HB6.out⟩
  | false =>
  go_wp2_with fail
  have k6 := HC6.out _ HQ6.out
  rw [rounds_succ]
  go_wp2_with fail
  refine (H6.out _ HQ6.out).mono ?_
  rintro e w7 ⟨rfl, hb⟩
  have HQ7 := Num.hide (HQ.out _ _ HQ6.out hb)
  have HB7 := Num.hide (HB6.out.trans (hb.mono HB6.out.size))
  clear hb k6 HQ6 HB6 H6 HC6 hent6
  cases B6 with
  | true =>
    obtain rfl : r = false := by rw [← HR.out]; simp
    clear HR HQ7
    go_wp2
    go_ret
    exact ⟨rfl, HB7.out⟩
  | false =>
  go_wp2_with fail
  have k7 := HC7.out _ HQ7.out
  rw [rounds_succ]
  go_wp2_with fail
  refine (H7.out _ HQ7.out).mono ?_
  rintro e w8 ⟨rfl, hb⟩
  have HQ8 := Num.hide (HQ.out _ _ HQ7.out hb)
  have HB8 := Num.hide (HB7.out.trans (hb.mono HB7.out.size))
  clear hb k7 HQ7 HB7 H7 HC7 hent7
  cases B7 with
  | true =>
    obtain rfl : r = false := by rw [← HR.out]; simp
    clear HR HQ8
    go_wp2
    go_ret
    exact ⟨rfl, HB8.out⟩
  | false =>
  go_wp2_with fail
  rw [rounds_succ]
  obtain rfl : r = true := by rw [← HR.out]; rfl
  clear HR HQ8
  go_wp2
  go_ret
  exact ⟨rfl, HB8.out⟩
/-- the boxes and the list of what forbids -/
abbrev LAt (w : World) (g : Nat) (m u : ByteArray) (v1 : Value) (l1 : List Fld) (b1 : ByteArray) (st : Int) (v2 : Value) (l2 : List Fld) (b2 : ByteArray) (a : Nat) (W : World) : Prop := SAt w g m u v1 l1 b1 st v2 l2 b2 W ∧ W.cell? ⟨a, 0, none⟩ = some (.func (.func 48) #[] #[.pointer (some ⟨g + 1, 0, none⟩)]) ∧ W.cell? ⟨a, 1, none⟩ = some (.func (.func 50) #[] #[.pointer (some ⟨g, 0, none⟩)]) ∧ W.cell? ⟨a, 2, none⟩ = some (.func (.func 51) #[] #[.pointer (some ⟨g, 0, none⟩), .pointer (some ⟨g + 1, 0, none⟩)]) ∧ W.cell? ⟨a, 3, none⟩ = some (.func (.func 53) #[] #[.pointer (some ⟨g + 1, 0, none⟩)]) ∧ W.cell? ⟨a, 4, none⟩ = some (.func (.func 54) #[] #[.pointer (some ⟨g + 1, 0, none⟩)]) ∧ W.cell? ⟨a, 5, none⟩ = some (.func (.func 56) #[] #[.pointer (some ⟨g, 0, none⟩), .pointer (some ⟨g + 1, 0, none⟩)]) ∧ W.cell? ⟨a, 6, none⟩ = some (.func (.func 59) #[] #[.pointer (some ⟨g + 1, 0, none⟩)])
theorem LAt.step {w : World} {g : Nat} {m u : ByteArray} {v1 : Value} {l1 : List Fld} {b1 : ByteArray} {st : Int} {v2 : Value} {l2 : List Fld} {b2 : ByteArray} {a : Nat} {W W' : World} (h : LAt w g m u v1 l1 b1 st v2 l2 b2 a W) (hb : Below W.heap.size W W') : LAt w g m u v1 l1 b1 st v2 l2 b2 a W' := by
  obtain ⟨h0, k0, k1, k2, k3, k4, k5, k6⟩ := h
  have la : a < W.heap.size := Recs.lt_of_cell k0
  exact ⟨SAt.step h0 hb, (hb.cell (p := ⟨a, 0, none⟩) la).trans k0, (hb.cell (p := ⟨a, 1, none⟩) la).trans k1, (hb.cell (p := ⟨a, 2, none⟩) la).trans k2, (hb.cell (p := ⟨a, 3, none⟩) la).trans k3, (hb.cell (p := ⟨a, 4, none⟩) la).trans k4, (hb.cell (p := ⟨a, 5, none⟩) la).trans k5, (hb.cell (p := ⟨a, 6, none⟩) la).trans k6⟩
set_option maxRecDepth 100000 in
set_option maxHeartbeats 2000000 in
theorem storing_impl (m u : ByteArray) (st : Int) (v1 v2 : Value) (l1 l2 : List Fld) (b1 b2 : ByteArray) (w : World) (h1 : Flds.Is w v1 l1) (h2 : Flds.Is w v2 l2) (hE : LimS w) :
    Calls Tryz.prog 27 #[Req.val m u v1 b1, Resp.val st v2 b2] w fun e w' => e = .returned (.agg #[.slice (some ⟨w.heap.size + 3, 0, none⟩) 7 7]) ∧ LAt w w.heap.size m u v1 l1 b1 st v2 l2 b2 (w.heap.size + 3) w' := by
  have hmf : ∀ (fn : Fn) (first cap : Array Value) (w : World), (Instr.makeFunc fn first cap).run Tryz.prog w = .ok (.func fn first cap) w := fun _ _ _ _ => rfl
  have K0 := Num.hide (pat_first w m u v1 l1 b1 st v2 l2 b2 h1 h2)
  have hb0 : Below w.heap.size w ((w.alloc (.cells #[.string m, .string u, v1, .string b1] 32)).alloc (.cells #[.int .i64 st, v2, .string b2] 35)) := K0.out.2.2.2.2.2.2.2.2.2
  have K1 := Num.hide (hE.below hb0)
  have z0 : ((w.alloc (.cells #[.string m, .string u, v1, .string b1] 32)).alloc (.cells #[.int .i64 st, v2, .string b2] 35)).heap.size = w.heap.size + 2 := by rw [World.size_alloc, World.size_alloc]
  obtain ⟨av1, cv1, rfl, _⟩ := Flds.is_form h1
  obtain ⟨av2, cv2, rfl, _⟩ := Flds.is_form h2
  unfold Req.val Resp.val
  clear h1 h2 hE hb0
  go_enter Tryz.func27, Tryz.ntmps27
  go_upto_region 1 with fail
  generalize (w.alloc (.cells #[.string m, .string u, .slice av1 l1.length cv1, .string b1] 32)).alloc (.cells #[.int .i64 st, .slice av2 l2.length cv2, .string b2] 35) = w0 at K0 K1 z0 ⊢
  go_wp2
  have x1 : ((w0.alloc (.cells #[.slice (some ⟨w.heap.size + 2 + 1, 0, none⟩) 7 7] 61)).alloc (.cells #[.func (.func 48) #[] #[.pointer (some ⟨w.heap.size + 1, 0, none⟩)], .func (.func 50) #[] #[.pointer (some ⟨w.heap.size, 0, none⟩)], .func (.func 51) #[] #[.pointer (some ⟨w.heap.size, 0, none⟩), .pointer (some ⟨w.heap.size + 1, 0, none⟩)], .func (.func 53) #[] #[.pointer (some ⟨w.heap.size + 1, 0, none⟩)], .func (.func 54) #[] #[.pointer (some ⟨w.heap.size + 1, 0, none⟩)], .func (.func 56) #[] #[.pointer (some ⟨w.heap.size, 0, none⟩), .pointer (some ⟨w.heap.size + 1, 0, none⟩)], .func (.func 59) #[] #[.pointer (some ⟨w.heap.size + 1, 0, none⟩)]] 63)).heap[w.heap.size + 2]? = some (.cells #[.slice (some ⟨w.heap.size + 2 + 1, 0, none⟩) 7 7] 61) := by
    rw [heap_alloc_old _ _ (by rw [World.size_alloc]; omega)]
    have := heap_alloc_new w0 (.cells #[.slice (some ⟨w.heap.size + 2 + 1, 0, none⟩) 7 7] 61)
    rwa [z0] at this
  have y1 : ((w0.alloc (.cells #[.slice (some ⟨w.heap.size + 2 + 1, 0, none⟩) 7 7] 61)).alloc (.cells #[.func (.func 48) #[] #[.pointer (some ⟨w.heap.size + 1, 0, none⟩)], .func (.func 50) #[] #[.pointer (some ⟨w.heap.size, 0, none⟩)], .func (.func 51) #[] #[.pointer (some ⟨w.heap.size, 0, none⟩), .pointer (some ⟨w.heap.size + 1, 0, none⟩)], .func (.func 53) #[] #[.pointer (some ⟨w.heap.size + 1, 0, none⟩)], .func (.func 54) #[] #[.pointer (some ⟨w.heap.size + 1, 0, none⟩)], .func (.func 56) #[] #[.pointer (some ⟨w.heap.size, 0, none⟩), .pointer (some ⟨w.heap.size + 1, 0, none⟩)], .func (.func 59) #[] #[.pointer (some ⟨w.heap.size + 1, 0, none⟩)]] 63)).heap[w.heap.size + 3]? = some (.cells #[.func (.func 48) #[] #[.pointer (some ⟨w.heap.size + 1, 0, none⟩)], .func (.func 50) #[] #[.pointer (some ⟨w.heap.size, 0, none⟩)], .func (.func 51) #[] #[.pointer (some ⟨w.heap.size, 0, none⟩), .pointer (some ⟨w.heap.size + 1, 0, none⟩)], .func (.func 53) #[] #[.pointer (some ⟨w.heap.size + 1, 0, none⟩)], .func (.func 54) #[] #[.pointer (some ⟨w.heap.size + 1, 0, none⟩)], .func (.func 56) #[] #[.pointer (some ⟨w.heap.size, 0, none⟩), .pointer (some ⟨w.heap.size + 1, 0, none⟩)], .func (.func 59) #[] #[.pointer (some ⟨w.heap.size + 1, 0, none⟩)]] 63) := by
    have := heap_alloc_new (w0.alloc (.cells #[.slice (some ⟨w.heap.size + 2 + 1, 0, none⟩) 7 7] 61)) (.cells #[.func (.func 48) #[] #[.pointer (some ⟨w.heap.size + 1, 0, none⟩)], .func (.func 50) #[] #[.pointer (some ⟨w.heap.size, 0, none⟩)], .func (.func 51) #[] #[.pointer (some ⟨w.heap.size, 0, none⟩), .pointer (some ⟨w.heap.size + 1, 0, none⟩)], .func (.func 53) #[] #[.pointer (some ⟨w.heap.size + 1, 0, none⟩)], .func (.func 54) #[] #[.pointer (some ⟨w.heap.size + 1, 0, none⟩)], .func (.func 56) #[] #[.pointer (some ⟨w.heap.size, 0, none⟩), .pointer (some ⟨w.heap.size + 1, 0, none⟩)], .func (.func 59) #[] #[.pointer (some ⟨w.heap.size + 1, 0, none⟩)]] 63)
    rwa [World.size_alloc, z0] at this
  have hb : Below w0.heap.size w0 ((w0.alloc (.cells #[.slice (some ⟨w.heap.size + 2 + 1, 0, none⟩) 7 7] 61)).alloc (.cells #[.func (.func 48) #[] #[.pointer (some ⟨w.heap.size + 1, 0, none⟩)], .func (.func 50) #[] #[.pointer (some ⟨w.heap.size, 0, none⟩)], .func (.func 51) #[] #[.pointer (some ⟨w.heap.size, 0, none⟩), .pointer (some ⟨w.heap.size + 1, 0, none⟩)], .func (.func 53) #[] #[.pointer (some ⟨w.heap.size + 1, 0, none⟩)], .func (.func 54) #[] #[.pointer (some ⟨w.heap.size + 1, 0, none⟩)], .func (.func 56) #[] #[.pointer (some ⟨w.heap.size, 0, none⟩), .pointer (some ⟨w.heap.size + 1, 0, none⟩)], .func (.func 59) #[] #[.pointer (some ⟨w.heap.size + 1, 0, none⟩)]] 63)) := ((Below.refl _ _).alloc (Nat.le_refl _) _).alloc (by simp) _
  generalize (w0.alloc (.cells #[.slice (some ⟨w.heap.size + 2 + 1, 0, none⟩) 7 7] 61)).alloc (.cells #[.func (.func 48) #[] #[.pointer (some ⟨w.heap.size + 1, 0, none⟩)], .func (.func 50) #[] #[.pointer (some ⟨w.heap.size, 0, none⟩)], .func (.func 51) #[] #[.pointer (some ⟨w.heap.size, 0, none⟩), .pointer (some ⟨w.heap.size + 1, 0, none⟩)], .func (.func 53) #[] #[.pointer (some ⟨w.heap.size + 1, 0, none⟩)], .func (.func 54) #[] #[.pointer (some ⟨w.heap.size + 1, 0, none⟩)], .func (.func 56) #[] #[.pointer (some ⟨w.heap.size, 0, none⟩), .pointer (some ⟨w.heap.size + 1, 0, none⟩)], .func (.func 59) #[] #[.pointer (some ⟨w.heap.size + 1, 0, none⟩)]] 63) = W at x1 y1 hb ⊢
  have cr : W.cell? ⟨w.heap.size + 2, 0, none⟩ = some (.slice (some ⟨w.heap.size + 2 + 1, 0, none⟩) 7 7) := Recs.box_cell x1 0
  exact bodyPost_ret (v := .agg #[.slice (some ⟨w.heap.size + 3, 0, none⟩) 7 7]) (by simp [results, Tryz.results27, go_sem, cr]) rfl ⟨rfl, ⟨PAt.step K0.out hb, K1.out.below hb⟩, Recs.box_cell y1 0, Recs.box_cell y1 1, Recs.box_cell y1 2, Recs.box_cell y1 3, Recs.box_cell y1 4, Recs.box_cell y1 5, Recs.box_cell y1 6⟩
set_option maxRecDepth 100000 in
set_option maxHeartbeats 2000000 in
theorem storable_impl (m u : ByteArray) (st : Int) (v1 v2 : Value) (l1 l2 : List Fld) (b1 b2 : ByteArray) (w : World) (h1 : Flds.Is w v1 l1) (h2 : Flds.Is w v2 l2) (hl1 : Flds.bulk l1 ≤ 1048576) (hl2 : Flds.bulk l2 + b2.size ≤ 1048576) (hE : LimS w) :
    Calls Tryz.prog 11 #[Req.val m u v1 b1, Resp.val st v2 b2] w fun e w' => e = .returned (.bool (storable m l1 st l2 b2)) ∧ Below w.heap.size w w' := by
  have K0 : Hid (SAt w w.heap.size m u v1 l1 b1 st v2 l2 b2 ((w.alloc (.cells #[.string m, .string u, v1, .string b1] 32)).alloc (.cells #[.int .i64 st, v2, .string b2] 35))) := ⟨pat_first w m u v1 l1 b1 st v2 l2 b2 h1 h2, hE.below (pat_first w m u v1 l1 b1 st v2 l2 b2 h1 h2).2.2.2.2.2.2.2.2.2⟩
  have HM := Num.hide (fun W (h : SAt w w.heap.size m u v1 l1 b1 st v2 l2 b2 W) => storing_impl m u st v1 v2 l1 l2 b1 b2 W h.q h.r h.2)
  have HA := Num.hide (fun W W1 (h : LAt W W.heap.size m u v1 l1 b1 st v2 l2 b2 (W.heap.size + 3) W1) => store_allows (LAt W W.heap.size m u v1 l1 b1 st v2 l2 b2 (W.heap.size + 3)) (fun _ _ h hb => LAt.step h hb) W.heap.size (W.heap.size + 3) _ _ _ _ _ _ _ (fun _ h => h.2.1) (fun _ h => h.2.2.1) (fun _ h => h.2.2.2.1) (fun _ h => h.2.2.2.2.1) (fun _ h => h.2.2.2.2.2.1) (fun _ h => h.2.2.2.2.2.2.1) (fun _ h => h.2.2.2.2.2.2.2) (fun X h => store1_impl W W.heap.size m u v1 l1 b1 st v2 l2 b2 X h.1 hl1 hl2) (fun X h => store2_impl W W.heap.size m u v1 l1 b1 st v2 l2 b2 X h.1 hl1 hl2) (fun X h => store3_impl W W.heap.size m u v1 l1 b1 st v2 l2 b2 X h.1 hl1 hl2) (fun X h => store4_impl W W.heap.size m u v1 l1 b1 st v2 l2 b2 X h.1 hl1 hl2) (fun X h => store5_impl W W.heap.size m u v1 l1 b1 st v2 l2 b2 X h.1 hl1 hl2) (fun X h => store6_impl W W.heap.size m u v1 l1 b1 st v2 l2 b2 X h.1 hl1 hl2) (fun X h => store7_impl W W.heap.size m u v1 l1 b1 st v2 l2 b2 X h.1 hl1 hl2) W1 h)
  rw [← store_bars] at HA
  generalize storable m l1 st l2 b2 = r at HA ⊢
  obtain ⟨av1, cv1, rfl, _⟩ := Flds.is_form h1
  obtain ⟨av2, cv2, rfl, _⟩ := Flds.is_form h2
  unfold Req.val Resp.val at HM
  unfold Req.val Resp.val
  clear h1 h2 hE
  go_enter Tryz.func11, Tryz.ntmps11
  go_upto_region 1 with fail
  generalize (w.alloc (.cells #[.string m, .string u, .slice av1 l1.length cv1, .string b1] 32)).alloc (.cells #[.int .i64 st, .slice av2 l2.length cv2, .string b2] 35) = w0 at K0 ⊢
  obtain ⟨c0, c1, c2, c3, c4, c5, c6, -, -, -⟩ := K0.out.1
  go_wp2_with fail
  refine (HM.out _ K0.out).mono ?_
  rintro e w1 ⟨rfl, hL⟩
  have HL := Num.hide hL
  have HB := Num.hide (K0.out.1.2.2.2.2.2.2.2.2.2.trans (hL.1.1.2.2.2.2.2.2.2.2.2.mono K0.out.1.2.2.2.2.2.2.2.2.2.size))
  clear hL c0 c1 c2 c3 c4 c5 c6
  go_wp2_with fail
  refine (HA.out w0 w1 HL.out).mono ?_
  rintro e w2 ⟨rfl, hb⟩
  have HB2 := Num.hide (HB.out.trans (hb.mono HB.out.size))
  clear hb
  go_wp2
  go_ret
  exact ⟨rfl, HB2.out⟩
end Pol
end Go.Proofs.YtbcjpjhpobmpbaaGreatDoor
namespace Go.Proofs.YtbcjpjhpobmpbaaGreatDoor
open Go.ChangeShapes Go.WideShapes Go.ChangeAt Go.RowKit Go.Deep
set_option linter.unusedVariables false
namespace Resp

/-- what the walk is told of a response that came in -/
def Arg (w : World) (v : Value) (s : Int) (l : List Flds.Fld) (b : ByteArray) : Prop := ∃ u, v = val s u b ∧ Flds.Arg w u l ∧ b.size ≤ maxLen ∧ (Lit.int .i64 s).wf = true
theorem three {α : Type} {cs : Array α} (h : cs.size = 3) : ∃ c0 c1 c2, cs = #[c0, c1, c2] := by
  obtain ⟨l⟩ := cs
  match l, h with
  | [c0, c1, c2], _ => exact ⟨c0, c1, c2, rfl⟩
set_option maxRecDepth 100000 in
theorem opened {H : Type} {enc : TypeId × Value → H} {W : World} {base : Nat} {v : Value} {d : DataW H} {p : List MemPlace}
    (hok : Value.okWide Tryz.prog W .any base 26 v) (h : DataW.Trod enc Tryz.prog W 0 (fun _ => true) true 26 v d p) : ∃ s l b, Arg W v s l b := by
  obtain ⟨cs, rfl, hz⟩ := okWide_struct Tryz.underlying26 hok
  obtain ⟨fuel, hf⟩ := h
  obtain ⟨c0, c1, c2, rfl⟩ := three (hz.trans (by kernel_rfl))
  obtain ⟨y0, y1, y2, n, _, hl, h0, h1, h2⟩ := trod_struct3 Tryz.underlying26 hf
  have e0 : Tryz.prog.cellsOf 3 = 1 := by kernel_rfl
  have e1 : Tryz.prog.cellsOf 22 = 1 := by kernel_rfl
  have e2 : Tryz.prog.cellsOf 9 = 1 := by kernel_rfl
  simp only [Value.cells] at h0 h1 h2
  rw [e0] at h0
  rw [e1] at h1
  rw [e2] at h2
  simp only [List.drop_zero, List.drop_succ_cons, List.take_succ_cons, List.take_zero] at h0 h1 h2
  obtain ⟨a0, len0, cap0, l, hcs, hla⟩ := Flds.opened_cells h1
  obtain ⟨t, et, _, ht⟩ := DataW.trod_string Tryz.underlying9 h2
  obtain ⟨k, ek, _, hk⟩ := DataW.trod_int Tryz.underlying3 h0
  simp only [List.cons.injEq, and_true] at hcs et ek
  subst hcs et ek
  exact ⟨k, l, t, _, rfl, hla, ht, hk⟩
theorem arg_stay {C : Nat} {w w' : World} {v : Value} {s : Int} {l : List Flds.Fld} {b : ByteArray} (h : Arg w v s l b) (hC : w.heap.size ≤ C) (hb : Below C w w') : Arg w' v s l b := by
  obtain ⟨u, h1, h2, h3⟩ := h
  exact ⟨u, h1, Flds.arg_stay h2 hC hb, h3⟩
end Resp
end Go.Proofs.YtbcjpjhpobmpbaaGreatDoor
namespace Go.Proofs.YtbcjpjhpobmpbaaGreatDoor
open Go.RowKit
set_option linter.unusedVariables false
namespace Draw

theorem and_255 (n : Int) : bits .and .i64 n 255 = n % 256 := by
  have h255 : (BitVec.ofInt 64 255).toNat = 2 ^ 8 - 1 := by decide
  have key : (BitVec.ofInt 64 n &&& BitVec.ofInt 64 255).toNat = (n % ((2 ^ 64 : Nat) : Int)).toNat % 2 ^ 8 := by
    rw [BitVec.toNat_and, BitVec.toNat_ofInt, h255, Nat.and_two_pow_sub_one_eq_mod]
  show IntKind.i64.wrap ((BitVec.ofInt 64 n &&& BitVec.ofInt 64 255).toNat : Nat) = n % 256
  rw [key, IntKind.wrap_i64]
  omega
/-- the mixed number behind a step, and the byte that it gives -/
def nh (h : Int) : Int := wrap64 (wrap64 (h * 6364136223846793005) + 1442695040888963407)
def rx (h : Int) : Int := bits .xor .i64 (nh h / 8589934592) (nh h / 35184372088832) % 256
/-- of what was there all but one block is as it was -/
structure Only (C : Nat) (w w' : World) : Prop where
  os : w'.os = w.os
  tape : w'.tape = w.tape
  output : w'.output = w.output
  size : w.heap.size ≤ w'.heap.size
  block : ∀ k, k < w.heap.size → k ≠ C → w'.heap[k]? = w.heap[k]?
theorem Only.refl (C : Nat) (w : World) : Only C w w := ⟨rfl, rfl, rfl, Nat.le_refl _, fun _ _ _ => rfl⟩
theorem Only.trans {C : Nat} {a b c : World} (h : Only C a b) (k : Only C b c) : Only C a c :=
  ⟨k.os.trans h.os, k.tape.trans h.tape, k.output.trans h.output, Nat.le_trans h.size k.size, fun i hi hc => (k.block i (Nat.lt_of_lt_of_le hi h.size) hc).trans (h.block i hi hc)⟩
theorem Only.setCell {C : Nat} {a w : World} (h : Only C a w) (j : Nat) (u : Value) : Only C a (w.setCell ⟨C, j, none⟩ u) :=
  h.trans ⟨rfl, rfl, rfl, by simp [World.setCell], fun k _ hk => Below.heap_setCell _ _ _ _ hk⟩
theorem Only.drewN {C : Nat} {a w : World} (h : Only C a w) (n : Nat) : Only C a (w.drewN n) := h.trans ⟨rfl, rfl, rfl, Nat.le_refl _, fun _ _ _ => rfl⟩
theorem Only.drew {C : Nat} {a w : World} (h : Only C a w) : Only C a w.drew := h.trans ⟨rfl, rfl, rfl, Nat.le_refl _, fun _ _ _ => rfl⟩
theorem Only.alloc {C : Nat} {a w : World} (h : Only C a w) (o : Obj) : Only C a (w.alloc o) :=
  h.trans ⟨rfl, rfl, rfl, by simp, fun k hk _ => Below.heap_alloc _ _ _ hk⟩
theorem Only.of_below {C : Nat} {a w w' : World} (h : Only C a w) (hb : Below a.heap.size w w') : Only C a w' :=
  ⟨hb.os.trans h.os, hb.tape.trans h.tape, hb.output.trans h.output, Nat.le_trans h.size hb.size, fun k hk hc => (hb.block k hk).trans (h.block k hk hc)⟩
theorem Only.owns {C base : Nat} {e : TypeId} {size n : Nat} {v : Value} {xs : List Value} {w w' : World} (h : Only C w w') (hC : C < base) (ho : w.ownsRow base e size v n xs) : w'.ownsRow base e size v n xs := by
  refine ⟨ho.1, ?_⟩
  rcases ho.2 with hn | ⟨g, cap, cur, rfl, hb, hg, rest⟩
  · exact .inl hn
  · exact .inr ⟨g, cap, cur, rfl, hb, by rw [h.block g (Array.getElem?_eq_some_iff.1 hg).1 (by omega)]; exact hg, rest⟩
theorem Only.below {C B : Nat} {w w' : World} (h : Only C w w') (hB : B ≤ C) (hC : C < w.heap.size) : Below B w w' :=
  ⟨h.os, h.tape, h.output, h.size, fun k hk => h.block k (by omega) (by omega)⟩
/-- what the cursor holds: the bytes of the draw, how many were taken, the mixed number -/
def Cur (w : World) (C : Nat) (a : Option Addr) (len cap k : Nat) (h : Int) : Prop := w.heap[C]? = some (.cells #[.slice a len cap, .int .i64 k, .int .i64 h] 93 (0, 0))
/-- the bytes of the draw lie below block B -/
def CodeAt (B : Nat) (w : World) (a : Option Addr) (l : List Int) : Prop :=
  (∀ i (h : i < l.length), 0 ≤ l[i] ∧ l[i] ≤ 255) ∧ (l = [] ∨ ∃ b off, a = some ⟨b, off, none⟩ ∧ b < B ∧ ∀ i (h : i < l.length), w.cell? ⟨b, off + i, none⟩ = some (.int .u8 l[i]))
theorem CodeAt.below {B : Nat} {w w' : World} {a : Option Addr} {l : List Int} (h : CodeAt B w a l) (hb : Below B w w') : CodeAt B w' a l := by
  refine ⟨h.1, ?_⟩
  rcases h.2 with h | ⟨b, off, ha, hB, hc⟩
  · exact .inl h
  · exact .inr ⟨b, off, ha, hB, fun i hi => by rw [hb.cell (p := ⟨b, off + i, none⟩) hB]; exact hc i hi⟩
theorem Cur.set2 {w : World} {C : Nat} {a : Option Addr} {len cap k : Nat} {h : Int} (H : Cur w C a len cap k h) (g : Int) : Cur (w.setCell ⟨C, 2, none⟩ (.int .i64 g)) C a len cap k g := by
  unfold Cur at *
  rw [heap_setCell_same w C 2 _ _ _ H]; rfl
theorem Cur.set1 {w : World} {C : Nat} {a : Option Addr} {len cap k : Nat} {h : Int} (H : Cur w C a len cap k h) (g : Nat) : Cur (w.setCell ⟨C, 1, none⟩ (.int .i64 g)) C a len cap g h := by
  unfold Cur at *
  rw [heap_setCell_same w C 1 _ _ _ H]; rfl
theorem Cur.cells {w : World} {C : Nat} {a : Option Addr} {len cap k : Nat} {h : Int} (H : Cur w C a len cap k h) :
    w.cell? ⟨C, 0, none⟩ = some (.slice a len cap) ∧ w.cell? ⟨C, 1, none⟩ = some (.int .i64 k) ∧ w.cell? ⟨C, 2, none⟩ = some (.int .i64 h) ∧ w.frozen? ⟨C, 1, none⟩ = false ∧ w.frozen? ⟨C, 2, none⟩ = false := by
  unfold Cur at H
  refine ⟨?_, ?_, ?_, frozen_of_row w C 1 _ _ H, frozen_of_row w C 2 _ _ H⟩
  · rw [cell_of_row w C 0 _ _ _ H]; rfl
  · rw [cell_of_row w C 1 _ _ _ H]; rfl
  · rw [cell_of_row w C 2 _ _ _ H]; rfl
/-- the byte, and how many were taken then -/
def bx (l : List Int) (k : Nat) (h : Int) : Int := if k < l.length then (rx h + l.getD k 0) % 256 else rx h
def bk (l : List Int) (k : Nat) : Nat := if k < l.length then k + 1 else k
theorem bx_bd (l : List Int) (k : Nat) (h : Int) : 0 ≤ bx l k h ∧ bx l k h ≤ 255 := by
  unfold bx rx
  split <;> omega
theorem bk_le (l : List Int) (k : Nat) (h : k ≤ l.length) : bk l k ≤ l.length := by
  unfold bk; split <;> omega
set_option maxRecDepth 100000 in
set_option maxHeartbeats 1000000 in
theorem byte_past (C k len cap : Nat) (a : Option Addr) (h : Int) (w : World) (hC : Cur w C a len cap k h) (hk : len ≤ k) (hk2 : k ≤ 1048576) (hl : len ≤ 1048576) :
    Calls Tryz.prog 82 #[.pointer (some ⟨C, 0, none⟩)] w fun e w' => e = .returned (.int .i64 (rx h)) ∧ Cur w' C a len cap k (nh h) ∧ Only C w w' := by
  obtain ⟨c0, c1, c2, f1, f2⟩ := hC.cells
  have hn : wrap64 (wrap64 (h * 6364136223846793005) + 1442695040888963407) = nh h := rfl
  have ha := and_255
  go_enter Tryz.func82, Tryz.ntmps82
  go_wp2
  go_quiet (fail)
  go_wp2
  go_quiet (fail)
  go_wp2
  go_ret
  exact ⟨rfl, hC.set2 (nh h), (((Only.refl C w).setCell 2 _).drewN _).drewN _⟩
set_option maxRecDepth 100000 in
set_option maxHeartbeats 1000000 in
theorem byte_in (C k len cap b off : Nat) (h z : Int) (w : World) (hC : Cur w C (some ⟨b, off, none⟩) len cap k h) (hk : k < len) (hl : len ≤ 1048576) (hbC : b < C)
    (hz : w.cell? ⟨b, off + k, none⟩ = some (.int .u8 z)) (hz0 : 0 ≤ z) (hz1 : z ≤ 255) :
    Calls Tryz.prog 82 #[.pointer (some ⟨C, 0, none⟩)] w fun e w' => e = .returned (.int .i64 ((rx h + z) % 256)) ∧ Cur w' C (some ⟨b, off, none⟩) len cap (k + 1) (nh h) ∧ Only C w w' := by
  obtain ⟨c0, c1, c2, f1, f2⟩ := hC.cells
  have hn : wrap64 (wrap64 (h * 6364136223846793005) + 1442695040888963407) = nh h := rfl
  have ha := and_255
  have hz2 : (w.setCell ⟨C, 2, none⟩ (.int .i64 (nh h))).cell? ⟨b, off + k, none⟩ = some (.int .u8 z) := by
    rw [← hz]; exact World.cell?_of_block (w := w) (Below.heap_setCell w ⟨C, 2, none⟩ _ b (by show b ≠ C; omega))
  have hxr : Hid (rx h = bits .xor .i64 (nh h / 8589934592) (nh h / 35184372088832) % 256) := rfl
  have hkl : (k : Int) < (len : Int) := by omega
  go_enter Tryz.func82, Tryz.ntmps82
  go_wp2
  go_quiet (fail)
  go_wp2
  go_quiet (fail)
  go_wp2
  go_quiet (fail)
  go_wp2
  go_ret
  refine ⟨?_, ?_, ?_⟩
  · show Ending.returned (.int .i64 _) = _
    rw [hxr.out, Int.emod_add_emod]
  · exact ((hC.set2 (nh h)).set1 (k + 1))
  · exact (((Only.refl C w).setCell 2 _).drewN _).setCell 1 _
theorem byte_any (B C k cap : Nat) (a : Option Addr) (l : List Int) (h : Int) (w : World) (hC : Cur w C a l.length cap k h) (hB : B ≤ C) (hcode : CodeAt B w a l) (hl : l.length ≤ 1048576) (hk : k ≤ l.length) :
    Calls Tryz.prog 82 #[.pointer (some ⟨C, 0, none⟩)] w fun e w' => e = .returned (.int .i64 (bx l k h)) ∧ Cur w' C a l.length cap (bk l k) (nh h) ∧ Only C w w' := by
  unfold bx bk
  by_cases hlt : k < l.length
  · rw [if_pos hlt, if_pos hlt]
    rcases hcode.2 with hn | ⟨b, off, rfl, hbB, hc⟩
    · rw [hn] at hlt; simp at hlt
    · have hz := hcode.1 k hlt
      have e : l.getD k 0 = l[k] := by rw [List.getD_eq_getElem?_getD, List.getElem?_eq_getElem hlt]; rfl
      rw [e]
      exact byte_in C k l.length cap b off h l[k] w hC hlt hl (by omega) (hc k hlt) hz.1 hz.2
  · rw [if_neg hlt, if_neg hlt]
    exact byte_past C k l.length cap a h w hC (by omega) (by omega) hl
/-- the state of a cursor: how many bytes were taken, the mixed number -/
def bv (l : List Int) (s : Nat × Int) : Int := bx l s.1 s.2
def ns (l : List Int) (s : Nat × Int) : Nat × Int := (bk l s.1, nh s.2)
theorem bv_bd (l : List Int) (s : Nat × Int) : 0 ≤ bv l s ∧ bv l s ≤ 255 := bx_bd l s.1 s.2
/-- a cursor over the bytes 'l' lies in block C of the world, in this state -/
structure At (B C cap : Nat) (a : Option Addr) (l : List Int) (w : World) (s : Nat × Int) : Prop where
  cur : Cur w C a l.length cap s.1 s.2
  le : s.1 ≤ l.length
  code : CodeAt B w a l
  hB : B ≤ C
  hl : l.length ≤ 1048576
theorem At.lt {B C cap : Nat} {a : Option Addr} {l : List Int} {w : World} {s : Nat × Int} (h : At B C cap a l w s) : C < w.heap.size := (Array.getElem?_eq_some_iff.1 (show w.heap[C]? = _ from h.cur)).1
theorem At.below {B C cap : Nat} {a : Option Addr} {l : List Int} {w w' : World} {s : Nat × Int} (h : At B C cap a l w s) (hb : Below w.heap.size w w') : At B C cap a l w' s :=
  ⟨(hb.block C h.lt).trans h.cur, h.le, h.code.below (hb.mono (by have := h.lt; have := h.hB; omega)), h.hB, h.hl⟩
theorem At.under {B C cap K : Nat} {a : Option Addr} {l : List Int} {w w' : World} {s : Nat × Int} (h : At B C cap a l w s) (hb : Below K w w') (hK : C < K) : At B C cap a l w' s :=
  ⟨(hb.block C hK).trans h.cur, h.le, h.code.below (hb.mono (by have := h.hB; omega)), h.hB, h.hl⟩
theorem At.alloc {B C cap : Nat} {a : Option Addr} {l : List Int} {w : World} {s : Nat × Int} (h : At B C cap a l w s) (o : Obj) : At B C cap a l (w.alloc o) s := h.below ((Below.refl _ _).alloc (Nat.le_refl _) _)
theorem At.drew {B C cap : Nat} {a : Option Addr} {l : List Int} {w : World} {s : Nat × Int} (h : At B C cap a l w s) : At B C cap a l w.drew s := h.below (Below.refl _ _).drew
theorem byte_at (B C cap : Nat) (a : Option Addr) (l : List Int) (w : World) (s : Nat × Int) (h : At B C cap a l w s) :
    Calls Tryz.prog 82 #[.pointer (some ⟨C, 0, none⟩)] w fun e w' => e = .returned (.int .i64 (bv l s)) ∧ At B C cap a l w' (ns l s) ∧ Only C w w' := by
  refine (byte_any B C s.1 cap a l s.2 w h.cur h.hB h.code h.hl h.le).mono ?_
  rintro e w' ⟨rfl, hc, ho⟩
  exact ⟨rfl, ⟨hc, bk_le l s.1 h.le, h.code.below (ho.below h.hB h.lt), h.hB, h.hl⟩, ho⟩
/-- a number below another, and the state then -/
def blv (l : List Int) (n : Int) (s : Nat × Int) : Int :=
  if n ≤ 0 then 0 else if n ≤ 256 then bv l s % n else (bv l s * 16777216 + bv l (ns l s) * 65536 + bv l (ns l (ns l s)) * 256 + bv l (ns l (ns l (ns l s)))) % n
def bls (l : List Int) (n : Int) (s : Nat × Int) : Nat × Int := if n ≤ 0 then s else if n ≤ 256 then ns l s else ns l (ns l (ns l (ns l s)))
theorem blv_bd (l : List Int) (n : Int) (s : Nat × Int) (h : 0 < n) : 0 ≤ blv l n s ∧ blv l n s < n := by
  unfold blv
  rw [if_neg (by omega)]
  split
  · exact ⟨Int.emod_nonneg _ (by omega), Int.emod_lt_of_pos _ h⟩
  · exact ⟨Int.emod_nonneg _ (by omega), Int.emod_lt_of_pos _ h⟩
set_option maxRecDepth 100000 in
set_option maxHeartbeats 1000000 in
theorem below_at (B C cap : Nat) (a : Option Addr) (l : List Int) (n : Int) (w : World) (s : Nat × Int) (h : At B C cap a l w s) (hn : n ≤ 4294967296) :
    Calls Tryz.prog 39 #[.pointer (some ⟨C, 0, none⟩), .int .i64 n] w fun e w' => e = .returned (.int .i64 (blv l n s)) ∧ At B C cap a l w' (bls l n s) ∧ Only C w w' := by
  by_cases h0 : n ≤ 0
  · have e1 : blv l n s = 0 := if_pos h0
    have e2 : bls l n s = s := if_pos h0
    rw [e1, e2]
    go_enter Tryz.func39, Tryz.ntmps39
    go_wp2
    go_ret
    exact ⟨rfl, h, Only.refl _ _⟩
  · have b1 := bv_bd l s
    by_cases h256 : n ≤ 256
    · have e1 : blv l n s = bv l s % n := by unfold blv; rw [if_neg h0, if_pos h256]
      have e2 : bls l n s = ns l s := by unfold bls; rw [if_neg h0, if_pos h256]
      rw [e1, e2]
      have hp : 0 < n := by omega
      clear e1 e2
      go_enter Tryz.func39, Tryz.ntmps39
      go_wp2_with fail
      refine (byte_at B C cap a l _ s h).mono ?_
      rintro e w1 ⟨rfl, h1, ho⟩
      go_wp2
      go_ret
      exact ⟨rfl, h1, ho⟩
    · have e1 : blv l n s = (bv l s * 16777216 + bv l (ns l s) * 65536 + bv l (ns l (ns l s)) * 256 + bv l (ns l (ns l (ns l s)))) % n := by unfold blv; rw [if_neg h0, if_neg h256]
      have e2 : bls l n s = ns l (ns l (ns l (ns l s))) := by unfold bls; rw [if_neg h0, if_neg h256]
      rw [e1, e2]
      have b2 := bv_bd l (ns l s)
      have b3 := bv_bd l (ns l (ns l s))
      have b4 := bv_bd l (ns l (ns l (ns l s)))
      have hp : 0 < n := by omega
      clear e1 e2
      go_enter Tryz.func39, Tryz.ntmps39
      go_wp2_with fail
      refine (byte_at B C cap a l _ s h).mono ?_
      rintro e w1 ⟨rfl, h1, o1⟩
      go_wp2_with fail
      refine (byte_at B C cap a l _ _ h1).mono ?_
      rintro e w2 ⟨rfl, h2, o2⟩
      go_wp2_with fail
      refine (byte_at B C cap a l _ _ h2).mono ?_
      rintro e w3 ⟨rfl, h3, o3⟩
      go_wp2_with fail
      refine (byte_at B C cap a l _ _ h3).mono ?_
      rintro e w4 ⟨rfl, h4, o4⟩
      go_wp2
      go_ret
      exact ⟨rfl, h4, ((o1.trans o2).trans o3).trans o4⟩
/-- the mixed number at first -/
def h0 (l : List Int) : Nat → Int
  | 0 => 10101 + l.length
  | i + 1 => bits .and .i64 (h0 l i * 131 + l.getD i 0 + 7) 1073741823
theorem h0_bd (l : List Int) (i : Nat) (hl : l.length ≤ 1048576) : 0 ≤ h0 l i ∧ h0 l i ≤ 1073741823 := by
  cases i with
  | zero => simp only [h0]; omega
  | succ i =>
    have key : ∀ n : Int, bits .and .i64 n 1073741823 = n % 1073741824 := by
      intro n
      have hk : (BitVec.ofInt 64 1073741823).toNat = 2 ^ 30 - 1 := by decide
      have key : (BitVec.ofInt 64 n &&& BitVec.ofInt 64 1073741823).toNat = (n % ((2 ^ 64 : Nat) : Int)).toNat % 2 ^ 30 := by
        rw [BitVec.toNat_and, BitVec.toNat_ofInt, hk, Nat.and_two_pow_sub_one_eq_mod]
      show IntKind.i64.wrap ((BitVec.ofInt 64 n &&& BitVec.ofInt 64 1073741823).toNat : Nat) = n % 1073741824
      rw [key, IntKind.wrap_i64]
      omega
    simp only [h0, key]
    omega
/-- what a new cursor begins with -/
def st0 (l : List Int) : Nat × Int := (0, h0 l (min l.length 4000))
theorem new_end {B cap k : Nat} {a : Option Addr} {l : List Int} (w : World) (hcode : CodeAt B w a l) (hB : B ≤ w.heap.size) (hl : l.length ≤ 1048576) (e : min l.length 4000 = k) :
    ∃ C, Ending.returned (.pointer (some ⟨w.heap.size, 0, none⟩)) = .returned (.pointer (some ⟨C, 0, none⟩)) ∧ w.heap.size ≤ C ∧ At B C cap a l (w.alloc (.cells #[.slice a l.length cap, .int .i64 0, .int .i64 (h0 l k)] 93)) (st0 l) ∧ Below w.heap.size w (w.alloc (.cells #[.slice a l.length cap, .int .i64 0, .int .i64 (h0 l k)] 93)) := by
  have hb : Below w.heap.size w (w.alloc (.cells #[.slice a l.length cap, .int .i64 0, .int .i64 (h0 l k)] 93)) := (Below.refl _ _).alloc (Nat.le_refl _) _
  refine ⟨w.heap.size, rfl, Nat.le_refl _, ⟨?_, Nat.zero_le _, hcode.below (hb.mono hB), hB, hl⟩, hb⟩
  show (w.alloc _).heap[w.heap.size]? = _
  rw [heap_alloc_new w _]
  simp only [st0, e]
  rfl
set_option maxRecDepth 100000 in
set_option maxHeartbeats 1000000 in
theorem new_at (B cap : Nat) (a : Option Addr) (l : List Int) (w : World) (hB : B ≤ w.heap.size) (hcode : CodeAt B w a l) (hl : l.length ≤ 1048576) :
    Calls Tryz.prog 36 #[.slice a l.length cap] w fun e w' => ∃ C, e = .returned (.pointer (some ⟨C, 0, none⟩)) ∧ w.heap.size ≤ C ∧ At B C cap a l w' (st0 l) ∧ Below w.heap.size w w' := by
  have HC := Num.hide hcode
  clear hcode
  go_enter Tryz.func36, Tryz.ntmps36
  go_wp2
  go_loop [3, 4] (fun h i => ∃ k : Nat, k ≤ l.length ∧ k ≤ 4000 ∧ i = .int .i64 k ∧ h = .int .i64 (h0 l k)) (fun _ i => 4000 - (intOf i).toNat)
  case atStart => exact ⟨0, by omega, by omega, rfl, rfl⟩
  case round =>
    obtain ⟨k, hk, hk4, rfl, rfl⟩ := hrel
    have hb := h0_bd l k hl
    by_cases hkl : k < l.length
    · by_cases h4 : k < 4000
      · rcases (Num.unhide HC).2 with hn | ⟨b, off, rfl, hbB, hc⟩
        · rw [hn] at hkl; simp at hkl
        · have hz := (Num.unhide HC).1 k hkl
          have hck := hc k hkl
          have hs : Hid (h0 l (k + 1) = bits .and .i64 (h0 l k * 131 + l[k] + 7) 1073741823) := by
            show _ = _
            simp only [h0]
            rw [List.getD_eq_getElem?_getD, List.getElem?_eq_getElem hkl]; rfl
          generalize l[k] = z at *
          have hkl' : (k : Int) < (l.length : Int) := by omega
          clear hc
          go_wp2
          go_round
          case rel => exact ⟨k + 1, by omega, by omega, by go_num, by rw [hs.out]⟩
          case measure => simp [intOf]; omega
      · have e := Num.hide (show min l.length 4000 = k by omega)
        go_wp2
        go_ret
        exact new_end w (Num.unhide HC) hB hl (Num.unhide e)
    · have e := Num.hide (show min l.length 4000 = k by omega)
      go_wp2
      go_ret
      exact new_end w (Num.unhide HC) hB hl (Num.unhide e)
end Draw
end Go.Proofs.YtbcjpjhpobmpbaaGreatDoor
