/-
  StoreCls: What forbids that an answer is stored: the closures of the program.
  StoreRun: Storable of the program: the list of what forbids it is gone through.
  RespOpen: A response that came in, as the law's argument: what it reads as.
  SatSpec: SatAdd of the specification.
  DecSpec: Dec of the specification: what the call returns, for every number; old memory stays as it was.
-/
import Derived.Test.YtjeokackmkfooaaGreatDoorPap
import Derived.Test.YtjeokackmkfooaaGreatDoorPar
import Derived.Test.YtjeokackmkfooaaGreatDoorPah
import Derived.Test.YtjeokackmkfooaaGreatDoorPaa
import Derived.Deep.Cut
import Derived.LoopN
import Derived.FnLit
import Derived.Test.YtjeokackmkfooaaGreatDoorPak
import Derived.Deep.Strs
import Derived.Test.YtjeokackmkfooaaGreatDoorPab
import Derived.Test.YtjeokackmkfooaaGreatDoorNum
import Derived.Test.YtjeokackmkfooaaGreatDoorRows
import Derived.WalkKit
import Derived.Test.YtjeokackmkfooaaGreatDoorPac
namespace Go.Proofs.YtjeokackmkfooaaGreatDoor
open Go.RowKit
set_option linter.unusedVariables false
set_option linter.unusedSimpArgs false
namespace Pol
open Flds (Fld)
open Age (sMaxAge maxAge expiresName)

/-- the two boxes, and what the program's tables hold -/
abbrev SAt (w : World) (g : Nat) (m u : ByteArray) (v1 : Value) (l1 : List Fld) (b1 : ByteArray) (st : Int) (v2 : Value) (l2 : List Fld) (b2 : ByteArray) (W : World) : Prop := PAt w g m u v1 l1 b1 st v2 l2 b2 W ∧ LimS W
theorem SAt.step {w : World} {g : Nat} {m u : ByteArray} {v1 : Value} {l1 : List Fld} {b1 : ByteArray} {st : Int} {v2 : Value} {l2 : List Fld} {b2 : ByteArray} {W W' : World} (h : SAt w g m u v1 l1 b1 st v2 l2 b2 W) (hb : Below W.heap.size W W') : SAt w g m u v1 l1 b1 st v2 l2 b2 W' := ⟨PAt.step h.1 hb, h.2.below hb⟩
theorem SAt.q {w : World} {g : Nat} {m u : ByteArray} {v1 : Value} {l1 : List Fld} {b1 : ByteArray} {st : Int} {v2 : Value} {l2 : List Fld} {b2 : ByteArray} {W : World} (h : SAt w g m u v1 l1 b1 st v2 l2 b2 W) : Flds.Is W v1 l1 := h.1.2.2.2.2.2.2.2.1
theorem SAt.r {w : World} {g : Nat} {m u : ByteArray} {v1 : Value} {l1 : List Fld} {b1 : ByteArray} {st : Int} {v2 : Value} {l2 : List Fld} {b2 : ByteArray} {W : World} (h : SAt w g m u v1 l1 b1 st v2 l2 b2 W) : Flds.Is W v2 l2 := h.1.2.2.2.2.2.2.2.2.1
set_option maxRecDepth 100000 in
set_option maxHeartbeats 1000000 in
theorem store1_impl (w : World) (g : Nat) (m u : ByteArray) (v1 : Value) (l1 : List Fld) (b1 : ByteArray) (st : Int) (v2 : Value) (l2 : List Fld) (b2 : ByteArray) (W : World) (h : SAt w g m u v1 l1 b1 st v2 l2 b2 W) (hl1 : Flds.bulk l1 ≤ 1048576) (hl2 : Flds.bulk l2 + b2.size ≤ 1048576) :
    Calls Tryz.prog 50 #[.pointer (some ⟨g + 1, 0, none⟩)] W fun e w' => e = .returned (.bool (!Msg.respOk st l2 b2 || decide (st = 304))) ∧ Below W.heap.size W w' := by
  have K := Num.hide h
  have HH := Num.hide (Msg.respOk_impl st v2 l2 b2 W h.r (by omega) (by omega) h.2.2)
  have K1 := Num.hide (fun w1 hb => SAt.step (W' := w1) h hb)
  obtain ⟨av2, cv2, rfl, _⟩ := Flds.is_form h.r
  generalize Msg.respOk st l2 b2 = R at HH ⊢
  unfold Resp.val at HH
  obtain ⟨c0, c1, c2, c3, c4, c5, c6, -, -, -⟩ := K.out.1
  clear h
  go_enter Tryz.func50, Tryz.ntmps50
  go_wp2_with fail
  refine HH.out.mono ?_
  rintro e w1 ⟨rfl, hb⟩
  have HB := Num.hide hb
  have K2 := Num.hide (K1.out _ hb)
  clear hb c0 c1 c2 c3 c4 c5 c6 K K1 HH
  obtain ⟨c0, c1, c2, c3, c4, c5, c6, -, -, -⟩ := K2.out.1
  cases R with
  | false =>
    go_wp2
    go_ret
    exact ⟨rfl, HB.out⟩
  | true =>
    by_cases hs : st = 304
    · have d1 : (st == 304) = true := beq_iff_eq.2 hs
      have d2 : decide (st = 304) = true := decide_eq_true hs
      go_wp2
      go_ret
      exact ⟨by rw [d2]; rfl, HB.out⟩
    · have d1 : (st == 304) = false := beq_eq_false_iff_ne.2 hs
      have d2 : decide (st = 304) = false := decide_eq_false hs
      go_wp2
      go_ret
      exact ⟨by rw [d2]; rfl, HB.out⟩
set_option maxRecDepth 100000 in
set_option maxHeartbeats 1000000 in
theorem store2_impl (w : World) (g : Nat) (m u : ByteArray) (v1 : Value) (l1 : List Fld) (b1 : ByteArray) (st : Int) (v2 : Value) (l2 : List Fld) (b2 : ByteArray) (W : World) (h : SAt w g m u v1 l1 b1 st v2 l2 b2 W) (hl1 : Flds.bulk l1 ≤ 1048576) (hl2 : Flds.bulk l2 + b2.size ≤ 1048576) :
    Calls Tryz.prog 52 #[.pointer (some ⟨g, 0, none⟩)] W fun e w' => e = .returned (.bool (!decide (m = getM))) ∧ Below W.heap.size W w' := by
  have K := Num.hide h
  obtain ⟨c0, c1, c2, c3, c4, c5, c6, -, -, -⟩ := K.out.1
  clear h
  by_cases hm : m = getM
  · have d0 := text_is (y := [71, 69, 84]) hm
    have d1 : (m.toList != [71, 69, 84]) = false := by rw [bne, d0]; rfl
    rw [decide_eq_true hm]
    clear hm
    go_enter Tryz.func52, Tryz.ntmps52
    go_wp2
    go_ret
    exact ⟨rfl, Below.refl _ _⟩
  · have d0 := text_not (y := [71, 69, 84]) hm
    have d1 : (m.toList != [71, 69, 84]) = true := by rw [bne, d0]; rfl
    rw [decide_eq_false hm]
    clear hm
    go_enter Tryz.func52, Tryz.ntmps52
    go_wp2
    go_ret
    exact ⟨rfl, Below.refl _ _⟩
set_option maxRecDepth 100000 in
set_option maxHeartbeats 1000000 in
theorem store3_impl (w : World) (g : Nat) (m u : ByteArray) (v1 : Value) (l1 : List Fld) (b1 : ByteArray) (st : Int) (v2 : Value) (l2 : List Fld) (b2 : ByteArray) (W : World) (h : SAt w g m u v1 l1 b1 st v2 l2 b2 W) (hl1 : Flds.bulk l1 ≤ 1048576) (hl2 : Flds.bulk l2 + b2.size ≤ 1048576) :
    Calls Tryz.prog 53 #[.pointer (some ⟨g, 0, none⟩), .pointer (some ⟨g + 1, 0, none⟩)] W fun e w' => e = .returned (.bool (said l1 noStore || said l2 noStore)) ∧ Below W.heap.size W w' := by
  have K := Num.hide h
  have HA := Num.hide (Cc.has_impl v1 l1 noStore W h.q hl1 (by decide) h.2.1 h.2.2)
  have HC := Num.hide (fun W (h : SAt w g m u v1 l1 b1 st v2 l2 b2 W) => Cc.has_impl v2 l2 noStore W h.r (by omega) (by decide) h.2.1 h.2.2)
  unfold said
  generalize Cc.has (Cc.dirs l1) noStore = R1 at HA ⊢
  generalize Cc.has (Cc.dirs l2) noStore = R2 at HC ⊢
  obtain ⟨c0, c1, c2, c3, c4, c5, c6, -, -, -⟩ := K.out.1
  clear h
  go_enter Tryz.func53, Tryz.ntmps53
  go_wp2_with fail
  refine HA.out.mono ?_
  rintro e w1 ⟨rfl, hb⟩
  have HB := Num.hide hb
  have K2 := Num.hide (SAt.step K.out hb)
  clear hb c0 c1 c2 c3 c4 c5 c6 K HA
  obtain ⟨c0, c1, c2, c3, c4, c5, c6, -, -, -⟩ := K2.out.1
  cases R1 with
  | true =>
    go_wp2
    go_ret
    exact ⟨rfl, HB.out⟩
  | false =>
    go_wp2_with fail
    refine (HC.out _ K2.out).mono ?_
    rintro e w2 ⟨rfl, hb⟩
    have HB2 := Num.hide (HB.out.trans (hb.mono HB.out.size))
    clear hb HB
    go_wp2
    go_ret
    exact ⟨rfl, HB2.out⟩
set_option maxRecDepth 100000 in
set_option maxHeartbeats 1000000 in
theorem store4_impl (w : World) (g : Nat) (m u : ByteArray) (v1 : Value) (l1 : List Fld) (b1 : ByteArray) (st : Int) (v2 : Value) (l2 : List Fld) (b2 : ByteArray) (W : World) (h : SAt w g m u v1 l1 b1 st v2 l2 b2 W) (hl1 : Flds.bulk l1 ≤ 1048576) (hl2 : Flds.bulk l2 + b2.size ≤ 1048576) :
    Calls Tryz.prog 55 #[.pointer (some ⟨g + 1, 0, none⟩)] W fun e w' => e = .returned (.bool (said l2 priv)) ∧ Below W.heap.size W w' := by
  have K := Num.hide h
  have HA := Num.hide (Cc.has_impl v2 l2 priv W h.r (by omega) (by decide) h.2.1 h.2.2)
  unfold said
  generalize Cc.has (Cc.dirs l2) priv = R1 at HA ⊢
  obtain ⟨c0, c1, c2, c3, c4, c5, c6, -, -, -⟩ := K.out.1
  clear h
  go_enter Tryz.func55, Tryz.ntmps55
  go_wp2_with fail
  refine HA.out.mono ?_
  rintro e w1 ⟨rfl, hb⟩
  have HB := Num.hide hb
  clear hb
  go_wp2
  go_ret
  exact ⟨rfl, HB.out⟩
set_option maxRecDepth 100000 in
set_option maxHeartbeats 1000000 in
theorem store5_impl (w : World) (g : Nat) (m u : ByteArray) (v1 : Value) (l1 : List Fld) (b1 : ByteArray) (st : Int) (v2 : Value) (l2 : List Fld) (b2 : ByteArray) (W : World) (h : SAt w g m u v1 l1 b1 st v2 l2 b2 W) (hl1 : Flds.bulk l1 ≤ 1048576) (hl2 : Flds.bulk l2 + b2.size ≤ 1048576) :
    Calls Tryz.prog 56 #[.pointer (some ⟨g + 1, 0, none⟩)] W fun e w' => e = .returned (.bool (starred (Sign.split (Flds.get l2 varyName).1))) ∧ Below W.heap.size W w' := by
  have K := Num.hide h
  have HA := Num.hide (varies_impl v2 l2 W h.r (by omega))
  generalize starred (Sign.split (Flds.get l2 varyName).1) = R1 at HA ⊢
  obtain ⟨c0, c1, c2, c3, c4, c5, c6, -, -, -⟩ := K.out.1
  clear h
  go_enter Tryz.func56, Tryz.ntmps56
  go_wp2_with fail
  refine HA.out.mono ?_
  rintro e w1 ⟨rfl, hb⟩
  have HB := Num.hide hb
  clear hb
  go_wp2
  go_ret
  exact ⟨rfl, HB.out⟩
set_option maxRecDepth 100000 in
set_option maxHeartbeats 1000000 in
theorem store6_impl (w : World) (g : Nat) (m u : ByteArray) (v1 : Value) (l1 : List Fld) (b1 : ByteArray) (st : Int) (v2 : Value) (l2 : List Fld) (b2 : ByteArray) (W : World) (h : SAt w g m u v1 l1 b1 st v2 l2 b2 W) (hl1 : Flds.bulk l1 ≤ 1048576) (hl2 : Flds.bulk l2 + b2.size ≤ 1048576) :
    Calls Tryz.prog 58 #[.pointer (some ⟨g, 0, none⟩), .pointer (some ⟨g + 1, 0, none⟩)] W fun e w' => e = .returned (.bool ((Flds.get l1 authName).2 && !(said l2 publ || said l2 sMaxAge || said l2 mustRe))) ∧ Below W.heap.size W w' := by
  have K := Num.hide h
  have HA := Num.hide (auth_impl v1 l1 W h.q (by omega))
  have HC := Num.hide (fun W (h : SAt w g m u v1 l1 b1 st v2 l2 b2 W) => shared_impl v2 l2 W h.r (by omega) h.2)
  generalize (Flds.get l1 authName).2 = R1 at HA ⊢
  obtain ⟨R2, hR2⟩ : ∃ R2, (said l2 publ || said l2 sMaxAge || said l2 mustRe) = R2 := ⟨_, rfl⟩
  rw [hR2] at HC ⊢
  obtain ⟨c0, c1, c2, c3, c4, c5, c6, -, -, -⟩ := K.out.1
  clear h hR2
  go_enter Tryz.func58, Tryz.ntmps58
  go_wp2_with fail
  refine HA.out.mono ?_
  rintro e w1 ⟨rfl, hb⟩
  have HB := Num.hide hb
  have K2 := Num.hide (SAt.step K.out hb)
  clear hb c0 c1 c2 c3 c4 c5 c6 K HA
  obtain ⟨c0, c1, c2, c3, c4, c5, c6, -, -, -⟩ := K2.out.1
  cases R1 with
  | false =>
    go_wp2
    go_ret
    exact ⟨rfl, HB.out⟩
  | true =>
    go_wp2_with fail
    refine (HC.out _ K2.out).mono ?_
    rintro e w2 ⟨rfl, hb⟩
    have HB2 := Num.hide (HB.out.trans (hb.mono HB.out.size))
    clear hb HB
    go_wp2
    go_ret
    exact ⟨rfl, HB2.out⟩
set_option maxRecDepth 100000 in
set_option maxHeartbeats 1000000 in
theorem store7_impl (w : World) (g : Nat) (m u : ByteArray) (v1 : Value) (l1 : List Fld) (b1 : ByteArray) (st : Int) (v2 : Value) (l2 : List Fld) (b2 : ByteArray) (W : World) (h : SAt w g m u v1 l1 b1 st v2 l2 b2 W) (hl1 : Flds.bulk l1 ≤ 1048576) (hl2 : Flds.bulk l2 + b2.size ≤ 1048576) :
    Calls Tryz.prog 61 #[.pointer (some ⟨g + 1, 0, none⟩)] W fun e w' => e = .returned (.bool (!heuristic st && !((Flds.get l2 expiresName).2 || (said l2 publ || said l2 maxAge || said l2 sMaxAge)))) ∧ Below W.heap.size W w' := by
  have K := Num.hide h
  have HA := Num.hide (heuristic_impl_b st W)
  have HC := Num.hide (fun W (h : SAt w g m u v1 l1 b1 st v2 l2 b2 W) => meant_impl v2 l2 W h.r (by omega) h.2)
  generalize heuristic st = R1 at HA ⊢
  obtain ⟨R2, hR2⟩ : ∃ R2, ((Flds.get l2 expiresName).2 || (said l2 publ || said l2 maxAge || said l2 sMaxAge)) = R2 := ⟨_, rfl⟩
  rw [hR2] at HC ⊢
  obtain ⟨c0, c1, c2, c3, c4, c5, c6, -, -, -⟩ := K.out.1
  clear h hR2
  go_enter Tryz.func61, Tryz.ntmps61
  go_wp2_with fail
  refine HA.out.mono ?_
  rintro e w1 ⟨rfl, hb⟩
  have HB := Num.hide hb
  have K2 := Num.hide (SAt.step K.out hb)
  clear hb c0 c1 c2 c3 c4 c5 c6 K HA
  obtain ⟨c0, c1, c2, c3, c4, c5, c6, -, -, -⟩ := K2.out.1
  cases R1 with
  | true =>
    go_wp2
    go_ret
    exact ⟨rfl, HB.out⟩
  | false =>
    go_wp2_with fail
    refine (HC.out _ K2.out).mono ?_
    rintro e w2 ⟨rfl, hb⟩
    have HB2 := Num.hide (HB.out.trans (hb.mono HB.out.size))
    clear hb HB
    go_wp2
    go_ret
    exact ⟨rfl, HB2.out⟩
theorem store_bars (m : ByteArray) (l1 : List Fld) (st : Int) (l2 : List Fld) (b2 : ByteArray) : storable m l1 st l2 b2 = !((!Msg.respOk st l2 b2 || decide (st = 304)) || (!decide (m = getM)) || (said l1 noStore || said l2 noStore) || said l2 priv || starred (Sign.split (Flds.get l2 varyName).1) || ((Flds.get l1 authName).2 && !(said l2 publ || said l2 sMaxAge || said l2 mustRe)) || (!heuristic st && !((Flds.get l2 expiresName).2 || (said l2 publ || said l2 maxAge || said l2 sMaxAge)))) := by
  unfold storable barred alone letsBe
  rw [decide_not]
  generalize Msg.respOk st l2 b2 = x1
  generalize decide (st = 304) = x2
  generalize decide (m = getM) = x3
  generalize said l1 noStore = x4
  generalize said l2 noStore = x5
  generalize said l2 priv = x6
  generalize starred (Sign.split (Flds.get l2 varyName).1) = x7
  generalize (Flds.get l1 authName).2 = x8
  generalize said l2 publ = x9
  generalize said l2 sMaxAge = x10
  generalize said l2 mustRe = x11
  generalize heuristic st = x12
  generalize (Flds.get l2 expiresName).2 = x13
  generalize said l2 maxAge = x14
  cases x1 <;> cases x2 <;> cases x3 <;> cases x4 <;> cases x5 <;> cases x6 <;> cases x7 <;> simp only [Bool.not_true, Bool.not_false, Bool.true_and, Bool.and_true, Bool.false_and, Bool.and_false, Bool.true_or, Bool.or_true, Bool.false_or, Bool.or_false]
  cases x8 <;> cases x9 <;> cases x10 <;> cases x11 <;> cases x12 <;> cases x13 <;> cases x14 <;> rfl
end Pol
end Go.Proofs.YtjeokackmkfooaaGreatDoor
namespace Go.Proofs.YtjeokackmkfooaaGreatDoor
open Go.RowKit
set_option linter.unusedVariables false
set_option linter.unusedSimpArgs false
namespace Pol
open Flds (Fld)
open Age (sMaxAge maxAge expiresName)

set_option maxRecDepth 100000 in
set_option maxHeartbeats 4000000 in
theorem store_allows (Q : World → Prop) (hQ : ∀ W W', Q W → Below W.heap.size W W' → Q W') (g a : Nat) (B1 B2 B3 B4 B5 B6 B7 : Bool)
    (hc1 : ∀ W, Q W → W.cell? ⟨a, 0, none⟩ = some (.func (.func 50) #[] #[.pointer (some ⟨g + 1, 0, none⟩)]))
    (hc2 : ∀ W, Q W → W.cell? ⟨a, 1, none⟩ = some (.func (.func 52) #[] #[.pointer (some ⟨g, 0, none⟩)]))
    (hc3 : ∀ W, Q W → W.cell? ⟨a, 2, none⟩ = some (.func (.func 53) #[] #[.pointer (some ⟨g, 0, none⟩), .pointer (some ⟨g + 1, 0, none⟩)]))
    (hc4 : ∀ W, Q W → W.cell? ⟨a, 3, none⟩ = some (.func (.func 55) #[] #[.pointer (some ⟨g + 1, 0, none⟩)]))
    (hc5 : ∀ W, Q W → W.cell? ⟨a, 4, none⟩ = some (.func (.func 56) #[] #[.pointer (some ⟨g + 1, 0, none⟩)]))
    (hc6 : ∀ W, Q W → W.cell? ⟨a, 5, none⟩ = some (.func (.func 58) #[] #[.pointer (some ⟨g, 0, none⟩), .pointer (some ⟨g + 1, 0, none⟩)]))
    (hc7 : ∀ W, Q W → W.cell? ⟨a, 6, none⟩ = some (.func (.func 61) #[] #[.pointer (some ⟨g + 1, 0, none⟩)]))
    (h1 : ∀ W, Q W → Calls Tryz.prog 50 #[.pointer (some ⟨g + 1, 0, none⟩)] W fun e w' => e = .returned (.bool B1) ∧ Below W.heap.size W w')
    (h2 : ∀ W, Q W → Calls Tryz.prog 52 #[.pointer (some ⟨g, 0, none⟩)] W fun e w' => e = .returned (.bool B2) ∧ Below W.heap.size W w')
    (h3 : ∀ W, Q W → Calls Tryz.prog 53 #[.pointer (some ⟨g, 0, none⟩), .pointer (some ⟨g + 1, 0, none⟩)] W fun e w' => e = .returned (.bool B3) ∧ Below W.heap.size W w')
    (h4 : ∀ W, Q W → Calls Tryz.prog 55 #[.pointer (some ⟨g + 1, 0, none⟩)] W fun e w' => e = .returned (.bool B4) ∧ Below W.heap.size W w')
    (h5 : ∀ W, Q W → Calls Tryz.prog 56 #[.pointer (some ⟨g + 1, 0, none⟩)] W fun e w' => e = .returned (.bool B5) ∧ Below W.heap.size W w')
    (h6 : ∀ W, Q W → Calls Tryz.prog 58 #[.pointer (some ⟨g, 0, none⟩), .pointer (some ⟨g + 1, 0, none⟩)] W fun e w' => e = .returned (.bool B6) ∧ Below W.heap.size W w')
    (h7 : ∀ W, Q W → Calls Tryz.prog 61 #[.pointer (some ⟨g + 1, 0, none⟩)] W fun e w' => e = .returned (.bool B7) ∧ Below W.heap.size W w')
    (w : World) (hq : Q w) :
    Calls Tryz.prog 26 #[.agg #[.slice (some ⟨a, 0, none⟩) 7 7]] w fun e w' => e = .returned (.bool (!(B1 || B2 || B3 || B4 || B5 || B6 || B7))) ∧ Below w.heap.size w w' := by
  have HC1 := Num.hide hc1
  have H1 := Num.hide h1
  have HC2 := Num.hide hc2
  have H2 := Num.hide h2
  have HC3 := Num.hide hc3
  have H3 := Num.hide h3
  have HC4 := Num.hide hc4
  have H4 := Num.hide h4
  have HC5 := Num.hide hc5
  have H5 := Num.hide h5
  have HC6 := Num.hide hc6
  have H6 := Num.hide h6
  have HC7 := Num.hide hc7
  have H7 := Num.hide h7
  have HQ := Num.hide hQ
  obtain ⟨r, hr⟩ : ∃ r, (!(B1 || B2 || B3 || B4 || B5 || B6 || B7)) = r := ⟨_, rfl⟩
  rw [hr]
  have HR := Num.hide hr
  have hb0 : Below w.heap.size w (w.alloc (.cells #[.slice (some ⟨a, 0, none⟩) 7 7] 58)) := (Below.refl _ _).alloc (Nat.le_refl _) _
  have HQ1 := Num.hide (hQ _ _ hq hb0)
  have HB1 := Num.hide hb0
  have X1 := Num.hide (heap_alloc_new w (.cells #[.slice (some ⟨a, 0, none⟩) 7 7] 58))
  have hent1 : ∀ args W, (callFunc 50 args).run Tryz.prog W = .ok (.enter 50 args) W := enters_of Tryz.func50 (by kernel_rfl) rfl
  have hent2 : ∀ args W, (callFunc 52 args).run Tryz.prog W = .ok (.enter 52 args) W := enters_of Tryz.func52 (by kernel_rfl) rfl
  have hent3 : ∀ args W, (callFunc 53 args).run Tryz.prog W = .ok (.enter 53 args) W := enters_of Tryz.func53 (by kernel_rfl) rfl
  have hent4 : ∀ args W, (callFunc 55 args).run Tryz.prog W = .ok (.enter 55 args) W := enters_of Tryz.func55 (by kernel_rfl) rfl
  have hent5 : ∀ args W, (callFunc 56 args).run Tryz.prog W = .ok (.enter 56 args) W := enters_of Tryz.func56 (by kernel_rfl) rfl
  have hent6 : ∀ args W, (callFunc 58 args).run Tryz.prog W = .ok (.enter 58 args) W := enters_of Tryz.func58 (by kernel_rfl) rfl
  have hent7 : ∀ args W, (callFunc 61 args).run Tryz.prog W = .ok (.enter 61 args) W := enters_of Tryz.func61 (by kernel_rfl) rfl
  clear hr hq hQ hb0 hc1 h1 hc2 h2 hc3 h3 hc4 h4 hc5 h5 hc6 h6 hc7 h7
  go_enter Tryz.func26, Tryz.ntmps26
  go_upto_region 1 with fail
  generalize w.alloc (.cells #[.slice (some ⟨a, 0, none⟩) 7 7] 58) = w1 at HQ1 HB1 X1 ⊢
  have c0 : w1.cell? ⟨w.heap.size, 0, none⟩ = some (.slice (some ⟨a, 0, none⟩) 7 7) := Recs.box_cell X1.out 0
  go_wp2_with fail
  refine wp_loop_rounds 8 ?_
  clear c0 X1
  have k1 := HC1.out _ HQ1.out
  rw [rounds_succ]
  go_wp2_with fail
  refine (H1.out _ HQ1.out).mono ?_
  rintro e w2 ⟨rfl, hb⟩
  have HQ2 := Num.hide (HQ.out _ _ HQ1.out hb)
  have HB2 := Num.hide (HB1.out.trans (hb.mono HB1.out.size))
  clear hb k1 HQ1 HB1 H1 HC1 hent1
  cases B1 with
  | true =>
    obtain rfl : r = false := by rw [← HR.out]; simp
    clear HR HQ2
    go_wp2
    go_ret
    exact ⟨rfl, HB2.out⟩
  | false =>
  go_wp2_with fail
  have k2 := HC2.out _ HQ2.out
  rw [rounds_succ]
  go_wp2_with fail
  refine (H2.out _ HQ2.out).mono ?_
  rintro e w3 ⟨rfl, hb⟩
  have HQ3 := Num.hide (HQ.out _ _ HQ2.out hb)
  have HB3 := Num.hide (HB2.out.trans (hb.mono HB2.out.size))
  clear hb k2 HQ2 HB2 H2 HC2 hent2
  cases B2 with
  | true =>
    obtain rfl : r = false := by rw [← HR.out]; simp
    clear HR HQ3
    go_wp2
    go_ret
    exact ⟨rfl, HB3.out⟩
  | false =>
  go_wp2_with fail
  have k3 := HC3.out _ HQ3.out
  rw [rounds_succ]
  go_wp2_with fail
  refine (H3.out _ HQ3.out).mono ?_
  rintro e w4 ⟨rfl, hb⟩
  have HQ4 := Num.hide (HQ.out _ _ HQ3.out hb)
  have HB4 := Num.hide (HB3.out.trans (hb.mono HB3.out.size))
  clear hb k3 HQ3 HB3 H3 HC3 hent3
  cases B3 with
  | true =>
    obtain rfl : r = false := by rw [← HR.out]; simp
    clear HR HQ4
    go_wp2
    go_ret
    exact ⟨rfl, HB4.out⟩
  | false =>
  go_wp2_with fail
  have k4 := HC4.out _ HQ4.out
  rw [rounds_succ]
  go_wp2_with fail
  refine (H4.out _ HQ4.out).mono ?_
  rintro e w5 ⟨rfl, hb⟩
  have HQ5 := Num.hide (HQ.out _ _ HQ4.out hb)
  have HB5 := Num.hide (HB4.out.trans (hb.mono HB4.out.size))
  clear hb k4 HQ4 HB4 H4 HC4 hent4
  cases B4 with
  | true =>
    obtain rfl : r = false := by rw [← HR.out]; simp
    clear HR HQ5
    go_wp2
    go_ret
    exact ⟨rfl, HB5.out⟩
  | false =>
  go_wp2_with fail
  have k5 := HC5.out _ HQ5.out
  rw [rounds_succ]
  go_wp2_with fail
  refine (H5.out _ HQ5.out).mono ?_
  rintro e w6 ⟨rfl, hb⟩
  have HQ6 := Num.hide (HQ.out _ _ HQ5.out hb)
  have HB6 := Num.hide (HB5.out.trans (hb.mono HB5.out.size))
  clear hb k5 HQ5 HB5 H5 HC5 hent5
  cases B5 with
  | true =>
    obtain rfl : r = false := by rw [← HR.out]; simp
    clear HR HQ6
    go_wp2
    go_ret
    exact ⟨rfl, HB6.out⟩
  | false =>
  go_wp2_with fail
  have k6 := HC6.out _ HQ6.out
  rw [rounds_succ]
  go_wp2_with fail
  refine (H6.out _ HQ6.out).mono ?_
  rintro e w7 ⟨rfl, hb⟩
  have HQ7 := Num.hide (HQ.out _ _ HQ6.out hb)
  have HB7 := Num.hide (HB6.out.trans (hb.mono HB6.out.size))
  clear hb k6 HQ6 HB6 H6 HC6 hent6
  cases B6 with
  | true =>
    obtain rfl : r = false := by rw [← HR.out]; simp
    clear HR HQ7
    go_wp2
    go_ret
    exact ⟨rfl, HB7.out⟩
  | false =>
  go_wp2_with fail
  have k7 := HC7.out _ HQ7.out
  rw [rounds_succ]
  go_wp2_with fail
  refine (H7.out _ HQ7.out).mono ?_
  rintro e w8 ⟨rfl, hb⟩
  have HQ8 := Num.hide (HQ.out _ _ HQ7.out hb)
  have HB8 := Num.hide (HB7.out.trans (hb.mono HB7.out.size))
  clear hb k7 HQ7 HB7 H7 HC7 hent7
  cases B7 with
  | true =>
    obtain rfl : r = false := by rw [← HR.out]; simp
    clear HR HQ8
    go_wp2
    go_ret
    exact ⟨rfl, HB8.out⟩
  | false =>
  go_wp2_with fail
  rw [rounds_succ]
  obtain rfl : r = true := by rw [← HR.out]; rfl
  clear HR HQ8
  go_wp2
  go_ret
  exact ⟨rfl, HB8.out⟩
/-- the boxes and the list of what forbids -/
abbrev LAt (w : World) (g : Nat) (m u : ByteArray) (v1 : Value) (l1 : List Fld) (b1 : ByteArray) (st : Int) (v2 : Value) (l2 : List Fld) (b2 : ByteArray) (a : Nat) (W : World) : Prop := SAt w g m u v1 l1 b1 st v2 l2 b2 W ∧ W.cell? ⟨a, 0, none⟩ = some (.func (.func 50) #[] #[.pointer (some ⟨g + 1, 0, none⟩)]) ∧ W.cell? ⟨a, 1, none⟩ = some (.func (.func 52) #[] #[.pointer (some ⟨g, 0, none⟩)]) ∧ W.cell? ⟨a, 2, none⟩ = some (.func (.func 53) #[] #[.pointer (some ⟨g, 0, none⟩), .pointer (some ⟨g + 1, 0, none⟩)]) ∧ W.cell? ⟨a, 3, none⟩ = some (.func (.func 55) #[] #[.pointer (some ⟨g + 1, 0, none⟩)]) ∧ W.cell? ⟨a, 4, none⟩ = some (.func (.func 56) #[] #[.pointer (some ⟨g + 1, 0, none⟩)]) ∧ W.cell? ⟨a, 5, none⟩ = some (.func (.func 58) #[] #[.pointer (some ⟨g, 0, none⟩), .pointer (some ⟨g + 1, 0, none⟩)]) ∧ W.cell? ⟨a, 6, none⟩ = some (.func (.func 61) #[] #[.pointer (some ⟨g + 1, 0, none⟩)])
theorem LAt.step {w : World} {g : Nat} {m u : ByteArray} {v1 : Value} {l1 : List Fld} {b1 : ByteArray} {st : Int} {v2 : Value} {l2 : List Fld} {b2 : ByteArray} {a : Nat} {W W' : World} (h : LAt w g m u v1 l1 b1 st v2 l2 b2 a W) (hb : Below W.heap.size W W') : LAt w g m u v1 l1 b1 st v2 l2 b2 a W' := by
  obtain ⟨h0, k0, k1, k2, k3, k4, k5, k6⟩ := h
  have la : a < W.heap.size := Recs.lt_of_cell k0
  exact ⟨SAt.step h0 hb, (hb.cell (p := ⟨a, 0, none⟩) la).trans k0, (hb.cell (p := ⟨a, 1, none⟩) la).trans k1, (hb.cell (p := ⟨a, 2, none⟩) la).trans k2, (hb.cell (p := ⟨a, 3, none⟩) la).trans k3, (hb.cell (p := ⟨a, 4, none⟩) la).trans k4, (hb.cell (p := ⟨a, 5, none⟩) la).trans k5, (hb.cell (p := ⟨a, 6, none⟩) la).trans k6⟩
set_option maxRecDepth 100000 in
set_option maxHeartbeats 2000000 in
theorem storing_impl (m u : ByteArray) (st : Int) (v1 v2 : Value) (l1 l2 : List Fld) (b1 b2 : ByteArray) (w : World) (h1 : Flds.Is w v1 l1) (h2 : Flds.Is w v2 l2) (hE : LimS w) :
    Calls Tryz.prog 25 #[Req.val m u v1 b1, Resp.val st v2 b2] w fun e w' => e = .returned (.agg #[.slice (some ⟨w.heap.size + 3, 0, none⟩) 7 7]) ∧ LAt w w.heap.size m u v1 l1 b1 st v2 l2 b2 (w.heap.size + 3) w' := by
  have hmf : ∀ (fn : Fn) (first cap : Array Value) (w : World), (Instr.makeFunc fn first cap).run Tryz.prog w = .ok (.func fn first cap) w := fun _ _ _ _ => rfl
  have K0 := Num.hide (pat_first w m u v1 l1 b1 st v2 l2 b2 h1 h2)
  have hb0 : Below w.heap.size w ((w.alloc (.cells #[.string m, .string u, v1, .string b1] 26)).alloc (.cells #[.int .i64 st, v2, .string b2] 28)) := K0.out.2.2.2.2.2.2.2.2.2
  have K1 := Num.hide (hE.below hb0)
  have z0 : ((w.alloc (.cells #[.string m, .string u, v1, .string b1] 26)).alloc (.cells #[.int .i64 st, v2, .string b2] 28)).heap.size = w.heap.size + 2 := by rw [World.size_alloc, World.size_alloc]
  obtain ⟨av1, cv1, rfl, _⟩ := Flds.is_form h1
  obtain ⟨av2, cv2, rfl, _⟩ := Flds.is_form h2
  unfold Req.val Resp.val
  clear h1 h2 hE hb0
  go_enter Tryz.func25, Tryz.ntmps25
  go_upto_region 1 with fail
  generalize (w.alloc (.cells #[.string m, .string u, .slice av1 l1.length cv1, .string b1] 26)).alloc (.cells #[.int .i64 st, .slice av2 l2.length cv2, .string b2] 28) = w0 at K0 K1 z0 ⊢
  go_wp2
  have x1 : ((w0.alloc (.cells #[.slice (some ⟨w.heap.size + 2 + 1, 0, none⟩) 7 7] 58)).alloc (.cells #[.func (.func 50) #[] #[.pointer (some ⟨w.heap.size + 1, 0, none⟩)], .func (.func 52) #[] #[.pointer (some ⟨w.heap.size, 0, none⟩)], .func (.func 53) #[] #[.pointer (some ⟨w.heap.size, 0, none⟩), .pointer (some ⟨w.heap.size + 1, 0, none⟩)], .func (.func 55) #[] #[.pointer (some ⟨w.heap.size + 1, 0, none⟩)], .func (.func 56) #[] #[.pointer (some ⟨w.heap.size + 1, 0, none⟩)], .func (.func 58) #[] #[.pointer (some ⟨w.heap.size, 0, none⟩), .pointer (some ⟨w.heap.size + 1, 0, none⟩)], .func (.func 61) #[] #[.pointer (some ⟨w.heap.size + 1, 0, none⟩)]] 60)).heap[w.heap.size + 2]? = some (.cells #[.slice (some ⟨w.heap.size + 2 + 1, 0, none⟩) 7 7] 58) := by
    rw [heap_alloc_old _ _ (by rw [World.size_alloc]; omega)]
    have := heap_alloc_new w0 (.cells #[.slice (some ⟨w.heap.size + 2 + 1, 0, none⟩) 7 7] 58)
    rwa [z0] at this
  have y1 : ((w0.alloc (.cells #[.slice (some ⟨w.heap.size + 2 + 1, 0, none⟩) 7 7] 58)).alloc (.cells #[.func (.func 50) #[] #[.pointer (some ⟨w.heap.size + 1, 0, none⟩)], .func (.func 52) #[] #[.pointer (some ⟨w.heap.size, 0, none⟩)], .func (.func 53) #[] #[.pointer (some ⟨w.heap.size, 0, none⟩), .pointer (some ⟨w.heap.size + 1, 0, none⟩)], .func (.func 55) #[] #[.pointer (some ⟨w.heap.size + 1, 0, none⟩)], .func (.func 56) #[] #[.pointer (some ⟨w.heap.size + 1, 0, none⟩)], .func (.func 58) #[] #[.pointer (some ⟨w.heap.size, 0, none⟩), .pointer (some ⟨w.heap.size + 1, 0, none⟩)], .func (.func 61) #[] #[.pointer (some ⟨w.heap.size + 1, 0, none⟩)]] 60)).heap[w.heap.size + 3]? = some (.cells #[.func (.func 50) #[] #[.pointer (some ⟨w.heap.size + 1, 0, none⟩)], .func (.func 52) #[] #[.pointer (some ⟨w.heap.size, 0, none⟩)], .func (.func 53) #[] #[.pointer (some ⟨w.heap.size, 0, none⟩), .pointer (some ⟨w.heap.size + 1, 0, none⟩)], .func (.func 55) #[] #[.pointer (some ⟨w.heap.size + 1, 0, none⟩)], .func (.func 56) #[] #[.pointer (some ⟨w.heap.size + 1, 0, none⟩)], .func (.func 58) #[] #[.pointer (some ⟨w.heap.size, 0, none⟩), .pointer (some ⟨w.heap.size + 1, 0, none⟩)], .func (.func 61) #[] #[.pointer (some ⟨w.heap.size + 1, 0, none⟩)]] 60) := by
    have := heap_alloc_new (w0.alloc (.cells #[.slice (some ⟨w.heap.size + 2 + 1, 0, none⟩) 7 7] 58)) (.cells #[.func (.func 50) #[] #[.pointer (some ⟨w.heap.size + 1, 0, none⟩)], .func (.func 52) #[] #[.pointer (some ⟨w.heap.size, 0, none⟩)], .func (.func 53) #[] #[.pointer (some ⟨w.heap.size, 0, none⟩), .pointer (some ⟨w.heap.size + 1, 0, none⟩)], .func (.func 55) #[] #[.pointer (some ⟨w.heap.size + 1, 0, none⟩)], .func (.func 56) #[] #[.pointer (some ⟨w.heap.size + 1, 0, none⟩)], .func (.func 58) #[] #[.pointer (some ⟨w.heap.size, 0, none⟩), .pointer (some ⟨w.heap.size + 1, 0, none⟩)], .func (.func 61) #[] #[.pointer (some ⟨w.heap.size + 1, 0, none⟩)]] 60)
    rwa [World.size_alloc, z0] at this
  have hb : Below w0.heap.size w0 ((w0.alloc (.cells #[.slice (some ⟨w.heap.size + 2 + 1, 0, none⟩) 7 7] 58)).alloc (.cells #[.func (.func 50) #[] #[.pointer (some ⟨w.heap.size + 1, 0, none⟩)], .func (.func 52) #[] #[.pointer (some ⟨w.heap.size, 0, none⟩)], .func (.func 53) #[] #[.pointer (some ⟨w.heap.size, 0, none⟩), .pointer (some ⟨w.heap.size + 1, 0, none⟩)], .func (.func 55) #[] #[.pointer (some ⟨w.heap.size + 1, 0, none⟩)], .func (.func 56) #[] #[.pointer (some ⟨w.heap.size + 1, 0, none⟩)], .func (.func 58) #[] #[.pointer (some ⟨w.heap.size, 0, none⟩), .pointer (some ⟨w.heap.size + 1, 0, none⟩)], .func (.func 61) #[] #[.pointer (some ⟨w.heap.size + 1, 0, none⟩)]] 60)) := ((Below.refl _ _).alloc (Nat.le_refl _) _).alloc (by simp) _
  generalize (w0.alloc (.cells #[.slice (some ⟨w.heap.size + 2 + 1, 0, none⟩) 7 7] 58)).alloc (.cells #[.func (.func 50) #[] #[.pointer (some ⟨w.heap.size + 1, 0, none⟩)], .func (.func 52) #[] #[.pointer (some ⟨w.heap.size, 0, none⟩)], .func (.func 53) #[] #[.pointer (some ⟨w.heap.size, 0, none⟩), .pointer (some ⟨w.heap.size + 1, 0, none⟩)], .func (.func 55) #[] #[.pointer (some ⟨w.heap.size + 1, 0, none⟩)], .func (.func 56) #[] #[.pointer (some ⟨w.heap.size + 1, 0, none⟩)], .func (.func 58) #[] #[.pointer (some ⟨w.heap.size, 0, none⟩), .pointer (some ⟨w.heap.size + 1, 0, none⟩)], .func (.func 61) #[] #[.pointer (some ⟨w.heap.size + 1, 0, none⟩)]] 60) = W at x1 y1 hb ⊢
  have cr : W.cell? ⟨w.heap.size + 2, 0, none⟩ = some (.slice (some ⟨w.heap.size + 2 + 1, 0, none⟩) 7 7) := Recs.box_cell x1 0
  exact bodyPost_ret (v := .agg #[.slice (some ⟨w.heap.size + 3, 0, none⟩) 7 7]) (by simp [results, Tryz.results25, go_sem, cr]) rfl ⟨rfl, ⟨PAt.step K0.out hb, K1.out.below hb⟩, Recs.box_cell y1 0, Recs.box_cell y1 1, Recs.box_cell y1 2, Recs.box_cell y1 3, Recs.box_cell y1 4, Recs.box_cell y1 5, Recs.box_cell y1 6⟩
set_option maxRecDepth 100000 in
set_option maxHeartbeats 2000000 in
theorem storable_impl (m u : ByteArray) (st : Int) (v1 v2 : Value) (l1 l2 : List Fld) (b1 b2 : ByteArray) (w : World) (h1 : Flds.Is w v1 l1) (h2 : Flds.Is w v2 l2) (hl1 : Flds.bulk l1 ≤ 1048576) (hl2 : Flds.bulk l2 + b2.size ≤ 1048576) (hE : LimS w) :
    Calls Tryz.prog 8 #[Req.val m u v1 b1, Resp.val st v2 b2] w fun e w' => e = .returned (.bool (storable m l1 st l2 b2)) ∧ Below w.heap.size w w' := by
  have K0 : Hid (SAt w w.heap.size m u v1 l1 b1 st v2 l2 b2 ((w.alloc (.cells #[.string m, .string u, v1, .string b1] 26)).alloc (.cells #[.int .i64 st, v2, .string b2] 28))) := ⟨pat_first w m u v1 l1 b1 st v2 l2 b2 h1 h2, hE.below (pat_first w m u v1 l1 b1 st v2 l2 b2 h1 h2).2.2.2.2.2.2.2.2.2⟩
  have HM := Num.hide (fun W (h : SAt w w.heap.size m u v1 l1 b1 st v2 l2 b2 W) => storing_impl m u st v1 v2 l1 l2 b1 b2 W h.q h.r h.2)
  have HA := Num.hide (fun W W1 (h : LAt W W.heap.size m u v1 l1 b1 st v2 l2 b2 (W.heap.size + 3) W1) => store_allows (LAt W W.heap.size m u v1 l1 b1 st v2 l2 b2 (W.heap.size + 3)) (fun _ _ h hb => LAt.step h hb) W.heap.size (W.heap.size + 3) _ _ _ _ _ _ _ (fun _ h => h.2.1) (fun _ h => h.2.2.1) (fun _ h => h.2.2.2.1) (fun _ h => h.2.2.2.2.1) (fun _ h => h.2.2.2.2.2.1) (fun _ h => h.2.2.2.2.2.2.1) (fun _ h => h.2.2.2.2.2.2.2) (fun X h => store1_impl W W.heap.size m u v1 l1 b1 st v2 l2 b2 X h.1 hl1 hl2) (fun X h => store2_impl W W.heap.size m u v1 l1 b1 st v2 l2 b2 X h.1 hl1 hl2) (fun X h => store3_impl W W.heap.size m u v1 l1 b1 st v2 l2 b2 X h.1 hl1 hl2) (fun X h => store4_impl W W.heap.size m u v1 l1 b1 st v2 l2 b2 X h.1 hl1 hl2) (fun X h => store5_impl W W.heap.size m u v1 l1 b1 st v2 l2 b2 X h.1 hl1 hl2) (fun X h => store6_impl W W.heap.size m u v1 l1 b1 st v2 l2 b2 X h.1 hl1 hl2) (fun X h => store7_impl W W.heap.size m u v1 l1 b1 st v2 l2 b2 X h.1 hl1 hl2) W1 h)
  rw [← store_bars] at HA
  generalize storable m l1 st l2 b2 = r at HA ⊢
  obtain ⟨av1, cv1, rfl, _⟩ := Flds.is_form h1
  obtain ⟨av2, cv2, rfl, _⟩ := Flds.is_form h2
  unfold Req.val Resp.val at HM
  unfold Req.val Resp.val
  clear h1 h2 hE
  go_enter Tryz.func8, Tryz.ntmps8
  go_upto_region 1 with fail
  generalize (w.alloc (.cells #[.string m, .string u, .slice av1 l1.length cv1, .string b1] 26)).alloc (.cells #[.int .i64 st, .slice av2 l2.length cv2, .string b2] 28) = w0 at K0 ⊢
  obtain ⟨c0, c1, c2, c3, c4, c5, c6, -, -, -⟩ := K0.out.1
  go_wp2_with fail
  refine (HM.out _ K0.out).mono ?_
  rintro e w1 ⟨rfl, hL⟩
  have HL := Num.hide hL
  have HB := Num.hide (K0.out.1.2.2.2.2.2.2.2.2.2.trans (hL.1.1.2.2.2.2.2.2.2.2.2.mono K0.out.1.2.2.2.2.2.2.2.2.2.size))
  clear hL c0 c1 c2 c3 c4 c5 c6
  go_wp2_with fail
  refine (HA.out w0 w1 HL.out).mono ?_
  rintro e w2 ⟨rfl, hb⟩
  have HB2 := Num.hide (HB.out.trans (hb.mono HB.out.size))
  clear hb
  go_wp2
  go_ret
  exact ⟨rfl, HB2.out⟩
end Pol
end Go.Proofs.YtjeokackmkfooaaGreatDoor
namespace Go.Proofs.YtjeokackmkfooaaGreatDoor
open Go.ChangeShapes Go.WideShapes Go.ChangeAt Go.RowKit Go.Deep
set_option linter.unusedVariables false
namespace Resp

/-- what the walk is told of a response that came in -/
def Arg (w : World) (v : Value) (s : Int) (l : List Flds.Fld) (b : ByteArray) : Prop := ∃ u, v = val s u b ∧ Flds.Arg w u l ∧ b.size ≤ maxLen ∧ (Lit.int .i64 s).wf = true
theorem three {α : Type} {cs : Array α} (h : cs.size = 3) : ∃ c0 c1 c2, cs = #[c0, c1, c2] := by
  obtain ⟨l⟩ := cs
  match l, h with
  | [c0, c1, c2], _ => exact ⟨c0, c1, c2, rfl⟩
set_option maxRecDepth 100000 in
theorem opened {H : Type} {enc : TypeId × Value → H} {W : World} {base : Nat} {v : Value} {d : DataW H} {p : List MemPlace}
    (hok : Value.okWide Tryz.prog W .any base 42 v) (h : DataW.Trod enc Tryz.prog W 0 (fun _ => true) true 42 v d p) : ∃ s l b, Arg W v s l b := by
  obtain ⟨cs, rfl, hz⟩ := okWide_struct Tryz.underlying42 hok
  obtain ⟨fuel, hf⟩ := h
  obtain ⟨c0, c1, c2, rfl⟩ := three (hz.trans (by kernel_rfl))
  obtain ⟨y0, y1, y2, n, _, hl, h0, h1, h2⟩ := trod_struct3 Tryz.underlying42 hf
  have e0 : Tryz.prog.cellsOf 3 = 1 := by kernel_rfl
  have e1 : Tryz.prog.cellsOf 38 = 1 := by kernel_rfl
  have e2 : Tryz.prog.cellsOf 9 = 1 := by kernel_rfl
  simp only [Value.cells] at h0 h1 h2
  rw [e0] at h0
  rw [e1] at h1
  rw [e2] at h2
  simp only [List.drop_zero, List.drop_succ_cons, List.take_succ_cons, List.take_zero] at h0 h1 h2
  obtain ⟨a0, len0, cap0, l, hcs, hla⟩ := Flds.opened_cells h1
  obtain ⟨t, et, _, ht⟩ := DataW.trod_string Tryz.underlying9 h2
  obtain ⟨k, ek, _, hk⟩ := DataW.trod_int Tryz.underlying3 h0
  simp only [List.cons.injEq, and_true] at hcs et ek
  subst hcs et ek
  exact ⟨k, l, t, _, rfl, hla, ht, hk⟩
theorem arg_stay {C : Nat} {w w' : World} {v : Value} {s : Int} {l : List Flds.Fld} {b : ByteArray} (h : Arg w v s l b) (hC : w.heap.size ≤ C) (hb : Below C w w') : Arg w' v s l b := by
  obtain ⟨u, h1, h2, h3⟩ := h
  exact ⟨u, h1, Flds.arg_stay h2 hC hb, h3⟩
end Resp
end Go.Proofs.YtjeokackmkfooaaGreatDoor
namespace Go.Proofs.YtjeokackmkfooaaGreatDoor
open Go.RowKit
set_option linter.unusedVariables false
namespace Age

set_option maxRecDepth 100000 in
set_option maxHeartbeats 1000000 in
theorem satAdd_spec (a b : Int) (w : World) : Calls Tryz.prog 41 #[.int .i64 a, .int .i64 b] w fun e w' => e = .returned (.int .i64 (satAdd a b)) ∧ w = w' := by
  obtain ⟨r, hr⟩ : ∃ r, satAdd a b = r := ⟨_, rfl⟩
  rw [hr]
  have HR := Num.hide hr
  clear hr
  rcases (by omega : a ≤ 0 ∨ (0 < a ∧ a ≤ 2147483648) ∨ 2147483648 < a) with ha | ha | ha
  · have p1 : ¬ 2147483648 < a := by omega
    have p2 : ¬ 0 < a := by omega
    rcases (by omega : b ≤ 0 ∨ (0 < b ∧ b ≤ 2147483648) ∨ 2147483648 < b) with hb | hb | hb
    · have q1 : ¬ 2147483648 < b := by omega
      have q2 : ¬ 0 < b := by omega
      obtain rfl : r = 0 := by rw [← HR.out]; unfold satAdd clamp; omega
      clear HR
      go_enter Tryz.func41, Tryz.ntmps41
      go_wp2
      all_goals go_ret
      all_goals exact ⟨retI (by omega), rfl⟩
    · have q1 : ¬ 2147483648 < b := by omega
      have q2 : 0 < b := by omega
      obtain rfl : r = b := by rw [← HR.out]; unfold satAdd clamp; omega
      clear HR
      go_enter Tryz.func41, Tryz.ntmps41
      go_wp2
      all_goals go_ret
      all_goals exact ⟨retI (by omega), rfl⟩
    · have q1 : 2147483648 < b := by omega
      obtain rfl : r = 2147483648 := by rw [← HR.out]; unfold satAdd clamp; omega
      clear HR
      go_enter Tryz.func41, Tryz.ntmps41
      go_wp2
      all_goals go_ret
      all_goals exact ⟨retI (by omega), rfl⟩
  · have p1 : ¬ 2147483648 < a := by omega
    have p2 : 0 < a := by omega
    rcases (by omega : b ≤ 0 ∨ (0 < b ∧ b ≤ 2147483648) ∨ 2147483648 < b) with hb | hb | hb
    · have q1 : ¬ 2147483648 < b := by omega
      have q2 : ¬ 0 < b := by omega
      obtain rfl : r = a := by rw [← HR.out]; unfold satAdd clamp; omega
      clear HR
      go_enter Tryz.func41, Tryz.ntmps41
      go_wp2
      all_goals go_ret
      all_goals exact ⟨retI (by omega), rfl⟩
    · have q1 : ¬ 2147483648 < b := by omega
      have q2 : 0 < b := by omega
      by_cases hs : 2147483648 < a + b
      · obtain rfl : r = 2147483648 := by rw [← HR.out]; unfold satAdd clamp; omega
        clear HR
        go_enter Tryz.func41, Tryz.ntmps41
        go_wp2
        all_goals go_ret
        all_goals exact ⟨retI (by omega), rfl⟩
      · obtain rfl : r = a + b := by rw [← HR.out]; unfold satAdd clamp; omega
        clear HR
        go_enter Tryz.func41, Tryz.ntmps41
        go_wp2
        all_goals go_ret
        all_goals exact ⟨retI (by omega), rfl⟩
    · have q1 : 2147483648 < b := by omega
      obtain rfl : r = 2147483648 := by rw [← HR.out]; unfold satAdd clamp; omega
      clear HR
      go_enter Tryz.func41, Tryz.ntmps41
      go_wp2
      all_goals go_ret
      all_goals exact ⟨retI (by omega), rfl⟩
  · have p1 : 2147483648 < a := by omega
    rcases (by omega : b ≤ 0 ∨ (0 < b ∧ b ≤ 2147483648) ∨ 2147483648 < b) with hb | hb | hb
    · have q1 : ¬ 2147483648 < b := by omega
      have q2 : ¬ 0 < b := by omega
      obtain rfl : r = 2147483648 := by rw [← HR.out]; unfold satAdd clamp; omega
      clear HR
      go_enter Tryz.func41, Tryz.ntmps41
      go_wp2
      all_goals go_ret
      all_goals exact ⟨retI (by omega), rfl⟩
    · have q1 : ¬ 2147483648 < b := by omega
      have q2 : 0 < b := by omega
      obtain rfl : r = 2147483648 := by rw [← HR.out]; unfold satAdd clamp; omega
      clear HR
      go_enter Tryz.func41, Tryz.ntmps41
      go_wp2
      all_goals go_ret
      all_goals exact ⟨retI (by omega), rfl⟩
    · have q1 : 2147483648 < b := by omega
      obtain rfl : r = 2147483648 := by rw [← HR.out]; unfold satAdd clamp; omega
      clear HR
      go_enter Tryz.func41, Tryz.ntmps41
      go_wp2
      all_goals go_ret
      all_goals exact ⟨retI (by omega), rfl⟩
end Age
end Go.Proofs.YtjeokackmkfooaaGreatDoor
namespace Go.Proofs.YtjeokackmkfooaaGreatDoor
open Go.RowKit
set_option linter.unusedVariables false
namespace Dec

theorem lay_front (out : List UInt8) (u : Nat) (r : List UInt8) (x : Int) (h : u ≠ 0) (hx : x = 48 + ((u % 10 : Nat) : Int)) (he : r = dd u ++ out) :
    r = dd (u / 10) ++ (Num.byte x :: out) := by
  subst hx
  rw [he, dd_step u h, List.append_assoc]; rfl
theorem cons_text (c : UInt8) (out : List UInt8) : (⟨#[c]⟩ : ByteArray) ++ ⟨out.toArray⟩ = ⟨(c :: out).toArray⟩ := by
  rw [ByteArray.mk_append_mk]; simp
set_option maxRecDepth 100000 in
set_option maxHeartbeats 1000000 in
theorem spec_pos (n : Int) (w : World) (h0 : 0 < n) (h1 : n ≤ 9223372036854775807) :
    Calls Tryz.prog 91 #[.int .i64 n] w fun e w' => e = .returned (.string ⟨(dd n.natAbs).toArray⟩) ∧ Below w.heap.size w w' := by
  have hz : (n == 0) = false := by rw [beq_eq_false_iff_ne]; omega
  have hneg : decide (n < 0) = false := by simp; omega
  go_enter Tryz.func91, Tryz.ntmps91
  go_wp2
  go_loopw [0, 3] (fun q o wr => ∃ (r : Int) (out : List UInt8), 0 ≤ r ∧ r ≤ n ∧ Hid (dd n.natAbs = dd r.natAbs ++ out) ∧ q = .int .i64 r ∧ o = .string ⟨out.toArray⟩ ∧ Below w.heap.size w wr) (fun q _ _ => (intOf q).toNat)
  case atStart => exact ⟨n, [], by omega, by omega, by show _ = _; simp, rfl, rfl, Below.refl _ _⟩
  case round =>
    obtain ⟨r, out, hr0, hrn, hd, rfl, rfl, hbel⟩ := hrel
    have hl : out.length ≤ 20 := by
      have h2 := congrArg List.length hd.out
      rw [List.length_append] at h2
      have h3 := length_dd n.natAbs (by omega)
      omega
    by_cases hr : r = 0
    · subst hr
      have hne : ((0 : Int) != 0) = false := rfl
      go_wp2
      go_ret
      exact ⟨by rw [show dd n.natAbs = out from hd.out]; rfl, hbel⟩
    · have hne : (r != 0) = true := by rw [bne_iff_ne]; exact hr
      have hp : 0 < r := by omega
      have hc := Mem.conv_one wr (48 + r % 10) (by omega) (by omega)
      clear hr
      go_wp2
      go_roundw
      case rel => exact ⟨r / 10, Num.byte (48 + r % 10) :: out, by omega, by omega, by show _ = _; rw [lay_front out r.natAbs _ (48 + r % 10) (by omega) (by omega) hd.out, show (r / 10).natAbs = r.natAbs / 10 by omega], rfl, congrArg Value.string (cons_text _ _), hbel.alloc hbel.size _⟩
      case measure => simp [intOf]; omega
theorem neg_parts (r : Int) (h : r < 0) : r.tmod 10 = -((r.natAbs % 10 : Nat) : Int) ∧ r.tdiv 10 = -((r.natAbs / 10 : Nat) : Int) := by
  obtain ⟨u, rfl⟩ : ∃ u : Nat, r = -(u : Int) := ⟨r.natAbs, by omega⟩
  rw [Int.neg_tmod, Int.neg_tdiv, Int.natAbs_neg, Int.natAbs_natCast, Int.tmod_eq_emod_of_nonneg (by omega), Int.tdiv_eq_ediv_of_nonneg (by omega)]
  constructor <;> omega
set_option maxRecDepth 100000 in
set_option maxHeartbeats 1000000 in
theorem spec_neg (n : Int) (w : World) (h0 : n < 0) (h1 : -9223372036854775808 ≤ n) :
    Calls Tryz.prog 91 #[.int .i64 n] w fun e w' => e = .returned (.string ⟨(45 :: dd n.natAbs).toArray⟩) ∧ Below w.heap.size w w' := by
  have hz : (n == 0) = false := by rw [beq_eq_false_iff_ne]; omega
  have hneg : decide (n < 0) = true := by simp; omega
  go_enter Tryz.func91, Tryz.ntmps91
  go_wp2
  go_loopw [0, 3] (fun q o wr => ∃ (r : Int) (out : List UInt8), r ≤ 0 ∧ n ≤ r ∧ Hid (dd n.natAbs = dd r.natAbs ++ out) ∧ q = .int .i64 r ∧ o = .string ⟨out.toArray⟩ ∧ Below w.heap.size w wr) (fun q _ _ => (intOf q).natAbs)
  case atStart => exact ⟨n, [], by omega, by omega, by show _ = _; simp, rfl, rfl, Below.refl _ _⟩
  case round =>
    obtain ⟨r, out, hr0, hrn, hd, rfl, rfl, hbel⟩ := hrel
    have hl : out.length ≤ 20 := by
      have h2 := congrArg List.length hd.out
      rw [List.length_append] at h2
      have h3 := length_dd n.natAbs (by omega)
      omega
    by_cases hr : r = 0
    · subst hr
      have hne : ((0 : Int) != 0) = false := rfl
      go_wp2
      go_ret
      exact ⟨by rw [show dd n.natAbs = out from hd.out]; exact congrArg (fun x => Ending.returned (.string x)) (cons_text _ _), hbel⟩
    · have hne : (r != 0) = true := by rw [bne_iff_ne]; exact hr
      have hp : r < 0 := by omega
      clear hr
      have hnp := Num.hide (neg_parts r hp)
      have hb0 : -9 ≤ r.tmod 10 := by have := (Num.unhide hnp).1; omega
      have hb1 : r.tmod 10 ≤ 0 := by have := (Num.unhide hnp).1; omega
      have hq0 : r ≤ r.tdiv 10 := by have := (Num.unhide hnp).2; omega
      have hq1 : r.tdiv 10 ≤ 0 := by have := (Num.unhide hnp).2; omega
      by_cases ht : r.tmod 10 < 0
      · have hc := Mem.conv_one wr (48 + -r.tmod 10) (by omega) (by omega)
        go_wp2
        go_roundw
        case rel => exact ⟨r.tdiv 10, Num.byte (48 + -r.tmod 10) :: out, by omega, by omega, by show _ = _; rw [lay_front out r.natAbs _ (48 + -r.tmod 10) (by omega) (by have := (Num.unhide hnp).1; omega) hd.out, show (r.tdiv 10).natAbs = r.natAbs / 10 by have := (Num.unhide hnp).2; omega], rfl, congrArg Value.string (cons_text _ _), hbel.alloc hbel.size _⟩
        case measure => show (r.tdiv 10).natAbs < r.natAbs; have := (Num.unhide hnp).2; omega
      · have hc := Mem.conv_one wr (48 + r.tmod 10) (by omega) (by omega)
        go_wp2
        go_roundw
        case rel => exact ⟨r.tdiv 10, Num.byte (48 + r.tmod 10) :: out, by omega, by omega, by show _ = _; rw [lay_front out r.natAbs _ (48 + r.tmod 10) (by omega) (by have := (Num.unhide hnp).1; omega) hd.out, show (r.tdiv 10).natAbs = r.natAbs / 10 by have := (Num.unhide hnp).2; omega], rfl, congrArg Value.string (cons_text _ _), hbel.alloc hbel.size _⟩
        case measure => show (r.tdiv 10).natAbs < r.natAbs; have := (Num.unhide hnp).2; omega
set_option maxHeartbeats 400000 in
theorem spec_zero (w : World) : Calls Tryz.prog 91 #[.int .i64 0] w fun e w' => e = .returned (.string ⟨#[48]⟩) ∧ Below w.heap.size w w' := by
  have hz : ((0 : Int) == 0) = true := rfl
  go_enter Tryz.func91, Tryz.ntmps91
  go_wp2
  go_ret
  exact ⟨rfl, Below.refl _ _⟩
theorem spec_any (n : Int) (w : World) (h0 : -9223372036854775808 ≤ n) (h1 : n ≤ 9223372036854775807) :
    Calls Tryz.prog 91 #[.int .i64 n] w fun e w' => e = .returned (.string ⟨(Lib.itoa n).toArray⟩) ∧ Below w.heap.size w w' := by
  rcases Int.lt_trichotomy n 0 with h | h | h
  · rw [itoa_neg n h]; exact spec_neg n w h h0
  · subst h; rw [itoa_zero]; exact spec_zero w
  · rw [itoa_pos n h]; exact spec_pos n w h h1
end Dec
end Go.Proofs.YtjeokackmkfooaaGreatDoor
