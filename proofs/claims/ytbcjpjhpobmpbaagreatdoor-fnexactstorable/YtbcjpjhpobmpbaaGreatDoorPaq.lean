/-
  HeurImpl: Heuristic and Succeeded of the program.
  StarImpl: Does it hang on all?, is it for one alone who asked?, is anything said that lets it be stored?: the program's.
  BodyBack: Plain facts on bodies in pieces: what is made of a text is read as it, whatever stands behind; of a beginning more is wanted.
  MsgBack: What is shown of a message is read again, whatever stands behind; of a beginning more is wanted: plain.
-/
import Derived.Test.YtbcjpjhpobmpbaaGreatDoorPag
import Derived.Test.YtbcjpjhpobmpbaaGreatDoorNum
import Derived.Test.YtbcjpjhpobmpbaaGreatDoorRows
import Derived.Below
import Derived.Test.YtbcjpjhpobmpbaaGreatDoorPap
import Derived.Test.YtbcjpjhpobmpbaaGreatDoorPaf
import Derived.Test.YtbcjpjhpobmpbaaGreatDoorPae
namespace Go.Proofs.YtbcjpjhpobmpbaaGreatDoor
open Go.RowKit
set_option linter.unusedVariables false
set_option linter.unusedSimpArgs false
namespace Pol

set_option maxRecDepth 100000 in
set_option maxHeartbeats 2000000 in
theorem heuristic_impl (st : Int) (w : World) : Calls Tryz.prog 60 #[.int .i64 st] w fun e w' => e = .returned (.bool (heuristic st)) ∧ w = w' := by
  by_cases h200 : st = 200
  · subst h200
    have hr : heuristic 200 = true := by decide +kernel
    rw [hr]
    clear hr
    go_enter Tryz.func60, Tryz.ntmps60
    go_wp2
    go_ret
    exact ⟨rfl, rfl⟩
  have d200 : (st == 200) = false := beq_eq_false_iff_ne.2 h200
  by_cases h203 : st = 203
  · subst h203
    have hr : heuristic 203 = true := by decide +kernel
    rw [hr]
    clear hr
    go_enter Tryz.func60, Tryz.ntmps60
    go_wp2
    go_ret
    exact ⟨rfl, rfl⟩
  have d203 : (st == 203) = false := beq_eq_false_iff_ne.2 h203
  by_cases h204 : st = 204
  · subst h204
    have hr : heuristic 204 = true := by decide +kernel
    rw [hr]
    clear hr
    go_enter Tryz.func60, Tryz.ntmps60
    go_wp2
    go_ret
    exact ⟨rfl, rfl⟩
  have d204 : (st == 204) = false := beq_eq_false_iff_ne.2 h204
  by_cases h300 : st = 300
  · subst h300
    have hr : heuristic 300 = true := by decide +kernel
    rw [hr]
    clear hr
    go_enter Tryz.func60, Tryz.ntmps60
    go_wp2
    go_ret
    exact ⟨rfl, rfl⟩
  have d300 : (st == 300) = false := beq_eq_false_iff_ne.2 h300
  by_cases h301 : st = 301
  · subst h301
    have hr : heuristic 301 = true := by decide +kernel
    rw [hr]
    clear hr
    go_enter Tryz.func60, Tryz.ntmps60
    go_wp2
    go_ret
    exact ⟨rfl, rfl⟩
  have d301 : (st == 301) = false := beq_eq_false_iff_ne.2 h301
  by_cases h404 : st = 404
  · subst h404
    have hr : heuristic 404 = true := by decide +kernel
    rw [hr]
    clear hr
    go_enter Tryz.func60, Tryz.ntmps60
    go_wp2
    go_ret
    exact ⟨rfl, rfl⟩
  have d404 : (st == 404) = false := beq_eq_false_iff_ne.2 h404
  by_cases h410 : st = 410
  · subst h410
    have hr : heuristic 410 = true := by decide +kernel
    rw [hr]
    clear hr
    go_enter Tryz.func60, Tryz.ntmps60
    go_wp2
    go_ret
    exact ⟨rfl, rfl⟩
  have d410 : (st == 410) = false := beq_eq_false_iff_ne.2 h410
  have hr : heuristic st = false := by
    unfold heuristic heurList
    refine decide_eq_false ?_
    simp only [List.mem_cons, List.not_mem_nil, or_false]
    omega
  rw [hr]
  clear hr
  go_enter Tryz.func60, Tryz.ntmps60
  go_wp2
  go_ret
  exact ⟨rfl, rfl⟩
theorem heuristic_impl_b (st : Int) (w : World) : Calls Tryz.prog 60 #[.int .i64 st] w fun e w' => e = .returned (.bool (heuristic st)) ∧ Below w.heap.size w w' :=
  (heuristic_impl st w).mono fun e w' h => ⟨h.1, h.2 ▸ Below.refl _ _⟩
end Pol
end Go.Proofs.YtbcjpjhpobmpbaaGreatDoor
namespace Go.Proofs.YtbcjpjhpobmpbaaGreatDoor
open Go.RowKit
set_option linter.unusedVariables false
set_option linter.unusedSimpArgs false
namespace Pol
open Flds (Fld)
open Age (sMaxAge maxAge expiresName)

theorem star_take (L : List ByteArray) (k : Nat) (h : k < L.length) : starred (L.take (k + 1)) = (starred (L.take k) || decide (L[k] = star)) := by
  unfold starred
  rw [List.take_succ_eq_append_getElem h, List.any_append]
  simp
theorem star_hit (L : List ByteArray) (k : Nat) (h : k < L.length) (hs : L[k] = star) : starred L = true := by
  unfold starred
  rw [List.any_eq_true]
  exact ⟨L[k], List.getElem_mem h, by simp [hs]⟩
set_option maxRecDepth 100000 in
set_option maxHeartbeats 2000000 in
theorem indexStar (v : Value) (L : List ByteArray) (w : World) (h : Strs.Is w v L) (hlen : L.length ≤ 1048577) :
    Calls Tryz.prog 119 #[v, .string star] w fun e w' => (∃ n : Int, e = .returned (.int .i64 n) ∧ decide (0 ≤ n) = starred L) ∧ w = w' := by
  obtain ⟨r, hr⟩ : ∃ r, starred L = r := ⟨_, rfl⟩
  rw [hr]
  have HR := Num.hide hr
  clear hr
  rcases h with ⟨rfl, a, c, rfl⟩ | ⟨b, o, c, rfl, hc1, hc2, hcell⟩
  · obtain rfl : r = false := HR.out.symm
    clear HR
    unfold star
    go_enter Tryz.func119, Tryz.ntmps119
    go_wp2
    go_loop [8] (fun iv => iv = .int .i64 0) (fun _ => 0)
    case atStart => rfl
    case round =>
      subst hrel
      go_wp2
      go_ret
      first | exact ⟨⟨_, rfl, rfl⟩, rfl⟩ | exact ⟨⟨_, rfl, by omega⟩, rfl⟩
  · have HC := Num.hide hcell
    clear hcell
    unfold maxLen at hc2
    unfold star
    go_enter Tryz.func119, Tryz.ntmps119
    go_wp2
    go_loop [8] (fun iv => ∃ k : Nat, k ≤ L.length ∧ iv = .int .i64 (k : Int) ∧ Hid (starred (L.take k) = false)) (fun iv => L.length - (intOf iv).toNat)
    case atStart => exact ⟨0, by omega, rfl, rfl⟩
    case round =>
      obtain ⟨k, hk, rfl, HT⟩ := hrel
      by_cases hlt : k < L.length
      · have c1 : w.cell? ⟨b, o + k, none⟩ = some (.string L[k]) := HC.out k hlt
        have hs := star_take L k hlt
        have hh := star_hit L k hlt
        generalize L[k] = t at c1 hs hh
        by_cases ht : t = star
        · obtain rfl : r = true := by rw [← HR.out]; exact hh ht
          have d0 : (([42] : List UInt8) == t.toList) = true := by rw [ht, ByteArray.toList_eq]; rfl
          clear hs hh HR HT ht
          go_wp2
          go_ret
          exact ⟨⟨_, rfl, by simp⟩, rfl⟩
        · have d0 : (([42] : List UInt8) == t.toList) = false := by
            rw [beq_eq_false_iff_ne]
            intro e
            exact ht (ByteArray.ext (Array.toList_inj.1 ((ByteArray.toList_eq (bs := t)).symm.trans e.symm)))
          rw [HT.out, decide_eq_false ht] at hs
          have HT2 := Num.hide hs
          clear hs hh HT ht
          go_wp2
          go_round
          case rel => exact ⟨k + 1, by omega, by go_num, HT2⟩
          case measure => simp [intOf]; omega
      · obtain rfl : k = L.length := by omega
        obtain rfl : r = false := by rw [← HR.out]; have := HT.out; rwa [List.take_length] at this
        clear HR HT HC
        go_wp2
        go_ret
        first | exact ⟨⟨_, rfl, rfl⟩, rfl⟩ | exact ⟨⟨_, rfl, by omega⟩, rfl⟩
set_option maxRecDepth 100000 in
set_option maxHeartbeats 1000000 in
theorem hasStar (a : Option Addr) (c : Nat) (L : List ByteArray) (w : World) (h : Strs.Is w (.slice a L.length c) L) (hlen : L.length ≤ 1048577) :
    Calls Tryz.prog 92 #[.slice a L.length c, .string star] w fun e w' => e = .returned (.bool (starred L)) ∧ w = w' := by
  have HI := Num.hide (indexStar _ L w h hlen)
  unfold star at HI ⊢
  generalize starred L = r at HI ⊢
  clear h
  go_enter Tryz.func92, Tryz.ntmps92
  go_wp2_with fail
  refine HI.out.mono ?_
  rintro e w1 ⟨⟨n, rfl, hn⟩, rfl⟩
  have HN := Num.hide hn
  clear hn
  go_wp2
  go_ret
  exact ⟨by rw [← HN.out]; rfl, rfl⟩
set_option maxRecDepth 100000 in
set_option maxHeartbeats 1000000 in
theorem varies_impl (v : Value) (l : List Fld) (w : World) (h : Flds.Is w v l) (hl : Flds.bulk l ≤ 1048576) :
    Calls Tryz.prog 55 #[v] w fun e w' => e = .returned (.bool (starred (Sign.split (Flds.get l varyName).1))) ∧ Below w.heap.size w w' := by
  have HP := Num.hide (Flds.parts_impl v l w h hl)
  have hsz := Nat.le_trans (Cc.get_bulk l varyName (by decide)) hl
  unfold varyName at hsz ⊢
  generalize (Flds.get l ⟨#[118, 97, 114, 121]⟩).1 = s at HP hsz ⊢
  have hlen := Cc.split_len s
  generalize Sign.split s = L at HP hlen ⊢
  have HH := Num.hide (fun a c W h => hasStar a c L W h (by omega))
  unfold star at HH
  obtain ⟨r, hr⟩ : ∃ r, starred L = r := ⟨_, rfl⟩
  rw [hr] at HH ⊢
  clear h hr
  go_enter Tryz.func55, Tryz.ntmps55
  go_wp2_with fail
  refine HP.out.mono ?_
  rintro e w2 ⟨v2, rfl, ho, hb⟩
  obtain ⟨a, c, rfl⟩ := Strs.own_len ho
  have HI := Num.hide (Strs.own_is ho)
  have HB2 := Num.hide hb
  clear ho hb
  go_wp2_with fail
  refine (HH.out _ _ _ HI.out).mono ?_
  rintro e w3 ⟨rfl, rfl⟩
  go_wp2
  go_ret
  exact ⟨rfl, HB2.out⟩
set_option maxRecDepth 100000 in
set_option maxHeartbeats 1000000 in
theorem auth_impl (v : Value) (l : List Fld) (w : World) (h : Flds.Is w v l) (hl : Flds.bulk l ≤ 1048576) :
    Calls Tryz.prog 57 #[v] w fun e w' => e = .returned (.bool (Flds.get l authName).2) ∧ Below w.heap.size w w' := by
  have HG := Num.hide (Flds.get_impl v l authName w h (by omega))
  generalize Flds.get l authName = gv at HG ⊢
  obtain ⟨s, sb⟩ := gv
  simp only at HG ⊢
  clear h
  go_enter Tryz.func57, Tryz.ntmps57
  go_wp2_with fail
  refine HG.out.mono ?_
  rintro e w1 ⟨rfl, hb⟩
  have HB := Num.hide hb
  clear hb
  go_wp2
  go_ret
  exact ⟨rfl, HB.out⟩
/-- the three words that lie in a row of a call's own -/
theorem three_cells (w : World) (x y z : ByteArray) (T : Nat) : ∀ i (h : i < [x, y, z].length), (w.alloc (.cells #[.string x, .string y, .string z] T)).cell? ⟨w.heap.size, i, none⟩ = some (.string [x, y, z][i]) := by
  intro i h
  have hx := heap_alloc_new w (.cells #[.string x, .string y, .string z] T)
  have h : i < 3 := h
  rcases (by omega : i = 0 ∨ i = 1 ∨ i = 2) with rfl | rfl | rfl
  · exact Recs.box_cell hx 0
  · exact Recs.box_cell hx 1
  · exact Recs.box_cell hx 2
theorem three_said (l : List Fld) (x y z : ByteArray) : [x, y, z].any (said l) = (said l x || said l y || said l z) := by simp [Bool.or_assoc]
set_option maxRecDepth 100000 in
set_option maxHeartbeats 1000000 in
theorem any_three (v : Value) (l : List Fld) (x y z : ByteArray) (hx : x.size ≤ 1048576) (hy : y.size ≤ 1048576) (hz : z.size ≤ 1048576) (T : Nat) (w : World) (h : Flds.Is w v l) (hl : Flds.bulk l ≤ 1048576) (hE : LimS w) :
    Calls Tryz.prog 95 #[v, .slice (some ⟨w.heap.size, 0, none⟩) 3 3] (w.alloc (.cells #[.string x, .string y, .string z] T)) fun e w' => e = .returned (.bool (said l x || said l y || said l z)) ∧ Below w.heap.size w w' := by
  have hb0 : Below w.heap.size w (w.alloc (.cells #[.string x, .string y, .string z] T)) := (Below.refl _ _).alloc (Nat.le_refl _) _
  have hh := any_impl v l w.heap.size 3 [x, y, z] (w.alloc (.cells #[.string x, .string y, .string z] T)) (three_cells w x y z T) ⟨Nat.le_refl _, by unfold maxLen; decide⟩ (fun i hi => by
    have hi : i < 3 := hi
    rcases (by omega : i = 0 ∨ i = 1 ∨ i = 2) with rfl | rfl | rfl
    · exact hx
    · exact hy
    · exact hz) (Recs.is_below h hb0) hl (hE.below hb0)
  rw [three_said] at hh
  exact hh.mono fun e w' h => ⟨h.1, hb0.trans (h.2.mono hb0.size)⟩
set_option maxRecDepth 100000 in
set_option maxHeartbeats 1000000 in
theorem shared_impl (v : Value) (l : List Fld) (w : World) (h : Flds.Is w v l) (hl : Flds.bulk l ≤ 1048576) (hE : LimS w) :
    Calls Tryz.prog 58 #[v] w fun e w' => e = .returned (.bool (said l publ || said l sMaxAge || said l mustRe)) ∧ Below w.heap.size w w' := by
  have HA := Num.hide (any_three v l publ sMaxAge mustRe (by decide) (by decide) (by decide) 9 w h hl hE)
  unfold publ sMaxAge mustRe at HA ⊢
  obtain ⟨r, hr⟩ : ∃ r, (said l ⟨#[112, 117, 98, 108, 105, 99]⟩ || said l ⟨#[115, 45, 109, 97, 120, 97, 103, 101]⟩ || said l ⟨#[109, 117, 115, 116, 45, 114, 101, 118, 97, 108, 105, 100, 97, 116, 101]⟩) = r := ⟨_, rfl⟩
  rw [hr] at HA ⊢
  clear h hE hr
  go_enter Tryz.func58, Tryz.ntmps58
  go_wp2_with fail
  refine HA.out.mono ?_
  rintro e w1 ⟨rfl, hb⟩
  have HB := Num.hide hb
  clear hb
  go_wp2
  go_ret
  exact ⟨rfl, HB.out⟩
set_option maxRecDepth 100000 in
set_option maxHeartbeats 1000000 in
theorem meant_impl (v : Value) (l : List Fld) (w : World) (h : Flds.Is w v l) (hl : Flds.bulk l ≤ 1048576) (hE : LimS w) :
    Calls Tryz.prog 61 #[v] w fun e w' => e = .returned (.bool ((Flds.get l expiresName).2 || (said l publ || said l maxAge || said l sMaxAge))) ∧ Below w.heap.size w w' := by
  have HG := Num.hide (Flds.get_impl v l expiresName w h (by omega))
  have HA := Num.hide (fun W h (hE : LimS W) => any_three v l publ maxAge sMaxAge (by decide) (by decide) (by decide) 9 W h hl hE)
  have HI := Num.hide h
  have HE := Num.hide hE
  unfold publ maxAge sMaxAge at HA ⊢
  obtain ⟨r, hr⟩ : ∃ r, (said l ⟨#[112, 117, 98, 108, 105, 99]⟩ || said l ⟨#[109, 97, 120, 45, 97, 103, 101]⟩ || said l ⟨#[115, 45, 109, 97, 120, 97, 103, 101]⟩) = r := ⟨_, rfl⟩
  rw [hr] at HA ⊢
  generalize Flds.get l expiresName = gv at HG ⊢
  obtain ⟨s, sb⟩ := gv
  simp only at HG ⊢
  clear h hE hr
  go_enter Tryz.func61, Tryz.ntmps61
  go_wp2_with fail
  refine HG.out.mono ?_
  rintro e w1 ⟨rfl, hb⟩
  have HI1 := Num.hide (Recs.is_below HI.out hb)
  have HE1 := Num.hide (HE.out.below hb)
  have HB := Num.hide hb
  clear hb HG HI HE
  cases sb with
  | true =>
    go_wp2
    go_ret
    exact ⟨rfl, HB.out⟩
  | false =>
    go_wp2_with fail
    refine (HA.out _ HI1.out HE1.out).mono ?_
    rintro e w2 ⟨rfl, hb⟩
    have HB2 := Num.hide (HB.out.trans (hb.mono HB.out.size))
    clear hb HB
    go_wp2
    go_ret
    exact ⟨rfl, HB2.out⟩
end Pol
end Go.Proofs.YtbcjpjhpobmpbaaGreatDoor
namespace Go.Proofs.YtbcjpjhpobmpbaaGreatDoor
open Go.RowKit
set_option linter.unusedVariables false
namespace Body
open Line (byteAt byteAt_eq)

theorem hx_all : ∀ k, k < 16 → hv ((Hex.hx k).toNat : Int) = (k : Int) ∧ ¬ Hex.hx k = 13 := by decide
theorem dh_val : ∀ (f u : Nat), u < 16 ^ f → f ≤ 16 → hexVal (dh u) = (u : Int) ∧ (dh u).all isHex = true ∧ (dh u).length ≤ f ∧ ∀ b ∈ dh u, ¬ b = 13 := by
  intro f
  induction f with
  | zero =>
    intro u h _
    simp only [Nat.pow_zero] at h
    obtain rfl : u = 0 := by omega
    rw [dh_zero]
    exact ⟨rfl, rfl, Nat.le_refl _, fun b hb => by cases hb⟩
  | succ f ih =>
    intro u h hf
    by_cases h0 : u = 0
    · subst h0
      rw [dh_zero]
      exact ⟨rfl, rfl, Nat.zero_le _, fun b hb => by cases hb⟩
    · have hlt : u < 16 ^ 16 := Nat.lt_of_lt_of_le h (Nat.pow_le_pow_right (by decide) hf)
      obtain ⟨h1, h2, h3, h4⟩ := ih (u / 16) (by rw [Nat.pow_succ] at h; omega) (by omega)
      obtain ⟨k1, k2⟩ := hx_all (u % 16) (by omega)
      rw [dh_step u h0 hlt]
      refine ⟨?_, ?_, ?_, ?_⟩
      · rw [hexVal_snoc, h1, k1]; omega
      · rw [List.all_append, h2, Bool.true_and]
        simp only [List.all_cons, List.all_nil, Bool.and_true]
        unfold isHex
        rw [k1]
        exact decide_eq_true (by omega)
      · rw [List.length_append, List.length_singleton]; omega
      · intro b hb
        rcases List.mem_append.1 hb with h5 | h5
        · exact h4 b h5
        · rw [List.mem_singleton.1 h5]; exact k2
theorem dh_pos (u : Nat) (h0 : u ≠ 0) (h : u < 16 ^ 16) : 1 ≤ (dh u).length := by rw [dh_step u h0 h, List.length_append, List.length_singleton]; omega
/-- the digits of a number from 0 to 16777215 -/
theorem hexL_all (n : Nat) (h : n < 16777216) : hexVal (hexL (n : Int)) = (n : Int) ∧ (hexL (n : Int)).all isHex = true ∧ 1 ≤ (hexL (n : Int)).length ∧ (hexL (n : Int)).length ≤ 6 ∧ ∀ b ∈ hexL (n : Int), ¬ b = 13 := by
  unfold hexL
  rw [if_neg (by omega)]
  by_cases h0 : (n : Int) = 0
  · rw [if_pos h0]
    obtain rfl : n = 0 := by omega
    exact ⟨by decide, by decide, by decide, by decide, by decide⟩
  · rw [if_neg h0, Int.toNat_natCast]
    obtain ⟨h1, h2, h3, h4⟩ := dh_val 6 n (by omega) (by omega)
    exact ⟨h1, h2, dh_pos n (by omega) (by omega), h3, h4⟩
theorem readHex_hex (n : Nat) (h : n < 16777216) : readHex (hexNum (n : Int)) = some (n : Int) := by
  obtain ⟨h1, h2, h3, h4, _⟩ := hexL_all n h
  have e : (hexNum (n : Int)).data.toList = hexL (n : Int) := by unfold hexNum; rw [List.toList_toArray]
  have e2 : (hexNum (n : Int)).size = (hexL (n : Int)).length := by rw [← e, Array.length_toList]; rfl
  unfold readHex
  rw [if_pos ⟨by rw [e]; exact h2, by omega, by omega⟩, e, h1]
/-- the digits of at most 60: one or two -/
theorem hexL_two (n : Nat) (h : n ≤ 60) : (hexL (n : Int)).length ≤ 2 := by
  have : ∀ n : Nat, n ≤ 60 → (hexL (n : Int)).length ≤ 2 := by decide +kernel
  exact this n h
theorem byteAt_of (T : ByteArray) (p : List UInt8) (b : UInt8) (q : List UInt8) (h : T.data.toList = p ++ b :: q) : byteAt T p.length = b.toNat := by
  have hl : T.data.toList.length = T.size := by rw [Array.length_toList]; rfl
  have hlt : p.length < T.size := by rw [← hl, h]; simp
  rw [byteAt_eq T _ hlt]
  congr 1
  have : T.data.toList[p.length]'(by omega) = b := by simp [h]
  exact this
theorem extract_mid (T : ByteArray) (p t q : List UInt8) (h : T.data.toList = p ++ (t ++ q)) : T.extract p.length (p.length + t.length) = ⟨t.toArray⟩ := by
  apply ByteArray.ext
  apply Array.toList_inj.1
  rw [ByteArray.data_extract, Array.toList_extract, List.extract_eq_drop_take', h]
  rw [List.take_append, List.drop_append]
  simp
theorem size_list (T : ByteArray) : T.size = T.data.toList.length := by rw [Array.length_toList]; rfl
/-- one piece -/
theorem un_piece (T : ByteArray) (p t q : List UInt8) (out : ByteArray) (f : Nat) (n : Nat) (hn : t.length = n) (h60 : out.size + n ≤ 60)
    (hT : T.data.toList = p ++ (hexL (n : Int) ++ 13 :: 10 :: (t ++ 13 :: 10 :: q))) :
    unF T (f + 1) p.length out = if (n : Int) = 0 then (out ++ ⟨t.toArray⟩, ((p ++ hexL (n : Int) ++ [13, 10] ++ t ++ [13, 10]).length : Int), 0) else unF T f (p ++ hexL (n : Int) ++ [13, 10] ++ t ++ [13, 10]).length (out ++ ⟨t.toArray⟩) := by
  obtain ⟨_, _, _, _, h13⟩ := hexL_all n (by omega)
  obtain ⟨he, hx⟩ := Line.eol_line T p (hexL (n : Int)) _ hT h13
  have hr := readHex_hex n (by omega)
  have hsz := size_list T
  rw [hT] at hsz
  simp only [List.length_append, List.length_cons] at hsz
  have e1 : p.length + (hexL (n : Int)).length + 2 = (p ++ hexL (n : Int) ++ [13, 10]).length := by simp only [List.length_append, List.length_cons, List.length_nil]
  have e2 : p.length + (hexL (n : Int)).length + 2 + n = (p ++ hexL (n : Int) ++ [13, 10] ++ t).length := by simp only [List.length_append, List.length_cons, List.length_nil]; omega
  have e3 : p.length + (hexL (n : Int)).length + 2 + n + 1 = (p ++ hexL (n : Int) ++ [13, 10] ++ t ++ [13]).length := by simp only [List.length_append, List.length_cons, List.length_nil]; omega
  have e4 : p.length + (hexL (n : Int)).length + 2 + n + 2 = (p ++ hexL (n : Int) ++ [13, 10] ++ t ++ [13, 10]).length := by simp only [List.length_append, List.length_cons, List.length_nil]; omega
  have b1 : byteAt T (p.length + (hexL (n : Int)).length + 2 + n) = 13 := by rw [e2]; exact byteAt_of T _ 13 (10 :: q) (by rw [hT]; simp)
  have b2 : byteAt T (p.length + (hexL (n : Int)).length + 2 + n + 1) = 10 := by rw [e3]; exact byteAt_of T _ 10 q (by rw [hT]; simp)
  have ex : T.extract (p.length + (hexL (n : Int)).length + 2) (p.length + (hexL (n : Int)).length + 2 + n) = ⟨t.toArray⟩ := by
    have h := extract_mid T (p ++ hexL (n : Int) ++ [13, 10]) t (13 :: 10 :: q) (by rw [hT]; simp)
    rw [hn, ← e1] at h
    exact h
  rw [unF, he]
  simp only
  rw [hx, show (⟨(hexL (n : Int)).toArray⟩ : ByteArray) = hexNum (n : Int) from rfl, hr]
  simp only [Int.toNat_natCast]
  rw [if_neg (by omega), if_neg (by omega), if_pos ⟨b1, b2⟩, ex, e4]
/-- all pieces, and the end -/
theorem un_all (T : ByteArray) (z : Nat) (hz : 1 ≤ z) (q : List UInt8) : ∀ (k : Nat) (l : List UInt8) (p : List UInt8) (out : ByteArray) (f : Nat), l.length ≤ k → l.length + 1 ≤ f → out.size + l.length ≤ 60 →
    T.data.toList = p ++ (chunkL z l ++ [48, 13, 10, 13, 10] ++ q) → unF T f p.length out = (out ++ ⟨l.toArray⟩, ((p ++ chunkL z l ++ [48, 13, 10, 13, 10]).length : Int), 0) := by
  intro k
  induction k with
  | zero =>
    intro l p out f hk hf h60 hT
    obtain rfl : l = [] := List.eq_nil_of_length_eq_zero (by omega)
    obtain ⟨f, rfl⟩ : ∃ g, f = g + 1 := ⟨f - 1, by omega⟩
    rw [un_piece T p [] q out f 0 rfl (by simpa using h60) (by rw [hT, chunkL_nil]; rfl), if_pos (show ((0 : Nat) : Int) = 0 from rfl)]
    simp [chunkL_nil, hexL]
  | succ k ih =>
    intro l p out f hk hf h60 hT
    by_cases h0 : l = []
    · subst h0
      obtain ⟨f, rfl⟩ : ∃ g, f = g + 1 := ⟨f - 1, by omega⟩
      rw [un_piece T p [] q out f 0 rfl (by simpa using h60) (by rw [hT, chunkL_nil]; rfl), if_pos (show ((0 : Nat) : Int) = 0 from rfl)]
      simp [chunkL_nil, hexL]
    · have hl : 0 < l.length := List.length_pos_iff.2 h0
      obtain ⟨f, rfl⟩ : ∃ g, f = g + 1 := ⟨f - 1, by omega⟩
      have hs := chunkL_step z hz l h0
      obtain ⟨n, hn⟩ : ∃ n, min z l.length = n := ⟨_, rfl⟩
      rw [hn] at hs
      have ht : (l.take n).length = n := by rw [List.length_take]; omega
      have hd : (l.drop n).length = l.length - n := List.length_drop
      rw [hs] at hT
      rw [un_piece T p (l.take n) (chunkL z (l.drop n) ++ [48, 13, 10, 13, 10] ++ q) out f n ht (by omega) (by rw [hT]; simp), if_neg (by omega)]
      rw [ih (l.drop n) _ (out ++ ⟨(l.take n).toArray⟩) f (by omega) (by omega) (by rw [ByteArray.size_append]; have : (⟨(l.take n).toArray⟩ : ByteArray).size = n := by show (l.take n).toArray.size = n; rw [List.size_toArray]; exact ht
                                                                                    omega) (by rw [hT]; simp)]
      rw [hs]
      have e1 : out ++ ⟨(l.take n).toArray⟩ ++ ⟨(l.drop n).toArray⟩ = out ++ ⟨l.toArray⟩ := by
        rw [ByteArray.append_assoc]
        congr 1
        apply ByteArray.ext
        apply Array.toList_inj.1
        simp
      rw [e1]
      simp
theorem unchunk_chunk (s : ByteArray) (z : Int) (q : ByteArray) (hz : 1 ≤ z) (hs : s.size ≤ 60) : unchunk (chunk s z ++ q) = (s, ((chunk s z).size : Int), 0) := by
  obtain ⟨Z, rfl⟩ : ∃ Z : Nat, z = (Z : Int) := ⟨z.toNat, by omega⟩
  have hc : chunk s (Z : Int) = ⟨(chunkL Z s.data.toList ++ [48, 13, 10, 13, 10]).toArray⟩ := by unfold chunk; rw [if_neg (by omega)]; rfl
  have hsl := size_list s
  have hT : (chunk s (Z : Int) ++ q).data.toList = [] ++ (chunkL Z s.data.toList ++ [48, 13, 10, 13, 10] ++ q.data.toList) := by rw [hc]; simp
  have hlen : s.size ≤ (chunk s (Z : Int) ++ q).size := by
    have key : ∀ (f : Nat) (l : List UInt8), l.length ≤ f → l.length ≤ (chF Z f l).length := by
      intro f
      induction f with
      | zero => intro l h; omega
      | succ f ih =>
        intro l h
        rw [chF]
        split
        · next h0 => subst h0; exact Nat.le_refl _
        · next h0 =>
          have hl : 0 < l.length := List.length_pos_iff.2 h0
          have h2 := ih (l.drop (min Z l.length)) (by rw [List.length_drop]; omega)
          rw [List.length_drop] at h2
          simp only [List.length_append, List.length_take, List.length_cons, List.length_nil]
          omega
    have h1 := key _ s.data.toList (Nat.le_refl _)
    have h2 := size_list (chunk s (Z : Int) ++ q)
    rw [hT] at h2
    simp only [List.nil_append, List.length_append] at h2
    unfold chunkL at h2
    omega
  unfold unchunk
  have := un_all (chunk s (Z : Int) ++ q) Z (by omega) q.data.toList s.size s.data.toList [] ⟨#[]⟩ ((chunk s (Z : Int) ++ q).size + 1) (by omega) (by omega) (by show 0 + _ ≤ 60; omega) hT
  rw [List.length_nil] at this
  rw [this]
  have e1 : (⟨#[]⟩ : ByteArray) ++ ⟨s.data.toList.toArray⟩ = s := by apply ByteArray.ext; simp
  have e2 : (chunk s (Z : Int)).size = ([] ++ chunkL Z s.data.toList ++ [48, 13, 10, 13, 10]).length := by rw [size_list, hc]; simp
  rw [e1, e2]
theorem index_no (u : List UInt8) (h : ∀ b ∈ u, ¬ b = 13) : Lib.index u [13, 10] = -1 ∧ Lib.index (u ++ [13]) [13, 10] = -1 := by
  induction u with
  | nil => exact ⟨by decide, by decide⟩
  | cons b u ih =>
    have hb : ¬ b = 13 := h b (List.mem_cons_self ..)
    obtain ⟨h1, h2⟩ := ih (fun c hc => h c (List.mem_cons_of_mem _ hc))
    have hp : ∀ r, ¬ ([13, 10] : List UInt8).isPrefixOf (b :: r) = true := by
      intro r hr
      simp only [List.isPrefixOf, Bool.and_eq_true, beq_iff_eq] at hr
      exact hb hr.1.symm
    constructor
    · rw [Lib.index, if_neg (hp _), h1]; rfl
    · rw [List.cons_append, Lib.index, if_neg (hp _), h2]; rfl
theorem eol_no (T : ByteArray) (p u : List UInt8) (hT : T.data.toList = p ++ u) (h : Lib.index u [13, 10] = -1) : Line.eol T p.length = none := by
  have hi := Line.index_eolGo T _ p.length rfl
  rw [hT, List.drop_left, h] at hi
  show Line.eolGo T _ _ = none
  cases he : Line.eolGo T (T.size - p.length) p.length with
  | none => rfl
  | some k =>
    rw [he] at hi
    have := Line.eolGo_in T _ _ _ he
    unfold Line.eolI at hi
    simp only at hi
    omega
/-- a piece that is cut -/
theorem un_cut (T : ByteArray) (p r : List UInt8) (out : ByteArray) (f : Nat) (n : Nat) (h60 : out.size + n ≤ 60) (K : Nat) (hK : K < (hexL (n : Int)).length + 2 + n + 2)
    (hT : T.data.toList = p ++ (hexL (n : Int) ++ 13 :: 10 :: r).take K) (hr : n + 2 ≤ r.length) : unF T (f + 1) p.length out = more := by
  obtain ⟨_, _, _, _, h13⟩ := hexL_all n (by omega)
  have h2 := hexL_two n (by omega)
  have hsz := size_list T
  rw [hT] at hsz
  simp only [List.length_append, List.length_take, List.length_cons] at hsz
  by_cases hk : K ≤ (hexL (n : Int)).length + 1
  · have he : Line.eol T p.length = none := by
      apply eol_no T p _ hT
      by_cases hk2 : K ≤ (hexL (n : Int)).length
      · rw [List.take_append_of_le_length hk2]
        exact (index_no _ (fun b hb => h13 b (List.mem_of_mem_take hb))).1
      · obtain rfl : K = (hexL (n : Int)).length + 1 := by omega
        have e : (hexL (n : Int) ++ 13 :: 10 :: r).take ((hexL (n : Int)).length + 1) = hexL (n : Int) ++ [13] := by
          rw [List.take_append, List.take_of_length_le (by omega)]; simp
        rw [e]
        exact (index_no _ h13).2
    rw [unF, he]
    simp only
    rw [if_neg (by omega)]
  · have e : (hexL (n : Int) ++ 13 :: 10 :: r).take K = hexL (n : Int) ++ 13 :: 10 :: r.take (K - (hexL (n : Int)).length - 2) := by
      rw [List.take_append]
      obtain ⟨m, hm⟩ : ∃ m, K - (hexL (n : Int)).length = m + 2 := ⟨K - (hexL (n : Int)).length - 2, by omega⟩
      rw [hm, List.take_of_length_le (by omega)]
      simp
    rw [e] at hT
    obtain ⟨he, hx⟩ := Line.eol_line T p (hexL (n : Int)) _ hT h13
    have hrd := readHex_hex n (by omega)
    rw [unF, he]
    simp only
    rw [hx, show (⟨(hexL (n : Int)).toArray⟩ : ByteArray) = hexNum (n : Int) from rfl, hrd]
    simp only [Int.toNat_natCast]
    rw [if_neg (by omega), if_pos (by omega)]
/-- of a beginning more is wanted -/
theorem un_pre (T : ByteArray) (z : Nat) (hz : 1 ≤ z) : ∀ (k : Nat) (l : List UInt8) (p : List UInt8) (out : ByteArray) (f K : Nat), l.length ≤ k → K + 1 ≤ f → out.size + l.length ≤ 60 →
    K < (chunkL z l).length + 5 → T.data.toList = p ++ (chunkL z l ++ [48, 13, 10, 13, 10]).take K → unF T f p.length out = more := by
  intro k
  induction k with
  | zero =>
    intro l p out f K hk hf h60 hK hT
    obtain rfl : l = [] := List.eq_nil_of_length_eq_zero (by omega)
    obtain ⟨f, rfl⟩ : ∃ g, f = g + 1 := ⟨f - 1, by omega⟩
    rw [chunkL_nil] at hK hT
    exact un_cut T p [13, 10] out f 0 (by simpa using h60) K (by simp [hexL] at hK ⊢; omega) (by rw [hT]; rfl) (by decide)
  | succ k ih =>
    intro l p out f K hk hf h60 hK hT
    obtain ⟨f, rfl⟩ : ∃ g, f = g + 1 := ⟨f - 1, by omega⟩
    by_cases h0 : l = []
    · subst h0
      rw [chunkL_nil] at hK hT
      exact un_cut T p [13, 10] out f 0 (by simpa using h60) K (by simp [hexL] at hK ⊢; omega) (by rw [hT]; rfl) (by decide)
    · have hl : 0 < l.length := List.length_pos_iff.2 h0
      have hs := chunkL_step z hz l h0
      obtain ⟨n, hn⟩ : ∃ n, min z l.length = n := ⟨_, rfl⟩
      rw [hn] at hs
      have ht : (l.take n).length = n := by rw [List.length_take]; omega
      have hd : (l.drop n).length = l.length - n := List.length_drop
      have hfm : chunkL z l ++ [48, 13, 10, 13, 10] = hexL (n : Int) ++ 13 :: 10 :: (l.take n ++ 13 :: 10 :: (chunkL z (l.drop n) ++ [48, 13, 10, 13, 10])) := by rw [hs]; simp
      by_cases hc : K < (hexL (n : Int)).length + 2 + n + 2
      · rw [hfm] at hT
        exact un_cut T p _ out f n (by omega) K hc hT (by simp only [List.length_append, List.length_cons, ht]; omega)
      · obtain ⟨m, hm⟩ : ∃ m, K = (hexL (n : Int)).length + 2 + n + 2 + m := ⟨K - ((hexL (n : Int)).length + 2 + n + 2), by omega⟩
        have hfm2 : (chunkL z l ++ [48, 13, 10, 13, 10]).take K = hexL (n : Int) ++ 13 :: 10 :: (l.take n ++ 13 :: 10 :: (chunkL z (l.drop n) ++ [48, 13, 10, 13, 10]).take m) := by
          have hsplit : chunkL z l ++ [48, 13, 10, 13, 10] = (hexL (n : Int) ++ [13, 10] ++ l.take n ++ [13, 10]) ++ (chunkL z (l.drop n) ++ [48, 13, 10, 13, 10]) := by rw [hs]; simp
          have hlen : (hexL (n : Int) ++ [13, 10] ++ l.take n ++ [13, 10]).length = (hexL (n : Int)).length + 2 + n + 2 := by simp only [List.length_append, List.length_cons, List.length_nil, ht]
          rw [hsplit, List.take_append, List.take_of_length_le (by omega), hlen, show K - ((hexL (n : Int)).length + 2 + n + 2) = m by omega]
          simp
        rw [hfm2] at hT
        have hpl := un_piece T p (l.take n) ((chunkL z (l.drop n) ++ [48, 13, 10, 13, 10]).take m) out f n ht (by omega) hT
        rw [if_neg (by omega)] at hpl
        rw [hpl]
        have hKm : m < (chunkL z (l.drop n)).length + 5 := by
          rw [hs] at hK
          simp only [List.length_append, List.length_cons, List.length_nil, ht] at hK
          omega
        refine ih (l.drop n) (p ++ hexL (n : Int) ++ [13, 10] ++ l.take n ++ [13, 10]) (out ++ ⟨(l.take n).toArray⟩) f m (by omega) (by omega) ?_ hKm (by rw [hT]; simp only [List.append_assoc, List.cons_append, List.nil_append])
        rw [ByteArray.size_append]
        have : (⟨(l.take n).toArray⟩ : ByteArray).size = n := by show (l.take n).toArray.size = n; rw [List.size_toArray]; exact ht
        omega
theorem unchunk_pre (s : ByteArray) (z : Int) (K : Nat) (hz : 1 ≤ z) (hs : s.size ≤ 60) (hK : K < (chunk s z).size) : unchunk ((chunk s z).extract 0 K) = more := by
  obtain ⟨Z, rfl⟩ : ∃ Z : Nat, z = (Z : Int) := ⟨z.toNat, by omega⟩
  have hc : chunk s (Z : Int) = ⟨(chunkL Z s.data.toList ++ [48, 13, 10, 13, 10]).toArray⟩ := by unfold chunk; rw [if_neg (by omega)]; rfl
  have hsl := size_list s
  have hcl : (chunk s (Z : Int)).size = (chunkL Z s.data.toList).length + 5 := by rw [size_list, hc]; simp
  have hT : ((chunk s (Z : Int)).extract 0 K).data.toList = [] ++ (chunkL Z s.data.toList ++ [48, 13, 10, 13, 10]).take K := by
    rw [ByteArray.data_extract, Array.toList_extract, List.extract_eq_drop_take', hc]; simp
  have hTs : ((chunk s (Z : Int)).extract 0 K).size = K := by rw [ByteArray.size_extract]; omega
  have h := un_pre ((chunk s (Z : Int)).extract 0 K) Z (by omega) s.size s.data.toList [] ⟨#[]⟩ (K + 1) K (by omega) (by omega) (by show 0 + _ ≤ 60; omega) (by omega) hT
  unfold unchunk
  rw [hTs]
  exact h
end Body
end Go.Proofs.YtbcjpjhpobmpbaaGreatDoor
namespace Go.Proofs.YtbcjpjhpobmpbaaGreatDoor
open Go.RowKit
set_option linter.unusedVariables false
namespace Msg
open Line (byteAt byteAt_eq eol)
open Flds (Fld enc)

theorem byteAt_mid (T : ByteArray) (p : List UInt8) (b : UInt8) (q : List UInt8) (h : T.data.toList = p ++ b :: q) : byteAt T p.length = b.toNat := Body.byteAt_of T p b q h
theorem size_of (T : ByteArray) : T.size = T.data.toList.length := by rw [Array.length_toList]; rfl
/-- the first blank behind a stretch without any -/
theorem blF_list (T : ByteArray) : ∀ (t p q : List UInt8) (n : Nat), T.data.toList = p ++ (t ++ 32 :: q) → (∀ b ∈ t, ¬ b = 32) → t.length < n → blF T n p.length = some (p.length + t.length) := by
  intro t
  induction t with
  | nil =>
    intro p q n hT _ hn
    obtain ⟨m, rfl⟩ : ∃ m, n = m + 1 := ⟨n - 1, by simp at hn; omega⟩
    unfold blF
    rw [byteAt_mid T p 32 q (by simpa using hT), if_pos (by decide)]
    simp
  | cons b t ih =>
    intro p q n hT ha hn
    rw [List.length_cons] at hn
    obtain ⟨m, rfl⟩ : ∃ m, n = m + 1 := ⟨n - 1, by omega⟩
    unfold blF
    have hb := ha b (List.mem_cons_self ..)
    rw [byteAt_mid T p b (t ++ 32 :: q) (by simpa using hT), if_neg (fun h => hb (UInt8.toNat_inj.1 (h.trans (by decide))))]
    have := ih (p ++ [b]) q m (by rw [hT]; simp) (fun c hc => ha c (List.mem_cons_of_mem _ hc)) (by omega)
    rw [List.length_append, List.length_singleton] at this
    rw [this, List.length_cons]
    congr 1
    omega
theorem blk_list (T : ByteArray) (p t q : List UInt8) (hT : T.data.toList = p ++ (t ++ 32 :: q)) (h : ∀ b ∈ t, ¬ b = 32) : blk T p.length = some (p.length + t.length) := by
  unfold blk
  exact blF_list T t p q _ hT h (by rw [size_of, hT]; simp only [List.length_append, List.length_cons]; omega)
theorem extract_list (T : ByteArray) (p t q : List UInt8) (hT : T.data.toList = p ++ (t ++ q)) : T.extract p.length (p.length + t.length) = ⟨t.toArray⟩ := Body.extract_mid T p t q hT
theorem extract_rest (T : ByteArray) (p q : List UInt8) (hT : T.data.toList = p ++ q) : T.extract p.length T.size = ⟨q.toArray⟩ := by
  have := extract_list T p q [] (by simpa using hT)
  rw [show p.length + q.length = T.size by rw [size_of, hT, List.length_append]] at this
  exact this
theorem bytes_ext {x y : ByteArray} (h : x.data.toList = y.data.toList) : x = y := ByteArray.ext (Array.toList_inj.1 h)
theorem list_back (x : ByteArray) : (⟨x.data.toList.toArray⟩ : ByteArray) = x := bytes_ext (by simp)
/-- a line of three words -/
theorem words_list (T : ByteArray) (m u v : List UInt8) (hT : T.data.toList = m ++ 32 :: (u ++ 32 :: v)) (hm : ∀ b ∈ m, ¬ b = 32) (hu : ∀ b ∈ u, ¬ b = 32) : words T = (⟨m.toArray⟩, ⟨u.toArray⟩, ⟨v.toArray⟩) := by
  have h1 := blk_list T [] m (u ++ 32 :: v) (by simpa using hT) hm
  have h2 := blk_list T (m ++ [32]) u v (by rw [hT]; simp) hu
  simp only [List.length_nil, Nat.zero_add, List.length_append, List.length_singleton] at h1 h2
  unfold words
  rw [h1]
  simp only
  rw [h2]
  simp only
  have e1 := extract_list T [] m (32 :: (u ++ 32 :: v)) (by simpa using hT)
  have e2 := extract_list T (m ++ [32]) u (32 :: v) (by rw [hT]; simp)
  have e3 := extract_rest T (m ++ 32 :: (u ++ [32])) v (by rw [hT]; simp)
  simp only [List.length_nil, Nat.zero_add, List.length_append, List.length_cons] at e1 e2 e3
  rw [e1, e2, show m.length + 1 + u.length + 1 = m.length + (u.length + 1 + 1) by omega, e3]
/-- a gap anywhere -/
theorem wholeF_of (T : ByteArray) : ∀ (n i j : Nat), i ≤ j → j < i + n → T.extract j (j + 4) = gap → wholeF T n i = true := by
  intro n
  induction n with
  | zero => intro i j h1 h2; omega
  | succ n ih =>
    intro i j h1 h2 hg
    unfold wholeF
    by_cases e : T.extract i (i + 4) = gap
    · rw [if_pos e]
    · rw [if_neg e]
      have : i ≠ j := fun h => e (by rw [h]; exact hg)
      exact ih (i + 1) j (by omega) (by omega) hg
theorem whole_of (T : ByteArray) (p q : List UInt8) (hT : T.data.toList = p ++ (13 :: 10 :: 13 :: 10 :: q)) : whole T = true := by
  have e := extract_list T p [13, 10, 13, 10] q (by simpa using hT)
  have hz : T.size = p.length + 4 + q.length := by rw [size_of, hT]; simp only [List.length_append, List.length_cons]; omega
  unfold whole
  exact wholeF_of T _ 0 p.length (Nat.zero_le _) (by omega) e
theorem wholeF_no (T : ByteArray) : ∀ (n i : Nat), wholeF T n i = true → ∃ j, i ≤ j ∧ j < i + n ∧ T.extract j (j + 4) = gap := by
  intro n
  induction n with
  | zero => intro i h; cases h
  | succ n ih =>
    intro i h
    unfold wholeF at h
    by_cases e : T.extract i (i + 4) = gap
    · exact ⟨i, Nat.le_refl _, by omega, e⟩
    · rw [if_neg e] at h
      obtain ⟨j, h1, h2, h3⟩ := ih (i + 1) h
      exact ⟨j, by omega, by omega, h3⟩
theorem whole_at {T : ByteArray} (h : whole T = true) : ∃ p q, T.data.toList = p ++ (13 :: 10 :: 13 :: 10 :: q) := by
  obtain ⟨j, _, h2, h3⟩ := wholeF_no T _ 0 h
  refine ⟨T.data.toList.take j, T.data.toList.drop (j + 4), ?_⟩
  have e : (T.extract j (j + 4)).data.toList = [13, 10, 13, 10] := by rw [h3]; rfl
  rw [ByteArray.data_extract, Array.toList_extract, List.extract_eq_drop_take'] at e
  have e2 : (T.data.toList.drop j).take 4 = [13, 10, 13, 10] := by rw [← e, List.drop_take, Nat.add_sub_cancel_left]
  conv => lhs; rw [← List.take_append_drop j T.data.toList, ← List.take_append_drop 4 (T.data.toList.drop j), e2, List.drop_drop]
  rfl
/-- a gap lies nowhere ahead of the end of lines that are not empty -/
def lines (L : List (List UInt8)) : List UInt8 := L.flatMap (· ++ [13, 10]) ++ [13, 10]
theorem lines_cons (t : List UInt8) (L : List (List UInt8)) : lines (t :: L) = t ++ 13 :: 10 :: lines L := by unfold lines; simp
theorem no_thirteen {t p q r : List UInt8} {b : UInt8} (h : ∀ b ∈ t, ¬ b = 13) (he : p ++ 13 :: q = t ++ b :: r) : t.length ≤ p.length := by
  by_cases hc : p.length < t.length
  · exfalso
    have e1 : (p ++ 13 :: q)[p.length]? = some 13 := by simp
    rw [he, List.getElem?_append_left hc] at e1
    exact h _ (List.mem_of_getElem? e1) rfl
  · omega
theorem gap_last : ∀ (L : List (List UInt8)) (p q : List UInt8), L ≠ [] → (∀ t ∈ L, t ≠ [] ∧ ∀ b ∈ t, ¬ b = 13) → lines L = p ++ (13 :: 10 :: 13 :: 10 :: q) → q = [] := by
  intro L
  induction L with
  | nil => intro p q h; exact absurd rfl h
  | cons t L ih =>
    intro p q _ hall he
    rw [lines_cons] at he
    have ht := hall t (List.mem_cons_self ..)
    have hle := no_thirteen ht.2 he.symm
    obtain ⟨x, rfl⟩ : ∃ x, p = t ++ x := by
      refine ⟨p.drop t.length, ?_⟩
      have h1 : (p ++ 13 :: 10 :: 13 :: 10 :: q).take t.length = t := by rw [← he]; simp
      rw [List.take_append_of_le_length hle] at h1
      conv => lhs; rw [← List.take_append_drop t.length p, h1]
    rw [List.append_assoc] at he
    have he2 := List.append_cancel_left he
    match x, he2 with
    | [], he2 =>
      simp only [List.nil_append, List.cons.injEq, true_and] at he2
      cases L with
      | nil =>
        have : lines [] = [13, 10] := rfl
        rw [this] at he2
        simp only [List.cons.injEq, true_and] at he2
        exact he2.symm
      | cons t2 L2 =>
        exfalso
        have ht2 := hall t2 (by simp)
        rw [lines_cons] at he2
        cases t2 with
        | nil => exact ht2.1 rfl
        | cons b t3 =>
          simp only [List.cons_append, List.cons.injEq] at he2
          exact ht2.2 b (List.mem_cons_self ..) he2.1
    | [a], he2 =>
      exfalso
      simp only [List.cons_append, List.nil_append, List.cons.injEq] at he2
      have := he2.2.1
      revert this; decide
    | a :: c :: y, he2 =>
      simp only [List.cons_append, List.cons.injEq] at he2
      cases L with
      | nil =>
        have h1 : lines [] = [13, 10] := rfl
        rw [h1] at he2
        have := congrArg List.length he2.2.2
        simp only [List.length_cons, List.length_nil, List.length_append] at this
        omega
      | cons t2 L2 => exact ih y q (by simp) (fun t ht => hall t (List.mem_cons_of_mem _ ht)) he2.2.2
end Msg
end Go.Proofs.YtbcjpjhpobmpbaaGreatDoor
