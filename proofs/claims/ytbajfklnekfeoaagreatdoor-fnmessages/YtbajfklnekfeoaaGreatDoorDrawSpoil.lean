/-
  The specification's draw of a spoilt text, and the draws of chapter 1: what each call returns is settled by the bytes of the draw alone; and how long it is.
-/
import Derived.Test.YtbajfklnekfeoaaGreatDoorDrawString
import Derived.Deep.RegionWith
namespace Go.Proofs.YtbajfklnekfeoaaGreatDoor
open Go.RowKit
set_option linter.unusedVariables false
namespace Draw

/-- a text that is spoilt somewhere, and the state behind it -/
def spv (l : List Int) (x : ByteArray) (s : Nat × Int) : ByteArray :=
  if x.size = 0 then ⟨(txt l 3 s).toArray⟩
  else if blv l 4 (bls l x.size s) = 0 then x.extract 0 (blv l x.size s).toNat ++ x.extract ((blv l x.size s).toNat + 1) x.size
  else if blv l 4 (bls l x.size s) = 1 then x.extract 0 (blv l x.size s).toNat ++ ⟨#[Num.byte (bv l (bls l 4 (bls l x.size s)))]⟩ ++ x.extract (blv l x.size s).toNat x.size
  else if blv l 4 (bls l x.size s) = 2 then x.extract 0 (blv l x.size s).toNat
  else x.extract 0 (blv l x.size s).toNat ++ ⟨#[Num.byte (bits .xor .i64 ((x.data.toList.getD (blv l x.size s).toNat 0).toNat : Int) (1 + blv l 255 (bls l 4 (bls l x.size s))))]⟩ ++ x.extract ((blv l x.size s).toNat + 1) x.size
def sps (l : List Int) (x : ByteArray) (s : Nat × Int) : Nat × Int :=
  if x.size = 0 then txts l 3 s
  else if blv l 4 (bls l x.size s) = 0 then bls l 4 (bls l x.size s)
  else if blv l 4 (bls l x.size s) = 1 then ns l (bls l 4 (bls l x.size s))
  else if blv l 4 (bls l x.size s) = 2 then bls l 4 (bls l x.size s)
  else bls l 255 (bls l 4 (bls l x.size s))
theorem get_at (x : ByteArray) (k : Nat) (h : k < x.size) : x.data.toList.getD k 0 = x[k] := by
  rw [List.getD_eq_getElem?_getD, Array.getElem?_toList, Array.getElem?_eq_getElem h]; rfl
theorem xor_bd (x y : Int) (h0 : 0 ≤ x) (h1 : x < 256) (h2 : 0 ≤ y) (h3 : y < 256) : 0 ≤ bits .xor .i64 x y ∧ bits .xor .i64 x y < 256 := by
  obtain ⟨m, rfl⟩ := Int.eq_ofNat_of_zero_le h0
  obtain ⟨n, rfl⟩ := Int.eq_ofNat_of_zero_le h2
  have hx : m ^^^ n < 2 ^ 8 := Nat.xor_lt_two_pow (by omega) (by omega)
  have e : bits .xor .i64 (m : Int) (n : Int) = ((m ^^^ n : Nat) : Int) := by
    show IntKind.i64.wrap ((BitVec.ofInt 64 (m : Int) ^^^ BitVec.ofInt 64 (n : Int)).toNat : Int) = _
    rw [BitVec.toNat_xor, BitVec.ofInt_natCast, BitVec.ofInt_natCast, BitVec.toNat_ofNat, BitVec.toNat_ofNat, Nat.mod_eq_of_lt (by omega), Nat.mod_eq_of_lt (by omega), IntKind.wrap_i64]
    omega
  rw [e]
  omega
set_option maxRecDepth 100000 in
set_option maxHeartbeats 8000000 in
theorem spoil_turn (B C cap : Nat) (a : Option Addr) (l : List Int) (x : ByteArray) (w : World) (s : Nat × Int) (h : At B C cap a l w s) (hx : x.size ≤ 1000) (k : Nat) (h0 : ¬ x.size = 0) (c0 : ((x.size : Int) == 0) = false) (hk : blv l x.size s = k) (hkx : k < x.size)
    (hkx' : (k : Int) < (x.size : Int)) (hkn : (blv l x.size s).toNat = k) (hb : 0 ≤ blv l x.size s ∧ blv l x.size s < x.size) (t0 : ¬ blv l 4 (bls l x.size s) = 0) (t1 : ¬ blv l 4 (bls l x.size s) = 1) (t2 : ¬ blv l 4 (bls l x.size s) = 2) :
    Calls Tryz.prog 68 #[.pointer (some ⟨C, 0, none⟩), .string x] w fun e w' => e = .returned (.string (spv l x s)) ∧ At B C cap a l w' (sps l x s) ∧ Only C w w' := by
  have e1 : spv l x s = x.extract 0 k ++ ⟨#[Num.byte (bits .xor .i64 (x[k].toNat : Int) (1 + blv l 255 (bls l 4 (bls l x.size s))))]⟩ ++ x.extract (k + 1) x.size := by
    unfold spv; rw [if_neg h0, if_neg t0, if_neg t1, if_neg t2, hkn, get_at x k hkx]
  have e2 : sps l x s = bls l 255 (bls l 4 (bls l x.size s)) := by unfold sps; rw [if_neg h0, if_neg t0, if_neg t1, if_neg t2]
  have c0' : (blv l 4 (bls l x.size s) == 0) = false := beq_eq_false_iff_ne.2 t0
  have c1' : (blv l 4 (bls l x.size s) == 1) = false := beq_eq_false_iff_ne.2 t1
  have c2' : (blv l 4 (bls l x.size s) == 2) = false := beq_eq_false_iff_ne.2 t2
  rw [e1, e2]
  have bb := blv_bd l 255 (bls l 4 (bls l x.size s)) (by decide)
  obtain ⟨s2, hs2⟩ : ∃ s2, bls l 4 (bls l x.size s) = s2 := ⟨_, rfl⟩
  rw [hs2] at bb ⊢
  have HS2 := Num.hide hs2
  clear hs2
  have hwk : IntKind.i64.wrap ((k : Int) + 1) = (k : Int) + 1 := Num.wraps_i64 _ (by omega) (by omega)
  have hk1 : (k : Int) + 1 ≤ (x.size : Int) := by omega
  have HT := Num.hide (True.intro)
  have HK := Num.hide hk
  clear e1 e2 h0 t0 t1 t2 hk hkn hb
  go_enter Tryz.func68, Tryz.ntmps68
  go_wp2_with fail
  refine (below_at B C cap a l x.size _ s h (by omega)).mono ?_
  rintro e w1 ⟨rfl, h1, o1⟩
  rw [Num.unhide HK]
  go_wp2_with fail
  refine (below_at B C cap a l 4 _ _ h1 (by omega)).mono ?_
  rintro e w2 ⟨rfl, h2, o2⟩
  rw [Num.unhide HS2] at h2
  have hxr : 0 ≤ bits .xor .i64 (x[k].toNat : Int) (1 + blv l 255 s2) ∧ bits .xor .i64 (x[k].toNat : Int) (1 + blv l 255 s2) < 256 := xor_bd _ _ (by omega) (by have := x[k].toNat_lt; omega) (by omega) (by omega)
  have hc := fun W => Mem.conv_one W (bits .xor .i64 (x[k].toNat : Int) (1 + blv l 255 s2)) hxr.1 hxr.2
  have hw : IntKind.i64.wrap (x[k].toNat : Int) = (x[k].toNat : Int) := Num.wraps_i64 _ (by omega) (by have := x[k].toNat_lt; omega)
  have hw2 : IntKind.i64.wrap (1 + blv l 255 s2) = 1 + blv l 255 s2 := Num.wraps_i64 _ (by omega) (by omega)
  have hw3 : IntKind.u8.wrap (bits .xor .i64 (x[k].toNat : Int) (1 + blv l 255 s2)) = bits .xor .i64 (x[k].toNat : Int) (1 + blv l 255 s2) := wraps_u8 _ hxr.1 hxr.2
  go_wp2
  go_region_with (go_at_call 45; refine (below_at B C cap a l 255 _ s2 h2.drew (by omega)).mono ?_; rintro e w3 ⟨rfl, h3, o3⟩)
  all_goals
    go_wp2
    go_ret
    exact ⟨rfl, h3.alloc _, (((o1.trans o2).drew).trans o3).alloc _⟩
set_option maxRecDepth 100000 in
set_option maxHeartbeats 1000000 in
theorem spoil_at (B C cap : Nat) (a : Option Addr) (l : List Int) (x : ByteArray) (w : World) (s : Nat × Int) (h : At B C cap a l w s) (hx : x.size ≤ 1000) :
    Calls Tryz.prog 68 #[.pointer (some ⟨C, 0, none⟩), .string x] w fun e w' => e = .returned (.string (spv l x s)) ∧ At B C cap a l w' (sps l x s) ∧ Only C w w' := by
  by_cases h0 : x.size = 0
  · have e1 : spv l x s = ⟨(txt l 3 s).toArray⟩ := if_pos h0
    have e2 : sps l x s = txts l 3 s := if_pos h0
    rw [e1, e2]
    have c0 : ((x.size : Int) == 0) = true := by rw [beq_iff_eq]; omega
    clear e1 e2 h0
    go_enter Tryz.func68, Tryz.ntmps68
    go_wp2_with fail
    refine (text_at B C cap a l 3 _ s h (by omega) (by omega)).mono ?_
    rintro e w1 ⟨rfl, h1, o1⟩
    go_wp2
    go_ret
    exact ⟨rfl, h1, o1⟩
  · have c0 : ((x.size : Int) == 0) = false := by rw [beq_eq_false_iff_ne]; omega
    have hb := blv_bd l x.size s (by omega)
    obtain ⟨k, hk⟩ := Int.eq_ofNat_of_zero_le hb.1
    have hkx : k < x.size := by omega
    have hkx' : (k : Int) < (x.size : Int) := by omega
    have hkn : (blv l x.size s).toNat = k := by omega
    by_cases t0 : blv l 4 (bls l x.size s) = 0
    · have e1 : spv l x s = x.extract 0 k ++ x.extract (k + 1) x.size := by unfold spv; rw [if_neg h0, if_pos t0, hkn]
      have e2 : sps l x s = bls l 4 (bls l x.size s) := by unfold sps; rw [if_neg h0, if_pos t0]
      rw [e1, e2]
      have HT := Num.hide t0
      have HK := Num.hide hk
      clear e1 e2 h0 t0 hk hkn hb
      go_enter Tryz.func68, Tryz.ntmps68
      go_wp2_with fail
      refine (below_at B C cap a l x.size _ s h (by omega)).mono ?_
      rintro e w1 ⟨rfl, h1, o1⟩
      rw [Num.unhide HK]
      go_wp2_with fail
      refine (below_at B C cap a l 4 _ _ h1 (by omega)).mono ?_
      rintro e w2 ⟨rfl, h2, o2⟩
      rw [Num.unhide HT]
      go_wp2
      go_quiet (fail)
      go_wp2
      go_ret
      exact ⟨rfl, h2.below (below_drewN (Below.refl _ _) _), (o1.trans o2).drewN _⟩
    · by_cases t1 : blv l 4 (bls l x.size s) = 1
      · have e1 : spv l x s = x.extract 0 k ++ ⟨#[Num.byte (bv l (bls l 4 (bls l x.size s)))]⟩ ++ x.extract k x.size := by unfold spv; rw [if_neg h0, if_neg t0, if_pos t1, hkn]
        have e2 : sps l x s = ns l (bls l 4 (bls l x.size s)) := by unfold sps; rw [if_neg h0, if_neg t0, if_pos t1]
        rw [e1, e2]
        have bb := bv_bd l (bls l 4 (bls l x.size s))
        obtain ⟨s2, hs2⟩ : ∃ s2, bls l 4 (bls l x.size s) = s2 := ⟨_, rfl⟩
        rw [hs2] at bb ⊢
        have HS2 := Num.hide hs2
        clear hs2
        have hwk : IntKind.i64.wrap ((k : Int) + 1) = (k : Int) + 1 := Num.wraps_i64 _ (by omega) (by omega)
        have HT := Num.hide t1
        have HK := Num.hide hk
        clear e1 e2 h0 t0 t1 hk hkn hb
        go_enter Tryz.func68, Tryz.ntmps68
        go_wp2_with fail
        refine (below_at B C cap a l x.size _ s h (by omega)).mono ?_
        rintro e w1 ⟨rfl, h1, o1⟩
        rw [Num.unhide HK]
        go_wp2_with fail
        refine (below_at B C cap a l 4 _ _ h1 (by omega)).mono ?_
        rintro e w2 ⟨rfl, h2, o2⟩
        rw [Num.unhide HT]
        rw [Num.unhide HS2] at h2
        have hc := fun W => Mem.conv_one W (bv l s2) bb.1 (by omega)
        have hw : IntKind.u8.wrap (bv l s2) = bv l s2 := wraps_u8 _ bb.1 (by omega)
        go_wp2
        go_region_with (go_at_call 82; refine (byte_at B C cap a l _ s2 h2.drew).mono ?_; rintro e w3 ⟨rfl, h3, o3⟩)
        all_goals
          go_wp2
          go_ret
          exact ⟨rfl, h3.alloc _, (((o1.trans o2).drew).trans o3).alloc _⟩
      · by_cases t2 : blv l 4 (bls l x.size s) = 2
        · have e1 : spv l x s = x.extract 0 k := by unfold spv; rw [if_neg h0, if_neg t0, if_neg t1, if_pos t2, hkn]
          have e2 : sps l x s = bls l 4 (bls l x.size s) := by unfold sps; rw [if_neg h0, if_neg t0, if_neg t1, if_pos t2]
          rw [e1, e2]
          have HT := Num.hide t2
          have HK := Num.hide hk
          clear e1 e2 h0 t0 t1 t2 hk hkn hb
          go_enter Tryz.func68, Tryz.ntmps68
          go_wp2_with fail
          refine (below_at B C cap a l x.size _ s h (by omega)).mono ?_
          rintro e w1 ⟨rfl, h1, o1⟩
          rw [Num.unhide HK]
          go_wp2_with fail
          refine (below_at B C cap a l 4 _ _ h1 (by omega)).mono ?_
          rintro e w2 ⟨rfl, h2, o2⟩
          rw [Num.unhide HT]
          go_wp2
          go_ret
          exact ⟨rfl, h2, o1.trans o2⟩
        · exact spoil_turn B C cap a l x w s h hx k h0 c0 hk hkx hkx' hkn hb t0 t1 t2
theorem size_mk (t : List UInt8) : (⟨t.toArray⟩ : ByteArray).size = t.length := by simp [ByteArray.size]
theorem size_one (b : UInt8) : (⟨#[b]⟩ : ByteArray).size = 1 := rfl
theorem size_spv (l : List Int) (x : ByteArray) (s : Nat × Int) (hx : x.size ≤ 1000) : (spv l x s).size ≤ 2100 := by
  unfold spv
  have ht := length_txt l 3 s (by omega)
  have e3 : (3 : Int).toNat = 3 := rfl
  split
  · rw [size_mk]; omega
  · split
    · rw [ByteArray.size_append, ByteArray.size_extract, ByteArray.size_extract]; omega
    · split
      · rw [ByteArray.size_append, ByteArray.size_append, ByteArray.size_extract, ByteArray.size_extract, size_one]; omega
      · split
        · rw [ByteArray.size_extract]; omega
        · rw [ByteArray.size_append, ByteArray.size_append, ByteArray.size_extract, ByteArray.size_extract, size_one]; omega
end Draw
end Go.Proofs.YtbajfklnekfeoaaGreatDoor
