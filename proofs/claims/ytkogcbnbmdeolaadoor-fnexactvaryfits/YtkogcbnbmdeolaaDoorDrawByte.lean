/-
  The specification's cursor over the bytes of a draw: what a byte of it is, and what the cursor holds then.
-/
import Derived.Test.YtkogcbnbmdeolaaDoorRows
import Derived.Test.YtkogcbnbmdeolaaDoorNum
import Derived.WalkKit
import Derived.WalkLawsBesides
import Derived.Outline
import Derived.BigQuiet
import Derived.Deep.QuietTactic
namespace Go.Proofs.YtkogcbnbmdeolaaDoor
open Go.RowKit
set_option linter.unusedVariables false
namespace Draw

theorem and_255 (n : Int) : bits .and .i64 n 255 = n % 256 := by
  have h255 : (BitVec.ofInt 64 255).toNat = 2 ^ 8 - 1 := by decide
  have key : (BitVec.ofInt 64 n &&& BitVec.ofInt 64 255).toNat = (n % ((2 ^ 64 : Nat) : Int)).toNat % 2 ^ 8 := by
    rw [BitVec.toNat_and, BitVec.toNat_ofInt, h255, Nat.and_two_pow_sub_one_eq_mod]
  show IntKind.i64.wrap ((BitVec.ofInt 64 n &&& BitVec.ofInt 64 255).toNat : Nat) = n % 256
  rw [key, IntKind.wrap_i64]
  omega
/-- the mixed number behind a step, and the byte that it gives -/
def nh (h : Int) : Int := wrap64 (wrap64 (h * 6364136223846793005) + 1442695040888963407)
def rx (h : Int) : Int := bits .xor .i64 (nh h / 8589934592) (nh h / 35184372088832) % 256
/-- of what was there all but one block is as it was -/
structure Only (C : Nat) (w w' : World) : Prop where
  os : w'.os = w.os
  tape : w'.tape = w.tape
  output : w'.output = w.output
  size : w.heap.size ≤ w'.heap.size
  block : ∀ k, k < w.heap.size → k ≠ C → w'.heap[k]? = w.heap[k]?
theorem Only.refl (C : Nat) (w : World) : Only C w w := ⟨rfl, rfl, rfl, Nat.le_refl _, fun _ _ _ => rfl⟩
theorem Only.trans {C : Nat} {a b c : World} (h : Only C a b) (k : Only C b c) : Only C a c :=
  ⟨k.os.trans h.os, k.tape.trans h.tape, k.output.trans h.output, Nat.le_trans h.size k.size, fun i hi hc => (k.block i (Nat.lt_of_lt_of_le hi h.size) hc).trans (h.block i hi hc)⟩
theorem Only.setCell {C : Nat} {a w : World} (h : Only C a w) (j : Nat) (u : Value) : Only C a (w.setCell ⟨C, j, none⟩ u) :=
  h.trans ⟨rfl, rfl, rfl, by simp [World.setCell], fun k _ hk => Below.heap_setCell _ _ _ _ hk⟩
theorem Only.drewN {C : Nat} {a w : World} (h : Only C a w) (n : Nat) : Only C a (w.drewN n) := h.trans ⟨rfl, rfl, rfl, Nat.le_refl _, fun _ _ _ => rfl⟩
theorem Only.drew {C : Nat} {a w : World} (h : Only C a w) : Only C a w.drew := h.trans ⟨rfl, rfl, rfl, Nat.le_refl _, fun _ _ _ => rfl⟩
theorem Only.alloc {C : Nat} {a w : World} (h : Only C a w) (o : Obj) : Only C a (w.alloc o) :=
  h.trans ⟨rfl, rfl, rfl, by simp, fun k hk _ => Below.heap_alloc _ _ _ hk⟩
theorem Only.of_below {C : Nat} {a w w' : World} (h : Only C a w) (hb : Below a.heap.size w w') : Only C a w' :=
  ⟨hb.os.trans h.os, hb.tape.trans h.tape, hb.output.trans h.output, Nat.le_trans h.size hb.size, fun k hk hc => (hb.block k hk).trans (h.block k hk hc)⟩
theorem Only.owns {C base : Nat} {e : TypeId} {size n : Nat} {v : Value} {xs : List Value} {w w' : World} (h : Only C w w') (hC : C < base) (ho : w.ownsRow base e size v n xs) : w'.ownsRow base e size v n xs := by
  refine ⟨ho.1, ?_⟩
  rcases ho.2 with hn | ⟨g, cap, cur, rfl, hb, hg, rest⟩
  · exact .inl hn
  · exact .inr ⟨g, cap, cur, rfl, hb, by rw [h.block g (Array.getElem?_eq_some_iff.1 hg).1 (by omega)]; exact hg, rest⟩
theorem Only.below {C B : Nat} {w w' : World} (h : Only C w w') (hB : B ≤ C) (hC : C < w.heap.size) : Below B w w' :=
  ⟨h.os, h.tape, h.output, h.size, fun k hk => h.block k (by omega) (by omega)⟩
/-- what the cursor holds: the bytes of the draw, how many were taken, the mixed number -/
def Cur (w : World) (C : Nat) (a : Option Addr) (len cap k : Nat) (h : Int) : Prop := w.heap[C]? = some (.cells #[.slice a len cap, .int .i64 k, .int .i64 h] 91 (0, 0))
/-- the bytes of the draw lie below block B -/
def CodeAt (B : Nat) (w : World) (a : Option Addr) (l : List Int) : Prop :=
  (∀ i (h : i < l.length), 0 ≤ l[i] ∧ l[i] ≤ 255) ∧ (l = [] ∨ ∃ b off, a = some ⟨b, off, none⟩ ∧ b < B ∧ ∀ i (h : i < l.length), w.cell? ⟨b, off + i, none⟩ = some (.int .u8 l[i]))
theorem CodeAt.below {B : Nat} {w w' : World} {a : Option Addr} {l : List Int} (h : CodeAt B w a l) (hb : Below B w w') : CodeAt B w' a l := by
  refine ⟨h.1, ?_⟩
  rcases h.2 with h | ⟨b, off, ha, hB, hc⟩
  · exact .inl h
  · exact .inr ⟨b, off, ha, hB, fun i hi => by rw [hb.cell (p := ⟨b, off + i, none⟩) hB]; exact hc i hi⟩
theorem Cur.set2 {w : World} {C : Nat} {a : Option Addr} {len cap k : Nat} {h : Int} (H : Cur w C a len cap k h) (g : Int) : Cur (w.setCell ⟨C, 2, none⟩ (.int .i64 g)) C a len cap k g := by
  unfold Cur at *
  rw [heap_setCell_same w C 2 _ _ _ H]; rfl
theorem Cur.set1 {w : World} {C : Nat} {a : Option Addr} {len cap k : Nat} {h : Int} (H : Cur w C a len cap k h) (g : Nat) : Cur (w.setCell ⟨C, 1, none⟩ (.int .i64 g)) C a len cap g h := by
  unfold Cur at *
  rw [heap_setCell_same w C 1 _ _ _ H]; rfl
theorem Cur.cells {w : World} {C : Nat} {a : Option Addr} {len cap k : Nat} {h : Int} (H : Cur w C a len cap k h) :
    w.cell? ⟨C, 0, none⟩ = some (.slice a len cap) ∧ w.cell? ⟨C, 1, none⟩ = some (.int .i64 k) ∧ w.cell? ⟨C, 2, none⟩ = some (.int .i64 h) ∧ w.frozen? ⟨C, 1, none⟩ = false ∧ w.frozen? ⟨C, 2, none⟩ = false := by
  unfold Cur at H
  refine ⟨?_, ?_, ?_, frozen_of_row w C 1 _ _ H, frozen_of_row w C 2 _ _ H⟩
  · rw [cell_of_row w C 0 _ _ _ H]; rfl
  · rw [cell_of_row w C 1 _ _ _ H]; rfl
  · rw [cell_of_row w C 2 _ _ _ H]; rfl
/-- the byte, and how many were taken then -/
def bx (l : List Int) (k : Nat) (h : Int) : Int := if k < l.length then (rx h + l.getD k 0) % 256 else rx h
def bk (l : List Int) (k : Nat) : Nat := if k < l.length then k + 1 else k
theorem bx_bd (l : List Int) (k : Nat) (h : Int) : 0 ≤ bx l k h ∧ bx l k h ≤ 255 := by
  unfold bx rx
  split <;> omega
theorem bk_le (l : List Int) (k : Nat) (h : k ≤ l.length) : bk l k ≤ l.length := by
  unfold bk; split <;> omega
set_option maxRecDepth 100000 in
set_option maxHeartbeats 1000000 in
theorem byte_past (C k len cap : Nat) (a : Option Addr) (h : Int) (w : World) (hC : Cur w C a len cap k h) (hk : len ≤ k) (hk2 : k ≤ 1048576) (hl : len ≤ 1048576) :
    Calls Tryd.prog 72 #[.pointer (some ⟨C, 0, none⟩)] w fun e w' => e = .returned (.int .i64 (rx h)) ∧ Cur w' C a len cap k (nh h) ∧ Only C w w' := by
  obtain ⟨c0, c1, c2, f1, f2⟩ := hC.cells
  have hn : wrap64 (wrap64 (h * 6364136223846793005) + 1442695040888963407) = nh h := rfl
  have ha := and_255
  go_enter Tryd.func72, Tryd.ntmps72
  go_wp2
  go_quiet (fail)
  go_wp2
  go_quiet (fail)
  go_wp2
  go_ret
  exact ⟨rfl, hC.set2 (nh h), (((Only.refl C w).setCell 2 _).drewN _).drewN _⟩
set_option maxRecDepth 100000 in
set_option maxHeartbeats 1000000 in
theorem byte_in (C k len cap b off : Nat) (h z : Int) (w : World) (hC : Cur w C (some ⟨b, off, none⟩) len cap k h) (hk : k < len) (hl : len ≤ 1048576) (hbC : b < C)
    (hz : w.cell? ⟨b, off + k, none⟩ = some (.int .u8 z)) (hz0 : 0 ≤ z) (hz1 : z ≤ 255) :
    Calls Tryd.prog 72 #[.pointer (some ⟨C, 0, none⟩)] w fun e w' => e = .returned (.int .i64 ((rx h + z) % 256)) ∧ Cur w' C (some ⟨b, off, none⟩) len cap (k + 1) (nh h) ∧ Only C w w' := by
  obtain ⟨c0, c1, c2, f1, f2⟩ := hC.cells
  have hn : wrap64 (wrap64 (h * 6364136223846793005) + 1442695040888963407) = nh h := rfl
  have ha := and_255
  have hz2 : (w.setCell ⟨C, 2, none⟩ (.int .i64 (nh h))).cell? ⟨b, off + k, none⟩ = some (.int .u8 z) := by
    rw [← hz]; exact World.cell?_of_block (w := w) (Below.heap_setCell w ⟨C, 2, none⟩ _ b (by show b ≠ C; omega))
  have hxr : Hid (rx h = bits .xor .i64 (nh h / 8589934592) (nh h / 35184372088832) % 256) := rfl
  have hkl : (k : Int) < (len : Int) := by omega
  go_enter Tryd.func72, Tryd.ntmps72
  go_wp2
  go_quiet (fail)
  go_wp2
  go_quiet (fail)
  go_wp2
  go_quiet (fail)
  go_wp2
  go_ret
  refine ⟨?_, ?_, ?_⟩
  · show Ending.returned (.int .i64 _) = _
    rw [hxr.out, Int.emod_add_emod]
  · exact ((hC.set2 (nh h)).set1 (k + 1))
  · exact (((Only.refl C w).setCell 2 _).drewN _).setCell 1 _
theorem byte_any (B C k cap : Nat) (a : Option Addr) (l : List Int) (h : Int) (w : World) (hC : Cur w C a l.length cap k h) (hB : B ≤ C) (hcode : CodeAt B w a l) (hl : l.length ≤ 1048576) (hk : k ≤ l.length) :
    Calls Tryd.prog 72 #[.pointer (some ⟨C, 0, none⟩)] w fun e w' => e = .returned (.int .i64 (bx l k h)) ∧ Cur w' C a l.length cap (bk l k) (nh h) ∧ Only C w w' := by
  unfold bx bk
  by_cases hlt : k < l.length
  · rw [if_pos hlt, if_pos hlt]
    rcases hcode.2 with hn | ⟨b, off, rfl, hbB, hc⟩
    · rw [hn] at hlt; simp at hlt
    · have hz := hcode.1 k hlt
      have e : l.getD k 0 = l[k] := by rw [List.getD_eq_getElem?_getD, List.getElem?_eq_getElem hlt]; rfl
      rw [e]
      exact byte_in C k l.length cap b off h l[k] w hC hlt hl (by omega) (hc k hlt) hz.1 hz.2
  · rw [if_neg hlt, if_neg hlt]
    exact byte_past C k l.length cap a h w hC (by omega) (by omega) hl
/-- the state of a cursor: how many bytes were taken, the mixed number -/
def bv (l : List Int) (s : Nat × Int) : Int := bx l s.1 s.2
def ns (l : List Int) (s : Nat × Int) : Nat × Int := (bk l s.1, nh s.2)
theorem bv_bd (l : List Int) (s : Nat × Int) : 0 ≤ bv l s ∧ bv l s ≤ 255 := bx_bd l s.1 s.2
/-- a cursor over the bytes 'l' lies in block C of the world, in this state -/
structure At (B C cap : Nat) (a : Option Addr) (l : List Int) (w : World) (s : Nat × Int) : Prop where
  cur : Cur w C a l.length cap s.1 s.2
  le : s.1 ≤ l.length
  code : CodeAt B w a l
  hB : B ≤ C
  hl : l.length ≤ 1048576
theorem At.lt {B C cap : Nat} {a : Option Addr} {l : List Int} {w : World} {s : Nat × Int} (h : At B C cap a l w s) : C < w.heap.size := (Array.getElem?_eq_some_iff.1 (show w.heap[C]? = _ from h.cur)).1
theorem At.below {B C cap : Nat} {a : Option Addr} {l : List Int} {w w' : World} {s : Nat × Int} (h : At B C cap a l w s) (hb : Below w.heap.size w w') : At B C cap a l w' s :=
  ⟨(hb.block C h.lt).trans h.cur, h.le, h.code.below (hb.mono (by have := h.lt; have := h.hB; omega)), h.hB, h.hl⟩
theorem At.under {B C cap K : Nat} {a : Option Addr} {l : List Int} {w w' : World} {s : Nat × Int} (h : At B C cap a l w s) (hb : Below K w w') (hK : C < K) : At B C cap a l w' s :=
  ⟨(hb.block C hK).trans h.cur, h.le, h.code.below (hb.mono (by have := h.hB; omega)), h.hB, h.hl⟩
theorem At.alloc {B C cap : Nat} {a : Option Addr} {l : List Int} {w : World} {s : Nat × Int} (h : At B C cap a l w s) (o : Obj) : At B C cap a l (w.alloc o) s := h.below ((Below.refl _ _).alloc (Nat.le_refl _) _)
theorem At.drew {B C cap : Nat} {a : Option Addr} {l : List Int} {w : World} {s : Nat × Int} (h : At B C cap a l w s) : At B C cap a l w.drew s := h.below (Below.refl _ _).drew
theorem byte_at (B C cap : Nat) (a : Option Addr) (l : List Int) (w : World) (s : Nat × Int) (h : At B C cap a l w s) :
    Calls Tryd.prog 72 #[.pointer (some ⟨C, 0, none⟩)] w fun e w' => e = .returned (.int .i64 (bv l s)) ∧ At B C cap a l w' (ns l s) ∧ Only C w w' := by
  refine (byte_any B C s.1 cap a l s.2 w h.cur h.hB h.code h.hl h.le).mono ?_
  rintro e w' ⟨rfl, hc, ho⟩
  exact ⟨rfl, ⟨hc, bk_le l s.1 h.le, h.code.below (ho.below h.hB h.lt), h.hB, h.hl⟩, ho⟩
/-- a number below another, and the state then -/
def blv (l : List Int) (n : Int) (s : Nat × Int) : Int :=
  if n ≤ 0 then 0 else if n ≤ 256 then bv l s % n else (bv l s * 16777216 + bv l (ns l s) * 65536 + bv l (ns l (ns l s)) * 256 + bv l (ns l (ns l (ns l s)))) % n
def bls (l : List Int) (n : Int) (s : Nat × Int) : Nat × Int := if n ≤ 0 then s else if n ≤ 256 then ns l s else ns l (ns l (ns l (ns l s)))
theorem blv_bd (l : List Int) (n : Int) (s : Nat × Int) (h : 0 < n) : 0 ≤ blv l n s ∧ blv l n s < n := by
  unfold blv
  rw [if_neg (by omega)]
  split
  · exact ⟨Int.emod_nonneg _ (by omega), Int.emod_lt_of_pos _ h⟩
  · exact ⟨Int.emod_nonneg _ (by omega), Int.emod_lt_of_pos _ h⟩
set_option maxRecDepth 100000 in
set_option maxHeartbeats 1000000 in
theorem below_at (B C cap : Nat) (a : Option Addr) (l : List Int) (n : Int) (w : World) (s : Nat × Int) (h : At B C cap a l w s) (hn : n ≤ 4294967296) :
    Calls Tryd.prog 55 #[.pointer (some ⟨C, 0, none⟩), .int .i64 n] w fun e w' => e = .returned (.int .i64 (blv l n s)) ∧ At B C cap a l w' (bls l n s) ∧ Only C w w' := by
  by_cases h0 : n ≤ 0
  · have e1 : blv l n s = 0 := if_pos h0
    have e2 : bls l n s = s := if_pos h0
    rw [e1, e2]
    go_enter Tryd.func55, Tryd.ntmps55
    go_wp2
    go_ret
    exact ⟨rfl, h, Only.refl _ _⟩
  · have b1 := bv_bd l s
    by_cases h256 : n ≤ 256
    · have e1 : blv l n s = bv l s % n := by unfold blv; rw [if_neg h0, if_pos h256]
      have e2 : bls l n s = ns l s := by unfold bls; rw [if_neg h0, if_pos h256]
      rw [e1, e2]
      have hp : 0 < n := by omega
      clear e1 e2
      go_enter Tryd.func55, Tryd.ntmps55
      go_wp2_with fail
      refine (byte_at B C cap a l _ s h).mono ?_
      rintro e w1 ⟨rfl, h1, ho⟩
      go_wp2
      go_ret
      exact ⟨rfl, h1, ho⟩
    · have e1 : blv l n s = (bv l s * 16777216 + bv l (ns l s) * 65536 + bv l (ns l (ns l s)) * 256 + bv l (ns l (ns l (ns l s)))) % n := by unfold blv; rw [if_neg h0, if_neg h256]
      have e2 : bls l n s = ns l (ns l (ns l (ns l s))) := by unfold bls; rw [if_neg h0, if_neg h256]
      rw [e1, e2]
      have b2 := bv_bd l (ns l s)
      have b3 := bv_bd l (ns l (ns l s))
      have b4 := bv_bd l (ns l (ns l (ns l s)))
      have hp : 0 < n := by omega
      clear e1 e2
      go_enter Tryd.func55, Tryd.ntmps55
      go_wp2_with fail
      refine (byte_at B C cap a l _ s h).mono ?_
      rintro e w1 ⟨rfl, h1, o1⟩
      go_wp2_with fail
      refine (byte_at B C cap a l _ _ h1).mono ?_
      rintro e w2 ⟨rfl, h2, o2⟩
      go_wp2_with fail
      refine (byte_at B C cap a l _ _ h2).mono ?_
      rintro e w3 ⟨rfl, h3, o3⟩
      go_wp2_with fail
      refine (byte_at B C cap a l _ _ h3).mono ?_
      rintro e w4 ⟨rfl, h4, o4⟩
      go_wp2
      go_ret
      exact ⟨rfl, h4, ((o1.trans o2).trans o3).trans o4⟩
/-- the mixed number at first -/
def h0 (l : List Int) : Nat → Int
  | 0 => 10101 + l.length
  | i + 1 => bits .and .i64 (h0 l i * 131 + l.getD i 0 + 7) 1073741823
theorem h0_bd (l : List Int) (i : Nat) (hl : l.length ≤ 1048576) : 0 ≤ h0 l i ∧ h0 l i ≤ 1073741823 := by
  cases i with
  | zero => simp only [h0]; omega
  | succ i =>
    have key : ∀ n : Int, bits .and .i64 n 1073741823 = n % 1073741824 := by
      intro n
      have hk : (BitVec.ofInt 64 1073741823).toNat = 2 ^ 30 - 1 := by decide
      have key : (BitVec.ofInt 64 n &&& BitVec.ofInt 64 1073741823).toNat = (n % ((2 ^ 64 : Nat) : Int)).toNat % 2 ^ 30 := by
        rw [BitVec.toNat_and, BitVec.toNat_ofInt, hk, Nat.and_two_pow_sub_one_eq_mod]
      show IntKind.i64.wrap ((BitVec.ofInt 64 n &&& BitVec.ofInt 64 1073741823).toNat : Nat) = n % 1073741824
      rw [key, IntKind.wrap_i64]
      omega
    simp only [h0, key]
    omega
/-- what a new cursor begins with -/
def st0 (l : List Int) : Nat × Int := (0, h0 l (min l.length 4000))
theorem new_end {B cap k : Nat} {a : Option Addr} {l : List Int} (w : World) (hcode : CodeAt B w a l) (hB : B ≤ w.heap.size) (hl : l.length ≤ 1048576) (e : min l.length 4000 = k) :
    ∃ C, Ending.returned (.pointer (some ⟨w.heap.size, 0, none⟩)) = .returned (.pointer (some ⟨C, 0, none⟩)) ∧ w.heap.size ≤ C ∧ At B C cap a l (w.alloc (.cells #[.slice a l.length cap, .int .i64 0, .int .i64 (h0 l k)] 91)) (st0 l) ∧ Below w.heap.size w (w.alloc (.cells #[.slice a l.length cap, .int .i64 0, .int .i64 (h0 l k)] 91)) := by
  have hb : Below w.heap.size w (w.alloc (.cells #[.slice a l.length cap, .int .i64 0, .int .i64 (h0 l k)] 91)) := (Below.refl _ _).alloc (Nat.le_refl _) _
  refine ⟨w.heap.size, rfl, Nat.le_refl _, ⟨?_, Nat.zero_le _, hcode.below (hb.mono hB), hB, hl⟩, hb⟩
  show (w.alloc _).heap[w.heap.size]? = _
  rw [heap_alloc_new w _]
  simp only [st0, e]
  rfl
set_option maxRecDepth 100000 in
set_option maxHeartbeats 1000000 in
theorem new_at (B cap : Nat) (a : Option Addr) (l : List Int) (w : World) (hB : B ≤ w.heap.size) (hcode : CodeAt B w a l) (hl : l.length ≤ 1048576) :
    Calls Tryd.prog 44 #[.slice a l.length cap] w fun e w' => ∃ C, e = .returned (.pointer (some ⟨C, 0, none⟩)) ∧ w.heap.size ≤ C ∧ At B C cap a l w' (st0 l) ∧ Below w.heap.size w w' := by
  have HC := Num.hide hcode
  clear hcode
  go_enter Tryd.func44, Tryd.ntmps44
  go_wp2
  go_loop [3, 4] (fun h i => ∃ k : Nat, k ≤ l.length ∧ k ≤ 4000 ∧ i = .int .i64 k ∧ h = .int .i64 (h0 l k)) (fun _ i => 4000 - (intOf i).toNat)
  case atStart => exact ⟨0, by omega, by omega, rfl, rfl⟩
  case round =>
    obtain ⟨k, hk, hk4, rfl, rfl⟩ := hrel
    have hb := h0_bd l k hl
    by_cases hkl : k < l.length
    · by_cases h4 : k < 4000
      · rcases (Num.unhide HC).2 with hn | ⟨b, off, rfl, hbB, hc⟩
        · rw [hn] at hkl; simp at hkl
        · have hz := (Num.unhide HC).1 k hkl
          have hck := hc k hkl
          have hs : Hid (h0 l (k + 1) = bits .and .i64 (h0 l k * 131 + l[k] + 7) 1073741823) := by
            show _ = _
            simp only [h0]
            rw [List.getD_eq_getElem?_getD, List.getElem?_eq_getElem hkl]; rfl
          generalize l[k] = z at *
          have hkl' : (k : Int) < (l.length : Int) := by omega
          clear hc
          go_wp2
          go_round
          case rel => exact ⟨k + 1, by omega, by omega, by go_num, by rw [hs.out]⟩
          case measure => simp [intOf]; omega
      · have e := Num.hide (show min l.length 4000 = k by omega)
        go_wp2
        go_ret
        exact new_end w (Num.unhide HC) hB hl (Num.unhide e)
    · have e := Num.hide (show min l.length 4000 = k by omega)
      go_wp2
      go_ret
      exact new_end w (Num.unhide HC) hB hl (Num.unhide e)
end Draw
end Go.Proofs.YtkogcbnbmdeolaaDoor
