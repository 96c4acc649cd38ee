/-
  The draws of chapter 1: what each call returns is settled by the bytes of the draw alone; old memory stays as it was.
-/
import Derived.Test.YtfmfidlhbephmaaDoorDrawSpoil
import Derived.Test.YtfmfidlhbephmaaDoorVarSpec
namespace Go.Proofs.YtfmfidlhbephmaaDoor
open Go.RowKit
set_option linter.unusedVariables false
namespace Draw

theorem var_at (cap : Nat) (a : Option Addr) (l : List Int) (w : World) (hcode : CodeAt w.heap.size w a l) (hl : l.length ≤ 1048576) :
    Calls Tryd.prog 7 #[.slice a l.length cap] w fun e w' => e = .returned (.int .i64 (nv l (st0 l))) ∧ Below w.heap.size w w' := by
  have HC := Num.hide hcode
  clear hcode
  go_enter Tryd.func7, Tryd.ntmps7
  go_wp2_with fail
  refine (new_at w.heap.size cap a l _ (Nat.le_refl _) (Num.unhide HC) hl).mono ?_
  rintro e w1 ⟨C, rfl, hC, h1, b1⟩
  go_wp2_with fail
  refine (num_at w.heap.size C cap a l _ _ h1).mono ?_
  rintro e w2 ⟨rfl, h2, o2⟩
  have b2 := b1.trans (o2.below h1.hB h1.lt)
  go_wp2
  go_ret
  exact ⟨rfl, b2⟩
theorem hex_at (cap : Nat) (a : Option Addr) (l : List Int) (w : World) (hcode : CodeAt w.heap.size w a l) (hl : l.length ≤ 1048576) :
    Calls Tryd.prog 8 #[.slice a l.length cap] w fun e w' => e = .returned (.string ⟨(txt l 40 (st0 l)).toArray⟩) ∧ Below w.heap.size w w' := by
  have HC := Num.hide hcode
  clear hcode
  go_enter Tryd.func8, Tryd.ntmps8
  go_wp2_with fail
  refine (new_at w.heap.size cap a l _ (Nat.le_refl _) (Num.unhide HC) hl).mono ?_
  rintro e w1 ⟨C, rfl, hC, h1, b1⟩
  go_wp2_with fail
  refine (text_at w.heap.size C cap a l 40 _ _ h1 (by omega) (by omega)).mono ?_
  rintro e w2 ⟨rfl, h2, o2⟩
  have b2 := b1.trans (o2.below h1.hB h1.lt)
  go_wp2
  go_ret
  exact ⟨rfl, b2⟩
/-- the text that DrawReadVar tells -/
def rvs (l : List Int) : ByteArray := ⟨(Var.tells (nv l (st0 l))).toArray⟩ ++ ⟨(txt l 4 (nvs l (st0 l))).toArray⟩
def rvd (l : List Int) : ByteArray := if blv l 4 (txts l 4 (nvs l (st0 l))) = 0 then spv l (rvs l) (bls l 4 (txts l 4 (nvs l (st0 l)))) else rvs l
theorem length_tells (n : Int) : (Var.tells n).length ≤ 7 := by
  unfold Var.tells
  split
  · simp
  · exact Num.length_vr 6 n
theorem size_mk (t : List UInt8) : (⟨t.toArray⟩ : ByteArray).size = t.length := by simp [ByteArray.size]
theorem size_rvs (l : List Int) : (rvs l).size ≤ 11 := by
  unfold rvs
  rw [ByteArray.size_append, size_mk, size_mk]
  have h1 := length_tells (nv l (st0 l))
  have h2 := length_txt l 4 (nvs l (st0 l)) (by omega)
  have e : (4 : Int).toNat = 4 := rfl
  omega
theorem size_one (b : UInt8) : (⟨#[b]⟩ : ByteArray).size = 1 := rfl
theorem size_spv (l : List Int) (x : ByteArray) (s : Nat × Int) (hx : x.size ≤ 1000) : (spv l x s).size ≤ 2100 := by
  unfold spv
  have ht := length_txt l 3 s (by omega)
  have e3 : (3 : Int).toNat = 3 := rfl
  split
  · rw [size_mk]; omega
  · split
    · rw [ByteArray.size_append, ByteArray.size_extract, ByteArray.size_extract]; omega
    · split
      · rw [ByteArray.size_append, ByteArray.size_append, ByteArray.size_extract, ByteArray.size_extract, size_one]; omega
      · split
        · rw [ByteArray.size_extract]; omega
        · rw [ByteArray.size_append, ByteArray.size_append, ByteArray.size_extract, ByteArray.size_extract, size_one]; omega
theorem size_rvd (l : List Int) : (rvd l).size ≤ 2100 := by
  unfold rvd
  have h := size_rvs l
  split
  · exact size_spv l _ _ (by omega)
  · omega
set_option maxRecDepth 100000 in
set_option maxHeartbeats 1000000 in
theorem readVar_at (cap : Nat) (a : Option Addr) (l : List Int) (w : World) (hcode : CodeAt w.heap.size w a l) (hl : l.length ≤ 1048576) :
    Calls Tryd.prog 17 #[.slice a l.length cap] w fun e w' => e = .returned (.string (rvd l)) ∧ Below w.heap.size w w' := by
  have HC := Num.hide hcode
  have l1 := length_tells (nv l (st0 l))
  have l2 := length_txt l 4 (nvs l (st0 l)) (by omega)
  have e4 : (4 : Int).toNat = 4 := rfl
  rw [e4] at l2
  have hsz := size_rvs l
  have hrv : Hid (rvs l = ⟨(Var.tells (nv l (st0 l))).toArray⟩ ++ ⟨(txt l 4 (nvs l (st0 l))).toArray⟩) := rfl
  clear hcode e4
  by_cases t0 : blv l 4 (txts l 4 (nvs l (st0 l))) = 0
  · have e1 : rvd l = spv l (rvs l) (bls l 4 (txts l 4 (nvs l (st0 l)))) := if_pos t0
    rw [e1]
    have c0 : (blv l 4 (txts l 4 (nvs l (st0 l))) == 0) = true := beq_iff_eq.2 t0
    clear e1 t0
    go_enter Tryd.func17, Tryd.ntmps17
    go_wp2_with fail
    refine (new_at w.heap.size cap a l _ (Nat.le_refl _) (Num.unhide HC) hl).mono ?_
    rintro e w1 ⟨C, rfl, hC, h1, b1⟩
    go_wp2_with fail
    refine (num_at w.heap.size C cap a l _ _ h1).mono ?_
    rintro e w2 ⟨rfl, h2, o2⟩
    go_wp2_with fail
    refine (Var.spec_any _ _).mono ?_
    rintro e w3 ⟨rfl, b3⟩
    have h3 := h2.below b3
    go_wp2_with fail
    refine (text_at w.heap.size C cap a l 4 _ _ h3 (by omega) (by omega)).mono ?_
    rintro e w4 ⟨rfl, h4, o4⟩
    go_wp2_with fail
    refine (once_at w.heap.size C cap a l 4 _ _ h4 (by omega)).mono ?_
    rintro e w5 ⟨rfl, h5, o5⟩
    have b2 := b1.trans (o2.below h1.hB h1.lt)
    have b4 := (b2.trans (b3.mono b2.size)).trans (o4.below h3.hB h3.lt)
    have b5 := b4.trans (o5.below h4.hB h4.lt)
    go_wp2_with fail
    rw [← hrv.out]
    refine (spoil_at w.heap.size C cap a l (rvs l) _ _ h5 (by omega)).mono ?_
    rintro e w6 ⟨rfl, h6, o6⟩
    have b6 := b5.trans (o6.below h5.hB h5.lt)
    clear b1 b2 b3 b4 b5
    go_wp2
    go_ret
    exact ⟨rfl, b6⟩
  · have e1 : rvd l = rvs l := if_neg t0
    rw [e1]
    have c0 : (blv l 4 (txts l 4 (nvs l (st0 l))) == 0) = false := beq_eq_false_iff_ne.2 t0
    clear e1 t0
    go_enter Tryd.func17, Tryd.ntmps17
    go_wp2_with fail
    refine (new_at w.heap.size cap a l _ (Nat.le_refl _) (Num.unhide HC) hl).mono ?_
    rintro e w1 ⟨C, rfl, hC, h1, b1⟩
    go_wp2_with fail
    refine (num_at w.heap.size C cap a l _ _ h1).mono ?_
    rintro e w2 ⟨rfl, h2, o2⟩
    go_wp2_with fail
    refine (Var.spec_any _ _).mono ?_
    rintro e w3 ⟨rfl, b3⟩
    have h3 := h2.below b3
    go_wp2_with fail
    refine (text_at w.heap.size C cap a l 4 _ _ h3 (by omega) (by omega)).mono ?_
    rintro e w4 ⟨rfl, h4, o4⟩
    go_wp2_with fail
    refine (once_at w.heap.size C cap a l 4 _ _ h4 (by omega)).mono ?_
    rintro e w5 ⟨rfl, h5, o5⟩
    have b2 := b1.trans (o2.below h1.hB h1.lt)
    have b4 := (b2.trans (b3.mono b2.size)).trans (o4.below h3.hB h3.lt)
    have b5 := b4.trans (o5.below h4.hB h4.lt)
    clear b1 b2 b3 b4
    go_wp2
    go_ret
    exact ⟨by rw [hrv.out]; rfl, b5⟩
end Draw
end Go.Proofs.YtfmfidlhbephmaaDoor
