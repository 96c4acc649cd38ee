/-
  DrawLive: A cursor of the draws, in whatever state: what it tells is bounded; nothing but the cursor and new memory changes.
  DrawPick: l1Pick of the draws, of a cursor in whatever state.
  DrawnNum: The fields that the specification draws, plain: which names and which values they have.
  DecSpec: Dec of the specification: what the call returns, for every number; old memory stays as it was.
-/
import Derived.Test.YtbcjpjhpobmpbaaGreatDoorPat
import Derived.Test.YtbcjpjhpobmpbaaGreatDoorPad
import Derived.Test.YtbcjpjhpobmpbaaGreatDoorPac
import Derived.Test.YtbcjpjhpobmpbaaGreatDoorPab
namespace Go.Proofs.YtbcjpjhpobmpbaaGreatDoor
open Go.RowKit
set_option linter.unusedVariables false
namespace Draw

/-- a cursor over some bytes that lie below block B lies in block C -/
def Live (B C : Nat) (w : World) : Prop := ∃ cap a l s, At B C cap a l w s
theorem Live.lt {B C : Nat} {w : World} (h : Live B C w) : C < w.heap.size := by obtain ⟨_, _, _, _, h⟩ := h; exact h.lt
theorem Live.hB {B C : Nat} {w : World} (h : Live B C w) : B ≤ C := by obtain ⟨_, _, _, _, h⟩ := h; exact h.hB
theorem Live.below {B C : Nat} {w w' : World} (h : Live B C w) (hb : Below w.heap.size w w') : Live B C w' := by obtain ⟨_, _, _, _, h⟩ := h; exact ⟨_, _, _, _, h.below hb⟩
theorem Live.under {B C K : Nat} {w w' : World} (h : Live B C w) (hb : Below K w w') (hK : C < K) : Live B C w' := by obtain ⟨_, _, _, _, h⟩ := h; exact ⟨_, _, _, _, h.under hb hK⟩
theorem Live.alloc {B C : Nat} {w : World} (h : Live B C w) (o : Obj) : Live B C (w.alloc o) := h.below ((Below.refl _ _).alloc (Nat.le_refl _) _)
theorem below_live (B C : Nat) (n : Int) (w : World) (h : Live B C w) (h0 : 0 < n) (hn : n ≤ 4294967296) :
    Calls Tryz.prog 39 #[.pointer (some ⟨C, 0, none⟩), .int .i64 n] w fun e w' => ∃ z : Int, e = .returned (.int .i64 z) ∧ 0 ≤ z ∧ z < n ∧ Live B C w' ∧ Only C w w' := by
  obtain ⟨cap, a, l, s, h⟩ := h
  refine (below_at B C cap a l n w s h hn).mono ?_
  rintro e w' ⟨rfl, h2, ho⟩
  have := blv_bd l n s h0
  exact ⟨_, rfl, this.1, this.2, ⟨_, _, _, _, h2⟩, ho⟩
end Draw
end Go.Proofs.YtbcjpjhpobmpbaaGreatDoor
namespace Go.Proofs.YtbcjpjhpobmpbaaGreatDoor
open Go.RowKit
set_option linter.unusedVariables false
namespace Draw

/-- are they texts of at most 64 bytes? -/
def textsB (cs : Array Value) : Bool := cs.toList.all fun v => match v with | .string x => decide (x.size ≤ 64) | _ => false
theorem texts_at {cs : Array Value} (h : textsB cs = true) (i : Nat) (hi : i < cs.size) : ∃ x, cs[i]? = some (.string x) ∧ x.size ≤ 64 := by
  unfold textsB at h
  rw [List.all_eq_true] at h
  have h2 := h (cs[i]) (by simp)
  rw [Array.getElem?_eq_getElem hi]
  generalize cs[i] = v at h2
  cases v with
  | string x => exact ⟨x, rfl, of_decide_eq_true h2⟩
  | _ => cases h2
/-- are they such, too? -/
def textsQ (q : ByteArray → Bool) (cs : Array Value) : Bool := cs.toList.all fun v => match v with | .string x => decide (x.size ≤ 64) && q x | _ => false
theorem textsQ_at {q : ByteArray → Bool} {cs : Array Value} (h : textsQ q cs = true) (i : Nat) (hi : i < cs.size) : ∃ x, cs[i]? = some (.string x) ∧ x.size ≤ 64 ∧ q x = true := by
  unfold textsQ at h
  rw [List.all_eq_true] at h
  have h2 := h (cs[i]) (by simp)
  rw [Array.getElem?_eq_getElem hi]
  generalize cs[i] = v at h2
  cases v with
  | string x =>
    simp only [Bool.and_eq_true] at h2
    exact ⟨x, rfl, of_decide_eq_true h2.1, h2.2⟩
  | _ => cases h2
theorem textsQ_true {cs : Array Value} (h : textsB cs = true) : textsQ (fun _ => true) cs = true := by
  unfold textsB at h
  unfold textsQ
  rw [List.all_eq_true] at h ⊢
  intro v hv
  have h2 := h v hv
  cases v with
  | string x => simpa using h2
  | _ => cases h2
set_option maxRecDepth 100000 in
set_option maxHeartbeats 1000000 in
theorem pick_p (P : ByteArray → Prop) (B C R : Nat) (cs : Array Value) (n : Nat) (w : World) (h : Live B C w) (hR : R ≠ C) (hrow : w.heap[R]? = some (.cells cs 9)) (hn : cs.size = n) (h0 : 0 < n) (h1 : n ≤ 256) (ht : ∀ i, i < cs.size → ∃ x, cs[i]? = some (.string x) ∧ P x) :
    Calls Tryz.prog 75 #[.pointer (some ⟨C, 0, none⟩), .slice (some ⟨R, 0, none⟩) n n] w fun e w' => ∃ x, e = .returned (.string x) ∧ P x ∧ Live B C w' ∧ Only C w w' := by
  have HR := Num.hide hrow
  have HT := Num.hide ht
  have HN := Num.hide hn
  clear hrow ht hn
  go_enter Tryz.func75, Tryz.ntmps75
  go_wp2_with fail
  refine (below_live B C n _ h (by omega) (by omega)).mono ?_
  rintro e w1 ⟨z, rfl, hz0, hz1, hl, ho⟩
  obtain ⟨j, rfl⟩ := Int.eq_ofNat_of_zero_le hz0
  obtain ⟨x, hx, hq⟩ := Num.unhide HT j (by have := HN.out; omega)
  have hc : w1.cell? ⟨R, j, none⟩ = some (.string x) := by
    rw [cell_of_row w1 R j _ _ _ ((ho.block R (Array.getElem?_eq_some_iff.1 (Num.unhide HR)).1 hR).trans (Num.unhide HR))]
    exact hx
  have HQ := Num.hide hq
  clear hx hq
  have HL := Num.hide hl
  have HO := Num.hide ho
  clear hl ho
  go_wp2
  go_ret
  exact ⟨x, rfl, HQ.out, HL.out, HO.out⟩
theorem pick_q (q : ByteArray → Bool) (B C R : Nat) (cs : Array Value) (n : Nat) (w : World) (h : Live B C w) (hR : R ≠ C) (hrow : w.heap[R]? = some (.cells cs 9)) (hn : cs.size = n) (h0 : 0 < n) (h1 : n ≤ 256) (ht : textsQ q cs = true) :
    Calls Tryz.prog 75 #[.pointer (some ⟨C, 0, none⟩), .slice (some ⟨R, 0, none⟩) n n] w fun e w' => ∃ x, e = .returned (.string x) ∧ x.size ≤ 64 ∧ q x = true ∧ Live B C w' ∧ Only C w w' :=
  (pick_p (fun x => x.size ≤ 64 ∧ q x = true) B C R cs n w h hR hrow hn h0 h1 (fun i hi => textsQ_at ht i hi)).mono fun e w' ⟨x, h1, ⟨h2, h3⟩, h4⟩ => ⟨x, h1, h2, h3, h4⟩
theorem pick_live (B C R : Nat) (cs : Array Value) (n : Nat) (w : World) (h : Live B C w) (hR : R ≠ C) (hrow : w.heap[R]? = some (.cells cs 9)) (hn : cs.size = n) (h0 : 0 < n) (h1 : n ≤ 256) (ht : textsB cs = true) :
    Calls Tryz.prog 75 #[.pointer (some ⟨C, 0, none⟩), .slice (some ⟨R, 0, none⟩) n n] w fun e w' => ∃ x, e = .returned (.string x) ∧ x.size ≤ 64 ∧ Live B C w' ∧ Only C w w' :=
  (pick_q (fun _ => true) B C R cs n w h hR hrow hn h0 h1 (textsQ_true ht)).mono fun e w' ⟨x, h1, h2, _, h3, h4⟩ => ⟨x, h1, h2, h3, h4⟩
end Draw
end Go.Proofs.YtbcjpjhpobmpbaaGreatDoor
namespace Go.Proofs.YtbcjpjhpobmpbaaGreatDoor
open Go.RowKit
set_option linter.unusedVariables false
namespace Draw

def ccVals : List ByteArray := [⟨#[109, 97, 120, 45, 97, 103, 101, 61, 49, 48]⟩, ⟨#[110, 111, 45, 115, 116, 111, 114, 101]⟩, ⟨#[110, 111, 45, 99, 97, 99, 104, 101]⟩, ⟨#[112, 114, 105, 118, 97, 116, 101]⟩, ⟨#[112, 117, 98, 108, 105, 99, 44, 32, 109, 97, 120, 45, 97, 103, 101, 61, 51]⟩, ⟨#[115, 45, 109, 97, 120, 97, 103, 101, 61, 55, 44, 32, 109, 97, 120, 45, 97, 103, 101, 61, 49]⟩, ⟨#[109, 117, 115, 116, 45, 114, 101, 118, 97, 108, 105, 100, 97, 116, 101]⟩, ⟨#[109, 97, 120, 45, 115, 116, 97, 108, 101, 61, 53]⟩, ⟨#[109, 105, 110, 45, 102, 114, 101, 115, 104, 61, 50]⟩, ⟨#[111, 110, 108, 121, 45, 105, 102, 45, 99, 97, 99, 104, 101, 100]⟩, ⟨#[109, 97, 120, 45, 97, 103, 101, 61, 48]⟩, ⟨#[112, 117, 98, 108, 105, 99]⟩, ⟨#[77, 97, 120, 45, 65, 103, 101, 61, 34, 55, 34]⟩, ⟨#[109, 97, 120, 45, 97, 103, 101, 61, 120]⟩, ⟨#[109, 97, 120, 45, 97, 103, 101]⟩, ⟨#[109, 97, 120, 45, 97, 103, 101, 61, 53, 44, 32, 109, 97, 120, 45, 97, 103, 101, 61, 51]⟩, ⟨#[110, 111, 45, 99, 97, 99, 104, 101, 61, 34, 115, 101, 116, 45, 99, 111, 111, 107, 105, 101, 44, 32, 97, 34, 44, 32, 109, 97, 120, 45, 97, 103, 101, 61, 57]⟩, ⟨#[44, 44, 112, 117, 98, 108, 105, 99, 44]⟩, ⟨#[97, 32, 98, 44, 32, 61, 51, 44, 32, 112, 114, 105, 118, 97, 116, 101, 61, 120]⟩, ⟨#[115, 45, 109, 97, 120, 97, 103, 101, 61, 57, 57, 57, 57, 57, 57, 57, 57, 57, 57, 57]⟩]
def varyVals : List ByteArray := [⟨#[97, 99, 99, 101, 112, 116]⟩, ⟨#[42]⟩, ⟨#[97, 99, 99, 101, 112, 116, 44, 32, 120, 45, 97]⟩, ⟨#[120, 45, 97]⟩, ⟨#[65, 99, 99, 101, 112, 116, 44, 97, 99, 99, 101, 112, 116]⟩, ⟨#[88, 45, 65, 32, 44, 32, 120, 45, 98]⟩, ⟨#[]⟩, ⟨#[44]⟩]
def acceptVals : List ByteArray := [⟨#[97]⟩, ⟨#[98]⟩, ⟨#[97, 44, 32, 98]⟩, ⟨#[]⟩]
def xaVals : List ByteArray := [⟨#[49]⟩, ⟨#[50]⟩]
def etagVals : List ByteArray := [⟨#[34, 118, 49, 34]⟩, ⟨#[34, 118, 50, 34]⟩, ⟨#[87, 47, 34, 118, 49, 34]⟩]
def ageNames : List ByteArray := [⟨#[97, 103, 101]⟩, ⟨#[120, 45, 98]⟩, ⟨#[97, 117, 116, 104, 111, 114, 105, 122, 97, 116, 105, 111, 110]⟩]
def ageVals : List ByteArray := [⟨#[51]⟩, ⟨#[48]⟩, ⟨#[57, 57, 57, 57, 57, 57, 57, 57, 57, 57, 57]⟩, ⟨#[120]⟩]
def dateNames : List ByteArray := [⟨#[100, 97, 116, 101]⟩, ⟨#[101, 120, 112, 105, 114, 101, 115]⟩, ⟨#[108, 97, 115, 116, 45, 109, 111, 100, 105, 102, 105, 101, 100]⟩]
def varyN : ByteArray := ⟨#[118, 97, 114, 121]⟩
def acceptN : ByteArray := ⟨#[97, 99, 99, 101, 112, 116]⟩
def xaN : ByteArray := ⟨#[120, 45, 97]⟩
def etagN : ByteArray := ⟨#[101, 116, 97, 103]⟩
/-- is it one of them? -/
def oneOf (L : List ByteArray) (y : ByteArray) : Bool := L.any fun x => decide (x = y)
theorem of_one {L : List ByteArray} {y : ByteArray} (h : oneOf L y = true) : y ∈ L := by
  unfold oneOf at h
  rw [List.any_eq_true] at h
  obtain ⟨x, hx, e⟩ := h
  exact (of_decide_eq_true e) ▸ hx
/-- a field as it is drawn -/
def Drawn (x y : ByteArray) : Prop :=
  (x = Calm.cc ∧ y ∈ ccVals) ∨ (x = varyN ∧ y ∈ varyVals) ∨ (x = acceptN ∧ y ∈ acceptVals) ∨ (x = xaN ∧ y ∈ xaVals) ∨ (x = etagN ∧ y ∈ etagVals) ∨ (x ∈ dateNames ∧ ∃ z : Int, 0 ≤ z ∧ z < 90 ∧ y = Date.shown z) ∨ (x ∈ ageNames ∧ y ∈ ageVals)
theorem Drawn.cc {y : ByteArray} (h : oneOf ccVals y = true) : Drawn Calm.cc y := .inl ⟨rfl, of_one h⟩
theorem Drawn.vary {y : ByteArray} (h : oneOf varyVals y = true) : Drawn varyN y := .inr (.inl ⟨rfl, of_one h⟩)
theorem Drawn.accept {y : ByteArray} (h : oneOf acceptVals y = true) : Drawn acceptN y := .inr (.inr (.inl ⟨rfl, of_one h⟩))
theorem Drawn.xa {y : ByteArray} (h : oneOf xaVals y = true) : Drawn xaN y := .inr (.inr (.inr (.inl ⟨rfl, of_one h⟩)))
theorem Drawn.etag {y : ByteArray} (h : oneOf etagVals y = true) : Drawn etagN y := .inr (.inr (.inr (.inr (.inl ⟨rfl, of_one h⟩))))
theorem Drawn.date {x : ByteArray} {z : Int} (hx : oneOf dateNames x = true) (h0 : 0 ≤ z) (h1 : z < 90) : Drawn x (Date.shown z) := .inr (.inr (.inr (.inr (.inr (.inl ⟨of_one hx, z, h0, h1, rfl⟩)))))
theorem Drawn.age {x y : ByteArray} (hx : oneOf ageNames x = true) (h : oneOf ageVals y = true) : Drawn x y := .inr (.inr (.inr (.inr (.inr (.inr ⟨of_one hx, of_one h⟩)))))
/-- a list whose texts all pass a test -/
theorem all_of {q : ByteArray → Bool} {L : List ByteArray} (h : L.all q = true) {y : ByteArray} (hy : y ∈ L) : q y = true := List.all_eq_true.1 h y hy
theorem date_sz (z : Int) (h0 : 0 ≤ z) (h1 : z < 90) : (Date.shown z).size ≤ 64 := by
  have e : Date.shown z = Date.text z := if_pos ⟨h0, by omega⟩
  rw [e, Date.text_size z h0 (by omega)]
  omega
theorem Drawn.small {x y : ByteArray} (h : Drawn x y) : x.size ≤ 64 ∧ y.size ≤ 64 := by
  rcases h with ⟨rfl, h⟩ | ⟨rfl, h⟩ | ⟨rfl, h⟩ | ⟨rfl, h⟩ | ⟨rfl, h⟩ | ⟨hx, z, h0, h1, rfl⟩ | ⟨hx, h⟩
  · exact ⟨by decide, of_decide_eq_true (all_of (q := fun y => decide (y.size ≤ 64)) (by decide +kernel) h)⟩
  · exact ⟨by decide, of_decide_eq_true (all_of (q := fun y => decide (y.size ≤ 64)) (by decide +kernel) h)⟩
  · exact ⟨by decide, of_decide_eq_true (all_of (q := fun y => decide (y.size ≤ 64)) (by decide +kernel) h)⟩
  · exact ⟨by decide, of_decide_eq_true (all_of (q := fun y => decide (y.size ≤ 64)) (by decide +kernel) h)⟩
  · exact ⟨by decide, of_decide_eq_true (all_of (q := fun y => decide (y.size ≤ 64)) (by decide +kernel) h)⟩
  · exact ⟨of_decide_eq_true (all_of (q := fun y => decide (y.size ≤ 64)) (by decide +kernel) hx), date_sz z h0 h1⟩
  · exact ⟨of_decide_eq_true (all_of (q := fun y => decide (y.size ≤ 64)) (by decide +kernel) hx), of_decide_eq_true (all_of (q := fun y => decide (y.size ≤ 64)) (by decide +kernel) h)⟩
/-- which names there are -/
theorem Drawn.name {x y : ByteArray} (h : Drawn x y) {q : ByteArray → Bool} (hq : ([Calm.cc, varyN, acceptN, xaN, etagN] ++ dateNames ++ ageNames).all q = true) : q x = true := by
  refine all_of hq ?_
  rcases h with ⟨rfl, _⟩ | ⟨rfl, _⟩ | ⟨rfl, _⟩ | ⟨rfl, _⟩ | ⟨rfl, _⟩ | ⟨hx, _⟩ | ⟨hx, _⟩
  · simp
  · simp
  · simp
  · simp
  · simp
  · simp [hx]
  · simp [hx]
theorem Drawn.said {x y : ByteArray} (h : Drawn x y) : Calm.Said x y := by
  intro e
  rcases h with ⟨_, h⟩ | ⟨rfl, _⟩ | ⟨rfl, _⟩ | ⟨rfl, _⟩ | ⟨rfl, _⟩ | ⟨hx, _⟩ | ⟨hx, _⟩
  · exact all_of (q := Calm.calm) (by decide +kernel) h
  · exact absurd e (by decide +kernel)
  · exact absurd e (by decide +kernel)
  · exact absurd e (by decide +kernel)
  · exact absurd e (by decide +kernel)
  · exact absurd e (of_decide_eq_true (all_of (q := fun x => decide (¬ x = Calm.cc)) (by decide +kernel) hx))
  · exact absurd e (of_decide_eq_true (all_of (q := fun x => decide (¬ x = Calm.cc)) (by decide +kernel) hx))
/-- what vary says in a drawn field ends its quotes -/
theorem Drawn.varied {x y : ByteArray} (h : Drawn x y) (e : x = varyN) : y ∈ varyVals := by
  rcases h with ⟨rfl, _⟩ | ⟨_, h⟩ | ⟨rfl, _⟩ | ⟨rfl, _⟩ | ⟨rfl, _⟩ | ⟨hx, _⟩ | ⟨hx, _⟩
  · exact absurd e (by decide +kernel)
  · exact h
  · exact absurd e (by decide +kernel)
  · exact absurd e (by decide +kernel)
  · exact absurd e (by decide +kernel)
  · exact absurd e (of_decide_eq_true (all_of (q := fun x => decide (¬ x = varyN)) (by decide +kernel) hx))
  · exact absurd e (of_decide_eq_true (all_of (q := fun x => decide (¬ x = varyN)) (by decide +kernel) hx))
end Draw
end Go.Proofs.YtbcjpjhpobmpbaaGreatDoor
namespace Go.Proofs.YtbcjpjhpobmpbaaGreatDoor
open Go.RowKit
set_option linter.unusedVariables false
namespace Dec

theorem lay_front (out : List UInt8) (u : Nat) (r : List UInt8) (x : Int) (h : u ≠ 0) (hx : x = 48 + ((u % 10 : Nat) : Int)) (he : r = dd u ++ out) :
    r = dd (u / 10) ++ (Num.byte x :: out) := by
  subst hx
  rw [he, dd_step u h, List.append_assoc]; rfl
theorem cons_text (c : UInt8) (out : List UInt8) : (⟨#[c]⟩ : ByteArray) ++ ⟨out.toArray⟩ = ⟨(c :: out).toArray⟩ := by
  rw [ByteArray.mk_append_mk]; simp
set_option maxRecDepth 100000 in
set_option maxHeartbeats 1000000 in
theorem spec_pos (n : Int) (w : World) (h0 : 0 < n) (h1 : n ≤ 9223372036854775807) :
    Calls Tryz.prog 105 #[.int .i64 n] w fun e w' => e = .returned (.string ⟨(dd n.natAbs).toArray⟩) ∧ Below w.heap.size w w' := by
  have hz : (n == 0) = false := by rw [beq_eq_false_iff_ne]; omega
  have hneg : decide (n < 0) = false := by simp; omega
  go_enter Tryz.func105, Tryz.ntmps105
  go_wp2
  go_loopw [0, 3] (fun q o wr => ∃ (r : Int) (out : List UInt8), 0 ≤ r ∧ r ≤ n ∧ Hid (dd n.natAbs = dd r.natAbs ++ out) ∧ q = .int .i64 r ∧ o = .string ⟨out.toArray⟩ ∧ Below w.heap.size w wr) (fun q _ _ => (intOf q).toNat)
  case atStart => exact ⟨n, [], by omega, by omega, by show _ = _; simp, rfl, rfl, Below.refl _ _⟩
  case round =>
    obtain ⟨r, out, hr0, hrn, hd, rfl, rfl, hbel⟩ := hrel
    have hl : out.length ≤ 20 := by
      have h2 := congrArg List.length hd.out
      rw [List.length_append] at h2
      have h3 := length_dd n.natAbs (by omega)
      omega
    by_cases hr : r = 0
    · subst hr
      have hne : ((0 : Int) != 0) = false := rfl
      go_wp2
      go_ret
      exact ⟨by rw [show dd n.natAbs = out from hd.out]; rfl, hbel⟩
    · have hne : (r != 0) = true := by rw [bne_iff_ne]; exact hr
      have hp : 0 < r := by omega
      have hc := Mem.conv_one wr (48 + r % 10) (by omega) (by omega)
      clear hr
      go_wp2
      go_roundw
      case rel => exact ⟨r / 10, Num.byte (48 + r % 10) :: out, by omega, by omega, by show _ = _; rw [lay_front out r.natAbs _ (48 + r % 10) (by omega) (by omega) hd.out, show (r / 10).natAbs = r.natAbs / 10 by omega], rfl, congrArg Value.string (cons_text _ _), hbel.alloc hbel.size _⟩
      case measure => simp [intOf]; omega
theorem neg_parts (r : Int) (h : r < 0) : r.tmod 10 = -((r.natAbs % 10 : Nat) : Int) ∧ r.tdiv 10 = -((r.natAbs / 10 : Nat) : Int) := by
  obtain ⟨u, rfl⟩ : ∃ u : Nat, r = -(u : Int) := ⟨r.natAbs, by omega⟩
  rw [Int.neg_tmod, Int.neg_tdiv, Int.natAbs_neg, Int.natAbs_natCast, Int.tmod_eq_emod_of_nonneg (by omega), Int.tdiv_eq_ediv_of_nonneg (by omega)]
  constructor <;> omega
set_option maxRecDepth 100000 in
set_option maxHeartbeats 1000000 in
theorem spec_neg (n : Int) (w : World) (h0 : n < 0) (h1 : -9223372036854775808 ≤ n) :
    Calls Tryz.prog 105 #[.int .i64 n] w fun e w' => e = .returned (.string ⟨(45 :: dd n.natAbs).toArray⟩) ∧ Below w.heap.size w w' := by
  have hz : (n == 0) = false := by rw [beq_eq_false_iff_ne]; omega
  have hneg : decide (n < 0) = true := by simp; omega
  go_enter Tryz.func105, Tryz.ntmps105
  go_wp2
  go_loopw [0, 3] (fun q o wr => ∃ (r : Int) (out : List UInt8), r ≤ 0 ∧ n ≤ r ∧ Hid (dd n.natAbs = dd r.natAbs ++ out) ∧ q = .int .i64 r ∧ o = .string ⟨out.toArray⟩ ∧ Below w.heap.size w wr) (fun q _ _ => (intOf q).natAbs)
  case atStart => exact ⟨n, [], by omega, by omega, by show _ = _; simp, rfl, rfl, Below.refl _ _⟩
  case round =>
    obtain ⟨r, out, hr0, hrn, hd, rfl, rfl, hbel⟩ := hrel
    have hl : out.length ≤ 20 := by
      have h2 := congrArg List.length hd.out
      rw [List.length_append] at h2
      have h3 := length_dd n.natAbs (by omega)
      omega
    by_cases hr : r = 0
    · subst hr
      have hne : ((0 : Int) != 0) = false := rfl
      go_wp2
      go_ret
      exact ⟨by rw [show dd n.natAbs = out from hd.out]; exact congrArg (fun x => Ending.returned (.string x)) (cons_text _ _), hbel⟩
    · have hne : (r != 0) = true := by rw [bne_iff_ne]; exact hr
      have hp : r < 0 := by omega
      clear hr
      have hnp := Num.hide (neg_parts r hp)
      have hb0 : -9 ≤ r.tmod 10 := by have := (Num.unhide hnp).1; omega
      have hb1 : r.tmod 10 ≤ 0 := by have := (Num.unhide hnp).1; omega
      have hq0 : r ≤ r.tdiv 10 := by have := (Num.unhide hnp).2; omega
      have hq1 : r.tdiv 10 ≤ 0 := by have := (Num.unhide hnp).2; omega
      by_cases ht : r.tmod 10 < 0
      · have hc := Mem.conv_one wr (48 + -r.tmod 10) (by omega) (by omega)
        go_wp2
        go_roundw
        case rel => exact ⟨r.tdiv 10, Num.byte (48 + -r.tmod 10) :: out, by omega, by omega, by show _ = _; rw [lay_front out r.natAbs _ (48 + -r.tmod 10) (by omega) (by have := (Num.unhide hnp).1; omega) hd.out, show (r.tdiv 10).natAbs = r.natAbs / 10 by have := (Num.unhide hnp).2; omega], rfl, congrArg Value.string (cons_text _ _), hbel.alloc hbel.size _⟩
        case measure => show (r.tdiv 10).natAbs < r.natAbs; have := (Num.unhide hnp).2; omega
      · have hc := Mem.conv_one wr (48 + r.tmod 10) (by omega) (by omega)
        go_wp2
        go_roundw
        case rel => exact ⟨r.tdiv 10, Num.byte (48 + r.tmod 10) :: out, by omega, by omega, by show _ = _; rw [lay_front out r.natAbs _ (48 + r.tmod 10) (by omega) (by have := (Num.unhide hnp).1; omega) hd.out, show (r.tdiv 10).natAbs = r.natAbs / 10 by have := (Num.unhide hnp).2; omega], rfl, congrArg Value.string (cons_text _ _), hbel.alloc hbel.size _⟩
        case measure => show (r.tdiv 10).natAbs < r.natAbs; have := (Num.unhide hnp).2; omega
set_option maxHeartbeats 400000 in
theorem spec_zero (w : World) : Calls Tryz.prog 105 #[.int .i64 0] w fun e w' => e = .returned (.string ⟨#[48]⟩) ∧ Below w.heap.size w w' := by
  have hz : ((0 : Int) == 0) = true := rfl
  go_enter Tryz.func105, Tryz.ntmps105
  go_wp2
  go_ret
  exact ⟨rfl, Below.refl _ _⟩
theorem spec_any (n : Int) (w : World) (h0 : -9223372036854775808 ≤ n) (h1 : n ≤ 9223372036854775807) :
    Calls Tryz.prog 105 #[.int .i64 n] w fun e w' => e = .returned (.string ⟨(Lib.itoa n).toArray⟩) ∧ Below w.heap.size w w' := by
  rcases Int.lt_trichotomy n 0 with h | h | h
  · rw [itoa_neg n h]; exact spec_neg n w h h0
  · subst h; rw [itoa_zero]; exact spec_zero w
  · rw [itoa_pos n h]; exact spec_pos n w h h1
end Dec
end Go.Proofs.YtbcjpjhpobmpbaaGreatDoor
