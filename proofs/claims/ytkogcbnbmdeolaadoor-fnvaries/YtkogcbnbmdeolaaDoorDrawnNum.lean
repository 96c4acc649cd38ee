/-
  The fields that the specification draws, plain: which names and which values they have.
-/
import Derived.Test.YtkogcbnbmdeolaaDoorCalmNum
import Derived.Test.YtkogcbnbmdeolaaDoorDateRead
namespace Go.Proofs.YtkogcbnbmdeolaaDoor
open Go.RowKit
set_option linter.unusedVariables false
namespace Draw

def ccVals : List ByteArray := [⟨#[109, 97, 120, 45, 97, 103, 101, 61, 49, 48]⟩, ⟨#[110, 111, 45, 115, 116, 111, 114, 101]⟩, ⟨#[110, 111, 45, 99, 97, 99, 104, 101]⟩, ⟨#[112, 114, 105, 118, 97, 116, 101]⟩, ⟨#[112, 117, 98, 108, 105, 99, 44, 32, 109, 97, 120, 45, 97, 103, 101, 61, 51]⟩, ⟨#[115, 45, 109, 97, 120, 97, 103, 101, 61, 55, 44, 32, 109, 97, 120, 45, 97, 103, 101, 61, 49]⟩, ⟨#[109, 117, 115, 116, 45, 114, 101, 118, 97, 108, 105, 100, 97, 116, 101]⟩, ⟨#[109, 97, 120, 45, 115, 116, 97, 108, 101, 61, 53]⟩, ⟨#[109, 105, 110, 45, 102, 114, 101, 115, 104, 61, 50]⟩, ⟨#[111, 110, 108, 121, 45, 105, 102, 45, 99, 97, 99, 104, 101, 100]⟩, ⟨#[109, 97, 120, 45, 97, 103, 101, 61, 48]⟩, ⟨#[112, 117, 98, 108, 105, 99]⟩, ⟨#[77, 97, 120, 45, 65, 103, 101, 61, 34, 55, 34]⟩, ⟨#[109, 97, 120, 45, 97, 103, 101, 61, 120]⟩, ⟨#[109, 97, 120, 45, 97, 103, 101]⟩, ⟨#[109, 97, 120, 45, 97, 103, 101, 61, 53, 44, 32, 109, 97, 120, 45, 97, 103, 101, 61, 51]⟩, ⟨#[110, 111, 45, 99, 97, 99, 104, 101, 61, 34, 115, 101, 116, 45, 99, 111, 111, 107, 105, 101, 44, 32, 97, 34, 44, 32, 109, 97, 120, 45, 97, 103, 101, 61, 57]⟩, ⟨#[44, 44, 112, 117, 98, 108, 105, 99, 44]⟩, ⟨#[97, 32, 98, 44, 32, 61, 51, 44, 32, 112, 114, 105, 118, 97, 116, 101, 61, 120]⟩, ⟨#[115, 45, 109, 97, 120, 97, 103, 101, 61, 57, 57, 57, 57, 57, 57, 57, 57, 57, 57, 57]⟩]
def varyVals : List ByteArray := [⟨#[97, 99, 99, 101, 112, 116]⟩, ⟨#[42]⟩, ⟨#[97, 99, 99, 101, 112, 116, 44, 32, 120, 45, 97]⟩, ⟨#[120, 45, 97]⟩, ⟨#[65, 99, 99, 101, 112, 116, 44, 97, 99, 99, 101, 112, 116]⟩, ⟨#[88, 45, 65, 32, 44, 32, 120, 45, 98]⟩, ⟨#[]⟩, ⟨#[44]⟩]
def acceptVals : List ByteArray := [⟨#[97]⟩, ⟨#[98]⟩, ⟨#[97, 44, 32, 98]⟩, ⟨#[]⟩]
def xaVals : List ByteArray := [⟨#[49]⟩, ⟨#[50]⟩]
def etagVals : List ByteArray := [⟨#[34, 118, 49, 34]⟩, ⟨#[34, 118, 50, 34]⟩, ⟨#[87, 47, 34, 118, 49, 34]⟩]
def ageNames : List ByteArray := [⟨#[97, 103, 101]⟩, ⟨#[120, 45, 98]⟩, ⟨#[97, 117, 116, 104, 111, 114, 105, 122, 97, 116, 105, 111, 110]⟩]
def ageVals : List ByteArray := [⟨#[51]⟩, ⟨#[48]⟩, ⟨#[57, 57, 57, 57, 57, 57, 57, 57, 57, 57, 57]⟩, ⟨#[120]⟩]
def dateNames : List ByteArray := [⟨#[100, 97, 116, 101]⟩, ⟨#[101, 120, 112, 105, 114, 101, 115]⟩, ⟨#[108, 97, 115, 116, 45, 109, 111, 100, 105, 102, 105, 101, 100]⟩]
def varyN : ByteArray := ⟨#[118, 97, 114, 121]⟩
def acceptN : ByteArray := ⟨#[97, 99, 99, 101, 112, 116]⟩
def xaN : ByteArray := ⟨#[120, 45, 97]⟩
def etagN : ByteArray := ⟨#[101, 116, 97, 103]⟩
/-- is it one of them? -/
def oneOf (L : List ByteArray) (y : ByteArray) : Bool := L.any fun x => decide (x = y)
theorem of_one {L : List ByteArray} {y : ByteArray} (h : oneOf L y = true) : y ∈ L := by
  unfold oneOf at h
  rw [List.any_eq_true] at h
  obtain ⟨x, hx, e⟩ := h
  exact (of_decide_eq_true e) ▸ hx
/-- a field as it is drawn -/
def Drawn (x y : ByteArray) : Prop :=
  (x = Calm.cc ∧ y ∈ ccVals) ∨ (x = varyN ∧ y ∈ varyVals) ∨ (x = acceptN ∧ y ∈ acceptVals) ∨ (x = xaN ∧ y ∈ xaVals) ∨ (x = etagN ∧ y ∈ etagVals) ∨ (x ∈ dateNames ∧ ∃ z : Int, 0 ≤ z ∧ z < 90 ∧ y = Date.shown z) ∨ (x ∈ ageNames ∧ y ∈ ageVals)
theorem Drawn.cc {y : ByteArray} (h : oneOf ccVals y = true) : Drawn Calm.cc y := .inl ⟨rfl, of_one h⟩
theorem Drawn.vary {y : ByteArray} (h : oneOf varyVals y = true) : Drawn varyN y := .inr (.inl ⟨rfl, of_one h⟩)
theorem Drawn.accept {y : ByteArray} (h : oneOf acceptVals y = true) : Drawn acceptN y := .inr (.inr (.inl ⟨rfl, of_one h⟩))
theorem Drawn.xa {y : ByteArray} (h : oneOf xaVals y = true) : Drawn xaN y := .inr (.inr (.inr (.inl ⟨rfl, of_one h⟩)))
theorem Drawn.etag {y : ByteArray} (h : oneOf etagVals y = true) : Drawn etagN y := .inr (.inr (.inr (.inr (.inl ⟨rfl, of_one h⟩))))
theorem Drawn.date {x : ByteArray} {z : Int} (hx : oneOf dateNames x = true) (h0 : 0 ≤ z) (h1 : z < 90) : Drawn x (Date.shown z) := .inr (.inr (.inr (.inr (.inr (.inl ⟨of_one hx, z, h0, h1, rfl⟩)))))
theorem Drawn.age {x y : ByteArray} (hx : oneOf ageNames x = true) (h : oneOf ageVals y = true) : Drawn x y := .inr (.inr (.inr (.inr (.inr (.inr ⟨of_one hx, of_one h⟩)))))
/-- a list whose texts all pass a test -/
theorem all_of {q : ByteArray → Bool} {L : List ByteArray} (h : L.all q = true) {y : ByteArray} (hy : y ∈ L) : q y = true := List.all_eq_true.1 h y hy
theorem date_sz (z : Int) (h0 : 0 ≤ z) (h1 : z < 90) : (Date.shown z).size ≤ 64 := by
  have e : Date.shown z = Date.text z := if_pos ⟨h0, by omega⟩
  rw [e, Date.text_size z h0 (by omega)]
  omega
theorem Drawn.small {x y : ByteArray} (h : Drawn x y) : x.size ≤ 64 ∧ y.size ≤ 64 := by
  rcases h with ⟨rfl, h⟩ | ⟨rfl, h⟩ | ⟨rfl, h⟩ | ⟨rfl, h⟩ | ⟨rfl, h⟩ | ⟨hx, z, h0, h1, rfl⟩ | ⟨hx, h⟩
  · exact ⟨by decide, of_decide_eq_true (all_of (q := fun y => decide (y.size ≤ 64)) (by decide +kernel) h)⟩
  · exact ⟨by decide, of_decide_eq_true (all_of (q := fun y => decide (y.size ≤ 64)) (by decide +kernel) h)⟩
  · exact ⟨by decide, of_decide_eq_true (all_of (q := fun y => decide (y.size ≤ 64)) (by decide +kernel) h)⟩
  · exact ⟨by decide, of_decide_eq_true (all_of (q := fun y => decide (y.size ≤ 64)) (by decide +kernel) h)⟩
  · exact ⟨by decide, of_decide_eq_true (all_of (q := fun y => decide (y.size ≤ 64)) (by decide +kernel) h)⟩
  · exact ⟨of_decide_eq_true (all_of (q := fun y => decide (y.size ≤ 64)) (by decide +kernel) hx), date_sz z h0 h1⟩
  · exact ⟨of_decide_eq_true (all_of (q := fun y => decide (y.size ≤ 64)) (by decide +kernel) hx), of_decide_eq_true (all_of (q := fun y => decide (y.size ≤ 64)) (by decide +kernel) h)⟩
/-- which names there are -/
theorem Drawn.name {x y : ByteArray} (h : Drawn x y) {q : ByteArray → Bool} (hq : ([Calm.cc, varyN, acceptN, xaN, etagN] ++ dateNames ++ ageNames).all q = true) : q x = true := by
  refine all_of hq ?_
  rcases h with ⟨rfl, _⟩ | ⟨rfl, _⟩ | ⟨rfl, _⟩ | ⟨rfl, _⟩ | ⟨rfl, _⟩ | ⟨hx, _⟩ | ⟨hx, _⟩
  · simp
  · simp
  · simp
  · simp
  · simp
  · simp [hx]
  · simp [hx]
theorem Drawn.said {x y : ByteArray} (h : Drawn x y) : Calm.Said x y := by
  intro e
  rcases h with ⟨_, h⟩ | ⟨rfl, _⟩ | ⟨rfl, _⟩ | ⟨rfl, _⟩ | ⟨rfl, _⟩ | ⟨hx, _⟩ | ⟨hx, _⟩
  · exact all_of (q := Calm.calm) (by decide +kernel) h
  · exact absurd e (by decide +kernel)
  · exact absurd e (by decide +kernel)
  · exact absurd e (by decide +kernel)
  · exact absurd e (by decide +kernel)
  · exact absurd e (of_decide_eq_true (all_of (q := fun x => decide (¬ x = Calm.cc)) (by decide +kernel) hx))
  · exact absurd e (of_decide_eq_true (all_of (q := fun x => decide (¬ x = Calm.cc)) (by decide +kernel) hx))
/-- what vary says in a drawn field ends its quotes -/
theorem Drawn.varied {x y : ByteArray} (h : Drawn x y) (e : x = varyN) : y ∈ varyVals := by
  rcases h with ⟨rfl, _⟩ | ⟨_, h⟩ | ⟨rfl, _⟩ | ⟨rfl, _⟩ | ⟨rfl, _⟩ | ⟨hx, _⟩ | ⟨hx, _⟩
  · exact absurd e (by decide +kernel)
  · exact h
  · exact absurd e (by decide +kernel)
  · exact absurd e (by decide +kernel)
  · exact absurd e (by decide +kernel)
  · exact absurd e (of_decide_eq_true (all_of (q := fun x => decide (¬ x = varyN)) (by decide +kernel) hx))
  · exact absurd e (of_decide_eq_true (all_of (q := fun x => decide (¬ x = varyN)) (by decide +kernel) hx))
end Draw
end Go.Proofs.YtkogcbnbmdeolaaDoor
