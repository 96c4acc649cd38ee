/-
  Lower: small letters, and the row of bytes that a text is laid in to be worked over.
-/
import Derived.Test.YtbcjpjhpobmpbaaGreatDoorSignNum
import Derived.Test.YtbcjpjhpobmpbaaGreatDoorRows
import Derived.WalkKit
import Derived.WalkLawsBesides
import Derived.Lib.ConvBytes
import Derived.Laws.IdiomStrings
namespace Go.Proofs.YtbcjpjhpobmpbaaGreatDoor
open Go.RowKit
set_option linter.unusedVariables false
namespace Sign

/-- a byte, small where it is a great letter -/
def lowB (b : UInt8) : UInt8 := if up (b.toNat : Int) then b + 32 else b
def lower (s : ByteArray) : ByteArray := ⟨(s.data.toList.map lowB).toArray⟩
theorem lowB_up (b : UInt8) (h : up (b.toNat : Int)) : ((lowB b).toNat : Int) = (b.toNat : Int) + 32 := by
  unfold lowB; rw [if_pos h]; unfold up at h; rw [UInt8.toNat_add]; simp; omega
theorem lowB_no (b : UInt8) (h : ¬ up (b.toNat : Int)) : lowB b = b := by unfold lowB; rw [if_neg h]
theorem size_lower (s : ByteArray) : (lower s).size = s.size := by
  show (s.data.toList.map lowB).toArray.size = s.size
  rw [List.size_toArray, List.length_map, Array.length_toList]; rfl

/-- the row at block g bears the bytes of the text, the first k of them small; it may be written -/
structure Part (g : Nat) (s : ByteArray) (k : Nat) (W : World) : Prop where
  done : ∀ j (h : j < s.size), j < k → W.cell? ⟨g, j, none⟩ = some (.int .u8 ((lowB s[j]).toNat : Int))
  todo : ∀ j (h : j < s.size), k ≤ j → W.cell? ⟨g, j, none⟩ = some (.int .u8 (s[j].toNat : Int))
  free : ∀ j (h : j < s.size), W.frozen? ⟨g, j, none⟩ = false

theorem bytes_below (w : World) (e : TypeId) (s : ByteArray) : Below w.heap.size w (Lib.bytesWorld w e s) :=
  ⟨rfl, rfl, rfl, by rw [Lib.bytesWorld_size]; omega, fun k hk => Lib.bytesWorld_at_old w e s k hk⟩
theorem bytes_part (w : World) (e : TypeId) (s : ByteArray) : Part w.heap.size s 0 (Lib.bytesWorld w e s) where
  done := fun j h h' => by omega
  todo := fun j h _ => by
    rw [Lib.bytesWorld_cell w e s j h]
    have hl : j < s.data.toList.length := by rw [Array.length_toList]; exact h
    rw [List.getD, List.getElem?_eq_getElem hl]; rfl
  free := fun j h => by
    have hsz : s.size ≤ (Lib.bytesCells w e s).size := by
      unfold Lib.bytesCells; rw [Array.size_append, Array.size_map]; exact Nat.le_add_right _ _
    unfold World.frozen?
    simp only [Lib.bytesWorld_at_new]
    have : decide ((Lib.bytesCells w e s).size ≤ j) = false := decide_eq_false (by omega)
    simp [this]
theorem part_up {g : Nat} {s : ByteArray} {k : Nat} {W : World} (p : Part g s k W) (hk : k < s.size) (h : up (s[k].toNat : Int)) : Part g s (k + 1) (W.setCell ⟨g, k, none⟩ (.int .u8 ((s[k].toNat : Int) + 32))) where
  done := fun j hj hjk => by
    by_cases e : j = k
    · subst e
      rw [World.cell?_setCell_same (h := p.todo j hj (Nat.le_refl _)), lowB_up _ h]
    · rw [World.cell?_setCell_other (h := by intro h; have h2 : k = j := congrArg Addr.off h; omega)]
      exact p.done j hj (by omega)
  todo := fun j hj hjk => by
    rw [World.cell?_setCell_other (h := by intro h; have h2 : k = j := congrArg Addr.off h; omega)]
    exact p.todo j hj (by omega)
  free := fun j hj => by rw [World.frozen?_setCell]; exact p.free j hj
theorem part_no {g : Nat} {s : ByteArray} {k : Nat} {W : World} (p : Part g s k W) (hk : k < s.size) (h : ¬ up (s[k].toNat : Int)) : Part g s (k + 1) W where
  done := fun j hj hjk => by
    by_cases e : j = k
    · subst e
      rw [lowB_no _ h]; exact p.todo j hj (Nat.le_refl _)
    · exact p.done j hj (by omega)
  todo := fun j hj hjk => p.todo j hj (by omega)
  free := p.free
theorem part_drew {g : Nat} {s : ByteArray} {k : Nat} {W : World} (p : Part g s k W) : Part g s k W.drew :=
  ⟨p.done, p.todo, p.free⟩
theorem part_back {g : Nat} {s : ByteArray} {W : World} (p : Part g s s.size W) (cap : Nat) :
    (convert 42 9 (.slice (some ⟨g, 0, none⟩) s.size cap)).run Tryz.prog W = .ok (.string (lower s)) W := by
  have e : s.size = (s.data.toList.map lowB).length := by rw [List.length_map, Array.length_toList]; rfl
  have h := run_convert_bytes_back (P := Tryz.prog) W 42 9 5 ⟨g, 0, none⟩ cap (s.data.toList.map lowB) Tryz.underlying42 Tryz.underlying5 Tryz.underlying9 (by
    intro j hj
    have hj' : j < s.size := by omega
    have h := p.done j hj' hj'
    have ea : (⟨g, 0, none⟩ : Addr).add j = ⟨g, j, none⟩ := by
      unfold Addr.add; by_cases e : j = 0
      · subst e; simp
      · simp [e]
    rw [ea, h, List.getElem_map]
    rfl)
  rw [← e] at h
  exact h
end Sign
end Go.Proofs.YtbcjpjhpobmpbaaGreatDoor
