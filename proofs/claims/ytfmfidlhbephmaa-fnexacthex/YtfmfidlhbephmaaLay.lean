/-
  A row of the call's own into which bytes are laid one behind the other, and the text that is made of it; likewise of a slice that grows.
-/
import Derived.Test.YtfmfidlhbephmaaFixed
namespace Go.Proofs.Ytfmfidlhbephmaa
open Go.RowKit
set_option linter.unusedVariables false
namespace Put

def cell (b : UInt8) : Value := Value.int .u8 (b.toNat : Int)
/-- a row of N cells of which the first hold the bytes 'out', the rest zero -/
def lay (N : Nat) (out : List UInt8) : List Value := out.map cell ++ List.replicate (N - out.length) (Value.int .u8 0)
theorem length_lay (N : Nat) (out : List UInt8) (h : out.length ≤ N) : (lay N out).length = N := by simp [lay]; omega
theorem lay_nil (N : Nat) : lay N [] = List.replicate N (Value.int .u8 0) := by simp [lay]
theorem lay_put (N : Nat) (out more : List UInt8) (h : out.length + more.length ≤ N) : splice (lay N out) out.length (more.map cell) = lay N (out ++ more) := by
  have e1 : (lay N out).take out.length = out.map cell := by
    unfold lay
    rw [List.take_append_of_le_length (by simp)]
    exact List.take_of_length_le (by simp)
  have e2 : (lay N out).drop (out.length + (more.map cell).length) = List.replicate (N - (out ++ more).length) (Value.int .u8 0) := by
    unfold lay
    rw [List.drop_append, List.drop_eq_nil_of_le (by simp), List.nil_append, List.drop_replicate]
    congr 1
    simp; omega
  unfold splice
  rw [e1, e2, ← List.append_assoc, ← List.map_append]
  rfl
theorem cells_lay {w : World} {g N : Nat} {l : List UInt8} (h : w.heap[g]? = some (.cells (lay N l).toArray 5 (0, 0))) :
    ∀ j (hj : j < l.length), w.cell? ((⟨g, 0, none⟩ : Addr).add j) = some (.int .u8 (l[j].toNat : Int)) := by
  intro j hj
  have hadd : (⟨g, 0, none⟩ : Addr).add j = ⟨g, j, none⟩ := by unfold Addr.add; split <;> simp_all
  rw [hadd, cell_of_row w g j _ 5 (0, 0) h]
  simp only [lay, List.getElem?_toArray]
  rw [List.getElem?_append_left (by simpa using hj)]
  simp [hj, cell]
theorem conv_lay {w : World} {g N : Nat} {l : List UInt8} (h : w.heap[g]? = some (.cells (lay N l).toArray 5 (0, 0))) (n c : Nat) (hn : l.length = n) :
    (convert 36 9 (.slice (some ⟨g, 0, none⟩) n c)).run Try.prog w = .ok (.string ⟨l.toArray⟩) w := by
  subst hn
  exact run_convert_bytes_back (P := Try.prog) w 36 9 5 ⟨g, 0, none⟩ c l Try.underlying36 Try.underlying5 Try.underlying9 (cells_lay h)
theorem conv_own {w : World} {base : Nat} {v : Value} {l : List UInt8} (h : w.ownsRow base 5 1 v l.length (l.map cell)) (h0 : 0 < l.length) :
    (convert 36 9 v).run Try.prog w = .ok (.string ⟨l.toArray⟩) w := by
  rcases h.2 with ⟨_, h'⟩ | ⟨g, cap, cur, rfl, _, hg, hc, _, hcs, htake⟩
  · omega
  · refine run_convert_bytes_back (P := Try.prog) w 36 9 5 ⟨g, 0, none⟩ cap l Try.underlying36 Try.underlying5 Try.underlying9 ?_
    intro j hj
    have hadd : (⟨g, 0, none⟩ : Addr).add j = ⟨g, j, none⟩ := by unfold Addr.add; split <;> simp_all
    rw [hadd, cell_of_row w g j _ 5 (0, 0) hg]
    have h2 : (cur.toList.take (l.length * 1))[j]? = (l.map cell)[j]? := by rw [htake]
    rw [List.getElem?_take, if_pos (by omega)] at h2
    rw [← Array.getElem?_toList, h2]
    simp [hj, cell]
theorem cells_one (w : World) (v : Value) (t : TypeId) : ∀ j u, [v][j]? = some u → (w.alloc (.cells #[v] t)).cell? ((⟨w.heap.size, 0, none⟩ : Addr).add j) = some u := Fixed.one_cell w v t
theorem cells_two (w : World) (v u : Value) (t : TypeId) : ∀ j x, [v, u][j]? = some x → (w.alloc (.cells #[v, u] t)).cell? ((⟨w.heap.size, 0, none⟩ : Addr).add j) = some x := by
  intro j x hj
  match j, hj with
  | 0, hj => simp at hj; subst hj; simp [Addr.add]
  | 1, hj => simp at hj; subst hj; simp [Addr.add]
end Put
end Go.Proofs.Ytfmfidlhbephmaa
