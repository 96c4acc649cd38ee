/-
  put: bytes laid into a row of the call's own, behind what lies there: what the call returns and what the row then holds.
-/
import Derived.Test.YtfmfidlhbephmaaRows
import Derived.Test.YtfmfidlhbephmaaNum
import Derived.WalkKit
import Derived.WalkLawsBesides
import Derived.Laws.CopyOwn
namespace Go.Proofs.Ytfmfidlhbephmaa
open Go.RowKit
set_option linter.unusedVariables false
namespace Put


theorem sz5 : (Try.prog.info? 5).map (·.size) = some 1 := by kernel_rfl
set_option maxHeartbeats 400000 in
theorem put_any (g n k m : Nat) (cur cs : List Value) (ad : Addr) (c : Nat) (B : Nat) (w0 w : World) (hg : w.heap[g]? = some (.cells cur.toArray 5 (0, 0))) (hn : cur.length = n) (hm : cs.length = m) (h0 : 0 < m) (hk : k + m ≤ n)
    (hmax : n ≤ maxLen) (hsrc : ∀ j v, cs[j]? = some v → w.cell? (ad.add j) = some v) (h1 : ∀ v ∈ cs, v.oneCell' = true) (hb : Below B w0 w) (hBg : B ≤ g) :
    Calls Try.prog 22 #[.slice (some ⟨g, 0, none⟩) n n, .int .i64 k, .slice (some ad) m c] w fun e w' =>
      e = .returned (.int .i64 (k + m : Nat)) ∧ w'.heap[g]? = some (.cells (splice cur k cs).toArray 5 (0, 0)) ∧ Below B w0 w' := by
  unfold maxLen at hmax
  have hkn : (k : Int) < (n : Int) := by omega
  have hrun := run_copy_row (P := Try.prog) w 36 36 3 5 g k (n - k) (n - k) ad m c cur.toArray 5 cs Try.underlying36 sz5 hg (by rw [hm]; simp [Nat.min_def]; omega) hsrc (by simp; omega) h1
  have HR : Hid (w.heap[g]? = some (.cells cur.toArray 5 (0, 0))) := hg
  rw [hm] at hrun
  clear hsrc hg h1
  go_enter Try.func22, Try.ntmps22
  go_wp2
  go_ret
  exact ⟨rfl, by rw [splice, hm]; exact setRow_heap w g _ _ 5 _ HR.out, below_setRow hb hBg _⟩
/-- a row of which the first 'k' bytes are laid down: those of 'l', the rest zero -/
def row (l : List UInt8) (k : Nat) : List Value := (l.take k).map (fun b => Value.int .u8 (b.toNat : Int)) ++ List.replicate (l.length - k) (Value.int .u8 0)
theorem length_row (l : List UInt8) (k : Nat) (h : k ≤ l.length) : (row l k).length = l.length := by simp [row]; omega
theorem row_put (l : List UInt8) (k m : Nat) (h : k + m ≤ l.length) :
    splice (row l k) k (((l.drop k).take m).map (fun b => Value.int .u8 (b.toNat : Int))) = row l (k + m) := by
  have hk : k ≤ l.length := by omega
  have e1 : (row l k).take k = (l.take k).map (fun b => Value.int .u8 (b.toNat : Int)) := by
    unfold row
    rw [List.take_append_of_le_length (by simp; omega)]
    exact List.take_of_length_le (by simp; omega)
  have e2 : (row l k).drop (k + m) = List.replicate (l.length - (k + m)) (Value.int .u8 0) := by
    unfold row
    rw [List.drop_append, List.drop_eq_nil_of_le (by simp; omega), List.nil_append, List.drop_replicate]
    congr 1
    simp; omega
  have e3 : (((l.drop k).take m).map (fun b => Value.int .u8 (b.toNat : Int))).length = m := by simp; omega
  unfold splice
  rw [e3, e1, e2, ← List.append_assoc, ← List.map_append]
  unfold row
  rw [List.take_add]
theorem row_all (l : List UInt8) : row l l.length = l.map (fun b => Value.int .u8 (b.toNat : Int)) := by simp [row]
theorem row_none (l : List UInt8) : row l 0 = List.replicate l.length (Value.int .u8 0) := by simp [row]
end Put
end Go.Proofs.Ytfmfidlhbephmaa
