/-
  Reason of the specification: the words of a status.
-/
import Derived.Test.YtmiahdiadlnijaaDoorReasonNum
import Derived.Test.YtmiahdiadlnijaaDoorNum
import Derived.Test.YtmiahdiadlnijaaDoorRows
import Derived.WalkKit
import Derived.WalkLawsBesides
import Derived.Below
namespace Go.Proofs.YtmiahdiadlnijaaDoor
open Go.RowKit
set_option linter.unusedVariables false
namespace Msg

def krow : Array Value := #[.int .i64 200, .int .i64 203, .int .i64 204, .int .i64 300, .int .i64 301, .int .i64 304, .int .i64 400, .int .i64 404, .int .i64 410, .int .i64 502, .int .i64 504]
def trow : Array Value := #[.string ⟨#[79, 75]⟩, .string ⟨#[78, 111, 110, 45, 65, 117, 116, 104, 111, 114, 105, 116, 97, 116, 105, 118, 101, 32, 73, 110, 102, 111, 114, 109, 97, 116, 105, 111, 110]⟩, .string ⟨#[78, 111, 32, 67, 111, 110, 116, 101, 110, 116]⟩, .string ⟨#[77, 117, 108, 116, 105, 112, 108, 101, 32, 67, 104, 111, 105, 99, 101, 115]⟩, .string ⟨#[77, 111, 118, 101, 100, 32, 80, 101, 114, 109, 97, 110, 101, 110, 116, 108, 121]⟩, .string ⟨#[78, 111, 116, 32, 77, 111, 100, 105, 102, 105, 101, 100]⟩, .string ⟨#[66, 97, 100, 32, 82, 101, 113, 117, 101, 115, 116]⟩, .string ⟨#[78, 111, 116, 32, 70, 111, 117, 110, 100]⟩, .string ⟨#[71, 111, 110, 101]⟩, .string ⟨#[66, 97, 100, 32, 71, 97, 116, 101, 119, 97, 121]⟩, .string ⟨#[71, 97, 116, 101, 119, 97, 121, 32, 84, 105, 109, 101, 111, 117, 116]⟩]
theorem krow_at (k : Nat) (h : k < 11) : krow[k]? = some (.int .i64 (known.getD k 0)) := by
  match k, h with
  | 0, _ => rfl
  | 1, _ => rfl
  | 2, _ => rfl
  | 3, _ => rfl
  | 4, _ => rfl
  | 5, _ => rfl
  | 6, _ => rfl
  | 7, _ => rfl
  | 8, _ => rfl
  | 9, _ => rfl
  | 10, _ => rfl
theorem trow_at (k : Nat) (h : k < 11) : trow[k]? = some (.string (texts.getD k ⟨#[]⟩)) := by
  match k, h with
  | 0, _ => rfl
  | 1, _ => rfl
  | 2, _ => rfl
  | 3, _ => rfl
  | 4, _ => rfl
  | 5, _ => rfl
  | 6, _ => rfl
  | 7, _ => rfl
  | 8, _ => rfl
  | 9, _ => rfl
  | 10, _ => rfl
theorem kcell (w : World) (k : Nat) (h : k < 11) : ((w.alloc (.cells krow 3)).alloc (.cells trow 9)).cell? ⟨w.heap.size, k, none⟩ = some (.int .i64 (known.getD k 0)) := by
  rw [World.cell?_alloc_lt _ _ _ (by simp), cell_of_row _ _ _ _ _ _ (heap_alloc_new w _)]
  exact krow_at k h
theorem tcell (w : World) (k : Nat) (h : k < 11) : ((w.alloc (.cells krow 3)).alloc (.cells trow 9)).cell? ⟨w.heap.size + 1, k, none⟩ = some (.string (texts.getD k ⟨#[]⟩)) := by
  have e : w.heap.size + 1 = (w.alloc (.cells krow 3)).heap.size := by rw [World.size_alloc]
  rw [e, cell_of_row _ _ _ _ _ _ (heap_alloc_new _ _)]
  exact trow_at k h
set_option maxRecDepth 100000 in
set_option maxHeartbeats 1000000 in
theorem reason_spec (st : Int) (w : World) : Calls Tryd.prog 37 #[.int .i64 st] w fun e w' => e = .returned (.string (reason st)) ∧ Below w.heap.size w w' := by
  obtain ⟨r, hr⟩ : ∃ r, reason st = r := ⟨_, rfl⟩
  rw [hr]
  have HR : Hid (reasonF st 11 0 = r) := hr
  clear hr
  have HK := Num.hide (fun k h => kcell w k h)
  have HT := Num.hide (fun k h => tcell w k h)
  have HB := Num.hide (((Below.refl w.heap.size w).alloc (Nat.le_refl _) (.cells krow 3)).alloc (by simp) (.cells trow 9))
  unfold krow trow at HK HT HB
  go_enter Tryd.func37, Tryd.ntmps37
  go_wp2
  go_loop [5] (fun iv => ∃ k : Nat, k ≤ 11 ∧ iv = .int .i64 (k : Int) ∧ Hid (reasonF st (11 - k) k = r)) (fun iv => 11 - (intOf iv).toNat)
  case atStart => exact ⟨0, by omega, rfl, HR⟩
  case round =>
    clear HR
    obtain ⟨k, hk, rfl, HR⟩ := hrel
    by_cases hlt : (k : Int) < 11
    · have c1 := HK.out k (by omega)
      have c2 := HT.out k (by omega)
      have hr := HR.out
      rw [show 11 - k = (11 - (k + 1)) + 1 by omega, reasonF] at hr
      generalize known.getD k 0 = x at c1 hr
      generalize texts.getD k ⟨#[]⟩ = t at c2 hr
      by_cases he : x = st
      · have d : (x == st) = true := by rw [beq_iff_eq]; exact he
        rw [if_pos he] at hr
        subst hr
        clear he HR
        go_wp2
        go_ret
        exact ⟨rfl, HB.out⟩
      · have d : (x == st) = false := by rw [beq_eq_false_iff_ne]; exact he
        rw [if_neg he] at hr
        have HR2 := Num.hide hr
        clear he hr HR
        go_wp2
        go_round
        case rel => exact ⟨k + 1, by omega, by go_num, HR2⟩
        case measure => simp [intOf]; omega
    · have hr := HR.out
      rw [show 11 - k = 0 by omega, reasonF] at hr
      subst hr
      clear HR
      go_wp2
      go_ret
      exact ⟨rfl, HB.out⟩
end Msg
end Go.Proofs.YtmiahdiadlnijaaDoor
