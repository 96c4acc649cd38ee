/-
  CcHasSpec: CcHas of the specification.
-/
import Derived.Test.YtjeokackmkfooaaDoorQal
namespace Go.Proofs.YtjeokackmkfooaaDoor
open Go.RowKit
set_option linter.unusedVariables false
namespace Cc
open Flds (Fld text_ne')

theorem has_take (d : List Fld) (name : ByteArray) (k : Nat) (h : k < d.length) : has (d.take (k + 1)) name = (has (d.take k) name || decide (d[k].1 = name)) := by
  unfold has
  rw [List.take_succ_eq_append_getElem h, List.any_append]
  simp
theorem has_hit (d : List Fld) (name : ByteArray) (k : Nat) (h : k < d.length) (he : d[k].1 = name) : has d name = true := by
  unfold has
  rw [List.any_eq_true]
  exact ⟨d[k], List.getElem_mem h, by simp [he]⟩

set_option maxRecDepth 100000 in
set_option maxHeartbeats 2000000 in
theorem has_spec (v : Value) (l : List Fld) (name : ByteArray) (w : World) (h : Flds.Is w v l) (hl : Flds.bulk l ≤ 1048576) :
    Calls Tryd.prog 10 #[v, .string name] w fun e w' => e = .returned (.bool (has (dirs l) name)) ∧ Below w.heap.size w w' := by
  have hlen := dirs_len l
  have HDi := Num.hide (dirs_spec v l w h hl)
  obtain ⟨d, hd⟩ : ∃ d, dirs l = d := ⟨_, rfl⟩
  rw [hd] at hlen HDi ⊢
  obtain ⟨r, hr⟩ : ∃ r, has d name = r := ⟨_, rfl⟩
  rw [hr]
  have HR := Num.hide hr
  clear h hd hr
  go_enter Tryd.func10, Tryd.ntmps10
  go_wp2_with fail
  refine HDi.out.mono ?_
  rintro e w1 ⟨dv, rfl, ho, hb⟩
  obtain ⟨da, dc, rfl, h2⟩ := Flds.is_form (Recs.own_is Flds.cells_len ho)
  have HA := Num.hide h2
  have HB := Num.hide hb
  clear ho hb h2 HDi
  go_wp2
  go_loop [6] (fun iv => ∃ i : Nat, i ≤ d.length ∧ iv = .int .i64 (i : Int) ∧ Hid (has (d.take i) name = false)) (fun iv => d.length - (intOf iv).toNat)
  case atStart => exact ⟨0, by omega, rfl, rfl⟩
  case round =>
    obtain ⟨i, hi, rfl, HF⟩ := hrel
    by_cases hlt : i < d.length
    · obtain ⟨bk, o, rfl, hc, hmx, hblt, hcell⟩ := HA.out (by omega)
      obtain ⟨c1, c2⟩ := hcell i hlt
      have HT := Num.hide (has_take d name i hlt)
      have HH := Num.hide (has_hit d name i hlt)
      clear hcell
      generalize d[i] = f at c1 c2 HT HH
      obtain ⟨x, y⟩ := f
      simp only at c1 c2
      by_cases he : x = name
      · subst he
        obtain rfl : r = true := by rw [← HR.out]; exact HH.out rfl
        go_wp2
        go_ret
        exact ⟨rfl, HB.out⟩
      · have d' := text_ne' he
        have HF2 : Hid (has (d.take (i + 1)) name = false) := by
          show _ = _
          rw [HT.out, HF.out, Bool.false_or]; exact decide_eq_false he
        clear he
        go_wp2
        go_round
        case rel => exact ⟨i + 1, by omega, by go_num, HF2⟩
        case measure => simp [intOf]; omega
    · obtain rfl : i = d.length := by omega
      have hf := HF.out
      rw [List.take_length, HR.out] at hf
      subst hf
      go_wp2
      go_ret
      exact ⟨rfl, HB.out⟩

end Cc
end Go.Proofs.YtjeokackmkfooaaDoor
