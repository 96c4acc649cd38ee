/-
  Chunk of the specification: a text in pieces; what was there stays.
-/
import Derived.Test.YtpkkkfmdgpghjaaDoorHexNumSpec
import Derived.Deep.RegionWith
import Derived.BigRegion
import Derived.Deep.Cut
import Derived.Laws.Strings
namespace Go.Proofs.YtpkkkfmdgpghjaaDoor
open Go.RowKit
set_option linter.unusedVariables false
namespace Body

set_option maxRecDepth 100000 in
set_option maxHeartbeats 2000000 in
theorem chunk_spec (s : ByteArray) (z : Int) (w : World) (hs : s.size ≤ 1048576) (hz : z ≤ 9223372036854775807) :
    Calls Tryd.prog 8 #[.string s, .int .i64 z] w fun e w' => e = .returned (.string (chunk s z)) ∧ Below w.heap.size w w' := by
  by_cases h1 : z < 1
  · have e0 : chunk s z = ⟨#[]⟩ := if_pos h1
    rw [e0]
    clear e0
    go_enter Tryd.func8, Tryd.ntmps8
    go_wp2
    go_ret
    exact ⟨rfl, Below.refl _ _⟩
  · have d1 : decide (z < 1) = false := by rw [decide_eq_false_iff_not]; exact h1
    obtain ⟨r, hr⟩ : ∃ r, chunk s z = r := ⟨_, rfl⟩
    rw [hr]
    have hr2 : (⟨(chunkL z.toNat s.data.toList ++ [48, 13, 10, 13, 10]).toArray⟩ : ByteArray) = r := by rw [← hr]; unfold chunk; rw [if_neg h1]
    have HR := Num.hide hr2
    obtain ⟨Z, rfl⟩ : ∃ Z : Nat, z = (Z : Int) := ⟨z.toNat, by omega⟩
    clear hr hr2
    go_enter Tryd.func8, Tryd.ntmps8
    go_wp2
    go_loopw [0, 5] (fun sv ov wr => ∃ (t out : ByteArray), sv = .string t ∧ ov = .string out ∧ t.size ≤ s.size ∧ Hid (out.data.toList ++ chunkL Z t.data.toList = chunkL Z s.data.toList) ∧ Hid (Below w.heap.size w wr)) (fun sv _ _ => match sv with | .string t => t.size | _ => 0)
    case atStart => exact ⟨s, ⟨#[]⟩, rfl, rfl, Nat.le_refl _, by show _ = _; rfl, Below.refl _ _⟩
    case round =>
      obtain ⟨t, out, rfl, rfl, hts, HE, HB⟩ := hrel
      have hsz := HB.out.size
      have hos : out.size ≤ 22020096 := by
        have h2 := chunkL_len Z (by omega) s.data.toList
        have h3 := congrArg List.length HE.out
        rw [List.length_append] at h3
        have e1 : out.data.toList.length = out.size := by rw [Array.length_toList]; rfl
        have e2 : s.data.toList.length = s.size := by rw [Array.length_toList]; rfl
        omega
      by_cases h0 : 0 < (t.size : Int)
      · obtain ⟨m, hm, hmn⟩ : ∃ m : Nat, (if t.size < Z then (t.size : Int) else (Z : Int)) = (m : Int) ∧ Hid (min Z t.size = m) := ⟨min Z t.size, by split <;> omega, rfl⟩
        have hmt : m ≤ t.size := by have := hmn.out; omega
        have hm1 : 1 ≤ m := by have := hmn.out; omega
        have HX := Num.hide (fun W => hexNum_spec (m : Int) W (by omega))
        have hxs := hexNum_size (m : Int)
        have HH : Hid ((hexNum (m : Int)).data.toList = hexL (m : Int)) := by show _ = _; unfold hexNum; rw [List.toList_toArray]
        generalize hexNum (m : Int) = hx at HX hxs HH
        have hE2 : (out ++ hx ++ ⟨#[13, 10]⟩ ++ t.extract 0 m ++ ⟨#[13, 10]⟩).data.toList ++ chunkL Z (t.extract m t.size).data.toList = chunkL Z s.data.toList := by
          rw [← HE.out]
          have e3 : t.data.toList.length = t.size := by rw [Array.length_toList]; rfl
          have hne : t.data.toList ≠ [] := fun h => by rw [h] at e3; simp at e3; omega
          rw [chunkL_step Z (by omega) t.data.toList hne, e3, hmn.out, ← HH.out]
          have e1 : (t.extract 0 m).data.toList = t.data.toList.take m := by
            rw [ByteArray.data_extract, Array.toList_extract, List.extract_eq_drop_take', List.drop_zero]
          have e2 : (t.extract m t.size).data.toList = t.data.toList.drop m := by
            rw [ByteArray.data_extract, Array.toList_extract, List.extract_eq_drop_take', List.take_of_length_le (by omega)]
          simp only [ByteArray.data_append, Array.toList_append, e1, e2, List.append_assoc]
        have HE2 := Num.hide hE2
        clear hE2 HH
        go_wp2_with fail
        first | go_region_with (go_at_call 17; refine (Num.unhide HX _).mono ?_; rintro e w1 ⟨rfl, hb1⟩) | fail
        all_goals
          have HB1 := Num.hide (HB.out.drew.trans (hb1.mono hsz))
          clear hb1
          go_wp2
          go_roundw
          case rel => exact ⟨_, _, rfl, rfl, by rw [ByteArray.size_extract]; omega, HE2, HB1⟩
          case measure => simp only [ByteArray.size_extract]; omega
      · have ht0 : t = ⟨#[]⟩ := by apply ByteArray.ext; exact Array.eq_empty_of_size_eq_zero (show t.size = 0 by omega)
        subst ht0
        have he := HE.out
        rw [show (⟨#[]⟩ : ByteArray).data.toList = [] from rfl, chunkL_nil, List.append_nil] at he
        have hr := HR.out
        rw [show (Z : Int).toNat = Z from rfl, ← he] at hr
        have hr2 : out ++ ⟨#[48, 13, 10, 13, 10]⟩ = r := by rw [← hr]; apply ByteArray.ext; simp
        subst hr2
        clear he hr HR HE
        go_wp2
        go_ret
        exact ⟨rfl, HB.out⟩
end Body
end Go.Proofs.YtpkkkfmdgpghjaaDoor
