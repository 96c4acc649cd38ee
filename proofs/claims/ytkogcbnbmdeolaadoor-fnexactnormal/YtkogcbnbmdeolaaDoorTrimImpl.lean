/-
  Trim of the program: what the call returns, for every text; what was there stays.
-/
import Derived.Test.YtkogcbnbmdeolaaDoorShelfTrim
import Derived.Test.YtkogcbnbmdeolaaDoorShelfClone
import Derived.Test.YtkogcbnbmdeolaaDoorTrimSpec
import Derived.Shelf.Strings.SlTrimAscii
namespace Go.Proofs.YtkogcbnbmdeolaaDoor
open Go.Shelf Go.RowKit
set_option linter.unusedVariables false
namespace Sign

theorem right_cons (p : UInt8 → Bool) (c : UInt8) (l : List UInt8) : ((c :: l).reverse.dropWhile p).reverse = if (l.reverse.dropWhile p).isEmpty then (if p c then [] else [c]) else c :: (l.reverse.dropWhile p).reverse := by
  rw [List.reverse_cons, List.dropWhile_append]
  by_cases h : (l.reverse.dropWhile p).isEmpty = true
  · rw [if_pos h, if_pos h]
    by_cases hc : p c = true
    · rw [if_pos hc, List.dropWhile_cons_of_pos hc]; rfl
    · rw [if_neg hc, List.dropWhile_cons_of_neg hc]; rfl
  · rw [if_neg h, if_neg h, List.reverse_append]; rfl
theorem left_right (p : UInt8 → Bool) (l : List UInt8) : ((l.reverse.dropWhile p).reverse).dropWhile p = ((l.dropWhile p).reverse.dropWhile p).reverse := by
  induction l with
  | nil => rfl
  | cons c l ih =>
    rw [right_cons]
    by_cases hc : p c = true
    · rw [List.dropWhile_cons_of_pos hc, ← ih, if_pos hc]
      by_cases h : (l.reverse.dropWhile p).isEmpty = true
      · rw [if_pos h, List.isEmpty_iff.1 h]; rfl
      · rw [if_neg h, List.dropWhile_cons_of_pos hc]
    · rw [List.dropWhile_cons_of_neg hc, right_cons, if_neg hc]
      by_cases h : (l.reverse.dropWhile p).isEmpty = true
      · rw [if_pos h, List.dropWhile_cons_of_neg hc]
      · rw [if_neg h, List.dropWhile_cons_of_neg hc]
theorem bl_contains (b : UInt8) : ([32, 9] : List UInt8).contains b = bl b := by
  unfold bl
  have e : (([32, 9] : List UInt8).contains b = true) ↔ blank (b.toNat : Int) := by
    rw [List.contains_iff_mem, List.mem_cons, List.mem_singleton, ← UInt8.toNat_inj, ← UInt8.toNat_inj]
    unfold blank; simp; omega
  rw [Bool.eq_iff_iff, decide_eq_true_iff]; exact e
theorem trimS_eq (s : ByteArray) : (⟨(Lib.trimS s.data.toList [32, 9]).toArray⟩ : ByteArray) = trim s := by
  unfold trim Lib.trimS Lib.trimLeftS Lib.trimRightS
  have e : (fun b => ([32, 9] : List UInt8).contains b) = bl := funext bl_contains
  rw [e, left_right]
theorem size_trim (s : ByteArray) : (trim s).size ≤ s.size := by
  show ((s.data.toList.dropWhile bl).reverse.dropWhile bl).reverse.toArray.size ≤ s.size
  rw [List.size_toArray, List.length_reverse]
  have h1 := (List.dropWhile_sublist bl (l := (s.data.toList.dropWhile bl).reverse)).length_le
  have h2 := (List.dropWhile_sublist bl (l := s.data.toList)).length_le
  rw [List.length_reverse] at h1
  have e : s.data.toList.length = s.size := by rw [Array.length_toList]; rfl
  omega
theorem strings_trim (s : ByteArray) (w : World) (hs : s.size ≤ maxLen) :
    Calls Tryd.prog 48 #[.string s, .string ⟨#[32, 9]⟩] w fun e w' => e = .returned (.string (trim s)) ∧ Below w.heap.size w w' := by
  have h := Any.strings_Trim_laid Shelf.lays160 (by kernel_rfl) s ⟨#[32, 9]⟩ w (by unfold maxLen at hs; omega) (by decide) (ascii_of_all (by decide))
  rw [← trimS_eq]
  exact h
set_option maxHeartbeats 1000000 in
theorem trim_impl (s : ByteArray) (w : World) (hs : s.size ≤ 281474976710656) :
    Calls Tryd.prog 11 #[.string s] w fun e w' => e = .returned (.string (trim s)) ∧ Below w.heap.size w w' := by
  have HS := Num.hide (fun W => strings_trim s W (by unfold maxLen; omega))
  have hz := size_trim s
  generalize trim s = t at HS hz ⊢
  go_enter Tryd.func11, Tryd.ntmps11
  go_wp2_with fail
  refine (HS.out _).mono ?_
  rintro e w1 ⟨rfl, hb1⟩
  go_wp2_with fail
  refine (Shelf.clone t _ (by omega)).mono ?_
  rintro e w2 ⟨rfl, hb2⟩
  go_wp2
  go_ret
  exact ⟨rfl, hb1.trans (hb2.mono hb1.size)⟩
end Sign
end Go.Proofs.YtkogcbnbmdeolaaDoor
