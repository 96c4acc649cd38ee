/-
  markText of the laws: a text of its number alone; what was there stays.
-/
import Derived.Test.YtkogcbnbmdeolaaDoorMem
namespace Go.Proofs.YtkogcbnbmdeolaaDoor
open Go.RowKit
set_option linter.unusedVariables false
namespace Mark

/-- the digits of n ahead of what is there (at most so many) -/
def dg : Nat → Nat → List UInt8 → List UInt8
  | 0, _, acc => acc
  | f + 1, n, acc => if n = 0 then acc else dg f (n / 10) (Num.byte ((48 : Int) + (n : Int) % 10) :: acc)
/-- the mark of a number -/
def text (k : Int) : ByteArray := if k ≤ 0 then ⟨#[109, 48]⟩ else ⟨(109 :: dg k.toNat k.toNat []).toArray⟩
theorem dg_zero (f : Nat) (acc : List UInt8) : dg f 0 acc = acc := by
  cases f with
  | zero => rfl
  | succ f => rw [dg, if_pos rfl]
theorem dg_fuel : ∀ (n f : Nat) (acc : List UInt8), n ≤ f → dg f n acc = dg n n acc := by
  intro n
  induction n using Nat.strongRecOn with
  | _ n ih =>
    intro f acc h
    cases n with
    | zero => rw [dg_zero, dg_zero]
    | succ m =>
      obtain ⟨g, rfl⟩ : ∃ g, f = g + 1 := ⟨f - 1, by omega⟩
      rw [dg, dg, if_neg (by omega), if_neg (by omega), ih _ (by omega) g _ (by omega), ih _ (by omega) m _ (by omega)]
theorem dg_step (n : Nat) (acc : List UInt8) (h : 0 < n) : dg n n acc = dg (n / 10) (n / 10) (Num.byte ((48 : Int) + (n : Int) % 10) :: acc) := by
  obtain ⟨m, rfl⟩ : ∃ m, n = m + 1 := ⟨n - 1, by omega⟩
  rw [dg, if_neg (by omega), dg_fuel _ m _ (by omega)]
theorem cons_text (b : UInt8) (acc : List UInt8) : (⟨[b].toArray⟩ : ByteArray) ++ ⟨acc.toArray⟩ = ⟨(b :: acc).toArray⟩ := by
  rw [ByteArray.mk_append_mk]; simp
theorem size_text (acc : List UInt8) : (⟨acc.toArray⟩ : ByteArray).size = acc.length := by
  show acc.toArray.size = _
  rw [List.size_toArray]

set_option maxRecDepth 100000 in
set_option maxHeartbeats 1000000 in
theorem markText_any (k : Int) (w : World) (hk : k ≤ 1152921504606846976) : Calls Tryd.prog 67 #[.int .i64 k] w fun e w' => e = .returned (.string (text k)) ∧ Below w.heap.size w w' := by
  obtain ⟨T, hT⟩ : ∃ T, text k = T := ⟨_, rfl⟩
  rw [hT]
  unfold text at hT
  by_cases h0 : k ≤ 0
  · rw [if_pos h0] at hT
    subst hT
    go_enter Tryd.func67, Tryd.ntmps67
    go_wp2
    go_ret
    exact ⟨rfl, Below.refl _ _⟩
  · rw [if_neg h0] at hT
    obtain ⟨K, rfl⟩ := Int.eq_ofNat_of_zero_le (show 0 ≤ k by omega)
    rw [Int.toNat_natCast] at hT
    have HT := Num.hide hT
    clear hT
    go_enter Tryd.func67, Tryd.ntmps67
    go_wp2
    go_loopw [0, 3] (fun kv ov wr => ∃ (n : Nat) (acc : List UInt8), kv = .int .i64 (n : Int) ∧ ov = .string ⟨acc.toArray⟩ ∧ Hid (dg K K [] = dg n n acc) ∧ n + acc.length ≤ K ∧ Hid (Below w.heap.size w wr)) (fun kv _ _ => (intOf kv).toNat)
    case atStart => exact ⟨K, [], rfl, rfl, rfl, by simp, Below.refl _ _⟩
    case round =>
      obtain ⟨n, acc, rfl, rfl, HD, hn, HB⟩ := hrel
      by_cases hpos : 0 < n
      · have hconv := Mem.conv_one wr ((48 : Int) + (n : Int) % 10) (by omega) (by omega)
        have HD2 : Hid (dg K K [] = dg (n / 10) (n / 10) (Num.byte ((48 : Int) + (n : Int) % 10) :: acc)) := by rw [HD.out]; exact dg_step n acc hpos
        have hcons := cons_text (Num.byte ((48 : Int) + (n : Int) % 10)) acc
        generalize Num.byte ((48 : Int) + (n : Int) % 10) = b at hconv HD2 hcons
        have hs := size_text acc
        go_wp2
        go_roundw
        case rel => exact ⟨n / 10, b :: acc, by go_num, rfl, HD2, by simp only [List.length_cons]; omega, HB.out.alloc HB.out.size _⟩
        case measure => simp [intOf]; omega
      · obtain rfl : n = 0 := by omega
        have hd := HD.out
        rw [dg_zero] at hd
        have hT := HT.out
        rw [hd] at hT
        have hcons : (⟨#[109]⟩ : ByteArray) ++ ⟨acc.toArray⟩ = T := by rw [← hT]; exact cons_text 109 acc
        clear hT hd
        go_wp2
        go_ret
        exact ⟨rfl, HB.out⟩
end Mark
end Go.Proofs.YtkogcbnbmdeolaaDoor
