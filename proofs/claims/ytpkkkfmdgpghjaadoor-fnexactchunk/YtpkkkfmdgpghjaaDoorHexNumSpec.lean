/-
  HexNum of the specification: a number in sixteen digits; what was there stays.
-/
import Derived.Test.YtpkkkfmdgpghjaaDoorBodyNum
import Derived.Test.YtpkkkfmdgpghjaaDoorMem
import Derived.Below
namespace Go.Proofs.YtpkkkfmdgpghjaaDoor
open Go.RowKit
set_option linter.unusedVariables false
namespace Body

theorem cons_text (c : UInt8) (out : List UInt8) : (⟨#[c]⟩ : ByteArray) ++ ⟨out.toArray⟩ = ⟨(c :: out).toArray⟩ := by
  rw [ByteArray.mk_append_mk]; simp
theorem byte_hx (k : Nat) (h : k < 16) : Num.byte ((Hex.hx k).toNat : Int) = Hex.hx k := by
  have : ∀ k, k < 16 → Num.byte ((Hex.hx k).toNat : Int) = Hex.hx k := by decide
  exact this k h
theorem hx_bd (k : Nat) : ((Hex.hx k).toNat : Int) < 256 := by have := (Hex.hx k).toNat_lt; omega
set_option maxRecDepth 100000 in
set_option maxHeartbeats 2000000 in
theorem hexNum_spec (n : Int) (w : World) (hmax : n ≤ 9223372036854775807) :
    Calls Tryd.prog 17 #[.int .i64 n] w fun e w' => e = .returned (.string (hexNum n)) ∧ Below w.heap.size w w' := by
  by_cases h0 : n < 0
  · have e0 : hexNum n = ⟨#[]⟩ := by unfold hexNum hexL; rw [if_pos h0]
    rw [e0]
    clear e0
    go_enter Tryd.func17, Tryd.ntmps17
    go_wp2
    go_ret
    exact ⟨rfl, Below.refl _ _⟩
  · have d0 : decide (n < 0) = false := by rw [decide_eq_false_iff_not]; exact h0
    obtain ⟨r, hr⟩ : ∃ r, hexNum n = r := ⟨_, rfl⟩
    rw [hr]
    have HR := Num.hide hr
    clear hr
    go_enter Tryd.func17, Tryd.ntmps17
    go_wp2
    go_loopw [0, 3] (fun q o wr => ∃ (x : Int) (out : List UInt8), 0 ≤ x ∧ x ≤ n ∧ Hid ((out = [] ∧ x = n) ∨ (out ≠ [] ∧ r = ⟨(dh x.toNat ++ out).toArray⟩)) ∧ out.length ≤ 16 ∧ q = .int .i64 x ∧ o = .string ⟨out.toArray⟩ ∧ Hid (Below w.heap.size w wr)) (fun q o _ => 2 * (intOf q).toNat + (match o with | .string t => if t.size = 0 then 1 else 0 | _ => 0))
    case atStart => exact ⟨n, [], by omega, by omega, .inl ⟨rfl, rfl⟩, by decide, rfl, rfl, Below.refl _ _⟩
    case round =>
      obtain ⟨x, out, hx0, hxn, HI, hol, rfl, rfl, HB⟩ := hrel
      have hsz := HB.out.size
      have hrs : r.size ≤ 16 := by rw [← HR.out]; exact hexNum_size n
      obtain ⟨k, hk⟩ : ∃ k : Nat, x % 16 = (k : Int) := ⟨(x % 16).toNat, by omega⟩
      have hk16 : k < 16 := by omega
      by_cases hx : 0 < x
      · have hst : r = ⟨(dh (x / 16).toNat ++ Hex.hx k :: out).toArray⟩ := by
          have hs := dh_step x.toNat (by omega) (by omega)
          rw [show x.toNat / 16 = (x / 16).toNat by omega, show x.toNat % 16 = k by omega] at hs
          rcases HI.out with ⟨ho, hxe⟩ | ⟨_, hr⟩
          · subst ho
            rw [← HR.out]
            unfold hexNum hexL
            rw [if_neg (by omega), if_neg (by omega), ← hxe, hs]
          · rw [hr, hs, List.append_assoc]; rfl
        have hlen : (Hex.hx k :: out).length ≤ 16 := by
          have h2 : r.size = (dh (x / 16).toNat ++ Hex.hx k :: out).length := by rw [hst]; simp [ByteArray.size]
          rw [List.length_append] at h2
          omega
        have HN : Hid ((Hex.hx k :: out = [] ∧ x / 16 = n) ∨ (Hex.hx k :: out ≠ [] ∧ r = ⟨(dh (x / 16).toNat ++ Hex.hx k :: out).toArray⟩)) := .inr ⟨by simp, hst⟩
        clear hst HI
        have hc := Mem.conv_one wr ((Hex.hx k).toNat : Int) (by omega) (hx_bd k)
        have hd := Hex.digit_at k hk16
        rw [byte_hx k hk16] at hc
        have hos : (⟨out.toArray⟩ : ByteArray).size = out.length := by simp [ByteArray.size]
        have HB1 := Num.hide (HB.out.alloc hsz (.cells #[.int .u8 ((Hex.hx k).toNat : Int)] 5))
        have HT := Num.hide (cons_text (Hex.hx k) out)
        go_wp2
        go_roundw
        case rel => exact ⟨x / 16, Hex.hx k :: out, by omega, by omega, HN, hlen, rfl, congrArg Value.string HT.out, HB1⟩
        case measure =>
          have h1 : ((⟨#[Hex.hx k]⟩ : ByteArray) ++ ⟨out.toArray⟩).size = out.length + 1 := by rw [HT.out]; simp [ByteArray.size]
          simp [intOf, h1]
          omega
      · obtain rfl : x = 0 := by omega
        have dx : decide ((0 : Int) < 0) = false := by decide
        by_cases ho : out = []
        · subst ho
          obtain rfl : k = 0 := by omega
          have hst : r = ⟨(dh ((0 : Int) / 16).toNat ++ [Hex.hx 0]).toArray⟩ := by
            rcases HI.out with ⟨_, hxe⟩ | ⟨h, _⟩
            · rw [← HR.out, ← hxe]; rfl
            · exact absurd rfl h
          have hc := Mem.conv_one wr ((Hex.hx 0).toNat : Int) (by omega) (hx_bd 0)
          have hd := Hex.digit_at 0 hk16
          rw [byte_hx 0 hk16] at hc
          have HB1 := Num.hide (HB.out.alloc hsz (.cells #[.int .u8 ((Hex.hx 0).toNat : Int)] 5))
          have HN : Hid (([Hex.hx 0] = [] ∧ (0 : Int) = n) ∨ ([Hex.hx 0] ≠ [] ∧ r = ⟨(dh (0 : Int).toNat ++ [Hex.hx 0]).toArray⟩)) := .inr ⟨by simp, hst⟩
          clear HI hst hk
          rw [show (⟨([] : List UInt8).toArray⟩ : ByteArray) = ⟨#[]⟩ from rfl]
          have HT := Num.hide (cons_text (Hex.hx 0) [])
          go_wp2
          go_roundw
          case rel => exact ⟨0, [Hex.hx 0], by omega, by omega, HN, by decide, rfl, congrArg Value.string HT.out, HB1⟩
          case measure => decide
        · have hst : r = ⟨out.toArray⟩ := by
            rcases HI.out with ⟨h, _⟩ | ⟨_, hr⟩
            · exact absurd h ho
            · rw [hr]; rfl
          have hne : (⟨out.toArray⟩ : ByteArray).toList.isEmpty = false := by
            rw [ByteArray.toList_eq]
            cases out with
            | nil => exact absurd rfl ho
            | cons c l => rfl
          clear HI HR hk
          obtain ⟨t, ht⟩ : ∃ t, (⟨out.toArray⟩ : ByteArray) = t := ⟨_, rfl⟩
          rw [ht] at hst hne ⊢
          subst hst
          clear ht
          go_wp2
          go_ret
          exact ⟨rfl, HB.out⟩
end Body
end Go.Proofs.YtpkkkfmdgpghjaaDoor
