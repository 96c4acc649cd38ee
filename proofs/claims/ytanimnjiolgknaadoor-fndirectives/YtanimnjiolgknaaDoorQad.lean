/-
  CcCut: Cut at the first '=': what the library's call tells of a part.
  UnqNum: A value without quotes around it, by cases.
  UnqImpl: withoutQuotes of the program: a value without quotes around it; the world stays.
-/
import Derived.Test.YtanimnjiolgknaaDoorQab
import Derived.Test.YtanimnjiolgknaaDoorQac
import Derived.Test.YtanimnjiolgknaaDoorRows
import Derived.Laws.Strings
import Derived.WalkKit
namespace Go.Proofs.YtanimnjiolgknaaDoor
open Go.RowKit
set_option linter.unusedVariables false
namespace Cc
open Line (byteAt byteAt_eq byteAt_list drop_end)

/-- the library's variable holds some number -/
def Lim (w : World) : Prop := ∃ m, w.cell? ⟨1, 0, none⟩ = some (.int .i64 m)
theorem lim_lt {w : World} (h : Lim w) : 1 < w.heap.size := by obtain ⟨m, hm⟩ := h; exact Recs.lt_of_cell hm
theorem lim_of {w : World} (h : w.ShapedOpen Tryd.prog) : Lim w := Shelf.laysM145.s1_3 w h
theorem lim_below {w w' : World} {B : Nat} (h : Lim w) (hb : Below B w w') (hB : 1 < B) : Lim w' := by
  obtain ⟨m, hm⟩ := h
  exact ⟨m, (hb.cell (p := ⟨1, 0, none⟩) hB).trans hm⟩
def eqI (r : Option Nat) (i : Nat) : Int := match r with | some k => (k : Int) - (i : Int) | none => -1
theorem index_eqGo (s : ByteArray) : ∀ (n i : Nat), n = s.size - i → Lib.index (s.data.toList.drop i) [61] = eqI (eqGo s n i) i := by
  intro n
  induction n with
  | zero => intro i h; rw [drop_end s i (by omega)]; rfl
  | succ n ih =>
    intro i h
    obtain ⟨b, e, hb⟩ := byteAt_list s i (by omega)
    have ih2 := ih (i + 1) (by omega)
    rw [e]
    unfold Lib.index eqGo
    rw [ih2]
    by_cases hc : byteAt s i = 61
    · rw [if_pos hc, if_pos]
      · show (0 : Int) = (i : Int) - (i : Int); omega
      · have h61 : b = 61 := by rw [← UInt8.toNat_inj, ← hb]; exact hc
        rw [h61]; rfl
    · rw [if_neg hc, if_neg]
      · cases hg : eqGo s n (i + 1) with
        | none => rfl
        | some k =>
          have := eqGo_in s _ _ _ hg
          show (if ((k : Int) - ((i + 1 : Nat) : Int) == -1) = true then (-1 : Int) else (k : Int) - ((i + 1 : Nat) : Int) + 1) = (k : Int) - (i : Int)
          rw [if_neg (by rw [beq_iff_eq]; omega)]; omega
      · intro hp
        apply hc
        simp only [List.isPrefixOf, Bool.and_eq_true, beq_iff_eq, and_true] at hp
        rw [hb, ← hp]; rfl
theorem index_eq (s : ByteArray) : Lib.indexB s ⟨#[61]⟩ = eqI (eqAt s) 0 := by
  show Lib.index s.data.toList [61] = _
  have := index_eqGo s s.size 0 rfl
  rw [List.drop_zero] at this
  exact this
theorem cut_eq (s : ByteArray) (w : World) (hs : s.size ≤ 1048576) (hm : Lim w) :
    Calls Tryd.prog 52 #[.string s, .string ⟨#[61]⟩] w fun e w' => ∃ b, e = .returned (.tuple #[.string (nameOf s), .string (behind s), .bool b]) ∧ ∃ n, w.drewN n = w' := by
  obtain ⟨m, hm⟩ := hm
  refine (Shelf.strings_Cut s ⟨#[61]⟩ m w (by omega) hm).mono ?_
  rintro e w' ⟨rfl, n, rfl⟩
  cases he : eqAt s with
  | none =>
    obtain ⟨e1, e2, e3⟩ := Lib.cutB_miss s ⟨#[61]⟩ (by rw [index_eq, he]; rfl)
    obtain ⟨n1, n2⟩ := name_none he
    exact ⟨_, by rw [e1, e2, e3, n1, n2]; rfl, n, rfl⟩
  | some k =>
    obtain ⟨e1, e2, e3⟩ := Lib.cutB_hit s ⟨#[61]⟩ k (by rw [index_eq, he]; show (k : Int) - ((0 : Nat) : Int) = (k : Int); omega)
    obtain ⟨n1, n2⟩ := name_some he
    exact ⟨_, by rw [e1, e2, e3, n1, n2]; rfl, n, rfl⟩
end Cc
end Go.Proofs.YtanimnjiolgknaaDoor
namespace Go.Proofs.YtanimnjiolgknaaDoor
open Go.RowKit
set_option linter.unusedVariables false
namespace Cc
open Line (byteAt byteAt_eq)

theorem unq_short {s : ByteArray} (h : s.size < 2) : unq s = s := by unfold unq; rw [if_neg (by omega)]
theorem unq_front {s : ByteArray} (h0 : 0 < s.size) (h : (s[0]).toNat ≠ 34) : unq s = s := by
  unfold unq; rw [if_neg]; rintro ⟨_, h2, _⟩; rw [byteAt_eq s 0 h0] at h2; exact h h2
theorem unq_back {s : ByteArray} {n : Nat} (hn : s.size = n + 1) (h : (s[n]'(by omega)).toNat ≠ 34) : unq s = s := by
  unfold unq; rw [if_neg]; rintro ⟨_, _, h2⟩; rw [show s.size - 1 = n by omega, byteAt_eq s n (by omega)] at h2; exact h h2
theorem unq_both {s : ByteArray} {n : Nat} (hn : s.size = n + 1) (h2 : 2 ≤ s.size) (h0 : (s[0]'(by omega)).toNat = 34) (h1 : (s[n]'(by omega)).toNat = 34) : unq s = s.extract 1 n := by
  unfold unq; rw [show s.size - 1 = n by omega, if_pos ⟨h2, by rw [byteAt_eq s 0 (by omega)]; exact h0, by rw [byteAt_eq s n (by omega)]; exact h1⟩]

end Cc
end Go.Proofs.YtanimnjiolgknaaDoor
namespace Go.Proofs.YtanimnjiolgknaaDoor
open Go.RowKit
set_option linter.unusedVariables false
namespace Cc
open Line (byteAt byteAt_eq)

set_option maxRecDepth 100000 in
set_option maxHeartbeats 1000000 in
theorem unq_impl (s : ByteArray) (w : World) (hs : s.size ≤ maxLen) : Calls Tryd.prog 53 #[.string s] w fun e w' => e = .returned (.string (unq s)) ∧ w = w' := by
  unfold maxLen at hs
  obtain ⟨r, hr⟩ : ∃ r, unq s = r := ⟨_, rfl⟩
  rw [hr]
  by_cases h2 : 2 ≤ s.size
  · obtain ⟨n, hn⟩ : ∃ n, s.size = n + 1 := ⟨s.size - 1, by omega⟩
    have h0 : 0 < s.size := by omega
    have hnl : n < s.size := by omega
    have i0 : ((n : Int) + 1 - 1) = n := by omega
    have hn1 : (1 : Int) ≤ (n : Int) := by omega
    have hn2 : (n : Int) ≤ (n : Int) + 1 := by omega
    by_cases ha : (s[0]).toNat = 34
    · have da : (((s[0]).toNat : Int) != 34) = false := by rw [bne_eq_false_iff_eq]; omega
      by_cases hb : (s[n]).toNat = 34
      · have db : (((s[n]).toNat : Int) != 34) = false := by rw [bne_eq_false_iff_eq]; omega
        rw [unq_both hn h2 ha hb] at hr
        have HR := Num.hide hr
        have d2 : decide ((n : Int) + 1 < 2) = false := by simp; omega
        clear hr ha hb
        go_enter Tryd.func53, Tryd.ntmps53
        go_wp2
        all_goals go_ret
        all_goals exact ⟨by rw [← HR.out]; rfl, rfl⟩
      · have db : (((s[n]).toNat : Int) != 34) = true := by rw [bne_iff_ne]; omega
        rw [unq_back hn hb] at hr
        subst hr
        have d2 : decide ((n : Int) + 1 < 2) = false := by simp; omega
        clear ha hb
        go_enter Tryd.func53, Tryd.ntmps53
        go_wp2
        all_goals go_ret
        all_goals exact ⟨rfl, rfl⟩
    · have da : (((s[0]).toNat : Int) != 34) = true := by rw [bne_iff_ne]; omega
      rw [unq_front h0 ha] at hr
      subst hr
      have d2 : decide ((n : Int) + 1 < 2) = false := by simp; omega
      clear ha
      go_enter Tryd.func53, Tryd.ntmps53
      go_wp2
      all_goals go_ret
      all_goals exact ⟨rfl, rfl⟩
  · rw [unq_short (by omega)] at hr
    subst hr
    have d2 : decide ((s.size : Int) < 2) = true := by simp; omega
    go_enter Tryd.func53, Tryd.ntmps53
    go_wp2
    all_goals go_ret
    all_goals exact ⟨rfl, rfl⟩
end Cc
end Go.Proofs.YtanimnjiolgknaaDoor
