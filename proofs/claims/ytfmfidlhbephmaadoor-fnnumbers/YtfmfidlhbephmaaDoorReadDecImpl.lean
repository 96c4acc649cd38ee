/-
  ReadDec of the program: what the call returns, for every text, where the library's variables lie as they are laid; old memory stays as it was.
-/
import Derived.Test.YtfmfidlhbephmaaDoorReadDecNum
import Derived.Test.YtfmfidlhbephmaaDoorDecImpl
import Derived.Laws.Strings
namespace Go.Proofs.YtfmfidlhbephmaaDoor
open Go.RowKit
set_option linter.unusedVariables false
namespace ReadDec

theorem below_bytes (w : World) (e : TypeId) (t : ByteArray) : Below w.heap.size w (Lib.bytesWorld w e t) :=
  ⟨rfl, rfl, rfl, by rw [Lib.bytesWorld_size]; omega, fun j hj => Lib.bytesWorld_at_old w e t j hj⟩
set_option maxRecDepth 100000 in
set_option maxHeartbeats 1000000 in
theorem impl_any (s : ByteArray) (w : World) (g : Nat) (hs : s.size ≤ maxLen) (tp : TypeId) (p : Value) (hvar : w.var? Tryd.prog "strconv.ErrSyntax" = some #[.iface tp p])
    (hg : Tryd.prog.globalNamed "internal/strconv.uint64pow10" = some g) (hgs : g < w.heap.size) (htab : Lib.TabIs Tryd.prog w "internal/strconv.uint64pow10" .u64 Lib.pow10Tab) :
    Calls Tryd.prog 13 #[.string s] w fun e w' => ∃ a t, e = .returned (.tuple #[.int .i64 a, .bool t]) ∧ Good s a t ∧ Below w.heap.size w w' := by
  unfold maxLen at hs
  have hlen : s.data.toList.length = s.size := by rw [Array.length_toList]; rfl
  by_cases hl : 10 < s.size
  · have hgood := Num.hide (show Good s 0 false from .inr ⟨rfl, rfl, fun m h0 h1 he => by
      have := length_itoa m h0 h1
      rw [he, hlen] at this
      omega⟩)
    clear htab hvar hlen hg
    go_enter Tryd.func13, Tryd.ntmps13
    go_wp2
    go_ret2
    exact ⟨0, false, rfl, Num.unhide hgood, Below.refl _ _⟩
  · cases ha : Lib.atoi s.data.toList with
    | none =>
      have hgood := Num.hide (show Good s 0 false from .inr ⟨rfl, rfl, fun m h0 h1 he => by
        have := atoi_itoa m
        rw [he, ha] at this
        cases this⟩)
      have hA := Num.hide (Shelf.strconv_Atoi_err_var s (by omega) ha tp p w hvar)
      clear htab hvar hlen ha hg
      go_enter Tryd.func13, Tryd.ntmps13
      go_wp2_with fail
      refine (Num.unhide hA).mono ?_
      rintro e w1 ⟨N, rfl, hN, _, hb⟩
      go_wp2
      go_ret2
      exact ⟨0, false, rfl, Num.unhide hgood, hb⟩
    | some n =>
      have hbd := Lib.atoi_bound ha (by rw [hlen]; omega)
      have hA := Num.hide (Shelf.strconv_Atoi s n (by omega) ha w)
      by_cases hr : -999999999 ≤ n ∧ n ≤ 999999999
      · obtain ⟨hr0, hr1⟩ := hr
        have HT := Num.hide htab
        have HG := Num.hide hg
        have HA := Num.hide ha
        clear htab hvar ha hg
        go_enter Tryd.func13, Tryd.ntmps13
        go_wp2_with fail
        refine (Num.unhide hA).mono ?_
        rintro e w1 ⟨rfl, t, hw1⟩
        have hb1 : Below w.heap.size w w1 := by rw [hw1]; exact below_bytes w _ t
        have HI := Num.hide (Dec.impl_any n w1 (by omega) (by omega) (var?_below hb1 (Num.unhide HG) hgs (Num.unhide HT)))
        clear hw1
        go_wp2_with fail
        refine (Num.unhide HI).mono ?_
        rintro e w2 ⟨rfl, hb2⟩
        have hb3 := hb1.trans (hb2.mono hb1.size)
        by_cases he : Lib.itoa n = s.data.toList
        · have hgood := Num.hide (show Good s n true from .inl ⟨rfl, hr0, hr1, he⟩)
          have ht : (Lib.itoa n == s.toList) = true := by rw [beq_iff_eq, ByteArray.toList_eq]; exact he
          clear he
          go_wp2
          go_ret2
          exact ⟨n, true, rfl, Num.unhide hgood, hb3⟩
        · have hgood := Num.hide (show Good s 0 false from .inr ⟨rfl, rfl, fun m h0 h1 hm => by
            have h3 := atoi_itoa m
            rw [hm, Num.unhide HA] at h3
            have h4 := Option.some.inj h3
            subst h4
            exact he hm⟩)
          have ht : (Lib.itoa n == s.toList) = false := by rw [beq_eq_false_iff_ne, ByteArray.toList_eq]; exact he
          clear he
          go_wp2
          go_ret2
          exact ⟨0, false, rfl, Num.unhide hgood, hb3⟩
      · have hgood := Num.hide (show Good s 0 false from .inr ⟨rfl, rfl, fun m h0 h1 he => by
          have := atoi_itoa m
          rw [he, ha] at this
          have := Option.some.inj this
          omega⟩)
        clear htab hvar ha hlen hg
        by_cases hlo : n < -999999999
        · go_enter Tryd.func13, Tryd.ntmps13
          go_wp2_with fail
          refine (Num.unhide hA).mono ?_
          rintro e w1 ⟨rfl, t, hw1⟩
          have hb1 : Below w.heap.size w w1 := by rw [hw1]; exact below_bytes w _ t
          clear hw1
          go_wp2
          go_ret2
          exact ⟨0, false, rfl, Num.unhide hgood, hb1⟩
        · have hhi : 999999999 < n := by omega
          go_enter Tryd.func13, Tryd.ntmps13
          go_wp2_with fail
          refine (Num.unhide hA).mono ?_
          rintro e w1 ⟨rfl, t, hw1⟩
          have hb1 : Below w.heap.size w w1 := by rw [hw1]; exact below_bytes w _ t
          clear hw1
          go_wp2
          go_ret2
          exact ⟨0, false, rfl, Num.unhide hgood, hb1⟩
end ReadDec
end Go.Proofs.YtfmfidlhbephmaaDoor
