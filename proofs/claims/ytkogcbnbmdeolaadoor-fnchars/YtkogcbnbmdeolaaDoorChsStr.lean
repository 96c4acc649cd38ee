/-
  putChosen of the program from fields to texts: what a choice makes of those of a list that it takes, behind each other in a row of the call's own.
-/
import Derived.Test.YtkogcbnbmdeolaaDoorChsFar
import Derived.Test.YtkogcbnbmdeolaaDoorStrs
namespace Go.Proofs.YtkogcbnbmdeolaaDoor
open Go.RowKit
set_option linter.unusedVariables false
namespace Flds

theorem strs_far {B n : Nat} {W W' : World} {v : Value} {l : List ByteArray} (h : Strs.OwnS n W v l) (hf : Far B n W W') : Strs.OwnS n W' v l := by
  have hlt := Strs.own_lt h
  refine ⟨h.1, ?_⟩
  rcases h.2 with h1 | ⟨g, cap, cur, h1, hB, hg, rest⟩
  · exact .inl h1
  · subst h1
    exact .inr ⟨g, cap, cur, rfl, hB, by rw [hf.rows g hB (hlt g rfl).2]; exact hg, rest⟩
/-- what a choice does at each element: what it makes of it, and whether it takes it -/
def ChoiceS (g : Nat) (cap : Array Value) (B n : Nat) (w : World) (l : List Fld) (A : Nat → List ByteArray) (Q : Nat → World → Prop) : Prop :=
  ∀ k (hk : k < l.length) (W : World), Below B w W → n ≤ W.heap.size → Q k W →
    Calls Tryd.prog g (#[.agg #[.string l[k].1, .string l[k].2]] ++ cap) W fun e W' => ∃ (m : ByteArray) (t : Bool), e = .returned (.tuple #[.string m, .bool t]) ∧ A (k + 1) = A k ++ (if t = true then [m] else []) ∧ Q (k + 1) W' ∧ Far B n W W'
set_option maxRecDepth 100000 in
set_option maxHeartbeats 1000000 in
theorem chosenS_any (g : Nat) (cap : Array Value) (B : Nat) (w0 w : World) (v : Value) (l : List Fld) (A : Nat → List ByteArray) (Q : Nat → World → Prop)
    (h : Is w0 v l) (hB : B = w0.heap.size) (hb : Below B w0 w) (hBn : B ≤ w.heap.size) (hA0 : A 0 = []) (hA : ∀ k, k ≤ l.length → (A k).length ≤ 1073741824) (hl : l.length ≤ 1073741824)
    (hQ0 : Q 0 w) (hQ : ∀ k W W', Q k W → Below w.heap.size W W' → Q k W') (HC : ChoiceS g cap B w.heap.size w0 l A Q) (hent : ∀ args W, (callFunc g args).run Tryd.prog W = .ok (.enter g args) W) :
    Calls Tryd.prog 88 #[v, .func (.func g) #[] cap] w fun e w' => ∃ v', e = .returned v' ∧ Strs.OwnS w.heap.size w' v' (A l.length) ∧ Below B w0 w' ∧ Q l.length w' := by
  obtain ⟨a, c, rfl, h2⟩ := is_form h
  have HA := Num.hide h2
  clear h h2
  have HCh := Num.hide HC
  have HQ := Num.hide hQ
  have HAl := Num.hide hA
  have HQ0 := Num.hide hQ0
  have HB0 := Num.hide hb
  have HA0 : Hid (Strs.OwnS w.heap.size w (.slice none 0 0) (A 0)) := by rw [hA0]; exact Strs.own_nil _ _
  clear HC hQ hA hQ0 hb hA0
  obtain ⟨i0, hi0, hz0, hz1, hz2⟩ := info_parts Strs.infoS
  go_enter Tryd.func88, Tryd.ntmps88
  go_wp2
  go_loopw [5, 12] (fun ov iv wr => ∃ i : Nat, i ≤ l.length ∧ iv = .int .i64 (i : Int) ∧ Hid (Strs.OwnS w.heap.size wr ov (A i)) ∧ Hid (Below B w0 wr) ∧ Hid (Q i wr) ∧ w.heap.size ≤ wr.heap.size) (fun _ iv _ => l.length - (intOf iv).toNat)
  case atStart => exact ⟨0, by omega, rfl, HA0, HB0, HQ0, Nat.le_refl _⟩
  case round =>
    clear HA0 HB0 HQ0
    obtain ⟨i, hi, rfl, HO, HB, HQi, hsz⟩ := hrel
    by_cases hlt : i < l.length
    · obtain ⟨bk, o, rfl, hc, hmx, hblt, hcell⟩ := Num.unhide HA (by omega)
      obtain ⟨g1, g2⟩ := hcell i hlt
      have c1 : wr.cell? ⟨bk, o + i * 2, none⟩ = some (.string l[i].1) := by rw [HB.out.cell (p := ⟨bk, o + i * 2, none⟩) (by show bk < B; omega)]; exact g1
      have c2 : wr.cell? ⟨bk, o + i * 2 + 1, none⟩ = some (.string l[i].2) := by rw [HB.out.cell (p := ⟨bk, o + i * 2 + 1, none⟩) (by show bk < B; omega)]; exact g2
      have HCi := Num.hide (HCh.out i hlt)
      have hdl := HAl.out i (by omega)
      clear hcell g1 g2
      generalize l[i] = f at c1 c2 HCi
      obtain ⟨x, y⟩ := f
      simp only at c1 c2
      have hsz1 : w.heap.size ≤ (wr.alloc (.cells #[.string x, .string y] 40)).heap.size := by simp; omega
      have HB1 := Num.hide (HB.out.alloc (by omega) (.cells #[.string x, .string y] 40))
      have HQ1 := Num.hide (HQ.out i _ _ HQi.out ((Below.refl w.heap.size wr).alloc hsz (.cells #[.string x, .string y] 40)))
      have HO1 := Num.hide (World.ownsRow.alloc HO.out (.cells #[.string x, .string y] 40))
      go_wp2_with fail
      refine (HCi.out _ HB1.out hsz1 HQ1.out).mono ?_
      rintro e w1 ⟨m, t, rfl, hAk, hQk, hF⟩
      have HO2 := Num.hide (strs_far HO1.out hF)
      have HB2 := Num.hide (HB1.out.trans hF.below)
      have HQ2 := Num.hide hQk
      have HAk := Num.hide hAk
      have hsz2 := Nat.le_trans hsz1 hF.below.size
      clear hF hQk hAk HO HB HQi HB1 HQ1 HO1 hsz1 c1 c2
      cases t with
      | false =>
        have HO4 : Hid (Strs.OwnS w.heap.size w1 u5 (A (i + 1))) := by
          rw [HAk.out, if_neg (by simp), List.append_nil]; exact HO2
        clear HO2
        go_wp2
        go_roundw
        case rel => exact ⟨i + 1, by omega, by go_num, HO4, HB2, HQ2, hsz2⟩
        case measure => simp [intOf]; omega
      | true =>
        have HAk2 : Hid (A (i + 1) = A i ++ [m]) := by show _ = _; rw [HAk.out, if_pos rfl]
        clear HAk
        go_wp2_with (at_builtin; refine wpList_append_own _ rfl _ _ 26 rfl w.heap.size 9 i0 (.string ⟨#[]⟩) 1 16 Tryd.underlying26 hi0 hz0 hz1 hz2 rfl (by decide) _ _ _ rfl (World.ownsRow.alloc HO2.out _) ⟨w1.heap.size, 0, none⟩ 1 1 [.string m] rfl rfl (Strs.cells_one w1 m) (Strs.one_ok m) (by unfold maxLen; omega) (by omega) ?c5 ?_)
        case c5 => simp; omega
        intro v' w2 ho2 hg2 _
        have hp2 := Strs.below_grown ((Below.refl w.heap.size w1).alloc hsz2 (.cells #[.string m] 9)) hg2 (fun j hj => (Strs.own_lt HO2.out j hj).1) (by simp; omega)
        have HP1 : Hid (Strs.OwnS w.heap.size w2 v' (A (i + 1))) := by rw [HAk2.out]; exact Strs.own_snoc ho2
        have HP2 := Num.hide (HB2.out.trans (hp2.mono (by omega)))
        have HP3 := Num.hide (HQ.out (i + 1) _ _ HQ2.out hp2)
        have hsz4 := Nat.le_trans hsz2 hp2.size
        clear ho2 hg2 hp2
        go_wp2
        go_roundw
        case rel => exact ⟨i + 1, by omega, by go_num, HP1, HP2, HP3, hsz4⟩
        case measure => simp [intOf]; omega
    · obtain rfl : i = l.length := by omega
      go_wp2
      go_ret
      exact ⟨_, rfl, HO.out, HB.out, HQi.out⟩
end Flds
end Go.Proofs.YtkogcbnbmdeolaaDoor
