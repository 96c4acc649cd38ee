/-
  ChsTF: putChosen of the program from texts: what a choice that may read memory makes of those of a list of texts that it takes, behind each other in a row of the call's own: fields.
  NormImpl: Normal of the program: the parts of a list, joined with a comma and a blank.
-/
import Derived.Test.YtkogcbnbmdeolaaDoorPaj
import Derived.Test.YtkogcbnbmdeolaaDoorPah
import Derived.Test.YtkogcbnbmdeolaaDoorPal
namespace Go.Proofs.YtkogcbnbmdeolaaDoor
open Go.RowKit
set_option linter.unusedVariables false
namespace Flds

/-- what a choice does at each text: the field that it makes of it, and whether it takes it -/
def ChoiceF (g : Nat) (cap : Array Value) (B n : Nat) (w : World) (l : List ByteArray) (A : Nat → List Fld) (Q : Nat → World → Prop) : Prop :=
  ∀ k (hk : k < l.length) (W : World), Below B w W → n ≤ W.heap.size → Q k W →
    Calls Tryd.prog g (#[.string l[k]] ++ cap) W fun e W' => ∃ (m1 m2 : ByteArray) (t : Bool), e = .returned (.tuple #[.agg #[.string m1, .string m2], .bool t]) ∧ A (k + 1) = A k ++ (if t = true then [(m1, m2)] else []) ∧ Q (k + 1) W' ∧ Far B n W W'
set_option maxRecDepth 100000 in
set_option maxHeartbeats 1000000 in
theorem chosenTF_any (g : Nat) (cap : Array Value) (B : Nat) (w : World) (v : Value) (l : List ByteArray) (A : Nat → List Fld) (Q : Nat → World → Prop)
    (hI : ∀ k W, Q k W → Strs.Is W v l) (hBn : B ≤ w.heap.size) (hA0 : A 0 = []) (hA : ∀ k, k ≤ l.length → (A k).length ≤ 1073741824) (hl : l.length ≤ 1073741824)
    (hQ0 : Q 0 w) (hQ : ∀ k W W', Q k W → Below w.heap.size W W' → Q k W') (HC : ChoiceF g cap B w.heap.size w l A Q) (hent : ∀ args W, (callFunc g args).run Tryd.prog W = .ok (.enter g args) W) :
    Calls Tryd.prog 59 #[v, .func (.func g) #[] cap] w fun e w' => ∃ v', e = .returned v' ∧ Own w.heap.size w' v' (A l.length) ∧ Below B w w' ∧ Q l.length w' := by
  obtain ⟨a, c, rfl⟩ := is_slice (hI 0 w hQ0)
  have HI := Num.hide hI
  have HCh := Num.hide HC
  have HQ := Num.hide hQ
  have HAl := Num.hide hA
  have HQ0 := Num.hide hQ0
  have HA0 : Hid (Own w.heap.size w (.slice none 0 0) (A 0)) := by rw [hA0]; exact Recs.own_nil _ _
  clear HC hQ hA hQ0 hI hA0
  obtain ⟨i0, hi0, hz0, hz1, hz2⟩ := info_parts infoF
  go_enter Tryd.func59, Tryd.ntmps59
  go_wp2
  go_loopw [5, 12] (fun ov iv wr => ∃ i : Nat, i ≤ l.length ∧ iv = .int .i64 (i : Int) ∧ Hid (Own w.heap.size wr ov (A i)) ∧ Hid (Below B w wr) ∧ Hid (Q i wr) ∧ w.heap.size ≤ wr.heap.size) (fun _ iv _ => l.length - (intOf iv).toNat)
  case atStart => exact ⟨0, by omega, rfl, HA0, Below.refl _ _, HQ0, Nat.le_refl _⟩
  case round =>
    clear HA0 HQ0
    obtain ⟨i, hi, rfl, HO, HB, HQi, hsz⟩ := hrel
    by_cases hlt : i < l.length
    · obtain ⟨bk, o, rfl, -, hc, hmx, c1⟩ := is_at (HI.out i wr HQi.out) i hlt
      have HCi := Num.hide (HCh.out i hlt)
      have hdl := HAl.out i (by omega)
      generalize l[i] = f at c1 HCi
      go_wp2_with fail
      refine (HCi.out _ HB.out hsz HQi.out).mono ?_
      rintro e w1 ⟨m1, m2, t, rfl, hAk, hQk, hF⟩
      have hsz2 := Nat.le_trans hsz hF.below.size
      have hb3 : Below w1.heap.size w1 (w1.alloc (.cells #[.string m1, .string m2] 40)) := (Below.refl _ _).alloc (Nat.le_refl _) _
      have hsz3 : w.heap.size ≤ (w1.alloc (.cells #[.string m1, .string m2] 40)).heap.size := Nat.le_trans hsz2 hb3.size
      have HO3 := Num.hide (Recs.own_below (own_far HO.out hF) hb3)
      have HB3 := Num.hide ((HB.out.trans hF.below).trans (hb3.mono (Nat.le_trans hBn hsz2)))
      have HQ3 := Num.hide (HQ.out (i + 1) _ _ hQk (hb3.mono hsz2))
      have HAk := Num.hide hAk
      clear hF hQk hAk HO HB HQi c1 hb3
      cases t with
      | false =>
        have HO4 : Hid (Own w.heap.size (w1.alloc (.cells #[.string m1, .string m2] 40)) u5 (A (i + 1))) := by
          rw [HAk.out, if_neg (by simp), List.append_nil]; exact HO3
        clear HO3
        go_wp2
        go_roundw
        case rel => exact ⟨i + 1, by omega, by go_num, HO4, HB3, HQ3, hsz3⟩
        case measure => simp [intOf]; omega
      | true =>
        have HAk2 : Hid (A (i + 1) = A i ++ [(m1, m2)]) := by show _ = _; rw [HAk.out, if_pos rfl]
        clear HAk
        go_wp2_with (at_builtin; refine wpList_append_own _ rfl _ _ 30 rfl w.heap.size 40 i0 _ 2 32 Tryd.underlying30 hi0 hz0 hz1 hz2 rfl (by decide) _ _ _ rfl (World.ownsRow.alloc HO3.out _) ⟨w1.heap.size + 1, 0, none⟩ 1 1 [.string m1, .string m2] rfl rfl (by simpa using cells_two (w1.alloc (.cells #[.string m1, .string m2] 40)) m1 m2) (two_ok m1 m2) (by unfold maxLen; omega) (by omega) ?c5 ?_)
        case c5 => first | omega | (simp; omega)
        intro v' w2 ho2 hg2 _
        obtain ⟨hp1, hp2⟩ := put_more hsz3 HO3.out (Below.refl w.heap.size _) ho2 hg2
        have HP1 : Hid (Own w.heap.size w2 v' (A (i + 1))) := by rw [HAk2.out]; exact hp1
        have HP2 := Num.hide (HB3.out.trans (hp2.mono hBn))
        have HP3 := Num.hide (HQ.out (i + 1) _ _ HQ3.out hp2)
        have hsz4 := Nat.le_trans hsz3 hp2.size
        clear ho2 hg2 hp1 hp2
        go_wp2
        go_roundw
        case rel => exact ⟨i + 1, by omega, by go_num, HP1, HP2, HP3, hsz4⟩
        case measure => simp [intOf]; omega
    · obtain rfl : i = l.length := by omega
      go_wp2
      go_ret
      exact ⟨_, rfl, HO.out, HB.out, HQi.out⟩
end Flds
end Go.Proofs.YtkogcbnbmdeolaaDoor
namespace Go.Proofs.YtkogcbnbmdeolaaDoor
open Go.RowKit
set_option linter.unusedVariables false
set_option linter.unusedSimpArgs false
namespace Norm
open Sign (split)

theorem joined_join (L : List ByteArray) : joined L = ⟨(Lib.join (L.map (·.data.toList)) [44, 32]).toArray⟩ := by
  refine Num.snoc_ind (P := fun L => joined L = ⟨(Lib.join (L.map (·.data.toList)) [44, 32]).toArray⟩) rfl ?_ L
  intro l t ih
  rw [joined_snoc, ih, List.map_append, List.map_cons, List.map_nil, Flds.join_snoc]
  by_cases h : l = []
  · subst h
    rw [if_pos rfl, if_pos List.map_nil]
  · rw [if_neg h, if_neg (by simpa using h)]
    apply ByteArray.ext
    simp [ByteArray.data_append]
set_option maxRecDepth 100000 in
set_option maxHeartbeats 1000000 in
theorem normal_impl (s : ByteArray) (w : World) (hs : s.size ≤ 1048576) : Calls Tryd.prog 16 #[.string s] w fun e w' => e = .returned (.string (normal s)) ∧ Below w.heap.size w w' := by
  have HS := Num.hide (Sign.split_impl s w hs)
  have hz := normal_size s
  have hlen := Cc.split_len s
  unfold normal at hz ⊢
  generalize split s = L at HS hz hlen ⊢
  have hj := joined_join L
  have hjl : (Lib.join (L.map (·.data.toList)) [44, 32]).length ≤ 140737488355328 := by
    rw [hj] at hz
    have e : (⟨(Lib.join (L.map (·.data.toList)) [44, 32]).toArray⟩ : ByteArray).size = (Lib.join (L.map (·.data.toList)) [44, 32]).length := by simp [ByteArray.size]
    rw [e] at hz
    omega
  have HJ := Num.hide (fun v B W ho => Flds.join_any v L ⟨#[44, 32]⟩ B W ho (by omega) hjl)
  rw [show (⟨#[44, 32]⟩ : ByteArray).data.toList = [44, 32] from rfl, ← hj] at HJ
  generalize joined L = r at HJ ⊢
  clear hj hjl hz
  go_enter Tryd.func16, Tryd.ntmps16
  go_wp2_with fail
  refine HS.out.mono ?_
  rintro e w1 ⟨v, rfl, ho, hb⟩
  have HO := Num.hide ho
  have HB := Num.hide hb
  clear ho hb HS
  go_wp2_with fail
  refine (HJ.out _ _ _ HO.out).mono ?_
  rintro e w2 ⟨rfl, hb⟩
  have HB2 := Num.hide (HB.out.trans (hb.mono HB.out.size))
  clear hb
  go_wp2
  go_ret
  exact ⟨rfl, HB2.out⟩
end Norm
end Go.Proofs.YtkogcbnbmdeolaaDoor
