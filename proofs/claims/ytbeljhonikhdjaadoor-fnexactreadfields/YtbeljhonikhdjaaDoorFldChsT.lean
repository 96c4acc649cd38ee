/-
  putChosen of the program from texts to fields, and readField: a field off each line that has a colon, behind each other in a row of the call's own.
-/
import Derived.Test.YtbeljhonikhdjaaDoorChsFld
import Derived.Test.YtbeljhonikhdjaaDoorFldLines
import Derived.Test.YtbeljhonikhdjaaDoorLowerImpl
import Derived.Test.YtbeljhonikhdjaaDoorTrimImpl
namespace Go.Proofs.YtbeljhonikhdjaaDoor
open Go.RowKit
set_option linter.unusedVariables false
namespace Flds

/-- what readField tells of a line -/
def lineF (t : ByteArray) : Fld := match Line.colon t with | some k => fieldOf t k | none => (Sign.lower t, Sign.trim ByteArray.empty)
theorem cut_colon (s : ByteArray) (w : World) (hs : s.size ≤ 1048576) (hm : Lim w) :
    Calls Tryd.prog 58 #[.string s, .string ⟨#[58]⟩] w fun e w' => ∃ x y, e = .returned (.tuple #[.string x, .string y, .bool (Line.colon s).isSome]) ∧ x.size ≤ 1048576 ∧ y.size ≤ 1048576 ∧ (Sign.lower x, Sign.trim y) = lineF s ∧ ∃ n, w.drewN n = w' := by
  obtain ⟨m, hm⟩ := hm
  refine (Shelf.strings_Cut s ⟨#[58]⟩ m w (by omega) hm).mono ?_
  rintro e w' ⟨rfl, n, rfl⟩
  unfold lineF
  cases he : Line.colon s with
  | none =>
    obtain ⟨e1, e2, e3⟩ := Line.cutc_none he
    exact ⟨_, _, by rw [e1, e2, e3]; rfl, hs, by decide, rfl, n, rfl⟩
  | some k =>
    obtain ⟨e1, e2, e3⟩ := Line.cutc_some he
    exact ⟨_, _, by rw [e1, e2, e3]; rfl, by rw [ByteArray.size_extract]; omega, by rw [ByteArray.size_extract]; omega, rfl, n, rfl⟩
set_option maxRecDepth 100000 in
set_option maxHeartbeats 2000000 in
theorem readF_any (s : ByteArray) (w : World) (hs : s.size ≤ 1048576) (hm : Lim w) :
    Calls Tryd.prog 42 #[.string s] w fun e w' => e = .returned (.tuple #[.agg #[.string (lineF s).1, .string (lineF s).2], .bool (Line.colon s).isSome]) ∧ Below w.heap.size w w' := by
  have c0 : (w.alloc (.cells #[.string ⟨#[]⟩, .string ⟨#[]⟩] 33)).heap[w.heap.size]? = some (.cells #[.string ⟨#[]⟩, .string ⟨#[]⟩] 33) := heap_alloc_new w _
  have HC := Num.hide c0
  have hb0 := (Below.refl w.heap.size w).alloc (Nat.le_refl _) (.cells #[.string ⟨#[]⟩, .string ⟨#[]⟩] 33)
  have HB0 := Num.hide hb0
  have hz0 : w.heap.size + 1 = (w.alloc (.cells #[.string ⟨#[]⟩, .string ⟨#[]⟩] 33)).heap.size := by simp
  have HM := Num.hide (cut_colon s _ hs (lim_below hm hb0 (lim_lt hm)))
  clear c0 hb0 hm
  generalize lineF s = f at HM
  generalize (Line.colon s).isSome = b at HM
  obtain ⟨f1, f2⟩ := f
  go_enter Tryd.func42, Tryd.ntmps42
  go_wp2_with fail
  refine HM.out.mono ?_
  rintro e w0 ⟨x, y, rfl, hx, hy, hf, n, rfl⟩
  simp only [Prod.mk.injEq] at hf
  obtain ⟨rfl, rfl⟩ := hf
  go_wp2_with fail
  refine (Sign.lower_impl x _ (by unfold maxLen; omega)).mono ?_
  rintro e w1 ⟨rfl, hb1⟩
  go_wp2_with fail
  refine (Sign.trim_impl y _ (by omega)).mono ?_
  rintro e w2 ⟨rfl, hb2⟩
  obtain ⟨k0, k1, g0, g1⟩ := two_cells (show w2.heap[w.heap.size]? = _ from by rw [hb2.block _ (by have := hb1.size; change (w.alloc _).heap.size ≤ _ at this; omega), hb1.block _ (by show _ < (w.alloc _).heap.size; omega)]; exact HC.out)
  have HB := Num.hide ((Strs.below_drewN HB0.out n).trans (((hb1.mono (by show _ ≤ (w.alloc _).heap.size; omega : w.heap.size ≤ _)).trans (hb2.mono (by have := hb1.size; change (w.alloc _).heap.size ≤ _ at this; omega)))))
  clear hb1 hb2 HB0 HC hz0 HM
  have r0 := Num.hide (box_first (x := Sign.lower x) (y := Sign.trim y) k0)
  have r1 := Num.hide (box_second (x := Sign.lower x) (y := Sign.trim y) k1)
  have HB1 := Num.hide ((HB.out.setCell (p := ⟨w.heap.size, 0, none⟩) (Nat.le_refl _) (.string (Sign.lower x))).setCell (p := ⟨w.heap.size, 1, none⟩) (Nat.le_refl _) (.string (Sign.trim y)))
  go_wp2
  generalize ((w2.setCell ⟨w.heap.size, 0, none⟩ (.string (Sign.lower x))).setCell ⟨w.heap.size, 1, none⟩ (.string (Sign.trim y))) = w3 at r0 r1 HB1 ⊢
  have r0 := r0.out
  have r1 := r1.out
  exact bodyPost_ret (v := .tuple #[.agg #[.string (Sign.lower x), .string (Sign.trim y)], .bool b]) (by simp [results, Tryd.results42, go_sem, r0, r1]) rfl ⟨rfl, HB1.out⟩
theorem flt_more (L : List ByteArray) (k : Nat) (h : k < L.length) : (L.take (k + 1)).filterMap fieldAt = (L.take k).filterMap fieldAt ++ (if (Line.colon L[k]).isSome = true then [lineF L[k]] else []) := by
  rw [flt_take L k h]
  congr 1
  unfold fieldAt lineF
  cases Line.colon L[k] <;> rfl
set_option maxRecDepth 100000 in
set_option maxHeartbeats 2000000 in
theorem fieldsOf_any (v : Value) (L : List ByteArray) (w : World) (h : Strs.Is w v L) (hl : L.length ≤ 1048576) (hz : ∀ t ∈ L, t.size ≤ 1048576) (hm : Lim w) :
    Calls Tryd.prog 41 #[v, .func (.func 42) #[] #[]] w fun e w' => ∃ v', e = .returned v' ∧ Own w.heap.size w' v' (L.filterMap fieldAt) ∧ Below w.heap.size w w' := by
  have h2 : ∃ a c, v = .slice a L.length c ∧ (0 < L.length → ∃ b o, a = some ⟨b, o, none⟩ ∧ L.length ≤ c ∧ c ≤ maxLen ∧ b < w.heap.size ∧ ∀ i (h : i < L.length), w.cell? ⟨b, o + i, none⟩ = some (.string L[i])) := by
    rcases h with ⟨rfl, a, c, rfl⟩ | ⟨b, o, c, rfl, h1, h2, h3⟩
    · exact ⟨a, c, rfl, fun h => by simp at h⟩
    · refine ⟨_, c, rfl, fun hp => ⟨b, o, rfl, h1, h2, ?_, h3⟩⟩
      exact Recs.lt_of_cell (h3 0 hp)
  obtain ⟨a, c, rfl, h2⟩ := h2
  have HA := Num.hide h2
  have HZ := Num.hide hz
  have HM := Num.hide hm
  have hlm := lim_lt hm
  have hent : ∀ args W, (callFunc 42 args).run Tryd.prog W = .ok (.enter 42 args) W := enters_of Tryd.func42 (by kernel_rfl) rfl
  clear h h2 hz hm
  obtain ⟨i0, hi0, hz0, hz1, hz2⟩ := info_parts infoF
  have HA0 : Hid (Own w.heap.size w (.slice none 0 0) ((L.take 0).filterMap fieldAt)) := Recs.own_nil _ _
  go_enter Tryd.func41, Tryd.ntmps41
  go_wp2
  go_loopw [5, 12] (fun ov iv wr => ∃ i : Nat, i ≤ L.length ∧ iv = .int .i64 (i : Int) ∧ Hid (Own w.heap.size wr ov ((L.take i).filterMap fieldAt)) ∧ Hid (Below w.heap.size w wr)) (fun _ iv _ => L.length - (intOf iv).toNat)
  case atStart => exact ⟨0, by omega, rfl, HA0, Below.refl _ _⟩
  case round =>
    clear HA0
    obtain ⟨i, hi, rfl, HO, HB⟩ := hrel
    have hsz := HB.out.size
    by_cases hlt : i < L.length
    · obtain ⟨bk, o, rfl, hc, hmx, hblt, hcell⟩ := Num.unhide HA (by omega)
      have c1 : wr.cell? ⟨bk, o + i, none⟩ = some (.string L[i]) := by rw [HB.out.cell (p := ⟨bk, o + i, none⟩) hblt]; exact hcell i hlt
      have HCi := Num.hide (readF_any L[i] wr (HZ.out _ (List.getElem_mem hlt)) (lim_below HM.out HB.out hlm))
      have HF := Num.hide (flt_more L i hlt)
      have hdl : ((L.take i).filterMap fieldAt).length ≤ 1048576 := by have := flt_len (L.take i); rw [List.length_take] at this; omega
      clear hcell
      generalize L[i] = t at c1 HCi HF
      generalize lineF t = f at HCi HF
      generalize (Line.colon t).isSome = tb at HCi HF
      obtain ⟨m1, m2⟩ := f
      simp only at HCi
      go_wp2_with fail
      refine HCi.out.mono ?_
      rintro e w1 ⟨rfl, hb1⟩
      have HO2 := Num.hide (Recs.own_below HO.out hb1)
      have HB2 := Num.hide (HB.out.trans (hb1.mono hsz))
      have hsz2 := Nat.le_trans hsz hb1.size
      clear hb1 HO HB c1 HCi
      have hsz3 : w.heap.size ≤ (w1.alloc (.cells #[.string m1, .string m2] 33)).heap.size := by simp; omega
      have HB3 := Num.hide (HB2.out.alloc hsz2 (.cells #[.string m1, .string m2] 33))
      have HO3 := Num.hide (World.ownsRow.alloc HO2.out (.cells #[.string m1, .string m2] 33))
      clear HO2 HB2
      cases tb with
      | false =>
        have HO4 : Hid (Own w.heap.size (w1.alloc (.cells #[.string m1, .string m2] 33)) u5 ((L.take (i + 1)).filterMap fieldAt)) := by
          rw [HF.out, if_neg (by simp), List.append_nil]; exact HO3
        clear HO3
        go_wp2
        go_roundw
        case rel => exact ⟨i + 1, by omega, by go_num, HO4, HB3⟩
        case measure => simp [intOf]; omega
      | true =>
        have HF2 : Hid ((L.take (i + 1)).filterMap fieldAt = (L.take i).filterMap fieldAt ++ [(m1, m2)]) := by show _ = _; rw [HF.out, if_pos rfl]
        clear HF
        go_wp2_with (at_builtin; refine wpList_append_own _ rfl _ _ 24 rfl w.heap.size 33 i0 _ 2 32 Tryd.underlying24 hi0 hz0 hz1 hz2 rfl (by decide) _ _ _ rfl (World.ownsRow.alloc HO3.out _) ⟨w1.heap.size + 1, 0, none⟩ 1 1 [.string m1, .string m2] rfl rfl (by simpa using cells_two (w1.alloc (.cells #[.string m1, .string m2] 33)) m1 m2) (two_ok m1 m2) (by unfold maxLen; omega) (by omega) ?c5 ?_)
        case c5 => first | omega | (simp; omega)
        intro v' w2 ho2 hg2 _
        obtain ⟨hp1, hp2⟩ := put_more hsz3 HO3.out (Below.refl w.heap.size _) ho2 hg2
        have HP1 : Hid (Own w.heap.size w2 v' ((L.take (i + 1)).filterMap fieldAt)) := by rw [HF2.out]; exact hp1
        have HP2 := Num.hide (HB3.out.trans hp2)
        clear ho2 hg2 hp1 hp2
        go_wp2
        go_roundw
        case rel => exact ⟨i + 1, by omega, by go_num, HP1, HP2⟩
        case measure => simp [intOf]; omega
    · obtain rfl : i = L.length := by omega
      have ho := HO.out
      rw [List.take_length] at ho
      have HO2 := Num.hide ho
      clear ho HO
      go_wp2
      go_ret
      exact ⟨_, rfl, HO2.out, HB.out⟩
end Flds
end Go.Proofs.YtbeljhonikhdjaaDoor
