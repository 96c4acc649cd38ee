/-
  TrimImpl: Trim of the program: what the call returns, for every text; what was there stays.
  FldChsT: putChosen of the program from texts to fields, and readField: a field off each line that has a colon, behind each other in a row of the call's own.
  ValueImpl: IsValueText of the program: what the call returns, for every text; what was there stays.
  FldOkImpl: isNameText, fieldOk and FieldsOk of the program: what the calls return, where the table of signs holds what it is laid with; what was there stays.
  FldReadImpl: ReadFields of the program: fields read off a text, in a row of the call's own; what was there stays.
  ShelfBuild: WriteString and String of a strings.Builder at this program, off the library's contracts (their layings typed by hand: lay-plain drops WriteString's).
  BuildK: WriteString and String of a strings.Builder at this program, with what else of the call's own they leave as it lay; a builder in a range over a function.
  PiecesIter: piecesAhead of the program: the pieces of a body, handed on one by one up to the first that is empty or at fault.
-/
import Derived.Test.YtkenmilglfnmbaaGreatDoorPaf
import Derived.Test.YtkenmilglfnmbaaGreatDoorTrimSpec
import Derived.Shelf.Strings.SlTrimAscii
import Derived.Test.YtkenmilglfnmbaaGreatDoorValueSpec
import Derived.Test.YtkenmilglfnmbaaGreatDoorFldsOkSpec
import Derived.Test.YtkenmilglfnmbaaGreatDoorTokenImpl
import Derived.Shelf.Strings.BuilderF
import Derived.Test.YtkenmilglfnmbaaGreatDoorRows
import Derived.WalkKit
import Derived.Shelf.Strings.BuilderK
import Derived.RangeFuncNested
import Derived.Test.YtkenmilglfnmbaaGreatDoorPieceImpl
import Derived.RangeFuncBound
import Derived.RangeFuncCalls
import Derived.RangeFuncLeaves
import Derived.Shelf.Abstract
import Derived.Shelf.RegionOpen
import Derived.OwnWalkIn
import Derived.TacticsInMore
import Derived.LoopNIn
import Derived.LoopIn
namespace Go.Proofs.YtkenmilglfnmbaaGreatDoor
open Go.Shelf Go.RowKit
set_option linter.unusedVariables false
namespace Sign

theorem right_cons (p : UInt8 → Bool) (c : UInt8) (l : List UInt8) : ((c :: l).reverse.dropWhile p).reverse = if (l.reverse.dropWhile p).isEmpty then (if p c then [] else [c]) else c :: (l.reverse.dropWhile p).reverse := by
  rw [List.reverse_cons, List.dropWhile_append]
  by_cases h : (l.reverse.dropWhile p).isEmpty = true
  · rw [if_pos h, if_pos h]
    by_cases hc : p c = true
    · rw [if_pos hc, List.dropWhile_cons_of_pos hc]; rfl
    · rw [if_neg hc, List.dropWhile_cons_of_neg hc]; rfl
  · rw [if_neg h, if_neg h, List.reverse_append]; rfl
theorem left_right (p : UInt8 → Bool) (l : List UInt8) : ((l.reverse.dropWhile p).reverse).dropWhile p = ((l.dropWhile p).reverse.dropWhile p).reverse := by
  induction l with
  | nil => rfl
  | cons c l ih =>
    rw [right_cons]
    by_cases hc : p c = true
    · rw [List.dropWhile_cons_of_pos hc, ← ih, if_pos hc]
      by_cases h : (l.reverse.dropWhile p).isEmpty = true
      · rw [if_pos h, List.isEmpty_iff.1 h]; rfl
      · rw [if_neg h, List.dropWhile_cons_of_pos hc]
    · rw [List.dropWhile_cons_of_neg hc, right_cons, if_neg hc]
      by_cases h : (l.reverse.dropWhile p).isEmpty = true
      · rw [if_pos h, List.dropWhile_cons_of_neg hc]
      · rw [if_neg h, List.dropWhile_cons_of_neg hc]
theorem bl_contains (b : UInt8) : ([32, 9] : List UInt8).contains b = bl b := by
  unfold bl
  have e : (([32, 9] : List UInt8).contains b = true) ↔ blank (b.toNat : Int) := by
    rw [List.contains_iff_mem, List.mem_cons, List.mem_singleton, ← UInt8.toNat_inj, ← UInt8.toNat_inj]
    unfold blank; simp; omega
  rw [Bool.eq_iff_iff, decide_eq_true_iff]; exact e
theorem trimS_eq (s : ByteArray) : (⟨(Lib.trimS s.data.toList [32, 9]).toArray⟩ : ByteArray) = trim s := by
  unfold trim Lib.trimS Lib.trimLeftS Lib.trimRightS
  have e : (fun b => ([32, 9] : List UInt8).contains b) = bl := funext bl_contains
  rw [e, left_right]
theorem size_trim (s : ByteArray) : (trim s).size ≤ s.size := by
  show ((s.data.toList.dropWhile bl).reverse.dropWhile bl).reverse.toArray.size ≤ s.size
  rw [List.size_toArray, List.length_reverse]
  have h1 := (List.dropWhile_sublist bl (l := (s.data.toList.dropWhile bl).reverse)).length_le
  have h2 := (List.dropWhile_sublist bl (l := s.data.toList)).length_le
  rw [List.length_reverse] at h1
  have e : s.data.toList.length = s.size := by rw [Array.length_toList]; rfl
  omega
theorem strings_trim (s : ByteArray) (w : World) (hs : s.size ≤ maxLen) :
    Calls Tryz.prog 202 #[.string s, .string ⟨#[32, 9]⟩] w fun e w' => e = .returned (.string (trim s)) ∧ Below w.heap.size w w' := by
  have h := Any.strings_Trim_laid Shelf.lays160 (by kernel_rfl) s ⟨#[32, 9]⟩ w (by unfold maxLen at hs; omega) (by decide) (ascii_of_all (by decide))
  rw [← trimS_eq]
  exact h
set_option maxHeartbeats 1000000 in
theorem trim_impl (s : ByteArray) (w : World) (hs : s.size ≤ 281474976710656) :
    Calls Tryz.prog 196 #[.string s] w fun e w' => e = .returned (.string (trim s)) ∧ Below w.heap.size w w' := by
  have HS := Num.hide (fun W => strings_trim s W (by unfold maxLen; omega))
  have hz := size_trim s
  generalize trim s = t at HS hz ⊢
  go_enter Tryz.func196, Tryz.ntmps196
  go_wp2_with fail
  refine (HS.out _).mono ?_
  rintro e w1 ⟨rfl, hb1⟩
  go_wp2_with fail
  refine (Shelf.clone t _ (by omega)).mono ?_
  rintro e w2 ⟨rfl, hb2⟩
  go_wp2
  go_ret
  exact ⟨rfl, hb1.trans (hb2.mono hb1.size)⟩
end Sign
end Go.Proofs.YtkenmilglfnmbaaGreatDoor
namespace Go.Proofs.YtkenmilglfnmbaaGreatDoor
open Go.RowKit
set_option linter.unusedVariables false
namespace Flds

/-- what readField tells of a line -/
def lineF (t : ByteArray) : Fld := match Line.colon t with | some k => fieldOf t k | none => (Sign.lower t, Sign.trim ByteArray.empty)
theorem cut_colon (s : ByteArray) (w : World) (hs : s.size ≤ 1048576) (hm : Lim w) :
    Calls Tryz.prog 158 #[.string s, .string ⟨#[58]⟩] w fun e w' => ∃ x y, e = .returned (.tuple #[.string x, .string y, .bool (Line.colon s).isSome]) ∧ x.size ≤ 1048576 ∧ y.size ≤ 1048576 ∧ (Sign.lower x, Sign.trim y) = lineF s ∧ ∃ n, w.drewN n = w' := by
  obtain ⟨m, hm⟩ := hm
  refine (Shelf.strings_Cut s ⟨#[58]⟩ m w (by omega) hm).mono ?_
  rintro e w' ⟨rfl, n, rfl⟩
  unfold lineF
  cases he : Line.colon s with
  | none =>
    obtain ⟨e1, e2, e3⟩ := Line.cutc_none he
    exact ⟨_, _, by rw [e1, e2, e3]; rfl, hs, by decide, rfl, n, rfl⟩
  | some k =>
    obtain ⟨e1, e2, e3⟩ := Line.cutc_some he
    exact ⟨_, _, by rw [e1, e2, e3]; rfl, by rw [ByteArray.size_extract]; omega, by rw [ByteArray.size_extract]; omega, rfl, n, rfl⟩
set_option maxRecDepth 100000 in
set_option maxHeartbeats 2000000 in
theorem readF_any (s : ByteArray) (w : World) (hs : s.size ≤ 1048576) (hm : Lim w) :
    Calls Tryz.prog 186 #[.string s] w fun e w' => e = .returned (.tuple #[.agg #[.string (lineF s).1, .string (lineF s).2], .bool (Line.colon s).isSome]) ∧ Below w.heap.size w w' := by
  have c0 : (w.alloc (.cells #[.string ⟨#[]⟩, .string ⟨#[]⟩] 36)).heap[w.heap.size]? = some (.cells #[.string ⟨#[]⟩, .string ⟨#[]⟩] 36) := heap_alloc_new w _
  have HC := Num.hide c0
  have hb0 := (Below.refl w.heap.size w).alloc (Nat.le_refl _) (.cells #[.string ⟨#[]⟩, .string ⟨#[]⟩] 36)
  have HB0 := Num.hide hb0
  have hz0 : w.heap.size + 1 = (w.alloc (.cells #[.string ⟨#[]⟩, .string ⟨#[]⟩] 36)).heap.size := by simp
  have HM := Num.hide (cut_colon s _ hs (lim_below hm hb0 (lim_lt hm)))
  clear c0 hb0 hm
  generalize lineF s = f at HM
  generalize (Line.colon s).isSome = b at HM
  obtain ⟨f1, f2⟩ := f
  go_enter Tryz.func186, Tryz.ntmps186
  go_wp2_with fail
  refine HM.out.mono ?_
  rintro e w0 ⟨x, y, rfl, hx, hy, hf, n, rfl⟩
  simp only [Prod.mk.injEq] at hf
  obtain ⟨rfl, rfl⟩ := hf
  go_wp2_with fail
  refine (Sign.lower_impl x _ (by unfold maxLen; omega)).mono ?_
  rintro e w1 ⟨rfl, hb1⟩
  go_wp2_with fail
  refine (Sign.trim_impl y _ (by omega)).mono ?_
  rintro e w2 ⟨rfl, hb2⟩
  obtain ⟨k0, k1, g0, g1⟩ := two_cells (show w2.heap[w.heap.size]? = _ from by rw [hb2.block _ (by have := hb1.size; change (w.alloc _).heap.size ≤ _ at this; omega), hb1.block _ (by show _ < (w.alloc _).heap.size; omega)]; exact HC.out)
  have HB := Num.hide ((Strs.below_drewN HB0.out n).trans (((hb1.mono (by show _ ≤ (w.alloc _).heap.size; omega : w.heap.size ≤ _)).trans (hb2.mono (by have := hb1.size; change (w.alloc _).heap.size ≤ _ at this; omega)))))
  clear hb1 hb2 HB0 HC hz0 HM
  have r0 := Num.hide (box_first (x := Sign.lower x) (y := Sign.trim y) k0)
  have r1 := Num.hide (box_second (x := Sign.lower x) (y := Sign.trim y) k1)
  have HB1 := Num.hide ((HB.out.setCell (p := ⟨w.heap.size, 0, none⟩) (Nat.le_refl _) (.string (Sign.lower x))).setCell (p := ⟨w.heap.size, 1, none⟩) (Nat.le_refl _) (.string (Sign.trim y)))
  go_wp2
  generalize ((w2.setCell ⟨w.heap.size, 0, none⟩ (.string (Sign.lower x))).setCell ⟨w.heap.size, 1, none⟩ (.string (Sign.trim y))) = w3 at r0 r1 HB1 ⊢
  have r0 := r0.out
  have r1 := r1.out
  exact bodyPost_ret (v := .tuple #[.agg #[.string (Sign.lower x), .string (Sign.trim y)], .bool b]) (by simp [results, Tryz.results186, go_sem, r0, r1]) rfl ⟨rfl, HB1.out⟩
theorem flt_more (L : List ByteArray) (k : Nat) (h : k < L.length) : (L.take (k + 1)).filterMap fieldAt = (L.take k).filterMap fieldAt ++ (if (Line.colon L[k]).isSome = true then [lineF L[k]] else []) := by
  rw [flt_take L k h]
  congr 1
  unfold fieldAt lineF
  cases Line.colon L[k] <;> rfl
set_option maxRecDepth 100000 in
set_option maxHeartbeats 2000000 in
theorem fieldsOf_any (v : Value) (L : List ByteArray) (w : World) (h : Strs.Is w v L) (hl : L.length ≤ 1048576) (hz : ∀ t ∈ L, t.size ≤ 1048576) (hm : Lim w) :
    Calls Tryz.prog 185 #[v, .func (.func 186) #[] #[]] w fun e w' => ∃ v', e = .returned v' ∧ Own w.heap.size w' v' (L.filterMap fieldAt) ∧ Below w.heap.size w w' := by
  have h2 : ∃ a c, v = .slice a L.length c ∧ (0 < L.length → ∃ b o, a = some ⟨b, o, none⟩ ∧ L.length ≤ c ∧ c ≤ maxLen ∧ b < w.heap.size ∧ ∀ i (h : i < L.length), w.cell? ⟨b, o + i, none⟩ = some (.string L[i])) := by
    rcases h with ⟨rfl, a, c, rfl⟩ | ⟨b, o, c, rfl, h1, h2, h3⟩
    · exact ⟨a, c, rfl, fun h => by simp at h⟩
    · refine ⟨_, c, rfl, fun hp => ⟨b, o, rfl, h1, h2, ?_, h3⟩⟩
      exact Recs.lt_of_cell (h3 0 hp)
  obtain ⟨a, c, rfl, h2⟩ := h2
  have HA := Num.hide h2
  have HZ := Num.hide hz
  have HM := Num.hide hm
  have hlm := lim_lt hm
  have hent : ∀ args W, (callFunc 186 args).run Tryz.prog W = .ok (.enter 186 args) W := enters_of Tryz.func186 (by kernel_rfl) rfl
  clear h h2 hz hm
  obtain ⟨i0, hi0, hz0, hz1, hz2⟩ := info_parts infoF
  have HA0 : Hid (Own w.heap.size w (.slice none 0 0) ((L.take 0).filterMap fieldAt)) := Recs.own_nil _ _
  go_enter Tryz.func185, Tryz.ntmps185
  go_wp2
  go_loopw [5, 12] (fun ov iv wr => ∃ i : Nat, i ≤ L.length ∧ iv = .int .i64 (i : Int) ∧ Hid (Own w.heap.size wr ov ((L.take i).filterMap fieldAt)) ∧ Hid (Below w.heap.size w wr)) (fun _ iv _ => L.length - (intOf iv).toNat)
  case atStart => exact ⟨0, by omega, rfl, HA0, Below.refl _ _⟩
  case round =>
    clear HA0
    obtain ⟨i, hi, rfl, HO, HB⟩ := hrel
    have hsz := HB.out.size
    by_cases hlt : i < L.length
    · obtain ⟨bk, o, rfl, hc, hmx, hblt, hcell⟩ := Num.unhide HA (by omega)
      have c1 : wr.cell? ⟨bk, o + i, none⟩ = some (.string L[i]) := by rw [HB.out.cell (p := ⟨bk, o + i, none⟩) hblt]; exact hcell i hlt
      have HCi := Num.hide (readF_any L[i] wr (HZ.out _ (List.getElem_mem hlt)) (lim_below HM.out HB.out hlm))
      have HF := Num.hide (flt_more L i hlt)
      have hdl : ((L.take i).filterMap fieldAt).length ≤ 1048576 := by have := flt_len (L.take i); rw [List.length_take] at this; omega
      clear hcell
      generalize L[i] = t at c1 HCi HF
      generalize lineF t = f at HCi HF
      generalize (Line.colon t).isSome = tb at HCi HF
      obtain ⟨m1, m2⟩ := f
      simp only at HCi
      go_wp2_with fail
      refine HCi.out.mono ?_
      rintro e w1 ⟨rfl, hb1⟩
      have HO2 := Num.hide (Recs.own_below HO.out hb1)
      have HB2 := Num.hide (HB.out.trans (hb1.mono hsz))
      have hsz2 := Nat.le_trans hsz hb1.size
      clear hb1 HO HB c1 HCi
      have hsz3 : w.heap.size ≤ (w1.alloc (.cells #[.string m1, .string m2] 36)).heap.size := by simp; omega
      have HB3 := Num.hide (HB2.out.alloc hsz2 (.cells #[.string m1, .string m2] 36))
      have HO3 := Num.hide (World.ownsRow.alloc HO2.out (.cells #[.string m1, .string m2] 36))
      clear HO2 HB2
      cases tb with
      | false =>
        have HO4 : Hid (Own w.heap.size (w1.alloc (.cells #[.string m1, .string m2] 36)) u5 ((L.take (i + 1)).filterMap fieldAt)) := by
          rw [HF.out, if_neg (by simp), List.append_nil]; exact HO3
        clear HO3
        go_wp2
        go_roundw
        case rel => exact ⟨i + 1, by omega, by go_num, HO4, HB3⟩
        case measure => simp [intOf]; omega
      | true =>
        have HF2 : Hid ((L.take (i + 1)).filterMap fieldAt = (L.take i).filterMap fieldAt ++ [(m1, m2)]) := by show _ = _; rw [HF.out, if_pos rfl]
        clear HF
        go_wp2_with (at_builtin; refine wpList_append_own _ rfl _ _ 37 rfl w.heap.size 36 i0 _ 2 32 Tryz.underlying37 hi0 hz0 hz1 hz2 rfl (by decide) _ _ _ rfl (World.ownsRow.alloc HO3.out _) ⟨w1.heap.size + 1, 0, none⟩ 1 1 [.string m1, .string m2] rfl rfl (by simpa using cells_two (w1.alloc (.cells #[.string m1, .string m2] 36)) m1 m2) (two_ok m1 m2) (by unfold maxLen; omega) (by omega) ?c5 ?_)
        case c5 => first | omega | (simp; omega)
        intro v' w2 ho2 hg2 _
        obtain ⟨hp1, hp2⟩ := put_more hsz3 HO3.out (Below.refl w.heap.size _) ho2 hg2
        have HP1 : Hid (Own w.heap.size w2 v' ((L.take (i + 1)).filterMap fieldAt)) := by rw [HF2.out]; exact hp1
        have HP2 := Num.hide (HB3.out.trans hp2)
        clear ho2 hg2 hp1 hp2
        go_wp2
        go_roundw
        case rel => exact ⟨i + 1, by omega, by go_num, HP1, HP2⟩
        case measure => simp [intOf]; omega
    · obtain rfl : i = L.length := by omega
      have ho := HO.out
      rw [List.take_length] at ho
      have HO2 := Num.hide ho
      clear ho HO
      go_wp2
      go_ret
      exact ⟨_, rfl, HO2.out, HB.out⟩
end Flds
end Go.Proofs.YtkenmilglfnmbaaGreatDoor
namespace Go.Proofs.YtkenmilglfnmbaaGreatDoor
open Go.RowKit
set_option linter.unusedVariables false
namespace Sign

set_option maxRecDepth 100000 in
set_option maxHeartbeats 1000000 in
theorem value_impl (s : ByteArray) (w : World) (hs : s.size ≤ 281474976710656) : Calls Tryz.prog 181 #[.string s] w fun e w' => e = .returned (.bool (isVal s)) ∧ Below w.heap.size w w' := by
  have HS := Num.hide hs
  obtain ⟨r, hr⟩ : ∃ r, isVal s = r := ⟨_, rfl⟩
  rw [hr]
  have HR := Num.hide hr
  clear hr
  go_enter Tryz.func181, Tryz.ntmps181
  go_wp2
  go_loop [6] (fun i => ∃ k : Nat, k ≤ s.size ∧ i = .int .i64 k ∧ (s.data.toList.take k).all (fun b => decide (val (b.toNat : Int))) = true) (fun i => s.size - (intOf i).toNat)
  case atStart => exact ⟨0, by omega, rfl, by simp⟩
  case round =>
    obtain ⟨k, hk, rfl, hall⟩ := hrel
    have HA := Num.hide hall
    clear hall
    by_cases hlt : k < s.size
    · have hstep := Num.hide (all_take s (fun b => decide (val (b.toNat : Int))) k hlt)
      have hn := Num.hide (fun h => not_all s (fun b => decide (val (b.toNat : Int))) k hlt h)
      by_cases hv : val (s[k].toNat : Int)
      · have hd := Num.hide (show decide (val (s[k].toNat : Int)) = true from decide_eq_true hv)
        unfold val at hv
        have d127 : ((s[k].toNat : Int) == 127) = false := by rw [beq_eq_false_iff_ne]; omega
        by_cases h9 : (s[k].toNat : Int) = 9
        · have d9 : ((s[k].toNat : Int) != 9) = false := by rw [h9]; rfl
          have d32 : decide ((s[k].toNat : Int) < 32) = true := by simp; omega
          clear hv h9
          go_wp2
          all_goals go_round
          case rel => exact ⟨k + 1, by omega, by go_num, by rw [Num.unhide hstep, Num.unhide HA, Num.unhide hd]; rfl⟩
          case measure => simp [intOf]; omega
        · have d32 : decide ((s[k].toNat : Int) < 32) = false := by simp; omega
          clear hv h9
          go_wp2
          all_goals go_round
          case rel => exact ⟨k + 1, by omega, by go_num, by rw [Num.unhide hstep, Num.unhide HA, Num.unhide hd]; rfl⟩
          case measure => simp [intOf]; omega
      · have hf : isVal s = false := by
          unfold isVal
          rw [Num.unhide hn (decide_eq_false hv), Bool.false_and]
        rw [Num.unhide HR] at hf
        have HF := Num.hide hf
        clear hf
        unfold val at hv
        have d9 : ((s[k].toNat : Int) != 9) = true := bne_iff_ne.2 (by omega)
        by_cases h32 : (s[k].toNat : Int) < 32
        · have d32 : decide ((s[k].toNat : Int) < 32) = true := decide_eq_true h32
          clear hv h32
          go_wp2
          all_goals go_ret
          all_goals exact ⟨by rw [Num.unhide HF]; rfl, Below.refl _ _⟩
        · have d32 : decide ((s[k].toNat : Int) < 32) = false := decide_eq_false h32
          have d127 : ((s[k].toNat : Int) == 127) = true := by rw [beq_iff_eq]; omega
          clear hv h32
          go_wp2
          all_goals go_ret
          all_goals exact ⟨by rw [Num.unhide HF]; rfl, Below.refl _ _⟩
    · obtain rfl : k = s.size := by omega
      have hr := Num.unhide HR
      unfold isVal at hr
      rw [all_full s _ (Num.unhide HA), Bool.true_and] at hr
      have HR2 := Num.hide hr
      clear hr
      go_wp2_with (go_at_call 196; refine (trim_impl _ _ (Num.unhide HS)).mono ?_; rintro e w' ⟨rfl, hb⟩)
      go_ret
      exact ⟨by rw [← Num.unhide HR2]; rfl, hb⟩
end Sign
end Go.Proofs.YtkenmilglfnmbaaGreatDoor
namespace Go.Proofs.YtkenmilglfnmbaaGreatDoor
open Go.RowKit
set_option linter.unusedVariables false
namespace Flds

theorem signs_below {w w' : World} {B : Nat} (h : Sign.Signs w) (hb : Below B w w') (hB : 5 < B) : Sign.Signs w' := fun i hi => (hb.cell (p := ⟨5, i, none⟩) hB).trans (h i hi)
theorem signs_lt {w : World} (h : Sign.Signs w) : 5 < w.heap.size := Recs.lt_of_cell (h 0 (by decide))
theorem max_of {l : List Fld} (hl : bulk l ≤ 1048576) : ∀ f ∈ l, f.1.size ≤ maxLen ∧ f.2.size ≤ maxLen := by
  intro f hf
  obtain ⟨i, hi, rfl⟩ := List.getElem_of_mem hf
  have h3 := bulk_take l i hi
  have h4 := bulk_le l (i + 1)
  unfold bulk at hl; unfold maxLen
  omega
/-- is it a right name? -/
def isName (s : ByteArray) : Bool := decide (s.size ≤ 24) && Sign.isTok s && decide (Sign.lower s = s)
set_option maxRecDepth 100000 in
set_option maxHeartbeats 2000000 in
theorem name_impl (s : ByteArray) (w : World) (hs : s.size ≤ maxLen) (hS : Sign.Signs w) : Calls Tryz.prog 180 #[.string s] w fun e w' => e = .returned (.bool (isName s)) ∧ Below w.heap.size w w' := by
  have HT := Num.hide (Sign.isTok_impl s w hs hS)
  have HL := Num.hide (fun W => Sign.lower_impl s W hs)
  obtain ⟨r, hr⟩ : ∃ r, isName s = r := ⟨_, rfl⟩
  rw [hr]
  unfold isName at hr
  generalize Sign.lower s = ls at HL hr
  generalize Sign.isTok s = bt at HT hr
  unfold maxLen at hs
  clear hS
  by_cases h24 : s.size ≤ 24
  · rw [decide_eq_true h24, Bool.true_and] at hr
    cases bt with
    | false =>
      rw [Bool.false_and] at hr
      subst hr
      go_enter Tryz.func180, Tryz.ntmps180
      go_wp2_with (go_at_call 150; refine (Num.unhide HT).mono ?_; rintro e w1 ⟨rfl, rfl⟩)
      go_ret
      exact ⟨rfl, Below.refl _ _⟩
    | true =>
      rw [Bool.true_and] at hr
      by_cases he : ls = s
      · rw [decide_eq_true he] at hr
        subst hr he
        go_enter Tryz.func180, Tryz.ntmps180
        go_wp2_with (first | (go_at_call 150; refine (Num.unhide HT).mono ?_; rintro e w1 ⟨rfl, rfl⟩) | (go_at_call 91; refine (Num.unhide HL _).mono ?_; rintro e w2 ⟨rfl, hb2⟩))
        go_ret
        exact ⟨rfl, hb2⟩
      · rw [decide_eq_false he] at hr
        subst hr
        have d := text_eq he
        clear he
        go_enter Tryz.func180, Tryz.ntmps180
        go_wp2_with (first | (go_at_call 150; refine (Num.unhide HT).mono ?_; rintro e w1 ⟨rfl, rfl⟩) | (go_at_call 91; refine (Num.unhide HL _).mono ?_; rintro e w2 ⟨rfl, hb2⟩))
        go_ret
        exact ⟨rfl, hb2⟩
  · rw [decide_eq_false h24, Bool.false_and, Bool.false_and] at hr
    subst hr
    go_enter Tryz.func180, Tryz.ntmps180
    go_wp2
    go_ret
    exact ⟨rfl, Below.refl _ _⟩
theorem okF_name (f : Fld) : okF f = (isName f.1 && decide (f.2.size ≤ 60) && Sign.isVal f.2) := by
  unfold okF isName
  rw [show decide (f.1 = Sign.lower f.1) = decide (Sign.lower f.1 = f.1) from by rw [decide_eq_decide]; exact ⟨Eq.symm, Eq.symm⟩]
  generalize Sign.isTok f.1 = a
  generalize decide (Sign.lower f.1 = f.1) = b
  generalize decide (f.1.size ≤ 24) = c
  generalize Sign.isVal f.2 = d
  generalize decide (f.2.size ≤ 60) = e
  cases a <;> cases b <;> cases c <;> cases d <;> cases e <;> rfl
set_option maxRecDepth 100000 in
set_option maxHeartbeats 2000000 in
theorem okF_impl (x y : ByteArray) (w : World) (hx : x.size ≤ maxLen) (hy : y.size ≤ maxLen) (hS : Sign.Signs w) : Calls Tryz.prog 152 #[.agg #[.string x, .string y]] w fun e w' => e = .returned (.bool (okF (x, y))) ∧ Below w.heap.size w w' := by
  have hlt := signs_lt hS
  have HB0 := Num.hide ((Below.refl w.heap.size w).alloc (Nat.le_refl _) (.cells #[.string x, .string y] 36))
  have HN := Num.hide (name_impl x (w.alloc (.cells #[.string x, .string y] 36)) hx (signs_below hS HB0.out hlt))
  rw [okF_name]
  simp only
  generalize isName x = bn at HN
  unfold maxLen at hx hy
  clear hS
  cases bn with
  | false =>
    rw [Bool.false_and, Bool.false_and]
    go_enter Tryz.func152, Tryz.ntmps152
    go_wp2_with (go_at_call 180; refine (Num.unhide HN).mono ?_; rintro e w1 ⟨rfl, hb1⟩; have HB1 := Num.hide (HB0.out.trans (hb1.mono (by simp))); clear hb1)
    go_ret
    exact ⟨rfl, HB1.out⟩
  | true =>
    rw [Bool.true_and]
    by_cases h60 : y.size ≤ 60
    · have HV := Num.hide (fun W => Sign.value_impl y W (by omega))
      rw [decide_eq_true h60, Bool.true_and]
      generalize Sign.isVal y = bv at HV
      go_enter Tryz.func152, Tryz.ntmps152
      go_wp2_with fail
      refine (Num.unhide HN).mono ?_
      rintro e w1 ⟨rfl, hb1⟩
      have c0 : w1.cell? ⟨w.heap.size, 1, none⟩ = some (.string y) := by rw [hb1.cell (p := ⟨w.heap.size, 1, none⟩) (by simp)]; simp
      have HB1 := Num.hide (HB0.out.trans (hb1.mono (by simp)))
      clear hb1 HB0
      go_wp2_with fail
      refine (Num.unhide HV _).mono ?_
      rintro e w2 ⟨rfl, hb2⟩
      have HB2 := Num.hide (HB1.out.trans (hb2.mono HB1.out.size))
      clear hb2 HB1
      go_wp2
      go_ret
      exact ⟨rfl, HB2.out⟩
    · rw [decide_eq_false h60, Bool.false_and]
      go_enter Tryz.func152, Tryz.ntmps152
      go_wp2_with fail
      refine (Num.unhide HN).mono ?_
      rintro e w1 ⟨rfl, hb1⟩
      have c0 : w1.cell? ⟨w.heap.size, 1, none⟩ = some (.string y) := by rw [hb1.cell (p := ⟨w.heap.size, 1, none⟩) (by simp)]; simp
      have HB1 := Num.hide (HB0.out.trans (hb1.mono (by simp)))
      clear hb1 HB0
      go_wp2
      go_ret
      exact ⟨rfl, HB1.out⟩
theorem ok_long (l : List Fld) (h : ¬ l.length ≤ 12) : ok l = false := by unfold ok; rw [decide_eq_false h, Bool.and_false]
theorem ok_all {l : List Fld} (h : l.length ≤ 12) (ha : l.all okF = true) : ok l = true := by unfold ok; rw [ha, decide_eq_true h]; rfl
set_option maxRecDepth 100000 in
set_option maxHeartbeats 1000000 in
theorem ok_impl (v : Value) (l : List Fld) (w : World) (h : Is w v l) (hz : ∀ f ∈ l, f.1.size ≤ maxLen ∧ f.2.size ≤ maxLen) (hS : Sign.Signs w) :
    Calls Tryz.prog 98 #[v] w fun e w' => e = .returned (.bool (ok l)) ∧ Below w.heap.size w w' := by
  obtain ⟨a, c, rfl, h2⟩ := is_form h
  have HA := Num.hide h2
  have HZ := Num.hide hz
  have HS := Num.hide hS
  have hlt := signs_lt hS
  clear h h2 hz hS
  obtain ⟨r, hr⟩ : ∃ r, ok l = r := ⟨_, rfl⟩
  rw [hr]
  have HR := Num.hide hr
  clear hr
  have hlen : l.length ≤ 9223372036854775807 := by
    by_cases h0 : 0 < l.length
    · obtain ⟨b, o, _, h3, h4, _⟩ := HA.out h0
      unfold maxLen at h4; omega
    · omega
  by_cases h12 : l.length ≤ 12
  · go_enter Tryz.func98, Tryz.ntmps98
    go_wp2
    go_loopw [10] (fun iv wr => ∃ i : Nat, i ≤ l.length ∧ iv = .int .i64 (i : Int) ∧ Hid ((l.take i).all okF = true) ∧ Hid (Below w.heap.size w wr)) (fun iv _ => l.length - (intOf iv).toNat)
    case atStart => exact ⟨0, by omega, rfl, rfl, Below.refl _ _⟩
    case round =>
      obtain ⟨i, hi, rfl, HT, HB⟩ := hrel
      by_cases hlt2 : i < l.length
      · obtain ⟨bk, o, rfl, hc, hmx, hblt, hcell⟩ := Num.unhide HA (by omega)
        obtain ⟨g1, g2⟩ := hcell i hlt2
        have c1 : wr.cell? ⟨bk, o + i * 2, none⟩ = some (.string l[i].1) := by rw [HB.out.cell (p := ⟨bk, o + i * 2, none⟩) hblt]; exact g1
        have c2 : wr.cell? ⟨bk, o + i * 2 + 1, none⟩ = some (.string l[i].2) := by rw [HB.out.cell (p := ⟨bk, o + i * 2 + 1, none⟩) hblt]; exact g2
        have hz := Num.unhide HZ l[i] (List.getElem_mem hlt2)
        have HM := Num.hide (all_more l i hlt2)
        have HN := Num.hide (fun hf => not_ok l i hlt2 hf)
        have hsz := HB.out.size
        have HBa := Num.hide (HB.out.alloc hsz (.cells #[.string l[i].1, .string l[i].2] 36))
        clear hcell g1 g2
        generalize l[i] = f at c1 c2 hz HM HN HBa
        obtain ⟨x, y⟩ := f
        simp only at c1 c2 hz HBa
        have HO := Num.hide (okF_impl x y (wr.alloc (.cells #[.string x, .string y] 36)) hz.1 hz.2 (signs_below HS.out HBa.out hlt))
        generalize okF (x, y) = bo at HO HM HN
        cases bo with
        | true =>
          have HT2 : Hid ((l.take (i + 1)).all okF = true) := by show _ = _; rw [HM.out, HT.out]; rfl
          go_wp2_with fail
          refine (Num.unhide HO).mono ?_
          rintro e w1 ⟨rfl, hb1⟩
          have HB1 := Num.hide (HBa.out.trans (hb1.mono (by simp; omega)))
          clear hb1 HB HBa c1 c2
          go_wp2
          go_roundw
          case rel => exact ⟨i + 1, by omega, by go_num, HT2, HB1⟩
          case measure => simp [intOf]; omega
        | false =>
          obtain rfl : r = false := by rw [← HR.out]; exact HN.out rfl
          go_wp2_with fail
          refine (Num.unhide HO).mono ?_
          rintro e w1 ⟨rfl, hb1⟩
          have HB1 := Num.hide (HBa.out.trans (hb1.mono (by simp; omega)))
          clear hb1 HB HBa c1 c2
          go_wp2
          go_ret
          exact ⟨rfl, HB1.out⟩
      · obtain rfl : i = l.length := by omega
        have ht := HT.out
        rw [List.take_of_length_le (Nat.le_refl _)] at ht
        obtain rfl : r = true := by rw [← HR.out]; exact ok_all h12 ht
        clear ht
        go_wp2
        go_ret
        exact ⟨rfl, HB.out⟩
  · obtain rfl : r = false := by rw [← HR.out]; exact ok_long l h12
    go_enter Tryz.func98, Tryz.ntmps98
    go_wp2
    go_ret
    exact ⟨rfl, Below.refl _ _⟩
end Flds
end Go.Proofs.YtkenmilglfnmbaaGreatDoor
namespace Go.Proofs.YtkenmilglfnmbaaGreatDoor
open Go.RowKit
set_option linter.unusedVariables false
namespace Flds

/-- sizes of the fields of lines -/
theorem fld_small {L : List ByteArray} (h : ∀ t ∈ L, t.size ≤ 1048576) : ∀ f ∈ L.filterMap fieldAt, f.1.size ≤ 1048576 ∧ f.2.size ≤ 1048576 := by
  intro f hf
  obtain ⟨t, ht, he⟩ := List.mem_filterMap.1 hf
  unfold fieldAt at he
  obtain ⟨k, hk, rfl⟩ := Option.map_eq_some_iff.1 he
  have := h t ht
  unfold fieldOf
  refine ⟨by show (Sign.lower _).size ≤ _; rw [Sign.size_lower, ByteArray.size_extract]; omega, ?_⟩
  have h2 := Sign.trim_size (t.extract (k + 1) t.size)
  rw [ByteArray.size_extract] at h2
  show (Sign.trim _).size ≤ _
  omega
/-- what is told, by the lines -/
theorem told_bad {s : ByteArray} {L : List ByteArray} {n : Nat} (h : lines s = some (L, n)) (hg : L.all good = false) : readL s = [] ∧ readN s = 0 ∧ readB s = false :=
  told_none (by rw [read_of_lines, h]; simp only [Option.bind_some]; rw [if_neg (by rw [hg]; decide)])
theorem told_good {s : ByteArray} {L : List ByteArray} {n : Nat} (h : lines s = some (L, n)) (hg : L.all good = true) : readL s = L.filterMap fieldAt ∧ readN s = (n : Int) ∧ readB s = true :=
  told_some (by rw [read_of_lines, h]; simp only [Option.bind_some]; rw [if_pos hg])
set_option maxRecDepth 100000 in
set_option maxHeartbeats 2000000 in
theorem read_impl (s : ByteArray) (w : World) (hs : s.size ≤ 1048576) (hS : Sign.Signs w) (hm : Lim w) :
    Calls Tryz.prog 160 #[.string s] w fun e w' => ∃ v', e = .returned (.tuple #[v', .int .i64 (readN s), .bool (readB s)]) ∧ Own w.heap.size w' v' (readL s) ∧ Below w.heap.size w w' := by
  have HLn := Num.hide (lines_impl s w hs hm)
  have HM := Num.hide hm
  have HSg := Num.hide hS
  have hlm := lim_lt hm
  have hsg := signs_lt hS
  clear hm hS
  cases hl : lines s with
  | none =>
    obtain ⟨e1, e2, e3⟩ := ln_told_none hl
    obtain ⟨g1, g2, g3⟩ := told_none (s := s) (by rw [read_of_lines, hl]; rfl)
    rw [g1, g2, g3]
    rw [e1, e2, e3] at HLn
    clear e1 e2 e3 g1 g2 g3 hl
    go_enter Tryz.func160, Tryz.ntmps160
    go_wp2_with fail
    refine HLn.out.mono ?_
    rintro e w1 ⟨v, rfl, ho, hb⟩
    have HB := Num.hide hb
    clear ho hb
    go_wp2
    go_ret3
    exact ⟨_, rfl, Recs.own_nil _ _, HB.out⟩
  | some p =>
    obtain ⟨L, n⟩ := p
    obtain ⟨e1, e2, e3⟩ := ln_told_some hl
    rw [e1, e2, e3] at HLn
    obtain ⟨hn, hz0⟩ := linesGo_len s _ _ _ hl
    simp only at hn hz0
    have hz : ∀ t ∈ L, t.size ≤ 1048576 := fun t ht => Nat.le_trans (hz0 t ht) hs
    have HZ := Num.hide hz
    have HFs := Num.hide (fun v W h hm => fieldsOf_any v L W h (by omega) HZ.out hm)
    have HOk := Num.hide (fun v W h hS => ok_impl v (L.filterMap fieldAt) W h (fun f hf => by have := fld_small HZ.out f hf; unfold maxLen; omega) hS)
    have hfl := flt_len L
    have hent : ∀ args W, (callFunc 186 args).run Tryz.prog W = .ok (.enter 186 args) W := enters_of Tryz.func186 (by kernel_rfl) rfl
    by_cases hsh : (L.filterMap fieldAt).length < L.length
    · obtain ⟨g1, g2, g3⟩ := told_bad hl (good_short L hsh)
      rw [g1, g2, g3]
      clear e1 e2 e3 g1 g2 g3 hl hz hz0 HOk
      generalize L.filterMap fieldAt = F at HFs hsh hfl
      go_enter Tryz.func160, Tryz.ntmps160
      go_wp2_with fail
      refine HLn.out.mono ?_
      rintro e w1 ⟨v, rfl, ho, hb⟩
      obtain ⟨va, vc, hv⟩ := Strs.own_len ho
      subst hv
      have HB := Num.hide hb
      have HO := Num.hide ho
      clear ho hb HLn
      go_wp2_with fail
      refine (HFs.out _ _ (Strs.own_is HO.out) (lim_below HM.out HB.out hlm)).mono ?_
      rintro e w2 ⟨u, rfl, ho2, hb2⟩
      obtain ⟨ua, uc, hu⟩ := Recs.own_len ho2
      subst hu
      have HB2 := Num.hide (HB.out.trans (hb2.mono HB.out.size))
      clear ho2 hb2
      go_wp2
      go_ret3
      exact ⟨_, rfl, Recs.own_nil _ _, HB2.out⟩
    · have hg := good_full L hsh
      have hok : ok (L.filterMap fieldAt) = L.all good := by
        unfold ok
        rw [← hg, decide_eq_true (by omega : (L.filterMap fieldAt).length ≤ 12), Bool.and_true]
      rw [hok] at HOk
      have hfe : decide (((L.filterMap fieldAt).length : Int) < (L.length : Int)) = false := by rw [decide_eq_false_iff_not]; omega
      cases hga : L.all good with
      | false =>
        obtain ⟨g1, g2, g3⟩ := told_bad hl hga
        rw [g1, g2, g3]
        rw [hga] at HOk
        clear e1 e2 e3 g1 g2 g3 hl hz hz0 hg hok hga
        generalize L.filterMap fieldAt = F at HFs hsh hfl hfe HOk
        go_enter Tryz.func160, Tryz.ntmps160
        go_wp2_with fail
        refine HLn.out.mono ?_
        rintro e w1 ⟨v, rfl, ho, hb⟩
        obtain ⟨va, vc, hv⟩ := Strs.own_len ho
        subst hv
        have HB := Num.hide hb
        have HO := Num.hide ho
        clear ho hb HLn
        go_wp2_with fail
        refine (HFs.out _ _ (Strs.own_is HO.out) (lim_below HM.out HB.out hlm)).mono ?_
        rintro e w2 ⟨u, rfl, ho2, hb2⟩
        obtain ⟨ua, uc, hu⟩ := Recs.own_len ho2
        subst hu
        have HB2 := Num.hide (HB.out.trans (hb2.mono HB.out.size))
        have HO2 := Num.hide ho2
        clear ho2 hb2
        go_wp2_with fail
        refine (HOk.out _ _ (Recs.own_is cells_len HO2.out) (signs_below HSg.out HB2.out hsg)).mono ?_
        rintro e w3 ⟨rfl, hb3⟩
        have HB3 := Num.hide (HB2.out.trans (hb3.mono HB2.out.size))
        clear hb3
        go_wp2
        go_ret3
        exact ⟨_, rfl, Recs.own_nil _ _, HB3.out⟩
      | true =>
        obtain ⟨g1, g2, g3⟩ := told_good hl hga
        rw [g1, g2, g3]
        rw [hga] at HOk
        clear e1 e2 e3 g1 g2 g3 hl hz hz0 hg hok hga
        generalize L.filterMap fieldAt = F at HFs hsh hfl hfe HOk
        go_enter Tryz.func160, Tryz.ntmps160
        go_wp2_with fail
        refine HLn.out.mono ?_
        rintro e w1 ⟨v, rfl, ho, hb⟩
        obtain ⟨va, vc, hv⟩ := Strs.own_len ho
        subst hv
        have HB := Num.hide hb
        have HO := Num.hide ho
        clear ho hb HLn
        go_wp2_with fail
        refine (HFs.out _ _ (Strs.own_is HO.out) (lim_below HM.out HB.out hlm)).mono ?_
        rintro e w2 ⟨u, rfl, ho2, hb2⟩
        obtain ⟨ua, uc, hu⟩ := Recs.own_len ho2
        subst hu
        have HB2 := Num.hide (HB.out.trans (hb2.mono HB.out.size))
        have HO2 := Num.hide (Recs.own_mono ho2 HB.out.size)
        clear ho2 hb2
        go_wp2_with fail
        refine (HOk.out _ _ (Recs.own_is cells_len HO2.out) (signs_below HSg.out HB2.out hsg)).mono ?_
        rintro e w3 ⟨rfl, hb3⟩
        have HB3 := Num.hide (HB2.out.trans (hb3.mono HB2.out.size))
        have HO3 := Num.hide (Recs.own_below HO2.out hb3)
        clear hb3
        go_wp2
        go_ret3
        exact ⟨_, rfl, HO3.out, HB3.out⟩
end Flds
end Go.Proofs.YtkenmilglfnmbaaGreatDoor
namespace Go.Proofs.YtkenmilglfnmbaaGreatDoor
open Go.Shelf Go.RowKit
set_option linter.unusedVariables false
def Shelf.build_ren : Go.Shelf.Ren := ⟨fun | 166 => 40 | 169 => 42 | 240 => 84 | 276 => 129 | n => n, fun | 0 => 0 | 3 => 3 | 4 => 4 | 9 => 9 | 20 => 20 | 37 => 22 | 70 => 64 | 72 => 66 | 75 => 71 | 127 => 111 | 164 => 142 | 5 => 5 | 80 => 75 | n => n, fun | n => n⟩
theorem Shelf.lays166 : Go.Proofs.Lays.n166 Tryz.prog Shelf.build_ren := {
  mixed := by kernel_rfl
  f166 := Tryz.func40.trans (congrArg some (by kernel_rfl))
  f240 := Tryz.func84.trans (congrArg some (by kernel_rfl))
  f276 := Tryz.func129.trans (congrArg some (by kernel_rfl))
  t0 := Tryz.underlying0
  a0 := Tryz.isAgg0
  z0 := Tryz.sizeOf0
  v0 := Tryz.zeroValue0
  t3 := Tryz.underlying3
  a3 := Tryz.isAgg3
  z3 := Tryz.sizeOf3
  v3 := Tryz.zeroValue3
  t4 := Tryz.underlying4
  a4 := Tryz.isAgg4
  z4 := Tryz.sizeOf4
  v4 := Tryz.zeroValue4
  t9 := Tryz.underlying9
  a9 := Tryz.isAgg9
  z9 := Tryz.sizeOf9
  v9 := Tryz.zeroValue9
  t20 := Tryz.underlying20
  a20 := Tryz.isAgg20
  z20 := Tryz.sizeOf20
  v20 := Tryz.zeroValue20
  t37 := Tryz.underlying22
  a37 := Tryz.isAgg22
  z37 := Tryz.sizeOf22
  v37 := Tryz.zeroValue22
  t70 := Tryz.underlying64
  a70 := Tryz.isAgg64
  z70 := Tryz.sizeOf64
  v70 := Tryz.zeroValue64
  t72 := Tryz.underlying66
  a72 := Tryz.isAgg66
  z72 := Tryz.sizeOf66
  v72 := Tryz.zeroValue66
  t75 := Tryz.underlying71
  a75 := Tryz.isAgg71
  z75 := Tryz.sizeOf71
  v75 := Tryz.zeroValue71
  t164 := Tryz.underlying142
  a164 := Tryz.isAgg142
  z164 := Tryz.sizeOf142
  v164 := Tryz.zeroValue142 }
theorem Shelf.lays169 : Go.Proofs.Lays.n169 Tryz.prog Shelf.build_ren := {
  mixed := by kernel_rfl
  f169 := Tryz.func42.trans (congrArg some (by kernel_rfl))
  t0 := Tryz.underlying0
  a0 := Tryz.isAgg0
  z0 := Tryz.sizeOf0
  v0 := Tryz.zeroValue0
  t3 := Tryz.underlying3
  a3 := Tryz.isAgg3
  z3 := Tryz.sizeOf3
  v3 := Tryz.zeroValue3
  t9 := Tryz.underlying9
  a9 := Tryz.isAgg9
  z9 := Tryz.sizeOf9
  v9 := Tryz.zeroValue9
  t37 := Tryz.underlying22
  a37 := Tryz.isAgg22
  z37 := Tryz.sizeOf22
  v37 := Tryz.zeroValue22
  t70 := Tryz.underlying64
  a70 := Tryz.isAgg64
  z70 := Tryz.sizeOf64
  v70 := Tryz.zeroValue64
  t72 := Tryz.underlying66
  a72 := Tryz.isAgg66
  z72 := Tryz.sizeOf66
  v72 := Tryz.zeroValue66
  t127 := Tryz.underlying111
  a127 := Tryz.isAgg111
  z127 := Tryz.sizeOf111
  v127 := Tryz.zeroValue111 }
theorem Shelf.build_extra : Builder.Extra Tryz.prog Shelf.build_ren := {
  sizeBuilder := by kernel_rfl
  liesBuilder := by kernel_rfl
  t5 := Tryz.underlying5
  a5 := Tryz.isAgg5
  z5 := Tryz.sizeOf5
  v5 := Tryz.zeroValue5
  infoByte := by kernel_rfl
  cellsByte := by kernel_rfl
  sizeByte := by kernel_rfl
  neB5 := by decide }
theorem Shelf.writeString (B b : Nat) (bs : List Value) (s : ByteArray) (w : World) (h : Lib.IsBuilderF 66 5 B b bs w) (hlen : bs.length + s.size ≤ 140737488355328) (hBw : B ≤ w.heap.size) :
    Calls Tryz.prog 40 #[.pointer (some ⟨b, 0, none⟩), .string s] w fun e w' => e = .returned (.tuple #[.int .i64 s.size, .nilIface]) ∧ (Lib.BuilderAtF 66 5 B b (.pointer (some ⟨b, 0, none⟩)) (bs ++ Lib.strCells s) w' ∧ Below B w w') :=
  Any.Builder_WriteString_f Shelf.lays166 Shelf.build_extra B b bs s w h hlen hBw
theorem Shelf.builderString (B b : Nat) (l : List UInt8) (w : World) (h : Lib.IsBuilderF 66 5 B b (Lib.byteCells l) w) (hBw : B ≤ w.heap.size) :
    Calls Tryz.prog 42 #[.pointer (some ⟨b, 0, none⟩)] w fun e w' => e = .returned (.string ⟨l.toArray⟩) ∧ (Lib.IsBuilderF 66 5 B b (Lib.byteCells l) w' ∧ Below B w w') :=
  Any.Builder_String_any_f Shelf.lays169 Shelf.build_extra B b l w h hBw
end Go.Proofs.YtkenmilglfnmbaaGreatDoor
namespace Go.Proofs.YtkenmilglfnmbaaGreatDoor
open Go.Shelf Go.RowKit
set_option linter.unusedVariables false
theorem Shelf.writeStringK (B b : Nat) (bs : List Value) (s : ByteArray) (w : World) (h : Lib.IsBuilderF 66 5 B b bs w) (hlen : bs.length + s.size ≤ 140737488355328) (hBw : B ≤ w.heap.size) :
    Calls Tryz.prog 40 #[.pointer (some ⟨b, 0, none⟩), .string s] w fun e w' => e = .returned (.tuple #[.int .i64 s.size, .nilIface]) ∧ (Lib.BuilderAtF 66 5 B b (.pointer (some ⟨b, 0, none⟩)) (bs ++ Lib.strCells s) w' ∧ Below B w w' ∧ Lib.OthersKept 5 (some b) w w') :=
  Any.Builder_WriteString_k Shelf.lays166 Shelf.build_extra B b bs s w h hlen hBw
theorem Shelf.builderStringK (B b : Nat) (l : List UInt8) (w : World) (h : Lib.IsBuilderF 66 5 B b (Lib.byteCells l) w) (hBw : B ≤ w.heap.size) :
    Calls Tryz.prog 42 #[.pointer (some ⟨b, 0, none⟩)] w fun e w' => e = .returned (.string ⟨l.toArray⟩) ∧ (Lib.IsBuilderF 66 5 B b (Lib.byteCells l) w' ∧ Below B w w' ∧ Lib.OthersKept 5 (some b) w w') :=
  Any.Builder_String_any_k Shelf.lays169 Shelf.build_extra B b l w h hBw
namespace Body
/-- rows of cells that are there stay -/
def RowsStay (W W' : World) : Prop := ∀ (k : Nat) (c : Array Value) (t : TypeId) (fz : Nat × Nat), W.heap[k]? = some (Obj.cells c t fz) → W'.heap[k]? = some (Obj.cells c t fz)
theorem rows_below {W W' : World} (h : Below W.heap.size W W') : RowsStay W W' := fun k c t fz hk => (h.block k (Array.getElem?_eq_some_iff.1 hk).1).trans hk
theorem isb_rows {T e : TypeId} {B b : Nat} {bs : List Value} {W W' : World} (h : Lib.IsBuilderF T e B b bs W) (hr : RowsStay W W') : Lib.IsBuilderF T e B b bs W' := by
  have key : ∀ p, Lib.BuilderAtF T e B b p bs W → Lib.BuilderAtF T e B b p bs W' := by
    rintro p ⟨hB, v, hb, ⟨h1, h2⟩, hne⟩
    refine ⟨hB, v, hr _ _ _ _ hb, ⟨h1, ?_⟩, hne⟩
    rcases h2 with h2 | ⟨g, cap, cur, fz, e1, e2, e3, e4⟩
    · exact .inl h2
    · exact .inr ⟨g, cap, cur, fz, e1, e2, hr _ _ _ _ e3, e4⟩
  exact h.elim (fun x => .inl (key _ x)) (fun x => .inr (key _ x))
theorem rows_turn {W W' : World} {row : Option Nat} (hg : W.grownBy W' row) (hr : ∀ r, row = some r → ∃ o : Obj, W.heap[r]? = some o ∧ o.isCells = false) : RowsStay W W' := fun k c t fz hk =>
  (hg.block k (Array.getElem?_eq_some_iff.1 hk).1 (fun e => by
    obtain ⟨o, ho, hc⟩ := hr k e.symm
    rw [hk] at ho
    cases ho
    cases hc)).trans hk
theorem isb_own {β : Type} (n : Nat) (T e : TypeId) (B b : Nat) (f : β → List Value) : OwnFrom n (fun s W => Lib.IsBuilderF T e B b (f s) W) := fun s W W' row hs hg hr => isb_rows hs (rows_turn hg (fun r e => (hr r e).2))
/-- a block that is there stays as it is -/
def KeepB (k : Nat) (W W' : World) : Prop := ∀ o, W.heap[k]? = some o → W'.heap[k]? = some o
theorem keepB_t {k : Nat} {A B C : World} (h : KeepB k A B) (g : KeepB k B C) : KeepB k A C := fun o ho => g o (h o ho)
theorem keepB_b {k : Nat} {w : World} (hk : k < w.heap.size) (W : World) (l : Nat) (o o' : Obj) (hl : w.heap.size ≤ l) (h : W.heap[l]? = some o) (_ : o.isCells = false) (_ : o.isWalk = false) : KeepB k W (W.putObj l o') := fun x hx => (World.putObj_heap_other (by omega)).trans hx
theorem keepB_below {k : Nat} {W W' : World} (h : Below W.heap.size W W') : KeepB k W W' := fun o ho => (h.block k (Array.getElem?_eq_some_iff.1 ho).1).trans ho
theorem keepB_others {k b : Nat} {e : TypeId} {W W' : World} (h : Lib.OthersKept e (some b) W W') (hk : k ≠ b) {c : Array Value} {t : TypeId} {fz : Nat × Nat} (hc : W.heap[k]? = some (.cells c t fz)) (ht : t ≠ e) : KeepB k W W' := fun o ho => by
  rw [hc] at ho
  cases ho
  exact h k _ hc (fun e => hk (by cases e; rfl)) (fun c' fz' e => by cases e; exact ht rfl)
theorem from_others {b n : Nat} {e : TypeId} {W W' : World} (h : Lib.OthersKept e (some b) W W') (hs : W.heap.size ≤ W'.heap.size) (hn : b < n) : KeepsFrom n W W' :=
  ⟨hs, fun k o hk ho hc => h k o ho (fun e => by cases e; omega) (fun c fz e => by subst e; cases hc)⟩
theorem from_below {n : Nat} {W W' : World} (h : Below W.heap.size W W') : KeepsFrom n W W' := ⟨h.size, fun k o _ ho _ => (h.block k (Array.getElem?_eq_some_iff.1 ho).1).trans ho⟩
end Body
end Go.Proofs.YtkenmilglfnmbaaGreatDoor
namespace Go.Proofs.YtkenmilglfnmbaaGreatDoor
open Go.RowKit Go.Shelf
attribute [local go_sem] Oper.semAt_some
set_option linter.unusedVariables false
namespace Body

/-- a piece, as it is handed on -/
abbrev Pc := { x : Pc0 // x.1.size ≤ 60 ∧ x.2.1 ≤ 4194304 ∧ x.2.2 ≤ 2 }
def catB (l : List Pc) : ByteArray := l.foldl (fun o x => o ++ x.1.1) ⟨#[]⟩
def sumU (l : List Pc) : Nat := l.foldl (fun n x => n + x.1.2.1) 0
theorem catB_snoc (l : List Pc) (x : Pc) : catB (l ++ [x]) = catB l ++ x.1.1 := by unfold catB; rw [List.foldl_append]; rfl
theorem sumU_snoc (l : List Pc) (x : Pc) : sumU (l ++ [x]) = sumU l + x.1.2.1 := by unfold sumU; rw [List.foldl_append]; rfl
/-- of what there was all rows of pieces stay, and all that is old -/
def KeepP (n : Nat) (W W' : World) : Prop := Below n W W' ∧ ∀ (k : Nat) (c : Array Value) (fz : Nat × Nat), W.heap[k]? = some (.cells c 117 fz) → W'.heap[k]? = some (.cells c 117 fz)
theorem keepP_t {n : Nat} {A B C : World} (h : KeepP n A B) (g : KeepP n B C) : KeepP n A C := ⟨h.1.trans g.1, fun k c fz hk => g.2 k c fz (h.2 k c fz hk)⟩
theorem keepP_b {n : Nat} {w : World} (hn : n ≤ w.heap.size) (W : World) (l : Nat) (o o' : Obj) (hl : w.heap.size ≤ l) (h : W.heap[l]? = some o) (hc : o.isCells = false) (hw : o.isWalk = false) : KeepP n W (W.putObj l o') :=
  ⟨belowK_b hn W l o o' hl h hc hw, fun k c fz hk => (World.putObj_heap_other (by rintro rfl; rw [h] at hk; cases hk; cases hc)).trans hk⟩
theorem grown_of_below {W W' : World} (h : Below W.heap.size W W') : W.grownBy W' none := ⟨h.os, h.tape, h.output, h.size, fun k hk _ => h.block k hk⟩
/-- what is known at the end, and where it was left -/
def PEnd (s : ByteArray) (xs : List Pc) : Prop := (∀ x ∈ xs, x.1.2.2 = 0) → unchunk s = (catB xs, (sumU xs : Int), 0)
def PLeft (s : ByteArray) (xs : List Pc) : Prop := ∀ init x, xs = init ++ [x] → x.1.2.2 ≠ 0 → unchunk s = (⟨#[]⟩, 0, (x.1.2.2 : Int))
theorem snoc_inj {α : Type} {l l' : List α} {x x' : α} (h : l ++ [x] = l' ++ [x']) : l = l' ∧ x = x' := by
  have := List.append_inj' h rfl
  exact ⟨this.1, by simpa using this.2⟩
set_option maxRecDepth 100000 in
set_option maxHeartbeats 4000000 in
theorem pieces_stops (n n0 k1 : Nat) (s : ByteArray) (m b : Addr) (w : World) (hn : 1 ≤ n) (hs : s.size ≤ 1048576) (hn0 : n0 ≤ w.heap.size)
    (hG : ∀ W, Below n0 w W → Lim W ∧ Syn W ∧ Errs m b W)
    (h1 : w.heap[k1]? = some (.cells #[.string s] 9 (0, 0))) :
    SeqStopsK Fence.wide n Tryz.prog 132 #[.pointer (some ⟨k1, 0, none⟩)] (fun x : Pc => #[Value.agg #[.string x.1.1, .int .i64 (x.1.2.1 : Int)], errV m b x.1.2.2]) (KeepP n0) (PEnd s) (PLeft s) (s.size + 1) w := fun l J Jx W hW hJ hJx hY h0 => by
  have hW1 := (hW.block k1 (Array.getElem?_eq_some_iff.1 h1).1).trans h1
  have hc1 : W.cell? ⟨k1, 0, none⟩ = some (.string s) := by simp [World.cell?, hW1]
  have HY := Num.hide hY
  have HJ := Num.hide hJ
  have H0 := Num.hide h0
  have HG := Num.hide hG
  have HW := Num.hide (hW.mono hn0)
  clear hW hJ hJx hY h0 hW1 h1 hG
  refine callsIn_of_wp Tryz.func132 rfl trivial ?_ rfl
  simp only [Tryz.ntmps132, List.size_toArray, List.length_cons, List.length_nil, Nat.reduceAdd, Nat.reduceSub, Array.replicate_succ, Array.replicate_zero, List.push_toArray, List.append_toArray, List.nil_append, List.cons_append]
  gi_wp2
  gi_loopw [3, 4] (fun rv ov wr => ∃ (a room : Nat) (pre : List Pc), rv = .string (s.extract a s.size) ∧ ov = .int .i64 (room : Int) ∧ a ≤ s.size ∧ room ≤ 60 ∧ pre.length ≤ a ∧ Hid (room + (catB pre).size = 60 ∧ UnAt s a (catB pre) ∧ sumU pre = a ∧ ∀ x ∈ pre, x.1.2.2 = 0) ∧ Hid (J pre wr) ∧ Hid (Below n0 w wr) ∧ W.heap.size ≤ wr.heap.size) (fun rv _ _ => match rv with | .string t => t.size | _ => 0)
  case atStart => exact ⟨0, 60, [], by simp, rfl, Nat.zero_le _, Nat.le_refl _, Nat.le_refl _, ⟨rfl, un_start s, rfl, fun x h => by cases h⟩, H0, HW, Nat.le_refl _⟩
  case round =>
    obtain ⟨a, room, pre, rfl, rfl, ha, hr, hpl, HA, HJp, HB, hzs⟩ := hrel
    obtain ⟨hm, hS, hE⟩ := HG.out _ HB.out
    have HC := Num.hide (piece_impl s a room m b wr hs ha hr hm hS hE)
    have hz : (s.extract a s.size).size = s.size - a := by rw [ByteArray.size_extract]; omega
    have hcd := pc_code (s := s) (a := a) (room := room)
    have HT := Num.hide (fun h => pc_told (room := room) HA.out.2.1 HA.out.1 h)
    have HRt := Num.hide (fun h => pc_right (room := room) HA.out.2.1 HA.out.1 h)
    clear hm hS hE
    unfold pcV at HC
    generalize pieceAt s a room = X at HC hcd HT HRt
    obtain ⟨t, u, c⟩ := X
    have hpn : pre.length < s.size + 1 := by omega
    by_cases hc : c = 0
    · subst hc
      obtain ⟨g1, g2, g3, g4, g5⟩ := HRt.out rfl
      have G4 := Num.hide g4
      have G5 := Num.hide g5
      replace g1 : t.size ≤ room := g1
      replace g2 : a + u ≤ s.size := g2
      have hp : t.size ≤ 60 ∧ u ≤ 4194304 ∧ 0 ≤ 2 := ⟨Nat.le_trans g1 hr, by omega, hcd⟩
      clear g4 g5 HT HRt hcd
      simp only [errV] at HC
      by_cases ht : t.size = 0
      · obtain rfl : t = ⟨#[]⟩ := Sign.empty_true _ ht
        have HYx := Num.hide (fun W => HY.out pre ⟨(⟨#[]⟩, u, 0), hp⟩ W)
        gi_wp2_with (refine ⟨trivial, ?_⟩; gi_at_call 133; refine (callsIn_wide.2 HC.out).mono ?_; rintro e w1 ⟨rfl, hb1⟩; have hb2 : Below wr.heap.size wr (w1.alloc (.cells #[.string ⟨#[]⟩, .int .i64 (u : Int)] 117)) := hb1.alloc hb1.size _; have hbx := World.alloc_heap_new w1 (.cells #[.string ⟨#[]⟩, .int .i64 (u : Int)] 117); obtain ⟨fn, tmps, assign, body, hy, hR⟩ := HYx.out _ (HJ.out pre wr _ none HJp.out (grown_of_below hb2) (fun r e => by cases e)) hpn; simp only [errV] at hy; have HR := Num.hide hR; have hws := hb2.size; have HB2 := Num.hide (HB.out.trans (hb2.mono (Nat.le_trans hn0 HB.out.size))); clear hR hb1 hb2 HC)
        refine HR.out.mono ?_
        rintro e W3 (⟨rfl, hJ3, hk3⟩ | ⟨rfl, hJx3⟩)
        · have hbx3 := hk3.2 _ _ _ hbx
          have c0 : W3.cell? ⟨w1.heap.size, 0, none⟩ = some (.string ⟨#[]⟩) := by simp [World.cell?, hbx3]
          have HJ3 := Num.hide hJ3
          clear hk3 hJ3
          gi_wp2
          refine bodyPost_ret (results_none rfl _ _ _) rfl ?_
          exact ⟨⟨_, rfl⟩, .inl ⟨_, fun _ => by rw [catB_snoc, sumU_snoc, HA.out.2.2.1]; exact G4.out rfl, HJ3.out⟩⟩
        · have HJ3 := Num.hide hJx3
          clear hJx3
          gi_wp2
          refine bodyPost_ret (results_none rfl _ _ _) rfl ?_
          exact ⟨⟨_, rfl⟩, .inr ⟨_, fun init x he hx => by obtain ⟨rfl, rfl⟩ := snoc_inj he; exact absurd rfl hx, HJ3.out⟩⟩
      · have hne := Sign.empty_false t (by omega)
        have HYx := Num.hide (fun W => HY.out pre ⟨(t, u, 0), hp⟩ W)
        gi_wp2_with (refine ⟨trivial, ?_⟩; gi_at_call 133; refine (callsIn_wide.2 HC.out).mono ?_; rintro e w1 ⟨rfl, hb1⟩; have hb2 : Below wr.heap.size wr (w1.alloc (.cells #[.string t, .int .i64 (u : Int)] 117)) := hb1.alloc hb1.size _; have hbx := World.alloc_heap_new w1 (.cells #[.string t, .int .i64 (u : Int)] 117); obtain ⟨fn, tmps, assign, body, hy, hR⟩ := HYx.out _ (HJ.out pre wr _ none HJp.out (grown_of_below hb2) (fun r e => by cases e)) hpn; simp only [errV] at hy; have HR := Num.hide hR; have hws := hb2.size; have HB2 := Num.hide (HB.out.trans (hb2.mono (Nat.le_trans hn0 HB.out.size))); clear hR hb1 hb2 HC)
        refine HR.out.mono ?_
        rintro e W3 (⟨rfl, hJ3, hk3⟩ | ⟨rfl, hJx3⟩)
        · have hbx3 := hk3.2 _ _ _ hbx
          have c0 : W3.cell? ⟨w1.heap.size, 0, none⟩ = some (.string t) := by simp [World.cell?, hbx3]
          have c1 : W3.cell? ⟨w1.heap.size, 1, none⟩ = some (.int .i64 (u : Int)) := by simp [World.cell?, hbx3]
          have HJ3 := Num.hide hJ3
          have HB3 := Num.hide (HB2.out.trans hk3.1)
          have hz3 := hk3.1.size
          clear hk3 hJ3
          have hsl : (s.extract a s.size).extract u (s.size - a) = s.extract (a + u) s.size := by
            rw [ByteArray.extract_extract]
            congr 1
            omega
          have hmx : Tryz.prog.follows .mixedOrders = true := by kernel_rfl
          gi_wp2
          gi_region_o
          all_goals gi_wp2
          have HJd : Hid (J (pre ++ [⟨(t, u, 0), hp⟩]) W3.drew) := HJ.out _ W3 _ none HJ3.out (grown_of_below ((Below.refl _ W3).drew)) (fun r e => by cases e)
          have hlast : Hid (room - t.size + (catB (pre ++ [⟨(t, u, 0), hp⟩])).size = 60 ∧ UnAt s (a + u) (catB (pre ++ [⟨(t, u, 0), hp⟩])) ∧ sumU (pre ++ [⟨(t, u, 0), hp⟩]) = a + u ∧ ∀ x ∈ (pre ++ [⟨(t, u, 0), hp⟩]), x.1.2.2 = 0) := by
            have g := HA.out
            refine ⟨by rw [catB_snoc, ByteArray.size_append]; have := g.1; show room - t.size + ((catB pre).size + t.size) = 60; omega, by rw [catB_snoc]; exact G5.out ht, by rw [sumU_snoc, g.2.2.1], fun x hx => ?_⟩
            rcases List.mem_append.1 hx with hx | hx
            · exact g.2.2.2 x hx
            · obtain rfl := List.mem_singleton.1 hx
              rfl
          go_roundw
          case rel => exact ⟨a + u, room - t.size, _, rfl, by congr 1; omega, g2, by omega, by rw [List.length_append, List.length_singleton]; omega, hlast, HJd, HB3.out.drew, by show W.heap.size ≤ W3.heap.size; omega⟩
          case measure => simp only [ByteArray.size_extract]; omega
        · have HJ3 := Num.hide hJx3
          clear hJx3
          gi_wp2
          refine bodyPost_ret (results_none rfl _ _ _) rfl ?_
          exact ⟨⟨_, rfl⟩, .inr ⟨_, fun init x he hx => by obtain ⟨rfl, rfl⟩ := snoc_inj he; exact absurd rfl hx, HJ3.out⟩⟩
    · obtain ⟨g1, rfl, rfl⟩ := HT.out hc
      have G1 := Num.hide g1
      have hp : (⟨#[]⟩ : ByteArray).size ≤ 60 ∧ 0 ≤ 4194304 ∧ c ≤ 2 := ⟨by decide, by omega, hcd⟩
      obtain ⟨ad, had⟩ : ∃ ad, errV m b c = .iface 199 (.pointer (some ad)) := by
        match c, hc, hcd with
        | 1, _, _ => exact ⟨m, rfl⟩
        | 2, _, _ => exact ⟨b, rfl⟩
      have HYx := Num.hide (fun W => HY.out pre ⟨(⟨#[]⟩, 0, c), hp⟩ W)
      simp only [had] at HYx
      rw [had, show ((0 : Nat) : Int) = 0 from rfl] at HC
      clear g1 HT HRt
      gi_wp2_with (refine ⟨trivial, ?_⟩; gi_at_call 133; refine (callsIn_wide.2 HC.out).mono ?_; rintro e w1 ⟨rfl, hb1⟩; have hb2 : Below wr.heap.size wr (w1.alloc (.cells #[.string ⟨#[]⟩, .int .i64 0] 117)) := hb1.alloc hb1.size _; have hbx := World.alloc_heap_new w1 (.cells #[.string ⟨#[]⟩, .int .i64 0] 117); obtain ⟨fn, tmps, assign, body, hy, hR⟩ := HYx.out _ (HJ.out pre wr _ none HJp.out (grown_of_below hb2) (fun r e => by cases e)) hpn; rw [show ((0 : Nat) : Int) = 0 from rfl] at hy; have HR := Num.hide hR; have hws := hb2.size; have HB2 := Num.hide (HB.out.trans (hb2.mono (Nat.le_trans hn0 HB.out.size))); clear hR hb1 hb2 HC)
      refine HR.out.mono ?_
      rintro e W3 (⟨rfl, hJ3, hk3⟩ | ⟨rfl, hJx3⟩)
      · have HJ3 := Num.hide hJ3
        clear hk3 hJ3
        gi_wp2
        refine bodyPost_ret (results_none rfl _ _ _) rfl ?_
        exact ⟨⟨_, rfl⟩, .inl ⟨_, fun h => absurd (h _ (List.mem_append.2 (.inr (List.mem_singleton.2 rfl)))) hc, HJ3.out⟩⟩
      · have HJ3 := Num.hide hJx3
        clear hJx3
        gi_wp2
        refine bodyPost_ret (results_none rfl _ _ _) rfl ?_
        exact ⟨⟨_, rfl⟩, .inr ⟨_, fun init x he hx => by obtain ⟨rfl, rfl⟩ := snoc_inj he; exact G1.out, HJ3.out⟩⟩
end Body
end Go.Proofs.YtkenmilglfnmbaaGreatDoor
