/-
  TrimImpl: Trim of the program: what the call returns, for every text; what was there stays.
  AddPart: addPart of the program: a part, trimmed, put behind the parts, where it is not empty.
  SplitAt: SplitList of the program: the parts of a text, in a row of the call's own; what was there stays.
  SplitImpl: SplitList of the program: the parts of a text, in a row of the call's own; what was there stays.
  DirsImpl: Directives of the program: the directives of a list of fields, in a row of the call's own; what was there stays.
  SecondsImpl: isDigit and Seconds of the program: what the calls return, for every byte and every text; the world stays.
-/
import Derived.Test.YtbcjpjhpobmpbaaGreatDoorPan
import Derived.Test.YtbcjpjhpobmpbaaGreatDoorTrimSpec
import Derived.Shelf.Strings.SlTrimAscii
import Derived.Test.YtbcjpjhpobmpbaaGreatDoorPai
import Derived.Test.YtbcjpjhpobmpbaaGreatDoorPaa
import Derived.Lib.OthersKept
import Derived.Test.YtbcjpjhpobmpbaaGreatDoorPam
import Derived.Test.YtbcjpjhpobmpbaaGreatDoorRows
import Derived.Laws.Strings
import Derived.Test.YtbcjpjhpobmpbaaGreatDoorDigitImpl
namespace Go.Proofs.YtbcjpjhpobmpbaaGreatDoor
open Go.Shelf Go.RowKit
set_option linter.unusedVariables false
namespace Sign

theorem right_cons (p : UInt8 → Bool) (c : UInt8) (l : List UInt8) : ((c :: l).reverse.dropWhile p).reverse = if (l.reverse.dropWhile p).isEmpty then (if p c then [] else [c]) else c :: (l.reverse.dropWhile p).reverse := by
  rw [List.reverse_cons, List.dropWhile_append]
  by_cases h : (l.reverse.dropWhile p).isEmpty = true
  · rw [if_pos h, if_pos h]
    by_cases hc : p c = true
    · rw [if_pos hc, List.dropWhile_cons_of_pos hc]; rfl
    · rw [if_neg hc, List.dropWhile_cons_of_neg hc]; rfl
  · rw [if_neg h, if_neg h, List.reverse_append]; rfl
theorem left_right (p : UInt8 → Bool) (l : List UInt8) : ((l.reverse.dropWhile p).reverse).dropWhile p = ((l.dropWhile p).reverse.dropWhile p).reverse := by
  induction l with
  | nil => rfl
  | cons c l ih =>
    rw [right_cons]
    by_cases hc : p c = true
    · rw [List.dropWhile_cons_of_pos hc, ← ih, if_pos hc]
      by_cases h : (l.reverse.dropWhile p).isEmpty = true
      · rw [if_pos h, List.isEmpty_iff.1 h]; rfl
      · rw [if_neg h, List.dropWhile_cons_of_pos hc]
    · rw [List.dropWhile_cons_of_neg hc, right_cons, if_neg hc]
      by_cases h : (l.reverse.dropWhile p).isEmpty = true
      · rw [if_pos h, List.dropWhile_cons_of_neg hc]
      · rw [if_neg h, List.dropWhile_cons_of_neg hc]
theorem bl_contains (b : UInt8) : ([32, 9] : List UInt8).contains b = bl b := by
  unfold bl
  have e : (([32, 9] : List UInt8).contains b = true) ↔ blank (b.toNat : Int) := by
    rw [List.contains_iff_mem, List.mem_cons, List.mem_singleton, ← UInt8.toNat_inj, ← UInt8.toNat_inj]
    unfold blank; simp; omega
  rw [Bool.eq_iff_iff, decide_eq_true_iff]; exact e
theorem trimS_eq (s : ByteArray) : (⟨(Lib.trimS s.data.toList [32, 9]).toArray⟩ : ByteArray) = trim s := by
  unfold trim Lib.trimS Lib.trimLeftS Lib.trimRightS
  have e : (fun b => ([32, 9] : List UInt8).contains b) = bl := funext bl_contains
  rw [e, left_right]
theorem size_trim (s : ByteArray) : (trim s).size ≤ s.size := by
  show ((s.data.toList.dropWhile bl).reverse.dropWhile bl).reverse.toArray.size ≤ s.size
  rw [List.size_toArray, List.length_reverse]
  have h1 := (List.dropWhile_sublist bl (l := (s.data.toList.dropWhile bl).reverse)).length_le
  have h2 := (List.dropWhile_sublist bl (l := s.data.toList)).length_le
  rw [List.length_reverse] at h1
  have e : s.data.toList.length = s.size := by rw [Array.length_toList]; rfl
  omega
theorem strings_trim (s : ByteArray) (w : World) (hs : s.size ≤ maxLen) :
    Calls Tryz.prog 164 #[.string s, .string ⟨#[32, 9]⟩] w fun e w' => e = .returned (.string (trim s)) ∧ Below w.heap.size w w' := by
  have h := Any.strings_Trim_laid Shelf.lays160 (by kernel_rfl) s ⟨#[32, 9]⟩ w (by unfold maxLen at hs; omega) (by decide) (ascii_of_all (by decide))
  rw [← trimS_eq]
  exact h
set_option maxHeartbeats 1000000 in
theorem trim_impl (s : ByteArray) (w : World) (hs : s.size ≤ 281474976710656) :
    Calls Tryz.prog 154 #[.string s] w fun e w' => e = .returned (.string (trim s)) ∧ Below w.heap.size w w' := by
  have HS := Num.hide (fun W => strings_trim s W (by unfold maxLen; omega))
  have hz := size_trim s
  generalize trim s = t at HS hz ⊢
  go_enter Tryz.func154, Tryz.ntmps154
  go_wp2_with fail
  refine (HS.out _).mono ?_
  rintro e w1 ⟨rfl, hb1⟩
  go_wp2_with fail
  refine (Shelf.clone t _ (by omega)).mono ?_
  rintro e w2 ⟨rfl, hb2⟩
  go_wp2
  go_ret
  exact ⟨rfl, hb1.trans (hb2.mono hb1.size)⟩
end Sign
end Go.Proofs.YtbcjpjhpobmpbaaGreatDoor
namespace Go.Proofs.YtbcjpjhpobmpbaaGreatDoor
open Go.RowKit
set_option linter.unusedVariables false
namespace Sign

def partOf (t : ByteArray) : List ByteArray := if (trim t).size = 0 then [] else [trim t]

set_option maxRecDepth 100000 in
set_option maxHeartbeats 1000000 in
theorem addPart_any (B : Nat) (v : Value) (l : List ByteArray) (t : ByteArray) (w : World) (hown : Strs.OwnS B w v l) (hB : B ≤ w.heap.size) (ht : t.size ≤ 281474976710656) (hl : l.length ≤ 1073741824) :
    Calls Tryz.prog 138 #[v, .string t] w fun e w' => ∃ v', e = .returned v' ∧ Strs.OwnS B w' v' (l ++ partOf t) ∧ w.grownBy w' v.ownBlock := by
  obtain ⟨i0, hi, hz0, hz1, hz2⟩ := info_parts Strs.infoS
  have HT := Num.hide (fun W => trim_impl t W ht)
  have HO := Num.hide hown
  obtain ⟨va, vc, hv⟩ := Strs.own_len hown
  clear hown
  obtain ⟨L, hL⟩ : ∃ L, l ++ partOf t = L := ⟨_, rfl⟩
  rw [hL]
  unfold partOf at hL
  generalize trim t = r at HT hL
  have HL := Num.hide hL
  clear hL
  subst hv
  go_enter Tryz.func138, Tryz.ntmps138
  go_wp2_with fail
  refine (HT.out _).mono ?_
  rintro e w1 ⟨rfl, hb1⟩
  have hB1 : B ≤ w1.heap.size := Nat.le_trans hB hb1.size
  have HO1 := Num.hide (Strs.own_below HO.out hb1)
  by_cases h0 : r.size = 0
  · obtain rfl : r = ⟨#[]⟩ := empty_true r h0
    go_wp2
    go_ret
    refine ⟨_, rfl, ?_, Strs.grown_of_below hb1 _⟩
    rw [← HL.out, if_pos h0, List.append_nil]
    exact HO1.out
  · have hne := empty_false r (by omega)
    have HB := Num.hide hb1
    clear hb1
    go_wp2_with (at_builtin; refine wpList_append_own _ rfl _ _ 55 rfl B 9 i0 (.string ⟨#[]⟩) 1 16 Tryz.underlying55 hi hz0 hz1 hz2 rfl (by decide) _ _ _ rfl (World.ownsRow.alloc HO1.out _) ⟨w1.heap.size, 0, none⟩ 1 1 [.string r] rfl rfl (Strs.cells_one w1 r) (Strs.one_ok r) (by unfold maxLen; omega) (by omega) ?c5 ?_)
    case c5 => simp; omega
    intro v' w2 ho2 hg2 _
    have hg3 := Num.hide (Strs.grown_trans (Strs.grown_of_below HB.out _) (Strs.grown_trans (World.grownBy_alloc w1 (.cells #[.string r] 9) _) hg2))
    have ho3 := Num.hide (Strs.own_snoc ho2)
    clear ho2 hg2
    go_wp2
    go_ret
    refine ⟨_, rfl, ?_, hg3.out⟩
    rw [← HL.out, if_neg h0]
    exact ho3.out
end Sign
end Go.Proofs.YtbcjpjhpobmpbaaGreatDoor
namespace Go.Proofs.YtbcjpjhpobmpbaaGreatDoor
open Go.RowKit
set_option linter.unusedVariables false
namespace Sign

/-- where the program stands within the text: what has been gathered and what is still to come make the parts -/
structure At (s : ByteArray) (pos : Nat) (E : Int) (a : Nat) (q : Bool) (l : List ByteArray) : Prop where
  le : pos ≤ s.size
  from_le : a ≤ pos
  esc_le : E ≤ (pos : Int)
  len : l.length ≤ pos
  skip : E = (pos : Int) → split s = l ++ rest s (s.size - (pos + 1)) a q
  next : E ≠ (pos : Int) → split s = l ++ rest s (s.size - pos) a q
theorem at_start (s : ByteArray) : At s 0 (-1) 0 false [] where
  le := Nat.zero_le _
  from_le := Nat.le_refl _
  esc_le := by omega
  len := Nat.le_refl _
  skip := fun h => by omega
  next := fun _ => by rw [List.nil_append, Nat.sub_zero]; rfl
theorem partOf_part (s : ByteArray) (a b : Nat) : partOf (s.extract a b) = part s a b := rfl
theorem length_part (s : ByteArray) (a b : Nat) : (part s a b).length ≤ 1 := by unfold part; split <;> simp
section
variable {s : ByteArray} {pos : Nat} {E : Int} {a : Nat} {q : Bool} {l : List ByteArray}
/-- a sign that was escaped, or one from 128 on -/
theorem at_wide (h : At s pos E a q l) (hp : pos < s.size) (d : Nat) (hd : 1 ≤ d) (hle : pos + d ≤ s.size) (hh : ∀ j (hj : j < s.size), pos < j → j < pos + d → 128 ≤ (s[j]).toNat) (hs : E = (pos : Int) ∨ 128 ≤ (s[pos]).toNat) : At s (pos + d) E a q l where
  le := hle
  from_le := Nat.le_trans h.from_le (by omega)
  esc_le := by have := h.esc_le; omega
  len := Nat.le_trans h.len (by omega)
  skip := fun e => by have := h.esc_le; omega
  next := fun _ => by
    have e1 : split s = l ++ rest s (s.size - (pos + 1)) a q := by
      by_cases e : E = (pos : Int)
      · exact h.skip e
      · have hb : 128 ≤ (s[pos]).toNat := hs.elim (fun h => absurd h e) id
        rw [h.next e, rest_else s pos a q hp (by omega) (by omega) (by omega)]
    rw [e1, rest_high s a q (d - 1) (pos + 1) (by omega) (fun j hj h1 h2 => hh j hj (by omega) (by omega)), show pos + 1 + (d - 1) = pos + d by omega]
theorem at_skip_one (h : At s pos E a q l) (hp : pos < s.size) (he : E = (pos : Int)) : At s (pos + 1) E a q l :=
  at_wide h hp 1 (Nat.le_refl _) hp (fun j hj h1 h2 => by omega) (.inl he)
theorem at_esc (h : At s pos E a true l) (hp : pos < s.size) (he : E ≠ (pos : Int)) (hc : (s[pos]).toNat = 92) : At s (pos + 1) ((pos : Int) + 1) a true l where
  le := hp
  from_le := Nat.le_trans h.from_le (by omega)
  esc_le := by omega
  len := Nat.le_trans h.len (by omega)
  skip := fun _ => by rw [h.next he, rest_esc s pos a hp hc]
  next := fun e => by omega
theorem at_quote (h : At s pos E a q l) (hp : pos < s.size) (he : E ≠ (pos : Int)) (hc : (s[pos]).toNat = 34) : At s (pos + 1) E a (!q) l where
  le := hp
  from_le := Nat.le_trans h.from_le (by omega)
  esc_le := by have := h.esc_le; omega
  len := Nat.le_trans h.len (by omega)
  skip := fun e => by have := h.esc_le; omega
  next := fun _ => by rw [h.next he, rest_quote s pos a q hp hc]
theorem at_comma (h : At s pos E a false l) (hp : pos < s.size) (he : E ≠ (pos : Int)) (hc : (s[pos]).toNat = 44) : At s (pos + 1) E (pos + 1) false (l ++ partOf (s.extract a pos)) where
  le := hp
  from_le := Nat.le_refl _
  esc_le := by have := h.esc_le; omega
  len := by rw [List.length_append, partOf_part]; have := length_part s a pos; have := h.len; omega
  skip := fun e => by have := h.esc_le; omega
  next := fun _ => by rw [h.next he, rest_comma s pos a hp hc, List.append_assoc, partOf_part]
theorem at_else (h : At s pos E a q l) (hp : pos < s.size) (he : E ≠ (pos : Int)) (h1 : (s[pos]).toNat ≠ 34) (h2 : ¬ (q = true ∧ (s[pos]).toNat = 92)) (h3 : ¬ ((s[pos]).toNat = 44 ∧ q = false)) : At s (pos + 1) E a q l where
  le := hp
  from_le := Nat.le_trans h.from_le (by omega)
  esc_le := by have := h.esc_le; omega
  len := Nat.le_trans h.len (by omega)
  skip := fun e => by have := h.esc_le; omega
  next := fun _ => by rw [h.next he, rest_else s pos a q hp h1 h2 h3]
theorem at_end (h : At s s.size E a q l) : l ++ partOf (s.extract a s.size) = split s := by
  by_cases e : E = (s.size : Int)
  · rw [h.skip e, rest_end s _ a q (by omega), partOf_part]
  · rw [h.next e, rest_end s _ a q (Nat.le_refl _), partOf_part]
end
end Sign
end Go.Proofs.YtbcjpjhpobmpbaaGreatDoor
namespace Go.Proofs.YtbcjpjhpobmpbaaGreatDoor
open Go.RowKit
set_option linter.unusedVariables false
namespace Sign

/-- the program's memory within the text -/
structure Lay (w : World) (s : ByteArray) (pos : Nat) (l : List ByteArray) (v : Value) (wr : World) : Prop where
  own : Strs.OwnS (w.heap.size + 1) wr v l
  iter : wr.heap[w.heap.size]? = some (.stringIter s pos)
  below : Below w.heap.size w wr
theorem Lay.lt {w : World} {s : ByteArray} {pos : Nat} {l : List ByteArray} {v : Value} {wr : World} (m : Lay w s pos l v wr) : w.heap.size < wr.heap.size := (Array.getElem?_eq_some_iff.1 m.iter).1
theorem Lay.move {w : World} {s : ByteArray} {pos : Nat} {l : List ByteArray} {v : Value} {wr : World} (m : Lay w s pos l v wr) (pos' : Nat) : Lay w s pos' l v (wr.iterAt w.heap.size s pos') where
  own := ownsRow_iterAt m.own (by omega) s pos'
  iter := Lib.iterAt_heap wr _ s pos pos' m.iter
  below := Lib.below_iterAt m.below (Nat.le_refl _) s pos'
theorem Lay.put {w : World} {s : ByteArray} {pos : Nat} {l : List ByteArray} {v : Value} {wr : World} (m : Lay w s pos l v wr) {l' : List ByteArray} {v' : Value} {w2 : World}
    (ho : Strs.OwnS (w.heap.size + 1) w2 v' l') (hg : wr.grownBy w2 v.ownBlock) : Lay w s pos l' v' w2 where
  own := ho
  iter := by
    have hlt := m.lt
    rw [hg.block w.heap.size hlt (by intro h; have := (Strs.own_lt m.own _ h.symm).1; omega)]; exact m.iter
  below := Strs.below_grown m.below hg (fun j hj => by have := (Strs.own_lt m.own j hj).1; omega) (Nat.le_of_lt m.lt)
/-- the program within the text -/
structure Mid (w : World) (s : ByteArray) (pos : Nat) (E : Int) (a : Nat) (q : Bool) (l : List ByteArray) (v : Value) (wr : World) : Prop where
  at_ : At s pos E a q l
  lay : Lay w s pos l v wr
theorem Mid.move {w : World} {s : ByteArray} {pos : Nat} {E : Int} {a : Nat} {q : Bool} {l : List ByteArray} {v : Value} {wr : World} (m : Mid w s pos E a q l v wr) (pos' : Nat) {E' : Int} {a' : Nat} {q' : Bool} (h : At s pos' E' a' q' l) : Mid w s pos' E' a' q' l v (wr.iterAt w.heap.size s pos') := ⟨h, m.lay.move pos'⟩
theorem start_mid (s : ByteArray) (w : World) : Mid w s 0 (-1) 0 false [] (.slice none 0 0) (w.alloc (.stringIter s 0)) where
  at_ := at_start s
  lay := ⟨Strs.own_nil _ _, by show (w.heap.push _)[w.heap.size]? = _; rw [Array.getElem?_push_size], (Below.refl _ _).alloc (Nat.le_refl _) _⟩
theorem wide_of (s : ByteArray) (pos : Nat) (hp : pos < s.size) : 1 ≤ (Utf8.decode s pos).2 ∧ pos + (Utf8.decode s pos).2 ≤ s.size ∧ (∀ j (hj : j < s.size), pos < j → j < pos + (Utf8.decode s pos).2 → 128 ≤ (s[j]).toNat) := by
  by_cases ha : (s[pos]).toNat < 128
  · rw [decode_ascii s pos hp ha]
    exact ⟨Nat.le_refl _, hp, fun j hj h1 h2 => by simp only at h2; omega⟩
  · have h := decode_wide s pos hp (by omega)
    exact ⟨(decode_high s pos hp (by omega)).2, h.1, fun j hj h1 h2 => h.2 j hj (by omega) h2⟩

set_option maxRecDepth 100000 in
set_option maxHeartbeats 2000000 in
theorem split_impl (s : ByteArray) (w : World) (hs : s.size ≤ 1048576) :
    Calls Tryz.prog 120 #[.string s] w fun e w' => ∃ v', e = .returned v' ∧ Strs.OwnS (w.heap.size + 1) w' v' (split s) ∧ Below w.heap.size w w' := by
  have hM0 := Num.hide (start_mid s w)
  go_enter Tryz.func120, Tryz.ntmps120
  go_wp2
  go_loopw [3, 4, 5, 6] (fun v f e q wr => ∃ (pos : Nat) (E : Int) (a : Nat) (qb : Bool) (l : List ByteArray), f = .int .i64 (a : Int) ∧ e = .int .i64 E ∧ q = .bool qb ∧ Hid (Mid w s pos E a qb l v wr)) (fun _ _ _ _ wr => s.size - wr.iterPos w.heap.size)
  case atStart => exact ⟨0, -1, 0, false, [], rfl, rfl, rfl, hM0⟩
  case round =>
    clear hM0
    obtain ⟨pos, E, a, qb, l, rfl, rfl, rfl, HM⟩ := hrel
    have hle := HM.out.at_.le
    have hfrom := HM.out.at_.from_le
    have hesc := HM.out.at_.esc_le
    have hlen := HM.out.at_.len
    have hlt := HM.out.lay.lt
    by_cases hp : pos < s.size
    · obtain ⟨hw1, hw2, hw3⟩ := wide_of s pos hp
      have HW := Num.hide hw3
      clear hw3
      have hpos2 : ∀ (W : World), Hid (W.heap[w.heap.size]? = some (.stringIter s (pos + (Utf8.decode s pos).2))) → s.size - W.iterPos w.heap.size < s.size - wr.iterPos w.heap.size := by
        intro W hW
        rw [iterPos_of hW.out, iterPos_of HM.out.lay.iter]; omega
      have HP := Num.hide hpos2
      clear hpos2
      have hnx : ∀ ty, (Instr.next (.pointer (some ⟨w.heap.size, 0, none⟩)) true ty).run Tryz.prog wr = _ := fun ty => Lib.run_next_any_at wr w.heap.size s pos ty HM.out.lay.iter hp
      by_cases he : E = (pos : Int)
      · have HM2 := Num.hide (HM.out.move _ (at_wide HM.out.at_ hp _ hw1 hw2 HW.out (.inl he)))
        subst he
        generalize (wr.iterAt w.heap.size s (pos + (Utf8.decode s pos).2)) = W2 at hnx HM2
        have HI := Num.hide HM2.out.lay.iter
        generalize (Utf8.decode s pos).2 = wd at *
        generalize ((Utf8.decode s pos).1 : Int) = r at *
        go_wp2
        go_roundw
        case rel => exact ⟨pos + wd, _, a, qb, l, rfl, rfl, rfl, HM2⟩
        case measure => exact HP.out _ HI
      · have de : ((pos : Int) == E) = false := by rw [beq_eq_false_iff_ne]; exact fun h => he h.symm
        by_cases ha : (s[pos]).toNat < 128
        · have hdec := decode_ascii s pos hp ha
          rw [hdec] at hnx hw1 hw2 HW HP
          clear hdec HW
          by_cases h34 : (s[pos]).toNat = 34
          · have HM2 := Num.hide (HM.out.move _ (at_quote HM.out.at_ hp he h34))
            rw [h34] at hnx
            generalize (wr.iterAt w.heap.size s (pos + 1)) = W2 at hnx HM2
            have HI := Num.hide HM2.out.lay.iter
            clear ha h34 he
            go_wp2
            go_roundw
            case rel => exact ⟨pos + 1, _, a, !qb, l, rfl, rfl, rfl, HM2⟩
            case measure => exact HP.out _ HI
          · have d34 : (((s[pos]).toNat : Int) == 34) = false := by rw [beq_eq_false_iff_ne]; omega
            by_cases h92 : (s[pos]).toNat = 92
            · rw [h92] at hnx
              cases qb with
              | true =>
                have HM2 := Num.hide (HM.out.move _ (at_esc HM.out.at_ hp he h92))
                generalize (wr.iterAt w.heap.size s (pos + 1)) = W2 at hnx HM2
                have HI := Num.hide HM2.out.lay.iter
                clear ha h34 h92 he d34
                go_wp2
                go_roundw
                case rel => exact ⟨pos + 1, _, a, true, l, rfl, rfl, rfl, HM2⟩
                case measure => exact HP.out _ HI
              | false =>
                have HM2 := Num.hide (HM.out.move _ (at_else HM.out.at_ hp he h34 (by rintro ⟨h, _⟩; cases h) (by omega)))
                generalize (wr.iterAt w.heap.size s (pos + 1)) = W2 at hnx HM2
                have HI := Num.hide HM2.out.lay.iter
                clear ha h34 h92 he d34
                go_wp2
                go_roundw
                case rel => exact ⟨pos + 1, _, a, false, l, rfl, rfl, rfl, HM2⟩
                case measure => exact HP.out _ HI
            · have d92 : (((s[pos]).toNat : Int) == 92) = false := by rw [beq_eq_false_iff_ne]; omega
              by_cases h44 : (s[pos]).toNat = 44
              · rw [h44] at hnx
                cases qb with
                | false =>
                  have HA := Num.hide (at_comma HM.out.at_ hp he h44)
                  have HL := Num.hide (HM.out.lay.move (pos + 1))
                  generalize (wr.iterAt w.heap.size s (pos + 1)) = W2 at hnx HL
                  have hlt2 := HL.out.lt
                  have hext : (s.extract a pos).size ≤ 1048576 := by rw [ByteArray.size_extract]; omega
                  clear ha h34 h92 he h44 d34 d92
                  go_wp2_with fail
                  refine (addPart_any (w.heap.size + 1) _ l (s.extract a pos) _ HL.out.own (by omega) (by omega) (by omega)).mono ?_
                  rintro e w2 ⟨v2, rfl, ho2, hg2⟩
                  go_wp2
                  have HL2 := Num.hide (HL.out.put ho2 hg2)
                  have HI := Num.hide HL2.out.iter
                  go_roundw
                  case rel => exact ⟨pos + 1, _, pos + 1, false, _, by go_num, rfl, rfl, ⟨HA.out, HL2.out⟩⟩
                  case measure => exact HP.out _ HI
                | true =>
                  have HM2 := Num.hide (HM.out.move _ (at_else HM.out.at_ hp he h34 (by omega) (by rintro ⟨_, h⟩; cases h)))
                  generalize (wr.iterAt w.heap.size s (pos + 1)) = W2 at hnx HM2
                  have HI := Num.hide HM2.out.lay.iter
                  clear ha h34 h92 he d34 d92
                  go_wp2
                  go_roundw
                  case rel => exact ⟨pos + 1, _, a, true, l, rfl, rfl, rfl, HM2⟩
                  case measure => exact HP.out _ HI
              · have d44 : (((s[pos]).toNat : Int) == 44) = false := by rw [beq_eq_false_iff_ne]; omega
                have HM2 := Num.hide (HM.out.move _ (at_else HM.out.at_ hp he h34 (by omega) (by omega)))
                generalize (wr.iterAt w.heap.size s (pos + 1)) = W2 at hnx HM2
                have HI := Num.hide HM2.out.lay.iter
                clear ha h34 h92 he
                go_wp2
                go_roundw
                case rel => exact ⟨pos + 1, _, a, qb, l, rfl, rfl, rfl, HM2⟩
                case measure => exact HP.out _ HI
        · have hr := (decode_high s pos hp (by omega)).1
          have HM2 := Num.hide (HM.out.move _ (at_wide HM.out.at_ hp _ hw1 hw2 HW.out (.inr (by omega))))
          generalize (wr.iterAt w.heap.size s (pos + (Utf8.decode s pos).2)) = W2 at hnx HM2
          have HI := Num.hide HM2.out.lay.iter
          have d34 : (((Utf8.decode s pos).1 : Int) == 34) = false := by rw [beq_eq_false_iff_ne]; omega
          have d92 : (((Utf8.decode s pos).1 : Int) == 92) = false := by rw [beq_eq_false_iff_ne]; omega
          have d44 : (((Utf8.decode s pos).1 : Int) == 44) = false := by rw [beq_eq_false_iff_ne]; omega
          clear ha he hr
          generalize (Utf8.decode s pos).2 = wd at *
          generalize ((Utf8.decode s pos).1 : Int) = r at *
          go_wp2
          go_roundw
          case rel => exact ⟨pos + wd, _, a, qb, l, rfl, rfl, rfl, HM2⟩
          case measure => exact HP.out _ HI
    · obtain rfl : pos = s.size := by omega
      have hnx : ∀ ty, (Instr.next (.pointer (some ⟨w.heap.size, 0, none⟩)) true ty).run Tryz.prog wr = _ := fun ty => Lib.run_next_end_at wr w.heap.size s s.size ty HM.out.lay.iter hp
      have hext : (s.extract a s.size).size ≤ 1048576 := by rw [ByteArray.size_extract]; omega
      go_wp2_with fail
      refine (addPart_any (w.heap.size + 1) _ l (s.extract a s.size) _ HM.out.lay.own (by omega) (by omega) (by omega)).mono ?_
      rintro e w2 ⟨v2, rfl, ho2, hg2⟩
      go_wp2
      have HE := Num.hide (at_end HM.out.at_)
      go_ret
      refine ⟨_, rfl, ?_, ?_⟩
      · rw [← HE.out]; exact ho2
      · exact Strs.below_grown HM.out.lay.below hg2 (fun j hj => by have := (Strs.own_lt HM.out.lay.own j hj).1; omega) (Nat.le_of_lt hlt)
end Sign
end Go.Proofs.YtbcjpjhpobmpbaaGreatDoor
namespace Go.Proofs.YtbcjpjhpobmpbaaGreatDoor
open Go.RowKit
set_option linter.unusedVariables false
namespace Cc
open Flds (Fld)

set_option maxRecDepth 100000 in
set_option maxHeartbeats 2000000 in
theorem dirs_impl (v : Value) (l : List Fld) (w : World) (h : Flds.Is w v l) (hl : Flds.bulk l ≤ 1048576) (hm : Lim w) (hS : Sign.Signs w) :
    Calls Tryz.prog 117 #[v] w fun e w' => ∃ v', e = .returned v' ∧ Dirs.Own w.heap.size w' v' (dirs l) ∧ Below w.heap.size w w' := by
  have HG := Num.hide (Flds.get_impl v l ccName w h (by omega))
  have hsz := said_size l
  obtain ⟨D, hD⟩ : ∃ D, dirs l = D := ⟨_, rfl⟩
  rw [hD]
  unfold dirs at hD
  generalize Flds.get l ccName = g at HG hsz hD
  obtain ⟨s, b⟩ := g
  simp only at HG hsz hD
  have HS := Num.hide (fun W => Sign.split_impl s W (by omega))
  have hlen := split_len s
  have hz := split_small s
  generalize Sign.split s = L at HS hlen hz hD
  have HC := Num.hide (fun v W hv hm hS => dirsOf_any v L W hv (by omega) (fun t ht => Nat.le_trans (hz t ht) (by omega)) hm hS)
  rw [hD] at HC
  have HM := Num.hide hm
  have HSg := Num.hide hS
  have hlm := lim_lt hm
  have hsl := signs_lt hS
  clear hD h hm hS hz
  go_enter Tryz.func117, Tryz.ntmps117
  go_wp2_with fail
  refine HG.out.mono ?_
  rintro e w1 ⟨rfl, hb⟩
  have HB1 := Num.hide hb
  clear hb
  go_wp2_with fail
  refine (HS.out _).mono ?_
  rintro e w2 ⟨pv, rfl, ho, hb⟩
  have HB2 := Num.hide (HB1.out.trans (hb.mono HB1.out.size))
  have HP := Num.hide (Strs.own_is ho)
  clear ho hb HB1
  go_wp2_with fail
  refine (HC.out _ _ HP.out (lim_below HM.out HB2.out hlm) (signs_below HSg.out HB2.out hsl)).mono ?_
  rintro e w3 ⟨dv, rfl, ho, hb⟩
  have HO := Num.hide (Recs.own_mono ho HB2.out.size)
  have HB3 := Num.hide (HB2.out.trans (hb.mono HB2.out.size))
  clear ho hb HB2 HP
  go_wp2
  go_ret
  exact ⟨_, rfl, HO.out, HB3.out⟩
end Cc
end Go.Proofs.YtbcjpjhpobmpbaaGreatDoor
namespace Go.Proofs.YtbcjpjhpobmpbaaGreatDoor
open Go.RowKit
set_option linter.unusedVariables false
namespace Sign

theorem u8_sub (c : Int) (h0 : 48 ≤ c) (h1 : c ≤ 57) : IntKind.u8.wrap (c - 48) = c - 48 := by
  rw [IntKind.wrap_u8]; omega

set_option maxRecDepth 100000 in
set_option maxHeartbeats 1000000 in
theorem seconds_impl (s : ByteArray) (w : World) (hs : s.size ≤ maxLen) : Calls Tryz.prog 118 #[.string s] w fun e w' => e = .returned (.tuple #[.int .i64 (secs s).1, .bool (secs s).2]) ∧ w = w' := by
  unfold maxLen at hs
  obtain ⟨r, hr⟩ : ∃ r, secs s = r := ⟨_, rfl⟩
  rw [hr]
  have HR := Num.hide hr
  clear hr
  go_enter Tryz.func118, Tryz.ntmps118
  go_wp2
  go_loop [4, 8] (fun n i => ∃ k : Nat, k ≤ s.size ∧ i = .int .i64 k ∧ n = .int .i64 (sec (s.data.toList.take k)) ∧ (s.data.toList.take k).all (fun b => decide (dig (b.toNat : Int))) = true) (fun _ i => s.size - (intOf i).toNat)
  case atStart => exact ⟨0, by omega, rfl, rfl, by simp⟩
  case round =>
    obtain ⟨k, hk, rfl, rfl, hall⟩ := hrel
    have hb := sec_bd _ hall
    have HA := Num.hide hall
    clear hall
    by_cases hlt : k < s.size
    · have hstep := Num.hide (all_take s (fun b => decide (dig (b.toNat : Int))) k hlt)
      have hsec := Num.hide (sec_take s k hlt)
      have hn := Num.hide (fun h => not_all s (fun b => decide (dig (b.toNat : Int))) k hlt h)
      have hc := s[k].toNat_lt
      obtain ⟨x, hx⟩ : ∃ x, sec (s.data.toList.take k) = x := ⟨_, rfl⟩
      rw [hx] at hb ⊢
      have HX := Num.hide hx
      clear hx
      by_cases hd : dig (s[k].toNat : Int)
      · have hdt := Num.hide (decide_eq_true hd)
        have h1 : 48 ≤ (s[k].toNat : Int) := hd.1
        have h2 : (s[k].toNat : Int) ≤ 57 := hd.2
        clear hd
        have hw := u8_sub (s[k].toNat : Int) h1 h2
        go_wp2_with (go_at_call 137; refine (isDigit_any _ _).mono ?_; rintro e w' ⟨rfl, rfl⟩; rw [Num.unhide hdt])
        all_goals go_round
        case rel => exact ⟨k + 1, by omega, by go_num, by rw [Num.unhide hsec, Num.unhide HX] <;> go_num, by rw [Num.unhide hstep, Num.unhide HA, Num.unhide hdt]; rfl⟩
        case measure => simp [intOf]; omega
      · have hdf := Num.hide (decide_eq_false hd)
        clear hd
        have hr : secs s = (0, false) := by
          unfold secs
          rw [if_neg]
          intro h
          rw [Num.unhide hn (Num.unhide hdf)] at h
          simp at h
        rw [Num.unhide HR] at hr
        subst hr
        go_wp2_with (go_at_call 137; refine (isDigit_any _ _).mono ?_; rintro e w' ⟨rfl, rfl⟩; rw [Num.unhide hdf])
        all_goals go_ret2
        all_goals exact ⟨rfl, rfl⟩
    · obtain rfl : k = s.size := by omega
      have hfull : s.data.toList.take s.size = s.data.toList := List.take_of_length_le (by rw [Array.length_toList]; exact Nat.le_refl _)
      have hall := Num.unhide HA
      have hr := Num.unhide HR
      rw [hfull] at hall hb ⊢
      unfold secs at hr
      by_cases h0 : 0 < s.size
      · rw [if_pos ⟨h0, hall⟩] at hr
        subst hr
        have h0' := empty_false s h0
        clear HR HA hall hfull
        obtain ⟨x, hx⟩ : ∃ x, sec s.data.toList = x := ⟨_, rfl⟩
        rw [hx] at hb ⊢
        have HX := Num.hide hx
        clear hx
        go_wp2
        all_goals go_ret2
        all_goals exact ⟨by rw [Num.unhide HX]; rfl, rfl⟩
      · rw [if_neg (fun h => h0 h.1)] at hr
        subst hr
        have hz : s.size = 0 := by omega
        obtain rfl : s = ⟨#[]⟩ := empty_true s hz
        clear HR HA hall hfull
        go_wp2
        all_goals go_ret2
        all_goals exact ⟨rfl, rfl⟩
end Sign
end Go.Proofs.YtbcjpjhpobmpbaaGreatDoor
