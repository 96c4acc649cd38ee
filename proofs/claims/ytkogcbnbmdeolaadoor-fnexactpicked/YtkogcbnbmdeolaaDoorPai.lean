/-
  ShelfTrim: Library contracts at this program: strings_Trim_one.
  TrimImpl: Trim of the program: what the call returns, for every text; what was there stays.
  AddPart: addPart of the program: a part, trimmed, put behind the parts, where it is not empty.
  SplitAt: SplitList of the program: the parts of a text, in a row of the call's own; what was there stays.
-/
import Derived.Shelf.Strings.Builder1
import Derived.Shelf.Strings.Builder2
import Derived.Shelf.Strings.OnBuilder
import Derived.Shelf.Strings.Trim
import Derived.Shelf.Small.Utf8
import Derived.Shelf.Small.Strs
import Derived.Shelf.Strings.BuilderF
import Derived.Shelf.Strings.BuilderK
import Derived.Shelf.LaysM
import Derived.Shelf.Strconv.Clone
import Derived.Shelf.Strings.Search1
import Derived.Shelf.Unicode.Decode
import Derived.Shelf.Strings.Runes
import Derived.Shelf.Strings.AsciiSet
import Derived.Shelf.Unicode.DecodeSlow
import Derived.Shelf.Unicode.DecodeAny
import Derived.Shelf.Unicode.DecodeLast
import Derived.Test.YtkogcbnbmdeolaaDoorRows
import Derived.Test.YtkogcbnbmdeolaaDoorPah
import Derived.Test.YtkogcbnbmdeolaaDoorPaa
import Derived.Shelf.Strings.SlTrimAscii
import Derived.Test.YtkogcbnbmdeolaaDoorStrs
import Derived.Lib.OthersKept
namespace Go.Proofs.YtkogcbnbmdeolaaDoor
open Go.Shelf
def Shelf.lays160_ren : Go.Shelf.Ren := ⟨fun | 160 => 48 | 232 => 75 | 231 => 74 | 227 => 76 | 234 => 78 | 233 => 77 | 236 => 80 | 235 => 79 | 228 => 91 | 271 => 94 | 151 => 93 | 197 => 92 | 120 => 102 | 152 => 101 | 260 => 100 | 137 => 109 | 119 => 110 | 224 => 111 | 225 => 112 | 217 => 115 | 266 => 116 | n => n, fun | 9 => 9 | 4 => 4 | 3 => 3 | 5 => 5 | 117 => 96 | 116 => 95 | 0 => 0 | 124 => 99 | 21 => 21 | 105 => 118 | 46 => 116 | 119 => 129 | 139 => 132 | 138 => 131 | n => n, fun | 3 => 0 | 4 => 1 | n => n⟩
theorem Shelf.lays160 : Go.Proofs.Lays.n160 Tryd.prog Shelf.lays160_ren := {
  mixed := by kernel_rfl
  f119 := Tryd.func110.trans (congrArg some (by kernel_rfl))
  f120 := Tryd.func102.trans (congrArg some (by kernel_rfl))
  f137 := Tryd.func109.trans (congrArg some (by kernel_rfl))
  f151 := Tryd.func93.trans (congrArg some (by kernel_rfl))
  f152 := Tryd.func101.trans (congrArg some (by kernel_rfl))
  f160 := Tryd.func48.trans (congrArg some (by kernel_rfl))
  f197 := Tryd.func92.trans (congrArg some (by kernel_rfl))
  f217 := Tryd.func115.trans (congrArg some (by kernel_rfl))
  f224 := Tryd.func111.trans (congrArg some (by kernel_rfl))
  f225 := Tryd.func112.trans (congrArg some (by kernel_rfl))
  f227 := Tryd.func76.trans (congrArg some (by kernel_rfl))
  f228 := Tryd.func91.trans (congrArg some (by kernel_rfl))
  f231 := Tryd.func74.trans (congrArg some (by kernel_rfl))
  f232 := Tryd.func75.trans (congrArg some (by kernel_rfl))
  f233 := Tryd.func77.trans (congrArg some (by kernel_rfl))
  f234 := Tryd.func78.trans (congrArg some (by kernel_rfl))
  f235 := Tryd.func79.trans (congrArg some (by kernel_rfl))
  f236 := Tryd.func80.trans (congrArg some (by kernel_rfl))
  f260 := Tryd.func100.trans (congrArg some (by kernel_rfl))
  f266 := Tryd.func116.trans (congrArg some (by kernel_rfl))
  f271 := Tryd.func94.trans (congrArg some (by kernel_rfl))
  t0 := Tryd.underlying0
  a0 := Tryd.isAgg0
  z0 := Tryd.sizeOf0
  v0 := Tryd.zeroValue0
  t3 := Tryd.underlying3
  a3 := Tryd.isAgg3
  z3 := Tryd.sizeOf3
  v3 := Tryd.zeroValue3
  t4 := Tryd.underlying4
  a4 := Tryd.isAgg4
  z4 := Tryd.sizeOf4
  v4 := Tryd.zeroValue4
  t5 := Tryd.underlying5
  a5 := Tryd.isAgg5
  z5 := Tryd.sizeOf5
  v5 := Tryd.zeroValue5
  t9 := Tryd.underlying9
  a9 := Tryd.isAgg9
  z9 := Tryd.sizeOf9
  v9 := Tryd.zeroValue9
  t21 := Tryd.underlying21
  a21 := Tryd.isAgg21
  z21 := Tryd.sizeOf21
  v21 := Tryd.zeroValue21
  t46 := Tryd.underlying116
  a46 := Tryd.isAgg116
  z46 := Tryd.sizeOf116
  v46 := Tryd.zeroValue116
  t105 := Tryd.underlying118
  a105 := Tryd.isAgg118
  z105 := Tryd.sizeOf118
  v105 := Tryd.zeroValue118
  t116 := Tryd.underlying95
  a116 := Tryd.isAgg95
  z116 := Tryd.sizeOf95
  t117 := Tryd.underlying96
  a117 := Tryd.isAgg96
  z117 := Tryd.sizeOf96
  v117 := Tryd.zeroValue96
  t119 := Tryd.underlying129
  a119 := Tryd.isAgg129
  z119 := Tryd.sizeOf129
  t124 := Tryd.underlying99
  a124 := Tryd.isAgg99
  z124 := Tryd.sizeOf99
  v124 := Tryd.zeroValue99
  t138 := Tryd.underlying131
  a138 := Tryd.isAgg131
  z138 := Tryd.sizeOf131
  v138 := Tryd.zeroValue131
  t139 := Tryd.underlying132
  a139 := Tryd.isAgg132
  z139 := Tryd.sizeOf132
  v139 := Tryd.zeroValue132
  g3 := by kernel_rfl
  g4 := by kernel_rfl }
open Go.RowKit in
theorem Shelf.strings_Trim_one (s : ByteArray) (c : UInt8) (hc : c.toNat < 128) (w : World) (hs : s.size ≤ 9223372036854775807) :
    Calls Tryd.prog 48 #[.string s, .string ⟨#[c]⟩] w fun e w' => e = .returned (.string ⟨(Lib.trimB s.data.toList c).toArray⟩) ∧ (w' = w ∨ w' = w.drew) := Any.strings_Trim_one Shelf.lays160 s c hc w hs
end Go.Proofs.YtkogcbnbmdeolaaDoor
namespace Go.Proofs.YtkogcbnbmdeolaaDoor
open Go.Shelf Go.RowKit
set_option linter.unusedVariables false
namespace Sign

theorem right_cons (p : UInt8 → Bool) (c : UInt8) (l : List UInt8) : ((c :: l).reverse.dropWhile p).reverse = if (l.reverse.dropWhile p).isEmpty then (if p c then [] else [c]) else c :: (l.reverse.dropWhile p).reverse := by
  rw [List.reverse_cons, List.dropWhile_append]
  by_cases h : (l.reverse.dropWhile p).isEmpty = true
  · rw [if_pos h, if_pos h]
    by_cases hc : p c = true
    · rw [if_pos hc, List.dropWhile_cons_of_pos hc]; rfl
    · rw [if_neg hc, List.dropWhile_cons_of_neg hc]; rfl
  · rw [if_neg h, if_neg h, List.reverse_append]; rfl
theorem left_right (p : UInt8 → Bool) (l : List UInt8) : ((l.reverse.dropWhile p).reverse).dropWhile p = ((l.dropWhile p).reverse.dropWhile p).reverse := by
  induction l with
  | nil => rfl
  | cons c l ih =>
    rw [right_cons]
    by_cases hc : p c = true
    · rw [List.dropWhile_cons_of_pos hc, ← ih, if_pos hc]
      by_cases h : (l.reverse.dropWhile p).isEmpty = true
      · rw [if_pos h, List.isEmpty_iff.1 h]; rfl
      · rw [if_neg h, List.dropWhile_cons_of_pos hc]
    · rw [List.dropWhile_cons_of_neg hc, right_cons, if_neg hc]
      by_cases h : (l.reverse.dropWhile p).isEmpty = true
      · rw [if_pos h, List.dropWhile_cons_of_neg hc]
      · rw [if_neg h, List.dropWhile_cons_of_neg hc]
theorem bl_contains (b : UInt8) : ([32, 9] : List UInt8).contains b = bl b := by
  unfold bl
  have e : (([32, 9] : List UInt8).contains b = true) ↔ blank (b.toNat : Int) := by
    rw [List.contains_iff_mem, List.mem_cons, List.mem_singleton, ← UInt8.toNat_inj, ← UInt8.toNat_inj]
    unfold blank; simp; omega
  rw [Bool.eq_iff_iff, decide_eq_true_iff]; exact e
theorem trimS_eq (s : ByteArray) : (⟨(Lib.trimS s.data.toList [32, 9]).toArray⟩ : ByteArray) = trim s := by
  unfold trim Lib.trimS Lib.trimLeftS Lib.trimRightS
  have e : (fun b => ([32, 9] : List UInt8).contains b) = bl := funext bl_contains
  rw [e, left_right]
theorem size_trim (s : ByteArray) : (trim s).size ≤ s.size := by
  show ((s.data.toList.dropWhile bl).reverse.dropWhile bl).reverse.toArray.size ≤ s.size
  rw [List.size_toArray, List.length_reverse]
  have h1 := (List.dropWhile_sublist bl (l := (s.data.toList.dropWhile bl).reverse)).length_le
  have h2 := (List.dropWhile_sublist bl (l := s.data.toList)).length_le
  rw [List.length_reverse] at h1
  have e : s.data.toList.length = s.size := by rw [Array.length_toList]; rfl
  omega
theorem strings_trim (s : ByteArray) (w : World) (hs : s.size ≤ maxLen) :
    Calls Tryd.prog 48 #[.string s, .string ⟨#[32, 9]⟩] w fun e w' => e = .returned (.string (trim s)) ∧ Below w.heap.size w w' := by
  have h := Any.strings_Trim_laid Shelf.lays160 (by kernel_rfl) s ⟨#[32, 9]⟩ w (by unfold maxLen at hs; omega) (by decide) (ascii_of_all (by decide))
  rw [← trimS_eq]
  exact h
set_option maxHeartbeats 1000000 in
theorem trim_impl (s : ByteArray) (w : World) (hs : s.size ≤ 281474976710656) :
    Calls Tryd.prog 11 #[.string s] w fun e w' => e = .returned (.string (trim s)) ∧ Below w.heap.size w w' := by
  have HS := Num.hide (fun W => strings_trim s W (by unfold maxLen; omega))
  have hz := size_trim s
  generalize trim s = t at HS hz ⊢
  go_enter Tryd.func11, Tryd.ntmps11
  go_wp2_with fail
  refine (HS.out _).mono ?_
  rintro e w1 ⟨rfl, hb1⟩
  go_wp2_with fail
  refine (Shelf.clone t _ (by omega)).mono ?_
  rintro e w2 ⟨rfl, hb2⟩
  go_wp2
  go_ret
  exact ⟨rfl, hb1.trans (hb2.mono hb1.size)⟩
end Sign
end Go.Proofs.YtkogcbnbmdeolaaDoor
namespace Go.Proofs.YtkogcbnbmdeolaaDoor
open Go.RowKit
set_option linter.unusedVariables false
namespace Sign

def partOf (t : ByteArray) : List ByteArray := if (trim t).size = 0 then [] else [trim t]

set_option maxRecDepth 100000 in
set_option maxHeartbeats 1000000 in
theorem addPart_any (B : Nat) (v : Value) (l : List ByteArray) (t : ByteArray) (w : World) (hown : Strs.OwnS B w v l) (hB : B ≤ w.heap.size) (ht : t.size ≤ 281474976710656) (hl : l.length ≤ 1073741824) :
    Calls Tryd.prog 51 #[v, .string t] w fun e w' => ∃ v', e = .returned v' ∧ Strs.OwnS B w' v' (l ++ partOf t) ∧ w.grownBy w' v.ownBlock := by
  obtain ⟨i0, hi, hz0, hz1, hz2⟩ := info_parts Strs.infoS
  have HT := Num.hide (fun W => trim_impl t W ht)
  have HO := Num.hide hown
  obtain ⟨va, vc, hv⟩ := Strs.own_len hown
  clear hown
  obtain ⟨L, hL⟩ : ∃ L, l ++ partOf t = L := ⟨_, rfl⟩
  rw [hL]
  unfold partOf at hL
  generalize trim t = r at HT hL
  have HL := Num.hide hL
  clear hL
  subst hv
  go_enter Tryd.func51, Tryd.ntmps51
  go_wp2_with fail
  refine (HT.out _).mono ?_
  rintro e w1 ⟨rfl, hb1⟩
  have hB1 : B ≤ w1.heap.size := Nat.le_trans hB hb1.size
  have HO1 := Num.hide (Strs.own_below HO.out hb1)
  by_cases h0 : r.size = 0
  · obtain rfl : r = ⟨#[]⟩ := empty_true r h0
    go_wp2
    go_ret
    refine ⟨_, rfl, ?_, Strs.grown_of_below hb1 _⟩
    rw [← HL.out, if_pos h0, List.append_nil]
    exact HO1.out
  · have hne := empty_false r (by omega)
    have HB := Num.hide hb1
    clear hb1
    go_wp2_with (at_builtin; refine wpList_append_own _ rfl _ _ 26 rfl B 9 i0 (.string ⟨#[]⟩) 1 16 Tryd.underlying26 hi hz0 hz1 hz2 rfl (by decide) _ _ _ rfl (World.ownsRow.alloc HO1.out _) ⟨w1.heap.size, 0, none⟩ 1 1 [.string r] rfl rfl (Strs.cells_one w1 r) (Strs.one_ok r) (by unfold maxLen; omega) (by omega) ?c5 ?_)
    case c5 => simp; omega
    intro v' w2 ho2 hg2 _
    have hg3 := Num.hide (Strs.grown_trans (Strs.grown_of_below HB.out _) (Strs.grown_trans (World.grownBy_alloc w1 (.cells #[.string r] 9) _) hg2))
    have ho3 := Num.hide (Strs.own_snoc ho2)
    clear ho2 hg2
    go_wp2
    go_ret
    refine ⟨_, rfl, ?_, hg3.out⟩
    rw [← HL.out, if_neg h0]
    exact ho3.out
end Sign
end Go.Proofs.YtkogcbnbmdeolaaDoor
namespace Go.Proofs.YtkogcbnbmdeolaaDoor
open Go.RowKit
set_option linter.unusedVariables false
namespace Sign

/-- where the program stands within the text: what has been gathered and what is still to come make the parts -/
structure At (s : ByteArray) (pos : Nat) (E : Int) (a : Nat) (q : Bool) (l : List ByteArray) : Prop where
  le : pos ≤ s.size
  from_le : a ≤ pos
  esc_le : E ≤ (pos : Int)
  len : l.length ≤ pos
  skip : E = (pos : Int) → split s = l ++ rest s (s.size - (pos + 1)) a q
  next : E ≠ (pos : Int) → split s = l ++ rest s (s.size - pos) a q
theorem at_start (s : ByteArray) : At s 0 (-1) 0 false [] where
  le := Nat.zero_le _
  from_le := Nat.le_refl _
  esc_le := by omega
  len := Nat.le_refl _
  skip := fun h => by omega
  next := fun _ => by rw [List.nil_append, Nat.sub_zero]; rfl
theorem partOf_part (s : ByteArray) (a b : Nat) : partOf (s.extract a b) = part s a b := rfl
theorem length_part (s : ByteArray) (a b : Nat) : (part s a b).length ≤ 1 := by unfold part; split <;> simp
section
variable {s : ByteArray} {pos : Nat} {E : Int} {a : Nat} {q : Bool} {l : List ByteArray}
/-- a sign that was escaped, or one from 128 on -/
theorem at_wide (h : At s pos E a q l) (hp : pos < s.size) (d : Nat) (hd : 1 ≤ d) (hle : pos + d ≤ s.size) (hh : ∀ j (hj : j < s.size), pos < j → j < pos + d → 128 ≤ (s[j]).toNat) (hs : E = (pos : Int) ∨ 128 ≤ (s[pos]).toNat) : At s (pos + d) E a q l where
  le := hle
  from_le := Nat.le_trans h.from_le (by omega)
  esc_le := by have := h.esc_le; omega
  len := Nat.le_trans h.len (by omega)
  skip := fun e => by have := h.esc_le; omega
  next := fun _ => by
    have e1 : split s = l ++ rest s (s.size - (pos + 1)) a q := by
      by_cases e : E = (pos : Int)
      · exact h.skip e
      · have hb : 128 ≤ (s[pos]).toNat := hs.elim (fun h => absurd h e) id
        rw [h.next e, rest_else s pos a q hp (by omega) (by omega) (by omega)]
    rw [e1, rest_high s a q (d - 1) (pos + 1) (by omega) (fun j hj h1 h2 => hh j hj (by omega) (by omega)), show pos + 1 + (d - 1) = pos + d by omega]
theorem at_skip_one (h : At s pos E a q l) (hp : pos < s.size) (he : E = (pos : Int)) : At s (pos + 1) E a q l :=
  at_wide h hp 1 (Nat.le_refl _) hp (fun j hj h1 h2 => by omega) (.inl he)
theorem at_esc (h : At s pos E a true l) (hp : pos < s.size) (he : E ≠ (pos : Int)) (hc : (s[pos]).toNat = 92) : At s (pos + 1) ((pos : Int) + 1) a true l where
  le := hp
  from_le := Nat.le_trans h.from_le (by omega)
  esc_le := by omega
  len := Nat.le_trans h.len (by omega)
  skip := fun _ => by rw [h.next he, rest_esc s pos a hp hc]
  next := fun e => by omega
theorem at_quote (h : At s pos E a q l) (hp : pos < s.size) (he : E ≠ (pos : Int)) (hc : (s[pos]).toNat = 34) : At s (pos + 1) E a (!q) l where
  le := hp
  from_le := Nat.le_trans h.from_le (by omega)
  esc_le := by have := h.esc_le; omega
  len := Nat.le_trans h.len (by omega)
  skip := fun e => by have := h.esc_le; omega
  next := fun _ => by rw [h.next he, rest_quote s pos a q hp hc]
theorem at_comma (h : At s pos E a false l) (hp : pos < s.size) (he : E ≠ (pos : Int)) (hc : (s[pos]).toNat = 44) : At s (pos + 1) E (pos + 1) false (l ++ partOf (s.extract a pos)) where
  le := hp
  from_le := Nat.le_refl _
  esc_le := by have := h.esc_le; omega
  len := by rw [List.length_append, partOf_part]; have := length_part s a pos; have := h.len; omega
  skip := fun e => by have := h.esc_le; omega
  next := fun _ => by rw [h.next he, rest_comma s pos a hp hc, List.append_assoc, partOf_part]
theorem at_else (h : At s pos E a q l) (hp : pos < s.size) (he : E ≠ (pos : Int)) (h1 : (s[pos]).toNat ≠ 34) (h2 : ¬ (q = true ∧ (s[pos]).toNat = 92)) (h3 : ¬ ((s[pos]).toNat = 44 ∧ q = false)) : At s (pos + 1) E a q l where
  le := hp
  from_le := Nat.le_trans h.from_le (by omega)
  esc_le := by have := h.esc_le; omega
  len := Nat.le_trans h.len (by omega)
  skip := fun e => by have := h.esc_le; omega
  next := fun _ => by rw [h.next he, rest_else s pos a q hp h1 h2 h3]
theorem at_end (h : At s s.size E a q l) : l ++ partOf (s.extract a s.size) = split s := by
  by_cases e : E = (s.size : Int)
  · rw [h.skip e, rest_end s _ a q (by omega), partOf_part]
  · rw [h.next e, rest_end s _ a q (Nat.le_refl _), partOf_part]
end
end Sign
end Go.Proofs.YtkogcbnbmdeolaaDoor
