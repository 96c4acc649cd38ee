/-
  ShelfJoin: Library contracts at this program: strings_Join_none, strings_Join.
  FldGetImpl: FieldGet of the program: all values of a name, joined; what was there stays.
  DateOne: A day lies in one year, one month and one day of it, plain.
-/
import Derived.Shelf.Strings.Builder1
import Derived.Shelf.Strings.Builder2
import Derived.Shelf.Strings.OnBuilder
import Derived.Shelf.Strings.Trim
import Derived.Shelf.Small.Utf8
import Derived.Shelf.Small.Strs
import Derived.Shelf.Strings.BuilderF
import Derived.Shelf.Strings.BuilderK
import Derived.Shelf.Strconv.Itoa0
import Derived.Shelf.Strconv.Itoa1
import Derived.Shelf.LaysM
import Derived.Shelf.Strconv.Itoa2
import Derived.Shelf.Strconv.Itoa3
import Derived.Shelf.Strconv.Clone
import Derived.Shelf.Strings.Search1
import Derived.Shelf.Strings.Search2
import Derived.Shelf.Strings.Search3
import Derived.Shelf.Strings.Cut
import Derived.Shelf.Strings.Shaped
import Derived.Shelf.Unicode.Decode
import Derived.Shelf.Strings.Runes
import Derived.Shelf.Strings.AsciiSet
import Derived.Shelf.Unicode.DecodeSlow
import Derived.Shelf.Unicode.DecodeAny
import Derived.Shelf.Unicode.DecodeLast
import Derived.Test.YtihiljickefanaaGreatDoorRows
import Derived.Test.YtihiljickefanaaGreatDoorPap
import Derived.Test.YtihiljickefanaaGreatDoorPaa
namespace Go.Proofs.YtihiljickefanaaGreatDoor
open Go.Shelf
def Shelf.lays156_ren : Go.Shelf.Ren := ⟨fun | 156 => 70 | 165 => 85 | 166 => 86 | 169 => 87 | 240 => 99 | 241 => 100 | 276 => 111 | 277 => 112 | n => n, fun | 31 => 72 | 9 => 9 | 3 => 3 | 4 => 4 | 0 => 0 | 20 => 20 | 72 => 105 | 76 => 109 | 70 => 103 | 37 => 22 | 75 => 108 | 127 => 116 | 164 => 120 | 5 => 5 | 80 => 111 | n => n, fun | n => n⟩
theorem Shelf.lays156 : Go.Proofs.Lays.n156 Tryz.prog Shelf.lays156_ren := {
  mixed := by kernel_rfl
  f156 := Tryz.func70.trans (congrArg some (by kernel_rfl))
  f165 := Tryz.func85.trans (congrArg some (by kernel_rfl))
  f166 := Tryz.func86.trans (congrArg some (by kernel_rfl))
  f169 := Tryz.func87.trans (congrArg some (by kernel_rfl))
  f240 := Tryz.func99.trans (congrArg some (by kernel_rfl))
  f241 := Tryz.func100.trans (congrArg some (by kernel_rfl))
  f276 := Tryz.func111.trans (congrArg some (by kernel_rfl))
  f277 := Tryz.func112.trans (congrArg some (by kernel_rfl))
  t0 := Tryz.underlying0
  a0 := Tryz.isAgg0
  z0 := Tryz.sizeOf0
  v0 := Tryz.zeroValue0
  t3 := Tryz.underlying3
  a3 := Tryz.isAgg3
  z3 := Tryz.sizeOf3
  v3 := Tryz.zeroValue3
  t4 := Tryz.underlying4
  a4 := Tryz.isAgg4
  z4 := Tryz.sizeOf4
  v4 := Tryz.zeroValue4
  t9 := Tryz.underlying9
  a9 := Tryz.isAgg9
  z9 := Tryz.sizeOf9
  v9 := Tryz.zeroValue9
  t20 := Tryz.underlying20
  a20 := Tryz.isAgg20
  z20 := Tryz.sizeOf20
  v20 := Tryz.zeroValue20
  t31 := Tryz.underlying72
  a31 := Tryz.isAgg72
  z31 := Tryz.sizeOf72
  v31 := Tryz.zeroValue72
  t37 := Tryz.underlying22
  a37 := Tryz.isAgg22
  z37 := Tryz.sizeOf22
  v37 := Tryz.zeroValue22
  t70 := Tryz.underlying103
  a70 := Tryz.isAgg103
  z70 := Tryz.sizeOf103
  v70 := Tryz.zeroValue103
  t72 := Tryz.underlying105
  a72 := Tryz.isAgg105
  z72 := Tryz.sizeOf105
  v72 := Tryz.zeroValue105
  t75 := Tryz.underlying108
  a75 := Tryz.isAgg108
  z75 := Tryz.sizeOf108
  v75 := Tryz.zeroValue108
  t76 := Tryz.underlying109
  a76 := Tryz.isAgg109
  z76 := Tryz.sizeOf109
  v76 := Tryz.zeroValue109
  t127 := Tryz.underlying116
  a127 := Tryz.isAgg116
  z127 := Tryz.sizeOf116
  v127 := Tryz.zeroValue116
  t164 := Tryz.underlying120
  a164 := Tryz.isAgg120
  z164 := Tryz.sizeOf120
  v164 := Tryz.zeroValue120 }
theorem Shelf.Builder_Extra_156 : Builder.Extra Tryz.prog Shelf.lays156_ren := {
  sizeBuilder := by kernel_rfl
  liesBuilder := by kernel_rfl
  t5 := Tryz.underlying5
  a5 := Tryz.isAgg5
  z5 := Tryz.sizeOf5
  v5 := Tryz.zeroValue5
  infoByte := by kernel_rfl
  cellsByte := by kernel_rfl
  sizeByte := by kernel_rfl
  neB5 := by decide }
open Go.RowKit in
theorem Shelf.strings_Join_none (a : Option Addr) (c : Nat) (sep : ByteArray) (w : World) :
    Calls Tryz.prog 70 #[.slice a 0 c, .string sep] w fun e w' => e = .returned (.string ⟨#[]⟩) ∧ w' = w := Any.strings_Join_none Shelf.lays156 Shelf.Builder_Extra_156 a c sep w
open Go.RowKit in
theorem Shelf.strings_Join (bk o c : Nat) (xs : List ByteArray) (sep : ByteArray) (w : World) (hcells : ∀ (j : Nat) x, xs[j]? = some x → w.cell? ⟨bk, o + j, none⟩ = some (.string x)) (hbk : bk < w.heap.size) (hN : xs.length ≤ 140737488355328) (hcap : xs.length ≤ c) (hlen : (Lib.join (xs.map (·.data.toList)) sep.data.toList).length ≤ 140737488355328) :
    Calls Tryz.prog 70 #[.slice (some ⟨bk, o, none⟩) xs.length c, .string sep] w fun e w' => e = .returned (.string ⟨(Lib.join (xs.map (·.data.toList)) sep.data.toList).toArray⟩) ∧ Below w.heap.size w w' := Any.strings_Join Shelf.lays156 Shelf.Builder_Extra_156 bk o c xs sep w hcells hbk hN hcap hlen
end Go.Proofs.YtihiljickefanaaGreatDoor
namespace Go.Proofs.YtihiljickefanaaGreatDoor
open Go.RowKit
set_option linter.unusedVariables false
namespace Flds

/-- the values of a name -/
def vals (l : List Fld) (name : ByteArray) : List ByteArray := l.foldl (fun r f => r ++ (if f.1 = name then [f.2] else [])) []
theorem vals_take (l : List Fld) (name : ByteArray) (k : Nat) (h : k < l.length) : vals (l.take (k + 1)) name = vals (l.take k) name ++ (if l[k].1 = name then [l[k].2] else []) := by
  unfold vals
  rw [List.take_succ_eq_append_getElem h, List.foldl_append]; rfl
theorem vals_snoc (l : List Fld) (f : Fld) (name : ByteArray) : vals (l ++ [f]) name = vals l name ++ (if f.1 = name then [f.2] else []) := by
  unfold vals
  rw [List.foldl_append]; rfl
theorem vals_length (l : List Fld) (name : ByteArray) : (vals l name).length ≤ l.length := by
  refine Num.snoc_ind (P := fun l => (vals l name).length ≤ l.length) (Nat.le_refl _) ?_ l
  intro l f ih
  rw [vals_snoc, List.length_append, List.length_append]
  split <;> simp <;> omega
theorem join_snoc (xs : List (List UInt8)) (x sep : List UInt8) : Lib.join (xs ++ [x]) sep = if xs = [] then x else Lib.join xs sep ++ sep ++ x := by
  cases xs with
  | nil => simp [Lib.join_one]
  | cons a t => rw [List.cons_append, Lib.join_cons, Lib.join_cons]; simp [Lib.joinTail]
/-- what is joined of the values is what is got -/
theorem get_join (l : List Fld) (name : ByteArray) : get l name = (⟨(Lib.join ((vals l name).map (·.data.toList)) [44, 32]).toArray⟩, decide (0 < (vals l name).length)) := by
  refine Num.snoc_ind (P := fun l => get l name = (⟨(Lib.join ((vals l name).map (·.data.toList)) [44, 32]).toArray⟩, decide (0 < (vals l name).length))) rfl ?_ l
  intro l f ih
  have e : get (l ++ [f]) name = getStep name (get l name) f := by unfold get; rw [List.foldl_append]; rfl
  rw [e, ih, vals_snoc]
  unfold getStep
  by_cases h : f.1 = name
  · rw [if_pos h, if_pos h, List.map_append, List.map_cons, List.map_nil, join_snoc]
    generalize vals l name = V
    cases V with
    | nil =>
      simp only [List.map_nil, Lib.join_nil, List.length_nil, Nat.lt_irrefl, decide_false, Bool.false_eq_true, if_false, List.nil_append, List.length_cons, Nat.lt_add_one, decide_true, if_true, Prod.mk.injEq, and_true]
      apply ByteArray.ext; simp
    | cons a t =>
      simp only [List.length_cons, Nat.zero_lt_succ, decide_true, if_true, List.length_append, List.map_cons, reduceCtorEq, if_false, Prod.mk.injEq, Nat.add_pos_left, and_true]
      apply ByteArray.ext; simp
  · rw [if_neg h, if_neg h, List.append_nil]
set_option maxRecDepth 100000 in
set_option maxHeartbeats 1000000 in
theorem getF_other (x y name : ByteArray) (nb : Nat) (w : World) (hn : w.cell? ⟨nb, 0, none⟩ = some (.string name)) (hne : ¬ x = name) :
    Calls Tryz.prog 68 #[.agg #[.string x, .string y], .pointer (some ⟨nb, 0, none⟩)] w fun e w' => e = .returned (.tuple #[.string ⟨#[]⟩, .bool false]) ∧ Below w.heap.size w w' := by
  have d := text_ne' hne
  have d' : (x.toList != name.toList) = true := by rw [bne, d]; rfl
  have hlt := Recs.lt_of_cell hn
  clear hne
  go_enter Tryz.func68, Tryz.ntmps68
  go_wp2
  go_ret2
  exact ⟨rfl, (Below.refl _ _).alloc (Nat.le_refl _) _⟩
set_option maxRecDepth 100000 in
set_option maxHeartbeats 1000000 in
theorem getF_same (y name : ByteArray) (nb : Nat) (w : World) (hn : w.cell? ⟨nb, 0, none⟩ = some (.string name)) (hy : y.size ≤ 281474976710656) :
    Calls Tryz.prog 68 #[.agg #[.string name, .string y], .pointer (some ⟨nb, 0, none⟩)] w fun e w' => e = .returned (.tuple #[.string y, .bool true]) ∧ Below w.heap.size w w' := by
  have hlt := Recs.lt_of_cell hn
  have HB := Num.hide ((Below.refl w.heap.size w).alloc (Nat.le_refl _) (.cells #[.string name, .string y] 69))
  go_enter Tryz.func68, Tryz.ntmps68
  go_wp2_with fail
  refine (Shelf.clone y _ hy).mono ?_
  rintro e w1 ⟨rfl, hb⟩
  have HB1 := Num.hide (HB.out.trans (hb.mono (by simp)))
  clear hb HB
  go_wp2
  go_ret2
  exact ⟨rfl, HB1.out⟩
theorem get_choice (w0 w : World) (l : List Fld) (name : ByteArray) (nb : Nat) (hz : ∀ f ∈ l, f.1.size ≤ 281474976710656 ∧ f.2.size ≤ 281474976710656) :
    ChoiceS 68 #[.pointer (some ⟨nb, 0, none⟩)] w0.heap.size w.heap.size w0 l (fun k => vals (l.take k) name) (fun _ W => W.cell? ⟨nb, 0, none⟩ = some (.string name)) := by
  intro k hk W hB hn hQ
  have hzk := hz l[k] (List.getElem_mem hk)
  have hT := vals_take l name k hk
  simp only
  rw [hT]
  generalize l[k] = f at hzk
  obtain ⟨x, y⟩ := f
  simp only at hzk
  by_cases e : x = name
  · subst e
    refine (getF_same y x nb W hQ hzk.2).mono ?_
    rintro e W' ⟨rfl, hb2⟩
    exact ⟨y, true, rfl, by simp, (hb2.cell (p := ⟨nb, 0, none⟩) (Recs.lt_of_cell hQ)).trans hQ, Far.of_below hb2 hB.size⟩
  · refine (getF_other x y name nb W hQ e).mono ?_
    rintro e2 W' ⟨rfl, hb2⟩
    exact ⟨⟨#[]⟩, false, rfl, by simp [e], (hb2.cell (p := ⟨nb, 0, none⟩) (Recs.lt_of_cell hQ)).trans hQ, Far.of_below hb2 hB.size⟩
theorem sizes_get {l : List Fld} (h : bulk l ≤ 1099511627776) : ∀ f ∈ l, f.1.size ≤ 281474976710656 ∧ f.2.size ≤ 281474976710656 := by
  intro f hf
  obtain ⟨i, hi, rfl⟩ := List.getElem_of_mem hf
  have h1 := bulk_take l i hi
  have h2 := bulk_le l (i + 1)
  unfold bulk at h
  omega
/-- strings.Join at a list of texts, however it lies -/
theorem join_any (v : Value) (xs : List ByteArray) (sep : ByteArray) (B : Nat) (w : World) (ho : Strs.OwnS B w v xs) (hN : xs.length ≤ 1073741824) (hlen : (Lib.join (xs.map (·.data.toList)) sep.data.toList).length ≤ 140737488355328) :
    Calls Tryz.prog 70 #[v, .string sep] w fun e w' => e = .returned (.string ⟨(Lib.join (xs.map (·.data.toList)) sep.data.toList).toArray⟩) ∧ Below w.heap.size w w' := by
  by_cases h0 : xs.length = 0
  · obtain ⟨a, c, rfl⟩ := Strs.own_len ho
    obtain rfl : xs = [] := List.eq_nil_of_length_eq_zero h0
    exact (Shelf.strings_Join_none a c sep w).mono fun e w' ⟨h1, h2⟩ => ⟨h1, h2 ▸ Below.refl _ _⟩
  · rcases Strs.own_is ho with ⟨h1, _⟩ | ⟨b, o, c, rfl, hc, hm, hcell⟩
    · exact absurd (by rw [h1]; rfl) h0
    · exact Shelf.strings_Join b o c xs sep w (fun j x hj => by obtain ⟨hj2, rfl⟩ := List.getElem?_eq_some_iff.1 hj; exact hcell j hj2) (Recs.lt_of_cell (hcell 0 (by omega))) (by omega) hc hlen
set_option maxRecDepth 100000 in
set_option maxHeartbeats 1000000 in
theorem get_impl (v : Value) (l : List Fld) (name : ByteArray) (w : World) (h : Is w v l) (hl : bulk l ≤ 1073741824) :
    Calls Tryz.prog 43 #[v, .string name] w fun e w' => e = .returned (.tuple #[.string (get l name).1, .bool (get l name).2]) ∧ Below w.heap.size w w' := by
  have hlen : l.length ≤ 1073741824 := by unfold bulk at hl; omega
  have hb := (Below.refl w.heap.size w).alloc (Nat.le_refl _) (.cells #[.string name] 9)
  have HC := Num.hide (chosenS_any 68 #[.pointer (some ⟨w.heap.size, 0, none⟩)] w.heap.size w (w.alloc (.cells #[.string name] 9)) v l (fun k => vals (l.take k) name) (fun _ W => W.cell? ⟨w.heap.size, 0, none⟩ = some (.string name)) h rfl hb (by simp) rfl
    (fun k hk => by have := vals_length (l.take k) name; rw [List.length_take] at this; omega) hlen (by simp)
    (fun k W W' hQ hb2 => (hb2.cell (p := ⟨w.heap.size, 0, none⟩) (by simp)).trans hQ) (get_choice w _ l name w.heap.size (sizes_get (by omega))) (enters_of Tryz.func68 (by kernel_rfl) rfl))
  simp only [List.take_length] at HC
  have hgs := get_size l name
  have hvl := vals_length l name
  have hg := get_join l name
  generalize vals l name = V at HC hg hvl
  generalize get l name = r at hg hgs
  obtain ⟨g, t⟩ := r
  simp only [Prod.mk.injEq] at hg hgs ⊢
  obtain ⟨hg1, hg2⟩ := hg
  have HJ := Num.hide (fun vv B W ho => join_any vv V ⟨#[44, 32]⟩ B W ho (by omega) (by
    have e : (Lib.join (V.map (·.data.toList)) [44, 32]).length = g.size := by rw [hg1]; show _ = Array.size _; simp
    show (Lib.join (V.map (·.data.toList)) [44, 32]).length ≤ _
    rw [e]; unfold bulk at hl; omega))
  have HJ2 : Hid (∀ vv B W, Strs.OwnS B W vv V → Calls Tryz.prog 70 #[vv, .string ⟨#[44, 32]⟩] W fun e w' => e = .returned (.string g) ∧ Below W.heap.size W w') := fun vv B W ho => by rw [hg1]; exact HJ.out vv B W ho
  have HT := Num.hide hg2
  clear h hb HJ hg1 hg2 hgs
  go_enter Tryz.func43, Tryz.ntmps43
  go_wp2_with fail
  refine HC.out.mono ?_
  rintro e w1 ⟨v', rfl, ho, hb1, _⟩
  obtain ⟨va, vc, rfl⟩ := Strs.own_len ho
  have HO := Num.hide ho
  have HB := Num.hide hb1
  clear ho hb1
  go_wp2_with fail
  refine (HJ2.out _ _ _ HO.out).mono ?_
  rintro e w2 ⟨rfl, hb2⟩
  have HB2 := Num.hide (HB.out.trans (hb2.mono HB.out.size))
  clear hb2 HB HO
  go_wp2
  go_ret2
  exact ⟨by rw [HT.out]; rfl, HB2.out⟩
end Flds
end Go.Proofs.YtihiljickefanaaGreatDoor
namespace Go.Proofs.YtihiljickefanaaGreatDoor
open Go.RowKit
set_option linter.unusedVariables false
namespace Date

theorem mlen_nonneg (y : Int) (k : Nat) : 0 ≤ mlen y k := by
  by_cases h : k < 12
  · have := mlen_bd y k h; omega
  · have e : mlen y k = 0 := by
      unfold mlen
      rw [List.getD_eq_getElem?_getD, List.getElem?_eq_none (by unfold mlens; simp; omega)]
      rfl
    omega
theorem msum_mono (y : Int) (i : Nat) : ∀ n, msum y i ≤ msum y (i + n) := by
  intro n
  induction n with
  | zero => exact Int.le_refl _
  | succ n ih =>
    have h : msum y (i + (n + 1)) = msum y (i + n) + mlen y (i + n) := rfl
    have := mlen_nonneg y (i + n)
    omega
theorem msum_le (y : Int) {i k : Nat} (h : i ≤ k) : msum y i ≤ msum y k := by
  have := msum_mono y i (k - i)
  rw [show i + (k - i) = k by omega] at this
  exact this
theorem ysum_step (j : Nat) : ysum j + 365 ≤ ysum (j + 1) ∧ ysum (j + 1) ≤ ysum j + 366 := by
  show _ ∧ ysum j + 365 + _ ≤ _
  have h : ysum (j + 1) = ysum j + 365 + (if leap (1970 + (j : Int)) = true then 1 else 0) := rfl
  rw [h]
  split <;> omega
theorem ysum_mono (i : Nat) : ∀ n, ysum i ≤ ysum (i + n) := by
  intro n
  induction n with
  | zero => exact Int.le_refl _
  | succ n ih =>
    have := ysum_step (i + n)
    have h : ysum (i + (n + 1)) = ysum (i + n + 1) := rfl
    omega
theorem ysum_le {i k : Nat} (h : i ≤ k) : ysum i ≤ ysum k := by
  have := ysum_mono i (k - i)
  rw [show i + (k - i) = k by omega] at this
  exact this
theorem ysum_next (j : Nat) : ysum (j + 1) = ysum j + msum (1970 + (j : Int)) 12 := by
  have h : msum (1970 + (j : Int)) 12 = 337 + feb (1970 + (j : Int)) := by
    show 0 + 31 + feb (1970 + (j : Int)) + 31 + 30 + 31 + 30 + 31 + 31 + 30 + 31 + 30 + 31 = _
    omega
  rw [h]
  unfold feb
  show ysum j + 365 + _ = _
  split <;> omega
/-- the day D is the d-th (from 0 on) of the k-th month (from 0 on) of the j-th year (from 1970 on) -/
structure Parts (D : Int) (j k : Nat) (d : Int) : Prop where
  hj : j ≤ 67
  hk : k ≤ 11
  h0 : 0 ≤ d
  h1 : d < mlen (1970 + (j : Int)) k
  sum : D = ysum j + msum (1970 + (j : Int)) k + d
theorem Parts.month {D : Int} {j k : Nat} {d : Int} (h : Parts D j k d) : msum (1970 + (j : Int)) k ≤ D - ysum j ∧ D - ysum j < msum (1970 + (j : Int)) (k + 1) := by
  have e : msum (1970 + (j : Int)) (k + 1) = msum (1970 + (j : Int)) k + mlen (1970 + (j : Int)) k := rfl
  have := h.sum; have := h.h0; have := h.h1
  omega
theorem Parts.year {D : Int} {j k : Nat} {d : Int} (h : Parts D j k d) : ysum j ≤ D ∧ D < ysum (j + 1) := by
  have hm := h.month
  have e := ysum_next j
  have h1 := msum_le (1970 + (j : Int)) (show k + 1 ≤ 12 by have := h.hk; omega)
  have h2 := msum_bd (1970 + (j : Int)) k (by have := h.hk; omega)
  omega
theorem Parts.one {D : Int} {j k j' k' : Nat} {d d' : Int} (h : Parts D j k d) (h' : Parts D j' k' d') : j = j' ∧ k = k' ∧ d = d' := by
  have y1 := h.year
  have y2 := h'.year
  have ej : j = j' := by
    rcases Nat.lt_trichotomy j j' with hl | he | hl
    · have := ysum_le (show j + 1 ≤ j' by omega); omega
    · exact he
    · have := ysum_le (show j' + 1 ≤ j by omega); omega
  subst ej
  have m1 := h.month
  have m2 := h'.month
  have ek : k = k' := by
    rcases Nat.lt_trichotomy k k' with hl | he | hl
    · have := msum_le (1970 + (j : Int)) (show k + 1 ≤ k' by omega); omega
    · exact he
    · have := msum_le (1970 + (j : Int)) (show k' + 1 ≤ k by omega); omega
  subst ek
  have := h.sum; have := h'.sum
  exact ⟨rfl, rfl, by omega⟩
/-- whatever day of a month is wanted, it lies ahead of the end of 2037 -/
theorem ahead (j k : Nat) (d : Int) (hj : j ≤ 67) (hk : k ≤ 11) (h1 : d ≤ 30) : ysum j + msum (1970 + (j : Int)) k + d < ysum 68 := by
  have e := ysum_next j
  have hy := ysum_le (show j + 1 ≤ 68 by omega)
  by_cases h : k = 11
  · subst h
    have e2 : msum (1970 + (j : Int)) 12 = msum (1970 + (j : Int)) 11 + 31 := rfl
    omega
  · have e1 : msum (1970 + (j : Int)) (k + 2) = msum (1970 + (j : Int)) k + mlen (1970 + (j : Int)) k + mlen (1970 + (j : Int)) (k + 1) := rfl
    have b1 := mlen_bd (1970 + (j : Int)) k (by omega)
    have b2 := mlen_bd (1970 + (j : Int)) (k + 1) (by omega)
    have := msum_le (1970 + (j : Int)) (show k + 2 ≤ 12 by omega)
    omega
end Date
end Go.Proofs.YtihiljickefanaaGreatDoor
