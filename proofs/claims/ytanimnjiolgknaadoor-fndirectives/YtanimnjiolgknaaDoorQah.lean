/-
  ShelfJoin: Library contracts at this program: strings_Join_none, strings_Join.
  FldGetImpl: FieldGet of the program: all values of a name, joined; what was there stays.
  ShelfTrim: Library contracts at this program: strings_Trim_one.
-/
import Derived.Shelf.Strings.Builder1
import Derived.Shelf.Strings.Builder2
import Derived.Shelf.Strings.OnBuilder
import Derived.Shelf.Strings.Trim
import Derived.Shelf.Small.Utf8
import Derived.Shelf.Small.Strs
import Derived.Shelf.Strings.BuilderF
import Derived.Shelf.Strings.BuilderK
import Derived.Shelf.LaysM
import Derived.Shelf.Strconv.Clone
import Derived.Shelf.Strings.Search1
import Derived.Shelf.Strings.Search2
import Derived.Shelf.Strings.Cut
import Derived.Shelf.Strings.Shaped
import Derived.Shelf.Unicode.Decode
import Derived.Shelf.Strings.Runes
import Derived.Shelf.Strings.AsciiSet
import Derived.Shelf.Unicode.DecodeSlow
import Derived.Shelf.Unicode.DecodeAny
import Derived.Shelf.Unicode.DecodeLast
import Derived.Test.YtanimnjiolgknaaDoorRows
import Derived.Test.YtanimnjiolgknaaDoorQag
import Derived.Test.YtanimnjiolgknaaDoorQaa
namespace Go.Proofs.YtanimnjiolgknaaDoor
open Go.Shelf
def Shelf.lays156_ren : Go.Shelf.Ren := ⟨fun | 156 => 50 | 165 => 61 | 166 => 62 | 169 => 63 | 240 => 69 | 241 => 70 | 276 => 78 | 277 => 79 | n => n, fun | 31 => 49 | 9 => 9 | 3 => 3 | 4 => 4 | 0 => 0 | 20 => 20 | 72 => 81 | 76 => 85 | 70 => 79 | 37 => 22 | 75 => 84 | 127 => 89 | 164 => 95 | 5 => 5 | 80 => 87 | n => n, fun | n => n⟩
theorem Shelf.lays156 : Go.Proofs.Lays.n156 Tryd.prog Shelf.lays156_ren := {
  mixed := by kernel_rfl
  f156 := Tryd.func50.trans (congrArg some (by kernel_rfl))
  f165 := Tryd.func61.trans (congrArg some (by kernel_rfl))
  f166 := Tryd.func62.trans (congrArg some (by kernel_rfl))
  f169 := Tryd.func63.trans (congrArg some (by kernel_rfl))
  f240 := Tryd.func69.trans (congrArg some (by kernel_rfl))
  f241 := Tryd.func70.trans (congrArg some (by kernel_rfl))
  f276 := Tryd.func78.trans (congrArg some (by kernel_rfl))
  f277 := Tryd.func79.trans (congrArg some (by kernel_rfl))
  t0 := Tryd.underlying0
  a0 := Tryd.isAgg0
  z0 := Tryd.sizeOf0
  v0 := Tryd.zeroValue0
  t3 := Tryd.underlying3
  a3 := Tryd.isAgg3
  z3 := Tryd.sizeOf3
  v3 := Tryd.zeroValue3
  t4 := Tryd.underlying4
  a4 := Tryd.isAgg4
  z4 := Tryd.sizeOf4
  v4 := Tryd.zeroValue4
  t9 := Tryd.underlying9
  a9 := Tryd.isAgg9
  z9 := Tryd.sizeOf9
  v9 := Tryd.zeroValue9
  t20 := Tryd.underlying20
  a20 := Tryd.isAgg20
  z20 := Tryd.sizeOf20
  v20 := Tryd.zeroValue20
  t31 := Tryd.underlying49
  a31 := Tryd.isAgg49
  z31 := Tryd.sizeOf49
  v31 := Tryd.zeroValue49
  t37 := Tryd.underlying22
  a37 := Tryd.isAgg22
  z37 := Tryd.sizeOf22
  v37 := Tryd.zeroValue22
  t70 := Tryd.underlying79
  a70 := Tryd.isAgg79
  z70 := Tryd.sizeOf79
  v70 := Tryd.zeroValue79
  t72 := Tryd.underlying81
  a72 := Tryd.isAgg81
  z72 := Tryd.sizeOf81
  v72 := Tryd.zeroValue81
  t75 := Tryd.underlying84
  a75 := Tryd.isAgg84
  z75 := Tryd.sizeOf84
  v75 := Tryd.zeroValue84
  t76 := Tryd.underlying85
  a76 := Tryd.isAgg85
  z76 := Tryd.sizeOf85
  v76 := Tryd.zeroValue85
  t127 := Tryd.underlying89
  a127 := Tryd.isAgg89
  z127 := Tryd.sizeOf89
  v127 := Tryd.zeroValue89
  t164 := Tryd.underlying95
  a164 := Tryd.isAgg95
  z164 := Tryd.sizeOf95
  v164 := Tryd.zeroValue95 }
theorem Shelf.Builder_Extra_156 : Builder.Extra Tryd.prog Shelf.lays156_ren := {
  sizeBuilder := by kernel_rfl
  liesBuilder := by kernel_rfl
  t5 := Tryd.underlying5
  a5 := Tryd.isAgg5
  z5 := Tryd.sizeOf5
  v5 := Tryd.zeroValue5
  infoByte := by kernel_rfl
  cellsByte := by kernel_rfl
  sizeByte := by kernel_rfl
  neB5 := by decide }
open Go.RowKit in
theorem Shelf.strings_Join_none (a : Option Addr) (c : Nat) (sep : ByteArray) (w : World) :
    Calls Tryd.prog 50 #[.slice a 0 c, .string sep] w fun e w' => e = .returned (.string ⟨#[]⟩) ∧ w' = w := Any.strings_Join_none Shelf.lays156 Shelf.Builder_Extra_156 a c sep w
open Go.RowKit in
theorem Shelf.strings_Join (bk o c : Nat) (xs : List ByteArray) (sep : ByteArray) (w : World) (hcells : ∀ (j : Nat) x, xs[j]? = some x → w.cell? ⟨bk, o + j, none⟩ = some (.string x)) (hbk : bk < w.heap.size) (hN : xs.length ≤ 140737488355328) (hcap : xs.length ≤ c) (hlen : (Lib.join (xs.map (·.data.toList)) sep.data.toList).length ≤ 140737488355328) :
    Calls Tryd.prog 50 #[.slice (some ⟨bk, o, none⟩) xs.length c, .string sep] w fun e w' => e = .returned (.string ⟨(Lib.join (xs.map (·.data.toList)) sep.data.toList).toArray⟩) ∧ Below w.heap.size w w' := Any.strings_Join Shelf.lays156 Shelf.Builder_Extra_156 bk o c xs sep w hcells hbk hN hcap hlen
end Go.Proofs.YtanimnjiolgknaaDoor
namespace Go.Proofs.YtanimnjiolgknaaDoor
open Go.RowKit
set_option linter.unusedVariables false
namespace Flds

/-- the values of a name -/
def vals (l : List Fld) (name : ByteArray) : List ByteArray := l.foldl (fun r f => r ++ (if f.1 = name then [f.2] else [])) []
theorem vals_take (l : List Fld) (name : ByteArray) (k : Nat) (h : k < l.length) : vals (l.take (k + 1)) name = vals (l.take k) name ++ (if l[k].1 = name then [l[k].2] else []) := by
  unfold vals
  rw [List.take_succ_eq_append_getElem h, List.foldl_append]; rfl
theorem vals_snoc (l : List Fld) (f : Fld) (name : ByteArray) : vals (l ++ [f]) name = vals l name ++ (if f.1 = name then [f.2] else []) := by
  unfold vals
  rw [List.foldl_append]; rfl
theorem vals_length (l : List Fld) (name : ByteArray) : (vals l name).length ≤ l.length := by
  refine Num.snoc_ind (P := fun l => (vals l name).length ≤ l.length) (Nat.le_refl _) ?_ l
  intro l f ih
  rw [vals_snoc, List.length_append, List.length_append]
  split <;> simp <;> omega
theorem join_snoc (xs : List (List UInt8)) (x sep : List UInt8) : Lib.join (xs ++ [x]) sep = if xs = [] then x else Lib.join xs sep ++ sep ++ x := by
  cases xs with
  | nil => simp [Lib.join_one]
  | cons a t => rw [List.cons_append, Lib.join_cons, Lib.join_cons]; simp [Lib.joinTail]
/-- what is joined of the values is what is got -/
theorem get_join (l : List Fld) (name : ByteArray) : get l name = (⟨(Lib.join ((vals l name).map (·.data.toList)) [44, 32]).toArray⟩, decide (0 < (vals l name).length)) := by
  refine Num.snoc_ind (P := fun l => get l name = (⟨(Lib.join ((vals l name).map (·.data.toList)) [44, 32]).toArray⟩, decide (0 < (vals l name).length))) rfl ?_ l
  intro l f ih
  have e : get (l ++ [f]) name = getStep name (get l name) f := by unfold get; rw [List.foldl_append]; rfl
  rw [e, ih, vals_snoc]
  unfold getStep
  by_cases h : f.1 = name
  · rw [if_pos h, if_pos h, List.map_append, List.map_cons, List.map_nil, join_snoc]
    generalize vals l name = V
    cases V with
    | nil =>
      simp only [List.map_nil, Lib.join_nil, List.length_nil, Nat.lt_irrefl, decide_false, Bool.false_eq_true, if_false, List.nil_append, List.length_cons, Nat.lt_add_one, decide_true, if_true, Prod.mk.injEq, and_true]
      apply ByteArray.ext; simp
    | cons a t =>
      simp only [List.length_cons, Nat.zero_lt_succ, decide_true, if_true, List.length_append, List.map_cons, reduceCtorEq, if_false, Prod.mk.injEq, Nat.add_pos_left, and_true]
      apply ByteArray.ext; simp
  · rw [if_neg h, if_neg h, List.append_nil]
set_option maxRecDepth 100000 in
set_option maxHeartbeats 1000000 in
theorem getF_other (x y name : ByteArray) (nb : Nat) (w : World) (hn : w.cell? ⟨nb, 0, none⟩ = some (.string name)) (hne : ¬ x = name) :
    Calls Tryd.prog 48 #[.agg #[.string x, .string y], .pointer (some ⟨nb, 0, none⟩)] w fun e w' => e = .returned (.tuple #[.string ⟨#[]⟩, .bool false]) ∧ Below w.heap.size w w' := by
  have d := text_ne' hne
  have d' : (x.toList != name.toList) = true := by rw [bne, d]; rfl
  have hlt := Recs.lt_of_cell hn
  clear hne
  go_enter Tryd.func48, Tryd.ntmps48
  go_wp2
  go_ret2
  exact ⟨rfl, (Below.refl _ _).alloc (Nat.le_refl _) _⟩
set_option maxRecDepth 100000 in
set_option maxHeartbeats 1000000 in
theorem getF_same (y name : ByteArray) (nb : Nat) (w : World) (hn : w.cell? ⟨nb, 0, none⟩ = some (.string name)) (hy : y.size ≤ 281474976710656) :
    Calls Tryd.prog 48 #[.agg #[.string name, .string y], .pointer (some ⟨nb, 0, none⟩)] w fun e w' => e = .returned (.tuple #[.string y, .bool true]) ∧ Below w.heap.size w w' := by
  have hlt := Recs.lt_of_cell hn
  have HB := Num.hide ((Below.refl w.heap.size w).alloc (Nat.le_refl _) (.cells #[.string name, .string y] 61))
  go_enter Tryd.func48, Tryd.ntmps48
  go_wp2_with fail
  refine (Shelf.clone y _ hy).mono ?_
  rintro e w1 ⟨rfl, hb⟩
  have HB1 := Num.hide (HB.out.trans (hb.mono (by simp)))
  clear hb HB
  go_wp2
  go_ret2
  exact ⟨rfl, HB1.out⟩
theorem get_choice (w0 w : World) (l : List Fld) (name : ByteArray) (nb : Nat) (hz : ∀ f ∈ l, f.1.size ≤ 281474976710656 ∧ f.2.size ≤ 281474976710656) :
    ChoiceS 48 #[.pointer (some ⟨nb, 0, none⟩)] w0.heap.size w.heap.size w0 l (fun k => vals (l.take k) name) (fun _ W => W.cell? ⟨nb, 0, none⟩ = some (.string name)) := by
  intro k hk W hB hn hQ
  have hzk := hz l[k] (List.getElem_mem hk)
  have hT := vals_take l name k hk
  simp only
  rw [hT]
  generalize l[k] = f at hzk
  obtain ⟨x, y⟩ := f
  simp only at hzk
  by_cases e : x = name
  · subst e
    refine (getF_same y x nb W hQ hzk.2).mono ?_
    rintro e W' ⟨rfl, hb2⟩
    exact ⟨y, true, rfl, by simp, (hb2.cell (p := ⟨nb, 0, none⟩) (Recs.lt_of_cell hQ)).trans hQ, Far.of_below hb2 hB.size⟩
  · refine (getF_other x y name nb W hQ e).mono ?_
    rintro e2 W' ⟨rfl, hb2⟩
    exact ⟨⟨#[]⟩, false, rfl, by simp [e], (hb2.cell (p := ⟨nb, 0, none⟩) (Recs.lt_of_cell hQ)).trans hQ, Far.of_below hb2 hB.size⟩
theorem sizes_get {l : List Fld} (h : bulk l ≤ 1099511627776) : ∀ f ∈ l, f.1.size ≤ 281474976710656 ∧ f.2.size ≤ 281474976710656 := by
  intro f hf
  obtain ⟨i, hi, rfl⟩ := List.getElem_of_mem hf
  have h1 := bulk_take l i hi
  have h2 := bulk_le l (i + 1)
  unfold bulk at h
  omega
/-- strings.Join at a list of texts, however it lies -/
theorem join_any (v : Value) (xs : List ByteArray) (sep : ByteArray) (B : Nat) (w : World) (ho : Strs.OwnS B w v xs) (hN : xs.length ≤ 1073741824) (hlen : (Lib.join (xs.map (·.data.toList)) sep.data.toList).length ≤ 140737488355328) :
    Calls Tryd.prog 50 #[v, .string sep] w fun e w' => e = .returned (.string ⟨(Lib.join (xs.map (·.data.toList)) sep.data.toList).toArray⟩) ∧ Below w.heap.size w w' := by
  by_cases h0 : xs.length = 0
  · obtain ⟨a, c, rfl⟩ := Strs.own_len ho
    obtain rfl : xs = [] := List.eq_nil_of_length_eq_zero h0
    exact (Shelf.strings_Join_none a c sep w).mono fun e w' ⟨h1, h2⟩ => ⟨h1, h2 ▸ Below.refl _ _⟩
  · rcases Strs.own_is ho with ⟨h1, _⟩ | ⟨b, o, c, rfl, hc, hm, hcell⟩
    · exact absurd (by rw [h1]; rfl) h0
    · exact Shelf.strings_Join b o c xs sep w (fun j x hj => by obtain ⟨hj2, rfl⟩ := List.getElem?_eq_some_iff.1 hj; exact hcell j hj2) (Recs.lt_of_cell (hcell 0 (by omega))) (by omega) hc hlen
set_option maxRecDepth 100000 in
set_option maxHeartbeats 1000000 in
theorem get_impl (v : Value) (l : List Fld) (name : ByteArray) (w : World) (h : Is w v l) (hl : bulk l ≤ 1073741824) :
    Calls Tryd.prog 28 #[v, .string name] w fun e w' => e = .returned (.tuple #[.string (get l name).1, .bool (get l name).2]) ∧ Below w.heap.size w w' := by
  have hlen : l.length ≤ 1073741824 := by unfold bulk at hl; omega
  have hb := (Below.refl w.heap.size w).alloc (Nat.le_refl _) (.cells #[.string name] 9)
  have HC := Num.hide (chosenS_any 48 #[.pointer (some ⟨w.heap.size, 0, none⟩)] w.heap.size w (w.alloc (.cells #[.string name] 9)) v l (fun k => vals (l.take k) name) (fun _ W => W.cell? ⟨w.heap.size, 0, none⟩ = some (.string name)) h rfl hb (by simp) rfl
    (fun k hk => by have := vals_length (l.take k) name; rw [List.length_take] at this; omega) hlen (by simp)
    (fun k W W' hQ hb2 => (hb2.cell (p := ⟨w.heap.size, 0, none⟩) (by simp)).trans hQ) (get_choice w _ l name w.heap.size (sizes_get (by omega))) (enters_of Tryd.func48 (by kernel_rfl) rfl))
  simp only [List.take_length] at HC
  have hgs := get_size l name
  have hvl := vals_length l name
  have hg := get_join l name
  generalize vals l name = V at HC hg hvl
  generalize get l name = r at hg hgs
  obtain ⟨g, t⟩ := r
  simp only [Prod.mk.injEq] at hg hgs ⊢
  obtain ⟨hg1, hg2⟩ := hg
  have HJ := Num.hide (fun vv B W ho => join_any vv V ⟨#[44, 32]⟩ B W ho (by omega) (by
    have e : (Lib.join (V.map (·.data.toList)) [44, 32]).length = g.size := by rw [hg1]; show _ = Array.size _; simp
    show (Lib.join (V.map (·.data.toList)) [44, 32]).length ≤ _
    rw [e]; unfold bulk at hl; omega))
  have HJ2 : Hid (∀ vv B W, Strs.OwnS B W vv V → Calls Tryd.prog 50 #[vv, .string ⟨#[44, 32]⟩] W fun e w' => e = .returned (.string g) ∧ Below W.heap.size W w') := fun vv B W ho => by rw [hg1]; exact HJ.out vv B W ho
  have HT := Num.hide hg2
  clear h hb HJ hg1 hg2 hgs
  go_enter Tryd.func28, Tryd.ntmps28
  go_wp2_with fail
  refine HC.out.mono ?_
  rintro e w1 ⟨v', rfl, ho, hb1, _⟩
  obtain ⟨va, vc, rfl⟩ := Strs.own_len ho
  have HO := Num.hide ho
  have HB := Num.hide hb1
  clear ho hb1
  go_wp2_with fail
  refine (HJ2.out _ _ _ HO.out).mono ?_
  rintro e w2 ⟨rfl, hb2⟩
  have HB2 := Num.hide (HB.out.trans (hb2.mono HB.out.size))
  clear hb2 HB HO
  go_wp2
  go_ret2
  exact ⟨by rw [HT.out]; rfl, HB2.out⟩
end Flds
end Go.Proofs.YtanimnjiolgknaaDoor
namespace Go.Proofs.YtanimnjiolgknaaDoor
open Go.Shelf
def Shelf.lays160_ren : Go.Shelf.Ren := ⟨fun | 160 => 71 | 232 => 81 | 231 => 80 | 227 => 82 | 234 => 84 | 233 => 83 | 236 => 86 | 235 => 85 | 228 => 93 | 271 => 96 | 151 => 95 | 197 => 94 | 120 => 101 | 152 => 100 | 260 => 99 | 137 => 102 | 119 => 103 | 224 => 89 | 225 => 88 | 217 => 87 | 266 => 97 | n => n, fun | 9 => 9 | 4 => 4 | 3 => 3 | 5 => 5 | 117 => 101 | 116 => 100 | 0 => 0 | 124 => 104 | 21 => 21 | 105 => 110 | 46 => 88 | 119 => 117 | 139 => 120 | 138 => 119 | n => n, fun | 3 => 2 | 4 => 3 | n => n⟩
theorem Shelf.lays160 : Go.Proofs.Lays.n160 Tryd.prog Shelf.lays160_ren := {
  mixed := by kernel_rfl
  f119 := Tryd.func103.trans (congrArg some (by kernel_rfl))
  f120 := Tryd.func101.trans (congrArg some (by kernel_rfl))
  f137 := Tryd.func102.trans (congrArg some (by kernel_rfl))
  f151 := Tryd.func95.trans (congrArg some (by kernel_rfl))
  f152 := Tryd.func100.trans (congrArg some (by kernel_rfl))
  f160 := Tryd.func71.trans (congrArg some (by kernel_rfl))
  f197 := Tryd.func94.trans (congrArg some (by kernel_rfl))
  f217 := Tryd.func87.trans (congrArg some (by kernel_rfl))
  f224 := Tryd.func89.trans (congrArg some (by kernel_rfl))
  f225 := Tryd.func88.trans (congrArg some (by kernel_rfl))
  f227 := Tryd.func82.trans (congrArg some (by kernel_rfl))
  f228 := Tryd.func93.trans (congrArg some (by kernel_rfl))
  f231 := Tryd.func80.trans (congrArg some (by kernel_rfl))
  f232 := Tryd.func81.trans (congrArg some (by kernel_rfl))
  f233 := Tryd.func83.trans (congrArg some (by kernel_rfl))
  f234 := Tryd.func84.trans (congrArg some (by kernel_rfl))
  f235 := Tryd.func85.trans (congrArg some (by kernel_rfl))
  f236 := Tryd.func86.trans (congrArg some (by kernel_rfl))
  f260 := Tryd.func99.trans (congrArg some (by kernel_rfl))
  f266 := Tryd.func97.trans (congrArg some (by kernel_rfl))
  f271 := Tryd.func96.trans (congrArg some (by kernel_rfl))
  t0 := Tryd.underlying0
  a0 := Tryd.isAgg0
  z0 := Tryd.sizeOf0
  v0 := Tryd.zeroValue0
  t3 := Tryd.underlying3
  a3 := Tryd.isAgg3
  z3 := Tryd.sizeOf3
  v3 := Tryd.zeroValue3
  t4 := Tryd.underlying4
  a4 := Tryd.isAgg4
  z4 := Tryd.sizeOf4
  v4 := Tryd.zeroValue4
  t5 := Tryd.underlying5
  a5 := Tryd.isAgg5
  z5 := Tryd.sizeOf5
  v5 := Tryd.zeroValue5
  t9 := Tryd.underlying9
  a9 := Tryd.isAgg9
  z9 := Tryd.sizeOf9
  v9 := Tryd.zeroValue9
  t21 := Tryd.underlying21
  a21 := Tryd.isAgg21
  z21 := Tryd.sizeOf21
  v21 := Tryd.zeroValue21
  t46 := Tryd.underlying88
  a46 := Tryd.isAgg88
  z46 := Tryd.sizeOf88
  v46 := Tryd.zeroValue88
  t105 := Tryd.underlying110
  a105 := Tryd.isAgg110
  z105 := Tryd.sizeOf110
  v105 := Tryd.zeroValue110
  t116 := Tryd.underlying100
  a116 := Tryd.isAgg100
  z116 := Tryd.sizeOf100
  t117 := Tryd.underlying101
  a117 := Tryd.isAgg101
  z117 := Tryd.sizeOf101
  v117 := Tryd.zeroValue101
  t119 := Tryd.underlying117
  a119 := Tryd.isAgg117
  z119 := Tryd.sizeOf117
  t124 := Tryd.underlying104
  a124 := Tryd.isAgg104
  z124 := Tryd.sizeOf104
  v124 := Tryd.zeroValue104
  t138 := Tryd.underlying119
  a138 := Tryd.isAgg119
  z138 := Tryd.sizeOf119
  v138 := Tryd.zeroValue119
  t139 := Tryd.underlying120
  a139 := Tryd.isAgg120
  z139 := Tryd.sizeOf120
  v139 := Tryd.zeroValue120
  g3 := by kernel_rfl
  g4 := by kernel_rfl }
open Go.RowKit in
theorem Shelf.strings_Trim_one (s : ByteArray) (c : UInt8) (hc : c.toNat < 128) (w : World) (hs : s.size ≤ 9223372036854775807) :
    Calls Tryd.prog 71 #[.string s, .string ⟨#[c]⟩] w fun e w' => e = .returned (.string ⟨(Lib.trimB s.data.toList c).toArray⟩) ∧ (w' = w ∨ w' = w.drew) := Any.strings_Trim_one Shelf.lays160 s c hc w hs
end Go.Proofs.YtanimnjiolgknaaDoor
