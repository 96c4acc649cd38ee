/-
  ChsFar: What a choice leaves as it was.
  ChsStr: putChosen of the program from fields to texts: what a choice makes of those of a list that it takes, behind each other in a row of the call's own.
  ShelfClone: internal/stringslite.Clone and strings.Clone at this program, off the library's contract: the same bytes; what was there stays.
  ShelfJoin: Library contracts at this program: strings_Join_none, strings_Join.
  FldGetImpl: FieldGet of the program: all values of a name, joined; what was there stays.
  ShelfTrim: Library contracts at this program: strings_Trim_one.
-/
import Derived.Test.YtbcjpjhpobmpbaaGreatDoorPae
import Derived.Test.YtbcjpjhpobmpbaaGreatDoorPai
import Derived.Shelf.Strconv.Clone
import Derived.Test.YtbcjpjhpobmpbaaGreatDoorRows
import Derived.WalkKit
import Derived.Shelf.Strings.Builder1
import Derived.Shelf.Strings.Builder2
import Derived.Shelf.Strings.OnBuilder
import Derived.Shelf.Strings.Trim
import Derived.Shelf.Small.Utf8
import Derived.Shelf.Small.Strs
import Derived.Shelf.Strings.BuilderF
import Derived.Shelf.Strings.BuilderK
import Derived.Shelf.Strconv.Itoa0
import Derived.Shelf.Strconv.Itoa1
import Derived.Shelf.LaysM
import Derived.Shelf.Strconv.Itoa2
import Derived.Shelf.Strconv.Itoa3
import Derived.Shelf.Strings.Search1
import Derived.Shelf.Strings.Search2
import Derived.Shelf.Strings.Search3
import Derived.Shelf.Strings.Cut
import Derived.Shelf.Strings.Shaped
import Derived.Shelf.Unicode.Decode
import Derived.Shelf.Strings.Runes
import Derived.Shelf.Strings.AsciiSet
import Derived.Shelf.Unicode.DecodeSlow
import Derived.Shelf.Unicode.DecodeAny
import Derived.Shelf.Unicode.DecodeLast
import Derived.Test.YtbcjpjhpobmpbaaGreatDoorPaa
namespace Go.Proofs.YtbcjpjhpobmpbaaGreatDoor
open Go.RowKit
set_option linter.unusedVariables false
namespace Flds

/-- what lies below block B, and from block n on, is as it was -/
structure Far (B n : Nat) (W W' : World) : Prop where
  below : Below B W W'
  rows : ∀ j, n ≤ j → j < W.heap.size → W'.heap[j]? = W.heap[j]?
theorem Far.of_below {B n : Nat} {W W' : World} (h : Below W.heap.size W W') (hB : B ≤ W.heap.size) : Far B n W W' := ⟨h.mono hB, fun j _ hj => h.block j hj⟩
theorem own_far {α : Type} {e : TypeId} {sz : Nat} {enc : α → List Value} {B n : Nat} {W W' : World} {v : Value} {l : List α} (h : Recs.Own e sz enc n W v l) (hf : Far B n W W') : Recs.Own e sz enc n W' v l := by
  refine ⟨h.1, ?_⟩
  have hlt := Recs.own_lt h
  rcases h.2 with h1 | ⟨g, cap, cur, h1, hB, hg, rest⟩
  · exact .inl h1
  · subst h1
    exact .inr ⟨g, cap, cur, rfl, hB, by rw [hf.rows g hB (hlt g rfl).2]; exact hg, rest⟩
end Flds
end Go.Proofs.YtbcjpjhpobmpbaaGreatDoor
namespace Go.Proofs.YtbcjpjhpobmpbaaGreatDoor
open Go.RowKit
set_option linter.unusedVariables false
namespace Flds

theorem strs_far {B n : Nat} {W W' : World} {v : Value} {l : List ByteArray} (h : Strs.OwnS n W v l) (hf : Far B n W W') : Strs.OwnS n W' v l := by
  have hlt := Strs.own_lt h
  refine ⟨h.1, ?_⟩
  rcases h.2 with h1 | ⟨g, cap, cur, h1, hB, hg, rest⟩
  · exact .inl h1
  · subst h1
    exact .inr ⟨g, cap, cur, rfl, hB, by rw [hf.rows g hB (hlt g rfl).2]; exact hg, rest⟩
/-- what a choice does at each element: what it makes of it, and whether it takes it -/
def ChoiceS (g : Nat) (cap : Array Value) (B n : Nat) (w : World) (l : List Fld) (A : Nat → List ByteArray) (Q : Nat → World → Prop) : Prop :=
  ∀ k (hk : k < l.length) (W : World), Below B w W → n ≤ W.heap.size → Q k W →
    Calls Tryz.prog g (#[.agg #[.string l[k].1, .string l[k].2]] ++ cap) W fun e W' => ∃ (m : ByteArray) (t : Bool), e = .returned (.tuple #[.string m, .bool t]) ∧ A (k + 1) = A k ++ (if t = true then [m] else []) ∧ Q (k + 1) W' ∧ Far B n W W'
set_option maxRecDepth 100000 in
set_option maxHeartbeats 1000000 in
theorem chosenS_any (g : Nat) (cap : Array Value) (B : Nat) (w0 w : World) (v : Value) (l : List Fld) (A : Nat → List ByteArray) (Q : Nat → World → Prop)
    (h : Is w0 v l) (hB : B = w0.heap.size) (hb : Below B w0 w) (hBn : B ≤ w.heap.size) (hA0 : A 0 = []) (hA : ∀ k, k ≤ l.length → (A k).length ≤ 1073741824) (hl : l.length ≤ 1073741824)
    (hQ0 : Q 0 w) (hQ : ∀ k W W', Q k W → Below w.heap.size W W' → Q k W') (HC : ChoiceS g cap B w.heap.size w0 l A Q) (hent : ∀ args W, (callFunc g args).run Tryz.prog W = .ok (.enter g args) W) :
    Calls Tryz.prog 121 #[v, .func (.func g) #[] cap] w fun e w' => ∃ v', e = .returned v' ∧ Strs.OwnS w.heap.size w' v' (A l.length) ∧ Below B w0 w' ∧ Q l.length w' := by
  obtain ⟨a, c, rfl, h2⟩ := is_form h
  have HA := Num.hide h2
  clear h h2
  have HCh := Num.hide HC
  have HQ := Num.hide hQ
  have HAl := Num.hide hA
  have HQ0 := Num.hide hQ0
  have HB0 := Num.hide hb
  have HA0 : Hid (Strs.OwnS w.heap.size w (.slice none 0 0) (A 0)) := by rw [hA0]; exact Strs.own_nil _ _
  clear HC hQ hA hQ0 hb hA0
  obtain ⟨i0, hi0, hz0, hz1, hz2⟩ := info_parts Strs.infoS
  go_enter Tryz.func121, Tryz.ntmps121
  go_wp2
  go_loopw [5, 12] (fun ov iv wr => ∃ i : Nat, i ≤ l.length ∧ iv = .int .i64 (i : Int) ∧ Hid (Strs.OwnS w.heap.size wr ov (A i)) ∧ Hid (Below B w0 wr) ∧ Hid (Q i wr) ∧ w.heap.size ≤ wr.heap.size) (fun _ iv _ => l.length - (intOf iv).toNat)
  case atStart => exact ⟨0, by omega, rfl, HA0, HB0, HQ0, Nat.le_refl _⟩
  case round =>
    clear HA0 HB0 HQ0
    obtain ⟨i, hi, rfl, HO, HB, HQi, hsz⟩ := hrel
    by_cases hlt : i < l.length
    · obtain ⟨bk, o, rfl, hc, hmx, hblt, hcell⟩ := Num.unhide HA (by omega)
      obtain ⟨g1, g2⟩ := hcell i hlt
      have c1 : wr.cell? ⟨bk, o + i * 2, none⟩ = some (.string l[i].1) := by rw [HB.out.cell (p := ⟨bk, o + i * 2, none⟩) (by show bk < B; omega)]; exact g1
      have c2 : wr.cell? ⟨bk, o + i * 2 + 1, none⟩ = some (.string l[i].2) := by rw [HB.out.cell (p := ⟨bk, o + i * 2 + 1, none⟩) (by show bk < B; omega)]; exact g2
      have HCi := Num.hide (HCh.out i hlt)
      have hdl := HAl.out i (by omega)
      clear hcell g1 g2
      generalize l[i] = f at c1 c2 HCi
      obtain ⟨x, y⟩ := f
      simp only at c1 c2
      have hsz1 : w.heap.size ≤ (wr.alloc (.cells #[.string x, .string y] 47)).heap.size := by simp; omega
      have HB1 := Num.hide (HB.out.alloc (by omega) (.cells #[.string x, .string y] 47))
      have HQ1 := Num.hide (HQ.out i _ _ HQi.out ((Below.refl w.heap.size wr).alloc hsz (.cells #[.string x, .string y] 47)))
      have HO1 := Num.hide (World.ownsRow.alloc HO.out (.cells #[.string x, .string y] 47))
      go_wp2_with fail
      refine (HCi.out _ HB1.out hsz1 HQ1.out).mono ?_
      rintro e w1 ⟨m, t, rfl, hAk, hQk, hF⟩
      have HO2 := Num.hide (strs_far HO1.out hF)
      have HB2 := Num.hide (HB1.out.trans hF.below)
      have HQ2 := Num.hide hQk
      have HAk := Num.hide hAk
      have hsz2 := Nat.le_trans hsz1 hF.below.size
      clear hF hQk hAk HO HB HQi HB1 HQ1 HO1 hsz1 c1 c2
      cases t with
      | false =>
        have HO4 : Hid (Strs.OwnS w.heap.size w1 u5 (A (i + 1))) := by
          rw [HAk.out, if_neg (by simp), List.append_nil]; exact HO2
        clear HO2
        go_wp2
        go_roundw
        case rel => exact ⟨i + 1, by omega, by go_num, HO4, HB2, HQ2, hsz2⟩
        case measure => simp [intOf]; omega
      | true =>
        have HAk2 : Hid (A (i + 1) = A i ++ [m]) := by show _ = _; rw [HAk.out, if_pos rfl]
        clear HAk
        go_wp2_with (at_builtin; refine wpList_append_own _ rfl _ _ 55 rfl w.heap.size 9 i0 (.string ⟨#[]⟩) 1 16 Tryz.underlying55 hi0 hz0 hz1 hz2 rfl (by decide) _ _ _ rfl (World.ownsRow.alloc HO2.out _) ⟨w1.heap.size, 0, none⟩ 1 1 [.string m] rfl rfl (Strs.cells_one w1 m) (Strs.one_ok m) (by unfold maxLen; omega) (by omega) ?c5 ?_)
        case c5 => simp; omega
        intro v' w2 ho2 hg2 _
        have hp2 := Strs.below_grown ((Below.refl w.heap.size w1).alloc hsz2 (.cells #[.string m] 9)) hg2 (fun j hj => (Strs.own_lt HO2.out j hj).1) (by simp; omega)
        have HP1 : Hid (Strs.OwnS w.heap.size w2 v' (A (i + 1))) := by rw [HAk2.out]; exact Strs.own_snoc ho2
        have HP2 := Num.hide (HB2.out.trans (hp2.mono (by omega)))
        have HP3 := Num.hide (HQ.out (i + 1) _ _ HQ2.out hp2)
        have hsz4 := Nat.le_trans hsz2 hp2.size
        clear ho2 hg2 hp2
        go_wp2
        go_roundw
        case rel => exact ⟨i + 1, by omega, by go_num, HP1, HP2, HP3, hsz4⟩
        case measure => simp [intOf]; omega
    · obtain rfl : i = l.length := by omega
      go_wp2
      go_ret
      exact ⟨_, rfl, HO.out, HB.out, HQi.out⟩
end Flds
end Go.Proofs.YtbcjpjhpobmpbaaGreatDoor
namespace Go.Proofs.YtbcjpjhpobmpbaaGreatDoor
open Go.Shelf Go.RowKit
set_option linter.unusedVariables false
def Shelf.lays316_ren : Go.Shelf.Ren := ⟨fun | 316 => 139 | n => n, fun | 0 => 0 | 3 => 3 | 4 => 4 | 5 => 5 | 9 => 9 | 37 => 42 | 127 => 149 | n => n, fun | n => n⟩
theorem Shelf.lays316 : Go.Proofs.LaysM.n316 Tryz.prog Shelf.lays316_ren := {
  mixed := by kernel_rfl
  f316 := Tryz.func139.trans (congrArg some (by kernel_rfl))
  t0 := Tryz.underlying0
  a0 := Tryz.isAgg0
  z0 := Tryz.sizeOf0
  v0 := Tryz.zeroValue0
  t3 := Tryz.underlying3
  a3 := Tryz.isAgg3
  z3 := Tryz.sizeOf3
  v3 := Tryz.zeroValue3
  t4 := Tryz.underlying4
  a4 := Tryz.isAgg4
  z4 := Tryz.sizeOf4
  v4 := Tryz.zeroValue4
  t9 := Tryz.underlying9
  a9 := Tryz.isAgg9
  z9 := Tryz.sizeOf9
  v9 := Tryz.zeroValue9
  t37 := Tryz.underlying42
  a37 := Tryz.isAgg42
  z37 := Tryz.sizeOf42
  v37 := Tryz.zeroValue42
  t127 := Tryz.underlying149
  a127 := Tryz.isAgg149
  z127 := Tryz.sizeOf149
  v127 := Tryz.zeroValue149
  t5 := Tryz.underlying5
  a5 := Tryz.isAgg5
  z5 := Tryz.sizeOf5
  v5 := Tryz.zeroValue5
  i0 := by kernel_rfl
  i3 := by kernel_rfl
  i4 := by kernel_rfl
  i5 := by kernel_rfl
  i9 := by kernel_rfl
  i37 := by kernel_rfl
  i127 := by kernel_rfl }
theorem Shelf.clone_in (s : ByteArray) (w : World) (hlim : s.size ≤ 281474976710656) :
    Calls Tryz.prog 139 #[.string s] w fun e w' => e = .returned (.string s) ∧ Below w.heap.size w w' := Any.stringslite_Clone Shelf.lays316 s w hlim
set_option maxHeartbeats 1000000 in
theorem Shelf.clone (s : ByteArray) (w : World) (hlim : s.size ≤ 281474976710656) :
    Calls Tryz.prog 123 #[.string s] w fun e w' => e = .returned (.string s) ∧ Below w.heap.size w w' := by
  go_enter Tryz.func123, Tryz.ntmps123
  go_wp2_with fail
  refine (Shelf.clone_in s _ hlim).mono ?_
  rintro e w1 ⟨rfl, hb⟩
  go_wp2
  go_ret
  exact ⟨rfl, hb⟩
end Go.Proofs.YtbcjpjhpobmpbaaGreatDoor
namespace Go.Proofs.YtbcjpjhpobmpbaaGreatDoor
open Go.Shelf
def Shelf.lays156_ren : Go.Shelf.Ren := ⟨fun | 156 => 124 | 165 => 140 | 166 => 141 | 169 => 142 | 240 => 155 | 241 => 156 | 276 => 165 | 277 => 166 | n => n, fun | 31 => 55 | 9 => 9 | 3 => 3 | 4 => 4 | 0 => 0 | 20 => 20 | 72 => 135 | 76 => 139 | 70 => 133 | 37 => 42 | 75 => 138 | 127 => 149 | 164 => 154 | 5 => 5 | 80 => 141 | n => n, fun | n => n⟩
theorem Shelf.lays156 : Go.Proofs.Lays.n156 Tryz.prog Shelf.lays156_ren := {
  mixed := by kernel_rfl
  f156 := Tryz.func124.trans (congrArg some (by kernel_rfl))
  f165 := Tryz.func140.trans (congrArg some (by kernel_rfl))
  f166 := Tryz.func141.trans (congrArg some (by kernel_rfl))
  f169 := Tryz.func142.trans (congrArg some (by kernel_rfl))
  f240 := Tryz.func155.trans (congrArg some (by kernel_rfl))
  f241 := Tryz.func156.trans (congrArg some (by kernel_rfl))
  f276 := Tryz.func165.trans (congrArg some (by kernel_rfl))
  f277 := Tryz.func166.trans (congrArg some (by kernel_rfl))
  t0 := Tryz.underlying0
  a0 := Tryz.isAgg0
  z0 := Tryz.sizeOf0
  v0 := Tryz.zeroValue0
  t3 := Tryz.underlying3
  a3 := Tryz.isAgg3
  z3 := Tryz.sizeOf3
  v3 := Tryz.zeroValue3
  t4 := Tryz.underlying4
  a4 := Tryz.isAgg4
  z4 := Tryz.sizeOf4
  v4 := Tryz.zeroValue4
  t9 := Tryz.underlying9
  a9 := Tryz.isAgg9
  z9 := Tryz.sizeOf9
  v9 := Tryz.zeroValue9
  t20 := Tryz.underlying20
  a20 := Tryz.isAgg20
  z20 := Tryz.sizeOf20
  v20 := Tryz.zeroValue20
  t31 := Tryz.underlying55
  a31 := Tryz.isAgg55
  z31 := Tryz.sizeOf55
  v31 := Tryz.zeroValue55
  t37 := Tryz.underlying42
  a37 := Tryz.isAgg42
  z37 := Tryz.sizeOf42
  v37 := Tryz.zeroValue42
  t70 := Tryz.underlying133
  a70 := Tryz.isAgg133
  z70 := Tryz.sizeOf133
  v70 := Tryz.zeroValue133
  t72 := Tryz.underlying135
  a72 := Tryz.isAgg135
  z72 := Tryz.sizeOf135
  v72 := Tryz.zeroValue135
  t75 := Tryz.underlying138
  a75 := Tryz.isAgg138
  z75 := Tryz.sizeOf138
  v75 := Tryz.zeroValue138
  t76 := Tryz.underlying139
  a76 := Tryz.isAgg139
  z76 := Tryz.sizeOf139
  v76 := Tryz.zeroValue139
  t127 := Tryz.underlying149
  a127 := Tryz.isAgg149
  z127 := Tryz.sizeOf149
  v127 := Tryz.zeroValue149
  t164 := Tryz.underlying154
  a164 := Tryz.isAgg154
  z164 := Tryz.sizeOf154
  v164 := Tryz.zeroValue154 }
theorem Shelf.Builder_Extra_156 : Builder.Extra Tryz.prog Shelf.lays156_ren := {
  sizeBuilder := by kernel_rfl
  liesBuilder := by kernel_rfl
  t5 := Tryz.underlying5
  a5 := Tryz.isAgg5
  z5 := Tryz.sizeOf5
  v5 := Tryz.zeroValue5
  infoByte := by kernel_rfl
  cellsByte := by kernel_rfl
  sizeByte := by kernel_rfl
  neB5 := by decide }
open Go.RowKit in
theorem Shelf.strings_Join_none (a : Option Addr) (c : Nat) (sep : ByteArray) (w : World) :
    Calls Tryz.prog 124 #[.slice a 0 c, .string sep] w fun e w' => e = .returned (.string ⟨#[]⟩) ∧ w' = w := Any.strings_Join_none Shelf.lays156 Shelf.Builder_Extra_156 a c sep w
open Go.RowKit in
theorem Shelf.strings_Join (bk o c : Nat) (xs : List ByteArray) (sep : ByteArray) (w : World) (hcells : ∀ (j : Nat) x, xs[j]? = some x → w.cell? ⟨bk, o + j, none⟩ = some (.string x)) (hbk : bk < w.heap.size) (hN : xs.length ≤ 140737488355328) (hcap : xs.length ≤ c) (hlen : (Lib.join (xs.map (·.data.toList)) sep.data.toList).length ≤ 140737488355328) :
    Calls Tryz.prog 124 #[.slice (some ⟨bk, o, none⟩) xs.length c, .string sep] w fun e w' => e = .returned (.string ⟨(Lib.join (xs.map (·.data.toList)) sep.data.toList).toArray⟩) ∧ Below w.heap.size w w' := Any.strings_Join Shelf.lays156 Shelf.Builder_Extra_156 bk o c xs sep w hcells hbk hN hcap hlen
end Go.Proofs.YtbcjpjhpobmpbaaGreatDoor
namespace Go.Proofs.YtbcjpjhpobmpbaaGreatDoor
open Go.RowKit
set_option linter.unusedVariables false
namespace Flds

/-- the values of a name -/
def vals (l : List Fld) (name : ByteArray) : List ByteArray := l.foldl (fun r f => r ++ (if f.1 = name then [f.2] else [])) []
theorem vals_take (l : List Fld) (name : ByteArray) (k : Nat) (h : k < l.length) : vals (l.take (k + 1)) name = vals (l.take k) name ++ (if l[k].1 = name then [l[k].2] else []) := by
  unfold vals
  rw [List.take_succ_eq_append_getElem h, List.foldl_append]; rfl
theorem vals_snoc (l : List Fld) (f : Fld) (name : ByteArray) : vals (l ++ [f]) name = vals l name ++ (if f.1 = name then [f.2] else []) := by
  unfold vals
  rw [List.foldl_append]; rfl
theorem vals_length (l : List Fld) (name : ByteArray) : (vals l name).length ≤ l.length := by
  refine Num.snoc_ind (P := fun l => (vals l name).length ≤ l.length) (Nat.le_refl _) ?_ l
  intro l f ih
  rw [vals_snoc, List.length_append, List.length_append]
  split <;> simp <;> omega
theorem join_snoc (xs : List (List UInt8)) (x sep : List UInt8) : Lib.join (xs ++ [x]) sep = if xs = [] then x else Lib.join xs sep ++ sep ++ x := by
  cases xs with
  | nil => simp [Lib.join_one]
  | cons a t => rw [List.cons_append, Lib.join_cons, Lib.join_cons]; simp [Lib.joinTail]
/-- what is joined of the values is what is got -/
theorem get_join (l : List Fld) (name : ByteArray) : get l name = (⟨(Lib.join ((vals l name).map (·.data.toList)) [44, 32]).toArray⟩, decide (0 < (vals l name).length)) := by
  refine Num.snoc_ind (P := fun l => get l name = (⟨(Lib.join ((vals l name).map (·.data.toList)) [44, 32]).toArray⟩, decide (0 < (vals l name).length))) rfl ?_ l
  intro l f ih
  have e : get (l ++ [f]) name = getStep name (get l name) f := by unfold get; rw [List.foldl_append]; rfl
  rw [e, ih, vals_snoc]
  unfold getStep
  by_cases h : f.1 = name
  · rw [if_pos h, if_pos h, List.map_append, List.map_cons, List.map_nil, join_snoc]
    generalize vals l name = V
    cases V with
    | nil =>
      simp only [List.map_nil, Lib.join_nil, List.length_nil, Nat.lt_irrefl, decide_false, Bool.false_eq_true, if_false, List.nil_append, List.length_cons, Nat.lt_add_one, decide_true, if_true, Prod.mk.injEq, and_true]
      apply ByteArray.ext; simp
    | cons a t =>
      simp only [List.length_cons, Nat.zero_lt_succ, decide_true, if_true, List.length_append, List.map_cons, reduceCtorEq, if_false, Prod.mk.injEq, Nat.add_pos_left, and_true]
      apply ByteArray.ext; simp
  · rw [if_neg h, if_neg h, List.append_nil]
set_option maxRecDepth 100000 in
set_option maxHeartbeats 1000000 in
theorem getF_other (x y name : ByteArray) (nb : Nat) (w : World) (hn : w.cell? ⟨nb, 0, none⟩ = some (.string name)) (hne : ¬ x = name) :
    Calls Tryz.prog 122 #[.agg #[.string x, .string y], .pointer (some ⟨nb, 0, none⟩)] w fun e w' => e = .returned (.tuple #[.string ⟨#[]⟩, .bool false]) ∧ Below w.heap.size w w' := by
  have d := text_ne' hne
  have d' : (x.toList != name.toList) = true := by rw [bne, d]; rfl
  have hlt := Recs.lt_of_cell hn
  clear hne
  go_enter Tryz.func122, Tryz.ntmps122
  go_wp2
  go_ret2
  exact ⟨rfl, (Below.refl _ _).alloc (Nat.le_refl _) _⟩
set_option maxRecDepth 100000 in
set_option maxHeartbeats 1000000 in
theorem getF_same (y name : ByteArray) (nb : Nat) (w : World) (hn : w.cell? ⟨nb, 0, none⟩ = some (.string name)) (hy : y.size ≤ 281474976710656) :
    Calls Tryz.prog 122 #[.agg #[.string name, .string y], .pointer (some ⟨nb, 0, none⟩)] w fun e w' => e = .returned (.tuple #[.string y, .bool true]) ∧ Below w.heap.size w w' := by
  have hlt := Recs.lt_of_cell hn
  have HB := Num.hide ((Below.refl w.heap.size w).alloc (Nat.le_refl _) (.cells #[.string name, .string y] 47))
  go_enter Tryz.func122, Tryz.ntmps122
  go_wp2_with fail
  refine (Shelf.clone y _ hy).mono ?_
  rintro e w1 ⟨rfl, hb⟩
  have HB1 := Num.hide (HB.out.trans (hb.mono (by simp)))
  clear hb HB
  go_wp2
  go_ret2
  exact ⟨rfl, HB1.out⟩
theorem get_choice (w0 w : World) (l : List Fld) (name : ByteArray) (nb : Nat) (hz : ∀ f ∈ l, f.1.size ≤ 281474976710656 ∧ f.2.size ≤ 281474976710656) :
    ChoiceS 122 #[.pointer (some ⟨nb, 0, none⟩)] w0.heap.size w.heap.size w0 l (fun k => vals (l.take k) name) (fun _ W => W.cell? ⟨nb, 0, none⟩ = some (.string name)) := by
  intro k hk W hB hn hQ
  have hzk := hz l[k] (List.getElem_mem hk)
  have hT := vals_take l name k hk
  simp only
  rw [hT]
  generalize l[k] = f at hzk
  obtain ⟨x, y⟩ := f
  simp only at hzk
  by_cases e : x = name
  · subst e
    refine (getF_same y x nb W hQ hzk.2).mono ?_
    rintro e W' ⟨rfl, hb2⟩
    exact ⟨y, true, rfl, by simp, (hb2.cell (p := ⟨nb, 0, none⟩) (Recs.lt_of_cell hQ)).trans hQ, Far.of_below hb2 hB.size⟩
  · refine (getF_other x y name nb W hQ e).mono ?_
    rintro e2 W' ⟨rfl, hb2⟩
    exact ⟨⟨#[]⟩, false, rfl, by simp [e], (hb2.cell (p := ⟨nb, 0, none⟩) (Recs.lt_of_cell hQ)).trans hQ, Far.of_below hb2 hB.size⟩
theorem sizes_get {l : List Fld} (h : bulk l ≤ 1099511627776) : ∀ f ∈ l, f.1.size ≤ 281474976710656 ∧ f.2.size ≤ 281474976710656 := by
  intro f hf
  obtain ⟨i, hi, rfl⟩ := List.getElem_of_mem hf
  have h1 := bulk_take l i hi
  have h2 := bulk_le l (i + 1)
  unfold bulk at h
  omega
/-- strings.Join at a list of texts, however it lies -/
theorem join_any (v : Value) (xs : List ByteArray) (sep : ByteArray) (B : Nat) (w : World) (ho : Strs.OwnS B w v xs) (hN : xs.length ≤ 1073741824) (hlen : (Lib.join (xs.map (·.data.toList)) sep.data.toList).length ≤ 140737488355328) :
    Calls Tryz.prog 124 #[v, .string sep] w fun e w' => e = .returned (.string ⟨(Lib.join (xs.map (·.data.toList)) sep.data.toList).toArray⟩) ∧ Below w.heap.size w w' := by
  by_cases h0 : xs.length = 0
  · obtain ⟨a, c, rfl⟩ := Strs.own_len ho
    obtain rfl : xs = [] := List.eq_nil_of_length_eq_zero h0
    exact (Shelf.strings_Join_none a c sep w).mono fun e w' ⟨h1, h2⟩ => ⟨h1, h2 ▸ Below.refl _ _⟩
  · rcases Strs.own_is ho with ⟨h1, _⟩ | ⟨b, o, c, rfl, hc, hm, hcell⟩
    · exact absurd (by rw [h1]; rfl) h0
    · exact Shelf.strings_Join b o c xs sep w (fun j x hj => by obtain ⟨hj2, rfl⟩ := List.getElem?_eq_some_iff.1 hj; exact hcell j hj2) (Recs.lt_of_cell (hcell 0 (by omega))) (by omega) hc hlen
set_option maxRecDepth 100000 in
set_option maxHeartbeats 1000000 in
theorem get_impl (v : Value) (l : List Fld) (name : ByteArray) (w : World) (h : Is w v l) (hl : bulk l ≤ 1073741824) :
    Calls Tryz.prog 94 #[v, .string name] w fun e w' => e = .returned (.tuple #[.string (get l name).1, .bool (get l name).2]) ∧ Below w.heap.size w w' := by
  have hlen : l.length ≤ 1073741824 := by unfold bulk at hl; omega
  have hb := (Below.refl w.heap.size w).alloc (Nat.le_refl _) (.cells #[.string name] 9)
  have HC := Num.hide (chosenS_any 122 #[.pointer (some ⟨w.heap.size, 0, none⟩)] w.heap.size w (w.alloc (.cells #[.string name] 9)) v l (fun k => vals (l.take k) name) (fun _ W => W.cell? ⟨w.heap.size, 0, none⟩ = some (.string name)) h rfl hb (by simp) rfl
    (fun k hk => by have := vals_length (l.take k) name; rw [List.length_take] at this; omega) hlen (by simp)
    (fun k W W' hQ hb2 => (hb2.cell (p := ⟨w.heap.size, 0, none⟩) (by simp)).trans hQ) (get_choice w _ l name w.heap.size (sizes_get (by omega))) (enters_of Tryz.func122 (by kernel_rfl) rfl))
  simp only [List.take_length] at HC
  have hgs := get_size l name
  have hvl := vals_length l name
  have hg := get_join l name
  generalize vals l name = V at HC hg hvl
  generalize get l name = r at hg hgs
  obtain ⟨g, t⟩ := r
  simp only [Prod.mk.injEq] at hg hgs ⊢
  obtain ⟨hg1, hg2⟩ := hg
  have HJ := Num.hide (fun vv B W ho => join_any vv V ⟨#[44, 32]⟩ B W ho (by omega) (by
    have e : (Lib.join (V.map (·.data.toList)) [44, 32]).length = g.size := by rw [hg1]; show _ = Array.size _; simp
    show (Lib.join (V.map (·.data.toList)) [44, 32]).length ≤ _
    rw [e]; unfold bulk at hl; omega))
  have HJ2 : Hid (∀ vv B W, Strs.OwnS B W vv V → Calls Tryz.prog 124 #[vv, .string ⟨#[44, 32]⟩] W fun e w' => e = .returned (.string g) ∧ Below W.heap.size W w') := fun vv B W ho => by rw [hg1]; exact HJ.out vv B W ho
  have HT := Num.hide hg2
  clear h hb HJ hg1 hg2 hgs
  go_enter Tryz.func94, Tryz.ntmps94
  go_wp2_with fail
  refine HC.out.mono ?_
  rintro e w1 ⟨v', rfl, ho, hb1, _⟩
  obtain ⟨va, vc, rfl⟩ := Strs.own_len ho
  have HO := Num.hide ho
  have HB := Num.hide hb1
  clear ho hb1
  go_wp2_with fail
  refine (HJ2.out _ _ _ HO.out).mono ?_
  rintro e w2 ⟨rfl, hb2⟩
  have HB2 := Num.hide (HB.out.trans (hb2.mono HB.out.size))
  clear hb2 HB HO
  go_wp2
  go_ret2
  exact ⟨by rw [HT.out]; rfl, HB2.out⟩
end Flds
end Go.Proofs.YtbcjpjhpobmpbaaGreatDoor
namespace Go.Proofs.YtbcjpjhpobmpbaaGreatDoor
open Go.Shelf
def Shelf.lays160_ren : Go.Shelf.Ren := ⟨fun | 160 => 164 | 232 => 177 | 231 => 176 | 227 => 178 | 234 => 180 | 233 => 179 | 236 => 182 | 235 => 181 | 228 => 189 | 271 => 192 | 151 => 191 | 197 => 190 | 120 => 198 | 152 => 197 | 260 => 196 | 137 => 200 | 119 => 201 | 224 => 185 | 225 => 184 | 217 => 183 | 266 => 193 | n => n, fun | 9 => 9 | 4 => 4 | 3 => 3 | 5 => 5 | 117 => 165 | 116 => 164 | 0 => 0 | 124 => 168 | 21 => 21 | 105 => 170 | 46 => 118 | 119 => 178 | 139 => 181 | 138 => 180 | n => n, fun | 3 => 2 | 4 => 3 | n => n⟩
theorem Shelf.lays160 : Go.Proofs.Lays.n160 Tryz.prog Shelf.lays160_ren := {
  mixed := by kernel_rfl
  f119 := Tryz.func201.trans (congrArg some (by kernel_rfl))
  f120 := Tryz.func198.trans (congrArg some (by kernel_rfl))
  f137 := Tryz.func200.trans (congrArg some (by kernel_rfl))
  f151 := Tryz.func191.trans (congrArg some (by kernel_rfl))
  f152 := Tryz.func197.trans (congrArg some (by kernel_rfl))
  f160 := Tryz.func164.trans (congrArg some (by kernel_rfl))
  f197 := Tryz.func190.trans (congrArg some (by kernel_rfl))
  f217 := Tryz.func183.trans (congrArg some (by kernel_rfl))
  f224 := Tryz.func185.trans (congrArg some (by kernel_rfl))
  f225 := Tryz.func184.trans (congrArg some (by kernel_rfl))
  f227 := Tryz.func178.trans (congrArg some (by kernel_rfl))
  f228 := Tryz.func189.trans (congrArg some (by kernel_rfl))
  f231 := Tryz.func176.trans (congrArg some (by kernel_rfl))
  f232 := Tryz.func177.trans (congrArg some (by kernel_rfl))
  f233 := Tryz.func179.trans (congrArg some (by kernel_rfl))
  f234 := Tryz.func180.trans (congrArg some (by kernel_rfl))
  f235 := Tryz.func181.trans (congrArg some (by kernel_rfl))
  f236 := Tryz.func182.trans (congrArg some (by kernel_rfl))
  f260 := Tryz.func196.trans (congrArg some (by kernel_rfl))
  f266 := Tryz.func193.trans (congrArg some (by kernel_rfl))
  f271 := Tryz.func192.trans (congrArg some (by kernel_rfl))
  t0 := Tryz.underlying0
  a0 := Tryz.isAgg0
  z0 := Tryz.sizeOf0
  v0 := Tryz.zeroValue0
  t3 := Tryz.underlying3
  a3 := Tryz.isAgg3
  z3 := Tryz.sizeOf3
  v3 := Tryz.zeroValue3
  t4 := Tryz.underlying4
  a4 := Tryz.isAgg4
  z4 := Tryz.sizeOf4
  v4 := Tryz.zeroValue4
  t5 := Tryz.underlying5
  a5 := Tryz.isAgg5
  z5 := Tryz.sizeOf5
  v5 := Tryz.zeroValue5
  t9 := Tryz.underlying9
  a9 := Tryz.isAgg9
  z9 := Tryz.sizeOf9
  v9 := Tryz.zeroValue9
  t21 := Tryz.underlying21
  a21 := Tryz.isAgg21
  z21 := Tryz.sizeOf21
  v21 := Tryz.zeroValue21
  t46 := Tryz.underlying118
  a46 := Tryz.isAgg118
  z46 := Tryz.sizeOf118
  v46 := Tryz.zeroValue118
  t105 := Tryz.underlying170
  a105 := Tryz.isAgg170
  z105 := Tryz.sizeOf170
  v105 := Tryz.zeroValue170
  t116 := Tryz.underlying164
  a116 := Tryz.isAgg164
  z116 := Tryz.sizeOf164
  t117 := Tryz.underlying165
  a117 := Tryz.isAgg165
  z117 := Tryz.sizeOf165
  v117 := Tryz.zeroValue165
  t119 := Tryz.underlying178
  a119 := Tryz.isAgg178
  z119 := Tryz.sizeOf178
  t124 := Tryz.underlying168
  a124 := Tryz.isAgg168
  z124 := Tryz.sizeOf168
  v124 := Tryz.zeroValue168
  t138 := Tryz.underlying180
  a138 := Tryz.isAgg180
  z138 := Tryz.sizeOf180
  v138 := Tryz.zeroValue180
  t139 := Tryz.underlying181
  a139 := Tryz.isAgg181
  z139 := Tryz.sizeOf181
  v139 := Tryz.zeroValue181
  g3 := by kernel_rfl
  g4 := by kernel_rfl }
open Go.RowKit in
theorem Shelf.strings_Trim_one (s : ByteArray) (c : UInt8) (hc : c.toNat < 128) (w : World) (hs : s.size ≤ 9223372036854775807) :
    Calls Tryz.prog 164 #[.string s, .string ⟨#[c]⟩] w fun e w' => e = .returned (.string ⟨(Lib.trimB s.data.toList c).toArray⟩) ∧ (w' = w ∨ w' = w.drew) := Any.strings_Trim_one Shelf.lays160 s c hc w hs
end Go.Proofs.YtbcjpjhpobmpbaaGreatDoor
