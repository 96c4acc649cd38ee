/-
  OwnNum: Fields without those that say how long a body is, as the program tells them, plain.
  ChsFar: What a choice leaves as it was.
  ChsFld: putChosen of the program at fields: what a choice makes of those of a list that it takes, behind each other in a row of the call's own.
  ShelfClone: internal/stringslite.Clone and strings.Clone at this program, off the library's contract: the same bytes; what was there stays.
  FldNew: newField of the program: a field of two texts, in memory of its own.
  FldDropImpl: FieldDrop of the program: those of another name, in a row of the call's own; what was there stays.
  FldSameImpl: SameFields of the program, and slices.Equal at fields: whether two lists of fields are the same.
  ShelfTrim: Library contracts at this program: strings_Trim_one.
-/
import Derived.Test.YtbajfklnekfeoaaGreatDoorPah
import Derived.Test.YtbajfklnekfeoaaGreatDoorPab
import Derived.Shelf.Strconv.Clone
import Derived.Test.YtbajfklnekfeoaaGreatDoorRows
import Derived.WalkKit
import Derived.Test.YtbajfklnekfeoaaGreatDoorPaf
import Derived.Test.YtbajfklnekfeoaaGreatDoorRegLaw
import Derived.Test.YtbajfklnekfeoaaGreatDoorPai
import Derived.Shelf.Strings.Builder1
import Derived.Shelf.Strings.Builder2
import Derived.Shelf.Strings.OnBuilder
import Derived.Shelf.Strings.Trim
import Derived.Shelf.Small.Utf8
import Derived.Shelf.Small.Strs
import Derived.Shelf.Strings.BuilderF
import Derived.Shelf.Strings.BuilderK
import Derived.Shelf.Strconv.Atoi
import Derived.Shelf.Strconv.Itoa0
import Derived.Shelf.Strconv.Itoa1
import Derived.Shelf.LaysM
import Derived.Shelf.Strconv.Itoa2
import Derived.Shelf.Strconv.Itoa3
import Derived.Shelf.Strconv.AtoiErrFast
import Derived.Shelf.Strconv.ParseIntEmpty
import Derived.Shelf.Strconv.AtoiFail
import Derived.Shelf.Strconv.SyntaxError
import Derived.Shelf.LaysC
import Derived.Shelf.Strconv.ToError
import Derived.Shelf.Strconv.AtoiErr
import Derived.Shelf.Strconv.ErrVar
import Derived.Shelf.Strings.Search1
import Derived.Shelf.Strings.Search2
import Derived.Shelf.Strings.Search3
import Derived.Shelf.Strings.Cut
import Derived.Shelf.Strings.Shaped
import Derived.Shelf.Strings.Prefix
import Derived.Shelf.Unicode.Decode
import Derived.Shelf.Strings.Runes
import Derived.Shelf.Strings.AsciiSet
import Derived.Shelf.Unicode.DecodeSlow
import Derived.Shelf.Unicode.DecodeAny
import Derived.Shelf.Unicode.DecodeLast
namespace Go.Proofs.YtbajfklnekfeoaaGreatDoor
open Go.RowKit
set_option linter.unusedVariables false
namespace Msg
open Flds (Fld)

theorem bulk_drop (l : List Flds.Fld) (n : ByteArray) : Flds.bulk (Flds.drop l n) ≤ Flds.bulk l := by
  unfold Flds.bulk Flds.drop
  induction l with
  | nil => simp
  | cons f l ih =>
    rw [List.filter_cons]
    split
    · simp only [List.length_cons, List.map_cons, List.sum_cons]; omega
    · simp only [List.length_cons, List.map_cons, List.sum_cons]; omega
theorem bare_bulk (l : List Flds.Fld) : Flds.bulk (bare l) ≤ Flds.bulk l := Nat.le_trans (bulk_drop _ _) (bulk_drop _ _)
theorem drop_swap (l : List Fld) (a b : ByteArray) : Flds.drop (Flds.drop l a) b = Flds.drop (Flds.drop l b) a := by
  unfold Flds.drop
  rw [List.filter_filter, List.filter_filter]
  congr 1
  funext f
  exact Bool.and_comm _ _
/-- the program drops the two names the other way round -/
theorem bare_two (l : List Fld) : Flds.drop (Flds.drop l Body.clName) Body.teName = bare l := drop_swap l _ _
theorem drop_mem {l : List Fld} {n : ByteArray} {f : Fld} (h : f ∈ Flds.drop l n) : f ∈ l ∧ ¬ f.1 = n := by
  unfold Flds.drop at h
  rw [List.mem_filter] at h
  exact ⟨h.1, of_decide_eq_true h.2⟩
theorem get_no {l : List Fld} {n : ByteArray} (h : ∀ f ∈ l, ¬ f.1 = n) : (Flds.get l n).2 = false := by rw [Flds.get_none l n h]
/-- a list that stays as it is when both are dropped has neither -/
theorem own_plain (l : List Fld) : (decide (l.length < 12) && Flds.ok l && decide (l = bare l)) = plain l := by
  unfold plain
  by_cases h : l = bare l
  · have hin : ∀ f ∈ l, f ∈ bare l := fun f hf => by rw [← h]; exact hf
    have h1 : ∀ f ∈ l, ¬ f.1 = Body.clName := fun f hf => (drop_mem (l := Flds.drop l Body.teName) (hin f hf)).2
    have h2 : ∀ f ∈ l, ¬ f.1 = Body.teName := fun f hf => (drop_mem (drop_mem (l := Flds.drop l Body.teName) (hin f hf)).1).2
    rw [get_no h1, get_no h2, decide_eq_true h, Bool.and_true]
    rfl
  · rw [decide_eq_false h, Bool.and_false]
    symm
    cases ha : (Flds.get l Body.teName).2 with
    | true => rfl
    | false =>
      cases hb : (Flds.get l Body.clName).2 with
      | true => rfl
      | false =>
        exfalso
        apply h
        unfold bare
        rw [drop_none (no_name ha), drop_none (no_name hb)]
theorem setGo_none (l : List Fld) (n v : ByteArray) (h : ∀ f ∈ l, ¬ f.1 = n) : Flds.setGo l n v = (l, false) := by
  have key : ∀ (l : List Fld) (r : List Fld × Bool), (∀ f ∈ l, ¬ f.1 = n) → l.foldl (Flds.setStep n v) r = (r.1 ++ l, r.2) := by
    intro l
    induction l with
    | nil => intro r _; simp
    | cons f l ih =>
      intro r hl
      rw [List.foldl_cons, ih _ (fun g hg => hl g (List.mem_cons_of_mem _ hg))]
      have : Flds.setStep n v r f = (r.1 ++ [f], r.2) := by unfold Flds.setStep; rw [if_neg (hl f (List.mem_cons_self ..))]
      rw [this]
      simp
  unfold Flds.setGo
  rw [key l _ h]
  simp
theorem set_plain {l : List Fld} (h : plain l = true) (b : ByteArray) : Flds.set l Body.clName (decB b.size) = framed l b := by
  rw [framed_plain h]
  unfold Flds.set
  rw [setGo_none l _ _ (plain_parts h).2.1]
  rfl
end Msg
end Go.Proofs.YtbajfklnekfeoaaGreatDoor
namespace Go.Proofs.YtbajfklnekfeoaaGreatDoor
open Go.RowKit
set_option linter.unusedVariables false
namespace Flds

/-- what lies below block B, and from block n on, is as it was -/
structure Far (B n : Nat) (W W' : World) : Prop where
  below : Below B W W'
  rows : ∀ j, n ≤ j → j < W.heap.size → W'.heap[j]? = W.heap[j]?
theorem Far.of_below {B n : Nat} {W W' : World} (h : Below W.heap.size W W') (hB : B ≤ W.heap.size) : Far B n W W' := ⟨h.mono hB, fun j _ hj => h.block j hj⟩
theorem own_far {α : Type} {e : TypeId} {sz : Nat} {enc : α → List Value} {B n : Nat} {W W' : World} {v : Value} {l : List α} (h : Recs.Own e sz enc n W v l) (hf : Far B n W W') : Recs.Own e sz enc n W' v l := by
  refine ⟨h.1, ?_⟩
  have hlt := Recs.own_lt h
  rcases h.2 with h1 | ⟨g, cap, cur, h1, hB, hg, rest⟩
  · exact .inl h1
  · subst h1
    exact .inr ⟨g, cap, cur, rfl, hB, by rw [hf.rows g hB (hlt g rfl).2]; exact hg, rest⟩
end Flds
end Go.Proofs.YtbajfklnekfeoaaGreatDoor
namespace Go.Proofs.YtbajfklnekfeoaaGreatDoor
open Go.RowKit
set_option linter.unusedVariables false
namespace Flds

/-- what a choice does at each element: what it makes of it, and whether it takes it -/
def Choice (g : Nat) (cap : Array Value) (B n : Nat) (w : World) (l : List Fld) (A : Nat → List Fld) (Q : Nat → World → Prop) : Prop :=
  ∀ k (hk : k < l.length) (W : World), Below B w W → n ≤ W.heap.size → Q k W →
    Calls Tryz.prog g (#[.agg #[.string l[k].1, .string l[k].2]] ++ cap) W fun e W' => ∃ (m : Fld) (t : Bool), e = .returned (.tuple #[.agg #[.string m.1, .string m.2], .bool t]) ∧ A (k + 1) = A k ++ (if t = true then [m] else []) ∧ Q (k + 1) W' ∧ Far B n W W'
set_option maxRecDepth 100000 in
set_option maxHeartbeats 1000000 in
theorem chosen_any (g : Nat) (cap : Array Value) (B : Nat) (w0 w : World) (v : Value) (l : List Fld) (A : Nat → List Fld) (Q : Nat → World → Prop)
    (h : Is w0 v l) (hB : B = w0.heap.size) (hb : Below B w0 w) (hBn : B ≤ w.heap.size) (hA0 : A 0 = []) (hA : ∀ k, k ≤ l.length → (A k).length ≤ 1073741824) (hl : l.length ≤ 1073741824)
    (hQ0 : Q 0 w) (hQ : ∀ k W W', Q k W → Below w.heap.size W W' → Q k W') (HC : Choice g cap B w.heap.size w0 l A Q) (hent : ∀ args W, (callFunc g args).run Tryz.prog W = .ok (.enter g args) W) :
    Calls Tryz.prog 153 #[v, .func (.func g) #[] cap] w fun e w' => ∃ v', e = .returned v' ∧ Own w.heap.size w' v' (A l.length) ∧ Below B w0 w' ∧ Q l.length w' := by
  obtain ⟨a, c, rfl, h2⟩ := is_form h
  have HA := Num.hide h2
  clear h h2
  have HCh := Num.hide HC
  have HQ := Num.hide hQ
  have HAl := Num.hide hA
  have HQ0 := Num.hide hQ0
  have HB0 := Num.hide hb
  have HA0 : Hid (Own w.heap.size w (.slice none 0 0) (A 0)) := by rw [hA0]; exact Recs.own_nil _ _
  clear HC hQ hA hQ0 hb hA0
  obtain ⟨i0, hi0, hz0, hz1, hz2⟩ := info_parts infoF
  go_enter Tryz.func153, Tryz.ntmps153
  go_wp2
  go_loopw [5, 12] (fun ov iv wr => ∃ i : Nat, i ≤ l.length ∧ iv = .int .i64 (i : Int) ∧ Hid (Own w.heap.size wr ov (A i)) ∧ Hid (Below B w0 wr) ∧ Hid (Q i wr) ∧ w.heap.size ≤ wr.heap.size) (fun _ iv _ => l.length - (intOf iv).toNat)
  case atStart => exact ⟨0, by omega, rfl, HA0, HB0, HQ0, Nat.le_refl _⟩
  case round =>
    clear HA0 HB0 HQ0
    obtain ⟨i, hi, rfl, HO, HB, HQi, hsz⟩ := hrel
    by_cases hlt : i < l.length
    · obtain ⟨bk, o, rfl, hc, hmx, hblt, hcell⟩ := Num.unhide HA (by omega)
      obtain ⟨g1, g2⟩ := hcell i hlt
      have c1 : wr.cell? ⟨bk, o + i * 2, none⟩ = some (.string l[i].1) := by rw [HB.out.cell (p := ⟨bk, o + i * 2, none⟩) (by show bk < B; omega)]; exact g1
      have c2 : wr.cell? ⟨bk, o + i * 2 + 1, none⟩ = some (.string l[i].2) := by rw [HB.out.cell (p := ⟨bk, o + i * 2 + 1, none⟩) (by show bk < B; omega)]; exact g2
      have HCi := Num.hide (HCh.out i hlt)
      have hdl := HAl.out i (by omega)
      clear hcell g1 g2
      generalize l[i] = f at c1 c2 HCi
      obtain ⟨x, y⟩ := f
      simp only at c1 c2
      have hsz1 : w.heap.size ≤ (wr.alloc (.cells #[.string x, .string y] 36)).heap.size := by simp; omega
      have HB1 := Num.hide (HB.out.alloc (by omega) (.cells #[.string x, .string y] 36))
      have HQ1 := Num.hide (HQ.out i _ _ HQi.out ((Below.refl w.heap.size wr).alloc hsz (.cells #[.string x, .string y] 36)))
      have HO1 := Num.hide (World.ownsRow.alloc HO.out (.cells #[.string x, .string y] 36))
      go_wp2_with fail
      refine (HCi.out _ HB1.out hsz1 HQ1.out).mono ?_
      rintro e w1 ⟨⟨m1, m2⟩, t, rfl, hAk, hQk, hF⟩
      have HO2 := Num.hide (own_far HO1.out hF)
      have HB2 := Num.hide (HB1.out.trans hF.below)
      have HQ2 := Num.hide hQk
      have HAk := Num.hide hAk
      have hsz2 := Nat.le_trans hsz1 hF.below.size
      clear hF hQk hAk HO HB HQi HB1 HQ1 HO1 hsz1 c1 c2
      have hsz3 : w.heap.size ≤ (w1.alloc (.cells #[.string m1, .string m2] 36)).heap.size := by simp; omega
      have HB3 := Num.hide (HB2.out.alloc (by omega) (.cells #[.string m1, .string m2] 36))
      have HQ3 := Num.hide (HQ.out (i + 1) _ _ HQ2.out ((Below.refl w.heap.size w1).alloc hsz2 (.cells #[.string m1, .string m2] 36)))
      have HO3 := Num.hide (World.ownsRow.alloc HO2.out (.cells #[.string m1, .string m2] 36))
      clear HO2 HB2 HQ2
      cases t with
      | false =>
        have HO4 : Hid (Own w.heap.size (w1.alloc (.cells #[.string m1, .string m2] 36)) u5 (A (i + 1))) := by
          rw [HAk.out, if_neg (by simp), List.append_nil]; exact HO3
        clear HO3
        go_wp2
        go_roundw
        case rel => exact ⟨i + 1, by omega, by go_num, HO4, HB3, HQ3, by simp; omega⟩
        case measure => simp [intOf]; omega
      | true =>
        have HAk2 : Hid (A (i + 1) = A i ++ [(m1, m2)]) := by show _ = _; rw [HAk.out, if_pos rfl]
        clear HAk
        go_wp2_with (at_builtin; refine wpList_append_own _ rfl _ _ 37 rfl w.heap.size 36 i0 _ 2 32 Tryz.underlying37 hi0 hz0 hz1 hz2 rfl (by decide) _ _ _ rfl (World.ownsRow.alloc HO3.out _) ⟨w1.heap.size + 1, 0, none⟩ 1 1 [.string m1, .string m2] rfl rfl (by simpa using cells_two (w1.alloc (.cells #[.string m1, .string m2] 36)) m1 m2) (two_ok m1 m2) (by unfold maxLen; omega) (by omega) ?c5 ?_)
        case c5 => first | omega | (simp; omega)
        intro v' w2 ho2 hg2 _
        obtain ⟨hp1, hp2⟩ := put_more hsz3 HO3.out (Below.refl w.heap.size _) ho2 hg2
        have HP1 : Hid (Own w.heap.size w2 v' (A (i + 1))) := by rw [HAk2.out]; exact hp1
        have HP2 := Num.hide (HB3.out.trans (hp2.mono (by omega)))
        have HP3 := Num.hide (HQ.out (i + 1) _ _ HQ3.out hp2)
        have hsz4 := Nat.le_trans hsz3 hp2.size
        clear ho2 hg2 hp1 hp2
        go_wp2
        go_roundw
        case rel => exact ⟨i + 1, by omega, by go_num, HP1, HP2, HP3, hsz4⟩
        case measure => simp [intOf]; omega
    · obtain rfl : i = l.length := by omega
      go_wp2
      go_ret
      exact ⟨_, rfl, HO.out, HB.out, HQi.out⟩
end Flds
end Go.Proofs.YtbajfklnekfeoaaGreatDoor
namespace Go.Proofs.YtbajfklnekfeoaaGreatDoor
open Go.Shelf Go.RowKit
set_option linter.unusedVariables false
def Shelf.lays316_ren : Go.Shelf.Ren := ⟨fun | 316 => 161 | n => n, fun | 0 => 0 | 3 => 3 | 4 => 4 | 5 => 5 | 9 => 9 | 37 => 22 | 127 => 111 | n => n, fun | n => n⟩
theorem Shelf.lays316 : Go.Proofs.LaysM.n316 Tryz.prog Shelf.lays316_ren := {
  mixed := by kernel_rfl
  f316 := Tryz.func161.trans (congrArg some (by kernel_rfl))
  t0 := Tryz.underlying0
  a0 := Tryz.isAgg0
  z0 := Tryz.sizeOf0
  v0 := Tryz.zeroValue0
  t3 := Tryz.underlying3
  a3 := Tryz.isAgg3
  z3 := Tryz.sizeOf3
  v3 := Tryz.zeroValue3
  t4 := Tryz.underlying4
  a4 := Tryz.isAgg4
  z4 := Tryz.sizeOf4
  v4 := Tryz.zeroValue4
  t9 := Tryz.underlying9
  a9 := Tryz.isAgg9
  z9 := Tryz.sizeOf9
  v9 := Tryz.zeroValue9
  t37 := Tryz.underlying22
  a37 := Tryz.isAgg22
  z37 := Tryz.sizeOf22
  v37 := Tryz.zeroValue22
  t127 := Tryz.underlying111
  a127 := Tryz.isAgg111
  z127 := Tryz.sizeOf111
  v127 := Tryz.zeroValue111
  t5 := Tryz.underlying5
  a5 := Tryz.isAgg5
  z5 := Tryz.sizeOf5
  v5 := Tryz.zeroValue5
  i0 := by kernel_rfl
  i3 := by kernel_rfl
  i4 := by kernel_rfl
  i5 := by kernel_rfl
  i9 := by kernel_rfl
  i37 := by kernel_rfl
  i127 := by kernel_rfl }
theorem Shelf.clone_in (s : ByteArray) (w : World) (hlim : s.size ≤ 281474976710656) :
    Calls Tryz.prog 161 #[.string s] w fun e w' => e = .returned (.string s) ∧ Below w.heap.size w w' := Any.stringslite_Clone Shelf.lays316 s w hlim
set_option maxHeartbeats 1000000 in
theorem Shelf.clone (s : ByteArray) (w : World) (hlim : s.size ≤ 281474976710656) :
    Calls Tryz.prog 106 #[.string s] w fun e w' => e = .returned (.string s) ∧ Below w.heap.size w w' := by
  go_enter Tryz.func106, Tryz.ntmps106
  go_wp2_with fail
  refine (Shelf.clone_in s _ hlim).mono ?_
  rintro e w1 ⟨rfl, hb⟩
  go_wp2
  go_ret
  exact ⟨rfl, hb⟩
end Go.Proofs.YtbajfklnekfeoaaGreatDoor
namespace Go.Proofs.YtbajfklnekfeoaaGreatDoor
open Go.RowKit
set_option linter.unusedVariables false
namespace Flds

set_option maxRecDepth 100000 in
set_option maxHeartbeats 1000000 in
theorem new_any (x y : ByteArray) (w : World) (hx : x.size ≤ 281474976710656) (hy : y.size ≤ 281474976710656) :
    Calls Tryz.prog 155 #[.string x, .string y] w fun e w' => e = .returned (.agg #[.string x, .string y]) ∧ Below w.heap.size w w' := by
  have c0 : (w.alloc (.cells #[.string ⟨#[]⟩, .string ⟨#[]⟩] 36)).heap[w.heap.size]? = some (.cells #[.string ⟨#[]⟩, .string ⟨#[]⟩] 36) := heap_alloc_new w _
  have HC := Num.hide c0
  have HB0 := Num.hide ((Below.refl w.heap.size w).alloc (Nat.le_refl _) (.cells #[.string ⟨#[]⟩, .string ⟨#[]⟩] 36))
  have hz0 : w.heap.size + 1 = (w.alloc (.cells #[.string ⟨#[]⟩, .string ⟨#[]⟩] 36)).heap.size := by simp
  clear c0
  go_enter Tryz.func155, Tryz.ntmps155
  go_wp2_with fail
  refine (Shelf.clone x _ hx).mono ?_
  rintro e w1 ⟨rfl, hb1⟩
  go_wp2_with fail
  refine (Shelf.clone y _ hy).mono ?_
  rintro e w2 ⟨rfl, hb2⟩
  obtain ⟨k0, k1, f0, f1⟩ := two_cells (show w2.heap[w.heap.size]? = _ from by rw [hb2.block _ (by have := hb1.size; omega), hb1.block _ (by omega)]; exact HC.out)
  have HB := Num.hide (HB0.out.trans (((hb1.mono (by omega : w.heap.size ≤ _)).trans (hb2.mono (by have := hb1.size; omega)))))
  clear hb1 hb2 HB0 HC hz0
  have r0 := Num.hide (box_first (x := x) (y := y) k0)
  have r1 := Num.hide (box_second (x := x) (y := y) k1)
  have HB1 := Num.hide ((HB.out.setCell (p := ⟨w.heap.size, 0, none⟩) (Nat.le_refl _) (.string x)).setCell (p := ⟨w.heap.size, 1, none⟩) (Nat.le_refl _) (.string y))
  go_wp2
  generalize ((w2.setCell ⟨w.heap.size, 0, none⟩ (.string x)).setCell ⟨w.heap.size, 1, none⟩ (.string y)) = w3 at r0 r1 HB1 ⊢
  have r0 := r0.out
  have r1 := r1.out
  exact bodyPost_ret (v := .agg #[.string x, .string y]) (by simp [results, Tryz.results155, go_sem, r0, r1]) rfl ⟨rfl, HB1.out⟩
end Flds
end Go.Proofs.YtbajfklnekfeoaaGreatDoor
namespace Go.Proofs.YtbajfklnekfeoaaGreatDoor
open Go.RowKit
set_option linter.unusedVariables false
namespace Flds

/-- what holds while the choice is made -/
def DropAt (w : World) (x y name : ByteArray) (nb : Nat) (W : World) : Prop := W.cell? ⟨w.heap.size, 0, none⟩ = some (.string x) ∧ W.cell? ⟨w.heap.size, 1, none⟩ = some (.string y) ∧ W.cell? ⟨nb, 0, none⟩ = some (.string name) ∧ Below w.heap.size w W ∧ nb < w.heap.size
def dropW (w : World) (x y : ByteArray) : World := ((w.alloc (.cells #[.string x, .string y] 36)).alloc (.cells #[.string ⟨#[]⟩, .string ⟨#[]⟩] 36)).drew
theorem dropAt0 (w : World) (x y name : ByteArray) (nb : Nat) (hn : w.cell? ⟨nb, 0, none⟩ = some (.string name)) : DropAt w x y name nb (dropW w x y) := by
  have hlt := Recs.lt_of_cell hn
  have hb : Below w.heap.size w (dropW w x y) := (((Below.refl _ _).alloc (Nat.le_refl _) _).alloc (by simp) _).drew
  refine ⟨?_, ?_, by rw [hb.cell (p := ⟨nb, 0, none⟩) hlt]; exact hn, hb, hlt⟩
  · show ((w.alloc _).alloc _).cell? _ = _
    rw [World.cell?_alloc_lt _ _ _ (by simp)]; simp
  · show ((w.alloc _).alloc _).cell? _ = _
    rw [World.cell?_alloc_lt _ _ _ (by simp)]; simp
theorem dropAt_below {w : World} {x y name : ByteArray} {nb : Nat} {W W' : World} (h : DropAt w x y name nb W) (hb : Below W.heap.size W W') : DropAt w x y name nb W' :=
  ⟨by rw [hb.cell (p := ⟨w.heap.size, 0, none⟩) (Recs.lt_of_cell h.1)]; exact h.1, by rw [hb.cell (p := ⟨w.heap.size, 1, none⟩) (Recs.lt_of_cell h.2.1)]; exact h.2.1, by rw [hb.cell (p := ⟨nb, 0, none⟩) (Recs.lt_of_cell h.2.2.1)]; exact h.2.2.1, h.2.2.2.1.trans (hb.mono h.2.2.2.1.size), h.2.2.2.2⟩
theorem dropAt_set {w : World} {x y name : ByteArray} {nb : Nat} {W : World} {x' y' : Value} (h : DropAt w x y name nb W) : DropAt w x y name nb ((W.setCell ⟨w.heap.size + 1, 0, none⟩ x').setCell ⟨w.heap.size + 1, 1, none⟩ y') := by
  have hb : Below (w.heap.size + 1) W ((W.setCell ⟨w.heap.size + 1, 0, none⟩ x').setCell ⟨w.heap.size + 1, 1, none⟩ y') := ((Below.refl _ _).setCell (p := ⟨w.heap.size + 1, 0, none⟩) (Nat.le_refl _) _).setCell (p := ⟨w.heap.size + 1, 1, none⟩) (Nat.le_refl _) _
  have hlt := h.2.2.2.2
  exact ⟨by rw [hb.cell (p := ⟨w.heap.size, 0, none⟩) (by show w.heap.size < _; omega)]; exact h.1, by rw [hb.cell (p := ⟨w.heap.size, 1, none⟩) (by show w.heap.size < _; omega)]; exact h.2.1, by rw [hb.cell (p := ⟨nb, 0, none⟩) (by show nb < _; omega)]; exact h.2.2.1, h.2.2.2.1.trans (hb.mono (by omega)), hlt⟩
theorem dropRes (w : World) (x y : ByteArray) : (dropW w x y).heap[w.heap.size + 1]? = some (.cells #[.string ⟨#[]⟩, .string ⟨#[]⟩] 36 (0, 0)) := by
  have := heap_alloc_new (w.alloc (.cells #[.string x, .string y] 36)) (.cells #[.string ⟨#[]⟩, .string ⟨#[]⟩] 36)
  show ((w.alloc _).alloc _).heap[w.heap.size + 1]? = _
  rw [← this, show (w.alloc (.cells #[.string x, .string y] 36)).heap.size = w.heap.size + 1 by simp]
set_option maxRecDepth 100000 in
set_option maxHeartbeats 4000000 in
theorem dropF_any (x y name : ByteArray) (nb : Nat) (w : World) (hn : w.cell? ⟨nb, 0, none⟩ = some (.string name)) (hx : x.size ≤ 281474976710656) (hy : y.size ≤ 281474976710656) :
    Calls Tryz.prog 187 #[.agg #[.string x, .string y], .pointer (some ⟨nb, 0, none⟩)] w fun e w' => e = .returned (.tuple #[.agg #[.string x, .string y], .bool (!decide (x = name))]) ∧ Below w.heap.size w w' := by
  have HN := Num.hide (fun W => new_any x y W hx hy)
  have HD0 := Num.hide (dropAt0 w x y name nb hn)
  have HR := Num.hide (dropRes w x y)
  have hne : (x.toList != name.toList) = !decide (x = name) := by
    by_cases h : x = name
    · subst h; simp
    · rw [bne, ne_text h, decide_eq_false h]
  generalize (!decide (x = name)) = r at hne ⊢
  clear hn
  go_enter Tryz.func187, Tryz.ntmps187
  go_wp2
  have hz : w.heap.size + 2 = (dropW w x y).heap.size := by simp [dropW]
  refine wp_region_held_drew (S := DropAt w x y name nb) (by kernel_rfl) HD0.out (fun hHeld => ?_)
  refine Reg.take (i := 0) (d := 5) (v := ?_) rfl rfl (by kernel_rfl) (by kernel_rfl) (by kernel_rfl) (fun _ _ _ h => h) (by rfl) ?_ hHeld ?_
  rotate_left
  · rintro W ⟨h1, h2, h3, h4⟩
    first | (go_simp; done) | (go_simp; with_reducible rfl)
  simp only [Act.put, List.setIfInBounds_toArray, List.set_cons_zero, List.set_cons_succ]
  refine Reg.take (i := 1) (d := 6) (v := ?_) rfl rfl (by kernel_rfl) (by kernel_rfl) (by kernel_rfl) (fun _ _ _ h => h) (by rfl) ?_ hHeld ?_
  rotate_left
  · rintro W ⟨h1, h2, h3, h4⟩
    first | (go_simp; done) | (go_simp; with_reducible rfl)
  simp only [Act.put, List.setIfInBounds_toArray, List.set_cons_zero, List.set_cons_succ]
  refine Reg.take (i := 2) (d := 7) (v := ?_) rfl rfl (by kernel_rfl) (by kernel_rfl) (by kernel_rfl) (fun _ _ _ h => h) (by rfl) ?_ hHeld ?_
  rotate_left
  · rintro W ⟨h1, h2, h3, h4⟩
    first | (go_simp; done) | (go_simp; with_reducible rfl)
  simp only [Act.put, List.setIfInBounds_toArray, List.set_cons_zero, List.set_cons_succ]
  refine Reg.take (i := 3) (d := 8) (v := ?_) rfl rfl (by kernel_rfl) (by kernel_rfl) (by kernel_rfl) (fun _ _ _ h => h) (by rfl) ?_ hHeld ?_
  rotate_left
  · rintro W ⟨h1, h2, h3, h4⟩
    first | (go_simp; done) | (go_simp; with_reducible rfl)
  simp only [Act.put, List.setIfInBounds_toArray, List.set_cons_zero, List.set_cons_succ]
  refine Reg.take (i := 5) (d := 10) (v := ?_) rfl rfl (by kernel_rfl) (by kernel_rfl) (by kernel_rfl) (fun _ _ _ h => h) (by rfl) ?_ hHeld ?_
  rotate_left
  · rintro W ⟨h1, h2, h3, h4⟩
    first | (go_simp; done) | (go_simp; with_reducible rfl)
  simp only [Act.put, List.setIfInBounds_toArray, List.set_cons_zero, List.set_cons_succ]
  refine Reg.take (i := 6) (d := 11) (v := ?_) rfl rfl (by kernel_rfl) (by kernel_rfl) (by kernel_rfl) (fun _ _ _ h => h) (by rfl) ?_ hHeld ?_
  rotate_left
  · rintro W ⟨h1, h2, h3, h4⟩
    first | (go_simp; done) | (go_simp; with_reducible rfl)
  simp only [Act.put, List.setIfInBounds_toArray, List.set_cons_zero, List.set_cons_succ]
  refine Reg.take (i := 7) (d := 12) (v := ?_) rfl rfl (by kernel_rfl) (by kernel_rfl) (by kernel_rfl) (fun _ _ _ h => h) (by rfl) ?_ hHeld ?_
  rotate_left
  · rintro W ⟨h1, h2, h3, h4⟩
    first | (go_simp; done) | (go_simp; with_reducible rfl)
  simp only [Act.put, List.setIfInBounds_toArray, List.set_cons_zero, List.set_cons_succ]
  refine Reg.take (i := 8) (d := 13) (v := ?_) rfl rfl (by kernel_rfl) (by kernel_rfl) (by kernel_rfl) (fun _ _ _ h => h) (by rfl) ?_ hHeld ?_
  rotate_left
  · rintro W ⟨h1, h2, h3, h4⟩
    first | (go_simp; done) | (go_simp; with_reducible rfl)
  simp only [Act.put, List.setIfInBounds_toArray, List.set_cons_zero, List.set_cons_succ]
  refine Reg.call (i := 4) rfl (by kernel_rfl) (by rfl) (fun K hK => ?_)
  go_wp2_with (first | (go_at_call 155; refine (Num.unhide HN _).mono ?_; rintro e w3 ⟨rfl, hb3⟩))
  refine hK.out _ _ (dropAt_below hHeld hb3) (fun hHeld2 => ?_)
  obtain ⟨k0, k1, f0, f1⟩ := two_cells (show w3.heap[w.heap.size + 1]? = _ from by rw [hb3.block _ (by change w.heap.size + 1 < (dropW w x y).heap.size; omega)]; exact HR.out)
  clear hK K hb3 HR hHeld
  replace hHeld := hHeld2
  clear hHeld2
  have r0 := Num.hide (box_first (x := x) (y := y) k0)
  have r1 := Num.hide (box_second (x := x) (y := y) k1)
  have HS := Num.hide (dropAt_set (x' := .string x) (y' := .string y) hHeld)
  refine Reg.call (i := 9) rfl (by kernel_rfl) (by rfl) (fun K hK => ?_)
  go_wp2
  refine hK.out _ _ HS.out (fun hHeld2 => ?_)
  clear hK K hHeld
  replace hHeld := hHeld2
  clear hHeld2 k0 k1 f0 f1
  generalize ((w3.setCell ⟨w.heap.size + 1, 0, none⟩ (.string x)).setCell ⟨w.heap.size + 1, 1, none⟩ (.string y)) = w4 at r0 r1 HS hHeld ⊢
  refine Reg.take (i := 10) (d := 4) (v := ?_) rfl rfl (by kernel_rfl) (by kernel_rfl) (by kernel_rfl) (fun _ _ _ h => h) (by rfl) ?_ hHeld ?_
  rotate_left
  · rintro W ⟨h1, h2, h3, h4⟩
    first | (go_simp; done) | (go_simp; with_reducible rfl)
  simp only [Act.put, List.setIfInBounds_toArray, List.set_cons_zero, List.set_cons_succ]
  refine wpAnyH_done (by kernel_rfl) ?_ _
  have r0 := r0.out
  have r1 := r1.out
  go_wp2
  exact bodyPost_ret (v := .tuple #[.agg #[.string x, .string y], .bool r]) (by simp [results, Tryz.results187, go_sem, r0, r1, show (x.toList == name.toList) = !r by rw [← hne, bne, Bool.not_not]]) rfl ⟨rfl, HS.out.2.2.2.1⟩
theorem drop_take_b (l : List Fld) (name : ByteArray) (k : Nat) (h : k < l.length) : drop (l.take (k + 1)) name = drop (l.take k) name ++ (if (!decide (l[k].1 = name)) = true then [l[k]] else []) := by
  rw [drop_take l name k h]
  by_cases e : l[k].1 = name
  · rw [if_pos e, if_neg (by simp [e])]
  · rw [if_neg e, if_pos (by simp [e])]
theorem drop_choice (w0 w : World) (l : List Fld) (name : ByteArray) (nb : Nat) (hb : Below w0.heap.size w0 w) (hz : ∀ f ∈ l, f.1.size ≤ 281474976710656 ∧ f.2.size ≤ 281474976710656) :
    Choice 187 #[.pointer (some ⟨nb, 0, none⟩)] w0.heap.size w.heap.size w0 l (fun k => drop (l.take k) name) (fun _ W => W.cell? ⟨nb, 0, none⟩ = some (.string name)) := by
  intro k hk W hB hn hQ
  have hzk := hz l[k] (List.getElem_mem hk)
  refine (dropF_any l[k].1 l[k].2 name nb W hQ hzk.1 hzk.2).mono ?_
  rintro e W' ⟨rfl, hb2⟩
  exact ⟨l[k], _, rfl, drop_take_b l name k hk, (hb2.cell (p := ⟨nb, 0, none⟩) (Recs.lt_of_cell hQ)).trans hQ, Far.of_below hb2 hB.size⟩
theorem sizes_of {l : List Fld} (h : bulk l ≤ 1099511627776) : ∀ f ∈ l, f.1.size ≤ 281474976710656 ∧ f.2.size ≤ 281474976710656 := by
  intro f hf
  obtain ⟨i, hi, rfl⟩ := List.getElem_of_mem hf
  have h1 := bulk_take l i hi
  have h2 := bulk_le l (i + 1)
  unfold bulk at h
  omega
set_option maxRecDepth 100000 in
set_option maxHeartbeats 1000000 in
theorem drop_impl (v : Value) (l : List Fld) (name : ByteArray) (w : World) (h : Is w v l) (hl : bulk l ≤ 1073741824) :
    Calls Tryz.prog 162 #[v, .string name] w fun e w' => ∃ v', e = .returned v' ∧ Own w.heap.size w' v' (drop l name) ∧ Below w.heap.size w w' := by
  have hlen : l.length ≤ 1073741824 := by unfold bulk at hl; omega
  have hb := (Below.refl w.heap.size w).alloc (Nat.le_refl _) (.cells #[.string name] 9)
  have HC := Num.hide (chosen_any 187 #[.pointer (some ⟨w.heap.size, 0, none⟩)] w.heap.size w (w.alloc (.cells #[.string name] 9)) v l (fun k => drop (l.take k) name) (fun _ W => W.cell? ⟨w.heap.size, 0, none⟩ = some (.string name)) h rfl hb (by simp) rfl
    (fun k hk => by have := drop_length (l.take k) name; rw [List.length_take] at this; omega) hlen (by simp)
    (fun k W W' hQ hb2 => (hb2.cell (p := ⟨w.heap.size, 0, none⟩) (by simp)).trans hQ) (drop_choice w _ l name w.heap.size hb (sizes_of (by omega))) (enters_of Tryz.func187 (by kernel_rfl) rfl))
  simp only [List.take_length] at HC
  clear h hb
  go_enter Tryz.func162, Tryz.ntmps162
  go_wp2_with fail
  refine HC.out.mono ?_
  rintro e w1 ⟨v', rfl, ho, hb1, _⟩
  have HO := Num.hide (Recs.own_mono ho (by simp : w.heap.size ≤ _))
  have HB := Num.hide hb1
  clear ho hb1
  go_wp2
  go_ret
  exact ⟨_, rfl, HO.out, HB.out⟩
end Flds
end Go.Proofs.YtbajfklnekfeoaaGreatDoor
namespace Go.Proofs.YtbajfklnekfeoaaGreatDoor
open Go.RowKit
set_option linter.unusedVariables false
namespace Flds

set_option maxRecDepth 100000 in
set_option maxHeartbeats 1000000 in
theorem equal_lib (va vb : Value) (la lb : List Fld) (w : World) (ha : Is w va la) (hb : Is w vb lb) (hla : la.length ≤ 1099511627776) : Calls Tryz.prog 179 #[va, vb] w fun e w' => e = .returned (.bool (decide (la = lb))) ∧ ∃ n, w' = w.drewN n := by
  obtain ⟨aa, ca, rfl, ha2⟩ := is_form ha
  obtain ⟨ab, cb, rfl, hb2⟩ := is_form hb
  have HA := Num.hide ha2
  have HB := Num.hide hb2
  clear ha hb ha2 hb2
  obtain ⟨r, hr⟩ : ∃ r, decide (la = lb) = r := ⟨_, rfl⟩
  rw [hr]
  have HR := Num.hide hr
  clear hr
  by_cases hl : la.length = lb.length
  · have hne : ((la.length : Int) != (lb.length : Int)) = false := by rw [hl]; simp
    have HL := Num.hide hl
    clear hl
    go_enter Tryz.func179, Tryz.ntmps179
    go_wp2
    clear hne
    go_loopw [13] (fun i wr => ∃ k n : Nat, k ≤ la.length ∧ i = .int .i64 (k : Int) ∧ Hid (wr = w.drewN n) ∧ Hid (la.take k = lb.take k)) (fun i _ => la.length - (intOf i).toNat)
    case atStart => exact ⟨0, 0, by omega, rfl, rfl, by simp [Hid]⟩
    case round =>
      obtain ⟨k, n, hk, rfl, HW, HT⟩ := hrel
      by_cases hlt : k < la.length
      · have hlt2 : k < lb.length := by have := HL.out; omega
        obtain ⟨ba, oa, rfl, hca, hma, hba, hcella⟩ := Num.unhide HA (by omega)
        obtain ⟨bb, ob, rfl, hcb, hmb, hbb, hcellb⟩ := Num.unhide HB (by omega)
        obtain ⟨ga1, ga2⟩ := hcella k hlt
        obtain ⟨gb1, gb2⟩ := hcellb k hlt2
        have c1 : wr.cell? ⟨ba, oa + k * 2, none⟩ = some (.string la[k].1) := by rw [HW.out]; exact ga1
        have c2 : wr.cell? ⟨ba, oa + k * 2 + 1, none⟩ = some (.string la[k].2) := by rw [HW.out]; exact ga2
        have c3 : wr.cell? ⟨bb, ob + k * 2, none⟩ = some (.string lb[k].1) := by rw [HW.out]; exact gb1
        have c4 : wr.cell? ⟨bb, ob + k * 2 + 1, none⟩ = some (.string lb[k].2) := by rw [HW.out]; exact gb2
        have HS := Num.hide (take_succ_same la lb k hlt hlt2)
        clear hcella hcellb ga1 ga2 gb1 gb2
        generalize la[k] = f at c1 c2 HS
        generalize lb[k] = g at c3 c4 HS
        obtain ⟨x, y⟩ := f
        obtain ⟨x', y'⟩ := g
        simp only at c1 c2 c3 c4
        have hg := fun op a b W => guard_run op a b #[.string x, .string y] #[.string x', .string y'] W
        have hq := fun W => neq_run x y x' y' W
        by_cases he : ((x, y) : Fld) = (x', y')
        · rw [decide_eq_true he] at hq
          have HT2 : Hid (la.take (k + 1) = lb.take (k + 1)) := HS.out.2 ⟨HT.out, he⟩
          clear he
          go_wp2
          go_quiet (fail)
          go_wp2
          go_roundw
          case rel => exact ⟨k + 1, n + nq, by omega, by go_num, by show _ = _; rw [HW.out, World.drewN_drewN], HT2⟩
          case measure => simp [intOf]; omega
        · rw [decide_eq_false he] at hq
          have hf : r = false := by
            rw [← HR.out]
            refine decide_eq_false (fun h => he ?_)
            exact (HS.out.1 (by rw [h])).2
          subst hf
          clear he
          go_wp2
          go_quiet (fail)
          go_wp2
          go_ret
          exact ⟨rfl, n + nq, by rw [HW.out, World.drewN_drewN]⟩
      · have ht : r = true := by
          rw [← HR.out]
          refine decide_eq_true ?_
          have h := HT.out
          rwa [List.take_of_length_le (by omega), List.take_of_length_le (by have := HL.out; omega)] at h
        subst ht
        go_wp2
        go_ret
        exact ⟨rfl, n, HW.out⟩
  · have hne : ((la.length : Int) != (lb.length : Int)) = true := by rw [bne_iff_ne]; omega
    have hf : r = false := by rw [← HR.out]; exact decide_eq_false (fun h => hl (by rw [h]))
    subst hf
    go_enter Tryz.func179, Tryz.ntmps179
    go_wp2
    go_ret
    exact ⟨rfl, 0, rfl⟩
set_option maxHeartbeats 1000000 in
theorem same_impl (va vb : Value) (la lb : List Fld) (w : World) (ha : Is w va la) (hb : Is w vb lb) (hla : la.length ≤ 1099511627776) : Calls Tryz.prog 151 #[va, vb] w fun e w' => e = .returned (.bool (decide (la = lb))) ∧ Below w.heap.size w w' := by
  have HL := Num.hide (fun W h1 h2 => equal_lib va vb la lb W h1 h2 hla)
  have HA := Num.hide ha
  have HB := Num.hide hb
  clear ha hb
  generalize decide (la = lb) = r at HL ⊢
  go_enter Tryz.func151, Tryz.ntmps151
  go_wp2_with fail
  refine (HL.out _ HA.out HB.out).mono ?_
  rintro e w1 ⟨rfl, n, rfl⟩
  go_wp2
  go_ret
  exact ⟨rfl, Recs.below_drewN (Below.refl _ _) n⟩
end Flds
end Go.Proofs.YtbajfklnekfeoaaGreatDoor
namespace Go.Proofs.YtbajfklnekfeoaaGreatDoor
open Go.Shelf
def Shelf.lays160_ren : Go.Shelf.Ren := ⟨fun | 160 => 202 | 232 => 208 | 231 => 207 | 227 => 209 | 234 => 211 | 233 => 210 | 236 => 213 | 235 => 212 | 228 => 216 | 271 => 219 | 151 => 218 | 197 => 217 | 120 => 222 | 152 => 221 | 260 => 220 | 137 => 223 | 119 => 224 | 224 => 205 | 225 => 204 | 217 => 203 | 266 => 214 | n => n, fun | 9 => 9 | 4 => 4 | 3 => 3 | 5 => 5 | 117 => 215 | 116 => 214 | 0 => 0 | 124 => 218 | 21 => 21 | 105 => 221 | 46 => 141 | 119 => 225 | 139 => 228 | 138 => 227 | n => n, fun | 3 => 9 | 4 => 10 | n => n⟩
theorem Shelf.lays160 : Go.Proofs.Lays.n160 Tryz.prog Shelf.lays160_ren := {
  mixed := by kernel_rfl
  f119 := Tryz.func224.trans (congrArg some (by kernel_rfl))
  f120 := Tryz.func222.trans (congrArg some (by kernel_rfl))
  f137 := Tryz.func223.trans (congrArg some (by kernel_rfl))
  f151 := Tryz.func218.trans (congrArg some (by kernel_rfl))
  f152 := Tryz.func221.trans (congrArg some (by kernel_rfl))
  f160 := Tryz.func202.trans (congrArg some (by kernel_rfl))
  f197 := Tryz.func217.trans (congrArg some (by kernel_rfl))
  f217 := Tryz.func203.trans (congrArg some (by kernel_rfl))
  f224 := Tryz.func205.trans (congrArg some (by kernel_rfl))
  f225 := Tryz.func204.trans (congrArg some (by kernel_rfl))
  f227 := Tryz.func209.trans (congrArg some (by kernel_rfl))
  f228 := Tryz.func216.trans (congrArg some (by kernel_rfl))
  f231 := Tryz.func207.trans (congrArg some (by kernel_rfl))
  f232 := Tryz.func208.trans (congrArg some (by kernel_rfl))
  f233 := Tryz.func210.trans (congrArg some (by kernel_rfl))
  f234 := Tryz.func211.trans (congrArg some (by kernel_rfl))
  f235 := Tryz.func212.trans (congrArg some (by kernel_rfl))
  f236 := Tryz.func213.trans (congrArg some (by kernel_rfl))
  f260 := Tryz.func220.trans (congrArg some (by kernel_rfl))
  f266 := Tryz.func214.trans (congrArg some (by kernel_rfl))
  f271 := Tryz.func219.trans (congrArg some (by kernel_rfl))
  t0 := Tryz.underlying0
  a0 := Tryz.isAgg0
  z0 := Tryz.sizeOf0
  v0 := Tryz.zeroValue0
  t3 := Tryz.underlying3
  a3 := Tryz.isAgg3
  z3 := Tryz.sizeOf3
  v3 := Tryz.zeroValue3
  t4 := Tryz.underlying4
  a4 := Tryz.isAgg4
  z4 := Tryz.sizeOf4
  v4 := Tryz.zeroValue4
  t5 := Tryz.underlying5
  a5 := Tryz.isAgg5
  z5 := Tryz.sizeOf5
  v5 := Tryz.zeroValue5
  t9 := Tryz.underlying9
  a9 := Tryz.isAgg9
  z9 := Tryz.sizeOf9
  v9 := Tryz.zeroValue9
  t21 := Tryz.underlying21
  a21 := Tryz.isAgg21
  z21 := Tryz.sizeOf21
  v21 := Tryz.zeroValue21
  t46 := Tryz.underlying141
  a46 := Tryz.isAgg141
  z46 := Tryz.sizeOf141
  v46 := Tryz.zeroValue141
  t105 := Tryz.underlying221
  a105 := Tryz.isAgg221
  z105 := Tryz.sizeOf221
  v105 := Tryz.zeroValue221
  t116 := Tryz.underlying214
  a116 := Tryz.isAgg214
  z116 := Tryz.sizeOf214
  t117 := Tryz.underlying215
  a117 := Tryz.isAgg215
  z117 := Tryz.sizeOf215
  v117 := Tryz.zeroValue215
  t119 := Tryz.underlying225
  a119 := Tryz.isAgg225
  z119 := Tryz.sizeOf225
  t124 := Tryz.underlying218
  a124 := Tryz.isAgg218
  z124 := Tryz.sizeOf218
  v124 := Tryz.zeroValue218
  t138 := Tryz.underlying227
  a138 := Tryz.isAgg227
  z138 := Tryz.sizeOf227
  v138 := Tryz.zeroValue227
  t139 := Tryz.underlying228
  a139 := Tryz.isAgg228
  z139 := Tryz.sizeOf228
  v139 := Tryz.zeroValue228
  g3 := by kernel_rfl
  g4 := by kernel_rfl }
open Go.RowKit in
theorem Shelf.strings_Trim_one (s : ByteArray) (c : UInt8) (hc : c.toNat < 128) (w : World) (hs : s.size ≤ 9223372036854775807) :
    Calls Tryz.prog 202 #[.string s, .string ⟨#[c]⟩] w fun e w' => e = .returned (.string ⟨(Lib.trimB s.data.toList c).toArray⟩) ∧ (w' = w ∨ w' = w.drew) := Any.strings_Trim_one Shelf.lays160 s c hc w hs
end Go.Proofs.YtbajfklnekfeoaaGreatDoor
