/-
  FldSetImpl: FieldSet of the program: a field is set, in a row of the call's own; what was there stays.
  ShelfItoa: Library contracts at this program: strconv_Itoa.
  DecImpl: Dec of the program: what the call returns, for every number, where the library's table of powers lies as it is laid; old memory stays as it was.
-/
import Derived.Test.YtmiahdiadlnijaaDoorPao
import Derived.Shelf.Strings.Builder1
import Derived.Shelf.Strings.Trim
import Derived.Shelf.Small.Utf8
import Derived.Shelf.Small.Strs
import Derived.Shelf.Strings.BuilderF
import Derived.Shelf.Strings.BuilderK
import Derived.Shelf.Strconv.Itoa0
import Derived.Shelf.Strconv.Itoa1
import Derived.Shelf.LaysM
import Derived.Shelf.Strconv.Itoa2
import Derived.Shelf.Strconv.Itoa3
import Derived.Shelf.Strconv.Clone
import Derived.Shelf.Strings.Search1
import Derived.Shelf.Strings.Runes
import Derived.Shelf.Strings.AsciiSet
import Derived.Shelf.Unicode.DecodeSlow
import Derived.Test.YtmiahdiadlnijaaDoorRows
import Derived.Test.YtmiahdiadlnijaaDoorPag
import Derived.WalkKit
import Derived.WalkLawsBesides
namespace Go.Proofs.YtmiahdiadlnijaaDoor
open Go.RowKit
set_option linter.unusedVariables false
namespace Flds

/-- the world behind the parameter's box and the result's -/
def setW (w : World) (x y : ByteArray) : World := (w.alloc (.cells #[.string x, .string y] 60)).alloc (.cells #[.string ⟨#[]⟩, .string ⟨#[]⟩] 60)
theorem setRes (w : World) (x y : ByteArray) : (setW w x y).heap[w.heap.size + 1]? = some (.cells #[.string ⟨#[]⟩, .string ⟨#[]⟩] 60 (0, 0)) := dropRes w x y
theorem setBelow (w : World) (x y : ByteArray) : Below w.heap.size w (setW w x y) := ((Below.refl _ _).alloc (Nat.le_refl _) _).alloc (by simp) _
theorem setSize (w : World) (x y : ByteArray) : (setW w x y).heap.size = w.heap.size + 2 := by simp [setW]
set_option maxRecDepth 100000 in
set_option maxHeartbeats 1000000 in
theorem setF_other (x y name : ByteArray) (nb : Nat) (p q : Value) (w : World) (hn : w.cell? ⟨nb, 0, none⟩ = some (.string name)) (hx : x.size ≤ 281474976710656) (hy : y.size ≤ 281474976710656) (hne : ¬ x = name) :
    Calls Tryd.prog 62 #[.agg #[.string x, .string y], .pointer (some ⟨nb, 0, none⟩), p, q] w fun e w' => e = .returned (.tuple #[.agg #[.string x, .string y], .bool true]) ∧ Below w.heap.size w w' := by
  have HN := Num.hide (fun W => new_any x y W hx hy)
  have HR := Num.hide (setRes w x y)
  have HB0 := Num.hide (setBelow w x y)
  have hz := setSize w x y
  have d := ne_text hne
  have d' : (x.toList != name.toList) = true := by rw [bne, d]; rfl
  have hlt := Recs.lt_of_cell hn
  clear hne
  go_enter Tryd.func62, Tryd.ntmps62
  go_wp2_with fail
  refine (HN.out _).mono ?_
  rintro e w3 ⟨rfl, hb3⟩
  change Below (setW w x y).heap.size (setW w x y) w3 at hb3
  obtain ⟨k0, k1, f0, f1⟩ := two_cells (show w3.heap[w.heap.size + 1]? = _ from by rw [hb3.block _ (by omega)]; exact HR.out)
  have r0 := Num.hide (box_first (x := x) (y := y) k0)
  have r1 := Num.hide (box_second (x := x) (y := y) k1)
  have HB1 := Num.hide (((HB0.out.trans (hb3.mono (by omega))).setCell (p := ⟨w.heap.size + 1, 0, none⟩) (by simp) (.string x)).setCell (p := ⟨w.heap.size + 1, 1, none⟩) (by simp) (.string y))
  clear hb3 HR HB0
  go_wp2
  generalize ((w3.setCell ⟨w.heap.size + 1, 0, none⟩ (.string x)).setCell ⟨w.heap.size + 1, 1, none⟩ (.string y)) = w4 at r0 r1 HB1 ⊢
  have r0 := r0.out
  have r1 := r1.out
  exact bodyPost_ret (v := .tuple #[.agg #[.string x, .string y], .bool true]) (by simp [results, Tryd.results62, go_sem, r0, r1]) rfl ⟨rfl, HB1.out⟩
set_option maxRecDepth 100000 in
set_option maxHeartbeats 1000000 in
theorem setF_same (y name value : ByteArray) (b : Bool) (nb fb vb : Nat) (w : World) (hn : w.cell? ⟨nb, 0, none⟩ = some (.string name)) (hv : w.cell? ⟨vb, 0, none⟩ = some (.string value)) (hf : w.heap[fb]? = some (.cells #[.bool b] 4 (0, 0))) (hnf : nb ≠ fb) (hvf : vb ≠ fb)
    (hx : name.size ≤ 281474976710656) (hy : value.size ≤ 281474976710656) :
    Calls Tryd.prog 62 #[.agg #[.string name, .string y], .pointer (some ⟨nb, 0, none⟩), .pointer (some ⟨fb, 0, none⟩), .pointer (some ⟨vb, 0, none⟩)] w fun e w' => e = .returned (.tuple #[.agg #[.string name, .string value], .bool (!b)]) ∧ w'.heap[fb]? = some (.cells #[.bool true] 4 (0, 0)) ∧ Far fb (fb + 1) w w' := by
  have HN := Num.hide (fun W => new_any name value W hx hy)
  have hlt := Recs.lt_of_cell hn
  have hlv := Recs.lt_of_cell hv
  have hlf : fb < w.heap.size := (Array.getElem?_eq_some_iff.1 hf).1
  have c3 := cell_of_one hf
  have f3 := free_of_one hf
  have hsf : (w.setCell ⟨fb, 0, none⟩ (.bool true)).heap.size = w.heap.size := by simp
  have c1 : (w.setCell ⟨fb, 0, none⟩ (.bool true)).cell? ⟨nb, 0, none⟩ = some (.string name) := by
    rw [← hn]; exact World.cell?_of_block (w := w) (Below.heap_setCell w ⟨fb, 0, none⟩ _ nb hnf)
  have c2 : (w.setCell ⟨fb, 0, none⟩ (.bool true)).cell? ⟨vb, 0, none⟩ = some (.string value) := by
    rw [← hv]; exact World.cell?_of_block (w := w) (Below.heap_setCell w ⟨fb, 0, none⟩ _ vb hvf)
  have HO := Num.hide (show (w.setCell ⟨fb, 0, none⟩ (.bool true)).heap[fb]? = some (.cells #[.bool true] 4 (0, 0)) from one_setCell hf)
  have HK : Hid (∀ j, j ≠ fb → (w.setCell ⟨fb, 0, none⟩ (.bool true)).heap[j]? = w.heap[j]?) := fun j hj => Below.heap_setCell w ⟨fb, 0, none⟩ _ j hj
  have HE : Hid ((w.setCell ⟨fb, 0, none⟩ (.bool true)).os = w.os ∧ (w.setCell ⟨fb, 0, none⟩ (.bool true)).tape = w.tape ∧ (w.setCell ⟨fb, 0, none⟩ (.bool true)).output = w.output) := ⟨rfl, rfl, rfl⟩
  clear hf hnf hvf hv
  obtain ⟨W, hW⟩ : ∃ W, w.setCell ⟨fb, 0, none⟩ (.bool true) = W := ⟨_, rfl⟩
  rw [hW] at c1 c2 HO HK HE hsf
  have HR := Num.hide (setRes W name y)
  have HB0 := Num.hide (setBelow W name y)
  have hz := setSize W name y
  rw [hsf] at HB0 hz
  have HR2 : Hid ((setW W name y).heap[w.heap.size + 1]? = some (.cells #[.string ⟨#[]⟩, .string ⟨#[]⟩] 60 (0, 0))) := by rw [← hsf]; exact HR
  clear HR
  go_enter Tryd.func62, Tryd.ntmps62
  go_wp2_with fail
  refine (HN.out _).mono ?_
  rintro e w3 ⟨rfl, hb3⟩
  change Below (setW W name y).heap.size (setW W name y) w3 at hb3
  rw [hz] at hb3
  obtain ⟨k0, k1, f0, f1⟩ := two_cells (show w3.heap[w.heap.size + 1]? = _ from by rw [hb3.block _ (by omega)]; exact HR2.out)
  have r0 := Num.hide (box_first (x := name) (y := value) k0)
  have r1 := Num.hide (box_second (x := name) (y := value) k1)
  have HB1 := Num.hide (((HB0.out.trans (hb3.mono (by omega))).setCell (p := ⟨w.heap.size + 1, 0, none⟩) (by simp) (.string name)).setCell (p := ⟨w.heap.size + 1, 1, none⟩) (by simp) (.string value))
  clear hb3 HR2 HB0
  go_wp2
  generalize ((w3.setCell ⟨w.heap.size + 1, 0, none⟩ (.string name)).setCell ⟨w.heap.size + 1, 1, none⟩ (.string value)) = w4 at r0 r1 HB1 ⊢
  have r0 := r0.out
  have r1 := r1.out
  refine bodyPost_ret (v := .tuple #[.agg #[.string name, .string value], .bool (!b)]) (by simp [results, Tryd.results62, go_sem, r0, r1]) rfl ⟨rfl, (HB1.out.block fb hlf).trans HO.out, ⟨⟨?_, ?_, ?_, ?_, ?_⟩, ?_⟩⟩
  · exact HB1.out.os.trans HE.out.1
  · exact HB1.out.tape.trans HE.out.2.1
  · exact HB1.out.output.trans HE.out.2.2
  · have := HB1.out.size; omega
  · intro j hj
    exact (HB1.out.block j (by omega)).trans (HK.out j (by omega))
  · intro j hj hj2
    exact (HB1.out.block j hj2).trans (HK.out j (by omega))
theorem Far.mono {B n B' n' : Nat} {W W' : World} (h : Far B n W W') (hB : B' ≤ B) (hn : n ≤ n') : Far B' n' W W' := ⟨h.below.mono hB, fun j hj hj2 => h.rows j (by omega) hj2⟩
/-- what the choice of FieldSet knows: the name, the value, whether it was there -/
structure SetQ (nb fb vb : Nat) (name value : ByteArray) (b : Bool) (W : World) : Prop where
  hn : W.cell? ⟨nb, 0, none⟩ = some (.string name)
  hv : W.cell? ⟨vb, 0, none⟩ = some (.string value)
  hf : W.heap[fb]? = some (.cells #[.bool b] 4 (0, 0))
theorem SetQ.stay {nb fb vb n : Nat} {name value : ByteArray} {b : Bool} {W W' : World} (h : SetQ nb fb vb name value b W) (hb : Below n W W') (h1 : nb < n) (h2 : fb < n) (h3 : vb < n) : SetQ nb fb vb name value b W' :=
  ⟨(hb.cell (p := ⟨nb, 0, none⟩) h1).trans h.hn, (hb.cell (p := ⟨vb, 0, none⟩) h3).trans h.hv, (hb.block fb h2).trans h.hf⟩
theorem set_choice (w0 w : World) (l : List Fld) (name value : ByteArray) (fb : Nat) (h1 : w0.heap.size ≤ fb) (h2 : fb + 2 < w.heap.size) (hz : ∀ f ∈ l, f.1.size ≤ 281474976710656 ∧ f.2.size ≤ 281474976710656) (hx : name.size ≤ 281474976710656) (hy : value.size ≤ 281474976710656) :
    Choice 62 #[.pointer (some ⟨fb, 0, none⟩), .pointer (some ⟨fb + 2, 0, none⟩), .pointer (some ⟨fb + 1, 0, none⟩)] w0.heap.size w.heap.size w0 l (fun k => (setGo (l.take k) name value).1) (fun k W => SetQ fb (fb + 2) (fb + 1) name value (setGo (l.take k) name value).2 W) := by
  intro k hk W hB hn hQ
  have hzk := hz l[k] (List.getElem_mem hk)
  have hT := setGo_take l name value k hk
  simp only at hQ ⊢
  rw [hT]
  generalize setGo (l.take k) name value = r at hQ
  obtain ⟨L, b⟩ := r
  simp only at hQ
  generalize l[k] = f at hzk
  obtain ⟨x, y⟩ := f
  simp only at hzk
  by_cases e : x = name
  · subst e
    refine (setF_same y x value b fb (fb + 2) (fb + 1) W hQ.hn hQ.hv hQ.hf (by omega) (by omega) hx hy).mono ?_
    rintro e W' ⟨rfl, hf, hF⟩
    refine ⟨(x, value), !b, rfl, ?_, ⟨(hF.below.cell (p := ⟨fb, 0, none⟩) (by simp)).trans hQ.hn, (hF.below.cell (p := ⟨fb + 1, 0, none⟩) (by simp)).trans hQ.hv, ?_⟩, hF.mono (by omega) (by omega)⟩
    · cases b <;> simp [setStep]
    · rw [hf]; cases b <;> simp [setStep]
  · refine (setF_other x y name fb _ _ W hQ.hn hzk.1 hzk.2 e).mono ?_
    rintro e2 W' ⟨rfl, hb⟩
    refine ⟨(x, y), true, rfl, ?_, ?_, Far.of_below hb (by omega)⟩
    · simp [setStep, e]
    · have : (setStep name value (L, b) (x, y)).2 = b := by simp [setStep, e]
      rw [this]
      exact hQ.stay hb (by omega) (by omega) (by omega)
set_option maxRecDepth 100000 in
set_option maxHeartbeats 1000000 in
theorem set_impl (v : Value) (l : List Fld) (name value : ByteArray) (w : World) (h : Is w v l) (hl : bulk l ≤ 1073741823) (hx : name.size ≤ 281474976710656) (hy : value.size ≤ 281474976710656) :
    Calls Tryd.prog 53 #[v, .string name, .string value] w fun e w' => ∃ v', e = .returned v' ∧ Own w.heap.size w' v' (set l name value) ∧ Below w.heap.size w w' := by
  have hlen : l.length ≤ 1073741823 := by unfold bulk at hl; omega
  obtain ⟨i0, hi0, hz0, hz1, hz2⟩ := info_parts infoF
  have HN := Num.hide (fun W => new_any name value W hx hy)
  obtain ⟨w3, hw3⟩ : ∃ w3, ((w.alloc (.cells #[.string name] 9)).alloc (.cells #[.string value] 9)).alloc (.cells #[.bool false] 4) = w3 := ⟨_, rfl⟩
  have hs3 : w3.heap.size = w.heap.size + 3 := by rw [← hw3]; simp
  have hb : Below w.heap.size w w3 := by rw [← hw3]; exact (((Below.refl w.heap.size w).alloc (Nat.le_refl _) _).alloc (by simp) _).alloc (by simp; omega) _
  have hq0 : SetQ w.heap.size (w.heap.size + 2) (w.heap.size + 1) name value false w3 := by
    rw [← hw3]
    refine ⟨by rw [World.cell?_alloc_lt _ _ _ (by simp; omega), World.cell?_alloc_lt _ _ _ (by simp)]; simp, by rw [World.cell?_alloc_lt _ _ _ (by simp)]; simp, ?_⟩
    have := heap_alloc_new ((w.alloc (.cells #[.string name] 9)).alloc (.cells #[.string value] 9)) (.cells #[.bool false] 4)
    rw [← this, show ((w.alloc (.cells #[.string name] 9)).alloc (.cells #[.string value] 9)).heap.size = w.heap.size + 2 by simp]
  have HC := Num.hide (chosen_any 62 _ w.heap.size w w3 v l _ _ h rfl hb (by omega) rfl
    (fun k hk => by have := setGo_length (l.take k) name value; rw [List.length_take] at this; omega) (by omega) hq0
    (fun k W W' hQ hb2 => hQ.stay hb2 (by omega) (by omega) (by omega)) (set_choice w w3 l name value w.heap.size (Nat.le_refl _) (by omega) (sizes_of (by omega)) hx hy) (enters_of Tryd.func62 (by kernel_rfl) rfl))
  simp only [List.take_length, hs3] at HC
  clear hs3 hb hq0
  subst hw3
  have hgl := setGo_length l name value
  obtain ⟨R, hR⟩ : ∃ R, set l name value = R := ⟨_, rfl⟩
  rw [hR]
  unfold set at hR
  generalize setGo l name value = r at HC hR hgl
  obtain ⟨L, b⟩ := r
  simp only at HC hR hgl
  have HR := Num.hide hR
  clear h hR
  go_enter Tryd.func53, Tryd.ntmps53
  go_wp2_with fail
  refine HC.out.mono ?_
  rintro e w4 ⟨v', rfl, ho, hb1, hq⟩
  have HO := Num.hide ho
  have HB := Num.hide hb1
  have c1 := hq.hn
  have c2 := hq.hv
  have c3 := cell_of_one hq.hf
  have hs4 : w.heap.size + 3 ≤ w4.heap.size := by have := (Array.getElem?_eq_some_iff.1 hq.hf).1; omega
  clear ho hb1 hq
  cases b with
  | true =>
    have HR2 : Hid (L = R) := by rw [if_pos rfl] at HR; exact HR
    clear HR
    go_wp2
    go_ret
    exact ⟨_, rfl, by rw [← HR2.out]; exact Recs.own_mono HO.out (by omega), HB.out⟩
  | false =>
    have HR2 : Hid (L ++ [(name, value)] = R) := by rw [if_neg (by simp)] at HR; exact HR
    clear HR
    go_wp2_with fail
    refine (HN.out _).mono ?_
    rintro e w5 ⟨rfl, hb5⟩
    have HO5 := Num.hide (Recs.own_below HO.out hb5)
    have HB5 := Num.hide (HB.out.trans (hb5.mono (by omega)))
    have hs5 : w.heap.size + 3 ≤ w5.heap.size := Nat.le_trans hs4 hb5.size
    clear hb5 HO HB
    go_wp2_with (at_builtin; refine wpList_append_own _ rfl _ _ 27 rfl (w.heap.size + 3) 60 i0 _ 2 32 Tryd.underlying27 hi0 hz0 hz1 hz2 rfl (by decide) _ _ _ rfl (World.ownsRow.alloc HO5.out _) ⟨w5.heap.size, 0, none⟩ 1 1 [.string name, .string value] rfl rfl (cells_two w5 name value) (two_ok name value) (by unfold maxLen; omega) (by omega) ?c5 ?_)
    case c5 => first | omega | (simp; omega)
    intro v' w6 ho2 hg2 _
    obtain ⟨hp1, hp2⟩ := put_more (w := w5) hs5 HO5.out (Below.refl _ _) ho2 hg2
    have HP1 := Num.hide (Recs.own_mono hp1 (by omega : w.heap.size ≤ w.heap.size + 3))
    have HP2 := Num.hide (HB5.out.trans (hp2.mono (by omega)))
    clear ho2 hg2 hp1 hp2
    go_wp2
    go_ret
    exact ⟨_, rfl, by rw [← HR2.out]; exact HP1.out, HP2.out⟩
end Flds
end Go.Proofs.YtmiahdiadlnijaaDoor
namespace Go.Proofs.YtmiahdiadlnijaaDoor
open Go.Shelf
def Shelf.laysM171_ren : Go.Shelf.Ren := ⟨fun | 171 => 54 | 243 => 64 | 246 => 75 | 283 => 80 | 284 => 81 | 285 => 82 | 286 => 83 | 129 => 87 | 317 => 86 | 318 => 88 | 319 => 89 | 320 => 90 | 337 => 98 | 338 => 99 | n => n, fun | 3 => 3 | 9 => 9 | 2 => 2 | 4 => 4 | 171 => 87 | 0 => 0 | 53 => 88 | 37 => 65 | 5 => 5 | 173 => 91 | 212 => 96 | 51 => 97 | 20 => 20 | 213 => 98 | 46 => 99 | 232 => 112 | 233 => 113 | n => n, fun | 17 => 1 | 18 => 2 | 19 => 3 | n => n⟩
theorem Shelf.laysM171 : Go.Proofs.LaysM.n171 Tryd.prog Shelf.laysM171_ren := {
  mixed := by kernel_rfl
  f129 := Tryd.func87.trans (congrArg some (by kernel_rfl))
  f171 := Tryd.func54.trans (congrArg some (by kernel_rfl))
  f243 := Tryd.func64.trans (congrArg some (by kernel_rfl))
  f246 := Tryd.func75.trans (congrArg some (by kernel_rfl))
  f283 := Tryd.func80.trans (congrArg some (by kernel_rfl))
  f284 := Tryd.func81.trans (congrArg some (by kernel_rfl))
  f285 := Tryd.func82.trans (congrArg some (by kernel_rfl))
  f286 := Tryd.func83.trans (congrArg some (by kernel_rfl))
  f317 := Tryd.func86.trans (congrArg some (by kernel_rfl))
  f318 := Tryd.func88.trans (congrArg some (by kernel_rfl))
  f319 := Tryd.func89.trans (congrArg some (by kernel_rfl))
  f320 := Tryd.func90.trans (congrArg some (by kernel_rfl))
  f337 := Tryd.func98.trans (congrArg some (by kernel_rfl))
  f338 := Tryd.func99.trans (congrArg some (by kernel_rfl))
  t0 := Tryd.underlying0
  a0 := Tryd.isAgg0
  z0 := Tryd.sizeOf0
  v0 := Tryd.zeroValue0
  t2 := Tryd.underlying2
  a2 := Tryd.isAgg2
  z2 := Tryd.sizeOf2
  v2 := Tryd.zeroValue2
  t3 := Tryd.underlying3
  a3 := Tryd.isAgg3
  z3 := Tryd.sizeOf3
  v3 := Tryd.zeroValue3
  t4 := Tryd.underlying4
  a4 := Tryd.isAgg4
  z4 := Tryd.sizeOf4
  v4 := Tryd.zeroValue4
  t5 := Tryd.underlying5
  a5 := Tryd.isAgg5
  z5 := Tryd.sizeOf5
  v5 := Tryd.zeroValue5
  t9 := Tryd.underlying9
  a9 := Tryd.isAgg9
  z9 := Tryd.sizeOf9
  v9 := Tryd.zeroValue9
  t20 := Tryd.underlying20
  a20 := Tryd.isAgg20
  z20 := Tryd.sizeOf20
  v20 := Tryd.zeroValue20
  t37 := Tryd.underlying65
  a37 := Tryd.isAgg65
  z37 := Tryd.sizeOf65
  v37 := Tryd.zeroValue65
  t46 := Tryd.underlying99
  a46 := Tryd.isAgg99
  z46 := Tryd.sizeOf99
  v46 := Tryd.zeroValue99
  t51 := Tryd.underlying97
  a51 := Tryd.isAgg97
  z51 := Tryd.sizeOf97
  v51 := Tryd.zeroValue97
  t53 := Tryd.underlying88
  a53 := Tryd.isAgg88
  z53 := Tryd.sizeOf88
  v53 := Tryd.zeroValue88
  t171 := Tryd.underlying87
  a171 := Tryd.isAgg87
  z171 := Tryd.sizeOf87
  v171 := Tryd.zeroValue87
  t173 := Tryd.underlying91
  a173 := Tryd.isAgg91
  z173 := Tryd.sizeOf91
  v173 := Tryd.zeroValue91
  t212 := Tryd.underlying96
  a212 := Tryd.isAgg96
  z212 := Tryd.sizeOf96
  v212 := Tryd.zeroValue96
  t213 := Tryd.underlying98
  a213 := Tryd.isAgg98
  z213 := Tryd.sizeOf98
  t232 := Tryd.underlying112
  a232 := Tryd.isAgg112
  z232 := Tryd.sizeOf112
  v232 := Tryd.zeroValue112
  t233 := Tryd.underlying113
  a233 := Tryd.isAgg113
  z233 := Tryd.sizeOf113
  v233 := Tryd.zeroValue113
  g17 := by kernel_rfl
  g18 := by kernel_rfl
  g19 := by kernel_rfl
  i0 := by kernel_rfl
  i2 := by kernel_rfl
  i3 := by kernel_rfl
  i4 := by kernel_rfl
  i5 := by kernel_rfl
  i9 := by kernel_rfl
  i20 := by kernel_rfl
  i37 := by kernel_rfl
  i46 := by kernel_rfl
  i51 := by kernel_rfl
  i53 := by kernel_rfl
  i171 := by kernel_rfl
  i173 := by kernel_rfl
  i212 := by kernel_rfl
  i232 := by kernel_rfl
  i233 := by kernel_rfl
  m17 := by kernel_rfl
  m18 := by kernel_rfl
  m19 := by kernel_rfl }
open Go.RowKit Go.Sort Go.Lib in
theorem Shelf.strconv_Itoa (n : Int) (h0 : -9223372036854775808 ≤ n) (h1 : n ≤ 9223372036854775807) (w : World) (htab : Lib.TabIs Tryd.prog w "internal/strconv.uint64pow10" .u64 Lib.pow10Tab) :
    Calls Tryd.prog 54 #[.int .i64 n] w fun e w' => e = .returned (.string ⟨(Lib.itoa n).toArray⟩) ∧ ∃ k os, w' = grow (w.drewN k) os := Any.strconv_Itoa Shelf.laysM171 n h0 h1 w htab
end Go.Proofs.YtmiahdiadlnijaaDoor
namespace Go.Proofs.YtmiahdiadlnijaaDoor
open Go.RowKit
set_option linter.unusedVariables false
namespace Dec

theorem below_grow (w : World) (k : Nat) (os : Array Obj) : Below w.heap.size w (Sort.grow (w.drewN k) os) :=
  (below_drewN (Below.refl _ _) k).trans ⟨rfl, rfl, rfl, by simp, fun i hi => by
    show (w.heap ++ os)[i]? = w.heap[i]?
    exact Array.getElem?_append_left hi⟩
theorem lt_of_cell {w : World} {a : Addr} {v : Value} (h : w.cell? a = some v) : a.block < w.heap.size := by
  apply Decidable.byContradiction
  intro hc
  have hn : w.heap[a.block]? = none := Array.getElem?_eq_none (by omega)
  simp [World.cell?, hn] at h
theorem impl_any (n : Int) (w : World) (h0 : -9223372036854775808 ≤ n) (h1 : n ≤ 9223372036854775807) (htab : Lib.TabIs Tryd.prog w "internal/strconv.uint64pow10" .u64 Lib.pow10Tab) :
    Calls Tryd.prog 38 #[.int .i64 n] w fun e w' => e = .returned (.string ⟨(Lib.itoa n).toArray⟩) ∧ Below w.heap.size w w' := by
  have hI := Num.hide (Shelf.strconv_Itoa n h0 h1 w htab)
  clear htab
  go_enter Tryd.func38, Tryd.ntmps38
  go_wp2_with fail
  refine (Num.unhide hI).mono ?_
  rintro e w1 ⟨rfl, k, os, rfl⟩
  have hb := below_grow w k os
  go_wp2
  go_ret
  exact ⟨rfl, hb⟩
end Dec
end Go.Proofs.YtmiahdiadlnijaaDoor
