/-
  VaryFree: A field that nothing hangs on changes nothing of what is picked, plain: of what is drawn no answer hangs on x-free.
  Code: The bytes that a law is handed, as the draws read them.
  VaryWalk: FnVaries: a request fits what was picked of itself; of what an answer does not hang on nothing is picked: for every draw, of a program whose functions tell what they are to tell.
-/
import Derived.Test.YtkogcbnbmdeolaaDoorPam
import Derived.Test.YtkogcbnbmdeolaaDoorDrawnNum
import Derived.Test.YtkogcbnbmdeolaaDoorPal
import Derived.Test.YtkogcbnbmdeolaaDoorPax
import Derived.Test.YtkogcbnbmdeolaaDoorDrawByte
import Derived.OpenShut
import Derived.Test.YtkogcbnbmdeolaaDoorPac
import Derived.Test.YtkogcbnbmdeolaaDoorStrs
import Derived.Test.YtkogcbnbmdeolaaDoorPaf
import Derived.Test.YtkogcbnbmdeolaaDoorPag
import Derived.Deep.Cut
import Derived.BigQuiet
namespace Go.Proofs.YtkogcbnbmdeolaaDoor
open Go.RowKit
set_option linter.unusedVariables false
namespace Vary
open Flds (Fld)
open Calm (calm)

def xFree : ByteArray := ⟨#[120, 45, 102, 114, 101, 101]⟩
/-- a property of all parts of what is said under a name, where each value ends its quotes -/
theorem get_parts (P : ByteArray → Prop) (name : ByteArray) (l : List Fld) (h : ∀ f ∈ l, f.1 = name → calm f.2 = true ∧ ∀ t ∈ Sign.split f.2, P t) : calm (Flds.get l name).1 = true ∧ ∀ t ∈ Sign.split (Flds.get l name).1, P t := by
  revert h
  refine Num.snoc_ind (P := fun l => (∀ f ∈ l, f.1 = name → calm f.2 = true ∧ ∀ t ∈ Sign.split f.2, P t) → calm (Flds.get l name).1 = true ∧ ∀ t ∈ Sign.split (Flds.get l name).1, P t) ?_ ?_ l
  · intro _
    refine ⟨Calm.calm_empty, fun t ht => ?_⟩
    rw [show (Flds.get [] name).1 = ⟨#[]⟩ from rfl, Cc.split_empty] at ht
    exact absurd ht List.not_mem_nil
  · intro l f ih h
    have e : Flds.get (l ++ [f]) name = Flds.getStep name (Flds.get l name) f := by unfold Flds.get; rw [List.foldl_append]; rfl
    obtain ⟨i1, i2⟩ := ih (fun g hg => h g (List.mem_append_left _ hg))
    rw [e]
    unfold Flds.getStep
    by_cases hn : f.1 = name
    · obtain ⟨k1, k2⟩ := h f (by simp) hn
      rw [if_pos hn]
      simp only
      by_cases hb : (Flds.get l name).2 = true
      · rw [if_pos hb]
        refine ⟨Calm.calm_app (Calm.calm_app i1 Calm.calm_comma) k1, fun t ht => ?_⟩
        rw [Cc.split_app _ _ i1] at ht
        rcases List.mem_append.1 ht with h1 | h1
        · exact i2 t h1
        · exact k2 t h1
      · have hz : (Flds.get l name).1 = ⟨#[]⟩ := by
          have := Cc.get_two l [] name
          rw [List.append_nil] at this
          unfold Cc.both at this
          rw [if_neg hb] at this
          rw [this]; rfl
        rw [if_neg hb, hz]
        have e0 : (⟨#[]⟩ : ByteArray) ++ f.2 = f.2 := by apply ByteArray.ext; simp
        rw [e0]
        exact ⟨k1, k2⟩
    · rw [if_neg hn]; exact ⟨i1, i2⟩
/-- the test of what vary says in what is drawn -/
def freeOf (y : ByteArray) : Bool := calm y && (Sign.split y).all fun t => decide (¬ Sign.lower t = xFree)
theorem drawn_free (l : List Fld) (h : ∀ f ∈ l, Draw.Drawn f.1 f.2) : ∀ n ∈ varyNames l, ¬ n = xFree := by
  intro n hn
  obtain ⟨t, ht, rfl⟩ := names_of _ n hn
  refine (get_parts (fun t => ¬ Sign.lower t = xFree) varyName l (fun f hf e => ?_)).2 t ht
  have hv := (h f hf).varied e
  have hq := Draw.all_of (q := freeOf) (by decide +kernel) hv
  unfold freeOf at hq
  rw [Bool.and_eq_true, List.all_eq_true] at hq
  exact ⟨hq.1, fun t ht => of_decide_eq_true (hq.2 t ht)⟩
theorem pick_free (lq : List Fld) (N : List ByteArray) (x y : ByteArray) (h : ∀ n ∈ N, ¬ n = x) : pickL (lq ++ [(x, y)]) N = pickL lq N := by
  unfold pickL
  induction N with
  | nil => rfl
  | cons n N ih =>
    rw [List.filterMap_cons, List.filterMap_cons, ih (fun k hk => h k (List.mem_cons_of_mem _ hk))]
    have e : pickAt (lq ++ [(x, y)]) n = pickAt lq n := by
      have e2 : Flds.get (lq ++ [(x, y)]) n = Flds.get lq n := by
        rw [Flds.get_snoc]
        unfold Flds.getStep
        exact if_neg (fun e => h n List.mem_cons_self e.symm)
      unfold pickAt
      rw [e2]
    rw [e]
theorem picked_free (lq lr : List Fld) (y : ByteArray) (h : ∀ f ∈ lr, Draw.Drawn f.1 f.2) : picked (lq ++ [(xFree, y)]) lr = picked lq lr := pick_free lq _ _ _ (drawn_free lr h)
/-- what is picked has a name of those, and the request has it -/
theorem picked_in (lq lr : List Fld) : ∀ f ∈ picked lq lr, f.1 ∈ varyNames lr ∧ (Flds.get lq f.1).2 = true := by
  intro f hf
  unfold picked pickL at hf
  obtain ⟨n, hn, e⟩ := List.mem_filterMap.1 hf
  unfold pickAt at e
  split at e
  · next h =>
    have e2 := Option.some.inj e
    rw [← e2]
    exact ⟨hn, h⟩
  · cases e
theorem picked_len (lq lr : List Fld) : (picked lq lr).length ≤ (varyNames lr).length := pick_len _ _
end Vary
end Go.Proofs.YtkogcbnbmdeolaaDoor
namespace Go.Proofs.YtkogcbnbmdeolaaDoor
open Go.RowKit
set_option linter.unusedVariables false
namespace Draw

theorem CodeAt.mono {B B' : Nat} {w : World} {a : Option Addr} {l : List Int} (h : CodeAt B w a l) (hB : B ≤ B') : CodeAt B' w a l := by
  refine ⟨h.1, ?_⟩
  rcases h.2 with h | ⟨b, off, ha, hb, hc⟩
  · exact .inl h
  · exact .inr ⟨b, off, ha, by omega, hc⟩
theorem lt_of_cell {w : World} {a : Addr} {v : Value} (h : w.cell? a = some v) : a.block < w.heap.size := by
  apply Decidable.byContradiction
  intro hc
  have hn : w.heap[a.block]? = none := Array.getElem?_eq_none (by omega)
  simp [World.cell?, hn] at h
theorem code_of (w : World) (x : Addr) (len : Nat) (zs : List Int) (hl : len ≤ zs.length) (hcell : ∀ i, i < zs.length → w.cell? (x.add i) = some (.int .u8 (zs.getD i 0))) (hwz : ∀ n ∈ zs, (Lit.int .u8 n).wf = true) :
    (zs.take len).length = len ∧ CodeAt w.heap.size w (some x) (zs.take len) := by
  have hlen : (zs.take len).length = len := by rw [List.length_take]; omega
  refine ⟨hlen, ?_, ?_⟩
  · intro i hi
    have hm : (zs.take len)[i] ∈ zs := List.mem_of_mem_take (List.getElem_mem hi)
    have := bounds_u8 (hwz _ hm)
    omega
  · by_cases h0 : len = 0
    · left; subst h0; rfl
    · right
      obtain ⟨b, off, spot⟩ := x
      have hc := hcell 0 (by omega)
      have hspot : spot = none := by simpa [Addr.add] using World.cell?_spot hc
      subst hspot
      have hadd : ∀ i, (⟨b, off, none⟩ : Addr).add i = ⟨b, off + i, none⟩ := fun i => by unfold Addr.add; split <;> simp_all
      refine ⟨b, off, rfl, ?_, ?_⟩
      · have := lt_of_cell hc
        rw [hadd] at this
        exact this
      · intro i hi
        have h2 := hcell i (by omega)
        rw [hadd] at h2
        rw [h2, List.getElem_take, List.getD_eq_getElem?_getD, List.getElem?_eq_getElem (by omega)]
        rfl
set_option maxHeartbeats 400000 in
theorem big_any (a : Option Addr) (n cap : Nat) (w : World) (h : n ≤ 9223372036854775807) : Calls Tryd.prog 9 #[.slice a n cap] w fun e w' => e = .returned (.bool (decide (1048576 < (n : Int)))) ∧ w = w' := by
  go_enter Tryd.func9, Tryd.ntmps9
  go_wp2
  go_ret
  exact ⟨by simp, rfl⟩
end Draw
end Go.Proofs.YtkogcbnbmdeolaaDoor
namespace Go.Proofs.YtkogcbnbmdeolaaDoor
open Go.RowKit
set_option linter.unusedVariables false
set_option linter.unusedSimpArgs false
namespace Varies
open Flds (Fld)
open Draw Vary

/-- what is drawn, in its boxes, what was picked, and the names -/
structure VAt (G : World → Prop) (w : World) (gq : Nat) (q r : Array Value) (v1 v2 : Value) (l1 l2 : List Fld) (pv : Value) (P : List Fld) (nv : Value) (N : List ByteArray) (W : World) : Prop where
  below : Below w.heap.size w W
  bq : W.heap[gq]? = some (.cells q 32)
  br : W.heap[gq + 1]? = some (.cells r 34)
  o1 : Flds.Own w.heap.size W v1 l1
  o2 : Flds.Own w.heap.size W v2 l2
  op : Flds.Own w.heap.size W pv P
  on : Strs.OwnS w.heap.size W nv N
  g : G W
theorem VAt.step {G : World → Prop} (HG : ∀ W W', G W → Below W.heap.size W W' → G W') {w : World} {gq : Nat} {q r : Array Value} {v1 v2 : Value} {l1 l2 : List Fld} {pv : Value} {P : List Fld} {nv : Value} {N : List ByteArray} {W W' : World} (h : VAt G w gq q r v1 v2 l1 l2 pv P nv N W) (hb : Below W.heap.size W W') : VAt G w gq q r v1 v2 l1 l2 pv P nv N W' :=
  ⟨h.below.trans (hb.mono h.below.size), Recs.row_step h.bq hb, Recs.row_step h.br hb, Recs.own_below h.o1 hb, Recs.own_below h.o2 hb, Recs.own_below h.op hb, Strs.own_below h.on hb, HG _ _ h.g hb⟩
theorem own_monoS {B B' : Nat} {w : World} {v : Value} {l : List ByteArray} (h : Strs.OwnS B w v l) (hB : B' ≤ B) : Strs.OwnS B' w v l := by
  refine ⟨h.1, ?_⟩
  rcases h.2 with h1 | ⟨g, cap, cur, h1, h2, rest⟩
  · exact .inl h1
  · exact .inr ⟨g, cap, cur, h1, by omega, rest⟩
theorem bulk_one (l : List Fld) (x y : ByteArray) : Flds.bulk (l ++ [(x, y)]) = Flds.bulk l + (1 + x.size + y.size) := by
  unfold Flds.bulk
  simp only [List.length_append, List.length_cons, List.length_nil, List.map_append, List.map_cons, List.map_nil, List.sum_append, List.sum_cons, List.sum_nil]
  omega
theorem own_cells {B : Nat} {W : World} {ap : Option Addr} {cp : Nat} {P : List Fld} (h : Flds.Own B W (.slice ap P.length cp) P) (hp : 0 < P.length) : ∃ b o, ap = some ⟨b, o, none⟩ ∧ P.length ≤ cp ∧ cp ≤ maxLen ∧ ∀ i (h : i < P.length), W.cell? ⟨b, o + i * 2, none⟩ = some (.string P[i].1) ∧ W.cell? ⟨b, o + i * 2 + 1, none⟩ = some (.string P[i].2) := by
  obtain ⟨a, c, e, h2⟩ := Flds.is_form (Recs.own_is Flds.cells_len h)
  injection e with e1 _ e3
  subst e1 e3
  obtain ⟨b, o, h3, h4, h5, _, h7⟩ := h2 hp
  exact ⟨b, o, h3, h4, h5, h7⟩
theorem own_cellsS {B : Nat} {W : World} {an : Option Addr} {cn : Nat} {N : List ByteArray} (h : Strs.OwnS B W (.slice an N.length cn) N) (hp : 0 < N.length) : ∃ b o, an = some ⟨b, o, none⟩ ∧ N.length ≤ cn ∧ cn ≤ maxLen ∧ ∀ i (h : i < N.length), W.cell? ⟨b, o + i, none⟩ = some (.string N[i]) := by
  rcases Strs.own_is h with ⟨h1, _⟩ | ⟨b, o, c, e, h2, h3, h4⟩
  · subst h1; simp at hp
  · injection e with e1 _ e3
    subst e3
    exact ⟨b, o, e1, h2, h3, h4⟩
theorem text_same {x y : ByteArray} (h : x = y) : (x.toList == y.toList) = true := by rw [h]; simp
theorem text_other {x y : ByteArray} (h : ¬ x = y) : (x.toList == y.toList) = false := by
  rw [beq_eq_false_iff_ne]
  intro e
  exact h (ByteArray.ext (Array.toList_inj.1 ((ByteArray.toList_eq (bs := x)).symm.trans (e.trans (ByteArray.toList_eq (bs := y))))))
set_option maxRecDepth 100000 in
set_option maxHeartbeats 64000000 in
theorem law (G : World → Prop) (HGb : ∀ W W', G W → Below W.heap.size W W' → G W')
    (hPi : ∀ (m u : ByteArray) (st : Int) (v1 v2 : Value) (l1 l2 : List Fld) (b1 b2 : ByteArray) (W : World), Flds.Is W v1 l1 → Flds.Is W v2 l2 → Flds.bulk l1 ≤ 1048576 → Flds.bulk l2 ≤ 1048576 → G W →
      Calls Tryd.prog 20 #[Req.val m u v1 b1, Resp.val st v2 b2] W fun e w' => ∃ v', e = .returned v' ∧ Flds.Own W.heap.size w' v' (picked l1 l2) ∧ Below W.heap.size W w')
    (hNa : ∀ (st : Int) (v : Value) (l : List Fld) (b : ByteArray) (W : World), Flds.Is W v l → Flds.bulk l ≤ 1048576 → G W →
      Calls Tryd.prog 21 #[Resp.val st v b] W fun e w' => ∃ v', e = .returned v' ∧ Strs.OwnS W.heap.size w' v' (varyNames l) ∧ Below W.heap.size W w')
    (hFi : ∀ (m u : ByteArray) (st : Int) (v1 v2 v3 : Value) (l1 l2 l3 : List Fld) (b1 b2 : ByteArray) (W : World), Flds.Is W v1 l1 → Flds.Is W v2 l2 → Flds.Is W v3 l3 → Flds.bulk l1 ≤ 1048576 → Flds.bulk l2 ≤ 1048576 → l3.length ≤ 4194304 → G W →
      Calls Tryd.prog 23 #[Req.val m u v1 b1, Resp.val st v2 b2, v3] W fun e w' => e = .returned (.bool (decide (picked l1 l2 = l3))) ∧ Below W.heap.size W w')
    (a : Option Addr) (cap : Nat) (l0 : List Int) (w : World) (hcode : CodeAt w.heap.size w a l0) (hl0 : l0.length ≤ 1048576) (g : G w) :
    Calls Tryd.prog 4 #[.slice a l0.length cap] w fun e w' => e = .returned (.bool true) ∧ Below w.heap.size w w' := by
  obtain ⟨i0, hi0, hzz0, hzz1, hzz2⟩ := info_parts Flds.infoF
  have HC := Num.hide hcode
  have HBg := Num.hide (fun W => big_any a l0.length cap W (by omega))
  rw [decide_eq_false (by omega : ¬ (1048576 < (l0.length : Int)))] at HBg
  have HG := Num.hide HGb
  have Hg := Num.hide g
  have HPi := Num.hide hPi
  have HNa := Num.hide hNa
  have HFi := Num.hide hFi
  clear hcode g HGb hPi hNa hFi
  go_enter Tryd.func4, Tryd.ntmps4
  go_wp2_with fail
  refine (HBg.out _).mono ?_
  rintro e w0 ⟨rfl, rfl⟩
  go_wp2_with fail
  refine (drawPicked cap a l0 w HC.out hl0).mono ?_
  rintro e w1 ⟨m, u, v1, l1, b1, st, v2, l2, b2, rfl, hv1, hv2, ⟨hf1, hs1⟩, ⟨hf2, hs2⟩, ⟨hm, hu, hb1, hb2⟩, hB⟩
  have hk1 := hf1.bulk (by omega)
  have hk2 := hf2.bulk (by omega)
  have hq1 := hf1.len
  obtain ⟨av1, cv1, hvv⟩ := Recs.own_len hv1
  subst hvv
  obtain ⟨av2, cv2, hvv⟩ := Recs.own_len hv2
  subst hvv
  have z1 := hB.size
  have g1 := HG.out _ _ Hg.out hB
  have hal : Below w1.heap.size w1 ((w1.alloc (.cells #[.string m, .string u, .slice av1 l1.length cv1, .string b1] 32)).alloc (.cells #[.int .i64 st, .slice av2 l2.length cv2, .string b2] 34)) := ((Below.refl _ _).alloc (Nat.le_refl _) _).alloc (by simp) _
  have HA : Hid (VAt G w w1.heap.size #[.string m, .string u, .slice av1 l1.length cv1, .string b1] #[.int .i64 st, .slice av2 l2.length cv2, .string b2] (.slice av1 l1.length cv1) (.slice av2 l2.length cv2) l1 l2 (.slice none 0 0) [] (.slice none 0 0) [] ((w1.alloc (.cells #[.string m, .string u, .slice av1 l1.length cv1, .string b1] 32)).alloc (.cells #[.int .i64 st, .slice av2 l2.length cv2, .string b2] 34))) :=
    ⟨hB.trans (hal.mono z1), (heap_alloc_old _ _ (by simp)).trans (heap_alloc_new w1 _), by
      have h := heap_alloc_new (w1.alloc (.cells #[.string m, .string u, .slice av1 l1.length cv1, .string b1] 32)) (.cells #[.int .i64 st, .slice av2 l2.length cv2, .string b2] 34)
      rwa [World.size_alloc] at h, Recs.own_below hv1 hal, Recs.own_below hv2 hal, Recs.own_nil _ _, Strs.own_nil _ _, HG.out _ _ g1 hal⟩
  have HS1 := Num.hide hs1
  have HS2 := Num.hide hs2
  have hin := picked_in l1 l2
  have hpl := picked_len l1 l2
  have hno := names_once (Sign.split (Flds.get l2 varyName).1)
  have hnl : (varyNames l2).length ≤ 4194304 := by
    have h := names_len (Sign.split (Flds.get l2 varyName).1)
    have h2 := Cc.split_len (Flds.get l2 varyName).1
    have h3 := Cc.get_bulk l2 varyName (by decide)
    unfold varyNames
    omega
  have hfr := picked_free l1 l2 ⟨#[122]⟩ hs2
  change (varyNames l2).Nodup at hno
  have HPi2 := Num.hide (fun W h1 h2 g => HPi.out m u st (.slice av1 l1.length cv1) (.slice av2 l2.length cv2) l1 l2 b1 b2 W h1 h2 (by omega) (by omega) g)
  have HNa2 := Num.hide (fun W h g => HNa.out st (.slice av2 l2.length cv2) l2 b2 W h (by omega) g)
  have HF1 := Num.hide (fun v3 l3 W h1 h2 h3 hz g => HFi.out m u st (.slice av1 l1.length cv1) (.slice av2 l2.length cv2) v3 l1 l2 l3 b1 b2 W h1 h2 h3 (by omega) (by omega) hz g)
  have hbk : Flds.bulk (l1 ++ [(xFree, ⟨#[122]⟩)]) ≤ 1048576 := by rw [bulk_one]; have e1 : xFree.size = 6 := rfl; have e2 : (⟨#[122]⟩ : ByteArray).size = 1 := rfl; omega
  have HF2 := Num.hide (fun v v3 l3 W h1 h2 h3 hz g => HFi.out m u st v (.slice av2 l2.length cv2) v3 (l1 ++ [(xFree, ⟨#[122]⟩)]) l2 l3 b1 b2 W h1 h2 h3 hbk (by omega) hz g)
  rw [hfr] at HF2
  have HGt := Num.hide (fun n W h => Flds.get_spec_b (.slice av1 l1.length cv1) l1 n W h (by omega))
  generalize picked l1 l2 = P at HPi2 HF1 HF2 hin hpl
  generalize varyNames l2 = N at HNa2 hin hpl hno hnl
  have HIn : Hid (∀ i (h : i < P.length), inL N P[i].1 = true ∧ (Flds.get l1 P[i].1).2 = true) := fun i h => ⟨inL_iff.2 (hin _ (List.getElem_mem h)).1, (hin _ (List.getElem_mem h)).2⟩
  have HNo : Hid (∀ i k (h : i < N.length) (hk : k < i), ¬ N[i] = N[k]) := fun i k h hk e => (List.pairwise_iff_getElem.1 hno) k i (by omega) h hk e.symm
  unfold Req.val Resp.val at HPi2 HF1 HF2
  unfold Resp.val at HNa2
  unfold Req.val Resp.val
  clear hv1 hv2 hf1 hf2 hs1 hs2 hB g1 hal Hg HPi HNa HFi hin hno hfr hbk HBg HC
  go_upto_region 4 with fail
  generalize (w1.alloc (.cells #[.string m, .string u, .slice av1 l1.length cv1, .string b1] 32)).alloc (.cells #[.int .i64 st, .slice av2 l2.length cv2, .string b2] 34) = w2 at HA ⊢
  generalize w1.heap.size = gq at HA z1 ⊢
  have c0 := Recs.box_cell HA.out.bq 0
  have c1 := Recs.box_cell HA.out.bq 1
  have c2 := Recs.box_cell HA.out.bq 2
  have c3 := Recs.box_cell HA.out.bq 3
  have d0 := Recs.box_cell HA.out.br 0
  have d1 := Recs.box_cell HA.out.br 1
  have d2 := Recs.box_cell HA.out.br 2
  simp only [List.getElem?_toArray, List.getElem?_cons_succ, List.getElem?_cons_zero] at c0 c1 c2 c3 d0 d1 d2
  go_wp2_with fail
  refine (HPi2.out _ (Recs.own_is Flds.cells_len HA.out.o1) (Recs.own_is Flds.cells_len HA.out.o2) HA.out.g).mono ?_
  rintro e w3 ⟨pv, rfl, hp, hb⟩
  have HP := Num.hide (Recs.own_mono hp HA.out.below.size)
  have HA3 := Num.hide (VAt.step HG.out HA.out hb)
  clear hp hb HA c0 c1 c2 c3 d0 d1 d2 HPi2
  obtain ⟨ap, cp, hvv⟩ := Recs.own_len HP.out
  subst hvv
  have d0 := Recs.box_cell HA3.out.br 0
  have d1 := Recs.box_cell HA3.out.br 1
  have d2 := Recs.box_cell HA3.out.br 2
  simp only [List.getElem?_toArray, List.getElem?_cons_succ, List.getElem?_cons_zero] at d0 d1 d2
  go_wp2_with fail
  refine (HNa2.out _ (Recs.own_is Flds.cells_len HA3.out.o2) HA3.out.g).mono ?_
  rintro e w4 ⟨nv, rfl, hn, hb⟩
  have HA4 : Hid (VAt G w gq #[.string m, .string u, .slice av1 l1.length cv1, .string b1] #[.int .i64 st, .slice av2 l2.length cv2, .string b2] (.slice av1 l1.length cv1) (.slice av2 l2.length cv2) l1 l2 (.slice ap P.length cp) P nv N w4) :=
    have h := VAt.step HG.out HA3.out hb
    ⟨h.below, h.bq, h.br, h.o1, h.o2, Recs.own_below HP.out hb, own_monoS hn HA3.out.below.size, h.g⟩
  clear hn hb HA3 HP d0 d1 d2 HNa2
  obtain ⟨an, cn, hvv⟩ := Strs.own_len HA4.out.on
  subst hvv
  go_wp2
  go_loopw [7] (fun iv wr => ∃ i : Nat, i ≤ P.length ∧ iv = .int .i64 (i : Int) ∧ Hid (VAt G w gq #[.string m, .string u, .slice av1 l1.length cv1, .string b1] #[.int .i64 st, .slice av2 l2.length cv2, .string b2] (.slice av1 l1.length cv1) (.slice av2 l2.length cv2) l1 l2 (.slice ap P.length cp) P (.slice an N.length cn) N wr)) (fun iv _ => P.length - (intOf iv).toNat)
  case atStart => exact ⟨0, by omega, rfl, HA4⟩
  case round =>
    obtain ⟨i, hi, rfl, HV⟩ := hrel
    by_cases hlt : i < P.length
    · obtain ⟨hin1, hin2⟩ := HIn.out i hlt
      obtain ⟨bp, op', rfl, hc1, hc2, hcell⟩ := own_cells HV.out.op (by omega)
      have HCn := Num.hide (hcell i hlt).1
      unfold maxLen at hc2
      generalize P[i].1 = n at HCn hin1 hin2
      clear hcell
      go_wp2
      go_loopw [8, 9] (fun bv kv wr2 => ∃ (k : Nat) (b : Bool), k ≤ N.length ∧ kv = .int .i64 (k : Int) ∧ bv = .bool b ∧ Hid (inL (N.take k) n = b) ∧ Hid (wr2.cell? ⟨bp, op' + i * 2, none⟩ = some (.string n)) ∧ Hid (VAt G w gq #[.string m, .string u, .slice av1 l1.length cv1, .string b1] #[.int .i64 st, .slice av2 l2.length cv2, .string b2] (.slice av1 l1.length cv1) (.slice av2 l2.length cv2) l1 l2 (.slice (some ⟨bp, op', none⟩) P.length cp) P (.slice an N.length cn) N wr2)) (fun _ kv _ => N.length - (intOf kv).toNat)
      case atStart => exact ⟨0, false, by omega, rfl, rfl, rfl, HCn, HV⟩
      case round =>
        obtain ⟨k, b, hk, rfl, rfl, HT, HCn2, HV2⟩ := hrel
        by_cases hlk : k < N.length
        · obtain ⟨bn, on', rfl, hd1, hd2, hdc⟩ := own_cellsS HV2.out.on (by omega)
          unfold maxLen at hd2
          have c1 := hdc k hlk
          have c2 := HCn2.out
          have hs := inL_take hlk (x := n)
          rw [HT.out] at hs
          generalize N[k] = t at c1 hs
          have HV3 := Num.hide (fun j => VAt.step HG.out HV2.out (Recs.below_drewN (Below.refl wr.heap.size wr) j))
          clear hdc
          cases b with
          | true =>
            rw [Bool.true_or] at hs
            have HS := Num.hide hs
            clear hs HT
            go_wp2
            go_quiet (fail)
            go_wp2
            go_roundw
            case rel => exact ⟨k + 1, true, by omega, by go_num, rfl, HS, HCn2, HV3.out _⟩
            case measure => simp [intOf]; omega
          | false =>
            rw [Bool.false_or] at hs
            by_cases ht : t = n
            · have d1 := text_same ht
              rw [decide_eq_true ht] at hs
              have HS := Num.hide hs
              clear hs HT ht
              go_wp2
              go_quiet (fail)
              go_wp2
              go_roundw
              case rel => exact ⟨k + 1, true, by omega, by go_num, rfl, HS, HCn2, HV3.out _⟩
              case measure => simp [intOf]; omega
            · have d1 := text_other ht
              rw [decide_eq_false ht] at hs
              have HS := Num.hide hs
              clear hs HT ht
              go_wp2
              go_quiet (fail)
              go_wp2
              go_roundw
              case rel => exact ⟨k + 1, false, by omega, by go_num, rfl, HS, HCn2, HV3.out _⟩
              case measure => simp [intOf]; omega
        · obtain rfl : k = N.length := by omega
          obtain rfl : b = true := by rw [← HT.out, List.take_length]; exact hin1
          have HV3 := Num.hide (VAt.step HG.out HV2.out (Below.refl wr.heap.size wr).drew)
          go_wp2
          have q2 := Recs.box_cell HV3.out.bq 2
          simp only [List.getElem?_toArray, List.getElem?_cons_succ, List.getElem?_cons_zero] at q2
          have hcn : wr.drew.cell? ⟨bp, op' + i * 2, none⟩ = some (.string n) := HCn2.out
          refine wp_region_held_drew (S := fun X => X.cell? ⟨gq, 2, none⟩ = some (.slice av1 l1.length cv1) ∧ X.cell? ⟨bp, op' + i * 2, none⟩ = some (.string n)) (by kernel_rfl) ⟨q2, hcn⟩ (fun hHeld => ?_)
          clear q2 hcn
          refine Reg.take (i := 0) (d := 53) (v := ?_) rfl rfl (by kernel_rfl) (by kernel_rfl) (by kernel_rfl) (fun _ _ _ h => h) (by rfl) ?_ hHeld ?_
          rotate_left
          · rintro X ⟨h0, h1⟩
            first | (go_simp; done) | (go_simp; with_reducible rfl)
          simp only [Act.put, List.setIfInBounds_toArray, List.set_cons_zero, List.set_cons_succ]
          refine Reg.take (i := 1) (d := 54) (v := ?_) rfl rfl (by kernel_rfl) (by kernel_rfl) (by kernel_rfl) (fun _ _ _ h => h) (by rfl) ?_ hHeld ?_
          rotate_left
          · rintro X ⟨h0, h1⟩
            first | (go_simp; done) | (go_simp; with_reducible rfl)
          simp only [Act.put, List.setIfInBounds_toArray, List.set_cons_zero, List.set_cons_succ]
          refine Reg.take (i := 2) (d := 55) (v := ?_) rfl rfl (by kernel_rfl) (by kernel_rfl) (by kernel_rfl) (fun _ _ _ h => h) (by rfl) ?_ hHeld ?_
          rotate_left
          · rintro X ⟨h0, h1⟩
            first | (go_simp; done) | (go_simp; with_reducible rfl)
          simp only [Act.put, List.setIfInBounds_toArray, List.set_cons_zero, List.set_cons_succ]
          refine Reg.take (i := 3) (d := 56) (v := ?_) rfl rfl (by kernel_rfl) (by kernel_rfl) (by kernel_rfl) (fun _ _ _ h => h) (by rfl) ?_ hHeld ?_
          rotate_left
          · rintro X ⟨h0, h1⟩
            first | (go_simp; done) | (go_simp; with_reducible rfl)
          simp only [Act.put, List.setIfInBounds_toArray, List.set_cons_zero, List.set_cons_succ]
          refine Reg.take (i := 4) (d := 57) (v := ?_) rfl rfl (by kernel_rfl) (by kernel_rfl) (by kernel_rfl) (fun _ _ _ h => h) (by rfl) ?_ hHeld ?_
          rotate_left
          · rintro X ⟨h0, h1⟩
            first | (go_simp; done) | (go_simp; with_reducible rfl)
          simp only [Act.put, List.setIfInBounds_toArray, List.set_cons_zero, List.set_cons_succ]
          refine Reg.take (i := 5) (d := 58) (v := ?_) rfl rfl (by kernel_rfl) (by kernel_rfl) (by kernel_rfl) (fun _ _ _ h => h) (by rfl) ?_ hHeld ?_
          rotate_left
          · rintro X ⟨h0, h1⟩
            first | (go_simp; done) | (go_simp; with_reducible rfl)
          simp only [Act.put, List.setIfInBounds_toArray, List.set_cons_zero, List.set_cons_succ]
          refine Reg.take (i := 6) (d := 59) (v := ?_) rfl rfl (by kernel_rfl) (by kernel_rfl) (by kernel_rfl) (fun _ _ _ h => h) (by rfl) ?_ hHeld ?_
          rotate_left
          · rintro X ⟨h0, h1⟩
            first | (go_simp; done) | (go_simp; with_reducible rfl)
          simp only [Act.put, List.setIfInBounds_toArray, List.set_cons_zero, List.set_cons_succ]
          refine Reg.call (i := 7) rfl (by kernel_rfl) (by rfl) (fun K hK => ?_)
          have HGn := Num.hide (HGt.out n _ (Recs.own_is Flds.cells_len HV3.out.o1))
          rw [show Flds.get l1 n = ((Flds.get l1 n).1, true) from Prod.ext rfl hin2] at HGn
          go_wp2_with (first | (go_at_call 22; refine HGn.out.mono ?_; rintro e w5 ⟨rfl, hb⟩))
          have HV4 := Num.hide (VAt.step HG.out HV3.out hb)
          refine hK.out _ _ ⟨(hb.cell (p := ⟨gq, 2, none⟩) (Recs.lt_of_cell hHeld.1)).trans hHeld.1, (hb.cell (p := ⟨bp, op' + i * 2, none⟩) (Recs.lt_of_cell hHeld.2)).trans hHeld.2⟩ (fun hHeld2 => ?_)
          clear hK K hb HGn
          replace hHeld := hHeld2
          clear hHeld2
          refine Reg.take (i := 8) (d := 52) (v := ?_) rfl rfl (by kernel_rfl) (by kernel_rfl) (by kernel_rfl) (fun _ _ _ h => h) (by rfl) ?_ hHeld ?_
          rotate_left
          · rintro X ⟨h0, h1⟩
            first | (go_simp; done) | (go_simp; with_reducible rfl)
          simp only [Act.put, List.setIfInBounds_toArray, List.set_cons_zero, List.set_cons_succ]
          refine Reg.take (i := 9) (d := 61) (v := ?_) rfl rfl (by kernel_rfl) (by kernel_rfl) (by kernel_rfl) (fun _ _ _ h => h) (by rfl) ?_ hHeld ?_
          rotate_left
          · rintro X ⟨h0, h1⟩
            first | (go_simp; done) | (go_simp; with_reducible rfl)
          simp only [Act.put, List.setIfInBounds_toArray, List.set_cons_zero, List.set_cons_succ]
          refine Reg.take (i := 10) (d := 62) (v := ?_) rfl rfl (by kernel_rfl) (by kernel_rfl) (by kernel_rfl) (fun _ _ _ h => h) (by rfl) ?_ hHeld ?_
          rotate_left
          · rintro X ⟨h0, h1⟩
            first | (go_simp; done) | (go_simp; with_reducible rfl)
          simp only [Act.put, List.setIfInBounds_toArray, List.set_cons_zero, List.set_cons_succ]
          refine Reg.take (i := 11) (d := 10) (v := ?_) rfl rfl (by kernel_rfl) (by kernel_rfl) (by kernel_rfl) (fun _ _ _ h => h) (by rfl) ?_ hHeld ?_
          rotate_left
          · rintro X ⟨h0, h1⟩
            first | (go_simp; done) | (go_simp; with_reducible rfl)
          simp only [Act.put, List.setIfInBounds_toArray, List.set_cons_zero, List.set_cons_succ]
          refine Reg.take (i := 12) (d := 11) (v := ?_) rfl rfl (by kernel_rfl) (by kernel_rfl) (by kernel_rfl) (fun _ _ _ h => h) (by rfl) ?_ hHeld ?_
          rotate_left
          · rintro X ⟨h0, h1⟩
            first | (go_simp; done) | (go_simp; with_reducible rfl)
          simp only [Act.put, List.setIfInBounds_toArray, List.set_cons_zero, List.set_cons_succ]
          refine wpAnyH_done (by kernel_rfl) ?_ _
          clear hHeld HV3 HV2 HV HCn HCn2 HT
          go_wp2
          go_roundw
          case rel => exact ⟨i + 1, by omega, by go_num, HV4⟩
          case measure => simp [intOf]; omega
    · obtain rfl : i = P.length := by omega
      go_wp2
      go_loopw [12] (fun iv wr => ∃ i : Nat, i ≤ N.length ∧ iv = .int .i64 (i : Int) ∧ Hid (VAt G w gq #[.string m, .string u, .slice av1 l1.length cv1, .string b1] #[.int .i64 st, .slice av2 l2.length cv2, .string b2] (.slice av1 l1.length cv1) (.slice av2 l2.length cv2) l1 l2 (.slice ap P.length cp) P (.slice an N.length cn) N wr)) (fun iv _ => N.length - (intOf iv).toNat)
      case atStart => exact ⟨0, by omega, rfl, HV⟩
      case round =>
        obtain ⟨i, hi, rfl, HV⟩ := hrel
        by_cases hlt : i < N.length
        · obtain ⟨bn, on', rfl, hd1, hd2, hdc⟩ := own_cellsS HV.out.on (by omega)
          unfold maxLen at hd2
          have HNi := Num.hide (fun k (hk : k < i) => HNo.out i k hlt hk)
          have HCi := Num.hide (hdc i hlt)
          generalize hti : N[i] = t at HCi HNi
          clear hdc hti
          go_wp2
          go_loopw [13] (fun kv wr => ∃ k : Nat, k ≤ i ∧ kv = .int .i64 (k : Int) ∧ Hid (wr.cell? ⟨bn, on' + i, none⟩ = some (.string t)) ∧ Hid (VAt G w gq #[.string m, .string u, .slice av1 l1.length cv1, .string b1] #[.int .i64 st, .slice av2 l2.length cv2, .string b2] (.slice av1 l1.length cv1) (.slice av2 l2.length cv2) l1 l2 (.slice ap P.length cp) P (.slice (some ⟨bn, on', none⟩) N.length cn) N wr)) (fun kv _ => i - (intOf kv).toNat)
          case atStart => exact ⟨0, by omega, rfl, HCi, HV⟩
          case round =>
            obtain ⟨k, hk, rfl, HCi2, HV2⟩ := hrel
            by_cases hlk : k < i
            · obtain ⟨bn2, on2, hbe, _, _, hdc⟩ := own_cellsS HV2.out.on (by omega)
              injection hbe with hbe
              injection hbe with e1 e2 _
              subst e1 e2
              have c1 := hdc k (by omega)
              have c2 := HCi2.out
              have hne := HNi.out k hlk
              generalize N[k] = x at c1 hne
              have d1 := text_other hne
              have HV3 := Num.hide (fun j => VAt.step HG.out HV2.out (Recs.below_drewN (Below.refl wr.heap.size wr) j))
              clear hdc hne
              go_wp2
              go_quiet (fail)
              go_wp2
              go_roundw
              case rel => exact ⟨k + 1, by omega, by go_num, HCi2, HV3.out _⟩
              case measure => simp [intOf]; omega
            · obtain rfl : k = i := by omega
              clear HV HCi HCi2
              go_wp2
              go_roundw
              case rel => exact ⟨k + 1, by omega, by go_num, HV2⟩
              case measure => simp [intOf]; omega
        · obtain rfl : i = N.length := by omega
          clear HA4 HIn HNo HGt
          have zq : gq + 1 < wr.heap.size := (Array.getElem?_eq_some_iff.1 HV.out.br).1
          have c0 := Recs.box_cell HV.out.bq 0
          have c1 := Recs.box_cell HV.out.bq 1
          have c2 := Recs.box_cell HV.out.bq 2
          have c3 := Recs.box_cell HV.out.bq 3
          simp only [List.getElem?_toArray, List.getElem?_cons_succ, List.getElem?_cons_zero] at c0 c1 c2 c3
          have HX := Num.hide (heap_alloc_new wr (.cells #[.string m, .string u, .slice av1 l1.length cv1, .string b1] 32))
          have HBX := Num.hide ((Below.refl wr.heap.size wr).alloc (Nat.le_refl _) (.cells #[.string m, .string u, .slice av1 l1.length cv1, .string b1] 32))
          have z5 : wr.heap.size < (wr.alloc (.cells #[.string m, .string u, .slice av1 l1.length cv1, .string b1] 32)).heap.size := by simp
          go_upto_region 26 with fail
          clear c0 c1 c2 c3
          generalize wr.alloc (.cells #[.string m, .string u, .slice av1 l1.length cv1, .string b1] 32) = w5 at HX HBX z5 ⊢
          have HV5 := Num.hide (VAt.step HG.out HV.out HBX.out)
          have c2 : (w5.alloc (.cells #[] 40)).cell? ⟨gq, 2, none⟩ = some (.slice av1 l1.length cv1) := (((Below.refl w5.heap.size w5).alloc (Nat.le_refl _) (.cells #[] 40)).cell (p := ⟨gq, 2, none⟩) (by show gq < _; omega)).trans (Recs.box_cell HV5.out.bq 2)
          have HO1 : Hid (Flds.Own w.heap.size (w5.alloc (.cells #[] 40)) (.slice av1 l1.length cv1) l1) := Recs.own_below HV5.out.o1 ((Below.refl w5.heap.size w5).alloc (Nat.le_refl _) (.cells #[] 40))
          have HE := Num.hide (Flds.made_nil w5)
          go_upto_region 27 with (first | (at_builtin; refine Flds.wpList_put_all rfl _ _ rfl w5.heap.size w.heap.size (.slice (some ⟨w5.heap.size, 0, none⟩) 0 0) [] rfl HE.out (.slice av1 l1.length cv1) l1 rfl HO1.out (by simp; omega) (by simp) ?_; intro v6 w6 ho6 hg6; rw [List.nil_append] at ho6; have z6 : w5.heap.size ≤ w6.heap.size := Nat.le_trans (by simp) hg6.size; have HB6 := Num.hide (((Below.refl w5.heap.size w5).alloc (Nat.le_refl _) (.cells #[] 40)).grown hg6 (by simp) (fun j hj => by cases hj; exact Nat.le_refl _)); have HO6 := Num.hide ho6; clear ho6 hg6 c2 HE HO1) | (at_builtin; refine wpList_append_own _ rfl _ _ 30 rfl w5.heap.size 40 i0 _ 2 32 Tryd.underlying30 hi0 hzz0 hzz1 hzz2 rfl (by decide) _ _ _ rfl (World.ownsRow.alloc HO6.out _) ⟨w6.heap.size, 0, none⟩ 1 1 [.string ⟨#[120, 45, 102, 114, 101, 101]⟩, .string ⟨#[122]⟩] rfl rfl (Flds.cells_two w6 ⟨#[120, 45, 102, 114, 101, 101]⟩ ⟨#[122]⟩) (Flds.two_ok ⟨#[120, 45, 102, 114, 101, 101]⟩ ⟨#[122]⟩) (by unfold maxLen; omega) (by omega) (by simp; omega) ?_; intro v7 w7 ho7 hg7 _; obtain ⟨hp1, hp2⟩ := Flds.put_more z6 HO6.out HB6.out ho7 hg7; obtain ⟨a7, c7, hvv⟩ := Recs.own_len hp1; rw [List.length_append, List.length_singleton] at hvv; subst hvv; have HO7 := Num.hide hp1; have HB7 := Num.hide hp2; have k2 := Recs.box_cell ((HB7.out.block _ z5).trans HX.out) 2; have y2 := Recs.box_thaw ((HB7.out.block _ z5).trans HX.out) 2; simp only [List.getElem?_toArray, List.getElem?_cons_succ, List.getElem?_cons_zero] at k2; clear ho7 hg7 hp1 hp2 HO6 HB6))
          have hgx : ∀ j, (Value.slice a7 (l1.length + 1) c7).ownBlock = some j → j ≠ wr.heap.size := fun j hj => by have := (Recs.own_lt HO7.out j hj).1; omega
          have HO8 := Num.hide (Recs.own_set HO7.out wr.heap.size 2 (.slice a7 (l1.length + 1) c7) hgx)
          have HX8 := Num.hide (Recs.box_set ((HB7.out.block _ z5).trans HX.out) 2 (.slice a7 (l1.length + 1) c7))
          have HB8 := Num.hide ((HBX.out.trans (HB7.out.mono (by omega : wr.heap.size ≤ w5.heap.size))).setCell (p := ⟨wr.heap.size, 2, none⟩) (Nat.le_refl _) (.slice a7 (l1.length + 1) c7))
          have HV8 := Num.hide (VAt.step HG.out HV.out HB8.out)
          clear k2 y2 hgx HO7 HB7 HV5 HX HBX HV
          generalize w7.setCell ⟨wr.heap.size, 2, none⟩ (.slice a7 (l1.length + 1) c7) = w8 at HO8 HX8 HB8 HV8 ⊢
          have q0 : w8.cell? ⟨gq, 0, none⟩ = some (.string m) := Recs.box_cell HV8.out.bq 0
          have q1 : w8.cell? ⟨gq, 1, none⟩ = some (.string u) := Recs.box_cell HV8.out.bq 1
          have q2 : w8.cell? ⟨gq, 2, none⟩ = some (.slice av1 l1.length cv1) := Recs.box_cell HV8.out.bq 2
          have q3 : w8.cell? ⟨gq, 3, none⟩ = some (.string b1) := Recs.box_cell HV8.out.bq 3
          have r0 : w8.cell? ⟨gq + 1, 0, none⟩ = some (.int .i64 st) := Recs.box_cell HV8.out.br 0
          have r1 : w8.cell? ⟨gq + 1, 1, none⟩ = some (.slice av2 l2.length cv2) := Recs.box_cell HV8.out.br 1
          have r2 : w8.cell? ⟨gq + 1, 2, none⟩ = some (.string b2) := Recs.box_cell HV8.out.br 2
          have HC1 := Num.hide (HF1.out _ P w8 (Recs.own_is Flds.cells_len HV8.out.o1) (Recs.own_is Flds.cells_len HV8.out.o2) (Recs.own_is Flds.cells_len HV8.out.op) (by omega) HV8.out.g)
          rw [decide_eq_true (rfl : P = P)] at HC1
          go_wp2_with fail
          refine HC1.out.mono ?_
          rintro e w9 ⟨rfl, hb⟩
          have HV9 := Num.hide (VAt.step HG.out HV8.out hb)
          have HX9 := Num.hide (Recs.row_step HX8.out hb)
          have HO9 := Num.hide (Recs.own_below HO8.out hb)
          clear hb HC1 HV8 HX8 HO8 q0 q1 q2 q3 r0 r1 r2 HF1
          have x0 : w9.cell? ⟨wr.heap.size, 0, none⟩ = some (.string m) := Recs.box_cell HX9.out 0
          have x1 : w9.cell? ⟨wr.heap.size, 1, none⟩ = some (.string u) := Recs.box_cell HX9.out 1
          have x2 : w9.cell? ⟨wr.heap.size, 2, none⟩ = some ((.slice a7 (l1.length + 1) c7)) := Recs.box_cell HX9.out 2
          have x3 : w9.cell? ⟨wr.heap.size, 3, none⟩ = some (.string b1) := Recs.box_cell HX9.out 3
          have r0 : w9.cell? ⟨gq + 1, 0, none⟩ = some (.int .i64 st) := Recs.box_cell HV9.out.br 0
          have r1 : w9.cell? ⟨gq + 1, 1, none⟩ = some (.slice av2 l2.length cv2) := Recs.box_cell HV9.out.br 1
          have r2 : w9.cell? ⟨gq + 1, 2, none⟩ = some (.string b2) := Recs.box_cell HV9.out.br 2
          have HC2 := Num.hide (HF2.out (.slice a7 (l1.length + 1) c7) _ P w9 (Recs.own_is Flds.cells_len HO9.out) (Recs.own_is Flds.cells_len HV9.out.o2) (Recs.own_is Flds.cells_len HV9.out.op) (by omega) HV9.out.g)
          rw [decide_eq_true (rfl : P = P)] at HC2
          go_wp2_with fail
          refine HC2.out.mono ?_
          rintro e w10 ⟨rfl, hb⟩
          have HV10 := Num.hide (VAt.step HG.out HV9.out hb)
          have dl : decide ((P.length : Int) ≤ (N.length : Int)) = true := decide_eq_true (by omega)
          clear hb HC2 HV9 HX9 HO9 x0 x1 x2 x3 r0 r1 r2 HF2
          go_wp2
          go_ret
          exact ⟨rfl, HV10.out.below⟩
end Varies
end Go.Proofs.YtkogcbnbmdeolaaDoor
