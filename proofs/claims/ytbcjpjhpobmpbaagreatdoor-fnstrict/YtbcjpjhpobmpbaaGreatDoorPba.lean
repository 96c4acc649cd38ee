/-
  StrictWalk: FnStrict: with no-store nothing is stored; with no-cache all is looked at; what must be looked at once must be so later: for every draw, of a program whose functions tell what they are to tell.
-/
import Derived.Test.YtbcjpjhpobmpbaaGreatDoorPay
import Derived.Test.YtbcjpjhpobmpbaaGreatDoorPaz
import Derived.Test.YtbcjpjhpobmpbaaGreatDoorPag
import Derived.Test.YtbcjpjhpobmpbaaGreatDoorPaj
import Derived.Deep.Cut
namespace Go.Proofs.YtbcjpjhpobmpbaaGreatDoor
open Go.RowKit
set_option linter.unusedVariables false
set_option linter.unusedSimpArgs false
namespace Strict
open Flds (Fld)
open Draw Pol

theorem code_at {w W : World} {a : Option Addr} {l : List Int} (h : CodeAt w.heap.size w a l) (hb : Below w.heap.size w W) : CodeAt W.heap.size W a l := by
  have h2 := h.below hb
  refine ⟨h2.1, ?_⟩
  rcases h2.2 with h3 | ⟨x, y, h3, h4, h5⟩
  · exact .inl h3
  · exact .inr ⟨x, y, h3, Nat.lt_of_lt_of_le h4 hb.size, h5⟩
theorem base_first {G : World → Prop} {w w1 : World} {q r no look : Array Value} {v1 v2 : Value} {l1 l2 : List Fld} (h1 : Flds.Own w.heap.size w1 v1 l1) (h2 : Flds.Own w.heap.size w1 v2 l2) (g : G w1) (hB : Below w.heap.size w w1) (HG : ∀ W W', G W → Below W.heap.size W W' → G W') :
    Base G w w1.heap.size q r no look v1 v2 l1 l2 ((((w1.alloc (.cells q 32)).alloc (.cells r 35)).alloc (.cells no 47)).alloc (.cells look 47)) := by
  have e1 : (w1.alloc (.cells q 32)).heap.size = w1.heap.size + 1 := by rw [World.size_alloc]
  have e2 : ((w1.alloc (.cells q 32)).alloc (.cells r 35)).heap.size = w1.heap.size + 1 + 1 := by rw [World.size_alloc, e1]
  have e3 : (((w1.alloc (.cells q 32)).alloc (.cells r 35)).alloc (.cells no 47)).heap.size = w1.heap.size + 1 + 1 + 1 := by rw [World.size_alloc, e2]
  have hb : Below w1.heap.size w1 ((((w1.alloc (.cells q 32)).alloc (.cells r 35)).alloc (.cells no 47)).alloc (.cells look 47)) :=
    ((((Below.refl _ _).alloc (Nat.le_refl _) _).alloc (by omega) _).alloc (by omega) _).alloc (by omega) _
  refine ⟨?_, ?_, ?_, ?_, Recs.own_below h1 hb, Recs.own_below h2 hb, HG _ _ g hb, hB.trans (hb.mono hB.size)⟩
  · rw [heap_alloc_old _ _ (by omega), heap_alloc_old _ _ (by omega), heap_alloc_old _ _ (by omega), heap_alloc_new]
  · rw [heap_alloc_old _ _ (by omega), heap_alloc_old _ _ (by omega), ← e1, heap_alloc_new]
  · rw [heap_alloc_old _ _ (by omega), ← e2, heap_alloc_new]
  · rw [← e3, heap_alloc_new]
theorem bulk_one (l : List Fld) (x y : ByteArray) : Flds.bulk (l ++ [(x, y)]) = Flds.bulk l + (1 + x.size + y.size) := by
  unfold Flds.bulk
  simp only [List.length_append, List.length_cons, List.length_nil, List.map_append, List.map_cons, List.map_nil, List.sum_append, List.sum_cons, List.sum_nil]
  omega
set_option maxRecDepth 100000 in
set_option maxHeartbeats 64000000 in
theorem law (G : World → Prop) (HGb : ∀ W W', G W → Below W.heap.size W W' → G W')
    (hSt : ∀ (m u : ByteArray) (st : Int) (v1 v2 : Value) (l1 l2 : List Fld) (b1 b2 : ByteArray) (W : World), Flds.Is W v1 l1 → Flds.Is W v2 l2 → Flds.bulk l1 ≤ 1048576 → Flds.bulk l2 + b2.size ≤ 1048576 → G W →
      Calls Tryz.prog 11 #[Req.val m u v1 b1, Resp.val st v2 b2] W fun e w' => e = .returned (.bool (storable m l1 st l2 b2)) ∧ Below W.heap.size W w')
    (hMu : ∀ (m u : ByteArray) (st : Int) (v1 v2 : Value) (l1 l2 : List Fld) (b1 b2 : ByteArray) (asked came now : Int) (W : World), Flds.Is W v1 l1 → Flds.Is W v2 l2 → Flds.bulk l1 ≤ 1048576 → Flds.bulk l2 + b2.size ≤ 1048576 → 0 ≤ asked → asked ≤ 1000 → 0 ≤ came → came ≤ 1000 → 0 ≤ now → now ≤ 1000 → G W →
      Calls Tryz.prog 15 #[Req.val m u v1 b1, Resp.val st v2 b2, .int .i64 asked, .int .i64 came, .int .i64 now] W fun e w' => e = .returned (.bool (mustCheck l1 l2 asked came now)) ∧ Below W.heap.size W w')
    (hFr : ∀ (st : Int) (v : Value) (l : List Fld) (b : ByteArray) (asked came now : Int) (W : World), Flds.Is W v l → Flds.bulk l + b.size ≤ 1048576 → 0 ≤ asked → asked ≤ 1000 → 0 ≤ came → came ≤ 1000 → 0 ≤ now → now ≤ 1000 → G W →
      Calls Tryz.prog 20 #[Resp.val st v b, .int .i64 asked, .int .i64 came, .int .i64 now] W fun e w' => e = .returned (.bool (Age.isFresh l asked came now)) ∧ Below W.heap.size W w')
    (a : Option Addr) (cap : Nat) (l0 : List Int) (w : World) (hcode : CodeAt w.heap.size w a l0) (hl0 : l0.length ≤ 1048576) (g : G w) :
    Calls Tryz.prog 5 #[.slice a l0.length cap] w fun e w' => e = .returned (.bool true) ∧ Below w.heap.size w w' := by
  have HC := Num.hide hcode
  have HBg := Num.hide (fun W => big_any a l0.length cap W (by omega))
  rw [decide_eq_false (by omega : ¬ (1048576 < (l0.length : Int)))] at HBg
  have HG := Num.hide HGb
  have Hg := Num.hide g
  have HSt := Num.hide hSt
  have HMu := Num.hide hMu
  have HFr := Num.hide hFr
  clear hcode g HGb hSt hMu hFr
  go_enter Tryz.func5, Tryz.ntmps5
  go_wp2_with fail
  refine (HBg.out _).mono ?_
  rintro e w0 ⟨rfl, rfl⟩
  go_wp2_with fail
  refine (drawMust cap a l0 w HC.out hl0).mono ?_
  rintro e w1 ⟨m, u, v1, l1, b1, st, v2, l2, b2, asked, came, now, rfl, hv1, hv2, ⟨hf1, hs1⟩, ⟨hf2, hs2⟩, ⟨hm, hu, hb1, hb2⟩, ha0, ha1, hc0, hc1, hn0, hn1, hB⟩
  have hk1 := hf1.bulk (by omega)
  have hk2 := hf2.bulk (by omega)
  have hn1 := hf1.len
  have hn2 := hf2.len
  have HS1 := Num.hide hs1
  have HS2 := Num.hide hs2
  have HF1 := Num.hide hf1
  have HF2 := Num.hide hf2
  obtain ⟨av1, cv1, hvv⟩ := Recs.own_len hv1
  subst hvv
  obtain ⟨av2, cv2, hvv⟩ := Recs.own_len hv2
  subst hvv
  have HB : Hid (Base G w w1.heap.size #[.string m, .string u, .slice av1 l1.length cv1, .string b1] #[.int .i64 st, .slice av2 l2.length cv2, .string b2] #[.string ⟨#[99, 97, 99, 104, 101, 45, 99, 111, 110, 116, 114, 111, 108]⟩, .string ⟨#[110, 111, 45, 115, 116, 111, 114, 101]⟩] #[.string ⟨#[99, 97, 99, 104, 101, 45, 99, 111, 110, 116, 114, 111, 108]⟩, .string ⟨#[110, 111, 45, 99, 97, 99, 104, 101]⟩] (.slice av1 l1.length cv1) (.slice av2 l2.length cv2) l1 l2 ((((w1.alloc (.cells #[.string m, .string u, .slice av1 l1.length cv1, .string b1] 32)).alloc (.cells #[.int .i64 st, .slice av2 l2.length cv2, .string b2] 35)).alloc (.cells #[.string ⟨#[99, 97, 99, 104, 101, 45, 99, 111, 110, 116, 114, 111, 108]⟩, .string ⟨#[110, 111, 45, 115, 116, 111, 114, 101]⟩] 47)).alloc (.cells #[.string ⟨#[99, 97, 99, 104, 101, 45, 99, 111, 110, 116, 114, 111, 108]⟩, .string ⟨#[110, 111, 45, 99, 97, 99, 104, 101]⟩] 47))) :=
    base_first hv1 hv2 (HG.out _ _ Hg.out hB) hB HG.out
  unfold Req.val Resp.val
  clear hv1 hv2 hf1 hf2 hs1 hs2 hB Hg
  go_upto_region 6 with fail
  generalize (((w1.alloc (.cells #[.string m, .string u, .slice av1 l1.length cv1, .string b1] 32)).alloc (.cells #[.int .i64 st, .slice av2 l2.length cv2, .string b2] 35)).alloc (.cells #[.string ⟨#[99, 97, 99, 104, 101, 45, 99, 111, 110, 116, 114, 111, 108]⟩, .string ⟨#[110, 111, 45, 115, 116, 111, 114, 101]⟩] 47)).alloc (.cells #[.string ⟨#[99, 97, 99, 104, 101, 45, 99, 111, 110, 116, 114, 111, 108]⟩, .string ⟨#[110, 111, 45, 99, 97, 99, 104, 101]⟩] 47) = wj at HB ⊢
  generalize w1.heap.size = gq at HB ⊢
  clear w1
  have HBs := HB
  clear HB
  obtain ⟨c0, c1, c2, c3⟩ := (⟨Recs.box_cell HBs.out.q 0, Recs.box_cell HBs.out.q 1, Recs.box_cell HBs.out.q 2, Recs.box_cell HBs.out.q 3⟩ : wj.cell? ⟨gq, 0, none⟩ = some (.string m) ∧ wj.cell? ⟨gq, 1, none⟩ = some (.string u) ∧ wj.cell? ⟨gq, 2, none⟩ = some (.slice av1 l1.length cv1) ∧ wj.cell? ⟨gq, 3, none⟩ = some (.string b1))
  go_upto_region 7 with fail
  clear c0 c1 c2 c3
  have HM := Num.hide ((mid_first wj #[.string m, .string u, .slice av1 l1.length cv1, .string b1] 32).step (Below.refl _ _).drew)
  go_cut [] from 14 (fun wx => ∃ v, Hid (Got wj #[.string m, .string u, .slice av1 l1.length cv1, .string b1] 2 32 (l1 ++ [(⟨#[99, 97, 99, 104, 101, 45, 99, 111, 110, 116, 114, 111, 108]⟩, ⟨#[110, 111, 45, 115, 116, 111, 114, 101]⟩)]) v wx))
  case first =>
    go_wp2
    refine wp_region_held_drew (S := SM wj 32) (by kernel_rfl) HM.out.mid (fun hHeld => ?_)
    generalize (wj.alloc (.cells #[.string m, .string u, .slice av1 l1.length cv1, .string b1] 32)).drew = wd at HM hHeld ⊢
    refine Reg.take (i := 1) (d := 28) (v := ?_) rfl rfl (by kernel_rfl) (by kernel_rfl) (by kernel_rfl) (fun _ _ _ h => h) (by rfl) ?_ hHeld ?_
    rotate_left
    · rintro X hX
      first | (go_simp; done) | (go_simp; with_reducible rfl)
    simp only [Act.put, List.setIfInBounds_toArray, List.set_cons_zero, List.set_cons_succ]
    refine Reg.take (i := 2) (d := 29) (v := ?_) rfl rfl (by kernel_rfl) (by kernel_rfl) (by kernel_rfl) (fun _ _ _ h => h) (by rfl) ?_ hHeld ?_
    rotate_left
    · rintro X hX
      have c1 := Recs.box_cell ((hX.1.block _ HBs.out.ltq).trans HBs.out.q) 2
      simp only [List.getElem?_toArray, List.getElem?_cons_succ, List.getElem?_cons_zero] at c1
      first | (go_simp; done) | (go_simp; with_reducible rfl)
    simp only [Act.put, List.setIfInBounds_toArray, List.set_cons_zero, List.set_cons_succ]
    refine Reg.take (i := 4) (d := 31) (v := ?_) rfl rfl (by kernel_rfl) (by kernel_rfl) (by kernel_rfl) (fun _ _ _ h => h) (by rfl) ?_ hHeld ?_
    rotate_left
    · rintro X hX
      have c1 := Recs.box_cell ((hX.1.block _ HBs.out.ltno).trans HBs.out.no) 0
      have c2 := Recs.box_cell ((hX.1.block _ HBs.out.ltno).trans HBs.out.no) 1
      simp only [List.getElem?_toArray, List.getElem?_cons_succ, List.getElem?_cons_zero] at c1 c2
      first | (go_simp; done) | (go_simp; with_reducible rfl)
    simp only [Act.put, List.setIfInBounds_toArray, List.set_cons_zero, List.set_cons_succ]
    refine Reg.two (i := 0) (j := 5) rfl rfl (by kernel_rfl) (by rfl) (by rfl) (fun K hK => ?_) (fun K hK => ?_)
    · have HM1 := Num.hide (HM.out.step ((Below.refl wd.heap.size wd).alloc (Nat.le_refl _) (.cells #[] 47)))
      have HE1 := Num.hide (Recs.own_mono (Flds.made_nil wd) (Nat.succ_le_of_lt HM.out.lt))
      go_wp2
      refine hK.out _ _ HM1.out.mid (fun _ => ?_)
      clear hK K
      generalize wd.alloc (.cells #[] 47) = x1 at HM1 HE1 ⊢
      refine Reg.two (i := 3) (j := 5) rfl rfl (by kernel_rfl) (by rfl) (by rfl) (fun K hK => ?_) (fun K hK => ?_)
      · refine Flds.wp_put_all _ _ rfl (wj.heap.size + 1) w.heap.size (.slice (some ⟨wd.heap.size, 0, none⟩) 0 0) [] rfl HE1.out (.slice av1 l1.length cv1) l1 rfl (Recs.own_below HBs.out.o1 HM1.out.below) (by simp only [List.length_nil]; omega) (Nat.succ_le_of_lt HM1.out.lt) ?_
        intro v2 x2 ho hg
        rw [List.nil_append] at ho
        have HM2 := Num.hide (HM1.out.grown hg (fun j hj => (Recs.own_lt HE1.out j hj).1))
        have HP2 := Num.hide ho
        clear ho hg
        refine hK.out _ _ HM2.out.mid (fun _ => ?_)
        clear hK K
        refine Reg.call (i := 5) rfl (by kernel_rfl) (by rfl) (fun K hK => ?_)
        have HM3 := Num.hide (HM2.out.step ((Below.refl x2.heap.size x2).alloc (Nat.le_refl _) (.cells #[.string ⟨#[99, 97, 99, 104, 101, 45, 99, 111, 110, 116, 114, 111, 108]⟩, .string ⟨#[110, 111, 45, 115, 116, 111, 114, 101]⟩] 47)))
        have HP3 := Num.hide (Recs.own_below HP2.out ((Below.refl x2.heap.size x2).alloc (Nat.le_refl _) (.cells #[.string ⟨#[99, 97, 99, 104, 101, 45, 99, 111, 110, 116, 114, 111, 108]⟩, .string ⟨#[110, 111, 45, 115, 116, 111, 114, 101]⟩] 47)))
        have HD3 : Hid (Flds.Own (wj.heap.size + 1) (x2.alloc (.cells #[.string ⟨#[99, 97, 99, 104, 101, 45, 99, 111, 110, 116, 114, 111, 108]⟩, .string ⟨#[110, 111, 45, 115, 116, 111, 114, 101]⟩] 47)) (.slice (some ⟨x2.heap.size, 0, none⟩) 1 1) [(⟨#[99, 97, 99, 104, 101, 45, 99, 111, 110, 116, 114, 111, 108]⟩, ⟨#[110, 111, 45, 115, 116, 111, 114, 101]⟩)]) := World.ownsRow_lit x2 _ 1 (Nat.succ_le_of_lt HM2.out.lt) (by decide) rfl
        go_wp2
        refine hK.out _ _ HM3.out.mid (fun _ => ?_)
        clear hK K
        generalize x2.alloc (.cells #[.string ⟨#[99, 97, 99, 104, 101, 45, 99, 111, 110, 116, 114, 111, 108]⟩, .string ⟨#[110, 111, 45, 115, 116, 111, 114, 101]⟩] 47) = x3 at HM3 HP3 HD3 ⊢
        refine Reg.call (i := 6) rfl (by kernel_rfl) (by rfl) (fun K hK => ?_)
        refine Flds.wp_put_all _ _ rfl (wj.heap.size + 1) (wj.heap.size + 1) v2 l1 rfl HP3.out (.slice (some ⟨x2.heap.size, 0, none⟩) 1 1) [(⟨#[99, 97, 99, 104, 101, 45, 99, 111, 110, 116, 114, 111, 108]⟩, ⟨#[110, 111, 45, 115, 116, 111, 114, 101]⟩)] rfl HD3.out (by simp only [List.length_cons, List.length_nil]; omega) (Nat.succ_le_of_lt HM3.out.lt) ?_
        intro v4 x4 ho hg
        have HM4 := Num.hide (HM3.out.grown hg (fun j hj => by have := (Recs.own_lt HP3.out j hj).1; omega))
        have HP4 := Num.hide ho
        clear ho hg
        refine hK.out _ _ HM4.out.mid (fun _ => ?_)
        clear hK K
        refine Reg.take (i := 7) (d := 34) (v := ?_) rfl rfl (by kernel_rfl) (by kernel_rfl) (by kernel_rfl) (fun _ _ _ h => h) (by rfl) ?_ HM4.out.mid ?_
        rotate_left
        · rintro X hX
          first | (go_simp; done) | (go_simp; with_reducible rfl)
        simp only [Act.put, List.setIfInBounds_toArray, List.set_cons_zero, List.set_cons_succ]
        refine Reg.call (i := 8) rfl (by kernel_rfl) (by rfl) (fun K hK => ?_)
        obtain ⟨a6, q6, hv6⟩ := Recs.own_len HP4.out
        subst hv6
        have HR := Num.hide (Got.mk' HM4.out 2 HP4.out)
        rw [List.length_append, List.length_singleton] at HR
        have k1 := Recs.box_cell HM4.out.box 2
        have z1 := Recs.box_thaw HM4.out.box 2
        simp only [List.getElem?_toArray, List.getElem?_cons_succ, List.getElem?_cons_zero] at k1
        go_wp2
        refine hK.out _ _ (HR.out.mid) (fun _ => ?_)
        clear hK K
        refine wpAnyH_done (by kernel_rfl) ?_ _
        clear k1 z1
        go_wp2
        go_meet
        case rel => exact ⟨_, HR⟩
      · have HM2 := Num.hide (HM1.out.step ((Below.refl x1.heap.size x1).alloc (Nat.le_refl _) (.cells #[.string ⟨#[99, 97, 99, 104, 101, 45, 99, 111, 110, 116, 114, 111, 108]⟩, .string ⟨#[110, 111, 45, 115, 116, 111, 114, 101]⟩] 47)))
        have HE2 := Num.hide (Recs.own_below HE1.out ((Below.refl x1.heap.size x1).alloc (Nat.le_refl _) (.cells #[.string ⟨#[99, 97, 99, 104, 101, 45, 99, 111, 110, 116, 114, 111, 108]⟩, .string ⟨#[110, 111, 45, 115, 116, 111, 114, 101]⟩] 47)))
        have HD2 : Hid (Flds.Own (wj.heap.size + 1) (x1.alloc (.cells #[.string ⟨#[99, 97, 99, 104, 101, 45, 99, 111, 110, 116, 114, 111, 108]⟩, .string ⟨#[110, 111, 45, 115, 116, 111, 114, 101]⟩] 47)) (.slice (some ⟨x1.heap.size, 0, none⟩) 1 1) [(⟨#[99, 97, 99, 104, 101, 45, 99, 111, 110, 116, 114, 111, 108]⟩, ⟨#[110, 111, 45, 115, 116, 111, 114, 101]⟩)]) := World.ownsRow_lit x1 _ 1 (Nat.succ_le_of_lt HM1.out.lt) (by decide) rfl
        have hne : x1.heap.size ≠ wd.heap.size := fun e => by have := (Recs.own_lt HE1.out wd.heap.size rfl).2; omega
        go_wp2
        refine hK.out _ _ HM2.out.mid (fun _ => ?_)
        clear hK K
        generalize x1.alloc (.cells #[.string ⟨#[99, 97, 99, 104, 101, 45, 99, 111, 110, 116, 114, 111, 108]⟩, .string ⟨#[110, 111, 45, 115, 116, 111, 114, 101]⟩] 47) = x2 at HM2 HE2 HD2 ⊢
        refine Reg.call (i := 3) rfl (by kernel_rfl) (by rfl) (fun K hK => ?_)
        refine Flds.wp_put_all _ _ rfl (wj.heap.size + 1) w.heap.size (.slice (some ⟨wd.heap.size, 0, none⟩) 0 0) [] rfl HE2.out (.slice av1 l1.length cv1) l1 rfl (Recs.own_below HBs.out.o1 HM2.out.below) (by simp only [List.length_nil]; omega) (Nat.succ_le_of_lt HM2.out.lt) ?_
        intro v3 x3 ho hg
        rw [List.nil_append] at ho
        have HM3 := Num.hide (HM2.out.grown hg (fun j hj => (Recs.own_lt HE2.out j hj).1))
        have HP3 := Num.hide ho
        have HD3 := Num.hide (Recs.own_kept HD2.out hg (.inr (fun e => hne (Option.some.inj e))))
        clear ho hg
        refine hK.out _ _ HM3.out.mid (fun _ => ?_)
        clear hK K
        refine Reg.call (i := 6) rfl (by kernel_rfl) (by rfl) (fun K hK => ?_)
        refine Flds.wp_put_all _ _ rfl (wj.heap.size + 1) (wj.heap.size + 1) v3 l1 rfl HP3.out (.slice (some ⟨x1.heap.size, 0, none⟩) 1 1) [(⟨#[99, 97, 99, 104, 101, 45, 99, 111, 110, 116, 114, 111, 108]⟩, ⟨#[110, 111, 45, 115, 116, 111, 114, 101]⟩)] rfl HD3.out (by simp only [List.length_cons, List.length_nil]; omega) (Nat.succ_le_of_lt HM3.out.lt) ?_
        intro v4 x4 ho hg
        have HM4 := Num.hide (HM3.out.grown hg (fun j hj => by have := (Recs.own_lt HP3.out j hj).1; omega))
        have HP4 := Num.hide ho
        clear ho hg
        refine hK.out _ _ HM4.out.mid (fun _ => ?_)
        clear hK K
        refine Reg.take (i := 7) (d := 34) (v := ?_) rfl rfl (by kernel_rfl) (by kernel_rfl) (by kernel_rfl) (fun _ _ _ h => h) (by rfl) ?_ HM4.out.mid ?_
        rotate_left
        · rintro X hX
          first | (go_simp; done) | (go_simp; with_reducible rfl)
        simp only [Act.put, List.setIfInBounds_toArray, List.set_cons_zero, List.set_cons_succ]
        refine Reg.call (i := 8) rfl (by kernel_rfl) (by rfl) (fun K hK => ?_)
        obtain ⟨a6, q6, hv6⟩ := Recs.own_len HP4.out
        subst hv6
        have HR := Num.hide (Got.mk' HM4.out 2 HP4.out)
        rw [List.length_append, List.length_singleton] at HR
        have k1 := Recs.box_cell HM4.out.box 2
        have z1 := Recs.box_thaw HM4.out.box 2
        simp only [List.getElem?_toArray, List.getElem?_cons_succ, List.getElem?_cons_zero] at k1
        go_wp2
        refine hK.out _ _ (HR.out.mid) (fun _ => ?_)
        clear hK K
        refine wpAnyH_done (by kernel_rfl) ?_ _
        clear k1 z1
        go_wp2
        go_meet
        case rel => exact ⟨_, HR⟩
    · have HM1 := Num.hide (HM.out.step ((Below.refl wd.heap.size wd).alloc (Nat.le_refl _) (.cells #[.string ⟨#[99, 97, 99, 104, 101, 45, 99, 111, 110, 116, 114, 111, 108]⟩, .string ⟨#[110, 111, 45, 115, 116, 111, 114, 101]⟩] 47)))
      have HD1 : Hid (Flds.Own (wj.heap.size + 1) (wd.alloc (.cells #[.string ⟨#[99, 97, 99, 104, 101, 45, 99, 111, 110, 116, 114, 111, 108]⟩, .string ⟨#[110, 111, 45, 115, 116, 111, 114, 101]⟩] 47)) (.slice (some ⟨wd.heap.size, 0, none⟩) 1 1) [(⟨#[99, 97, 99, 104, 101, 45, 99, 111, 110, 116, 114, 111, 108]⟩, ⟨#[110, 111, 45, 115, 116, 111, 114, 101]⟩)]) := World.ownsRow_lit wd _ 1 (Nat.succ_le_of_lt HM.out.lt) (by decide) rfl
      go_wp2
      refine hK.out _ _ HM1.out.mid (fun _ => ?_)
      clear hK K
      generalize wd.alloc (.cells #[.string ⟨#[99, 97, 99, 104, 101, 45, 99, 111, 110, 116, 114, 111, 108]⟩, .string ⟨#[110, 111, 45, 115, 116, 111, 114, 101]⟩] 47) = x1 at HM1 HD1 ⊢
      refine Reg.call (i := 0) rfl (by kernel_rfl) (by rfl) (fun K hK => ?_)
      have HM2 := Num.hide (HM1.out.step ((Below.refl x1.heap.size x1).alloc (Nat.le_refl _) (.cells #[] 47)))
      have HD2 := Num.hide (Recs.own_below HD1.out ((Below.refl x1.heap.size x1).alloc (Nat.le_refl _) (.cells #[] 47)))
      have HE2 := Num.hide (Recs.own_mono (Flds.made_nil x1) (Nat.succ_le_of_lt HM1.out.lt))
      have hne : wd.heap.size ≠ x1.heap.size := fun e => by have := (Recs.own_lt HD1.out wd.heap.size rfl).2; omega
      go_wp2
      refine hK.out _ _ HM2.out.mid (fun _ => ?_)
      clear hK K
      generalize x1.alloc (.cells #[] 47) = x2 at HM2 HD2 HE2 ⊢
      refine Reg.call (i := 3) rfl (by kernel_rfl) (by rfl) (fun K hK => ?_)
      refine Flds.wp_put_all _ _ rfl (wj.heap.size + 1) w.heap.size (.slice (some ⟨x1.heap.size, 0, none⟩) 0 0) [] rfl HE2.out (.slice av1 l1.length cv1) l1 rfl (Recs.own_below HBs.out.o1 HM2.out.below) (by simp only [List.length_nil]; omega) (Nat.succ_le_of_lt HM2.out.lt) ?_
      intro v3 x3 ho hg
      rw [List.nil_append] at ho
      have HM3 := Num.hide (HM2.out.grown hg (fun j hj => (Recs.own_lt HE2.out j hj).1))
      have HP3 := Num.hide ho
      have HD3 := Num.hide (Recs.own_kept HD2.out hg (.inr (fun e => hne (Option.some.inj e))))
      clear ho hg
      refine hK.out _ _ HM3.out.mid (fun _ => ?_)
      clear hK K
      refine Reg.call (i := 6) rfl (by kernel_rfl) (by rfl) (fun K hK => ?_)
      refine Flds.wp_put_all _ _ rfl (wj.heap.size + 1) (wj.heap.size + 1) v3 l1 rfl HP3.out (.slice (some ⟨wd.heap.size, 0, none⟩) 1 1) [(⟨#[99, 97, 99, 104, 101, 45, 99, 111, 110, 116, 114, 111, 108]⟩, ⟨#[110, 111, 45, 115, 116, 111, 114, 101]⟩)] rfl HD3.out (by simp only [List.length_cons, List.length_nil]; omega) (Nat.succ_le_of_lt HM3.out.lt) ?_
      intro v4 x4 ho hg
      have HM4 := Num.hide (HM3.out.grown hg (fun j hj => by have := (Recs.own_lt HP3.out j hj).1; omega))
      have HP4 := Num.hide ho
      clear ho hg
      refine hK.out _ _ HM4.out.mid (fun _ => ?_)
      clear hK K
      refine Reg.take (i := 7) (d := 34) (v := ?_) rfl rfl (by kernel_rfl) (by kernel_rfl) (by kernel_rfl) (fun _ _ _ h => h) (by rfl) ?_ HM4.out.mid ?_
      rotate_left
      · rintro X hX
        first | (go_simp; done) | (go_simp; with_reducible rfl)
      simp only [Act.put, List.setIfInBounds_toArray, List.set_cons_zero, List.set_cons_succ]
      refine Reg.call (i := 8) rfl (by kernel_rfl) (by rfl) (fun K hK => ?_)
      obtain ⟨a6, q6, hv6⟩ := Recs.own_len HP4.out
      subst hv6
      have HR := Num.hide (Got.mk' HM4.out 2 HP4.out)
      rw [List.length_append, List.length_singleton] at HR
      have k1 := Recs.box_cell HM4.out.box 2
      have z1 := Recs.box_thaw HM4.out.box 2
      simp only [List.getElem?_toArray, List.getElem?_cons_succ, List.getElem?_cons_zero] at k1
      go_wp2
      refine hK.out _ _ (HR.out.mid) (fun _ => ?_)
      clear hK K
      refine wpAnyH_done (by kernel_rfl) ?_ _
      clear k1 z1
      go_wp2
      go_meet
      case rel => exact ⟨_, HR⟩
  case rest =>
  obtain ⟨va, HR⟩ := hcut
  have HBn := Num.hide (Base.step HG.out HBs.out HR.out.below)
  have HXa : Hid (Bx wj.heap.size #[.string m, .string u, va, .string b1] 32 (l1 ++ [(⟨#[99, 97, 99, 104, 101, 45, 99, 111, 110, 116, 114, 111, 108]⟩, ⟨#[110, 111, 45, 115, 116, 111, 114, 101]⟩)]) va wc) := HR.out.bx
  clear HM HR HBs
  generalize wj.heap.size = ga at HXa ⊢
  clear wj
  obtain ⟨wj, rfl⟩ : ∃ x, x = wc := ⟨_, rfl⟩
  have HBs := HBn
  clear HBn
  obtain ⟨c0, c1, c2⟩ := (⟨Recs.box_cell HBs.out.r 0, Recs.box_cell HBs.out.r 1, Recs.box_cell HBs.out.r 2⟩ : wj.cell? ⟨gq + 1, 0, none⟩ = some (.int .i64 st) ∧ wj.cell? ⟨gq + 1, 1, none⟩ = some (.slice av2 l2.length cv2) ∧ wj.cell? ⟨gq + 1, 2, none⟩ = some (.string b2))
  go_upto_region 9 with fail
  clear c0 c1 c2
  have HM := Num.hide ((mid_first wj #[.int .i64 st, .slice av2 l2.length cv2, .string b2] 35).step (Below.refl _ _).drew)
  go_cut [] from 14 (fun wx => ∃ v, Hid (Got wj #[.int .i64 st, .slice av2 l2.length cv2, .string b2] 1 35 (l2 ++ [(⟨#[99, 97, 99, 104, 101, 45, 99, 111, 110, 116, 114, 111, 108]⟩, ⟨#[110, 111, 45, 115, 116, 111, 114, 101]⟩)]) v wx))
  case first =>
    go_wp2
    refine wp_region_held_drew (S := SM wj 35) (by kernel_rfl) HM.out.mid (fun hHeld => ?_)
    generalize (wj.alloc (.cells #[.int .i64 st, .slice av2 l2.length cv2, .string b2] 35)).drew = wd at HM hHeld ⊢
    refine Reg.take (i := 1) (d := 37) (v := ?_) rfl rfl (by kernel_rfl) (by kernel_rfl) (by kernel_rfl) (fun _ _ _ h => h) (by rfl) ?_ hHeld ?_
    rotate_left
    · rintro X hX
      first | (go_simp; done) | (go_simp; with_reducible rfl)
    simp only [Act.put, List.setIfInBounds_toArray, List.set_cons_zero, List.set_cons_succ]
    refine Reg.take (i := 2) (d := 38) (v := ?_) rfl rfl (by kernel_rfl) (by kernel_rfl) (by kernel_rfl) (fun _ _ _ h => h) (by rfl) ?_ hHeld ?_
    rotate_left
    · rintro X hX
      have c1 := Recs.box_cell ((hX.1.block _ HBs.out.ltr).trans HBs.out.r) 1
      simp only [List.getElem?_toArray, List.getElem?_cons_succ, List.getElem?_cons_zero] at c1
      first | (go_simp; done) | (go_simp; with_reducible rfl)
    simp only [Act.put, List.setIfInBounds_toArray, List.set_cons_zero, List.set_cons_succ]
    refine Reg.take (i := 4) (d := 40) (v := ?_) rfl rfl (by kernel_rfl) (by kernel_rfl) (by kernel_rfl) (fun _ _ _ h => h) (by rfl) ?_ hHeld ?_
    rotate_left
    · rintro X hX
      have c1 := Recs.box_cell ((hX.1.block _ HBs.out.ltno).trans HBs.out.no) 0
      have c2 := Recs.box_cell ((hX.1.block _ HBs.out.ltno).trans HBs.out.no) 1
      simp only [List.getElem?_toArray, List.getElem?_cons_succ, List.getElem?_cons_zero] at c1 c2
      first | (go_simp; done) | (go_simp; with_reducible rfl)
    simp only [Act.put, List.setIfInBounds_toArray, List.set_cons_zero, List.set_cons_succ]
    refine Reg.two (i := 0) (j := 5) rfl rfl (by kernel_rfl) (by rfl) (by rfl) (fun K hK => ?_) (fun K hK => ?_)
    · have HM1 := Num.hide (HM.out.step ((Below.refl wd.heap.size wd).alloc (Nat.le_refl _) (.cells #[] 47)))
      have HE1 := Num.hide (Recs.own_mono (Flds.made_nil wd) (Nat.succ_le_of_lt HM.out.lt))
      go_wp2
      refine hK.out _ _ HM1.out.mid (fun _ => ?_)
      clear hK K
      generalize wd.alloc (.cells #[] 47) = x1 at HM1 HE1 ⊢
      refine Reg.two (i := 3) (j := 5) rfl rfl (by kernel_rfl) (by rfl) (by rfl) (fun K hK => ?_) (fun K hK => ?_)
      · refine Flds.wp_put_all _ _ rfl (wj.heap.size + 1) w.heap.size (.slice (some ⟨wd.heap.size, 0, none⟩) 0 0) [] rfl HE1.out (.slice av2 l2.length cv2) l2 rfl (Recs.own_below HBs.out.o2 HM1.out.below) (by simp only [List.length_nil]; omega) (Nat.succ_le_of_lt HM1.out.lt) ?_
        intro v2 x2 ho hg
        rw [List.nil_append] at ho
        have HM2 := Num.hide (HM1.out.grown hg (fun j hj => (Recs.own_lt HE1.out j hj).1))
        have HP2 := Num.hide ho
        clear ho hg
        refine hK.out _ _ HM2.out.mid (fun _ => ?_)
        clear hK K
        refine Reg.call (i := 5) rfl (by kernel_rfl) (by rfl) (fun K hK => ?_)
        have HM3 := Num.hide (HM2.out.step ((Below.refl x2.heap.size x2).alloc (Nat.le_refl _) (.cells #[.string ⟨#[99, 97, 99, 104, 101, 45, 99, 111, 110, 116, 114, 111, 108]⟩, .string ⟨#[110, 111, 45, 115, 116, 111, 114, 101]⟩] 47)))
        have HP3 := Num.hide (Recs.own_below HP2.out ((Below.refl x2.heap.size x2).alloc (Nat.le_refl _) (.cells #[.string ⟨#[99, 97, 99, 104, 101, 45, 99, 111, 110, 116, 114, 111, 108]⟩, .string ⟨#[110, 111, 45, 115, 116, 111, 114, 101]⟩] 47)))
        have HD3 : Hid (Flds.Own (wj.heap.size + 1) (x2.alloc (.cells #[.string ⟨#[99, 97, 99, 104, 101, 45, 99, 111, 110, 116, 114, 111, 108]⟩, .string ⟨#[110, 111, 45, 115, 116, 111, 114, 101]⟩] 47)) (.slice (some ⟨x2.heap.size, 0, none⟩) 1 1) [(⟨#[99, 97, 99, 104, 101, 45, 99, 111, 110, 116, 114, 111, 108]⟩, ⟨#[110, 111, 45, 115, 116, 111, 114, 101]⟩)]) := World.ownsRow_lit x2 _ 1 (Nat.succ_le_of_lt HM2.out.lt) (by decide) rfl
        go_wp2
        refine hK.out _ _ HM3.out.mid (fun _ => ?_)
        clear hK K
        generalize x2.alloc (.cells #[.string ⟨#[99, 97, 99, 104, 101, 45, 99, 111, 110, 116, 114, 111, 108]⟩, .string ⟨#[110, 111, 45, 115, 116, 111, 114, 101]⟩] 47) = x3 at HM3 HP3 HD3 ⊢
        refine Reg.call (i := 6) rfl (by kernel_rfl) (by rfl) (fun K hK => ?_)
        refine Flds.wp_put_all _ _ rfl (wj.heap.size + 1) (wj.heap.size + 1) v2 l2 rfl HP3.out (.slice (some ⟨x2.heap.size, 0, none⟩) 1 1) [(⟨#[99, 97, 99, 104, 101, 45, 99, 111, 110, 116, 114, 111, 108]⟩, ⟨#[110, 111, 45, 115, 116, 111, 114, 101]⟩)] rfl HD3.out (by simp only [List.length_cons, List.length_nil]; omega) (Nat.succ_le_of_lt HM3.out.lt) ?_
        intro v4 x4 ho hg
        have HM4 := Num.hide (HM3.out.grown hg (fun j hj => by have := (Recs.own_lt HP3.out j hj).1; omega))
        have HP4 := Num.hide ho
        clear ho hg
        refine hK.out _ _ HM4.out.mid (fun _ => ?_)
        clear hK K
        refine Reg.take (i := 7) (d := 43) (v := ?_) rfl rfl (by kernel_rfl) (by kernel_rfl) (by kernel_rfl) (fun _ _ _ h => h) (by rfl) ?_ HM4.out.mid ?_
        rotate_left
        · rintro X hX
          first | (go_simp; done) | (go_simp; with_reducible rfl)
        simp only [Act.put, List.setIfInBounds_toArray, List.set_cons_zero, List.set_cons_succ]
        refine Reg.call (i := 8) rfl (by kernel_rfl) (by rfl) (fun K hK => ?_)
        obtain ⟨a6, q6, hv6⟩ := Recs.own_len HP4.out
        subst hv6
        have HR := Num.hide (Got.mk' HM4.out 1 HP4.out)
        rw [List.length_append, List.length_singleton] at HR
        have k1 := Recs.box_cell HM4.out.box 1
        have z1 := Recs.box_thaw HM4.out.box 1
        simp only [List.getElem?_toArray, List.getElem?_cons_succ, List.getElem?_cons_zero] at k1
        go_wp2
        refine hK.out _ _ (HR.out.mid) (fun _ => ?_)
        clear hK K
        refine wpAnyH_done (by kernel_rfl) ?_ _
        clear k1 z1
        go_wp2
        go_meet
        case rel => exact ⟨_, HR⟩
      · have HM2 := Num.hide (HM1.out.step ((Below.refl x1.heap.size x1).alloc (Nat.le_refl _) (.cells #[.string ⟨#[99, 97, 99, 104, 101, 45, 99, 111, 110, 116, 114, 111, 108]⟩, .string ⟨#[110, 111, 45, 115, 116, 111, 114, 101]⟩] 47)))
        have HE2 := Num.hide (Recs.own_below HE1.out ((Below.refl x1.heap.size x1).alloc (Nat.le_refl _) (.cells #[.string ⟨#[99, 97, 99, 104, 101, 45, 99, 111, 110, 116, 114, 111, 108]⟩, .string ⟨#[110, 111, 45, 115, 116, 111, 114, 101]⟩] 47)))
        have HD2 : Hid (Flds.Own (wj.heap.size + 1) (x1.alloc (.cells #[.string ⟨#[99, 97, 99, 104, 101, 45, 99, 111, 110, 116, 114, 111, 108]⟩, .string ⟨#[110, 111, 45, 115, 116, 111, 114, 101]⟩] 47)) (.slice (some ⟨x1.heap.size, 0, none⟩) 1 1) [(⟨#[99, 97, 99, 104, 101, 45, 99, 111, 110, 116, 114, 111, 108]⟩, ⟨#[110, 111, 45, 115, 116, 111, 114, 101]⟩)]) := World.ownsRow_lit x1 _ 1 (Nat.succ_le_of_lt HM1.out.lt) (by decide) rfl
        have hne : x1.heap.size ≠ wd.heap.size := fun e => by have := (Recs.own_lt HE1.out wd.heap.size rfl).2; omega
        go_wp2
        refine hK.out _ _ HM2.out.mid (fun _ => ?_)
        clear hK K
        generalize x1.alloc (.cells #[.string ⟨#[99, 97, 99, 104, 101, 45, 99, 111, 110, 116, 114, 111, 108]⟩, .string ⟨#[110, 111, 45, 115, 116, 111, 114, 101]⟩] 47) = x2 at HM2 HE2 HD2 ⊢
        refine Reg.call (i := 3) rfl (by kernel_rfl) (by rfl) (fun K hK => ?_)
        refine Flds.wp_put_all _ _ rfl (wj.heap.size + 1) w.heap.size (.slice (some ⟨wd.heap.size, 0, none⟩) 0 0) [] rfl HE2.out (.slice av2 l2.length cv2) l2 rfl (Recs.own_below HBs.out.o2 HM2.out.below) (by simp only [List.length_nil]; omega) (Nat.succ_le_of_lt HM2.out.lt) ?_
        intro v3 x3 ho hg
        rw [List.nil_append] at ho
        have HM3 := Num.hide (HM2.out.grown hg (fun j hj => (Recs.own_lt HE2.out j hj).1))
        have HP3 := Num.hide ho
        have HD3 := Num.hide (Recs.own_kept HD2.out hg (.inr (fun e => hne (Option.some.inj e))))
        clear ho hg
        refine hK.out _ _ HM3.out.mid (fun _ => ?_)
        clear hK K
        refine Reg.call (i := 6) rfl (by kernel_rfl) (by rfl) (fun K hK => ?_)
        refine Flds.wp_put_all _ _ rfl (wj.heap.size + 1) (wj.heap.size + 1) v3 l2 rfl HP3.out (.slice (some ⟨x1.heap.size, 0, none⟩) 1 1) [(⟨#[99, 97, 99, 104, 101, 45, 99, 111, 110, 116, 114, 111, 108]⟩, ⟨#[110, 111, 45, 115, 116, 111, 114, 101]⟩)] rfl HD3.out (by simp only [List.length_cons, List.length_nil]; omega) (Nat.succ_le_of_lt HM3.out.lt) ?_
        intro v4 x4 ho hg
        have HM4 := Num.hide (HM3.out.grown hg (fun j hj => by have := (Recs.own_lt HP3.out j hj).1; omega))
        have HP4 := Num.hide ho
        clear ho hg
        refine hK.out _ _ HM4.out.mid (fun _ => ?_)
        clear hK K
        refine Reg.take (i := 7) (d := 43) (v := ?_) rfl rfl (by kernel_rfl) (by kernel_rfl) (by kernel_rfl) (fun _ _ _ h => h) (by rfl) ?_ HM4.out.mid ?_
        rotate_left
        · rintro X hX
          first | (go_simp; done) | (go_simp; with_reducible rfl)
        simp only [Act.put, List.setIfInBounds_toArray, List.set_cons_zero, List.set_cons_succ]
        refine Reg.call (i := 8) rfl (by kernel_rfl) (by rfl) (fun K hK => ?_)
        obtain ⟨a6, q6, hv6⟩ := Recs.own_len HP4.out
        subst hv6
        have HR := Num.hide (Got.mk' HM4.out 1 HP4.out)
        rw [List.length_append, List.length_singleton] at HR
        have k1 := Recs.box_cell HM4.out.box 1
        have z1 := Recs.box_thaw HM4.out.box 1
        simp only [List.getElem?_toArray, List.getElem?_cons_succ, List.getElem?_cons_zero] at k1
        go_wp2
        refine hK.out _ _ (HR.out.mid) (fun _ => ?_)
        clear hK K
        refine wpAnyH_done (by kernel_rfl) ?_ _
        clear k1 z1
        go_wp2
        go_meet
        case rel => exact ⟨_, HR⟩
    · have HM1 := Num.hide (HM.out.step ((Below.refl wd.heap.size wd).alloc (Nat.le_refl _) (.cells #[.string ⟨#[99, 97, 99, 104, 101, 45, 99, 111, 110, 116, 114, 111, 108]⟩, .string ⟨#[110, 111, 45, 115, 116, 111, 114, 101]⟩] 47)))
      have HD1 : Hid (Flds.Own (wj.heap.size + 1) (wd.alloc (.cells #[.string ⟨#[99, 97, 99, 104, 101, 45, 99, 111, 110, 116, 114, 111, 108]⟩, .string ⟨#[110, 111, 45, 115, 116, 111, 114, 101]⟩] 47)) (.slice (some ⟨wd.heap.size, 0, none⟩) 1 1) [(⟨#[99, 97, 99, 104, 101, 45, 99, 111, 110, 116, 114, 111, 108]⟩, ⟨#[110, 111, 45, 115, 116, 111, 114, 101]⟩)]) := World.ownsRow_lit wd _ 1 (Nat.succ_le_of_lt HM.out.lt) (by decide) rfl
      go_wp2
      refine hK.out _ _ HM1.out.mid (fun _ => ?_)
      clear hK K
      generalize wd.alloc (.cells #[.string ⟨#[99, 97, 99, 104, 101, 45, 99, 111, 110, 116, 114, 111, 108]⟩, .string ⟨#[110, 111, 45, 115, 116, 111, 114, 101]⟩] 47) = x1 at HM1 HD1 ⊢
      refine Reg.call (i := 0) rfl (by kernel_rfl) (by rfl) (fun K hK => ?_)
      have HM2 := Num.hide (HM1.out.step ((Below.refl x1.heap.size x1).alloc (Nat.le_refl _) (.cells #[] 47)))
      have HD2 := Num.hide (Recs.own_below HD1.out ((Below.refl x1.heap.size x1).alloc (Nat.le_refl _) (.cells #[] 47)))
      have HE2 := Num.hide (Recs.own_mono (Flds.made_nil x1) (Nat.succ_le_of_lt HM1.out.lt))
      have hne : wd.heap.size ≠ x1.heap.size := fun e => by have := (Recs.own_lt HD1.out wd.heap.size rfl).2; omega
      go_wp2
      refine hK.out _ _ HM2.out.mid (fun _ => ?_)
      clear hK K
      generalize x1.alloc (.cells #[] 47) = x2 at HM2 HD2 HE2 ⊢
      refine Reg.call (i := 3) rfl (by kernel_rfl) (by rfl) (fun K hK => ?_)
      refine Flds.wp_put_all _ _ rfl (wj.heap.size + 1) w.heap.size (.slice (some ⟨x1.heap.size, 0, none⟩) 0 0) [] rfl HE2.out (.slice av2 l2.length cv2) l2 rfl (Recs.own_below HBs.out.o2 HM2.out.below) (by simp only [List.length_nil]; omega) (Nat.succ_le_of_lt HM2.out.lt) ?_
      intro v3 x3 ho hg
      rw [List.nil_append] at ho
      have HM3 := Num.hide (HM2.out.grown hg (fun j hj => (Recs.own_lt HE2.out j hj).1))
      have HP3 := Num.hide ho
      have HD3 := Num.hide (Recs.own_kept HD2.out hg (.inr (fun e => hne (Option.some.inj e))))
      clear ho hg
      refine hK.out _ _ HM3.out.mid (fun _ => ?_)
      clear hK K
      refine Reg.call (i := 6) rfl (by kernel_rfl) (by rfl) (fun K hK => ?_)
      refine Flds.wp_put_all _ _ rfl (wj.heap.size + 1) (wj.heap.size + 1) v3 l2 rfl HP3.out (.slice (some ⟨wd.heap.size, 0, none⟩) 1 1) [(⟨#[99, 97, 99, 104, 101, 45, 99, 111, 110, 116, 114, 111, 108]⟩, ⟨#[110, 111, 45, 115, 116, 111, 114, 101]⟩)] rfl HD3.out (by simp only [List.length_cons, List.length_nil]; omega) (Nat.succ_le_of_lt HM3.out.lt) ?_
      intro v4 x4 ho hg
      have HM4 := Num.hide (HM3.out.grown hg (fun j hj => by have := (Recs.own_lt HP3.out j hj).1; omega))
      have HP4 := Num.hide ho
      clear ho hg
      refine hK.out _ _ HM4.out.mid (fun _ => ?_)
      clear hK K
      refine Reg.take (i := 7) (d := 43) (v := ?_) rfl rfl (by kernel_rfl) (by kernel_rfl) (by kernel_rfl) (fun _ _ _ h => h) (by rfl) ?_ HM4.out.mid ?_
      rotate_left
      · rintro X hX
        first | (go_simp; done) | (go_simp; with_reducible rfl)
      simp only [Act.put, List.setIfInBounds_toArray, List.set_cons_zero, List.set_cons_succ]
      refine Reg.call (i := 8) rfl (by kernel_rfl) (by rfl) (fun K hK => ?_)
      obtain ⟨a6, q6, hv6⟩ := Recs.own_len HP4.out
      subst hv6
      have HR := Num.hide (Got.mk' HM4.out 1 HP4.out)
      rw [List.length_append, List.length_singleton] at HR
      have k1 := Recs.box_cell HM4.out.box 1
      have z1 := Recs.box_thaw HM4.out.box 1
      simp only [List.getElem?_toArray, List.getElem?_cons_succ, List.getElem?_cons_zero] at k1
      go_wp2
      refine hK.out _ _ (HR.out.mid) (fun _ => ?_)
      clear hK K
      refine wpAnyH_done (by kernel_rfl) ?_ _
      clear k1 z1
      go_wp2
      go_meet
      case rel => exact ⟨_, HR⟩
  case rest =>
  obtain ⟨vb, HR⟩ := hcut
  have HBn := Num.hide (Base.step HG.out HBs.out HR.out.below)
  have HXb : Hid (Bx wj.heap.size #[.int .i64 st, vb, .string b2] 35 (l2 ++ [(⟨#[99, 97, 99, 104, 101, 45, 99, 111, 110, 116, 114, 111, 108]⟩, ⟨#[110, 111, 45, 115, 116, 111, 114, 101]⟩)]) vb wc) := HR.out.bx
  have HNa := Num.hide (Bx.step HXa.out HR.out.below)
  clear HM HR HBs HXa
  generalize wj.heap.size = gb at HXb ⊢
  clear wj
  obtain ⟨wj, rfl⟩ : ∃ x, x = wc := ⟨_, rfl⟩
  have HBs := HBn
  have HXa := HNa
  clear HBn HNa
  obtain ⟨c0, c1, c2, c3⟩ := (⟨Recs.box_cell HBs.out.q 0, Recs.box_cell HBs.out.q 1, Recs.box_cell HBs.out.q 2, Recs.box_cell HBs.out.q 3⟩ : wj.cell? ⟨gq, 0, none⟩ = some (.string m) ∧ wj.cell? ⟨gq, 1, none⟩ = some (.string u) ∧ wj.cell? ⟨gq, 2, none⟩ = some (.slice av1 l1.length cv1) ∧ wj.cell? ⟨gq, 3, none⟩ = some (.string b1))
  go_upto_region 11 with fail
  clear c0 c1 c2 c3
  have HM := Num.hide ((mid_first wj #[.string m, .string u, .slice av1 l1.length cv1, .string b1] 32).step (Below.refl _ _).drew)
  go_cut [] from 14 (fun wx => ∃ v, Hid (Got wj #[.string m, .string u, .slice av1 l1.length cv1, .string b1] 2 32 (l1 ++ [(⟨#[99, 97, 99, 104, 101, 45, 99, 111, 110, 116, 114, 111, 108]⟩, ⟨#[110, 111, 45, 99, 97, 99, 104, 101]⟩)]) v wx))
  case first =>
    go_wp2
    refine wp_region_held_drew (S := SM wj 32) (by kernel_rfl) HM.out.mid (fun hHeld => ?_)
    generalize (wj.alloc (.cells #[.string m, .string u, .slice av1 l1.length cv1, .string b1] 32)).drew = wd at HM hHeld ⊢
    refine Reg.take (i := 1) (d := 46) (v := ?_) rfl rfl (by kernel_rfl) (by kernel_rfl) (by kernel_rfl) (fun _ _ _ h => h) (by rfl) ?_ hHeld ?_
    rotate_left
    · rintro X hX
      first | (go_simp; done) | (go_simp; with_reducible rfl)
    simp only [Act.put, List.setIfInBounds_toArray, List.set_cons_zero, List.set_cons_succ]
    refine Reg.take (i := 2) (d := 47) (v := ?_) rfl rfl (by kernel_rfl) (by kernel_rfl) (by kernel_rfl) (fun _ _ _ h => h) (by rfl) ?_ hHeld ?_
    rotate_left
    · rintro X hX
      have c1 := Recs.box_cell ((hX.1.block _ HBs.out.ltq).trans HBs.out.q) 2
      simp only [List.getElem?_toArray, List.getElem?_cons_succ, List.getElem?_cons_zero] at c1
      first | (go_simp; done) | (go_simp; with_reducible rfl)
    simp only [Act.put, List.setIfInBounds_toArray, List.set_cons_zero, List.set_cons_succ]
    refine Reg.take (i := 4) (d := 49) (v := ?_) rfl rfl (by kernel_rfl) (by kernel_rfl) (by kernel_rfl) (fun _ _ _ h => h) (by rfl) ?_ hHeld ?_
    rotate_left
    · rintro X hX
      have c1 := Recs.box_cell ((hX.1.block _ HBs.out.ltlook).trans HBs.out.look) 0
      have c2 := Recs.box_cell ((hX.1.block _ HBs.out.ltlook).trans HBs.out.look) 1
      simp only [List.getElem?_toArray, List.getElem?_cons_succ, List.getElem?_cons_zero] at c1 c2
      first | (go_simp; done) | (go_simp; with_reducible rfl)
    simp only [Act.put, List.setIfInBounds_toArray, List.set_cons_zero, List.set_cons_succ]
    refine Reg.two (i := 0) (j := 5) rfl rfl (by kernel_rfl) (by rfl) (by rfl) (fun K hK => ?_) (fun K hK => ?_)
    · have HM1 := Num.hide (HM.out.step ((Below.refl wd.heap.size wd).alloc (Nat.le_refl _) (.cells #[] 47)))
      have HE1 := Num.hide (Recs.own_mono (Flds.made_nil wd) (Nat.succ_le_of_lt HM.out.lt))
      go_wp2
      refine hK.out _ _ HM1.out.mid (fun _ => ?_)
      clear hK K
      generalize wd.alloc (.cells #[] 47) = x1 at HM1 HE1 ⊢
      refine Reg.two (i := 3) (j := 5) rfl rfl (by kernel_rfl) (by rfl) (by rfl) (fun K hK => ?_) (fun K hK => ?_)
      · refine Flds.wp_put_all _ _ rfl (wj.heap.size + 1) w.heap.size (.slice (some ⟨wd.heap.size, 0, none⟩) 0 0) [] rfl HE1.out (.slice av1 l1.length cv1) l1 rfl (Recs.own_below HBs.out.o1 HM1.out.below) (by simp only [List.length_nil]; omega) (Nat.succ_le_of_lt HM1.out.lt) ?_
        intro v2 x2 ho hg
        rw [List.nil_append] at ho
        have HM2 := Num.hide (HM1.out.grown hg (fun j hj => (Recs.own_lt HE1.out j hj).1))
        have HP2 := Num.hide ho
        clear ho hg
        refine hK.out _ _ HM2.out.mid (fun _ => ?_)
        clear hK K
        refine Reg.call (i := 5) rfl (by kernel_rfl) (by rfl) (fun K hK => ?_)
        have HM3 := Num.hide (HM2.out.step ((Below.refl x2.heap.size x2).alloc (Nat.le_refl _) (.cells #[.string ⟨#[99, 97, 99, 104, 101, 45, 99, 111, 110, 116, 114, 111, 108]⟩, .string ⟨#[110, 111, 45, 99, 97, 99, 104, 101]⟩] 47)))
        have HP3 := Num.hide (Recs.own_below HP2.out ((Below.refl x2.heap.size x2).alloc (Nat.le_refl _) (.cells #[.string ⟨#[99, 97, 99, 104, 101, 45, 99, 111, 110, 116, 114, 111, 108]⟩, .string ⟨#[110, 111, 45, 99, 97, 99, 104, 101]⟩] 47)))
        have HD3 : Hid (Flds.Own (wj.heap.size + 1) (x2.alloc (.cells #[.string ⟨#[99, 97, 99, 104, 101, 45, 99, 111, 110, 116, 114, 111, 108]⟩, .string ⟨#[110, 111, 45, 99, 97, 99, 104, 101]⟩] 47)) (.slice (some ⟨x2.heap.size, 0, none⟩) 1 1) [(⟨#[99, 97, 99, 104, 101, 45, 99, 111, 110, 116, 114, 111, 108]⟩, ⟨#[110, 111, 45, 99, 97, 99, 104, 101]⟩)]) := World.ownsRow_lit x2 _ 1 (Nat.succ_le_of_lt HM2.out.lt) (by decide) rfl
        go_wp2
        refine hK.out _ _ HM3.out.mid (fun _ => ?_)
        clear hK K
        generalize x2.alloc (.cells #[.string ⟨#[99, 97, 99, 104, 101, 45, 99, 111, 110, 116, 114, 111, 108]⟩, .string ⟨#[110, 111, 45, 99, 97, 99, 104, 101]⟩] 47) = x3 at HM3 HP3 HD3 ⊢
        refine Reg.call (i := 6) rfl (by kernel_rfl) (by rfl) (fun K hK => ?_)
        refine Flds.wp_put_all _ _ rfl (wj.heap.size + 1) (wj.heap.size + 1) v2 l1 rfl HP3.out (.slice (some ⟨x2.heap.size, 0, none⟩) 1 1) [(⟨#[99, 97, 99, 104, 101, 45, 99, 111, 110, 116, 114, 111, 108]⟩, ⟨#[110, 111, 45, 99, 97, 99, 104, 101]⟩)] rfl HD3.out (by simp only [List.length_cons, List.length_nil]; omega) (Nat.succ_le_of_lt HM3.out.lt) ?_
        intro v4 x4 ho hg
        have HM4 := Num.hide (HM3.out.grown hg (fun j hj => by have := (Recs.own_lt HP3.out j hj).1; omega))
        have HP4 := Num.hide ho
        clear ho hg
        refine hK.out _ _ HM4.out.mid (fun _ => ?_)
        clear hK K
        refine Reg.take (i := 7) (d := 52) (v := ?_) rfl rfl (by kernel_rfl) (by kernel_rfl) (by kernel_rfl) (fun _ _ _ h => h) (by rfl) ?_ HM4.out.mid ?_
        rotate_left
        · rintro X hX
          first | (go_simp; done) | (go_simp; with_reducible rfl)
        simp only [Act.put, List.setIfInBounds_toArray, List.set_cons_zero, List.set_cons_succ]
        refine Reg.call (i := 8) rfl (by kernel_rfl) (by rfl) (fun K hK => ?_)
        obtain ⟨a6, q6, hv6⟩ := Recs.own_len HP4.out
        subst hv6
        have HR := Num.hide (Got.mk' HM4.out 2 HP4.out)
        rw [List.length_append, List.length_singleton] at HR
        have k1 := Recs.box_cell HM4.out.box 2
        have z1 := Recs.box_thaw HM4.out.box 2
        simp only [List.getElem?_toArray, List.getElem?_cons_succ, List.getElem?_cons_zero] at k1
        go_wp2
        refine hK.out _ _ (HR.out.mid) (fun _ => ?_)
        clear hK K
        refine wpAnyH_done (by kernel_rfl) ?_ _
        clear k1 z1
        go_wp2
        go_meet
        case rel => exact ⟨_, HR⟩
      · have HM2 := Num.hide (HM1.out.step ((Below.refl x1.heap.size x1).alloc (Nat.le_refl _) (.cells #[.string ⟨#[99, 97, 99, 104, 101, 45, 99, 111, 110, 116, 114, 111, 108]⟩, .string ⟨#[110, 111, 45, 99, 97, 99, 104, 101]⟩] 47)))
        have HE2 := Num.hide (Recs.own_below HE1.out ((Below.refl x1.heap.size x1).alloc (Nat.le_refl _) (.cells #[.string ⟨#[99, 97, 99, 104, 101, 45, 99, 111, 110, 116, 114, 111, 108]⟩, .string ⟨#[110, 111, 45, 99, 97, 99, 104, 101]⟩] 47)))
        have HD2 : Hid (Flds.Own (wj.heap.size + 1) (x1.alloc (.cells #[.string ⟨#[99, 97, 99, 104, 101, 45, 99, 111, 110, 116, 114, 111, 108]⟩, .string ⟨#[110, 111, 45, 99, 97, 99, 104, 101]⟩] 47)) (.slice (some ⟨x1.heap.size, 0, none⟩) 1 1) [(⟨#[99, 97, 99, 104, 101, 45, 99, 111, 110, 116, 114, 111, 108]⟩, ⟨#[110, 111, 45, 99, 97, 99, 104, 101]⟩)]) := World.ownsRow_lit x1 _ 1 (Nat.succ_le_of_lt HM1.out.lt) (by decide) rfl
        have hne : x1.heap.size ≠ wd.heap.size := fun e => by have := (Recs.own_lt HE1.out wd.heap.size rfl).2; omega
        go_wp2
        refine hK.out _ _ HM2.out.mid (fun _ => ?_)
        clear hK K
        generalize x1.alloc (.cells #[.string ⟨#[99, 97, 99, 104, 101, 45, 99, 111, 110, 116, 114, 111, 108]⟩, .string ⟨#[110, 111, 45, 99, 97, 99, 104, 101]⟩] 47) = x2 at HM2 HE2 HD2 ⊢
        refine Reg.call (i := 3) rfl (by kernel_rfl) (by rfl) (fun K hK => ?_)
        refine Flds.wp_put_all _ _ rfl (wj.heap.size + 1) w.heap.size (.slice (some ⟨wd.heap.size, 0, none⟩) 0 0) [] rfl HE2.out (.slice av1 l1.length cv1) l1 rfl (Recs.own_below HBs.out.o1 HM2.out.below) (by simp only [List.length_nil]; omega) (Nat.succ_le_of_lt HM2.out.lt) ?_
        intro v3 x3 ho hg
        rw [List.nil_append] at ho
        have HM3 := Num.hide (HM2.out.grown hg (fun j hj => (Recs.own_lt HE2.out j hj).1))
        have HP3 := Num.hide ho
        have HD3 := Num.hide (Recs.own_kept HD2.out hg (.inr (fun e => hne (Option.some.inj e))))
        clear ho hg
        refine hK.out _ _ HM3.out.mid (fun _ => ?_)
        clear hK K
        refine Reg.call (i := 6) rfl (by kernel_rfl) (by rfl) (fun K hK => ?_)
        refine Flds.wp_put_all _ _ rfl (wj.heap.size + 1) (wj.heap.size + 1) v3 l1 rfl HP3.out (.slice (some ⟨x1.heap.size, 0, none⟩) 1 1) [(⟨#[99, 97, 99, 104, 101, 45, 99, 111, 110, 116, 114, 111, 108]⟩, ⟨#[110, 111, 45, 99, 97, 99, 104, 101]⟩)] rfl HD3.out (by simp only [List.length_cons, List.length_nil]; omega) (Nat.succ_le_of_lt HM3.out.lt) ?_
        intro v4 x4 ho hg
        have HM4 := Num.hide (HM3.out.grown hg (fun j hj => by have := (Recs.own_lt HP3.out j hj).1; omega))
        have HP4 := Num.hide ho
        clear ho hg
        refine hK.out _ _ HM4.out.mid (fun _ => ?_)
        clear hK K
        refine Reg.take (i := 7) (d := 52) (v := ?_) rfl rfl (by kernel_rfl) (by kernel_rfl) (by kernel_rfl) (fun _ _ _ h => h) (by rfl) ?_ HM4.out.mid ?_
        rotate_left
        · rintro X hX
          first | (go_simp; done) | (go_simp; with_reducible rfl)
        simp only [Act.put, List.setIfInBounds_toArray, List.set_cons_zero, List.set_cons_succ]
        refine Reg.call (i := 8) rfl (by kernel_rfl) (by rfl) (fun K hK => ?_)
        obtain ⟨a6, q6, hv6⟩ := Recs.own_len HP4.out
        subst hv6
        have HR := Num.hide (Got.mk' HM4.out 2 HP4.out)
        rw [List.length_append, List.length_singleton] at HR
        have k1 := Recs.box_cell HM4.out.box 2
        have z1 := Recs.box_thaw HM4.out.box 2
        simp only [List.getElem?_toArray, List.getElem?_cons_succ, List.getElem?_cons_zero] at k1
        go_wp2
        refine hK.out _ _ (HR.out.mid) (fun _ => ?_)
        clear hK K
        refine wpAnyH_done (by kernel_rfl) ?_ _
        clear k1 z1
        go_wp2
        go_meet
        case rel => exact ⟨_, HR⟩
    · have HM1 := Num.hide (HM.out.step ((Below.refl wd.heap.size wd).alloc (Nat.le_refl _) (.cells #[.string ⟨#[99, 97, 99, 104, 101, 45, 99, 111, 110, 116, 114, 111, 108]⟩, .string ⟨#[110, 111, 45, 99, 97, 99, 104, 101]⟩] 47)))
      have HD1 : Hid (Flds.Own (wj.heap.size + 1) (wd.alloc (.cells #[.string ⟨#[99, 97, 99, 104, 101, 45, 99, 111, 110, 116, 114, 111, 108]⟩, .string ⟨#[110, 111, 45, 99, 97, 99, 104, 101]⟩] 47)) (.slice (some ⟨wd.heap.size, 0, none⟩) 1 1) [(⟨#[99, 97, 99, 104, 101, 45, 99, 111, 110, 116, 114, 111, 108]⟩, ⟨#[110, 111, 45, 99, 97, 99, 104, 101]⟩)]) := World.ownsRow_lit wd _ 1 (Nat.succ_le_of_lt HM.out.lt) (by decide) rfl
      go_wp2
      refine hK.out _ _ HM1.out.mid (fun _ => ?_)
      clear hK K
      generalize wd.alloc (.cells #[.string ⟨#[99, 97, 99, 104, 101, 45, 99, 111, 110, 116, 114, 111, 108]⟩, .string ⟨#[110, 111, 45, 99, 97, 99, 104, 101]⟩] 47) = x1 at HM1 HD1 ⊢
      refine Reg.call (i := 0) rfl (by kernel_rfl) (by rfl) (fun K hK => ?_)
      have HM2 := Num.hide (HM1.out.step ((Below.refl x1.heap.size x1).alloc (Nat.le_refl _) (.cells #[] 47)))
      have HD2 := Num.hide (Recs.own_below HD1.out ((Below.refl x1.heap.size x1).alloc (Nat.le_refl _) (.cells #[] 47)))
      have HE2 := Num.hide (Recs.own_mono (Flds.made_nil x1) (Nat.succ_le_of_lt HM1.out.lt))
      have hne : wd.heap.size ≠ x1.heap.size := fun e => by have := (Recs.own_lt HD1.out wd.heap.size rfl).2; omega
      go_wp2
      refine hK.out _ _ HM2.out.mid (fun _ => ?_)
      clear hK K
      generalize x1.alloc (.cells #[] 47) = x2 at HM2 HD2 HE2 ⊢
      refine Reg.call (i := 3) rfl (by kernel_rfl) (by rfl) (fun K hK => ?_)
      refine Flds.wp_put_all _ _ rfl (wj.heap.size + 1) w.heap.size (.slice (some ⟨x1.heap.size, 0, none⟩) 0 0) [] rfl HE2.out (.slice av1 l1.length cv1) l1 rfl (Recs.own_below HBs.out.o1 HM2.out.below) (by simp only [List.length_nil]; omega) (Nat.succ_le_of_lt HM2.out.lt) ?_
      intro v3 x3 ho hg
      rw [List.nil_append] at ho
      have HM3 := Num.hide (HM2.out.grown hg (fun j hj => (Recs.own_lt HE2.out j hj).1))
      have HP3 := Num.hide ho
      have HD3 := Num.hide (Recs.own_kept HD2.out hg (.inr (fun e => hne (Option.some.inj e))))
      clear ho hg
      refine hK.out _ _ HM3.out.mid (fun _ => ?_)
      clear hK K
      refine Reg.call (i := 6) rfl (by kernel_rfl) (by rfl) (fun K hK => ?_)
      refine Flds.wp_put_all _ _ rfl (wj.heap.size + 1) (wj.heap.size + 1) v3 l1 rfl HP3.out (.slice (some ⟨wd.heap.size, 0, none⟩) 1 1) [(⟨#[99, 97, 99, 104, 101, 45, 99, 111, 110, 116, 114, 111, 108]⟩, ⟨#[110, 111, 45, 99, 97, 99, 104, 101]⟩)] rfl HD3.out (by simp only [List.length_cons, List.length_nil]; omega) (Nat.succ_le_of_lt HM3.out.lt) ?_
      intro v4 x4 ho hg
      have HM4 := Num.hide (HM3.out.grown hg (fun j hj => by have := (Recs.own_lt HP3.out j hj).1; omega))
      have HP4 := Num.hide ho
      clear ho hg
      refine hK.out _ _ HM4.out.mid (fun _ => ?_)
      clear hK K
      refine Reg.take (i := 7) (d := 52) (v := ?_) rfl rfl (by kernel_rfl) (by kernel_rfl) (by kernel_rfl) (fun _ _ _ h => h) (by rfl) ?_ HM4.out.mid ?_
      rotate_left
      · rintro X hX
        first | (go_simp; done) | (go_simp; with_reducible rfl)
      simp only [Act.put, List.setIfInBounds_toArray, List.set_cons_zero, List.set_cons_succ]
      refine Reg.call (i := 8) rfl (by kernel_rfl) (by rfl) (fun K hK => ?_)
      obtain ⟨a6, q6, hv6⟩ := Recs.own_len HP4.out
      subst hv6
      have HR := Num.hide (Got.mk' HM4.out 2 HP4.out)
      rw [List.length_append, List.length_singleton] at HR
      have k1 := Recs.box_cell HM4.out.box 2
      have z1 := Recs.box_thaw HM4.out.box 2
      simp only [List.getElem?_toArray, List.getElem?_cons_succ, List.getElem?_cons_zero] at k1
      go_wp2
      refine hK.out _ _ (HR.out.mid) (fun _ => ?_)
      clear hK K
      refine wpAnyH_done (by kernel_rfl) ?_ _
      clear k1 z1
      go_wp2
      go_meet
      case rel => exact ⟨_, HR⟩
  case rest =>
  obtain ⟨vc, HR⟩ := hcut
  have HBn := Num.hide (Base.step HG.out HBs.out HR.out.below)
  have HXc : Hid (Bx wj.heap.size #[.string m, .string u, vc, .string b1] 32 (l1 ++ [(⟨#[99, 97, 99, 104, 101, 45, 99, 111, 110, 116, 114, 111, 108]⟩, ⟨#[110, 111, 45, 99, 97, 99, 104, 101]⟩)]) vc wc) := HR.out.bx
  have HNa := Num.hide (Bx.step HXa.out HR.out.below)
  have HNb := Num.hide (Bx.step HXb.out HR.out.below)
  clear HM HR HBs HXa HXb
  generalize wj.heap.size = gc at HXc ⊢
  clear wj
  obtain ⟨wj, rfl⟩ : ∃ x, x = wc := ⟨_, rfl⟩
  have HBs := HBn
  have HXa := HNa
  have HXb := HNb
  clear HBn HNa HNb
  obtain ⟨c0, c1, c2⟩ := (⟨Recs.box_cell HBs.out.r 0, Recs.box_cell HBs.out.r 1, Recs.box_cell HBs.out.r 2⟩ : wj.cell? ⟨gq + 1, 0, none⟩ = some (.int .i64 st) ∧ wj.cell? ⟨gq + 1, 1, none⟩ = some (.slice av2 l2.length cv2) ∧ wj.cell? ⟨gq + 1, 2, none⟩ = some (.string b2))
  go_upto_region 13 with fail
  clear c0 c1 c2
  have HM := Num.hide ((mid_first wj #[.int .i64 st, .slice av2 l2.length cv2, .string b2] 35).step (Below.refl _ _).drew)
  go_cut [] from 14 (fun wx => ∃ v, Hid (Got wj #[.int .i64 st, .slice av2 l2.length cv2, .string b2] 1 35 (l2 ++ [(⟨#[99, 97, 99, 104, 101, 45, 99, 111, 110, 116, 114, 111, 108]⟩, ⟨#[110, 111, 45, 99, 97, 99, 104, 101]⟩)]) v wx))
  case first =>
    go_wp2
    refine wp_region_held_drew (S := SM wj 35) (by kernel_rfl) HM.out.mid (fun hHeld => ?_)
    generalize (wj.alloc (.cells #[.int .i64 st, .slice av2 l2.length cv2, .string b2] 35)).drew = wd at HM hHeld ⊢
    refine Reg.take (i := 1) (d := 55) (v := ?_) rfl rfl (by kernel_rfl) (by kernel_rfl) (by kernel_rfl) (fun _ _ _ h => h) (by rfl) ?_ hHeld ?_
    rotate_left
    · rintro X hX
      first | (go_simp; done) | (go_simp; with_reducible rfl)
    simp only [Act.put, List.setIfInBounds_toArray, List.set_cons_zero, List.set_cons_succ]
    refine Reg.take (i := 2) (d := 56) (v := ?_) rfl rfl (by kernel_rfl) (by kernel_rfl) (by kernel_rfl) (fun _ _ _ h => h) (by rfl) ?_ hHeld ?_
    rotate_left
    · rintro X hX
      have c1 := Recs.box_cell ((hX.1.block _ HBs.out.ltr).trans HBs.out.r) 1
      simp only [List.getElem?_toArray, List.getElem?_cons_succ, List.getElem?_cons_zero] at c1
      first | (go_simp; done) | (go_simp; with_reducible rfl)
    simp only [Act.put, List.setIfInBounds_toArray, List.set_cons_zero, List.set_cons_succ]
    refine Reg.take (i := 4) (d := 58) (v := ?_) rfl rfl (by kernel_rfl) (by kernel_rfl) (by kernel_rfl) (fun _ _ _ h => h) (by rfl) ?_ hHeld ?_
    rotate_left
    · rintro X hX
      have c1 := Recs.box_cell ((hX.1.block _ HBs.out.ltlook).trans HBs.out.look) 0
      have c2 := Recs.box_cell ((hX.1.block _ HBs.out.ltlook).trans HBs.out.look) 1
      simp only [List.getElem?_toArray, List.getElem?_cons_succ, List.getElem?_cons_zero] at c1 c2
      first | (go_simp; done) | (go_simp; with_reducible rfl)
    simp only [Act.put, List.setIfInBounds_toArray, List.set_cons_zero, List.set_cons_succ]
    refine Reg.two (i := 0) (j := 5) rfl rfl (by kernel_rfl) (by rfl) (by rfl) (fun K hK => ?_) (fun K hK => ?_)
    · have HM1 := Num.hide (HM.out.step ((Below.refl wd.heap.size wd).alloc (Nat.le_refl _) (.cells #[] 47)))
      have HE1 := Num.hide (Recs.own_mono (Flds.made_nil wd) (Nat.succ_le_of_lt HM.out.lt))
      go_wp2
      refine hK.out _ _ HM1.out.mid (fun _ => ?_)
      clear hK K
      generalize wd.alloc (.cells #[] 47) = x1 at HM1 HE1 ⊢
      refine Reg.two (i := 3) (j := 5) rfl rfl (by kernel_rfl) (by rfl) (by rfl) (fun K hK => ?_) (fun K hK => ?_)
      · refine Flds.wp_put_all _ _ rfl (wj.heap.size + 1) w.heap.size (.slice (some ⟨wd.heap.size, 0, none⟩) 0 0) [] rfl HE1.out (.slice av2 l2.length cv2) l2 rfl (Recs.own_below HBs.out.o2 HM1.out.below) (by simp only [List.length_nil]; omega) (Nat.succ_le_of_lt HM1.out.lt) ?_
        intro v2 x2 ho hg
        rw [List.nil_append] at ho
        have HM2 := Num.hide (HM1.out.grown hg (fun j hj => (Recs.own_lt HE1.out j hj).1))
        have HP2 := Num.hide ho
        clear ho hg
        refine hK.out _ _ HM2.out.mid (fun _ => ?_)
        clear hK K
        refine Reg.call (i := 5) rfl (by kernel_rfl) (by rfl) (fun K hK => ?_)
        have HM3 := Num.hide (HM2.out.step ((Below.refl x2.heap.size x2).alloc (Nat.le_refl _) (.cells #[.string ⟨#[99, 97, 99, 104, 101, 45, 99, 111, 110, 116, 114, 111, 108]⟩, .string ⟨#[110, 111, 45, 99, 97, 99, 104, 101]⟩] 47)))
        have HP3 := Num.hide (Recs.own_below HP2.out ((Below.refl x2.heap.size x2).alloc (Nat.le_refl _) (.cells #[.string ⟨#[99, 97, 99, 104, 101, 45, 99, 111, 110, 116, 114, 111, 108]⟩, .string ⟨#[110, 111, 45, 99, 97, 99, 104, 101]⟩] 47)))
        have HD3 : Hid (Flds.Own (wj.heap.size + 1) (x2.alloc (.cells #[.string ⟨#[99, 97, 99, 104, 101, 45, 99, 111, 110, 116, 114, 111, 108]⟩, .string ⟨#[110, 111, 45, 99, 97, 99, 104, 101]⟩] 47)) (.slice (some ⟨x2.heap.size, 0, none⟩) 1 1) [(⟨#[99, 97, 99, 104, 101, 45, 99, 111, 110, 116, 114, 111, 108]⟩, ⟨#[110, 111, 45, 99, 97, 99, 104, 101]⟩)]) := World.ownsRow_lit x2 _ 1 (Nat.succ_le_of_lt HM2.out.lt) (by decide) rfl
        go_wp2
        refine hK.out _ _ HM3.out.mid (fun _ => ?_)
        clear hK K
        generalize x2.alloc (.cells #[.string ⟨#[99, 97, 99, 104, 101, 45, 99, 111, 110, 116, 114, 111, 108]⟩, .string ⟨#[110, 111, 45, 99, 97, 99, 104, 101]⟩] 47) = x3 at HM3 HP3 HD3 ⊢
        refine Reg.call (i := 6) rfl (by kernel_rfl) (by rfl) (fun K hK => ?_)
        refine Flds.wp_put_all _ _ rfl (wj.heap.size + 1) (wj.heap.size + 1) v2 l2 rfl HP3.out (.slice (some ⟨x2.heap.size, 0, none⟩) 1 1) [(⟨#[99, 97, 99, 104, 101, 45, 99, 111, 110, 116, 114, 111, 108]⟩, ⟨#[110, 111, 45, 99, 97, 99, 104, 101]⟩)] rfl HD3.out (by simp only [List.length_cons, List.length_nil]; omega) (Nat.succ_le_of_lt HM3.out.lt) ?_
        intro v4 x4 ho hg
        have HM4 := Num.hide (HM3.out.grown hg (fun j hj => by have := (Recs.own_lt HP3.out j hj).1; omega))
        have HP4 := Num.hide ho
        clear ho hg
        refine hK.out _ _ HM4.out.mid (fun _ => ?_)
        clear hK K
        refine Reg.take (i := 7) (d := 61) (v := ?_) rfl rfl (by kernel_rfl) (by kernel_rfl) (by kernel_rfl) (fun _ _ _ h => h) (by rfl) ?_ HM4.out.mid ?_
        rotate_left
        · rintro X hX
          first | (go_simp; done) | (go_simp; with_reducible rfl)
        simp only [Act.put, List.setIfInBounds_toArray, List.set_cons_zero, List.set_cons_succ]
        refine Reg.call (i := 8) rfl (by kernel_rfl) (by rfl) (fun K hK => ?_)
        obtain ⟨a6, q6, hv6⟩ := Recs.own_len HP4.out
        subst hv6
        have HR := Num.hide (Got.mk' HM4.out 1 HP4.out)
        rw [List.length_append, List.length_singleton] at HR
        have k1 := Recs.box_cell HM4.out.box 1
        have z1 := Recs.box_thaw HM4.out.box 1
        simp only [List.getElem?_toArray, List.getElem?_cons_succ, List.getElem?_cons_zero] at k1
        go_wp2
        refine hK.out _ _ (HR.out.mid) (fun _ => ?_)
        clear hK K
        refine wpAnyH_done (by kernel_rfl) ?_ _
        clear k1 z1
        go_wp2
        go_meet
        case rel => exact ⟨_, HR⟩
      · have HM2 := Num.hide (HM1.out.step ((Below.refl x1.heap.size x1).alloc (Nat.le_refl _) (.cells #[.string ⟨#[99, 97, 99, 104, 101, 45, 99, 111, 110, 116, 114, 111, 108]⟩, .string ⟨#[110, 111, 45, 99, 97, 99, 104, 101]⟩] 47)))
        have HE2 := Num.hide (Recs.own_below HE1.out ((Below.refl x1.heap.size x1).alloc (Nat.le_refl _) (.cells #[.string ⟨#[99, 97, 99, 104, 101, 45, 99, 111, 110, 116, 114, 111, 108]⟩, .string ⟨#[110, 111, 45, 99, 97, 99, 104, 101]⟩] 47)))
        have HD2 : Hid (Flds.Own (wj.heap.size + 1) (x1.alloc (.cells #[.string ⟨#[99, 97, 99, 104, 101, 45, 99, 111, 110, 116, 114, 111, 108]⟩, .string ⟨#[110, 111, 45, 99, 97, 99, 104, 101]⟩] 47)) (.slice (some ⟨x1.heap.size, 0, none⟩) 1 1) [(⟨#[99, 97, 99, 104, 101, 45, 99, 111, 110, 116, 114, 111, 108]⟩, ⟨#[110, 111, 45, 99, 97, 99, 104, 101]⟩)]) := World.ownsRow_lit x1 _ 1 (Nat.succ_le_of_lt HM1.out.lt) (by decide) rfl
        have hne : x1.heap.size ≠ wd.heap.size := fun e => by have := (Recs.own_lt HE1.out wd.heap.size rfl).2; omega
        go_wp2
        refine hK.out _ _ HM2.out.mid (fun _ => ?_)
        clear hK K
        generalize x1.alloc (.cells #[.string ⟨#[99, 97, 99, 104, 101, 45, 99, 111, 110, 116, 114, 111, 108]⟩, .string ⟨#[110, 111, 45, 99, 97, 99, 104, 101]⟩] 47) = x2 at HM2 HE2 HD2 ⊢
        refine Reg.call (i := 3) rfl (by kernel_rfl) (by rfl) (fun K hK => ?_)
        refine Flds.wp_put_all _ _ rfl (wj.heap.size + 1) w.heap.size (.slice (some ⟨wd.heap.size, 0, none⟩) 0 0) [] rfl HE2.out (.slice av2 l2.length cv2) l2 rfl (Recs.own_below HBs.out.o2 HM2.out.below) (by simp only [List.length_nil]; omega) (Nat.succ_le_of_lt HM2.out.lt) ?_
        intro v3 x3 ho hg
        rw [List.nil_append] at ho
        have HM3 := Num.hide (HM2.out.grown hg (fun j hj => (Recs.own_lt HE2.out j hj).1))
        have HP3 := Num.hide ho
        have HD3 := Num.hide (Recs.own_kept HD2.out hg (.inr (fun e => hne (Option.some.inj e))))
        clear ho hg
        refine hK.out _ _ HM3.out.mid (fun _ => ?_)
        clear hK K
        refine Reg.call (i := 6) rfl (by kernel_rfl) (by rfl) (fun K hK => ?_)
        refine Flds.wp_put_all _ _ rfl (wj.heap.size + 1) (wj.heap.size + 1) v3 l2 rfl HP3.out (.slice (some ⟨x1.heap.size, 0, none⟩) 1 1) [(⟨#[99, 97, 99, 104, 101, 45, 99, 111, 110, 116, 114, 111, 108]⟩, ⟨#[110, 111, 45, 99, 97, 99, 104, 101]⟩)] rfl HD3.out (by simp only [List.length_cons, List.length_nil]; omega) (Nat.succ_le_of_lt HM3.out.lt) ?_
        intro v4 x4 ho hg
        have HM4 := Num.hide (HM3.out.grown hg (fun j hj => by have := (Recs.own_lt HP3.out j hj).1; omega))
        have HP4 := Num.hide ho
        clear ho hg
        refine hK.out _ _ HM4.out.mid (fun _ => ?_)
        clear hK K
        refine Reg.take (i := 7) (d := 61) (v := ?_) rfl rfl (by kernel_rfl) (by kernel_rfl) (by kernel_rfl) (fun _ _ _ h => h) (by rfl) ?_ HM4.out.mid ?_
        rotate_left
        · rintro X hX
          first | (go_simp; done) | (go_simp; with_reducible rfl)
        simp only [Act.put, List.setIfInBounds_toArray, List.set_cons_zero, List.set_cons_succ]
        refine Reg.call (i := 8) rfl (by kernel_rfl) (by rfl) (fun K hK => ?_)
        obtain ⟨a6, q6, hv6⟩ := Recs.own_len HP4.out
        subst hv6
        have HR := Num.hide (Got.mk' HM4.out 1 HP4.out)
        rw [List.length_append, List.length_singleton] at HR
        have k1 := Recs.box_cell HM4.out.box 1
        have z1 := Recs.box_thaw HM4.out.box 1
        simp only [List.getElem?_toArray, List.getElem?_cons_succ, List.getElem?_cons_zero] at k1
        go_wp2
        refine hK.out _ _ (HR.out.mid) (fun _ => ?_)
        clear hK K
        refine wpAnyH_done (by kernel_rfl) ?_ _
        clear k1 z1
        go_wp2
        go_meet
        case rel => exact ⟨_, HR⟩
    · have HM1 := Num.hide (HM.out.step ((Below.refl wd.heap.size wd).alloc (Nat.le_refl _) (.cells #[.string ⟨#[99, 97, 99, 104, 101, 45, 99, 111, 110, 116, 114, 111, 108]⟩, .string ⟨#[110, 111, 45, 99, 97, 99, 104, 101]⟩] 47)))
      have HD1 : Hid (Flds.Own (wj.heap.size + 1) (wd.alloc (.cells #[.string ⟨#[99, 97, 99, 104, 101, 45, 99, 111, 110, 116, 114, 111, 108]⟩, .string ⟨#[110, 111, 45, 99, 97, 99, 104, 101]⟩] 47)) (.slice (some ⟨wd.heap.size, 0, none⟩) 1 1) [(⟨#[99, 97, 99, 104, 101, 45, 99, 111, 110, 116, 114, 111, 108]⟩, ⟨#[110, 111, 45, 99, 97, 99, 104, 101]⟩)]) := World.ownsRow_lit wd _ 1 (Nat.succ_le_of_lt HM.out.lt) (by decide) rfl
      go_wp2
      refine hK.out _ _ HM1.out.mid (fun _ => ?_)
      clear hK K
      generalize wd.alloc (.cells #[.string ⟨#[99, 97, 99, 104, 101, 45, 99, 111, 110, 116, 114, 111, 108]⟩, .string ⟨#[110, 111, 45, 99, 97, 99, 104, 101]⟩] 47) = x1 at HM1 HD1 ⊢
      refine Reg.call (i := 0) rfl (by kernel_rfl) (by rfl) (fun K hK => ?_)
      have HM2 := Num.hide (HM1.out.step ((Below.refl x1.heap.size x1).alloc (Nat.le_refl _) (.cells #[] 47)))
      have HD2 := Num.hide (Recs.own_below HD1.out ((Below.refl x1.heap.size x1).alloc (Nat.le_refl _) (.cells #[] 47)))
      have HE2 := Num.hide (Recs.own_mono (Flds.made_nil x1) (Nat.succ_le_of_lt HM1.out.lt))
      have hne : wd.heap.size ≠ x1.heap.size := fun e => by have := (Recs.own_lt HD1.out wd.heap.size rfl).2; omega
      go_wp2
      refine hK.out _ _ HM2.out.mid (fun _ => ?_)
      clear hK K
      generalize x1.alloc (.cells #[] 47) = x2 at HM2 HD2 HE2 ⊢
      refine Reg.call (i := 3) rfl (by kernel_rfl) (by rfl) (fun K hK => ?_)
      refine Flds.wp_put_all _ _ rfl (wj.heap.size + 1) w.heap.size (.slice (some ⟨x1.heap.size, 0, none⟩) 0 0) [] rfl HE2.out (.slice av2 l2.length cv2) l2 rfl (Recs.own_below HBs.out.o2 HM2.out.below) (by simp only [List.length_nil]; omega) (Nat.succ_le_of_lt HM2.out.lt) ?_
      intro v3 x3 ho hg
      rw [List.nil_append] at ho
      have HM3 := Num.hide (HM2.out.grown hg (fun j hj => (Recs.own_lt HE2.out j hj).1))
      have HP3 := Num.hide ho
      have HD3 := Num.hide (Recs.own_kept HD2.out hg (.inr (fun e => hne (Option.some.inj e))))
      clear ho hg
      refine hK.out _ _ HM3.out.mid (fun _ => ?_)
      clear hK K
      refine Reg.call (i := 6) rfl (by kernel_rfl) (by rfl) (fun K hK => ?_)
      refine Flds.wp_put_all _ _ rfl (wj.heap.size + 1) (wj.heap.size + 1) v3 l2 rfl HP3.out (.slice (some ⟨wd.heap.size, 0, none⟩) 1 1) [(⟨#[99, 97, 99, 104, 101, 45, 99, 111, 110, 116, 114, 111, 108]⟩, ⟨#[110, 111, 45, 99, 97, 99, 104, 101]⟩)] rfl HD3.out (by simp only [List.length_cons, List.length_nil]; omega) (Nat.succ_le_of_lt HM3.out.lt) ?_
      intro v4 x4 ho hg
      have HM4 := Num.hide (HM3.out.grown hg (fun j hj => by have := (Recs.own_lt HP3.out j hj).1; omega))
      have HP4 := Num.hide ho
      clear ho hg
      refine hK.out _ _ HM4.out.mid (fun _ => ?_)
      clear hK K
      refine Reg.take (i := 7) (d := 61) (v := ?_) rfl rfl (by kernel_rfl) (by kernel_rfl) (by kernel_rfl) (fun _ _ _ h => h) (by rfl) ?_ HM4.out.mid ?_
      rotate_left
      · rintro X hX
        first | (go_simp; done) | (go_simp; with_reducible rfl)
      simp only [Act.put, List.setIfInBounds_toArray, List.set_cons_zero, List.set_cons_succ]
      refine Reg.call (i := 8) rfl (by kernel_rfl) (by rfl) (fun K hK => ?_)
      obtain ⟨a6, q6, hv6⟩ := Recs.own_len HP4.out
      subst hv6
      have HR := Num.hide (Got.mk' HM4.out 1 HP4.out)
      rw [List.length_append, List.length_singleton] at HR
      have k1 := Recs.box_cell HM4.out.box 1
      have z1 := Recs.box_thaw HM4.out.box 1
      simp only [List.getElem?_toArray, List.getElem?_cons_succ, List.getElem?_cons_zero] at k1
      go_wp2
      refine hK.out _ _ (HR.out.mid) (fun _ => ?_)
      clear hK K
      refine wpAnyH_done (by kernel_rfl) ?_ _
      clear k1 z1
      go_wp2
      go_meet
      case rel => exact ⟨_, HR⟩
  case rest =>
  obtain ⟨vd, HR⟩ := hcut
  have HBn := Num.hide (Base.step HG.out HBs.out HR.out.below)
  have HXd : Hid (Bx wj.heap.size #[.int .i64 st, vd, .string b2] 35 (l2 ++ [(⟨#[99, 97, 99, 104, 101, 45, 99, 111, 110, 116, 114, 111, 108]⟩, ⟨#[110, 111, 45, 99, 97, 99, 104, 101]⟩)]) vd wc) := HR.out.bx
  have HNa := Num.hide (Bx.step HXa.out HR.out.below)
  have HNb := Num.hide (Bx.step HXb.out HR.out.below)
  have HNc := Num.hide (Bx.step HXc.out HR.out.below)
  clear HM HR HBs HXa HXb HXc
  generalize wj.heap.size = gd at HXd ⊢
  clear wj
  obtain ⟨wj, rfl⟩ : ∃ x, x = wc := ⟨_, rfl⟩
  have HBs := HBn
  have HXa := HNa
  have HXb := HNb
  have HXc := HNc
  clear HBn HNa HNb HNc
  have HA : Hid (All G w gq #[.string m, .string u, .slice av1 l1.length cv1, .string b1] #[.int .i64 st, .slice av2 l2.length cv2, .string b2] #[.string ⟨#[99, 97, 99, 104, 101, 45, 99, 111, 110, 116, 114, 111, 108]⟩, .string ⟨#[110, 111, 45, 115, 116, 111, 114, 101]⟩] #[.string ⟨#[99, 97, 99, 104, 101, 45, 99, 111, 110, 116, 114, 111, 108]⟩, .string ⟨#[110, 111, 45, 99, 97, 99, 104, 101]⟩] (.slice av1 l1.length cv1) (.slice av2 l2.length cv2) l1 l2 ga gb gc gd #[.string m, .string u, va, .string b1] #[.int .i64 st, vb, .string b2] #[.string m, .string u, vc, .string b1] #[.int .i64 st, vd, .string b2] va vb vc vd (l1 ++ [(⟨#[99, 97, 99, 104, 101, 45, 99, 111, 110, 116, 114, 111, 108]⟩, ⟨#[110, 111, 45, 115, 116, 111, 114, 101]⟩)]) (l2 ++ [(⟨#[99, 97, 99, 104, 101, 45, 99, 111, 110, 116, 114, 111, 108]⟩, ⟨#[110, 111, 45, 115, 116, 111, 114, 101]⟩)]) (l1 ++ [(⟨#[99, 97, 99, 104, 101, 45, 99, 111, 110, 116, 114, 111, 108]⟩, ⟨#[110, 111, 45, 99, 97, 99, 104, 101]⟩)]) (l2 ++ [(⟨#[99, 97, 99, 104, 101, 45, 99, 111, 110, 116, 114, 111, 108]⟩, ⟨#[110, 111, 45, 99, 97, 99, 104, 101]⟩)]) wj) := ⟨HBs.out, HXa.out, HXb.out, HXc.out, HXd.out⟩
  clear HBs HXa HXb HXc HXd
  have hka : Flds.bulk (l1 ++ [(⟨#[99, 97, 99, 104, 101, 45, 99, 111, 110, 116, 114, 111, 108]⟩, ⟨#[110, 111, 45, 115, 116, 111, 114, 101]⟩)]) ≤ 1048576 := by rw [bulk_one, (by decide : 1 + (⟨#[99, 97, 99, 104, 101, 45, 99, 111, 110, 116, 114, 111, 108]⟩ : ByteArray).size + (⟨#[110, 111, 45, 115, 116, 111, 114, 101]⟩ : ByteArray).size = 22)]; omega
  have hkb : Flds.bulk (l2 ++ [(⟨#[99, 97, 99, 104, 101, 45, 99, 111, 110, 116, 114, 111, 108]⟩, ⟨#[110, 111, 45, 115, 116, 111, 114, 101]⟩)]) + b2.size ≤ 1048576 := by rw [bulk_one, (by decide : 1 + (⟨#[99, 97, 99, 104, 101, 45, 99, 111, 110, 116, 114, 111, 108]⟩ : ByteArray).size + (⟨#[110, 111, 45, 115, 116, 111, 114, 101]⟩ : ByteArray).size = 22)]; omega
  have hkc : Flds.bulk (l1 ++ [(⟨#[99, 97, 99, 104, 101, 45, 99, 111, 110, 116, 114, 111, 108]⟩, ⟨#[110, 111, 45, 99, 97, 99, 104, 101]⟩)]) ≤ 1048576 := by rw [bulk_one, (by decide : 1 + (⟨#[99, 97, 99, 104, 101, 45, 99, 111, 110, 116, 114, 111, 108]⟩ : ByteArray).size + (⟨#[110, 111, 45, 99, 97, 99, 104, 101]⟩ : ByteArray).size = 22)]; omega
  have hkd : Flds.bulk (l2 ++ [(⟨#[99, 97, 99, 104, 101, 45, 99, 111, 110, 116, 114, 111, 108]⟩, ⟨#[110, 111, 45, 99, 97, 99, 104, 101]⟩)]) + b2.size ≤ 1048576 := by rw [bulk_one, (by decide : 1 + (⟨#[99, 97, 99, 104, 101, 45, 99, 111, 110, 116, 114, 111, 108]⟩ : ByteArray).size + (⟨#[110, 111, 45, 99, 97, 99, 104, 101]⟩ : ByteArray).size = 22)]; omega
  have S1 : storable m (l1 ++ [(⟨#[99, 97, 99, 104, 101, 45, 99, 111, 110, 116, 114, 111, 108]⟩, ⟨#[110, 111, 45, 115, 116, 111, 114, 101]⟩)]) st l2 b2 = false := not_q _ _ _ _ _ (said_store l1 HS1.out.calm)
  have S2 : storable m l1 st (l2 ++ [(⟨#[99, 97, 99, 104, 101, 45, 99, 111, 110, 116, 114, 111, 108]⟩, ⟨#[110, 111, 45, 115, 116, 111, 114, 101]⟩)]) b2 = false := not_r _ _ _ _ _ (said_store l2 HS2.out.calm)
  have M1 : mustCheck (l1 ++ [(⟨#[99, 97, 99, 104, 101, 45, 99, 111, 110, 116, 114, 111, 108]⟩, ⟨#[110, 111, 45, 99, 97, 99, 104, 101]⟩)]) l2 asked came now = true := must_q _ _ _ _ _ (said_look l1 HS1.out.calm)
  have M2 : mustCheck l1 (l2 ++ [(⟨#[99, 97, 99, 104, 101, 45, 99, 111, 110, 116, 114, 111, 108]⟩, ⟨#[110, 111, 45, 99, 97, 99, 104, 101]⟩)]) asked came now = true := must_r _ _ _ _ _ (said_look l2 HS2.out.calm)
  have C1 := fun W h1 h2 g => HSt.out m u st va (.slice av2 l2.length cv2) (l1 ++ [(⟨#[99, 97, 99, 104, 101, 45, 99, 111, 110, 116, 114, 111, 108]⟩, ⟨#[110, 111, 45, 115, 116, 111, 114, 101]⟩)]) l2 b1 b2 W h1 h2 hka (by omega) g
  have C2 := fun W h1 h2 g => HSt.out m u st (.slice av1 l1.length cv1) vb l1 (l2 ++ [(⟨#[99, 97, 99, 104, 101, 45, 99, 111, 110, 116, 114, 111, 108]⟩, ⟨#[110, 111, 45, 115, 116, 111, 114, 101]⟩)]) b1 b2 W h1 h2 (by omega) hkb g
  have C3 := fun W h1 h2 g => HMu.out m u st vc (.slice av2 l2.length cv2) (l1 ++ [(⟨#[99, 97, 99, 104, 101, 45, 99, 111, 110, 116, 114, 111, 108]⟩, ⟨#[110, 111, 45, 99, 97, 99, 104, 101]⟩)]) l2 b1 b2 asked came now W h1 h2 hkc (by omega) (by omega) (by omega) (by omega) (by omega) (by omega) (by omega) g
  have C4 := fun W h1 h2 g => HMu.out m u st (.slice av1 l1.length cv1) vd l1 (l2 ++ [(⟨#[99, 97, 99, 104, 101, 45, 99, 111, 110, 116, 114, 111, 108]⟩, ⟨#[110, 111, 45, 99, 97, 99, 104, 101]⟩)]) b1 b2 asked came now W h1 h2 (by omega) hkd (by omega) (by omega) (by omega) (by omega) (by omega) (by omega) g
  have C5 := fun W h1 h2 g => HSt.out m u st (.slice av1 l1.length cv1) (.slice av2 l2.length cv2) l1 l2 b1 b2 W h1 h2 (by omega) (by omega) g
  have C6 := fun W h1 h2 g => HMu.out m u st (.slice av1 l1.length cv1) (.slice av2 l2.length cv2) l1 l2 b1 b2 asked came now W h1 h2 (by omega) (by omega) (by omega) (by omega) (by omega) (by omega) (by omega) (by omega) g
  have C7 := fun (k : Int) (W : World) (hk0 : 0 ≤ k) (hk1 : k ≤ 255) h1 h2 g => HMu.out m u st (.slice av1 l1.length cv1) (.slice av2 l2.length cv2) l1 l2 b1 b2 asked came (now + k) W h1 h2 (by omega) (by omega) (by omega) (by omega) (by omega) (by omega) (by omega) (by omega) g
  have C8 := fun W h g => HFr.out st (.slice av2 l2.length cv2) l2 b2 asked came now W h (by omega) (by omega) (by omega) (by omega) (by omega) (by omega) (by omega) g
  rw [S1] at C1
  rw [S2] at C2
  rw [M1] at C3
  rw [M2] at C4
  unfold Req.val Resp.val at C1 C2 C3 C4 C5 C6 C7
  unfold Resp.val at C8
  have HC1 := Num.hide C1
  have HC2 := Num.hide C2
  have HC3 := Num.hide C3
  have HC4 := Num.hide C4
  have HC5 := Num.hide C5
  have HC6 := Num.hide C6
  have HC7 := Num.hide C7
  have HC8 := Num.hide C8
  clear C1 C2 C3 C4 C5 C6 C7 C8 S1 S2 M1 M2 HSt HMu HFr hka hkb hkc hkd HS1 HS2 HF1 HF2
  obtain ⟨s0, t0, hs0, -⟩ := Flds.is_form HA.out.a.is
  rw [List.length_append, List.length_singleton] at hs0
  subst hs0
  obtain ⟨c0, c1, c2, c3⟩ := (⟨Recs.box_cell HA.out.a.box 0, Recs.box_cell HA.out.a.box 1, Recs.box_cell HA.out.a.box 2, Recs.box_cell HA.out.a.box 3⟩ : wj.cell? ⟨ga, 0, none⟩ = some (.string m) ∧ wj.cell? ⟨ga, 1, none⟩ = some (.string u) ∧ wj.cell? ⟨ga, 2, none⟩ = some (.slice s0 (_) t0) ∧ wj.cell? ⟨ga, 3, none⟩ = some (.string b1))
  obtain ⟨d0, d1, d2⟩ := (⟨Recs.box_cell HA.out.base.r 0, Recs.box_cell HA.out.base.r 1, Recs.box_cell HA.out.base.r 2⟩ : wj.cell? ⟨gq + 1, 0, none⟩ = some (.int .i64 st) ∧ wj.cell? ⟨gq + 1, 1, none⟩ = some (.slice av2 l2.length cv2) ∧ wj.cell? ⟨gq + 1, 2, none⟩ = some (.string b2))
  go_wp2_with fail
  refine (HC1.out _ HA.out.a.is (Recs.own_is Flds.cells_len HA.out.base.o2) HA.out.base.g).mono ?_
  rintro e y0 ⟨rfl, hb⟩
  have HA0 := Num.hide (All.step HG.out HA.out hb)
  clear hb c0 c1 c2 c3 d0 d1 d2 HA HC1
  obtain ⟨s1, t1, hs1, -⟩ := Flds.is_form HA0.out.b.is
  rw [List.length_append, List.length_singleton] at hs1
  subst hs1
  obtain ⟨c0, c1, c2, c3⟩ := (⟨Recs.box_cell HA0.out.base.q 0, Recs.box_cell HA0.out.base.q 1, Recs.box_cell HA0.out.base.q 2, Recs.box_cell HA0.out.base.q 3⟩ : y0.cell? ⟨gq, 0, none⟩ = some (.string m) ∧ y0.cell? ⟨gq, 1, none⟩ = some (.string u) ∧ y0.cell? ⟨gq, 2, none⟩ = some (.slice av1 l1.length cv1) ∧ y0.cell? ⟨gq, 3, none⟩ = some (.string b1))
  obtain ⟨d0, d1, d2⟩ := (⟨Recs.box_cell HA0.out.b.box 0, Recs.box_cell HA0.out.b.box 1, Recs.box_cell HA0.out.b.box 2⟩ : y0.cell? ⟨gb, 0, none⟩ = some (.int .i64 st) ∧ y0.cell? ⟨gb, 1, none⟩ = some (.slice s1 (_) t1) ∧ y0.cell? ⟨gb, 2, none⟩ = some (.string b2))
  go_wp2_with fail
  refine (HC2.out _ (Recs.own_is Flds.cells_len HA0.out.base.o1) HA0.out.b.is HA0.out.base.g).mono ?_
  rintro e y1 ⟨rfl, hb⟩
  have HA1 := Num.hide (All.step HG.out HA0.out hb)
  clear hb c0 c1 c2 c3 d0 d1 d2 HA0 HC2
  obtain ⟨s2, t2, hs2, -⟩ := Flds.is_form HA1.out.c.is
  rw [List.length_append, List.length_singleton] at hs2
  subst hs2
  obtain ⟨c0, c1, c2, c3⟩ := (⟨Recs.box_cell HA1.out.c.box 0, Recs.box_cell HA1.out.c.box 1, Recs.box_cell HA1.out.c.box 2, Recs.box_cell HA1.out.c.box 3⟩ : y1.cell? ⟨gc, 0, none⟩ = some (.string m) ∧ y1.cell? ⟨gc, 1, none⟩ = some (.string u) ∧ y1.cell? ⟨gc, 2, none⟩ = some (.slice s2 (_) t2) ∧ y1.cell? ⟨gc, 3, none⟩ = some (.string b1))
  obtain ⟨d0, d1, d2⟩ := (⟨Recs.box_cell HA1.out.base.r 0, Recs.box_cell HA1.out.base.r 1, Recs.box_cell HA1.out.base.r 2⟩ : y1.cell? ⟨gq + 1, 0, none⟩ = some (.int .i64 st) ∧ y1.cell? ⟨gq + 1, 1, none⟩ = some (.slice av2 l2.length cv2) ∧ y1.cell? ⟨gq + 1, 2, none⟩ = some (.string b2))
  go_wp2_with fail
  refine (HC3.out _ HA1.out.c.is (Recs.own_is Flds.cells_len HA1.out.base.o2) HA1.out.base.g).mono ?_
  rintro e y2 ⟨rfl, hb⟩
  have HA2 := Num.hide (All.step HG.out HA1.out hb)
  clear hb c0 c1 c2 c3 d0 d1 d2 HA1 HC3
  obtain ⟨s3, t3, hs3, -⟩ := Flds.is_form HA2.out.d.is
  rw [List.length_append, List.length_singleton] at hs3
  subst hs3
  obtain ⟨c0, c1, c2, c3⟩ := (⟨Recs.box_cell HA2.out.base.q 0, Recs.box_cell HA2.out.base.q 1, Recs.box_cell HA2.out.base.q 2, Recs.box_cell HA2.out.base.q 3⟩ : y2.cell? ⟨gq, 0, none⟩ = some (.string m) ∧ y2.cell? ⟨gq, 1, none⟩ = some (.string u) ∧ y2.cell? ⟨gq, 2, none⟩ = some (.slice av1 l1.length cv1) ∧ y2.cell? ⟨gq, 3, none⟩ = some (.string b1))
  obtain ⟨d0, d1, d2⟩ := (⟨Recs.box_cell HA2.out.d.box 0, Recs.box_cell HA2.out.d.box 1, Recs.box_cell HA2.out.d.box 2⟩ : y2.cell? ⟨gd, 0, none⟩ = some (.int .i64 st) ∧ y2.cell? ⟨gd, 1, none⟩ = some (.slice s3 (_) t3) ∧ y2.cell? ⟨gd, 2, none⟩ = some (.string b2))
  go_wp2_with fail
  refine (HC4.out _ (Recs.own_is Flds.cells_len HA2.out.base.o1) HA2.out.d.is HA2.out.base.g).mono ?_
  rintro e y3 ⟨rfl, hb⟩
  have HA3 := Num.hide (All.step HG.out HA2.out hb)
  clear hb c0 c1 c2 c3 d0 d1 d2 HA2 HC4
  have HF : Hid (Fin G w gq m u (.slice av1 l1.length cv1) l1 b1 st (.slice av2 l2.length cv2) l2 b2 y3) := ⟨Recs.box_cell HA3.out.base.q 0, Recs.box_cell HA3.out.base.q 1, Recs.box_cell HA3.out.base.q 2, Recs.box_cell HA3.out.base.q 3, Recs.box_cell HA3.out.base.r 0, Recs.box_cell HA3.out.base.r 1, Recs.box_cell HA3.out.base.r 2, (Recs.own_is Flds.cells_len HA3.out.base.o1), (Recs.own_is Flds.cells_len HA3.out.base.o2), HA3.out.base.g, HA3.out.base.below⟩
  clear HA3
  obtain ⟨c0, c1, c2, c3, d0, d1, d2, -, -, -, -⟩ := HF.out
  have HSt := Num.hide (stored_is m l1 st l2 b2)
  have HPr := Num.hide (fun W h => Cc.has_spec (.slice av2 l2.length cv2) l2 priv W h (by omega))
  have hT2 : Cc.has (Cc.dirs l2) priv = said l2 priv := rfl
  rw [hT2] at HPr
  clear hT2
  go_upto_region 16 with fail
  go_cut [105] from 14 (fun v wx => v = .bool false ∧ Hid (Fin G w gq m u (.slice av1 l1.length cv1) l1 b1 st (.slice av2 l2.length cv2) l2 b2 wx))
  case first =>
    go_wp2_with fail
    refine (HC5.out _ HF.out.2.2.2.2.2.2.2.1 HF.out.2.2.2.2.2.2.2.2.1 HF.out.2.2.2.2.2.2.2.2.2.1).mono ?_
    rintro e z1 ⟨rfl, hb⟩
    have HF1 := Num.hide (Fin.step HG.out HF.out hb)
    clear hb c0 c1 c2 c3 d0 d1 d2 HF
    generalize storable m l1 st l2 b2 = T at HSt ⊢
    obtain ⟨c0, c1, c2, c3, d0, d1, d2, -, -, -, -⟩ := HF1.out
    cases T with
    | false =>
      go_wp2
      go_meet
      case rel => exact ⟨rfl, HF1⟩
    | true =>
      obtain ⟨hm, hs, hp⟩ := HSt.out rfl
      rw [hp] at HPr
      have e0 : (m.toList == [71, 69, 84]) = true := by rw [hm, ByteArray.toList_eq]; rfl
      have e1 : (m.toList != [71, 69, 84]) = false := by rw [bne, e0]; rfl
      have e2 : (st == 304) = false := beq_eq_false_iff_ne.2 hs
      clear hm hs hp HSt
      go_wp2_with fail
      refine (HPr.out _ HF1.out.2.2.2.2.2.2.2.2.1).mono ?_
      rintro e z2 ⟨rfl, hb⟩
      have HF2 := Num.hide (Fin.step HG.out HF1.out hb)
      clear hb
      go_wp2
      go_meet
      case rel => exact ⟨rfl, HF2⟩
  case rest =>
  obtain ⟨rfl, HF⟩ := hcut
  clear HSt HPr HC5 c0 c1 c2 c3 d0 d1 d2
  have HLat := Num.hide (fun k hk h => must_later l1 l2 asked came now k hk h)
  have hfo := fresh_or l1 l2 asked came now
  obtain ⟨A, hA⟩ : ∃ A, mustCheck l1 l2 asked came now = A := ⟨_, rfl⟩
  obtain ⟨F, hF⟩ : ∃ F, Age.isFresh l2 asked came now = F := ⟨_, rfl⟩
  rw [hA] at HLat HC6 hfo
  rw [hF] at HC8 hfo
  have HD := Num.hide (Fin.step HG.out HF.out (Below.refl wc.heap.size wc).drew)
  clear hA hF HF
  cases A with
  | false =>
    obtain rfl : F = true := by simpa using hfo
    go_wp2
    refine wp_region_held_drew (S := Fin G w gq m u (.slice av1 l1.length cv1) l1 b1 st (.slice av2 l2.length cv2) l2 b2) (by kernel_rfl) HD.out (fun hHeld => ?_)
    refine Reg.take (i := 0) (d := 106) (v := ?_) rfl rfl (by kernel_rfl) (by kernel_rfl) (by kernel_rfl) (fun _ _ _ h => h) (by rfl) ?_ hHeld ?_
    rotate_left
    · rintro W ⟨c0, c1, c2, c3, d0, d1, d2, -, -, -, -⟩
      first | (go_simp; done) | (go_simp; with_reducible rfl)
    simp only [Act.put, List.setIfInBounds_toArray, List.set_cons_zero, List.set_cons_succ]
    refine Reg.take (i := 1) (d := 107) (v := ?_) rfl rfl (by kernel_rfl) (by kernel_rfl) (by kernel_rfl) (fun _ _ _ h => h) (by rfl) ?_ hHeld ?_
    rotate_left
    · rintro W ⟨c0, c1, c2, c3, d0, d1, d2, -, -, -, -⟩
      first | (go_simp; done) | (go_simp; with_reducible rfl)
    simp only [Act.put, List.setIfInBounds_toArray, List.set_cons_zero, List.set_cons_succ]
    refine Reg.take (i := 2) (d := 108) (v := ?_) rfl rfl (by kernel_rfl) (by kernel_rfl) (by kernel_rfl) (fun _ _ _ h => h) (by rfl) ?_ hHeld ?_
    rotate_left
    · rintro W ⟨c0, c1, c2, c3, d0, d1, d2, -, -, -, -⟩
      first | (go_simp; done) | (go_simp; with_reducible rfl)
    simp only [Act.put, List.setIfInBounds_toArray, List.set_cons_zero, List.set_cons_succ]
    refine Reg.take (i := 3) (d := 109) (v := ?_) rfl rfl (by kernel_rfl) (by kernel_rfl) (by kernel_rfl) (fun _ _ _ h => h) (by rfl) ?_ hHeld ?_
    rotate_left
    · rintro W ⟨c0, c1, c2, c3, d0, d1, d2, -, -, -, -⟩
      first | (go_simp; done) | (go_simp; with_reducible rfl)
    simp only [Act.put, List.setIfInBounds_toArray, List.set_cons_zero, List.set_cons_succ]
    refine Reg.take (i := 4) (d := 110) (v := ?_) rfl rfl (by kernel_rfl) (by kernel_rfl) (by kernel_rfl) (fun _ _ _ h => h) (by rfl) ?_ hHeld ?_
    rotate_left
    · rintro W ⟨c0, c1, c2, c3, d0, d1, d2, -, -, -, -⟩
      first | (go_simp; done) | (go_simp; with_reducible rfl)
    simp only [Act.put, List.setIfInBounds_toArray, List.set_cons_zero, List.set_cons_succ]
    refine Reg.call (i := 5) rfl (by kernel_rfl) (by rfl) (fun K hK => ?_)
    go_wp2_with (first | (go_at_call 15; refine (HC6.out _ hHeld.2.2.2.2.2.2.2.1 hHeld.2.2.2.2.2.2.2.2.1 hHeld.2.2.2.2.2.2.2.2.2.1).mono ?_; rintro e z5 ⟨rfl, hb5⟩))
    refine hK.out _ _ ?_ (fun hHeld2 => ?_)
    · exact Fin.step HG.out hHeld hb5
    clear hK K
    replace hHeld := hHeld2
    clear hHeld2
    refine Reg.take (i := 6) (d := 112) (v := ?_) rfl rfl (by kernel_rfl) (by kernel_rfl) (by kernel_rfl) (fun _ _ _ h => h) (by rfl) ?_ hHeld ?_
    rotate_left
    · rintro W ⟨c0, c1, c2, c3, d0, d1, d2, -, -, -, -⟩
      first | (go_simp; done) | (go_simp; with_reducible rfl)
    simp only [Act.put, List.setIfInBounds_toArray, List.set_cons_zero, List.set_cons_succ]
    refine Reg.take (i := 7) (d := 113) (v := ?_) rfl rfl (by kernel_rfl) (by kernel_rfl) (by kernel_rfl) (fun _ _ _ h => h) (by rfl) ?_ hHeld ?_
    rotate_left
    · rintro W ⟨c0, c1, c2, c3, d0, d1, d2, -, -, -, -⟩
      first | (go_simp; done) | (go_simp; with_reducible rfl)
    simp only [Act.put, List.setIfInBounds_toArray, List.set_cons_zero, List.set_cons_succ]
    refine Reg.pass (i := 8) (d := 114) rfl rfl (by kernel_rfl) (by kernel_rfl) (by kernel_rfl) (fun _ _ _ h => h) (by rfl) hHeld ?_
    simp only [Act.put, List.setIfInBounds_toArray, List.set_cons_zero, List.set_cons_succ]
    refine Reg.pass (i := 9) (d := 115) rfl rfl (by kernel_rfl) (by kernel_rfl) (by kernel_rfl) (fun _ _ _ h => h) (by rfl) hHeld ?_
    simp only [Act.put, List.setIfInBounds_toArray, List.set_cons_zero, List.set_cons_succ]
    refine Reg.pass (i := 10) (d := 116) rfl rfl (by kernel_rfl) (by kernel_rfl) (by kernel_rfl) (fun _ _ _ h => h) (by rfl) hHeld ?_
    simp only [Act.put, List.setIfInBounds_toArray, List.set_cons_zero, List.set_cons_succ]
    refine Reg.pass (i := 11) (d := 117) rfl rfl (by kernel_rfl) (by kernel_rfl) (by kernel_rfl) (fun _ _ _ h => h) (by rfl) hHeld ?_
    simp only [Act.put, List.setIfInBounds_toArray, List.set_cons_zero, List.set_cons_succ]
    refine Reg.pass (i := 12) (d := 118) rfl rfl (by kernel_rfl) (by kernel_rfl) (by kernel_rfl) (fun _ _ _ h => h) (by rfl) hHeld ?_
    simp only [Act.put, List.setIfInBounds_toArray, List.set_cons_zero, List.set_cons_succ]
    refine Reg.pass (i := 13) (d := 119) rfl rfl (by kernel_rfl) (by kernel_rfl) (by kernel_rfl) (fun _ _ _ h => h) (by rfl) hHeld ?_
    simp only [Act.put, List.setIfInBounds_toArray, List.set_cons_zero, List.set_cons_succ]
    refine Reg.pass (i := 14) (d := 120) rfl rfl (by kernel_rfl) (by kernel_rfl) (by kernel_rfl) (fun _ _ _ h => h) (by rfl) hHeld ?_
    simp only [Act.put, List.setIfInBounds_toArray, List.set_cons_zero, List.set_cons_succ]
    refine Reg.pass (i := 15) (d := 121) rfl rfl (by kernel_rfl) (by kernel_rfl) (by kernel_rfl) (fun _ _ _ h => h) (by rfl) hHeld ?_
    simp only [Act.put, List.setIfInBounds_toArray, List.set_cons_zero, List.set_cons_succ]
    refine Reg.pass (i := 16) (d := 122) rfl rfl (by kernel_rfl) (by kernel_rfl) (by kernel_rfl) (fun _ _ _ h => h) (by rfl) hHeld ?_
    simp only [Act.put, List.setIfInBounds_toArray, List.set_cons_zero, List.set_cons_succ]
    refine Reg.take (i := 17) (d := 123) (v := ?_) rfl rfl (by kernel_rfl) (by kernel_rfl) (by kernel_rfl) (fun _ _ _ h => h) (by rfl) ?_ hHeld ?_
    rotate_left
    · rintro W ⟨c0, c1, c2, c3, d0, d1, d2, -, -, -, -⟩
      first | (go_simp; done) | (go_simp; with_reducible rfl)
    simp only [Act.put, List.setIfInBounds_toArray, List.set_cons_zero, List.set_cons_succ]
    refine Reg.take (i := 18) (d := 124) (v := ?_) rfl rfl (by kernel_rfl) (by kernel_rfl) (by kernel_rfl) (fun _ _ _ h => h) (by rfl) ?_ hHeld ?_
    rotate_left
    · rintro W ⟨c0, c1, c2, c3, d0, d1, d2, -, -, -, -⟩
      first | (go_simp; done) | (go_simp; with_reducible rfl)
    simp only [Act.put, List.setIfInBounds_toArray, List.set_cons_zero, List.set_cons_succ]
    refine Reg.take (i := 19) (d := 125) (v := ?_) rfl rfl (by kernel_rfl) (by kernel_rfl) (by kernel_rfl) (fun _ _ _ h => h) (by rfl) ?_ hHeld ?_
    rotate_left
    · rintro W ⟨c0, c1, c2, c3, d0, d1, d2, -, -, -, -⟩
      first | (go_simp; done) | (go_simp; with_reducible rfl)
    simp only [Act.put, List.setIfInBounds_toArray, List.set_cons_zero, List.set_cons_succ]
    refine Reg.take (i := 20) (d := 126) (v := ?_) rfl rfl (by kernel_rfl) (by kernel_rfl) (by kernel_rfl) (fun _ _ _ h => h) (by rfl) ?_ hHeld ?_
    rotate_left
    · rintro W ⟨c0, c1, c2, c3, d0, d1, d2, -, -, -, -⟩
      first | (go_simp; done) | (go_simp; with_reducible rfl)
    simp only [Act.put, List.setIfInBounds_toArray, List.set_cons_zero, List.set_cons_succ]
    refine Reg.take (i := 21) (d := 127) (v := ?_) rfl rfl (by kernel_rfl) (by kernel_rfl) (by kernel_rfl) (fun _ _ _ h => h) (by rfl) ?_ hHeld ?_
    rotate_left
    · rintro W ⟨c0, c1, c2, c3, d0, d1, d2, -, -, -, -⟩
      first | (go_simp; done) | (go_simp; with_reducible rfl)
    simp only [Act.put, List.setIfInBounds_toArray, List.set_cons_zero, List.set_cons_succ]
    refine Reg.take (i := 22) (d := 128) (v := ?_) rfl rfl (by kernel_rfl) (by kernel_rfl) (by kernel_rfl) (fun _ _ _ h => h) (by rfl) ?_ hHeld ?_
    rotate_left
    · rintro W ⟨c0, c1, c2, c3, d0, d1, d2, -, -, -, -⟩
      first | (go_simp; done) | (go_simp; with_reducible rfl)
    simp only [Act.put, List.setIfInBounds_toArray, List.set_cons_zero, List.set_cons_succ]
    refine Reg.call (i := 23) rfl (by kernel_rfl) (by rfl) (fun K hK => ?_)
    go_wp2_with (first | (go_at_call 20; refine (HC8.out _ hHeld.2.2.2.2.2.2.2.2.1 hHeld.2.2.2.2.2.2.2.2.2.1).mono ?_; rintro e z23 ⟨rfl, hb23⟩))
    refine hK.out _ _ ?_ (fun hHeld2 => ?_)
    · exact Fin.step HG.out hHeld hb23
    clear hK K
    replace hHeld := hHeld2
    clear hHeld2
    refine Reg.take (i := 24) (d := 130) (v := ?_) rfl rfl (by kernel_rfl) (by kernel_rfl) (by kernel_rfl) (fun _ _ _ h => h) (by rfl) ?_ hHeld ?_
    rotate_left
    · rintro W ⟨c0, c1, c2, c3, d0, d1, d2, -, -, -, -⟩
      first | (go_simp; done) | (go_simp; with_reducible rfl)
    simp only [Act.put, List.setIfInBounds_toArray, List.set_cons_zero, List.set_cons_succ]
    refine Reg.pass (i := 25) (d := 131) rfl rfl (by kernel_rfl) (by kernel_rfl) (by kernel_rfl) (fun _ _ _ h => h) (by rfl) hHeld ?_
    simp only [Act.put, List.setIfInBounds_toArray, List.set_cons_zero, List.set_cons_succ]
    refine Reg.pass (i := 26) (d := 132) rfl rfl (by kernel_rfl) (by kernel_rfl) (by kernel_rfl) (fun _ _ _ h => h) (by rfl) hHeld ?_
    simp only [Act.put, List.setIfInBounds_toArray, List.set_cons_zero, List.set_cons_succ]
    refine Reg.pass (i := 27) (d := 133) rfl rfl (by kernel_rfl) (by kernel_rfl) (by kernel_rfl) (fun _ _ _ h => h) (by rfl) hHeld ?_
    simp only [Act.put, List.setIfInBounds_toArray, List.set_cons_zero, List.set_cons_succ]
    refine Reg.pass (i := 28) (d := 134) rfl rfl (by kernel_rfl) (by kernel_rfl) (by kernel_rfl) (fun _ _ _ h => h) (by rfl) hHeld ?_
    simp only [Act.put, List.setIfInBounds_toArray, List.set_cons_zero, List.set_cons_succ]
    refine Reg.pass (i := 29) (d := 135) rfl rfl (by kernel_rfl) (by kernel_rfl) (by kernel_rfl) (fun _ _ _ h => h) (by rfl) hHeld ?_
    simp only [Act.put, List.setIfInBounds_toArray, List.set_cons_zero, List.set_cons_succ]
    refine Reg.pass (i := 30) (d := 136) rfl rfl (by kernel_rfl) (by kernel_rfl) (by kernel_rfl) (fun _ _ _ h => h) (by rfl) hHeld ?_
    simp only [Act.put, List.setIfInBounds_toArray, List.set_cons_zero, List.set_cons_succ]
    refine Reg.take (i := 31) (d := 137) (v := ?_) rfl rfl (by kernel_rfl) (by kernel_rfl) (by kernel_rfl) (fun _ _ _ h => h) (by rfl) ?_ hHeld ?_
    rotate_left
    · rintro W ⟨c0, c1, c2, c3, d0, d1, d2, -, -, -, -⟩
      first | (go_simp; done) | (go_simp; with_reducible rfl)
    simp only [Act.put, List.setIfInBounds_toArray, List.set_cons_zero, List.set_cons_succ]
    refine Reg.take (i := 32) (d := 138) (v := ?_) rfl rfl (by kernel_rfl) (by kernel_rfl) (by kernel_rfl) (fun _ _ _ h => h) (by rfl) ?_ hHeld ?_
    rotate_left
    · rintro W ⟨c0, c1, c2, c3, d0, d1, d2, -, -, -, -⟩
      first | (go_simp; done) | (go_simp; with_reducible rfl)
    simp only [Act.put, List.setIfInBounds_toArray, List.set_cons_zero, List.set_cons_succ]
    refine Reg.take (i := 33) (d := 2) (v := ?_) rfl rfl (by kernel_rfl) (by kernel_rfl) (by kernel_rfl) (fun _ _ _ h => h) (by rfl) ?_ hHeld ?_
    rotate_left
    · rintro W ⟨c0, c1, c2, c3, d0, d1, d2, -, -, -, -⟩
      first | (go_simp; done) | (go_simp; with_reducible rfl)
    simp only [Act.put, List.setIfInBounds_toArray, List.set_cons_zero, List.set_cons_succ]
    refine wpAnyH_done (by kernel_rfl) ?_ _
    have HE := Num.hide hHeld.2.2.2.2.2.2.2.2.2.2
    clear hHeld HD
    go_wp2
    go_ret
    exact ⟨rfl, HE.out⟩
  | true =>
    cases F with
    | true =>
      go_wp2
      refine wp_region_held_drew (S := Fin G w gq m u (.slice av1 l1.length cv1) l1 b1 st (.slice av2 l2.length cv2) l2 b2) (by kernel_rfl) HD.out (fun hHeld => ?_)
      refine Reg.take (i := 0) (d := 106) (v := ?_) rfl rfl (by kernel_rfl) (by kernel_rfl) (by kernel_rfl) (fun _ _ _ h => h) (by rfl) ?_ hHeld ?_
      rotate_left
      · rintro W ⟨c0, c1, c2, c3, d0, d1, d2, -, -, -, -⟩
        first | (go_simp; done) | (go_simp; with_reducible rfl)
      simp only [Act.put, List.setIfInBounds_toArray, List.set_cons_zero, List.set_cons_succ]
      refine Reg.take (i := 1) (d := 107) (v := ?_) rfl rfl (by kernel_rfl) (by kernel_rfl) (by kernel_rfl) (fun _ _ _ h => h) (by rfl) ?_ hHeld ?_
      rotate_left
      · rintro W ⟨c0, c1, c2, c3, d0, d1, d2, -, -, -, -⟩
        first | (go_simp; done) | (go_simp; with_reducible rfl)
      simp only [Act.put, List.setIfInBounds_toArray, List.set_cons_zero, List.set_cons_succ]
      refine Reg.take (i := 2) (d := 108) (v := ?_) rfl rfl (by kernel_rfl) (by kernel_rfl) (by kernel_rfl) (fun _ _ _ h => h) (by rfl) ?_ hHeld ?_
      rotate_left
      · rintro W ⟨c0, c1, c2, c3, d0, d1, d2, -, -, -, -⟩
        first | (go_simp; done) | (go_simp; with_reducible rfl)
      simp only [Act.put, List.setIfInBounds_toArray, List.set_cons_zero, List.set_cons_succ]
      refine Reg.take (i := 3) (d := 109) (v := ?_) rfl rfl (by kernel_rfl) (by kernel_rfl) (by kernel_rfl) (fun _ _ _ h => h) (by rfl) ?_ hHeld ?_
      rotate_left
      · rintro W ⟨c0, c1, c2, c3, d0, d1, d2, -, -, -, -⟩
        first | (go_simp; done) | (go_simp; with_reducible rfl)
      simp only [Act.put, List.setIfInBounds_toArray, List.set_cons_zero, List.set_cons_succ]
      refine Reg.take (i := 4) (d := 110) (v := ?_) rfl rfl (by kernel_rfl) (by kernel_rfl) (by kernel_rfl) (fun _ _ _ h => h) (by rfl) ?_ hHeld ?_
      rotate_left
      · rintro W ⟨c0, c1, c2, c3, d0, d1, d2, -, -, -, -⟩
        first | (go_simp; done) | (go_simp; with_reducible rfl)
      simp only [Act.put, List.setIfInBounds_toArray, List.set_cons_zero, List.set_cons_succ]
      refine Reg.call (i := 5) rfl (by kernel_rfl) (by rfl) (fun K hK => ?_)
      go_wp2_with (first | (go_at_call 15; refine (HC6.out _ hHeld.2.2.2.2.2.2.2.1 hHeld.2.2.2.2.2.2.2.2.1 hHeld.2.2.2.2.2.2.2.2.2.1).mono ?_; rintro e z5 ⟨rfl, hb5⟩))
      refine hK.out _ _ ?_ (fun hHeld2 => ?_)
      · exact Fin.step HG.out hHeld hb5
      clear hK K
      replace hHeld := hHeld2
      clear hHeld2
      refine Reg.take (i := 6) (d := 112) (v := ?_) rfl rfl (by kernel_rfl) (by kernel_rfl) (by kernel_rfl) (fun _ _ _ h => h) (by rfl) ?_ hHeld ?_
      rotate_left
      · rintro W ⟨c0, c1, c2, c3, d0, d1, d2, -, -, -, -⟩
        first | (go_simp; done) | (go_simp; with_reducible rfl)
      simp only [Act.put, List.setIfInBounds_toArray, List.set_cons_zero, List.set_cons_succ]
      refine Reg.take (i := 7) (d := 113) (v := ?_) rfl rfl (by kernel_rfl) (by kernel_rfl) (by kernel_rfl) (fun _ _ _ h => h) (by rfl) ?_ hHeld ?_
      rotate_left
      · rintro W ⟨c0, c1, c2, c3, d0, d1, d2, -, -, -, -⟩
        first | (go_simp; done) | (go_simp; with_reducible rfl)
      simp only [Act.put, List.setIfInBounds_toArray, List.set_cons_zero, List.set_cons_succ]
      refine Reg.take (i := 8) (d := 114) (v := ?_) rfl rfl (by kernel_rfl) (by kernel_rfl) (by kernel_rfl) (fun _ _ _ h => h) (by rfl) ?_ hHeld ?_
      rotate_left
      · rintro W ⟨c0, c1, c2, c3, d0, d1, d2, -, -, -, -⟩
        first | (go_simp; done) | (go_simp; with_reducible rfl)
      simp only [Act.put, List.setIfInBounds_toArray, List.set_cons_zero, List.set_cons_succ]
      refine Reg.take (i := 9) (d := 115) (v := ?_) rfl rfl (by kernel_rfl) (by kernel_rfl) (by kernel_rfl) (fun _ _ _ h => h) (by rfl) ?_ hHeld ?_
      rotate_left
      · rintro W ⟨c0, c1, c2, c3, d0, d1, d2, -, -, -, -⟩
        first | (go_simp; done) | (go_simp; with_reducible rfl)
      simp only [Act.put, List.setIfInBounds_toArray, List.set_cons_zero, List.set_cons_succ]
      refine Reg.take (i := 10) (d := 116) (v := ?_) rfl rfl (by kernel_rfl) (by kernel_rfl) (by kernel_rfl) (fun _ _ _ h => h) (by rfl) ?_ hHeld ?_
      rotate_left
      · rintro W ⟨c0, c1, c2, c3, d0, d1, d2, -, -, -, -⟩
        first | (go_simp; done) | (go_simp; with_reducible rfl)
      simp only [Act.put, List.setIfInBounds_toArray, List.set_cons_zero, List.set_cons_succ]
      refine Reg.take (i := 11) (d := 117) (v := ?_) rfl rfl (by kernel_rfl) (by kernel_rfl) (by kernel_rfl) (fun _ _ _ h => h) (by rfl) ?_ hHeld ?_
      rotate_left
      · rintro W ⟨c0, c1, c2, c3, d0, d1, d2, -, -, -, -⟩
        first | (go_simp; done) | (go_simp; with_reducible rfl)
      simp only [Act.put, List.setIfInBounds_toArray, List.set_cons_zero, List.set_cons_succ]
      refine Reg.take (i := 12) (d := 118) (v := ?_) rfl rfl (by kernel_rfl) (by kernel_rfl) (by kernel_rfl) (fun _ _ _ h => h) (by rfl) ?_ hHeld ?_
      rotate_left
      · rintro W ⟨c0, c1, c2, c3, d0, d1, d2, -, -, -, -⟩
        first | (go_simp; done) | (go_simp; with_reducible rfl)
      simp only [Act.put, List.setIfInBounds_toArray, List.set_cons_zero, List.set_cons_succ]
      refine Reg.take (i := 13) (d := 119) (v := ?_) rfl rfl (by kernel_rfl) (by kernel_rfl) (by kernel_rfl) (fun _ _ _ h => h) (by rfl) ?_ hHeld ?_
      rotate_left
      · rintro W ⟨c0, c1, c2, c3, d0, d1, d2, -, -, -, -⟩
        first | (go_simp; done) | (go_simp; with_reducible rfl)
      simp only [Act.put, List.setIfInBounds_toArray, List.set_cons_zero, List.set_cons_succ]
      refine Reg.call (i := 14) rfl (by kernel_rfl) (by rfl) (fun K hK => ?_)
      go_wp2_with (first | (go_at_call 19; refine (at_zero w.heap.size cap a l0 _ (HC.out.below hHeld.2.2.2.2.2.2.2.2.2.2) hl0).mono ?_; rintro e z14 ⟨k, rfl, hk0, hk1, rfl⟩))
      refine hK.out _ _ ?_ (fun hHeld2 => ?_)
      · exact hHeld
      clear hK K
      replace hHeld := hHeld2
      clear hHeld2
      refine Reg.take (i := 15) (d := 121) (v := ?_) rfl rfl (by kernel_rfl) (by kernel_rfl) (by kernel_rfl) (fun _ _ _ h => h) (by rfl) ?_ hHeld ?_
      rotate_left
      · rintro W ⟨c0, c1, c2, c3, d0, d1, d2, -, -, -, -⟩
        first | (go_simp; done) | (go_simp; with_reducible rfl)
      simp only [Act.put, List.setIfInBounds_toArray, List.set_cons_zero, List.set_cons_succ]
      rw [show IntKind.i64.wrap (now + k) = now + k by rw [IntKind.wrap_i64]; omega]
      refine Reg.call (i := 16) rfl (by kernel_rfl) (by rfl) (fun K hK => ?_)
      have HM := HLat.out k hk0 trivial
      have CM := HC7.out k _ hk0 (by omega) hHeld.2.2.2.2.2.2.2.1 hHeld.2.2.2.2.2.2.2.2.1 hHeld.2.2.2.2.2.2.2.2.2.1
      rw [HM] at CM
      clear HM
      go_wp2_with (first | (go_at_call 15; refine CM.mono ?_; rintro e z16 ⟨rfl, hb16⟩))
      clear CM
      refine hK.out _ _ ?_ (fun hHeld2 => ?_)
      · exact Fin.step HG.out hHeld hb16
      clear hK K
      replace hHeld := hHeld2
      clear hHeld2
      refine Reg.take (i := 17) (d := 123) (v := ?_) rfl rfl (by kernel_rfl) (by kernel_rfl) (by kernel_rfl) (fun _ _ _ h => h) (by rfl) ?_ hHeld ?_
      rotate_left
      · rintro W ⟨c0, c1, c2, c3, d0, d1, d2, -, -, -, -⟩
        first | (go_simp; done) | (go_simp; with_reducible rfl)
      simp only [Act.put, List.setIfInBounds_toArray, List.set_cons_zero, List.set_cons_succ]
      refine Reg.take (i := 18) (d := 124) (v := ?_) rfl rfl (by kernel_rfl) (by kernel_rfl) (by kernel_rfl) (fun _ _ _ h => h) (by rfl) ?_ hHeld ?_
      rotate_left
      · rintro W ⟨c0, c1, c2, c3, d0, d1, d2, -, -, -, -⟩
        first | (go_simp; done) | (go_simp; with_reducible rfl)
      simp only [Act.put, List.setIfInBounds_toArray, List.set_cons_zero, List.set_cons_succ]
      refine Reg.take (i := 19) (d := 125) (v := ?_) rfl rfl (by kernel_rfl) (by kernel_rfl) (by kernel_rfl) (fun _ _ _ h => h) (by rfl) ?_ hHeld ?_
      rotate_left
      · rintro W ⟨c0, c1, c2, c3, d0, d1, d2, -, -, -, -⟩
        first | (go_simp; done) | (go_simp; with_reducible rfl)
      simp only [Act.put, List.setIfInBounds_toArray, List.set_cons_zero, List.set_cons_succ]
      refine Reg.take (i := 20) (d := 126) (v := ?_) rfl rfl (by kernel_rfl) (by kernel_rfl) (by kernel_rfl) (fun _ _ _ h => h) (by rfl) ?_ hHeld ?_
      rotate_left
      · rintro W ⟨c0, c1, c2, c3, d0, d1, d2, -, -, -, -⟩
        first | (go_simp; done) | (go_simp; with_reducible rfl)
      simp only [Act.put, List.setIfInBounds_toArray, List.set_cons_zero, List.set_cons_succ]
      refine Reg.take (i := 21) (d := 127) (v := ?_) rfl rfl (by kernel_rfl) (by kernel_rfl) (by kernel_rfl) (fun _ _ _ h => h) (by rfl) ?_ hHeld ?_
      rotate_left
      · rintro W ⟨c0, c1, c2, c3, d0, d1, d2, -, -, -, -⟩
        first | (go_simp; done) | (go_simp; with_reducible rfl)
      simp only [Act.put, List.setIfInBounds_toArray, List.set_cons_zero, List.set_cons_succ]
      refine Reg.take (i := 22) (d := 128) (v := ?_) rfl rfl (by kernel_rfl) (by kernel_rfl) (by kernel_rfl) (fun _ _ _ h => h) (by rfl) ?_ hHeld ?_
      rotate_left
      · rintro W ⟨c0, c1, c2, c3, d0, d1, d2, -, -, -, -⟩
        first | (go_simp; done) | (go_simp; with_reducible rfl)
      simp only [Act.put, List.setIfInBounds_toArray, List.set_cons_zero, List.set_cons_succ]
      refine Reg.call (i := 23) rfl (by kernel_rfl) (by rfl) (fun K hK => ?_)
      go_wp2_with (first | (go_at_call 20; refine (HC8.out _ hHeld.2.2.2.2.2.2.2.2.1 hHeld.2.2.2.2.2.2.2.2.2.1).mono ?_; rintro e z23 ⟨rfl, hb23⟩))
      refine hK.out _ _ ?_ (fun hHeld2 => ?_)
      · exact Fin.step HG.out hHeld hb23
      clear hK K
      replace hHeld := hHeld2
      clear hHeld2
      refine Reg.take (i := 24) (d := 130) (v := ?_) rfl rfl (by kernel_rfl) (by kernel_rfl) (by kernel_rfl) (fun _ _ _ h => h) (by rfl) ?_ hHeld ?_
      rotate_left
      · rintro W ⟨c0, c1, c2, c3, d0, d1, d2, -, -, -, -⟩
        first | (go_simp; done) | (go_simp; with_reducible rfl)
      simp only [Act.put, List.setIfInBounds_toArray, List.set_cons_zero, List.set_cons_succ]
      refine Reg.pass (i := 25) (d := 131) rfl rfl (by kernel_rfl) (by kernel_rfl) (by kernel_rfl) (fun _ _ _ h => h) (by rfl) hHeld ?_
      simp only [Act.put, List.setIfInBounds_toArray, List.set_cons_zero, List.set_cons_succ]
      refine Reg.pass (i := 26) (d := 132) rfl rfl (by kernel_rfl) (by kernel_rfl) (by kernel_rfl) (fun _ _ _ h => h) (by rfl) hHeld ?_
      simp only [Act.put, List.setIfInBounds_toArray, List.set_cons_zero, List.set_cons_succ]
      refine Reg.pass (i := 27) (d := 133) rfl rfl (by kernel_rfl) (by kernel_rfl) (by kernel_rfl) (fun _ _ _ h => h) (by rfl) hHeld ?_
      simp only [Act.put, List.setIfInBounds_toArray, List.set_cons_zero, List.set_cons_succ]
      refine Reg.pass (i := 28) (d := 134) rfl rfl (by kernel_rfl) (by kernel_rfl) (by kernel_rfl) (fun _ _ _ h => h) (by rfl) hHeld ?_
      simp only [Act.put, List.setIfInBounds_toArray, List.set_cons_zero, List.set_cons_succ]
      refine Reg.pass (i := 29) (d := 135) rfl rfl (by kernel_rfl) (by kernel_rfl) (by kernel_rfl) (fun _ _ _ h => h) (by rfl) hHeld ?_
      simp only [Act.put, List.setIfInBounds_toArray, List.set_cons_zero, List.set_cons_succ]
      refine Reg.pass (i := 30) (d := 136) rfl rfl (by kernel_rfl) (by kernel_rfl) (by kernel_rfl) (fun _ _ _ h => h) (by rfl) hHeld ?_
      simp only [Act.put, List.setIfInBounds_toArray, List.set_cons_zero, List.set_cons_succ]
      refine Reg.take (i := 31) (d := 137) (v := ?_) rfl rfl (by kernel_rfl) (by kernel_rfl) (by kernel_rfl) (fun _ _ _ h => h) (by rfl) ?_ hHeld ?_
      rotate_left
      · rintro W ⟨c0, c1, c2, c3, d0, d1, d2, -, -, -, -⟩
        first | (go_simp; done) | (go_simp; with_reducible rfl)
      simp only [Act.put, List.setIfInBounds_toArray, List.set_cons_zero, List.set_cons_succ]
      refine Reg.take (i := 32) (d := 138) (v := ?_) rfl rfl (by kernel_rfl) (by kernel_rfl) (by kernel_rfl) (fun _ _ _ h => h) (by rfl) ?_ hHeld ?_
      rotate_left
      · rintro W ⟨c0, c1, c2, c3, d0, d1, d2, -, -, -, -⟩
        first | (go_simp; done) | (go_simp; with_reducible rfl)
      simp only [Act.put, List.setIfInBounds_toArray, List.set_cons_zero, List.set_cons_succ]
      refine Reg.take (i := 33) (d := 2) (v := ?_) rfl rfl (by kernel_rfl) (by kernel_rfl) (by kernel_rfl) (fun _ _ _ h => h) (by rfl) ?_ hHeld ?_
      rotate_left
      · rintro W ⟨c0, c1, c2, c3, d0, d1, d2, -, -, -, -⟩
        first | (go_simp; done) | (go_simp; with_reducible rfl)
      simp only [Act.put, List.setIfInBounds_toArray, List.set_cons_zero, List.set_cons_succ]
      refine wpAnyH_done (by kernel_rfl) ?_ _
      have HE := Num.hide hHeld.2.2.2.2.2.2.2.2.2.2
      clear hHeld HD
      go_wp2
      go_ret
      exact ⟨rfl, HE.out⟩
    | false =>
      go_wp2
      refine wp_region_held_drew (S := Fin G w gq m u (.slice av1 l1.length cv1) l1 b1 st (.slice av2 l2.length cv2) l2 b2) (by kernel_rfl) HD.out (fun hHeld => ?_)
      refine Reg.take (i := 0) (d := 106) (v := ?_) rfl rfl (by kernel_rfl) (by kernel_rfl) (by kernel_rfl) (fun _ _ _ h => h) (by rfl) ?_ hHeld ?_
      rotate_left
      · rintro W ⟨c0, c1, c2, c3, d0, d1, d2, -, -, -, -⟩
        first | (go_simp; done) | (go_simp; with_reducible rfl)
      simp only [Act.put, List.setIfInBounds_toArray, List.set_cons_zero, List.set_cons_succ]
      refine Reg.take (i := 1) (d := 107) (v := ?_) rfl rfl (by kernel_rfl) (by kernel_rfl) (by kernel_rfl) (fun _ _ _ h => h) (by rfl) ?_ hHeld ?_
      rotate_left
      · rintro W ⟨c0, c1, c2, c3, d0, d1, d2, -, -, -, -⟩
        first | (go_simp; done) | (go_simp; with_reducible rfl)
      simp only [Act.put, List.setIfInBounds_toArray, List.set_cons_zero, List.set_cons_succ]
      refine Reg.take (i := 2) (d := 108) (v := ?_) rfl rfl (by kernel_rfl) (by kernel_rfl) (by kernel_rfl) (fun _ _ _ h => h) (by rfl) ?_ hHeld ?_
      rotate_left
      · rintro W ⟨c0, c1, c2, c3, d0, d1, d2, -, -, -, -⟩
        first | (go_simp; done) | (go_simp; with_reducible rfl)
      simp only [Act.put, List.setIfInBounds_toArray, List.set_cons_zero, List.set_cons_succ]
      refine Reg.take (i := 3) (d := 109) (v := ?_) rfl rfl (by kernel_rfl) (by kernel_rfl) (by kernel_rfl) (fun _ _ _ h => h) (by rfl) ?_ hHeld ?_
      rotate_left
      · rintro W ⟨c0, c1, c2, c3, d0, d1, d2, -, -, -, -⟩
        first | (go_simp; done) | (go_simp; with_reducible rfl)
      simp only [Act.put, List.setIfInBounds_toArray, List.set_cons_zero, List.set_cons_succ]
      refine Reg.take (i := 4) (d := 110) (v := ?_) rfl rfl (by kernel_rfl) (by kernel_rfl) (by kernel_rfl) (fun _ _ _ h => h) (by rfl) ?_ hHeld ?_
      rotate_left
      · rintro W ⟨c0, c1, c2, c3, d0, d1, d2, -, -, -, -⟩
        first | (go_simp; done) | (go_simp; with_reducible rfl)
      simp only [Act.put, List.setIfInBounds_toArray, List.set_cons_zero, List.set_cons_succ]
      refine Reg.call (i := 5) rfl (by kernel_rfl) (by rfl) (fun K hK => ?_)
      go_wp2_with (first | (go_at_call 15; refine (HC6.out _ hHeld.2.2.2.2.2.2.2.1 hHeld.2.2.2.2.2.2.2.2.1 hHeld.2.2.2.2.2.2.2.2.2.1).mono ?_; rintro e z5 ⟨rfl, hb5⟩))
      refine hK.out _ _ ?_ (fun hHeld2 => ?_)
      · exact Fin.step HG.out hHeld hb5
      clear hK K
      replace hHeld := hHeld2
      clear hHeld2
      refine Reg.take (i := 6) (d := 112) (v := ?_) rfl rfl (by kernel_rfl) (by kernel_rfl) (by kernel_rfl) (fun _ _ _ h => h) (by rfl) ?_ hHeld ?_
      rotate_left
      · rintro W ⟨c0, c1, c2, c3, d0, d1, d2, -, -, -, -⟩
        first | (go_simp; done) | (go_simp; with_reducible rfl)
      simp only [Act.put, List.setIfInBounds_toArray, List.set_cons_zero, List.set_cons_succ]
      refine Reg.take (i := 7) (d := 113) (v := ?_) rfl rfl (by kernel_rfl) (by kernel_rfl) (by kernel_rfl) (fun _ _ _ h => h) (by rfl) ?_ hHeld ?_
      rotate_left
      · rintro W ⟨c0, c1, c2, c3, d0, d1, d2, -, -, -, -⟩
        first | (go_simp; done) | (go_simp; with_reducible rfl)
      simp only [Act.put, List.setIfInBounds_toArray, List.set_cons_zero, List.set_cons_succ]
      refine Reg.take (i := 8) (d := 114) (v := ?_) rfl rfl (by kernel_rfl) (by kernel_rfl) (by kernel_rfl) (fun _ _ _ h => h) (by rfl) ?_ hHeld ?_
      rotate_left
      · rintro W ⟨c0, c1, c2, c3, d0, d1, d2, -, -, -, -⟩
        first | (go_simp; done) | (go_simp; with_reducible rfl)
      simp only [Act.put, List.setIfInBounds_toArray, List.set_cons_zero, List.set_cons_succ]
      refine Reg.take (i := 9) (d := 115) (v := ?_) rfl rfl (by kernel_rfl) (by kernel_rfl) (by kernel_rfl) (fun _ _ _ h => h) (by rfl) ?_ hHeld ?_
      rotate_left
      · rintro W ⟨c0, c1, c2, c3, d0, d1, d2, -, -, -, -⟩
        first | (go_simp; done) | (go_simp; with_reducible rfl)
      simp only [Act.put, List.setIfInBounds_toArray, List.set_cons_zero, List.set_cons_succ]
      refine Reg.take (i := 10) (d := 116) (v := ?_) rfl rfl (by kernel_rfl) (by kernel_rfl) (by kernel_rfl) (fun _ _ _ h => h) (by rfl) ?_ hHeld ?_
      rotate_left
      · rintro W ⟨c0, c1, c2, c3, d0, d1, d2, -, -, -, -⟩
        first | (go_simp; done) | (go_simp; with_reducible rfl)
      simp only [Act.put, List.setIfInBounds_toArray, List.set_cons_zero, List.set_cons_succ]
      refine Reg.take (i := 11) (d := 117) (v := ?_) rfl rfl (by kernel_rfl) (by kernel_rfl) (by kernel_rfl) (fun _ _ _ h => h) (by rfl) ?_ hHeld ?_
      rotate_left
      · rintro W ⟨c0, c1, c2, c3, d0, d1, d2, -, -, -, -⟩
        first | (go_simp; done) | (go_simp; with_reducible rfl)
      simp only [Act.put, List.setIfInBounds_toArray, List.set_cons_zero, List.set_cons_succ]
      refine Reg.take (i := 12) (d := 118) (v := ?_) rfl rfl (by kernel_rfl) (by kernel_rfl) (by kernel_rfl) (fun _ _ _ h => h) (by rfl) ?_ hHeld ?_
      rotate_left
      · rintro W ⟨c0, c1, c2, c3, d0, d1, d2, -, -, -, -⟩
        first | (go_simp; done) | (go_simp; with_reducible rfl)
      simp only [Act.put, List.setIfInBounds_toArray, List.set_cons_zero, List.set_cons_succ]
      refine Reg.take (i := 13) (d := 119) (v := ?_) rfl rfl (by kernel_rfl) (by kernel_rfl) (by kernel_rfl) (fun _ _ _ h => h) (by rfl) ?_ hHeld ?_
      rotate_left
      · rintro W ⟨c0, c1, c2, c3, d0, d1, d2, -, -, -, -⟩
        first | (go_simp; done) | (go_simp; with_reducible rfl)
      simp only [Act.put, List.setIfInBounds_toArray, List.set_cons_zero, List.set_cons_succ]
      refine Reg.call (i := 14) rfl (by kernel_rfl) (by rfl) (fun K hK => ?_)
      go_wp2_with (first | (go_at_call 19; refine (at_zero w.heap.size cap a l0 _ (HC.out.below hHeld.2.2.2.2.2.2.2.2.2.2) hl0).mono ?_; rintro e z14 ⟨k, rfl, hk0, hk1, rfl⟩))
      refine hK.out _ _ ?_ (fun hHeld2 => ?_)
      · exact hHeld
      clear hK K
      replace hHeld := hHeld2
      clear hHeld2
      refine Reg.take (i := 15) (d := 121) (v := ?_) rfl rfl (by kernel_rfl) (by kernel_rfl) (by kernel_rfl) (fun _ _ _ h => h) (by rfl) ?_ hHeld ?_
      rotate_left
      · rintro W ⟨c0, c1, c2, c3, d0, d1, d2, -, -, -, -⟩
        first | (go_simp; done) | (go_simp; with_reducible rfl)
      simp only [Act.put, List.setIfInBounds_toArray, List.set_cons_zero, List.set_cons_succ]
      rw [show IntKind.i64.wrap (now + k) = now + k by rw [IntKind.wrap_i64]; omega]
      refine Reg.call (i := 16) rfl (by kernel_rfl) (by rfl) (fun K hK => ?_)
      have HM := HLat.out k hk0 trivial
      have CM := HC7.out k _ hk0 (by omega) hHeld.2.2.2.2.2.2.2.1 hHeld.2.2.2.2.2.2.2.2.1 hHeld.2.2.2.2.2.2.2.2.2.1
      rw [HM] at CM
      clear HM
      go_wp2_with (first | (go_at_call 15; refine CM.mono ?_; rintro e z16 ⟨rfl, hb16⟩))
      clear CM
      refine hK.out _ _ ?_ (fun hHeld2 => ?_)
      · exact Fin.step HG.out hHeld hb16
      clear hK K
      replace hHeld := hHeld2
      clear hHeld2
      refine Reg.take (i := 17) (d := 123) (v := ?_) rfl rfl (by kernel_rfl) (by kernel_rfl) (by kernel_rfl) (fun _ _ _ h => h) (by rfl) ?_ hHeld ?_
      rotate_left
      · rintro W ⟨c0, c1, c2, c3, d0, d1, d2, -, -, -, -⟩
        first | (go_simp; done) | (go_simp; with_reducible rfl)
      simp only [Act.put, List.setIfInBounds_toArray, List.set_cons_zero, List.set_cons_succ]
      refine Reg.take (i := 18) (d := 124) (v := ?_) rfl rfl (by kernel_rfl) (by kernel_rfl) (by kernel_rfl) (fun _ _ _ h => h) (by rfl) ?_ hHeld ?_
      rotate_left
      · rintro W ⟨c0, c1, c2, c3, d0, d1, d2, -, -, -, -⟩
        first | (go_simp; done) | (go_simp; with_reducible rfl)
      simp only [Act.put, List.setIfInBounds_toArray, List.set_cons_zero, List.set_cons_succ]
      refine Reg.take (i := 19) (d := 125) (v := ?_) rfl rfl (by kernel_rfl) (by kernel_rfl) (by kernel_rfl) (fun _ _ _ h => h) (by rfl) ?_ hHeld ?_
      rotate_left
      · rintro W ⟨c0, c1, c2, c3, d0, d1, d2, -, -, -, -⟩
        first | (go_simp; done) | (go_simp; with_reducible rfl)
      simp only [Act.put, List.setIfInBounds_toArray, List.set_cons_zero, List.set_cons_succ]
      refine Reg.take (i := 20) (d := 126) (v := ?_) rfl rfl (by kernel_rfl) (by kernel_rfl) (by kernel_rfl) (fun _ _ _ h => h) (by rfl) ?_ hHeld ?_
      rotate_left
      · rintro W ⟨c0, c1, c2, c3, d0, d1, d2, -, -, -, -⟩
        first | (go_simp; done) | (go_simp; with_reducible rfl)
      simp only [Act.put, List.setIfInBounds_toArray, List.set_cons_zero, List.set_cons_succ]
      refine Reg.take (i := 21) (d := 127) (v := ?_) rfl rfl (by kernel_rfl) (by kernel_rfl) (by kernel_rfl) (fun _ _ _ h => h) (by rfl) ?_ hHeld ?_
      rotate_left
      · rintro W ⟨c0, c1, c2, c3, d0, d1, d2, -, -, -, -⟩
        first | (go_simp; done) | (go_simp; with_reducible rfl)
      simp only [Act.put, List.setIfInBounds_toArray, List.set_cons_zero, List.set_cons_succ]
      refine Reg.take (i := 22) (d := 128) (v := ?_) rfl rfl (by kernel_rfl) (by kernel_rfl) (by kernel_rfl) (fun _ _ _ h => h) (by rfl) ?_ hHeld ?_
      rotate_left
      · rintro W ⟨c0, c1, c2, c3, d0, d1, d2, -, -, -, -⟩
        first | (go_simp; done) | (go_simp; with_reducible rfl)
      simp only [Act.put, List.setIfInBounds_toArray, List.set_cons_zero, List.set_cons_succ]
      refine Reg.call (i := 23) rfl (by kernel_rfl) (by rfl) (fun K hK => ?_)
      go_wp2_with (first | (go_at_call 20; refine (HC8.out _ hHeld.2.2.2.2.2.2.2.2.1 hHeld.2.2.2.2.2.2.2.2.2.1).mono ?_; rintro e z23 ⟨rfl, hb23⟩))
      refine hK.out _ _ ?_ (fun hHeld2 => ?_)
      · exact Fin.step HG.out hHeld hb23
      clear hK K
      replace hHeld := hHeld2
      clear hHeld2
      refine Reg.take (i := 24) (d := 130) (v := ?_) rfl rfl (by kernel_rfl) (by kernel_rfl) (by kernel_rfl) (fun _ _ _ h => h) (by rfl) ?_ hHeld ?_
      rotate_left
      · rintro W ⟨c0, c1, c2, c3, d0, d1, d2, -, -, -, -⟩
        first | (go_simp; done) | (go_simp; with_reducible rfl)
      simp only [Act.put, List.setIfInBounds_toArray, List.set_cons_zero, List.set_cons_succ]
      refine Reg.take (i := 25) (d := 131) (v := ?_) rfl rfl (by kernel_rfl) (by kernel_rfl) (by kernel_rfl) (fun _ _ _ h => h) (by rfl) ?_ hHeld ?_
      rotate_left
      · rintro W ⟨c0, c1, c2, c3, d0, d1, d2, -, -, -, -⟩
        first | (go_simp; done) | (go_simp; with_reducible rfl)
      simp only [Act.put, List.setIfInBounds_toArray, List.set_cons_zero, List.set_cons_succ]
      refine Reg.take (i := 26) (d := 132) (v := ?_) rfl rfl (by kernel_rfl) (by kernel_rfl) (by kernel_rfl) (fun _ _ _ h => h) (by rfl) ?_ hHeld ?_
      rotate_left
      · rintro W ⟨c0, c1, c2, c3, d0, d1, d2, -, -, -, -⟩
        first | (go_simp; done) | (go_simp; with_reducible rfl)
      simp only [Act.put, List.setIfInBounds_toArray, List.set_cons_zero, List.set_cons_succ]
      refine Reg.take (i := 27) (d := 133) (v := ?_) rfl rfl (by kernel_rfl) (by kernel_rfl) (by kernel_rfl) (fun _ _ _ h => h) (by rfl) ?_ hHeld ?_
      rotate_left
      · rintro W ⟨c0, c1, c2, c3, d0, d1, d2, -, -, -, -⟩
        first | (go_simp; done) | (go_simp; with_reducible rfl)
      simp only [Act.put, List.setIfInBounds_toArray, List.set_cons_zero, List.set_cons_succ]
      refine Reg.take (i := 28) (d := 134) (v := ?_) rfl rfl (by kernel_rfl) (by kernel_rfl) (by kernel_rfl) (fun _ _ _ h => h) (by rfl) ?_ hHeld ?_
      rotate_left
      · rintro W ⟨c0, c1, c2, c3, d0, d1, d2, -, -, -, -⟩
        first | (go_simp; done) | (go_simp; with_reducible rfl)
      simp only [Act.put, List.setIfInBounds_toArray, List.set_cons_zero, List.set_cons_succ]
      refine Reg.take (i := 29) (d := 135) (v := ?_) rfl rfl (by kernel_rfl) (by kernel_rfl) (by kernel_rfl) (fun _ _ _ h => h) (by rfl) ?_ hHeld ?_
      rotate_left
      · rintro W ⟨c0, c1, c2, c3, d0, d1, d2, -, -, -, -⟩
        first | (go_simp; done) | (go_simp; with_reducible rfl)
      simp only [Act.put, List.setIfInBounds_toArray, List.set_cons_zero, List.set_cons_succ]
      refine Reg.call (i := 30) rfl (by kernel_rfl) (by rfl) (fun K hK => ?_)
      go_wp2_with (first | (go_at_call 15; refine (HC6.out _ hHeld.2.2.2.2.2.2.2.1 hHeld.2.2.2.2.2.2.2.2.1 hHeld.2.2.2.2.2.2.2.2.2.1).mono ?_; rintro e z30 ⟨rfl, hb30⟩))
      refine hK.out _ _ ?_ (fun hHeld2 => ?_)
      · exact Fin.step HG.out hHeld hb30
      clear hK K
      replace hHeld := hHeld2
      clear hHeld2
      refine Reg.take (i := 31) (d := 137) (v := ?_) rfl rfl (by kernel_rfl) (by kernel_rfl) (by kernel_rfl) (fun _ _ _ h => h) (by rfl) ?_ hHeld ?_
      rotate_left
      · rintro W ⟨c0, c1, c2, c3, d0, d1, d2, -, -, -, -⟩
        first | (go_simp; done) | (go_simp; with_reducible rfl)
      simp only [Act.put, List.setIfInBounds_toArray, List.set_cons_zero, List.set_cons_succ]
      refine Reg.take (i := 32) (d := 138) (v := ?_) rfl rfl (by kernel_rfl) (by kernel_rfl) (by kernel_rfl) (fun _ _ _ h => h) (by rfl) ?_ hHeld ?_
      rotate_left
      · rintro W ⟨c0, c1, c2, c3, d0, d1, d2, -, -, -, -⟩
        first | (go_simp; done) | (go_simp; with_reducible rfl)
      simp only [Act.put, List.setIfInBounds_toArray, List.set_cons_zero, List.set_cons_succ]
      refine Reg.take (i := 33) (d := 2) (v := ?_) rfl rfl (by kernel_rfl) (by kernel_rfl) (by kernel_rfl) (fun _ _ _ h => h) (by rfl) ?_ hHeld ?_
      rotate_left
      · rintro W ⟨c0, c1, c2, c3, d0, d1, d2, -, -, -, -⟩
        first | (go_simp; done) | (go_simp; with_reducible rfl)
      simp only [Act.put, List.setIfInBounds_toArray, List.set_cons_zero, List.set_cons_succ]
      refine wpAnyH_done (by kernel_rfl) ?_ _
      have HE := Num.hide hHeld.2.2.2.2.2.2.2.2.2.2
      clear hHeld HD
      go_wp2
      go_ret
      exact ⟨rfl, HE.out⟩
end Strict
end Go.Proofs.YtbcjpjhpobmpbaaGreatDoor
