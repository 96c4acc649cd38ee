/-
  LeastImpl: leastSaid of the program: the least that is said of each name, in a map of the call's own.
-/
import Derived.Test.YtjeokackmkfooaaDoorQbi
import Derived.Test.YtjeokackmkfooaaDoorQbj
namespace Go.Proofs.YtjeokackmkfooaaDoor
open Go.RowKit Go.WideMaps Go.Maps
set_option linter.unusedVariables false
namespace Cc
open Flds (Fld)

theorem least_same (d : List Fld) (k : Nat) (h : k < d.length) : least (d.take (k + 1)) d[k].1 = some (lesser (least (d.take k) d[k].1) (Sign.secs d[k].2).1) := by
  rw [least_take d _ k h]; unfold leastStep; rw [if_pos rfl]
theorem least_other (d : List Fld) (k : Nat) (h : k < d.length) (t : ByteArray) (ht : ¬ t = d[k].1) : least (d.take (k + 1)) t = least (d.take k) t := by
  rw [least_take d _ k h]; unfold leastStep; rw [if_neg (fun e => ht e.symm)]
/-- the memory within -/
structure LMid (w w1 : World) (dv : Value) (d : List Fld) (k : Nat) (wr : World) : Prop where
  map : ∃ D, MapIs wr w.heap.size k D ∧ Tells D (least (d.take k))
  dirs : Flds.Is wr dv d
  below : Below w.heap.size w wr
  size : w1.heap.size ≤ wr.heap.size
theorem LMid.step {w w1 : World} {dv : Value} {d : List Fld} {k : Nat} {wr : World} (m : LMid w w1 dv d k wr) (hw : w.heap.size ≤ w1.heap.size) {w' : World} (h : Below wr.heap.size wr w') : LMid w w1 dv d k w' where
  map := by
    obtain ⟨D, h1, h2⟩ := m.map
    exact ⟨D, h1.kept (Strs.grown_of_below h none) (by simp), h2⟩
  dirs := Recs.is_below m.dirs h
  below := m.below.trans (h.mono (Nat.le_trans hw m.size))
  size := Nat.le_trans m.size h.size
theorem LMid.put {w w1 : World} {db dp dc : Nat} {d : List Fld} {k : Nat} {wr : World} (m : LMid w w1 (.slice (some ⟨db, dp, none⟩) d.length dc) d k wr) (hk : k < d.length) (hdb : w.heap.size < db) (hdb2 : db < w1.heap.size) {D : DataW Unit} (hD : IsMap D) (hT : Tells D (least (d.take k))) {c : Int} (hc : least (d.take (k + 1)) d[k].1 = some c) {w' : World}
    (hmap : MapIs w' w.heap.size (k + 1) (D.put (key d[k].1) (.lit (.int .i64 c)))) (hg : wr.grownBy w' (some w.heap.size)) : LMid w w1 (.slice (some ⟨db, dp, none⟩) d.length dc) d (k + 1) w' where
  map := ⟨_, hmap, tells_put hT hD _ c hc (fun t ht => least_other d k hk t ht)⟩
  dirs := by
    obtain ⟨a, c, h1, h2⟩ := m.dirs
    refine ⟨a, c, h1, fun hp => ?_⟩
    obtain ⟨b, o, rfl, h4, h5, h6, h7⟩ := h2 hp
    cases h1
    have hb : w'.heap[db]? = wr.heap[db]? := hg.block db h6 (by intro e; cases e; omega)
    refine ⟨db, dp, rfl, h4, h5, Nat.lt_of_lt_of_le h6 hg.size, fun i hi j u hu => ?_⟩
    have e : w'.cell? ⟨db, dp + (i * 2 + j), none⟩ = wr.cell? ⟨db, dp + (i * 2 + j), none⟩ := by unfold World.cell?; simp only [hb]
    rw [e]; exact h7 i hi j u hu
  below := m.below.grown hg (by have := m.size; omega) (fun j hj => by cases hj; exact Nat.le_refl _)
  size := Nat.le_trans m.size hg.size
theorem LMid.cell {w w1 : World} {db dp dc : Nat} {d : List Fld} {k : Nat} {wr : World} (m : LMid w w1 (.slice (some ⟨db, dp, none⟩) d.length dc) d k wr) (hk : k < d.length) : wr.cell? ⟨db, dp + k * 2, none⟩ = some (.string d[k].1) ∧ wr.cell? ⟨db, dp + k * 2 + 1, none⟩ = some (.string d[k].2) ∧ d.length ≤ dc ∧ dc ≤ maxLen := by
  obtain ⟨a, c, h1, h2⟩ := Flds.is_form m.dirs
  obtain ⟨b, o, rfl, h4, h5, h6, h7⟩ := h2 (by omega)
  cases h1
  exact ⟨(h7 k hk).1, (h7 k hk).2, h4, h5⟩

set_option maxRecDepth 100000 in
set_option maxHeartbeats 4000000 in
theorem least_impl (v : Value) (l : List Fld) (w : World) (h : Flds.Is w v l) (hl : Flds.bulk l ≤ 1048576) (hm : Lim w) (hS : Sign.Signs w) :
    Calls Tryd.prog 17 #[v] w fun e w' => e = .returned (.map (some w.heap.size)) ∧ (∃ D, MapIs w' w.heap.size (dirs l).length D ∧ Tells D (least (dirs l))) ∧ Below w.heap.size w w' := by
  have hlen := dirs_len l
  have hsm := dirs_small l
  have hb0 := (Below.refl w.heap.size w).alloc (Nat.le_refl _) (.map #[] 0)
  have HDi := Num.hide (dirs_impl v l (w.alloc (.map #[] 0)) (Recs.is_below h hb0) hl (lim_below hm hb0 (lim_lt hm)) (signs_below hS hb0 (signs_lt hS)))
  obtain ⟨d, hd⟩ : ∃ d, dirs l = d := ⟨_, rfl⟩
  rw [hd] at hlen hsm HDi ⊢
  have HZ := Num.hide hsm
  have HB0 := Num.hide hb0
  have HM0 : Hid (MapIs (w.alloc (.map #[] 0)) w.heap.size 0 (.map [])) := World.ownsMap_made _ _ _ _
  have hw1 : (w.alloc (.map #[] 0)).heap.size = w.heap.size + 1 := by simp
  have HW1 := Num.hide hw1
  have hmm := @run_makeMap Tryd.prog
  clear h hm hS hd hsm hb0 hw1
  go_enter Tryd.func17, Tryd.ntmps17
  go_wp2_with fail
  refine HDi.out.mono ?_
  rintro e w1 ⟨dv, rfl, ho, hb⟩
  obtain ⟨da, dc, rfl⟩ := Recs.own_len ho
  have hsz1 := hb.size
  rw [HW1.out] at hsz1
  have HP : Hid (0 < d.length → ∃ db dp, da = some ⟨db, dp, none⟩ ∧ w.heap.size < db ∧ db < w1.heap.size) := by
    intro hp
    have hlt := Recs.own_lt ho
    rcases ho.2 with ⟨_, h2⟩ | ⟨g, cap, cur, h1, hB, hg, _⟩
    · omega
    · cases h1
      have := (hlt g rfl).2
      exact ⟨g, 0, rfl, by have := HW1.out; omega, this⟩
  have HM : Hid (LMid w w1 (.slice da d.length dc) d 0 w1) :=
    ⟨⟨_, HM0.out.kept (Strs.grown_of_below hb none) (by simp), tells_start⟩, Recs.own_is Flds.cells_len ho, HB0.out.trans (hb.mono (by have := HW1.out; omega)), Nat.le_refl _⟩
  clear ho hb HM0 HB0 HDi HW1
  go_wp2
  go_loopw [14] (fun iv wr => ∃ i : Nat, i ≤ d.length ∧ iv = .int .i64 (i : Int) ∧ Hid (LMid w w1 (.slice da d.length dc) d i wr)) (fun iv _ => d.length - (intOf iv).toNat)
  case atStart => exact ⟨0, by omega, rfl, HM⟩
  case round =>
    clear HM hmm
    obtain ⟨i, hi, rfl, HM⟩ := hrel
    by_cases hlt : i < d.length
    · obtain ⟨db, dp, rfl, hdb1, hdb2⟩ := HP.out (by omega)
      obtain ⟨c1, c2, hc, hmx⟩ := HM.out.cell hlt
      have hz := HZ.out d[i] (List.getElem_mem hlt)
      have hsb := secs_bd d[i].2
      have HS := Num.hide (fun W => Sign.seconds_impl d[i].2 W (by unfold maxLen; omega))
      have HSm := Num.hide (least_same d i hlt)
      have HPut := Num.hide (fun (W : World) (m : LMid w w1 (.slice (some ⟨db, dp, none⟩) d.length dc) d i W) (D : DataW Unit) (hD : IsMap D) (hT : Tells D (least (d.take i))) (c : Int) (hc : least (d.take (i + 1)) d[i].1 = some c) (w' : World) => m.put hlt hdb1 hdb2 hD hT hc (w' := w'))
      generalize d[i] = f at c1 c2 hz hsb HS HSm HPut
      obtain ⟨x, y⟩ := f
      simp only at c1 c2 hz hsb HS HSm HPut
      generalize Sign.secs y = sc at hsb HS HSm
      obtain ⟨n, bn⟩ := sc
      simp only at hsb HS HSm
      have hkx := key_of x (by unfold maxLen; omega)
      have HK := Num.hide hkx
      clear hkx
      have HM2 := Num.hide (HM.out.step (by omega) ((Below.refl wr.heap.size wr).alloc (Nat.le_refl _) (.cells #[.string x, .string y] 42)))
      have hszr := HM.out.size
      clear HM
      go_wp2_with fail
      refine (HS.out _).mono ?_
      rintro e w2 ⟨rfl, rfl⟩
      obtain ⟨D, hown, hT⟩ := HM2.out.map
      have hown2 := Num.hide hown
      have HT := Num.hide hT
      have HI := Num.hide (hown.isMap)
      have hhas := hT x
      clear hown hT
      cases hm : least (d.take i) x with
      | none =>
        rw [hm] at HSm hhas
        have hbf : Go.Maps.has D (key x) = false := hhas.1
        have HC : Hid (∀ c, D.atKey (key x) (.lit (.int .i64 0)) = .lit (.int .i64 c) → c = 0) := by
          intro c hc
          rw [atKey_of_not_has hbf] at hc
          injection hc with hc; injection hc with _ hc; exact hc.symm
        have HSm : Hid (least (d.take (i + 1)) x = some n) := HSm.out
        clear hm hhas
        go_wp2_with (first | (at_lookup; refine wpList_lookup_own_ok_int _ rfl _ _ 46 rfl 9 3 .i64 law Tryd.underlying46 Tryd.underlying3 (zeroI _) w.heap.size i D rfl hown2.out _ _ rfl HK.out ?_; intro c0 hat hwc; obtain rfl := HC.out c0 hat; clear hat hwc) | (at_mapUpdate; refine wpList_mapUpdate_own _ rfl _ _ _ 46 rfl 9 3 law Tryd.underlying46 _ w.heap.size i D rfl hown2.out (by unfold maxLen; omega) _ _ _ rfl rfl HK.out _ [] (plainElem_int Tryd.underlying3 (WalkArith.wf_i64 (by omega))) ?_; intro w3 hown3 hg3))
        have HM3 := Num.hide (HPut.out _ HM2.out D HI.out HT.out n HSm.out _ hown3 hg3)
        clear hown3 hg3 HM2
        go_roundw
        case rel => exact ⟨i + 1, by omega, by go_num, HM3⟩
        case measure => simp [intOf]; omega
      | some c =>
        rw [hm] at HSm hhas
        have hcb := least_bd (d.take i) x c hm
        have hbt : Go.Maps.has D (key x) = true := hhas.1
        have HC : Hid (∀ c', D.atKey (key x) (.lit (.int .i64 0)) = .lit (.int .i64 c') → c' = c) := by
          intro c' hc
          rw [hhas.2 c rfl] at hc
          injection hc with hc; injection hc with _ hc; exact hc.symm
        have HSm : Hid (least (d.take (i + 1)) x = some (min n c)) := HSm.out
        clear hm hhas
        go_wp2_with (first | (at_lookup; refine wpList_lookup_own_ok_int _ rfl _ _ 46 rfl 9 3 .i64 law Tryd.underlying46 Tryd.underlying3 (zeroI _) w.heap.size i D rfl hown2.out _ _ rfl HK.out ?_; intro c0 hat hwc; obtain rfl := HC.out c0 hat; clear hat hwc) | (at_mapUpdate; refine wpList_mapUpdate_own _ rfl _ _ _ 46 rfl 9 3 law Tryd.underlying46 _ w.heap.size i D rfl hown2.out (by unfold maxLen; omega) _ _ _ rfl rfl HK.out _ [] (plainElem_int Tryd.underlying3 (WalkArith.wf_i64 (by omega))) ?_; intro w3 hown3 hg3))
        have HM3 := Num.hide (HPut.out _ HM2.out D HI.out HT.out _ HSm.out _ hown3 hg3)
        clear hown3 hg3 HM2
        go_roundw
        case rel => exact ⟨i + 1, by omega, by go_num, HM3⟩
        case measure => simp [intOf]; omega
    · obtain rfl : i = d.length := by omega
      have HB := Num.hide HM.out.below
      have hmp := HM.out.map
      rw [List.take_length] at hmp
      have HMp := Num.hide hmp
      clear hmp
      go_wp2
      go_ret
      exact ⟨rfl, HMp.out, HB.out⟩

end Cc
end Go.Proofs.YtjeokackmkfooaaDoor
