/-
  CcMap: A map of numbers by texts, as far as it is asked: what it holds of each text.
  LeastImpl: leastSaid of the program: the least that is said of each name, in a map of the call's own.
  CcHasImpl: CcHas of the program.
  CcEnv: What what is said of caching reads of the program's and the library's variables.
  AnyImpl: What the program asks of what is said of caching: is any of several words said?
  PartsImpl: varyParts of the program: the parts of all that stands under vary, in a row of the call's own.
-/
import Derived.Test.YtbcjpjhpobmpbaaGreatDoorPaa
import Derived.Test.YtbcjpjhpobmpbaaGreatDoorRows
import Derived.WalkKit
import Derived.Maps.OwnSet
import Derived.Maps.OwnOps
import Derived.Maps.Views
import Derived.Test.YtbcjpjhpobmpbaaGreatDoorPao
import Derived.Test.YtbcjpjhpobmpbaaGreatDoorPab
import Derived.Test.YtbcjpjhpobmpbaaGreatDoorPai
import Derived.Test.YtbcjpjhpobmpbaaGreatDoorPah
import Derived.FnLit
import Derived.Test.YtbcjpjhpobmpbaaGreatDoorPan
namespace Go.Proofs.YtbcjpjhpobmpbaaGreatDoor
open Go.RowKit Go.WideMaps Go.Maps
set_option linter.unusedVariables false
namespace Cc

theorem law : Keyed Tryz.prog 9 := string_keyed Tryz.underlying9
theorem zeroI (w : World) : (zeroValue 3).run Tryz.prog w = .ok (.int .i64 0) w := by kernel_rfl
/-- what a text reads as -/
abbrev key (s : ByteArray) : Lit := .string s.data.toList
theorem key_of (s : ByteArray) (hs : s.size ≤ maxLen) : keyOf Tryz.prog 9 (.string s) = some (key s) := keyOf_string_mk Tryz.underlying9 hs
/-- the map at block b reads as D, of at most n entries -/
abbrev MapIs (w : World) (b n : Nat) (D : DataW Unit) : Prop := w.ownsMap Tryz.prog 9 (plainElem Tryz.prog 3) b n D
/-- D holds of each text what m tells -/
def Tells (D : DataW Unit) (m : ByteArray → Option Int) : Prop :=
  ∀ s, Go.Maps.has D (key s) = (m s).isSome ∧ ∀ c, m s = some c → D.atKey (key s) (.lit (.int .i64 0)) = .lit (.int .i64 c)
theorem tells_start : Tells (.map []) (fun _ => none) := fun s => ⟨rfl, fun c h => by cases h⟩
theorem key_inj {s t : ByteArray} (h : key s = key t) : s = t := by
  injection h with h
  exact ByteArray.ext (Array.toList_inj.1 h)
theorem tells_put {D : DataW Unit} {m : ByteArray → Option Int} (h : Tells D m) (hD : IsMap D) (s : ByteArray) (c : Int) {m' : ByteArray → Option Int} (h1 : m' s = some c) (h2 : ∀ t, ¬ t = s → m' t = m t) : Tells (D.put (key s) (.lit (.int .i64 c))) m' := by
  intro t
  have hk : WideAt.IsKeyLit (key s) := by trivial
  by_cases e : t = s
  · subst e
    rw [h1, has_put_same hD hk]
    refine ⟨rfl, fun c' hc => ?_⟩
    cases hc
    exact atKey_put_same hD hk _ _
  · have ne : key t ≠ key s := fun h => e (key_inj h)
    rw [h2 t e, has_put_other ne]
    refine ⟨(h t).1, fun c' hc => ?_⟩
    rw [atKey_put_other ne]
    exact (h t).2 c' hc
/-- what is looked up -/
theorem tells_at {D : DataW Unit} {m : ByteArray → Option Int} (h : Tells D m) (s : ByteArray) {c : Int} (hc : D.atKey (key s) (.lit (.int .i64 0)) = .lit (.int .i64 c)) : (m s = none ∧ Go.Maps.has D (key s) = false ∧ c = 0) ∨ (m s = some c ∧ Go.Maps.has D (key s) = true) := by
  obtain ⟨h1, h2⟩ := h s
  cases e : m s with
  | none =>
    left
    rw [e] at h1
    refine ⟨rfl, h1, ?_⟩
    rw [atKey_of_not_has h1] at hc
    injection hc with hc; injection hc with _ hc; exact hc.symm
  | some c' =>
    right
    rw [e] at h1
    have := h2 c' e
    rw [hc] at this
    injection this with this; injection this with _ this
    exact ⟨by rw [this], h1⟩
end Cc
end Go.Proofs.YtbcjpjhpobmpbaaGreatDoor
namespace Go.Proofs.YtbcjpjhpobmpbaaGreatDoor
open Go.RowKit Go.WideMaps Go.Maps
set_option linter.unusedVariables false
namespace Cc
open Flds (Fld)

theorem least_same (d : List Fld) (k : Nat) (h : k < d.length) : least (d.take (k + 1)) d[k].1 = some (lesser (least (d.take k) d[k].1) (Sign.secs d[k].2).1) := by
  rw [least_take d _ k h]; unfold leastStep; rw [if_pos rfl]
theorem least_other (d : List Fld) (k : Nat) (h : k < d.length) (t : ByteArray) (ht : ¬ t = d[k].1) : least (d.take (k + 1)) t = least (d.take k) t := by
  rw [least_take d _ k h]; unfold leastStep; rw [if_neg (fun e => ht e.symm)]
/-- the memory within -/
structure LMid (w w1 : World) (dv : Value) (d : List Fld) (k : Nat) (wr : World) : Prop where
  map : ∃ D, MapIs wr w.heap.size k D ∧ Tells D (least (d.take k))
  dirs : Flds.Is wr dv d
  below : Below w.heap.size w wr
  size : w1.heap.size ≤ wr.heap.size
theorem LMid.step {w w1 : World} {dv : Value} {d : List Fld} {k : Nat} {wr : World} (m : LMid w w1 dv d k wr) (hw : w.heap.size ≤ w1.heap.size) {w' : World} (h : Below wr.heap.size wr w') : LMid w w1 dv d k w' where
  map := by
    obtain ⟨D, h1, h2⟩ := m.map
    exact ⟨D, h1.kept (Strs.grown_of_below h none) (by simp), h2⟩
  dirs := Recs.is_below m.dirs h
  below := m.below.trans (h.mono (Nat.le_trans hw m.size))
  size := Nat.le_trans m.size h.size
theorem LMid.put {w w1 : World} {db dp dc : Nat} {d : List Fld} {k : Nat} {wr : World} (m : LMid w w1 (.slice (some ⟨db, dp, none⟩) d.length dc) d k wr) (hk : k < d.length) (hdb : w.heap.size < db) (hdb2 : db < w1.heap.size) {D : DataW Unit} (hD : IsMap D) (hT : Tells D (least (d.take k))) {c : Int} (hc : least (d.take (k + 1)) d[k].1 = some c) {w' : World}
    (hmap : MapIs w' w.heap.size (k + 1) (D.put (key d[k].1) (.lit (.int .i64 c)))) (hg : wr.grownBy w' (some w.heap.size)) : LMid w w1 (.slice (some ⟨db, dp, none⟩) d.length dc) d (k + 1) w' where
  map := ⟨_, hmap, tells_put hT hD _ c hc (fun t ht => least_other d k hk t ht)⟩
  dirs := by
    obtain ⟨a, c, h1, h2⟩ := m.dirs
    refine ⟨a, c, h1, fun hp => ?_⟩
    obtain ⟨b, o, rfl, h4, h5, h6, h7⟩ := h2 hp
    cases h1
    have hb : w'.heap[db]? = wr.heap[db]? := hg.block db h6 (by intro e; cases e; omega)
    refine ⟨db, dp, rfl, h4, h5, Nat.lt_of_lt_of_le h6 hg.size, fun i hi j u hu => ?_⟩
    have e : w'.cell? ⟨db, dp + (i * 2 + j), none⟩ = wr.cell? ⟨db, dp + (i * 2 + j), none⟩ := by unfold World.cell?; simp only [hb]
    rw [e]; exact h7 i hi j u hu
  below := m.below.grown hg (by have := m.size; omega) (fun j hj => by cases hj; exact Nat.le_refl _)
  size := Nat.le_trans m.size hg.size
theorem LMid.cell {w w1 : World} {db dp dc : Nat} {d : List Fld} {k : Nat} {wr : World} (m : LMid w w1 (.slice (some ⟨db, dp, none⟩) d.length dc) d k wr) (hk : k < d.length) : wr.cell? ⟨db, dp + k * 2, none⟩ = some (.string d[k].1) ∧ wr.cell? ⟨db, dp + k * 2 + 1, none⟩ = some (.string d[k].2) ∧ d.length ≤ dc ∧ dc ≤ maxLen := by
  obtain ⟨a, c, h1, h2⟩ := Flds.is_form m.dirs
  obtain ⟨b, o, rfl, h4, h5, h6, h7⟩ := h2 (by omega)
  cases h1
  exact ⟨(h7 k hk).1, (h7 k hk).2, h4, h5⟩

set_option maxRecDepth 100000 in
set_option maxHeartbeats 4000000 in
theorem least_impl (v : Value) (l : List Fld) (w : World) (h : Flds.Is w v l) (hl : Flds.bulk l ≤ 1048576) (hm : Lim w) (hS : Sign.Signs w) :
    Calls Tryz.prog 91 #[v] w fun e w' => e = .returned (.map (some w.heap.size)) ∧ (∃ D, MapIs w' w.heap.size (dirs l).length D ∧ Tells D (least (dirs l))) ∧ Below w.heap.size w w' := by
  have hlen := dirs_len l
  have hsm := dirs_small l
  have hb0 := (Below.refl w.heap.size w).alloc (Nat.le_refl _) (.map #[] 0)
  have HDi := Num.hide (dirs_impl v l (w.alloc (.map #[] 0)) (Recs.is_below h hb0) hl (lim_below hm hb0 (lim_lt hm)) (signs_below hS hb0 (signs_lt hS)))
  obtain ⟨d, hd⟩ : ∃ d, dirs l = d := ⟨_, rfl⟩
  rw [hd] at hlen hsm HDi ⊢
  have HZ := Num.hide hsm
  have HB0 := Num.hide hb0
  have HM0 : Hid (MapIs (w.alloc (.map #[] 0)) w.heap.size 0 (.map [])) := World.ownsMap_made _ _ _ _
  have hw1 : (w.alloc (.map #[] 0)).heap.size = w.heap.size + 1 := by simp
  have HW1 := Num.hide hw1
  have hmm := @run_makeMap Tryz.prog
  clear h hm hS hd hsm hb0 hw1
  go_enter Tryz.func91, Tryz.ntmps91
  go_wp2_with fail
  refine HDi.out.mono ?_
  rintro e w1 ⟨dv, rfl, ho, hb⟩
  obtain ⟨da, dc, rfl⟩ := Recs.own_len ho
  have hsz1 := hb.size
  rw [HW1.out] at hsz1
  have HP : Hid (0 < d.length → ∃ db dp, da = some ⟨db, dp, none⟩ ∧ w.heap.size < db ∧ db < w1.heap.size) := by
    intro hp
    have hlt := Recs.own_lt ho
    rcases ho.2 with ⟨_, h2⟩ | ⟨g, cap, cur, h1, hB, hg, _⟩
    · omega
    · cases h1
      have := (hlt g rfl).2
      exact ⟨g, 0, rfl, by have := HW1.out; omega, this⟩
  have HM : Hid (LMid w w1 (.slice da d.length dc) d 0 w1) :=
    ⟨⟨_, HM0.out.kept (Strs.grown_of_below hb none) (by simp), tells_start⟩, Recs.own_is Flds.cells_len ho, HB0.out.trans (hb.mono (by have := HW1.out; omega)), Nat.le_refl _⟩
  clear ho hb HM0 HB0 HDi HW1
  go_wp2
  go_loopw [14] (fun iv wr => ∃ i : Nat, i ≤ d.length ∧ iv = .int .i64 (i : Int) ∧ Hid (LMid w w1 (.slice da d.length dc) d i wr)) (fun iv _ => d.length - (intOf iv).toNat)
  case atStart => exact ⟨0, by omega, rfl, HM⟩
  case round =>
    clear HM hmm
    obtain ⟨i, hi, rfl, HM⟩ := hrel
    by_cases hlt : i < d.length
    · obtain ⟨db, dp, rfl, hdb1, hdb2⟩ := HP.out (by omega)
      obtain ⟨c1, c2, hc, hmx⟩ := HM.out.cell hlt
      have hz := HZ.out d[i] (List.getElem_mem hlt)
      have hsb := secs_bd d[i].2
      have HS := Num.hide (fun W => Sign.seconds_impl d[i].2 W (by unfold maxLen; omega))
      have HSm := Num.hide (least_same d i hlt)
      have HPut := Num.hide (fun (W : World) (m : LMid w w1 (.slice (some ⟨db, dp, none⟩) d.length dc) d i W) (D : DataW Unit) (hD : IsMap D) (hT : Tells D (least (d.take i))) (c : Int) (hc : least (d.take (i + 1)) d[i].1 = some c) (w' : World) => m.put hlt hdb1 hdb2 hD hT hc (w' := w'))
      generalize d[i] = f at c1 c2 hz hsb HS HSm HPut
      obtain ⟨x, y⟩ := f
      simp only at c1 c2 hz hsb HS HSm HPut
      generalize Sign.secs y = sc at hsb HS HSm
      obtain ⟨n, bn⟩ := sc
      simp only at hsb HS HSm
      have hkx := key_of x (by unfold maxLen; omega)
      have HK := Num.hide hkx
      clear hkx
      have HM2 := Num.hide (HM.out.step (by omega) ((Below.refl wr.heap.size wr).alloc (Nat.le_refl _) (.cells #[.string x, .string y] 78)))
      have hszr := HM.out.size
      clear HM
      go_wp2_with fail
      refine (HS.out _).mono ?_
      rintro e w2 ⟨rfl, rfl⟩
      obtain ⟨D, hown, hT⟩ := HM2.out.map
      have hown2 := Num.hide hown
      have HT := Num.hide hT
      have HI := Num.hide (hown.isMap)
      have hhas := hT x
      clear hown hT
      cases hm : least (d.take i) x with
      | none =>
        rw [hm] at HSm hhas
        have hbf : Go.Maps.has D (key x) = false := hhas.1
        have HC : Hid (∀ c, D.atKey (key x) (.lit (.int .i64 0)) = .lit (.int .i64 c) → c = 0) := by
          intro c hc
          rw [atKey_of_not_has hbf] at hc
          injection hc with hc; injection hc with _ hc; exact hc.symm
        have HSm : Hid (least (d.take (i + 1)) x = some n) := HSm.out
        clear hm hhas
        go_wp2_with (first | (at_lookup; refine wpList_lookup_own_ok_int _ rfl _ _ 107 rfl 9 3 .i64 law Tryz.underlying107 Tryz.underlying3 (zeroI _) w.heap.size i D rfl hown2.out _ _ rfl HK.out ?_; intro c0 hat hwc; obtain rfl := HC.out c0 hat; clear hat hwc) | (at_mapUpdate; refine wpList_mapUpdate_own _ rfl _ _ _ 107 rfl 9 3 law Tryz.underlying107 _ w.heap.size i D rfl hown2.out (by unfold maxLen; omega) _ _ _ rfl rfl HK.out _ [] (plainElem_int Tryz.underlying3 (WalkArith.wf_i64 (by omega))) ?_; intro w3 hown3 hg3))
        have HM3 := Num.hide (HPut.out _ HM2.out D HI.out HT.out n HSm.out _ hown3 hg3)
        clear hown3 hg3 HM2
        go_roundw
        case rel => exact ⟨i + 1, by omega, by go_num, HM3⟩
        case measure => simp [intOf]; omega
      | some c =>
        rw [hm] at HSm hhas
        have hcb := least_bd (d.take i) x c hm
        have hbt : Go.Maps.has D (key x) = true := hhas.1
        have HC : Hid (∀ c', D.atKey (key x) (.lit (.int .i64 0)) = .lit (.int .i64 c') → c' = c) := by
          intro c' hc
          rw [hhas.2 c rfl] at hc
          injection hc with hc; injection hc with _ hc; exact hc.symm
        have HSm : Hid (least (d.take (i + 1)) x = some (min n c)) := HSm.out
        clear hm hhas
        go_wp2_with (first | (at_lookup; refine wpList_lookup_own_ok_int _ rfl _ _ 107 rfl 9 3 .i64 law Tryz.underlying107 Tryz.underlying3 (zeroI _) w.heap.size i D rfl hown2.out _ _ rfl HK.out ?_; intro c0 hat hwc; obtain rfl := HC.out c0 hat; clear hat hwc) | (at_mapUpdate; refine wpList_mapUpdate_own _ rfl _ _ _ 107 rfl 9 3 law Tryz.underlying107 _ w.heap.size i D rfl hown2.out (by unfold maxLen; omega) _ _ _ rfl rfl HK.out _ [] (plainElem_int Tryz.underlying3 (WalkArith.wf_i64 (by omega))) ?_; intro w3 hown3 hg3))
        have HM3 := Num.hide (HPut.out _ HM2.out D HI.out HT.out _ HSm.out _ hown3 hg3)
        clear hown3 hg3 HM2
        go_roundw
        case rel => exact ⟨i + 1, by omega, by go_num, HM3⟩
        case measure => simp [intOf]; omega
    · obtain rfl : i = d.length := by omega
      have HB := Num.hide HM.out.below
      have hmp := HM.out.map
      rw [List.take_length] at hmp
      have HMp := Num.hide hmp
      clear hmp
      go_wp2
      go_ret
      exact ⟨rfl, HMp.out, HB.out⟩

end Cc
end Go.Proofs.YtbcjpjhpobmpbaaGreatDoor
namespace Go.Proofs.YtbcjpjhpobmpbaaGreatDoor
open Go.RowKit Go.WideMaps Go.Maps
set_option linter.unusedVariables false
namespace Cc
open Flds (Fld)
set_option maxRecDepth 100000 in
set_option maxHeartbeats 1000000 in
theorem has_impl (v : Value) (l : List Fld) (name : ByteArray) (w : World) (h : Flds.Is w v l) (hl : Flds.bulk l ≤ 1048576) (hn : name.size ≤ 1048576) (hm : Lim w) (hS : Sign.Signs w) :
    Calls Tryz.prog 52 #[v, .string name] w fun e w' => e = .returned (.bool (has (dirs l) name)) ∧ Below w.heap.size w w' := by
  have HL := Num.hide (least_impl v l w h hl hm hS)
  have h2 := sec_two (dirs l) name
  obtain ⟨r, hr⟩ : ∃ r, has (dirs l) name = r := ⟨_, rfl⟩
  rw [hr]
  unfold sec at h2
  generalize dirs l = d at HL hr h2
  have HK := Num.hide (key_of name (by unfold maxLen; omega))
  clear h hm hS
  cases hc : least d name with
  | none =>
    rw [hc] at h2
    obtain rfl : r = false := by rw [← hr, ← h2]
    have hcc := Num.hide hc
    clear hc hr h2
    go_enter Tryz.func52, Tryz.ntmps52
    go_wp2_with fail
    refine HL.out.mono ?_
    rintro e w1 ⟨rfl, ⟨D, hown, hT⟩, hb⟩
    have hbf : Go.Maps.has D (key name) = false := by (rw [(hT name).1, hcc.out]; rfl)
    have HC : Hid (∀ c, D.atKey (key name) (.lit (.int .i64 0)) = .lit (.int .i64 c) → c = 0) := (by intro c hc; rw [atKey_of_not_has hbf] at hc; injection hc with hc; injection hc with _ hc; exact hc.symm)
    have HO := Num.hide hown
    have HB := Num.hide hb
    clear hown hT hb
    go_wp2_with (at_lookup; refine wpList_lookup_own_ok_int _ rfl _ _ 107 rfl 9 3 .i64 law Tryz.underlying107 Tryz.underlying3 (zeroI _) w.heap.size _ D rfl HO.out _ _ rfl HK.out ?_; intro c0 hat hwc; obtain rfl := HC.out c0 hat; clear hat hwc)
    go_ret
    exact ⟨rfl, HB.out⟩
  | some c =>
    rw [hc] at h2
    obtain rfl : r = true := by rw [← hr, ← h2]
    have hcc := Num.hide hc
    clear hc hr h2
    go_enter Tryz.func52, Tryz.ntmps52
    go_wp2_with fail
    refine HL.out.mono ?_
    rintro e w1 ⟨rfl, ⟨D, hown, hT⟩, hb⟩
    have hbt : Go.Maps.has D (key name) = true := by (rw [(hT name).1, hcc.out]; rfl)
    have HC : Hid (∀ c', D.atKey (key name) (.lit (.int .i64 0)) = .lit (.int .i64 c') → c' = c) := (by intro c' hc'; rw [(hT name).2 c hcc.out] at hc'; injection hc' with hc'; injection hc' with _ hc'; exact hc'.symm)
    have HO := Num.hide hown
    have HB := Num.hide hb
    clear hown hT hb
    go_wp2_with (at_lookup; refine wpList_lookup_own_ok_int _ rfl _ _ 107 rfl 9 3 .i64 law Tryz.underlying107 Tryz.underlying3 (zeroI _) w.heap.size _ D rfl HO.out _ _ rfl HK.out ?_; intro c0 hat hwc; obtain rfl := HC.out c0 hat; clear hat hwc)
    go_ret
    exact ⟨rfl, HB.out⟩
end Cc
end Go.Proofs.YtbcjpjhpobmpbaaGreatDoor
namespace Go.Proofs.YtbcjpjhpobmpbaaGreatDoor
open Go.RowKit
namespace Pol

/-- the library's variables and the program's table of signs lie as they are laid -/
def LimS (w : World) : Prop := Cc.Lim w ∧ Sign.Signs w
theorem LimS.below {w w' : World} (h : LimS w) (hb : Below w.heap.size w w') : LimS w' := ⟨Cc.lim_below h.1 hb (Cc.lim_lt h.1), Cc.signs_below h.2 hb (Cc.signs_lt h.2)⟩
end Pol
end Go.Proofs.YtbcjpjhpobmpbaaGreatDoor
namespace Go.Proofs.YtbcjpjhpobmpbaaGreatDoor
open Go.RowKit
set_option linter.unusedVariables false
set_option linter.unusedSimpArgs false
namespace Pol
open Flds (Fld)

/-- is this word said?, asked of the list that lies at g -/
abbrev anyV (g : Nat) : Value := .func (.func 126) #[] #[.pointer (some ⟨g, 0, none⟩)]
set_option maxRecDepth 100000 in
set_option maxHeartbeats 1000000 in
theorem hasOne_impl (g : Nat) (v : Value) (l : List Fld) (name : ByteArray) (w : World) (hp : w.cell? ⟨g, 0, none⟩ = some v) (h : Flds.Is w v l) (hl : Flds.bulk l ≤ 1048576) (hn : name.size ≤ 1048576) (hE : LimS w) :
    Calls Tryz.prog 126 #[.string name, .pointer (some ⟨g, 0, none⟩)] w fun e w' => e = .returned (.bool (said l name)) ∧ Below w.heap.size w w' := by
  have HS := Num.hide (Cc.has_impl v l name w h hl hn hE.1 hE.2)
  unfold said
  generalize Cc.has (Cc.dirs l) name = r at HS ⊢
  clear h hE
  go_enter Tryz.func126, Tryz.ntmps126
  go_wp2_with fail
  refine HS.out.mono ?_
  rintro e w1 ⟨rfl, hb⟩
  have HB := Num.hide hb
  clear hb
  go_wp2
  go_ret
  exact ⟨rfl, HB.out⟩
/-- the list that is asked lies in a box, and the words in a row -/
abbrev AnyAt (w : World) (g : Nat) (v : Value) (l : List Fld) (b c : Nat) (L : List ByteArray) (W : World) : Prop :=
  W.cell? ⟨g, 0, none⟩ = some v ∧ (∀ i (h : i < L.length), W.cell? ⟨b, i, none⟩ = some (.string L[i])) ∧ Flds.Is W v l ∧ LimS W ∧ Below w.heap.size w W
theorem AnyAt.step {w : World} {g : Nat} {v : Value} {l : List Fld} {b c : Nat} {L : List ByteArray} {W W' : World} (h : AnyAt w g v l b c L W) (hb : Below W.heap.size W W') : AnyAt w g v l b c L W' := by
  obtain ⟨h0, h1, h2, h3, h4⟩ := h
  have l0 : g < W.heap.size := Recs.lt_of_cell h0
  refine ⟨(hb.cell (p := ⟨g, 0, none⟩) l0).trans h0, fun i hi => ?_, Recs.is_below h2 hb, h3.below hb, h4.trans (hb.mono h4.size)⟩
  have l1 : b < W.heap.size := Recs.lt_of_cell (h1 i hi)
  exact (hb.cell (p := ⟨b, i, none⟩) l1).trans (h1 i hi)
theorem any_take (l : List Fld) (L : List ByteArray) (k : Nat) (h : k < L.length) : (L.take (k + 1)).any (said l) = ((L.take k).any (said l) || said l L[k]) := by
  rw [List.take_succ_eq_append_getElem h, List.any_append]
  simp
theorem any_hit (l : List Fld) (L : List ByteArray) (k : Nat) (h : k < L.length) (hs : said l L[k] = true) : L.any (said l) = true := by
  rw [List.any_eq_true]
  exact ⟨L[k], List.getElem_mem h, hs⟩
set_option maxRecDepth 100000 in
set_option maxHeartbeats 2000000 in
theorem indexAny (g : Nat) (v : Value) (l : List Fld) (b c : Nat) (L : List ByteArray) (w : World) (hp : w.cell? ⟨g, 0, none⟩ = some v) (hL : ∀ i (h : i < L.length), w.cell? ⟨b, i, none⟩ = some (.string L[i])) (hc : L.length ≤ c ∧ c ≤ maxLen) (hLn : ∀ i (h : i < L.length), L[i].size ≤ 1048576) (h : Flds.Is w v l) (hl : Flds.bulk l ≤ 1048576) (hE : LimS w) :
    Calls Tryz.prog 143 #[.slice (some ⟨b, 0, none⟩) L.length c, anyV g] w fun e w' => (∃ n : Int, e = .returned (.int .i64 n) ∧ decide (0 ≤ n) = L.any (said l)) ∧ Below w.heap.size w w' := by
  have H0 : Hid (AnyAt w g v l b c L w) := ⟨hp, hL, h, hE, Below.refl _ _⟩
  have HS := Num.hide (fun name W hn (hA : AnyAt w g v l b c L W) => hasOne_impl g v l name W hA.1 hA.2.2.1 hl hn hA.2.2.2.1)
  have HLn := Num.hide hLn
  obtain ⟨r, hr⟩ : ∃ r, L.any (said l) = r := ⟨_, rfl⟩
  rw [hr]
  have HR := Num.hide hr
  have hent : ∀ args W, (callFunc 126 args).run Tryz.prog W = .ok (.enter 126 args) W := enters_of Tryz.func126 (by kernel_rfl) rfl
  obtain ⟨hc1, hc2⟩ := hc
  unfold maxLen at hc2
  clear hp hL h hE hr hLn
  go_enter Tryz.func143, Tryz.ntmps143
  go_wp2
  go_loopw [8] (fun i wr => ∃ k : Nat, k ≤ L.length ∧ i = .int .i64 (k : Int) ∧ Hid ((L.take k).any (said l) = false) ∧ Hid (AnyAt w g v l b c L wr)) (fun i _ => L.length - (intOf i).toNat)
  case atStart => exact ⟨0, by omega, rfl, rfl, H0⟩
  case round =>
    obtain ⟨k, hk, rfl, HT, HA⟩ := hrel
    by_cases hlt : k < L.length
    · have c1 : wr.cell? ⟨b, k, none⟩ = some (.string L[k]) := HA.out.2.1 k hlt
      have HK := Num.hide (HS.out L[k] wr (HLn.out k hlt) HA.out)
      have hs := any_take l L k hlt
      have hh := any_hit l L k hlt
      generalize L[k] = t at c1 HK hs hh
      cases hsd : said l t with
      | false =>
        rw [hsd, HT.out] at hs
        have HT2 := Num.hide hs
        rw [hsd] at HK
        clear hs hh hsd HT
        go_wp2_with fail
        refine HK.out.mono ?_
        rintro e w1 ⟨rfl, hb⟩
        have HA2 := Num.hide (AnyAt.step HA.out hb)
        clear hb HA c1
        go_wp2
        go_roundw
        case rel => exact ⟨k + 1, by omega, by go_num, HT2, HA2⟩
        case measure => simp [intOf]; omega
      | true =>
        obtain rfl : r = true := by rw [← HR.out]; exact hh hsd
        rw [hsd] at HK
        clear hs hh hsd HT HR
        go_wp2_with fail
        refine HK.out.mono ?_
        rintro e w1 ⟨rfl, hb⟩
        have HA2 := Num.hide (AnyAt.step HA.out hb)
        clear hb HA c1
        go_wp2
        go_ret
        exact ⟨⟨_, rfl, by simp⟩, HA2.out.2.2.2.2⟩
    · obtain rfl : k = L.length := by omega
      obtain rfl : r = false := by rw [← HR.out]; have := HT.out; rwa [List.take_length] at this
      clear HR HT
      have HB := Num.hide HA.out.2.2.2.2
      clear HA
      go_wp2
      go_ret
      exact ⟨⟨_, rfl, rfl⟩, HB.out⟩
set_option maxRecDepth 100000 in
set_option maxHeartbeats 1000000 in
theorem contains_of (g b n c : Nat) (r : Bool) (w : World) (hI : Calls Tryz.prog 143 #[.slice (some ⟨b, 0, none⟩) n c, anyV g] w fun e w' => (∃ n : Int, e = .returned (.int .i64 n) ∧ decide (0 ≤ n) = r) ∧ Below w.heap.size w w') :
    Calls Tryz.prog 125 #[.slice (some ⟨b, 0, none⟩) n c, anyV g] w fun e w' => e = .returned (.bool r) ∧ Below w.heap.size w w' := by
  have HI := Num.hide hI
  clear hI
  go_enter Tryz.func125, Tryz.ntmps125
  go_wp2_with fail
  refine HI.out.mono ?_
  rintro e w1 ⟨⟨n, rfl, hn⟩, hb⟩
  have HB := Num.hide hb
  have HN := Num.hide hn
  clear hb hn
  go_wp2
  go_ret
  exact ⟨by rw [← HN.out]; rfl, HB.out⟩
set_option maxRecDepth 100000 in
set_option maxHeartbeats 1000000 in
theorem any_impl (v : Value) (l : List Fld) (b c : Nat) (L : List ByteArray) (w : World) (hL : ∀ i (h : i < L.length), w.cell? ⟨b, i, none⟩ = some (.string L[i])) (hc : L.length ≤ c ∧ c ≤ maxLen) (hLn : ∀ i (h : i < L.length), L[i].size ≤ 1048576) (h : Flds.Is w v l) (hl : Flds.bulk l ≤ 1048576) (hE : LimS w) :
    Calls Tryz.prog 95 #[v, .slice (some ⟨b, 0, none⟩) L.length c] w fun e w' => e = .returned (.bool (L.any (said l))) ∧ Below w.heap.size w w' := by
  have hb0 : Below w.heap.size w (w.alloc (.cells #[v] 30)) := (Below.refl _ _).alloc (Nat.le_refl _) _
  have hx := heap_alloc_new w (.cells #[v] 30)
  have HI := Num.hide (indexAny w.heap.size v l b c L (w.alloc (.cells #[v] 30)) (Recs.box_cell hx 0) (fun i hi => (hb0.cell (p := ⟨b, i, none⟩) (Recs.lt_of_cell (hL i hi))).trans (hL i hi)) hc hLn (Recs.is_below h hb0) hl (hE.below hb0))
  have HB := Num.hide hb0
  obtain ⟨av, cv, rfl, _⟩ := Flds.is_form h
  clear h hE hL hx hb0
  go_enter Tryz.func95, Tryz.ntmps95
  go_wp2_with fail
  refine (contains_of _ _ _ _ _ _ HI.out).mono ?_
  rintro e w1 ⟨rfl, hb⟩
  have HB1 := Num.hide (HB.out.trans (hb.mono HB.out.size))
  clear hb
  go_wp2
  go_ret
  exact ⟨rfl, HB1.out⟩
end Pol
end Go.Proofs.YtbcjpjhpobmpbaaGreatDoor
namespace Go.Proofs.YtbcjpjhpobmpbaaGreatDoor
open Go.RowKit
set_option linter.unusedVariables false
set_option linter.unusedSimpArgs false
namespace Flds

theorem strs_mono {B B' : Nat} {w : World} {v : Value} {l : List ByteArray} (h : Strs.OwnS B w v l) (hB : B' ≤ B) : Strs.OwnS B' w v l := by
  refine ⟨h.1, ?_⟩
  rcases h.2 with h1 | ⟨g, cap, cur, h1, h2, rest⟩
  · exact .inl h1
  · exact .inr ⟨g, cap, cur, h1, by omega, rest⟩
set_option maxRecDepth 100000 in
set_option maxHeartbeats 1000000 in
theorem parts_impl (v : Value) (l : List Fld) (w : World) (h : Is w v l) (hl : bulk l ≤ 1048576) :
    Calls Tryz.prog 93 #[v] w fun e w' => ∃ v', e = .returned v' ∧ Strs.OwnS w.heap.size w' v' (Sign.split (get l ⟨#[118, 97, 114, 121]⟩).1) ∧ Below w.heap.size w w' := by
  have HG := Num.hide (get_impl v l ⟨#[118, 97, 114, 121]⟩ w h (by omega))
  have hsz := Nat.le_trans (Cc.get_bulk l ⟨#[118, 97, 114, 121]⟩ (by decide)) hl
  generalize get l ⟨#[118, 97, 114, 121]⟩ = gv at HG hsz ⊢
  obtain ⟨s, sb⟩ := gv
  simp only at HG hsz ⊢
  have HSp := Num.hide (fun W => Sign.split_impl s W (by omega))
  generalize Sign.split s = L at HSp ⊢
  clear h
  go_enter Tryz.func93, Tryz.ntmps93
  go_wp2_with fail
  refine HG.out.mono ?_
  rintro e w1 ⟨rfl, hb⟩
  have HB := Num.hide hb
  clear hb
  go_wp2_with fail
  refine (HSp.out _).mono ?_
  rintro e w2 ⟨v2, rfl, ho, hb⟩
  have HO := Num.hide (strs_mono ho (Nat.le_trans HB.out.size (Nat.le_succ _)))
  have HB2 := Num.hide (HB.out.trans (hb.mono HB.out.size))
  clear ho hb HB
  go_wp2
  go_ret
  exact ⟨_, rfl, HO.out, HB2.out⟩
end Flds
end Go.Proofs.YtbcjpjhpobmpbaaGreatDoor
