/-
  LowerImpl: isUpper and Lower of the program: what the calls return, for every byte and every text; what was there stays.
  NamesImpl: VaryNames of the program: a name is taken when it is met for the first time; how often each was met is told by a map of the call's own.
  RespOpen: A response that came in, as the law's argument: what it reads as.
-/
import Derived.Test.YtkogcbnbmdeolaaDoorPaa
import Derived.Test.YtkogcbnbmdeolaaDoorPaj
import Derived.Test.YtkogcbnbmdeolaaDoorPab
import Derived.Test.YtkogcbnbmdeolaaDoorPac
import Derived.Test.YtkogcbnbmdeolaaDoorPad
import Derived.RegionTactic
import Derived.BigQuiet
import Derived.Deep.Cut
import Derived.Test.YtkogcbnbmdeolaaDoorPae
import Derived.Deep.Strs
namespace Go.Proofs.YtkogcbnbmdeolaaDoor
open Go.RowKit
set_option linter.unusedVariables false
namespace Sign

theorem u8_add (c : Int) (h0 : 65 ≤ c) (h1 : c ≤ 90) : IntKind.u8.wrap (c + 32) = c + 32 := by
  rw [IntKind.wrap_u8]; omega

set_option maxRecDepth 100000 in
set_option maxHeartbeats 1000000 in
theorem lower_impl (s : ByteArray) (w : World) (hs : s.size ≤ maxLen) : Calls Tryd.prog 13 #[.string s] w fun e w' => e = .returned (.string (lower s)) ∧ Below w.heap.size w w' := by
  unfold maxLen at hs
  have hconv := Lib.run_convert_string_bytes (P := Tryd.prog) w 9 22 5 s (u := .string) Tryd.underlying9 Tryd.underlying22 Tryd.underlying5
  have hP := Num.hide (bytes_part w 5 s)
  have hB := Num.hide (bytes_below w 5 s)
  generalize Lib.bytesWorld w 5 s = W0 at hconv hP hB
  generalize grownCap w s.size 0 5 = cap at hconv
  go_enter Tryd.func13, Tryd.ntmps13
  go_wp2
  clear hconv
  go_loopw [10] (fun i W => ∃ k : Nat, k ≤ s.size ∧ i = .int .i64 k ∧ Hid (Part w.heap.size s k W) ∧ Hid (Below w.heap.size w W)) (fun i _ => s.size - (intOf i).toNat)
  case atStart => exact ⟨0, by omega, rfl, hP, hB⟩
  case round =>
    clear hP hB
    obtain ⟨k, hk, rfl, hP, hB⟩ := hrel
    by_cases hlt : k < s.size
    · have hcell := hP.out.todo k hlt (Nat.le_refl _)
      have hfree := hP.out.free k hlt
      by_cases hu : up (s[k].toNat : Int)
      · have hut := Num.hide (decide_eq_true hu)
        have hP2 := Num.hide (part_up hP.out hlt hu)
        have hw := u8_add _ hu.1 hu.2
        clear hu
        go_wp2_with (go_at_call 49; refine (isUpper_any _ _).mono ?_; rintro e w' ⟨rfl, rfl⟩; rw [Num.unhide hut])
        go_roundw
        case rel => exact ⟨k + 1, by omega, by go_num, hP2, Num.hide (hB.out.setCell (Nat.le_refl _) _)⟩
        case measure => simp [intOf]; omega
      · have hut := Num.hide (decide_eq_false hu)
        have hP2 := Num.hide (part_no hP.out hlt hu)
        clear hu
        go_wp2_with (go_at_call 49; refine (isUpper_any _ _).mono ?_; rintro e w' ⟨rfl, rfl⟩; rw [Num.unhide hut])
        go_roundw
        case rel => exact ⟨k + 1, by omega, by go_num, hP2, hB⟩
        case measure => simp [intOf]; omega
    · obtain rfl : k = s.size := by omega
      have hback := part_back hP.out cap
      go_wp2
      go_ret
      exact ⟨rfl, hB.out⟩
end Sign
end Go.Proofs.YtkogcbnbmdeolaaDoor
namespace Go.Proofs.YtkogcbnbmdeolaaDoor
open Go.RowKit Go.WideMaps Go.Maps
set_option linter.unusedVariables false
set_option linter.unusedSimpArgs false
namespace Vary
open Flds (Fld)
open Cc (key key_of Tells MapIs law zeroI)

/-- how many of a list's texts have these small letters -/
def cnt (L : List ByteArray) (x : ByteArray) : Nat := L.foldl (fun n p => if Sign.lower p = x then n + 1 else n) 0
def told (L : List ByteArray) (x : ByteArray) : Option Int := if cnt L x = 0 then none else some (cnt L x : Int)
theorem cnt_snoc (L : List ByteArray) (t x : ByteArray) : cnt (L ++ [t]) x = if Sign.lower t = x then cnt L x + 1 else cnt L x := by unfold cnt; rw [List.foldl_append]; rfl
theorem cnt_le (L : List ByteArray) (x : ByteArray) : cnt L x ≤ L.length := by
  refine Num.snoc_ind (P := fun L => cnt L x ≤ L.length) (Nat.le_refl _) ?_ L
  intro l t ih
  rw [cnt_snoc, List.length_append, List.length_singleton]
  split <;> omega
theorem in_names (L : List ByteArray) : ∀ x, inL (names L) x = decide (0 < cnt L x) := by
  refine Num.snoc_ind (P := fun L => ∀ x, inL (names L) x = decide (0 < cnt L x)) (fun x => rfl) ?_ L
  intro l t ih x
  rw [names_snoc, cnt_snoc]
  unfold nameStep
  have app : ∀ (o : List ByteArray) (y : ByteArray), inL (o ++ [y]) x = (inL o x || decide (y = x)) := fun o y => by unfold inL; simp
  by_cases hx : Sign.lower t = x
  · rw [if_pos hx, decide_eq_true (by omega : 0 < cnt l x + 1), hx]
    by_cases hi : inL (names l) x = true
    · rw [if_pos hi]; exact hi
    · rw [if_neg hi, app]; simp
  · rw [if_neg hx, ← ih x]
    split
    · rfl
    · rw [app, decide_eq_false hx, Bool.or_false]
theorem told_same (L : List ByteArray) (k : Nat) (h : k < L.length) : told (L.take (k + 1)) (Sign.lower L[k]) = some ((cnt (L.take k) (Sign.lower L[k]) : Int) + 1) := by
  unfold told
  rw [List.take_succ_eq_append_getElem h, cnt_snoc, if_pos rfl, if_neg (by omega)]
  rfl
theorem told_other (L : List ByteArray) (k : Nat) (h : k < L.length) (t : ByteArray) (ht : ¬ t = Sign.lower L[k]) : told (L.take (k + 1)) t = told (L.take k) t := by
  unfold told
  have e : cnt (L.take (k + 1)) t = cnt (L.take k) t := by rw [List.take_succ_eq_append_getElem h, cnt_snoc, if_neg (fun e => ht e.symm)]
  rw [e]
theorem names_more (L : List ByteArray) (k : Nat) (h : k < L.length) : names (L.take (k + 1)) = names (L.take k) ++ (if decide (cnt (L.take k) (Sign.lower L[k]) = 0) = true then [Sign.lower L[k]] else []) := by
  rw [names_take L k h]
  unfold nameStep
  rw [in_names]
  by_cases h0 : cnt (L.take k) (Sign.lower L[k]) = 0
  · rw [if_neg (by rw [h0]; simp), if_pos (by rw [h0]; rfl)]
  · rw [if_pos (by rw [decide_eq_true_eq]; omega), if_neg (by rw [decide_eq_true_eq]; exact h0), List.append_nil]
theorem map_far {W W' : World} {b n : Nat} {D : DataW Unit} (h : MapIs W b n D) (e : W'.heap[b]? = W.heap[b]?) : MapIs W' b n D := by
  obtain ⟨es, clock, hb, F, hs, hD⟩ := h
  exact ⟨es, clock, e.trans hb, F, hs, hD⟩
set_option maxRecDepth 100000 in
set_option maxHeartbeats 2000000 in
theorem tick (s : ByteArray) (g mb k c : Nat) (D : DataW Unit) (m : ByteArray → Option Int) (W : World) (hs : s.size ≤ 1048576) (hbox : W.heap[g]? = some (.cells #[.map (some mb)] 82)) (hgm : ¬ g = mb)
    (hM : MapIs W mb k D) (hT : Tells D m) (hk : k ≤ 1048577) (hc : c ≤ 1048577) (hcm : m (Sign.lower s) = if c = 0 then none else some (c : Int)) :
    Calls Tryd.prog 64 #[.string s, .pointer (some ⟨g, 0, none⟩)] W fun e W' => e = .returned (.tuple #[.string (Sign.lower s), .bool (decide (c = 0))]) ∧
      MapIs W' mb (k + 1) (D.put (key (Sign.lower s)) (.lit (.int .i64 ((c : Int) + 1)))) ∧ ∃ W1, Below W.heap.size W W1 ∧ W1.grownBy W' (some mb) := by
  have HL := Num.hide (Sign.lower_impl s W (by unfold maxLen; omega))
  have hz : (Sign.lower s).size ≤ 1048576 := by rw [Sign.size_lower]; exact hs
  generalize Sign.lower s = t at HL hz hcm ⊢
  have HK := Num.hide (key_of t (by unfold maxLen; omega))
  have HI := Num.hide hM.isMap
  have HC : Hid (∀ c', D.atKey (key t) (.lit (.int .i64 0)) = .lit (.int .i64 c') → c' = (c : Int)) := by
    intro c' hc'
    rcases Cc.tells_at hT t hc' with ⟨h1, _, h3⟩ | ⟨h1, _⟩
    · rw [hcm] at h1
      by_cases h0 : c = 0
      · rw [h3, h0]; rfl
      · rw [if_neg h0] at h1; cases h1
    · rw [hcm] at h1
      by_cases h0 : c = 0
      · rw [if_pos h0] at h1; cases h1
      · rw [if_neg h0] at h1; injection h1 with h1; exact h1.symm
  have D1 : Hid (((c : Int) + 1 == 1) = decide (c = 0)) := by
    show _ = _
    by_cases h0 : c = 0
    · subst h0; rfl
    · rw [decide_eq_false h0, beq_eq_false_iff_ne]; omega
  generalize decide (c = 0) = b at D1 ⊢
  have HBx := Num.hide hbox
  have HM := Num.hide hM
  clear hT hcm hbox hM hz
  go_enter Tryd.func64, Tryd.ntmps64
  go_wp2_with fail
  refine HL.out.mono ?_
  rintro e w1 ⟨rfl, hb⟩
  have HM1 := Num.hide (HM.out.kept (Strs.grown_of_below hb none) (by simp))
  have hlt : g < W.heap.size := (Array.getElem?_eq_some_iff.1 HBx.out).1
  have X1 : Hid (w1.heap[g]? = some (.cells #[.map (some mb)] 82)) := by show _ = _; rw [hb.block g hlt]; exact HBx.out
  have hlt1 : g < w1.heap.size := Nat.lt_of_lt_of_le hlt hb.size
  have HB := Num.hide hb
  have c1 : w1.cell? ⟨g, 0, none⟩ = some (.map (some mb)) := Recs.box_cell X1.out 0
  clear hb HM HBx HL
  go_wp2_with (first | (at_lookup; refine wpList_lookup_own_int _ rfl _ _ 82 rfl 9 3 .i64 law Tryd.underlying82 Tryd.underlying3 (zeroI _) mb k D rfl HM1.out _ _ rfl HK.out ?_; intro c0 hat hwc; obtain rfl := HC.out c0 hat; clear hat hwc) | (at_mapUpdate; refine wpList_mapUpdate_own _ rfl _ _ _ 82 rfl 9 3 law Tryd.underlying82 _ mb k D rfl HM1.out (by unfold maxLen; omega) _ _ _ rfl rfl HK.out _ [] (plainElem_int Tryd.underlying3 (WalkArith.wf_i64 (by omega))) ?_; intro w3 hown3 hg3))
  have X3 : w3.heap[g]? = some (.cells #[.map (some mb)] 82) := by rw [hg3.block g hlt1 (by intro e; cases e; exact hgm rfl)]; exact X1.out
  have c3 : w3.cell? ⟨g, 0, none⟩ = some (.map (some mb)) := Recs.box_cell X3 0
  obtain ⟨c', hrun, hat, hwc⟩ := hown3.drew.lookup_int law Tryd.underlying82 Tryd.underlying3 (zeroI _) HK.out
  rw [atKey_put_same HI.out (by trivial)] at hat
  obtain rfl : (c : Int) + 1 = c' := by injection hat with hat; injection hat
  clear hat hwc
  have HO := Num.hide hown3
  have HG := Num.hide hg3
  clear hown3 hg3 c1 X3
  have d1 := D1.out
  go_wp2
  go_region
  go_wp2
  exact bodyPost_ret (v := .tuple #[.string t, .bool b]) (by simp [results, Tryd.results64, go_sem]) rfl ⟨rfl, HO.out.drew, w1, HB.out, Strs.grown_drew HG.out⟩
/-- the memory within: the box of the map, the map, the parts -/
structure NMid (g mb : Nat) (v : Value) (L : List ByteArray) (k : Nat) (W : World) : Prop where
  box : W.heap[g]? = some (.cells #[.map (some mb)] 82)
  map : ∃ D, MapIs W mb k D ∧ Tells D (told (L.take k))
  list : Strs.OwnS 0 W v L
theorem NMid.far {g mb n : Nat} {v : Value} {L : List ByteArray} {k : Nat} {W W' : World} (h : NMid g mb v L k W) (hg : g < n) (hm : mb < n) (hv : ∀ k, v.ownBlock = some k → k < n) (hb : Below n W W') : NMid g mb v L k W' :=
  ⟨(hb.block g hg).trans h.box, by
    obtain ⟨D, h1, h2⟩ := h.map
    exact ⟨D, map_far h1 (hb.block mb hm), h2⟩, Strs.own_stay h.list hv hb⟩
theorem names_choice (g mb n B : Nat) (v : Value) (L : List ByteArray) (w : World) (hL : L.length ≤ 1048577) (hz : ∀ t ∈ L, t.size ≤ 1048576) (hgm : ¬ g = mb) (hBm : B ≤ mb) (hmn : mb < n) (hv : ∀ k, v.ownBlock = some k → mb < k) :
    Flds.ChoiceT 64 #[.pointer (some ⟨g, 0, none⟩)] B n w L (fun k => names (L.take k)) (NMid g mb v L) := by
  intro k hk W hB hn hQ
  obtain ⟨D, hM, hT⟩ := hQ.map
  have hcl := cnt_le (L.take k) (Sign.lower L[k])
  rw [List.length_take] at hcl
  have hsame := told_same L k hk
  have hother := told_other L k hk
  simp only
  rw [names_more L k hk]
  have hc1 := tick L[k] g mb k (cnt (L.take k) (Sign.lower L[k])) D (told (L.take k)) W (hz _ (List.getElem_mem hk)) hQ.box hgm hM hT (by omega) (by omega) rfl
  refine hc1.mono ?_
  rintro e W' ⟨rfl, hM2, W1, hb1, hg1⟩
  have hgl : g < W.heap.size := (Array.getElem?_eq_some_iff.1 hQ.box).1
  have hml : mb < W.heap.size := hM.lt
  refine ⟨_, _, rfl, rfl, ⟨?_, ⟨_, hM2, Cc.tells_put hT hM.isMap _ _ hsame hother⟩, ?_⟩, ?_, ?_⟩
  · rw [hg1.block g (Nat.lt_of_lt_of_le hgl hb1.size) (by intro e; cases e; exact hgm rfl), hb1.block g hgl]; exact hQ.box
  · refine Strs.own_kept (Strs.own_below hQ.list hb1) hg1 ?_
    cases e : v.ownBlock with
    | none => exact .inl rfl
    | some j => exact .inr (by intro h; cases h; have := hv _ e; omega)
  · exact (hb1.mono (Nat.le_trans hBm (Nat.le_of_lt hml))).grown hg1 (by have := hb1.size; omega) (fun j hj => by cases hj; exact hBm)
  · intro j hj hjl
    rw [hg1.block j (Nat.lt_of_lt_of_le hjl hb1.size) (by intro e; cases e; omega), hb1.block j hjl]
set_option maxRecDepth 100000 in
set_option maxHeartbeats 2000000 in
theorem names_impl (st : Int) (v : Value) (l : List Fld) (b : ByteArray) (w : World) (h : Flds.Is w v l) (hl : Flds.bulk l ≤ 1048576) :
    Calls Tryd.prog 21 #[Resp.val st v b] w fun e w' => ∃ v', e = .returned v' ∧ Strs.OwnS w.heap.size w' v' (varyNames l) ∧ Below w.heap.size w w' := by
  have HP := Num.hide (fun W h => Flds.parts_impl v l W h hl)
  have hsz := Nat.le_trans (Cc.get_bulk l varyName (by decide)) hl
  unfold varyNames
  unfold varyName at hsz ⊢
  generalize (Flds.get l ⟨#[118, 97, 114, 121]⟩).1 = s at HP hsz ⊢
  have hlen := Cc.split_len s
  have hpz : ∀ t ∈ Sign.split s, t.size ≤ 1048576 := fun t ht => Nat.le_trans (Cc.split_small s t ht) hsz
  generalize Sign.split s = L at HP hlen hpz ⊢
  obtain ⟨av, cv, rfl, _⟩ := Flds.is_form h
  have hmm := @run_makeMap Tryd.prog
  unfold Resp.val
  go_enter Tryd.func21, Tryd.ntmps21
  go_upto_region 2 with fail
  have R0 := Num.hide (Recs.three_rows w _ (.cells #[.int .i64 st, .slice av l.length cv, .string b] 34) (.map #[] 0) (.cells #[.map (some (w.heap.size + 1))] 82) (Below.refl _ _))
  have M0 : Hid (MapIs ((w.alloc (.cells #[.int .i64 st, .slice av l.length cv, .string b] 34)).alloc (.map #[] 0)) (w.alloc (.cells #[.int .i64 st, .slice av l.length cv, .string b] 34)).heap.size 0 (.map [])) := World.ownsMap_made _ _ _ _
  rw [World.size_alloc] at M0
  have M1 := Num.hide (World.ownsMap.alloc M0.out (.cells #[.map (some (w.heap.size + 1))] 82))
  have B0 := Num.hide ((((Below.refl w.heap.size w).alloc (Nat.le_refl _) (.cells #[.int .i64 st, .slice av l.length cv, .string b] 34)).alloc (by simp) (.map #[] 0)).alloc (by simp; omega) (.cells #[.map (some (w.heap.size + 1))] 82))
  have Z0 : Hid ((((w.alloc (.cells #[.int .i64 st, .slice av l.length cv, .string b] 34)).alloc (.map #[] 0)).alloc (.cells #[.map (some (w.heap.size + 1))] 82)).heap.size = w.heap.size + 3) := by show _ = _; simp
  clear M0 hmm
  generalize (((w.alloc (.cells #[.int .i64 st, .slice av l.length cv, .string b] 34)).alloc (.map #[] 0)).alloc (.cells #[.map (some (w.heap.size + 1))] 82)) = w0 at R0 M1 B0 Z0 ⊢
  have c1 : w0.cell? ⟨w.heap.size, 1, none⟩ = some (.slice av l.length cv) := Recs.box_cell R0.out.1 1
  have I0 := Num.hide (Recs.is_below h B0.out)
  clear h
  go_wp2_with fail
  refine (HP.out _ I0.out).mono ?_
  rintro e w1 ⟨pv, rfl, ho, hb⟩
  have hlt := Strs.own_lt ho
  have Q0 : Hid (NMid (w.heap.size + 1 + 1) (w.heap.size + 1) pv L 0 w1) :=
    ⟨(hb.block _ (by rw [Z0.out]; omega)).trans R0.out.2.2, ⟨_, map_far M1.out (hb.block _ (by rw [Z0.out]; omega)), Cc.tells_start⟩, Flds.strs_mono ho (Nat.zero_le _)⟩
  have hs1 : w.heap.size + 3 ≤ w1.heap.size := by have := hb.size; rw [Z0.out] at this; exact this
  have HN := Num.hide (Flds.chosenTT_any 64 #[.pointer (some ⟨w.heap.size + 1 + 1, 0, none⟩)] w.heap.size w1 pv L (fun k => names (L.take k)) (NMid (w.heap.size + 1 + 1) (w.heap.size + 1) pv L)
    (fun k W hq => Strs.own_is hq.list) (by omega) rfl (fun k hk => by have := names_len (L.take k); rw [List.length_take] at this; omega) (by omega) Q0.out
    (fun k W W' hq hb2 => hq.far (by omega) (by omega) (fun j hj => (hlt j hj).2) hb2)
    (names_choice (w.heap.size + 1 + 1) (w.heap.size + 1) w1.heap.size w.heap.size pv L w1 (by omega) hpz (by omega) (by omega) (by omega) (fun j hj => by have := (hlt j hj).1; rw [Z0.out] at this; omega)) (enters_of Tryd.func64 (by kernel_rfl) rfl))
  simp only [List.take_length] at HN
  have HB1 := Num.hide (B0.out.trans (hb.mono (by rw [Z0.out]; omega)))
  have hs2 : w.heap.size ≤ w1.heap.size := by omega
  clear hlt ho hb c1 R0 M1 B0 I0 Q0 HP
  go_wp2_with fail
  refine HN.out.mono ?_
  rintro e w2 ⟨v', rfl, ho, hb, -⟩
  have HO := Num.hide (Flds.strs_mono ho hs2)
  have HB2 := Num.hide (HB1.out.trans hb)
  clear ho hb
  go_wp2
  go_ret
  exact ⟨_, rfl, HO.out, HB2.out⟩
end Vary
end Go.Proofs.YtkogcbnbmdeolaaDoor
namespace Go.Proofs.YtkogcbnbmdeolaaDoor
open Go.ChangeShapes Go.WideShapes Go.ChangeAt Go.RowKit Go.Deep
set_option linter.unusedVariables false
namespace Resp

/-- what the walk is told of a response that came in -/
def Arg (w : World) (v : Value) (s : Int) (l : List Flds.Fld) (b : ByteArray) : Prop := ∃ u, v = val s u b ∧ Flds.Arg w u l ∧ b.size ≤ maxLen ∧ (Lit.int .i64 s).wf = true
theorem three {α : Type} {cs : Array α} (h : cs.size = 3) : ∃ c0 c1 c2, cs = #[c0, c1, c2] := by
  obtain ⟨l⟩ := cs
  match l, h with
  | [c0, c1, c2], _ => exact ⟨c0, c1, c2, rfl⟩
set_option maxRecDepth 100000 in
theorem opened {H : Type} {enc : TypeId × Value → H} {W : World} {base : Nat} {v : Value} {d : DataW H} {p : List MemPlace}
    (hok : Value.okWide Tryd.prog W .any base 46 v) (h : DataW.Trod enc Tryd.prog W 0 (fun _ => true) true 46 v d p) : ∃ s l b, Arg W v s l b := by
  obtain ⟨cs, rfl, hz⟩ := okWide_struct Tryd.underlying46 hok
  obtain ⟨fuel, hf⟩ := h
  obtain ⟨c0, c1, c2, rfl⟩ := three (hz.trans (by kernel_rfl))
  obtain ⟨y0, y1, y2, n, _, hl, h0, h1, h2⟩ := trod_struct3 Tryd.underlying46 hf
  have e0 : Tryd.prog.cellsOf 3 = 1 := by kernel_rfl
  have e1 : Tryd.prog.cellsOf 44 = 1 := by kernel_rfl
  have e2 : Tryd.prog.cellsOf 9 = 1 := by kernel_rfl
  simp only [Value.cells] at h0 h1 h2
  rw [e0] at h0
  rw [e1] at h1
  rw [e2] at h2
  simp only [List.drop_zero, List.drop_succ_cons, List.take_succ_cons, List.take_zero] at h0 h1 h2
  obtain ⟨a0, len0, cap0, l, hcs, hla⟩ := Flds.opened_cells h1
  obtain ⟨t, et, _, ht⟩ := DataW.trod_string Tryd.underlying9 h2
  obtain ⟨k, ek, _, hk⟩ := DataW.trod_int Tryd.underlying3 h0
  simp only [List.cons.injEq, and_true] at hcs et ek
  subst hcs et ek
  exact ⟨k, l, t, _, rfl, hla, ht, hk⟩
theorem arg_stay {C : Nat} {w w' : World} {v : Value} {s : Int} {l : List Flds.Fld} {b : ByteArray} (h : Arg w v s l b) (hC : w.heap.size ≤ C) (hb : Below C w w') : Arg w' v s l b := by
  obtain ⟨u, h1, h2, h3⟩ := h
  exact ⟨u, h1, Flds.arg_stay h2 hC hb, h3⟩
end Resp
end Go.Proofs.YtkogcbnbmdeolaaDoor
