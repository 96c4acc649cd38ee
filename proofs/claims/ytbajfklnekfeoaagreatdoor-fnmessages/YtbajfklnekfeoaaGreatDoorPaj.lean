/-
  RespSameSpec: SameResponse of the specification: are two answers the same?
  Box4: Boxes of four and of three values, of a call's own; shown fields are small.
  MsgsWalk: FnMessages: requests and answers are read from their texts, whatever stands behind; of a beginning more is wanted: for every draw, of a program whose functions tell what they are to tell.
  DrawSpoilt: l1Spoil of the draws, of a cursor in whatever state.
  FldShowSpec: ShowFields of the specification: the text of fields; what was there stays.
  FldDropSpec: FieldDrop of the specification: a list of fields in a row of the call's own; what was there stays.
-/
import Derived.Test.YtbajfklnekfeoaaGreatDoorPac
import Derived.Test.YtbajfklnekfeoaaGreatDoorPai
import Derived.Test.YtbajfklnekfeoaaGreatDoorRecs
import Derived.Test.YtbajfklnekfeoaaGreatDoorPah
import Derived.Test.YtbajfklnekfeoaaGreatDoorPaf
import Derived.Test.YtbajfklnekfeoaaGreatDoorPae
import Derived.Deep.Cut
import Derived.Test.YtbajfklnekfeoaaGreatDoorPaa
import Derived.Test.YtbajfklnekfeoaaGreatDoorDrawSpoil
import Derived.Test.YtbajfklnekfeoaaGreatDoorFldsOkSpec
import Derived.Deep.QuietTactic
import Derived.BigQuiet
namespace Go.Proofs.YtbajfklnekfeoaaGreatDoor
open Go.RowKit
set_option linter.unusedVariables false
namespace Msg

/-- are two answers the same? -/
def sameResp (s1 : Int) (l1 : List Flds.Fld) (b1 : ByteArray) (s2 : Int) (l2 : List Flds.Fld) (b2 : ByteArray) : Bool := decide (s1 = s2) && decide (b1 = b2) && decide (l1 = l2)
set_option maxRecDepth 100000 in
set_option maxHeartbeats 2000000 in
theorem sameResp_spec (s1 s2 : Int) (v1 v2 : Value) (l1 l2 : List Flds.Fld) (b1 b2 : ByteArray) (w : World) (h1 : Flds.Is w v1 l1) (h2 : Flds.Is w v2 l2) (hl : l1.length ≤ 1099511627776) :
    Calls Tryz.prog 26 #[Resp.val s1 v1 b1, Resp.val s2 v2 b2] w fun e w' => e = .returned (.bool (sameResp s1 l1 b1 s2 l2 b2)) ∧ Below w.heap.size w w' := by
  have HF := Num.hide (fun W (hb : Below w.heap.size w W) => Flds.same_spec_b v1 v2 l1 l2 W (Recs.is_below h1 hb) (Recs.is_below h2 hb) hl)
  obtain ⟨a1, c1, rfl, _⟩ := Flds.is_form h1
  obtain ⟨a2, c2, rfl, _⟩ := Flds.is_form h2
  have HB := Num.hide (((Below.refl w.heap.size w).alloc (Nat.le_refl _) (.cells #[.int .i64 s1, .slice a1 l1.length c1, .string b1] 47)).alloc (by simp) (.cells #[.int .i64 s2, .slice a2 l2.length c2, .string b2] 47))
  clear h1 h2
  unfold Resp.val sameResp
  by_cases hs : s1 = s2
  · have d1 : (s1 == s2) = true := by rw [beq_iff_eq]; exact hs
    rw [decide_eq_true hs]
    by_cases hb : b1 = b2
    · have d2 : (b1.toList == b2.toList) = true := by rw [hb]; simp
      rw [decide_eq_true hb, Bool.true_and, Bool.true_and]
      clear hs hb
      go_enter Tryz.func26, Tryz.ntmps26
      go_wp2_with fail
      refine (HF.out _ HB.out).mono ?_
      rintro e w1 ⟨rfl, hb1⟩
      have HB1 := Num.hide (HB.out.trans (hb1.mono HB.out.size))
      clear hb1
      go_wp2
      go_ret
      exact ⟨rfl, HB1.out⟩
    · have d2 : (b1.toList == b2.toList) = false := by
        rw [beq_eq_false_iff_ne, ByteArray.toList_eq, ByteArray.toList_eq]
        intro e
        exact hb (ByteArray.ext (Array.toList_inj.1 e))
      rw [decide_eq_false hb, Bool.true_and, Bool.false_and]
      clear hs hb
      go_enter Tryz.func26, Tryz.ntmps26
      go_wp2
      go_ret
      exact ⟨rfl, HB.out⟩
  · have d1 : (s1 == s2) = false := by rw [beq_eq_false_iff_ne]; exact hs
    rw [decide_eq_false hs, Bool.false_and, Bool.false_and]
    clear hs
    go_enter Tryz.func26, Tryz.ntmps26
    go_wp2
    go_ret
    exact ⟨rfl, HB.out⟩
end Msg
end Go.Proofs.YtbajfklnekfeoaaGreatDoor
namespace Go.Proofs.YtbajfklnekfeoaaGreatDoor
open Go.RowKit
set_option linter.unusedVariables false
namespace Msg

/-- a box of four values, of the call's own; what was there stays -/
abbrev Box4 (w : World) (x y z u : Value) (W : World) : Prop :=
  W.cell? ⟨w.heap.size, 0, none⟩ = some x ∧ W.cell? ⟨w.heap.size, 1, none⟩ = some y ∧ W.cell? ⟨w.heap.size, 2, none⟩ = some z ∧ W.cell? ⟨w.heap.size, 3, none⟩ = some u ∧ Below w.heap.size w W
theorem Box4.step {w : World} {x y z u : Value} {W W' : World} (h : Box4 w x y z u W) (hb : Below W.heap.size W W') : Box4 w x y z u W' := by
  obtain ⟨h0, h1, h2, h3, h4⟩ := h
  have hlt : w.heap.size < W.heap.size := Recs.lt_of_cell h0
  exact ⟨(hb.cell (p := ⟨w.heap.size, 0, none⟩) hlt).trans h0, (hb.cell (p := ⟨w.heap.size, 1, none⟩) hlt).trans h1, (hb.cell (p := ⟨w.heap.size, 2, none⟩) hlt).trans h2, (hb.cell (p := ⟨w.heap.size, 3, none⟩) hlt).trans h3, h4.trans (hb.mono h4.size)⟩
theorem Box4.first (w : World) (x y z u : Value) (T : TypeId) {W : World} (hb : Below (w.alloc (.cells #[x, y, z, u] T)).heap.size (w.alloc (.cells #[x, y, z, u] T)) W) : Box4 w x y z u W := by
  have hlt : w.heap.size < (w.alloc (.cells #[x, y, z, u] T)).heap.size := by rw [World.size_alloc]; omega
  have hc : ∀ j, W.cell? ⟨w.heap.size, j, none⟩ = (#[x, y, z, u] : Array Value)[j]? := fun j => (hb.cell (p := ⟨w.heap.size, j, none⟩) hlt).trans (cell_of_row _ _ _ _ _ _ (heap_alloc_new w _))
  have hb0 := (Below.refl w.heap.size w).alloc (Nat.le_refl _) (.cells #[x, y, z, u] T)
  exact ⟨hc 0, hc 1, hc 2, hc 3, hb0.trans (hb.mono hb0.size)⟩
theorem Box4.drew {w : World} {x y z u : Value} {W : World} (h : Box4 w x y z u W) : Box4 w x y z u W.drew := h.step (Below.refl _ _).drew
theorem framed_bulk {L : List Flds.Fld} (h : Flds.ok L = true) : Flds.bulk L ≤ 1099511627776 := by
  have h1 := Flds.showGo_size L
  have h2 : (Flds.showGo L).size ≤ 1058 := by rw [size_of, Flds.showGo_list]; have := lines_len h; rw [lines_map, List.length_append] at this; omega
  unfold Flds.bulk
  omega
theorem shown_small {L : List Flds.Fld} (h : Flds.ok L = true) : (Flds.shown L).size ≤ 1058 := by rw [size_of, shown_list h]; exact lines_len h
theorem ok_bulk {L : List Flds.Fld} (h : Flds.ok L = true) : Flds.bulk L ≤ 1048576 := by
  have h1 := Flds.showGo_size L
  have h2 : (Flds.showGo L).size ≤ 1058 := by rw [size_of, Flds.showGo_list]; have := lines_len h; rw [lines_map, List.length_append] at this; omega
  unfold Flds.bulk
  omega
/-- a box of three values, of the call's own; what was there stays -/
abbrev Tri (w : World) (x y z : Value) (W : World) : Prop :=
  W.cell? ⟨w.heap.size, 0, none⟩ = some x ∧ W.cell? ⟨w.heap.size, 1, none⟩ = some y ∧ W.cell? ⟨w.heap.size, 2, none⟩ = some z ∧ Below w.heap.size w W
theorem Tri.step {w : World} {x y z : Value} {W W' : World} (h : Tri w x y z W) (hb : Below W.heap.size W W') : Tri w x y z W' := by
  obtain ⟨h0, h1, h2, h4⟩ := h
  have hlt : w.heap.size < W.heap.size := Recs.lt_of_cell h0
  exact ⟨(hb.cell (p := ⟨w.heap.size, 0, none⟩) hlt).trans h0, (hb.cell (p := ⟨w.heap.size, 1, none⟩) hlt).trans h1, (hb.cell (p := ⟨w.heap.size, 2, none⟩) hlt).trans h2, h4.trans (hb.mono h4.size)⟩
theorem Tri.first (w : World) (x y z : Value) (T : TypeId) {W : World} (hb : Below (w.alloc (.cells #[x, y, z] T)).heap.size (w.alloc (.cells #[x, y, z] T)) W) : Tri w x y z W := by
  have hlt : w.heap.size < (w.alloc (.cells #[x, y, z] T)).heap.size := by rw [World.size_alloc]; omega
  have hc : ∀ j, W.cell? ⟨w.heap.size, j, none⟩ = (#[x, y, z] : Array Value)[j]? := fun j => (hb.cell (p := ⟨w.heap.size, j, none⟩) hlt).trans (cell_of_row _ _ _ _ _ _ (heap_alloc_new w _))
  have hb0 := (Below.refl w.heap.size w).alloc (Nat.le_refl _) (.cells #[x, y, z] T)
  exact ⟨hc 0, hc 1, hc 2, hb0.trans (hb.mono hb0.size)⟩
theorem Tri.drew {w : World} {x y z : Value} {W : World} (h : Tri w x y z W) : Tri w x y z W.drew := h.step (Below.refl _ _).drew
end Msg
end Go.Proofs.YtbajfklnekfeoaaGreatDoor
namespace Go.Proofs.YtbajfklnekfeoaaGreatDoor
open Go.RowKit
set_option linter.unusedVariables false
set_option linter.unusedSimpArgs false
namespace Msgs
open Flds (Fld)
open Draw
open Msg

theorem code_at {w W : World} {a : Option Addr} {l : List Int} (h : CodeAt w.heap.size w a l) (hb : Below w.heap.size w W) : CodeAt W.heap.size W a l := (h.below hb).wider hb.size
theorem row_below {W W' : World} {g : Nat} {o : Obj} (h : W.heap[g]? = some o) (hb : Below W.heap.size W W') : W'.heap[g]? = some o := (hb.block g (Array.getElem?_eq_some_iff.1 h).1).trans h
theorem size_list (s : ByteArray) : s.size = s.data.toList.length := by rw [Array.length_toList]; rfl
theorem req_size {m u : ByteArray} {l : List Fld} {b : ByteArray} (h : reqOk m u l b = true) : 0 < (reqText m u l b).size ∧ (reqText m u l b).size ≤ 2000 := by
  obtain ⟨_, _, _, hp, hb⟩ := req_parts h
  have h1 := req_list h
  have h2 := rline_len h
  have h3 := lines_len (ok_framed hp b hb)
  rw [size_list, h1, List.length_append, lines_cons]
  have h4 := size_list b
  simp only [List.length_append, List.length_cons]
  omega
theorem resp_size {st : Int} {l : List Fld} {b : ByteArray} (h : respOk st l b = true) : 0 < (respText st l b).size ∧ (respText st l b).size ≤ 2000 := by
  obtain ⟨⟨h0, h1⟩, hp, hb, _⟩ := resp_parts h
  have e1 := resp_list h
  have h3 := lines_len (ok_fields h)
  have h4 := size_list b
  have h5 := (dec_status st h0 h1).1
  have h6 := (reason_none st).2
  rw [size_list] at h5 h6
  rw [size_list, e1, List.length_append, lines_cons]
  unfold sline
  simp only [List.length_append, List.length_cons]
  have h7 : ver.data.toList.length = 8 := rfl
  omega
theorem show_size (m u : ByteArray) (l : List Fld) (b : ByteArray) : (showReq m u l b).size ≤ 2000 := by
  unfold showReq
  by_cases h : reqOk m u l b = true
  · rw [if_pos h]; exact (req_size h).2
  · rw [if_neg h]; exact Nat.zero_le _
theorem showS_size (st : Int) (l : List Fld) (b : ByteArray) : (showResp st l b).size ≤ 2000 := by
  unfold showResp
  by_cases h : respOk st l b = true
  · rw [if_pos h]; exact (resp_size h).2
  · rw [if_neg h]; exact Nat.zero_le _
theorem ok_small {m u : ByteArray} {l : List Fld} {b : ByteArray} (h : reqOk m u l b = true) : Flds.bulk l ≤ 1048576 ∧ m.size ≤ 10 ∧ u.size ≤ 1048576 := by
  obtain ⟨_, h2, h3, h4, _⟩ := req_parts h
  refine ⟨?_, h2, ?_⟩
  · unfold plain at h4
    rw [Bool.and_eq_true] at h4
    exact ok_bulk h4.2
  · unfold uriOk at h3
    simp only [Bool.and_eq_true, decide_eq_true_iff] at h3
    omega
/-- what is known of a shown request -/
structure Shown (m u : ByteArray) (l : List Fld) (b s : ByteArray) : Prop where
  small : s.size ≤ 2000
  yes : reqOk m u l b = true → 0 < s.size ∧ readReq (s ++ ⟨#[71, 69, 84, 32, 47]⟩) = ((m, u, l, b), (s.size : Int), 0) ∧ ∀ K, K < s.size → readReq (s.extract 0 K) = noRq 1
  no : reqOk m u l b = false → s = ⟨#[]⟩
theorem shown_of (m u : ByteArray) (l : List Fld) (b : ByteArray) : Shown m u l b (showReq m u l b) where
  small := show_size m u l b
  yes := by
    intro h
    have e : showReq m u l b = reqText m u l b := if_pos h
    rw [e]
    exact ⟨(req_size h).1, read_req h _, fun K hK => read_cut h K hK⟩
  no := by intro h; unfold showReq; rw [if_neg (by rw [h]; exact Bool.false_ne_true)]
/-- what is known of a shown answer -/
structure ShownS (st : Int) (l : List Fld) (b s : ByteArray) : Prop where
  small : s.size ≤ 2000
  yes : respOk st l b = true → 0 < s.size ∧ readResp s = ((st, l, b), (s.size : Int), 0)
  no : respOk st l b = false → s = ⟨#[]⟩
theorem shownS_of (st : Int) (l : List Fld) (b : ByteArray) : ShownS st l b (showResp st l b) where
  small := showS_size st l b
  yes := by
    intro h
    have e : showResp st l b = respText st l b := if_pos h
    rw [e]
    exact ⟨(resp_size h).1, read_resp h⟩
  no := by intro h; unfold showResp; rw [if_neg (by rw [h]; exact Bool.false_ne_true)]
/-- the memory that a walk goes on with -/
structure At (G : World → Prop) (w W : World) : Prop where
  ground : G W
  below : Below w.heap.size w W
theorem At.step {G : World → Prop} (HGb : ∀ W W', G W → Below W.heap.size W W' → G W') {w W W' : World} (h : At G w W) (hb : Below W.heap.size W W') : At G w W' := ⟨HGb _ _ h.ground hb, h.below.trans (hb.mono h.below.size)⟩

set_option maxRecDepth 100000 in
set_option maxHeartbeats 16000000 in
theorem law (G : World → Prop) (HGb : ∀ W W', G W → Below W.heap.size W W' → G W')
    (hSQ : ∀ (m u : ByteArray) (v : Value) (l : List Fld) (b : ByteArray) (W : World), Flds.Is W v l → Flds.bulk l ≤ 1048576 → m.size ≤ 1048576 → u.size ≤ 1048576 → b.size ≤ 1048576 → G W →
      Calls Tryz.prog 18 #[Req.val m u v b] W fun e w' => e = .returned (.string (showReq m u l b)) ∧ Below W.heap.size W w')
    (hRQ : ∀ (s : ByteArray) (W : World), s.size ≤ 1048576 → G W →
      Calls Tryz.prog 19 #[.string s] W fun e w' => ∃ v', e = .returned (.tuple #[Req.val (readReq s).1.1 (readReq s).1.2.1 v' (readReq s).1.2.2.2, .int .i64 (readReq s).2.1, .int .i64 (readReq s).2.2]) ∧ Flds.Own W.heap.size w' v' (readReq s).1.2.2.1 ∧ Below W.heap.size W w')
    (hSS : ∀ (st : Int) (v : Value) (l : List Fld) (b : ByteArray) (W : World), Flds.Is W v l → Flds.bulk l ≤ 1048576 → b.size ≤ 1048576 → G W →
      Calls Tryz.prog 23 #[Resp.val st v b] W fun e w' => e = .returned (.string (showResp st l b)) ∧ Below W.heap.size W w')
    (hRS : ∀ (s : ByteArray) (W : World), s.size ≤ 1048576 → G W →
      Calls Tryz.prog 24 #[.string s] W fun e w' => ∃ v', e = .returned (.tuple #[Resp.val (readResp s).1.1 v' (readResp s).1.2.2, .int .i64 (readResp s).2.1, .int .i64 (readResp s).2.2]) ∧ Flds.Own W.heap.size w' v' (readResp s).1.2.1 ∧ Below W.heap.size W w')
    (a : Option Addr) (cap : Nat) (l0 : List Int)
    (hDR : ∀ W : World, CodeAt W.heap.size W a l0 → Calls Tryz.prog 27 #[.slice a l0.length cap] W fun e w' => ∃ t, e = .returned (.string t) ∧ t.size ≤ 10000 ∧ Below W.heap.size W w')
    (w : World) (hcode : CodeAt w.heap.size w a l0) (hl0 : l0.length ≤ 1048576) (g : G w) :
    Calls Tryz.prog 4 #[.slice a l0.length cap] w fun e w' => e = .returned (.bool true) ∧ Below w.heap.size w w' := by
  have HC := Num.hide hcode
  have HAt := Num.hide (fun (W W' : World) (h : At G w W) hb => At.step HGb (W' := W') h hb)
  have HSQ := Num.hide hSQ
  have HRQ := Num.hide hRQ
  have HSS := Num.hide hSS
  have HRS := Num.hide hRS
  have HDR := Num.hide hDR
  have HBg := Num.hide (fun W => big_any a l0.length cap W (by omega))
  rw [decide_eq_false (by omega : ¬ (1048576 < (l0.length : Int)))] at HBg
  have HW0 : Hid (At G w w) := ⟨g, Below.refl _ _⟩
  clear hcode hSQ hRQ hSS hRS hDR HGb g
  go_enter Tryz.func4, Tryz.ntmps4
  go_wp2_with fail
  refine (HBg.out _).mono ?_
  rintro e w0 ⟨rfl, rfl⟩
  go_wp2_with fail
  refine (drawShowReq cap a l0 w HC.out hl0).mono ?_
  rintro e w1 ⟨m, u, v, l, b, rfl, hm, hu, hv, hf, hb, hB⟩
  obtain ⟨av, cv, hvv⟩ := Recs.own_len hv
  subst hvv
  have hal : Below w1.heap.size w1 (w1.alloc (.cells #[.string m, .string u, .slice av l.length cv, .string b] 39)) := (Below.refl _ _).alloc (Nat.le_refl _) _
  have HW1 := Num.hide (HAt.out _ _ (HAt.out _ _ HW0.out hB) hal)
  have HV1 := Num.hide (Recs.own_below hv hal)
  have HX1 : Hid ((w1.alloc (.cells #[.string m, .string u, .slice av l.length cv, .string b] 39)).heap[w1.heap.size]? = some (.cells #[.string m, .string u, .slice av l.length cv, .string b] 39)) := heap_alloc_new w1 _
  have HF := Num.hide hf
  have hbk := hf.bulk (by omega)
  clear hB hv hal hf HW0
  unfold Req.val
  go_upto_region 4 with fail
  generalize w1.alloc (.cells #[.string m, .string u, .slice av l.length cv, .string b] 39) = w2 at HW1 HV1 HX1 ⊢
  generalize w1.heap.size = g1 at HX1 ⊢
  have c0 := Recs.box_cell HX1.out 0
  have c1 := Recs.box_cell HX1.out 1
  have c2 := Recs.box_cell HX1.out 2
  have c3 := Recs.box_cell HX1.out 3
  simp only [List.getElem?_toArray, List.getElem?_cons_succ, List.getElem?_cons_zero] at c0 c1 c2 c3
  have HS := Num.hide (HSQ.out m u _ l b w2 (Recs.own_is Flds.cells_len HV1.out) (by omega) (by omega) (by omega) (by omega) HW1.out.ground)
  have HSh := Num.hide (shown_of m u l b)
  generalize showReq m u l b = s at HS HSh
  unfold Req.val at HS
  have hss := HSh.out.small
  go_wp2_with fail
  refine HS.out.mono ?_
  rintro e w3 ⟨rfl, hb3⟩
  have HW3 := Num.hide (HAt.out _ _ HW1.out hb3)
  have HV3 := Num.hide (Recs.own_below HV1.out hb3)
  have HX3 := Num.hide (row_below HX1.out hb3)
  clear hb3 c0 c1 c2 c3 HS HW1 HV1 HX1
  have hse : (s ++ ⟨#[71, 69, 84, 32, 47]⟩ : ByteArray).size ≤ 1048576 := by rw [ByteArray.size_append]; have e1 : (⟨#[71, 69, 84, 32, 47]⟩ : ByteArray).size = 5 := rfl; omega
  have HR := Num.hide (HRQ.out (s ++ ⟨#[71, 69, 84, 32, 47]⟩) w3 hse HW3.out.ground)
  have HRy := Num.hide (fun h => (HSh.out.yes h).2.1)
  generalize readReq (s ++ ⟨#[71, 69, 84, 32, 47]⟩) = R at HR HRy
  obtain ⟨⟨m2, u2, l2, b2⟩, n2, k2⟩ := R
  simp only at HR
  unfold Req.val at HR
  clear hse
  go_wp2_with fail
  refine HR.out.mono ?_
  rintro e w4 ⟨v2, rfl, ho, hb4⟩
  obtain ⟨av2, cv2, hvv⟩ := Recs.own_len ho
  subst hvv
  have hal : Below w4.heap.size w4 (w4.alloc (.cells #[.string m2, .string u2, .slice av2 l2.length cv2, .string b2] 39)) := (Below.refl _ _).alloc (Nat.le_refl _) _
  have HW4 := Num.hide (HAt.out _ _ (HAt.out _ _ HW3.out hb4) hal)
  have HV4 := Num.hide (Recs.own_below (Recs.own_below HV3.out hb4) hal)
  have HX4 := Num.hide (row_below (row_below HX3.out hb4) hal)
  have HY4 : Hid ((w4.alloc (.cells #[.string m2, .string u2, .slice av2 l2.length cv2, .string b2] 39)).heap[w4.heap.size]? = some (.cells #[.string m2, .string u2, .slice av2 l2.length cv2, .string b2] 39)) := heap_alloc_new w4 _
  have HU4 := Num.hide (Recs.own_below ho hal)
  clear hb4 ho hal HR HW3 HV3 HX3
  go_upto_region 6 with fail
  generalize w4.alloc (.cells #[.string m2, .string u2, .slice av2 l2.length cv2, .string b2] 39) = w5 at HW4 HV4 HX4 HY4 HU4 ⊢
  generalize w4.heap.size = g2 at HY4 HU4 ⊢
  have hv2 := Num.hide (Recs.own_is Flds.cells_len HU4.out)
  clear HU4
  go_cut [80] from 20 (fun v wx => v = .bool false ∧ Hid (At G w wx))
  case first =>
    have c0 := Recs.box_cell HX4.out 0
    have c1 := Recs.box_cell HX4.out 1
    have c2 := Recs.box_cell HX4.out 2
    have c3 := Recs.box_cell HX4.out 3
    simp only [List.getElem?_toArray, List.getElem?_cons_succ, List.getElem?_cons_zero] at c0 c1 c2 c3
    have HOk := Num.hide (reqOk_spec m u _ l b w5 (Recs.own_is Flds.cells_len HV4.out) (by omega) (by omega) (by omega) (by omega))
    unfold Req.val at HOk
    by_cases hok : reqOk m u l b = true
    · rw [hok] at HOk
      obtain ⟨hpos, hread, _⟩ := HSh.out.yes hok
      have hR := HRy.out hok
      simp only [Prod.mk.injEq] at hR
      obtain ⟨⟨rfl, rfl, rfl, rfl⟩, rfl, rfl⟩ := hR
      have dne := Sign.empty_false s hpos
      clear hread hok HRy
      go_wp2_with fail
      refine HOk.out.mono ?_
      rintro e w6 ⟨rfl, hb6⟩
      have HW6 := Num.hide (HAt.out _ _ HW4.out hb6)
      have hX6 := row_below HX4.out hb6
      have hY6 := row_below HY4.out hb6
      have HV6 := Num.hide (Recs.is_below (Recs.own_is Flds.cells_len HV4.out) hb6)
      have HU6 := Num.hide (Recs.is_below hv2.out hb6)
      clear c0 c1 c2 c3
      have c0 := Recs.box_cell hX6 0
      have c1 := Recs.box_cell hX6 1
      have c2 := Recs.box_cell hX6 2
      have c3 := Recs.box_cell hX6 3
      have y0 := Recs.box_cell hY6 0
      have y1 := Recs.box_cell hY6 1
      have y2 := Recs.box_cell hY6 2
      have y3 := Recs.box_cell hY6 3
      simp only [List.getElem?_toArray, List.getElem?_cons_succ, List.getElem?_cons_zero] at c0 c1 c2 c3 y0 y1 y2 y3
      clear hX6 hY6 hb6 HOk HW4 HV4 HX4 HY4 hv2
      go_wp2_with fail
      refine (Flds.same_spec_b _ _ l2 l2 w6 HU6.out HV6.out (by have := HF.out.len; omega)).mono ?_
      rintro e w7 ⟨rfl, hb7⟩
      rw [decide_eq_true rfl]
      have HW7 := Num.hide (HAt.out _ _ HW6.out hb7)
      clear c0 c1 c2 c3 y0 y1 y2 y3 hb7 HW6
      go_wp2
      go_meet
      case rel => exact ⟨rfl, HW7⟩
    · have hok : reqOk m u l b = false := by simpa using hok
      rw [hok] at HOk
      obtain rfl := HSh.out.no hok
      clear hok HRy
      go_wp2_with fail
      refine HOk.out.mono ?_
      rintro e w6 ⟨rfl, hb6⟩
      have HW6 := Num.hide (HAt.out _ _ HW4.out hb6)
      clear c0 c1 c2 c3 hb6 HW4
      go_wp2
      go_meet
      case rel => exact ⟨rfl, HW6⟩
  case rest =>
    obtain ⟨rfl, HW⟩ := hcut
    clear HW4 HV4 HX4 HY4 hv2 HRy
    go_upto_if 82 with fail
    go_cut [8, 9, 10] from 20 (fun _ _ _ wx => Hid (At G w wx))
    case first =>
      by_cases hok : reqOk m u l b = true
      · obtain ⟨hpos, _, hct⟩ := HSh.out.yes hok
        have dne := Sign.empty_false s hpos
        have dt0 : ((s.size : Int) == 0) = false := by rw [beq_eq_false_iff_ne]; omega
        have HCt := Num.hide hct
        clear hok hct
        rw [dne]
        simp only [Bool.not_false]
        go_wp2_with fail
        refine (at_zero w.heap.size cap a l0 _ (HC.out.below HW.out.below) hl0).mono ?_
        rintro e w1 ⟨k0, rfl, hk0, hk1, rfl⟩
        obtain ⟨K, hK⟩ : ∃ K : Nat, k0 % (s.size : Int) = (K : Int) := ⟨(k0 % (s.size : Int)).toNat, by have := Int.emod_nonneg k0 (show (s.size : Int) ≠ 0 by omega); omega⟩
        have hKt : K < s.size := by have := Int.emod_lt_of_pos k0 (show 0 < (s.size : Int) by omega); omega
        have hr := fun W hs hg => HRQ.out (s.extract 0 K) W hs hg
        rw [HCt.out K hKt] at hr
        unfold noRq Req.val at hr
        simp only at hr
        have HRK := Num.hide hr
        clear hr
        go_wp2_with fail
        refine (HRK.out _ (by rw [ByteArray.size_extract]; omega) HW.out.ground).mono ?_
        rintro e w2 ⟨v3, rfl, ho, hb⟩
        obtain ⟨a3, q3, hvv⟩ := Recs.own_len ho
        subst hvv
        have HW2 := Num.hide (HAt.out _ _ (HAt.out _ _ HW.out hb) ((Below.refl w2.heap.size w2).alloc (Nat.le_refl _) (.cells #[.string ⟨#[]⟩, .string ⟨#[]⟩, .slice a3 0 q3, .string ⟨#[]⟩] 39)))
        clear ho hb HW
        go_wp2
        go_meet
        case rel => exact HW2
      · have hok : reqOk m u l b = false := by simpa using hok
        obtain rfl := HSh.out.no hok
        clear hok
        rw [show (⟨#[]⟩ : ByteArray).toList.isEmpty = true by rw [ByteArray.toList_eq]; rfl]
        simp only [Bool.not_true]
        go_wp2
        go_meet
        case rel => exact HW
    case rest =>
    have HW := hcut
    clear hcut HSh
    go_wp2_with fail
    refine (drawShowResp cap a l0 _ (code_at HC.out HW.out.below) hl0).mono ?_
    rintro e w1 ⟨st, vr, lr, br, rfl, hs0, hs1, hv, hf, hbr, hB⟩
    obtain ⟨av, cv, hvv⟩ := Recs.own_len hv
    subst hvv
    have hal : Below w1.heap.size w1 (w1.alloc (.cells #[.int .i64 st, .slice av lr.length cv, .string br] 47)) := (Below.refl _ _).alloc (Nat.le_refl _) _
    have HW1 := Num.hide (HAt.out _ _ (HAt.out _ _ HW.out hB) hal)
    have HV1 := Num.hide (Recs.own_below hv hal)
    have HX1 : Hid ((w1.alloc (.cells #[.int .i64 st, .slice av lr.length cv, .string br] 47)).heap[w1.heap.size]? = some (.cells #[.int .i64 st, .slice av lr.length cv, .string br] 47)) := heap_alloc_new w1 _
    have HF2 := Num.hide hf
    have hbk2 := hf.bulk (by omega)
    clear hB hv hal hf HW
    unfold Resp.val
    go_upto_region 13 with fail
    generalize w1.alloc (.cells #[.int .i64 st, .slice av lr.length cv, .string br] 47) = w2 at HW1 HV1 HX1 ⊢
    generalize w1.heap.size = h1 at HX1 ⊢
    have c0 := Recs.box_cell HX1.out 0
    have c1 := Recs.box_cell HX1.out 1
    have c2 := Recs.box_cell HX1.out 2
    simp only [List.getElem?_toArray, List.getElem?_cons_succ, List.getElem?_cons_zero] at c0 c1 c2
    have HS := Num.hide (HSS.out st _ lr br w2 (Recs.own_is Flds.cells_len HV1.out) (by omega) (by omega) HW1.out.ground)
    have HSh := Num.hide (shownS_of st lr br)
    generalize showResp st lr br = t at HS HSh
    unfold Resp.val at HS
    have hts := HSh.out.small
    go_wp2_with fail
    refine HS.out.mono ?_
    rintro e w3 ⟨rfl, hb3⟩
    have HW3 := Num.hide (HAt.out _ _ HW1.out hb3)
    have HV3 := Num.hide (Recs.own_below HV1.out hb3)
    have HX3 := Num.hide (row_below HX1.out hb3)
    clear hb3 c0 c1 c2 HS HW1 HV1 HX1
    have HR := Num.hide (HRS.out t w3 (by omega) HW3.out.ground)
    have HRy := Num.hide (fun h => (HSh.out.yes h).2)
    generalize readResp t = R at HR HRy
    obtain ⟨⟨st2, lr2, br2⟩, n2, k2⟩ := R
    simp only at HR
    unfold Resp.val at HR
    go_wp2_with fail
    refine HR.out.mono ?_
    rintro e w4 ⟨v2, rfl, ho, hb4⟩
    obtain ⟨av2, cv2, hvv⟩ := Recs.own_len ho
    subst hvv
    have hal : Below w4.heap.size w4 (w4.alloc (.cells #[.int .i64 st2, .slice av2 lr2.length cv2, .string br2] 47)) := (Below.refl _ _).alloc (Nat.le_refl _) _
    have HW4 := Num.hide (HAt.out _ _ (HAt.out _ _ HW3.out hb4) hal)
    have HV4 := Num.hide (Recs.own_below (Recs.own_below HV3.out hb4) hal)
    have HX4 := Num.hide (row_below (row_below HX3.out hb4) hal)
    have HY4 : Hid ((w4.alloc (.cells #[.int .i64 st2, .slice av2 lr2.length cv2, .string br2] 47)).heap[w4.heap.size]? = some (.cells #[.int .i64 st2, .slice av2 lr2.length cv2, .string br2] 47)) := heap_alloc_new w4 _
    have HU4 := Num.hide (Recs.own_below ho hal)
    clear hb4 ho hal HR HW3 HV3 HX3
    go_upto_region 15 with fail
    generalize w4.alloc (.cells #[.int .i64 st2, .slice av2 lr2.length cv2, .string br2] 47) = w5 at HW4 HV4 HX4 HY4 HU4 ⊢
    generalize w4.heap.size = h2 at HY4 HU4 ⊢
    have hv2 := Num.hide (Recs.own_is Flds.cells_len HU4.out)
    clear HU4
    go_cut [135] from 20 (fun v wx => v = .bool false ∧ Hid (At G w wx))
    case first =>
      have c0 := Recs.box_cell HX4.out 0
      have c1 := Recs.box_cell HX4.out 1
      have c2 := Recs.box_cell HX4.out 2
      simp only [List.getElem?_toArray, List.getElem?_cons_succ, List.getElem?_cons_zero] at c0 c1 c2
      have HOk := Num.hide (respOk_spec st _ lr br w5 (Recs.own_is Flds.cells_len HV4.out) (by omega) (by omega))
      unfold Resp.val at HOk
      by_cases hok : respOk st lr br = true
      · rw [hok] at HOk
        obtain ⟨hpos, hread⟩ := HSh.out.yes hok
        have hR := HRy.out hok
        simp only [Prod.mk.injEq] at hR
        obtain ⟨⟨rfl, rfl, rfl⟩, rfl, rfl⟩ := hR
        have dne := Sign.empty_false t hpos
        clear hread hok HRy
        go_wp2_with fail
        refine HOk.out.mono ?_
        rintro e w6 ⟨rfl, hb6⟩
        have HW6 := Num.hide (HAt.out _ _ HW4.out hb6)
        have hX6 := row_below HX4.out hb6
        have hY6 := row_below HY4.out hb6
        have HV6 := Num.hide (Recs.is_below (Recs.own_is Flds.cells_len HV4.out) hb6)
        have HU6 := Num.hide (Recs.is_below hv2.out hb6)
        clear c0 c1 c2
        have c0 := Recs.box_cell hX6 0
        have c1 := Recs.box_cell hX6 1
        have c2 := Recs.box_cell hX6 2
        have y0 := Recs.box_cell hY6 0
        have y1 := Recs.box_cell hY6 1
        have y2 := Recs.box_cell hY6 2
        simp only [List.getElem?_toArray, List.getElem?_cons_succ, List.getElem?_cons_zero] at c0 c1 c2 y0 y1 y2
        have HSm := Num.hide (sameResp_spec st2 st2 _ _ lr2 lr2 br2 br2 w6 HU6.out HV6.out (by have := HF2.out.len; omega))
        rw [show sameResp st2 lr2 br2 st2 lr2 br2 = true by unfold sameResp; simp] at HSm
        unfold Resp.val at HSm
        clear hX6 hY6 hb6 HOk HW4 HV4 HX4 HY4 hv2
        go_wp2_with fail
        refine HSm.out.mono ?_
        rintro e w7 ⟨rfl, hb7⟩
        have HW7 := Num.hide (HAt.out _ _ HW6.out hb7)
        clear c0 c1 c2 y0 y1 y2 hb7 HW6
        go_wp2
        go_meet
        case rel => exact ⟨rfl, HW7⟩
      · have hok : respOk st lr br = false := by simpa using hok
        rw [hok] at HOk
        obtain rfl := HSh.out.no hok
        clear hok HRy
        go_wp2_with fail
        refine HOk.out.mono ?_
        rintro e w6 ⟨rfl, hb6⟩
        have HW6 := Num.hide (HAt.out _ _ HW4.out hb6)
        clear c0 c1 c2 hb6 HW4
        go_wp2
        go_meet
        case rel => exact ⟨rfl, HW6⟩
    case rest =>
    obtain ⟨rfl, HW⟩ := hcut
    clear HW4 HV4 HX4 HY4 hv2 HRy HSh
    go_wp2_with fail
    refine (HDR.out _ (code_at HC.out HW.out.below)).mono ?_
    rintro e w6 ⟨x, rfl, hx, hb6⟩
    have HW6 := Num.hide (HAt.out _ _ HW.out hb6)
    clear hb6 HW
    have HR := Num.hide (HRQ.out x w6 (by omega) HW6.out.ground)
    have HRr := Num.hide (fun h => read_right (s := x) h)
    generalize readReq x = R at HR HRr
    obtain ⟨⟨m2, u2, l2, b2⟩, n3, k3⟩ := R
    simp only at HR HRr
    unfold Req.val at HR
    go_wp2_with fail
    refine HR.out.mono ?_
    rintro e w7 ⟨v2, rfl, ho, hb7⟩
    obtain ⟨av2, cv2, hvv⟩ := Recs.own_len ho
    subst hvv
    have hal : Below w7.heap.size w7 (w7.alloc (.cells #[.string m2, .string u2, .slice av2 l2.length cv2, .string b2] 39)) := (Below.refl _ _).alloc (Nat.le_refl _) _
    have HW7 := Num.hide (HAt.out _ _ (HAt.out _ _ HW6.out hb7) hal)
    have HY7 : Hid ((w7.alloc (.cells #[.string m2, .string u2, .slice av2 l2.length cv2, .string b2] 39)).heap[w7.heap.size]? = some (.cells #[.string m2, .string u2, .slice av2 l2.length cv2, .string b2] 39)) := heap_alloc_new w7 _
    have HU7 := Num.hide (Recs.own_is Flds.cells_len (Recs.own_below ho hal))
    clear hb7 ho hal HR HW6
    go_upto_region 19 with fail
    generalize w7.alloc (.cells #[.string m2, .string u2, .slice av2 l2.length cv2, .string b2] 39) = w8 at HW7 HY7 HU7 ⊢
    generalize w7.heap.size = g3 at HY7 ⊢
    by_cases hk3 : k3 = 0
    · subst hk3
      obtain ⟨hok, hn0, hn1⟩ := HRr.out rfl
      obtain ⟨e1, e2, e3⟩ := ok_small hok
      have hbb := (req_parts hok).2.2.2.2
      have HOk := Num.hide (reqOk_spec m2 u2 _ l2 b2 w8 HU7.out (by omega) (by omega) (by omega) (by omega))
      rw [hok] at HOk
      unfold Req.val at HOk
      have y0 := Recs.box_cell HY7.out 0
      have y1 := Recs.box_cell HY7.out 1
      have y2 := Recs.box_cell HY7.out 2
      have y3 := Recs.box_cell HY7.out 3
      simp only [List.getElem?_toArray, List.getElem?_cons_succ, List.getElem?_cons_zero] at y0 y1 y2 y3
      have dn0 : decide (0 < n3) = true := decide_eq_true hn0
      have dn1 : decide (n3 ≤ (x.size : Int)) = true := decide_eq_true hn1
      clear hok HRr
      go_wp2_with fail
      refine HOk.out.mono ?_
      rintro e w9 ⟨rfl, hb9⟩
      have HW9 := Num.hide (HAt.out _ _ HW7.out hb9).below
      clear hb9 y0 y1 y2 y3 HW7 HY7 HU7 HOk
      go_wp2
      go_ret
      exact ⟨rfl, HW9.out⟩
    · have dk : (k3 != 0) = true := by rw [bne_iff_ne]; exact hk3
      have HW9 := Num.hide HW7.out.below
      clear hk3 HRr HW7 HY7 HU7
      go_wp2
      go_ret
      exact ⟨rfl, HW9.out⟩
end Msgs
end Go.Proofs.YtbajfklnekfeoaaGreatDoor
namespace Go.Proofs.YtbajfklnekfeoaaGreatDoor
open Go.RowKit
set_option linter.unusedVariables false
namespace Draw

theorem spoil_live (B C : Nat) (x : ByteArray) (w : World) (h : Live B C w) (hx : x.size ≤ 1000) :
    Calls Tryz.prog 68 #[.pointer (some ⟨C, 0, none⟩), .string x] w fun e w' => ∃ t, e = .returned (.string t) ∧ t.size ≤ 2100 ∧ Live B C w' ∧ Only C w w' := by
  obtain ⟨cap, a, l, s, h⟩ := h
  refine (spoil_at B C cap a l x w s h hx).mono ?_
  rintro e w' ⟨rfl, h2, ho⟩
  exact ⟨_, rfl, size_spv l x s hx, ⟨_, _, _, _, h2⟩, ho⟩
end Draw
end Go.Proofs.YtbajfklnekfeoaaGreatDoor
namespace Go.Proofs.YtbajfklnekfeoaaGreatDoor
open Go.RowKit
set_option linter.unusedVariables false
namespace Flds

set_option maxRecDepth 100000 in
set_option maxHeartbeats 1000000 in
theorem show_spec (v : Value) (l : List Fld) (w : World) (h : Is w v l) (hl : bulk l ≤ 1099511627776) :
    Calls Tryz.prog 118 #[v] w fun e w' => e = .returned (.string (shown l)) ∧ Below w.heap.size w w' := by
  have hz : ∀ f ∈ l, f.1.size ≤ maxLen ∧ f.2.size ≤ maxLen := by
    intro f hf
    obtain ⟨i, hi, rfl⟩ := List.getElem_of_mem hf
    have h3 := bulk_take l i hi
    have h4 := bulk_le l (i + 1)
    unfold bulk at hl; unfold maxLen
    omega
  have hlen : l.length ≤ 1099511627776 := by unfold bulk at hl; omega
  have HC := Num.hide (ok_spec v l w h hz hlen)
  obtain ⟨a, c, rfl, h2⟩ := is_form h
  have HA := Num.hide h2
  clear h h2 hz
  obtain ⟨r, hr⟩ : ∃ r, shown l = r := ⟨_, rfl⟩
  rw [hr]
  unfold shown at hr
  cases hok : ok l with
  | false =>
    rw [hok, if_neg (by simp)] at hr
    rw [hok] at HC
    subst hr
    clear hok
    go_enter Tryz.func118, Tryz.ntmps118
    go_wp2_with fail
    refine HC.out.mono ?_
    rintro e w1 ⟨rfl, hb⟩
    have HB := Num.hide hb
    clear hb
    go_wp2
    go_ret
    exact ⟨rfl, HB.out⟩
  | true =>
    rw [hok, if_pos rfl] at hr
    rw [hok] at HC
    have HR := Num.hide hr
    clear hok hr
    go_enter Tryz.func118, Tryz.ntmps118
    go_wp2_with fail
    refine HC.out.mono ?_
    rintro e w1 ⟨rfl, hb⟩
    have HB := Num.hide hb
    clear hb HC
    go_wp2
    go_loopw [3, 4] (fun sv iv wr => ∃ i : Nat, i ≤ l.length ∧ iv = .int .i64 (i : Int) ∧ (∃ s, sv = .string s ∧ Hid (showGo (l.take i) = s)) ∧ Hid (Below w.heap.size w wr)) (fun _ iv _ => l.length - (intOf iv).toNat)
    case atStart => exact ⟨0, by omega, rfl, ⟨_, rfl, rfl⟩, HB⟩
    case round =>
      clear HB
      obtain ⟨i, hi, rfl, ⟨s, rfl, HS⟩, HB⟩ := hrel
      have hss : s.size ≤ 8796093022208 := by
        have h1 := showGo_size (l.take i)
        have h2 := bulk_le l i
        rw [HS.out, List.length_take] at h1
        unfold bulk at hl
        omega
      by_cases hlt : i < l.length
      · obtain ⟨b, o, rfl, hc, hmx, hblt, hcell⟩ := Num.unhide HA (by omega)
        obtain ⟨g1, g2⟩ := hcell i hlt
        have c1 : wr.cell? ⟨b, o + i * 2, none⟩ = some (.string l[i].1) := by rw [HB.out.cell (p := ⟨b, o + i * 2, none⟩) hblt]; exact g1
        have c2 : wr.cell? ⟨b, o + i * 2 + 1, none⟩ = some (.string l[i].2) := by rw [HB.out.cell (p := ⟨b, o + i * 2 + 1, none⟩) hblt]; exact g2
        have hT := showGo_take l i hlt
        rw [HS.out] at hT
        have HT := Num.hide hT
        have hxy : (l[i]).1.size ≤ 8796093022208 ∧ (l[i]).2.size ≤ 8796093022208 := by
          have h3 := bulk_take l i hlt
          have h4 := bulk_le l (i + 1)
          unfold bulk at hl
          omega
        clear hcell g1 g2 hT
        generalize l[i] = f at c1 c2 HT hxy
        obtain ⟨x, y⟩ := f
        simp only at c1 c2 hxy
        unfold showStep at HT
        go_wp2
        go_quiet (fail)
        go_wp2
        go_roundw
        case rel => exact ⟨i + 1, by omega, by go_num, ⟨_, rfl, HT⟩, Num.hide (Recs.below_drewN HB.out nq)⟩
        case measure => simp [intOf]; omega
      · obtain rfl : i = l.length := by omega
        have hs := HS.out
        rw [List.take_of_length_le (Nat.le_refl _)] at hs
        have hr := HR.out
        rw [hs] at hr
        subst hr
        clear hs
        go_wp2
        go_ret
        exact ⟨rfl, HB.out⟩
end Flds
end Go.Proofs.YtbajfklnekfeoaaGreatDoor
namespace Go.Proofs.YtbajfklnekfeoaaGreatDoor
open Go.RowKit
set_option linter.unusedVariables false
namespace Flds

set_option maxRecDepth 100000 in
set_option maxHeartbeats 1000000 in
theorem drop_spec (v : Value) (l : List Fld) (name : ByteArray) (w : World) (h : Is w v l) (hl : l.length ≤ 1073741824) :
    Calls Tryz.prog 75 #[v, .string name] w fun e w' => ∃ v', e = .returned v' ∧ Own w.heap.size w' v' (drop l name) ∧ Below w.heap.size w w' := by
  obtain ⟨a, c, rfl, h2⟩ := is_form h
  have HA := Num.hide h2
  clear h h2
  obtain ⟨i0, hi0, hz0, hz1, hz2⟩ := info_parts infoF
  have HD := Num.hide (made_nil w)
  go_enter Tryz.func75, Tryz.ntmps75
  go_wp2
  go_loopw [5, 6] (fun ov iv wr => ∃ i : Nat, i ≤ l.length ∧ iv = .int .i64 (i : Int) ∧ Hid (Own w.heap.size wr ov (drop (l.take i) name)) ∧ Hid (Below w.heap.size w wr)) (fun _ iv _ => l.length - (intOf iv).toNat)
  case atStart => exact ⟨0, by omega, rfl, HD, (Below.refl _ _).alloc (Nat.le_refl _) _⟩
  case round =>
    clear HD
    obtain ⟨i, hi, rfl, HO, HB⟩ := hrel
    by_cases hlt : i < l.length
    · obtain ⟨bk, o, rfl, hc, hmx, hblt, hcell⟩ := Num.unhide HA (by omega)
      obtain ⟨g1, g2⟩ := hcell i hlt
      have c1 : wr.cell? ⟨bk, o + i * 2, none⟩ = some (.string l[i].1) := by rw [HB.out.cell (p := ⟨bk, o + i * 2, none⟩) hblt]; exact g1
      have c2 : wr.cell? ⟨bk, o + i * 2 + 1, none⟩ = some (.string l[i].2) := by rw [HB.out.cell (p := ⟨bk, o + i * 2 + 1, none⟩) hblt]; exact g2
      have HT := Num.hide (drop_take l name i hlt)
      have hdl : (drop (l.take i) name).length ≤ 1073741824 := by have := drop_length (l.take i) name; rw [List.length_take] at this; omega
      have hsz := HB.out.size
      clear hcell g1 g2
      generalize l[i] = f at c1 c2 HT
      generalize drop (l.take i) name = D at HO HT hdl
      obtain ⟨x, y⟩ := f
      simp only at c1 c2
      by_cases he : x = name
      · subst he
        have HO2 : Hid (Own w.heap.size wr u5 (drop (l.take (i + 1)) x)) := by
          rw [HT.out, if_pos rfl, List.append_nil]; exact HO
        go_wp2
        go_roundw
        case rel => exact ⟨i + 1, by omega, by go_num, HO2, HB⟩
        case measure => simp [intOf]; omega
      · have d := ne_text he
        have d' : (x.toList != name.toList) = true := by rw [bne, d]; rfl
        have HT2 : Hid (drop (l.take (i + 1)) name = D ++ [(x, y)]) := by show _ = _; rw [HT.out, if_neg he]
        clear he
        go_wp2_with (at_builtin; refine wpList_append_own _ rfl _ _ 37 rfl w.heap.size 36 i0 _ 2 32 Tryz.underlying37 hi0 hz0 hz1 hz2 rfl (by decide) _ _ _ rfl (World.ownsRow.alloc HO.out _) ⟨wr.heap.size, 0, none⟩ 1 1 [.string x, .string y] rfl rfl (cells_two wr x y) (two_ok x y) (by unfold maxLen; omega) (by omega) ?c5 ?_)
        case c5 => first | omega | (simp; omega)
        intro v' w2 ho2 hg2 _
        obtain ⟨hp1, hp2⟩ := put_more hsz HO.out HB.out ho2 hg2
        have HP1 : Hid (Own w.heap.size w2 v' (drop (l.take (i + 1)) name)) := by rw [HT2.out]; exact hp1
        have HP2 := Num.hide hp2
        clear ho2 hg2 hp1 hp2
        go_wp2
        go_roundw
        case rel => exact ⟨i + 1, by omega, by go_num, HP1, HP2⟩
        case measure => simp [intOf]; omega
    · obtain rfl : i = l.length := by omega
      have ho := HO.out
      rw [List.take_of_length_le (Nat.le_refl _)] at ho
      have HO2 := Num.hide ho
      clear ho HO
      go_wp2
      go_ret
      exact ⟨_, rfl, HO2.out, HB.out⟩

end Flds
end Go.Proofs.YtbajfklnekfeoaaGreatDoor
