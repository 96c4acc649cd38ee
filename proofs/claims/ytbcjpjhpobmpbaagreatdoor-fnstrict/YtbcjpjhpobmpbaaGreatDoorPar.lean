/-
  MsgShow: Requests and answers are read from their texts, whatever stands behind; of a beginning of a request more is wanted: plain.
  OwnNum: Fields without those that say how long a body is, as the program tells them, plain.
  ChsFld: putChosen of the program at fields: what a choice makes of those of a list that it takes, behind each other in a row of the call's own.
  FldNew: newField of the program: a field of two texts, in memory of its own.
  FldDropImpl: FieldDrop of the program: those of another name, in a row of the call's own; what was there stays.
-/
import Derived.Test.YtbcjpjhpobmpbaaGreatDoorPaq
import Derived.Test.YtbcjpjhpobmpbaaGreatDoorPan
import Derived.Test.YtbcjpjhpobmpbaaGreatDoorPae
import Derived.Test.YtbcjpjhpobmpbaaGreatDoorRegLaw
namespace Go.Proofs.YtbcjpjhpobmpbaaGreatDoor
open Go.RowKit
set_option linter.unusedVariables false
namespace Msg
open Line (byteAt byteAt_eq eol)
open Flds (Fld enc)

theorem tok_none {x : ByteArray} (h : Sign.isTok x = true) : ∀ b ∈ x.data.toList, ¬ b = 32 ∧ ¬ b = 13 := by
  intro b hb
  unfold Sign.isTok at h
  rw [Bool.and_eq_true, List.all_eq_true] at h
  have h1 := of_decide_eq_true (h.2 b hb)
  unfold Sign.tok at h1
  constructor
  · rintro rfl; revert h1; decide
  · rintro rfl; revert h1; decide
theorem uri_none {u : ByteArray} (h : uriOk u = true) : ∀ b ∈ u.data.toList, ¬ b = 32 ∧ ¬ b = 13 := by
  intro b hb
  unfold uriOk at h
  simp only [Bool.and_eq_true] at h
  have h1 := List.all_eq_true.1 h.1.1 b hb
  unfold uriB at h1
  have h2 := of_decide_eq_true h1
  constructor
  · rintro rfl; revert h2; decide
  · rintro rfl; revert h2; decide
theorem no_name {l : List Fld} {n : ByteArray} (h : (Flds.get l n).2 = false) : ∀ f ∈ l, ¬ f.1 = n := by
  intro f hf e
  obtain ⟨i, hi, rfl⟩ := List.getElem_of_mem hf
  have := Flds.get_is l i hi
  rw [e, h] at this
  cases this
theorem drop_none {l : List Fld} {n : ByteArray} (h : ∀ f ∈ l, ¬ f.1 = n) : Flds.drop l n = l := by
  unfold Flds.drop
  rw [List.filter_eq_self]
  intro f hf
  exact decide_eq_true (h f hf)
theorem plain_parts {l : List Fld} (h : plain l = true) : (∀ f ∈ l, ¬ f.1 = Body.teName) ∧ (∀ f ∈ l, ¬ f.1 = Body.clName) ∧ l.length < 12 ∧ Flds.ok l = true := by
  unfold plain at h
  simp only [Bool.and_eq_true, Bool.not_eq_true', decide_eq_true_iff] at h
  exact ⟨no_name h.1.1.1, no_name h.1.1.2, h.1.2, h.2⟩
theorem te_cl : ¬ Body.clName = Body.teName := fun h => by have := congrArg ByteArray.size h; revert this; decide
theorem bare_plain {l : List Fld} (h : plain l = true) : bare l = l := by
  obtain ⟨h1, h2, _, _⟩ := plain_parts h
  unfold bare
  rw [drop_none h1, drop_none h2]
theorem framed_plain {l : List Fld} (h : plain l = true) (b : ByteArray) : framed l b = l ++ [(Body.clName, decB b.size)] := by unfold framed; rw [bare_plain h]
theorem bare_framed {l : List Fld} (h : plain l = true) (b : ByteArray) : bare (framed l b) = l := by
  obtain ⟨h1, h2, _, _⟩ := plain_parts h
  rw [framed_plain h]
  unfold bare
  rw [Flds.drop_snoc, if_neg te_cl, Flds.drop_snoc, if_pos rfl, drop_none h1, drop_none h2, List.append_nil]
set_option maxRecDepth 100000 in
theorem dec_small (n : Nat) (h : n ≤ 60) : Flds.okF (Body.clName, decB (n : Int)) = true ∧ Sign.secs (decB (n : Int)) = ((n : Int), true) := by
  have key : ∀ n : Nat, n < 61 → Flds.okF (Body.clName, decB (n : Int)) = true ∧ Sign.secs (decB (n : Int)) = ((n : Int), true) := by decide +kernel
  exact key n (by omega)
theorem ok_framed {l : List Fld} (h : plain l = true) (b : ByteArray) (hb : b.size ≤ 60) : Flds.ok (framed l b) = true := by
  obtain ⟨_, _, h3, h4⟩ := plain_parts h
  rw [framed_plain h]
  unfold Flds.ok at h4 ⊢
  rw [Bool.and_eq_true] at h4
  rw [List.all_append, h4.1, Bool.true_and, Bool.and_eq_true]
  refine ⟨?_, decide_eq_true (by rw [List.length_append, List.length_singleton]; omega)⟩
  rw [List.all_cons, List.all_nil, Bool.and_true]
  exact (dec_small b.size hb).1
theorem get_framed {l : List Fld} (h : plain l = true) (b : ByteArray) : Flds.get (framed l b) Body.teName = (⟨#[]⟩, false) ∧ Flds.get (framed l b) Body.clName = (decB b.size, true) := by
  obtain ⟨h1, h2, _, _⟩ := plain_parts h
  rw [framed_plain h, Flds.get_snoc, Flds.get_snoc, Flds.get_none l _ h1, Flds.get_none l _ h2]
  unfold Flds.getStep
  rw [if_neg te_cl, if_pos rfl, if_neg (by simp), Flds.empty_app]
  exact ⟨rfl, rfl⟩
theorem body_framed {l : List Fld} (h : plain l = true) (b : ByteArray) (hb : b.size ≤ 60) (s : ByteArray) (c : Bool) : Body.bodyOf (framed l b) s c = if s.size < b.size then Body.more else (s.extract 0 b.size, (b.size : Int), 0) := by
  obtain ⟨g1, g2⟩ := get_framed h b
  unfold Body.bodyOf Body.bodyBy
  rw [g1, g2]
  simp only [(dec_small b.size hb).2]
  rw [if_neg (by decide), if_pos trivial, if_neg (by simp; omega)]
  by_cases hs : s.size < b.size
  · rw [if_pos (by omega), if_pos hs]
  · rw [if_neg (by omega), if_neg hs]; rfl
/-- a field's line -/
def fline (f : Fld) : List UInt8 := f.1.data.toList ++ 58 :: 32 :: f.2.data.toList
theorem enc_fline (f : Fld) : enc f = fline f ++ [13, 10] := by unfold enc fline; simp
theorem lines_map (L : List Fld) : lines (L.map fline) = L.flatMap enc ++ [13, 10] := by
  unfold lines
  congr 1
  induction L with
  | nil => rfl
  | cons f L ih => rw [List.map_cons, List.flatMap_cons, List.flatMap_cons, ih, enc_fline]
theorem shown_list {L : List Fld} (h : Flds.ok L = true) : (Flds.shown L).data.toList = lines (L.map fline) := by
  rw [lines_map]
  unfold Flds.shown
  rw [if_pos h, ← Flds.showGo_list]
  simp
theorem fline_none {L : List Fld} (h : Flds.ok L = true) : ∀ t ∈ L.map fline, t ≠ [] ∧ ∀ b ∈ t, ¬ b = 13 := by
  intro t ht
  obtain ⟨f, hf, rfl⟩ := List.mem_map.1 ht
  unfold Flds.ok at h
  rw [Bool.and_eq_true] at h
  have h1 := List.all_eq_true.1 h.1 f hf
  unfold Flds.okF at h1
  simp only [Bool.and_eq_true, decide_eq_true_iff] at h1
  obtain ⟨⟨⟨⟨h1, h2⟩, h3⟩, h4⟩, h5⟩ := h1
  refine ⟨by unfold fline; simp, ?_⟩
  intro b hb
  unfold fline at hb
  rcases List.mem_append.1 hb with h6 | h6
  · exact (tok_none h1 b h6).2
  · rcases List.mem_cons.1 h6 with rfl | h7
    · decide
    · rcases List.mem_cons.1 h7 with rfl | h8
      · decide
      · exact (Flds.val_no h4).1 b h8
theorem lines_end : ∀ (X : List (List UInt8)), X ≠ [] → ∃ p, lines X = p ++ [13, 10, 13, 10] := by
  intro X
  induction X with
  | nil => intro h; exact absurd rfl h
  | cons t X ih =>
    intro _
    rw [lines_cons]
    cases X with
    | nil => exact ⟨t, rfl⟩
    | cons t2 X2 =>
      obtain ⟨p, hp⟩ := ih (by simp)
      exact ⟨t ++ 13 :: 10 :: p, by rw [hp]; simp⟩
/-- what is found in a text of a first line, lines of fields and what stands behind -/
structure Head (T : ByteArray) (t : List UInt8) (L : List Fld) (q : List UInt8) : Prop where
  whole : whole T = true
  eol : eol T 0 = some t.length
  line : T.extract 0 t.length = ⟨t.toArray⟩
  read : Flds.read (T.extract (t.length + 2) T.size) = some (L, (Flds.shown L).size)
  rest : T.extract (t.length + 2 + (Flds.shown L).size) T.size = ⟨q.toArray⟩
theorem head_of (T : ByteArray) (t : List UInt8) (L : List Fld) (q : List UInt8) (hT : T.data.toList = lines (t :: L.map fline) ++ q) (ht : ∀ b ∈ t, ¬ b = 13) (hL : Flds.ok L = true) : Head T t L q := by
  have hT2 : T.data.toList = t ++ 13 :: 10 :: (lines (L.map fline) ++ q) := by rw [hT, lines_cons]; simp
  have hsl := shown_list hL
  have hss : (Flds.shown L).size = (lines (L.map fline)).length := by rw [size_of, hsl]
  obtain ⟨e1, e2⟩ := Line.eol_line T [] t (lines (L.map fline) ++ q) (by simpa using hT2) ht
  simp only [List.length_nil, Nat.zero_add] at e1 e2
  have e3 := extract_rest T (t ++ [13, 10]) (lines (L.map fline) ++ q) (by rw [hT2]; simp)
  have e4 := extract_rest T (t ++ 13 :: 10 :: lines (L.map fline)) q (by rw [hT2]; simp)
  simp only [List.length_append, List.length_cons, List.length_nil] at e3 e4
  have e5 : (⟨(lines (L.map fline) ++ q).toArray⟩ : ByteArray) = Flds.shown L ++ ⟨q.toArray⟩ := bytes_ext (by simp [hsl])
  refine ⟨?_, e1, e2, ?_, ?_⟩
  · obtain ⟨p, hp⟩ := lines_end (t :: L.map fline) (by simp)
    exact whole_of T p q (by rw [hT, hp]; simp)
  · rw [show t.length + 2 = t.length + (0 + 1 + 1) by omega, e3, e5]
    exact Flds.read_shown L _ hL
  · rw [hss, show t.length + 2 + (lines (L.map fline)).length = t.length + ((lines (L.map fline)).length + 1 + 1) by omega, e4]
theorem head_cut (T : ByteArray) (t : List UInt8) (L : List Fld) (K : Nat) (hK : K < (lines (t :: L.map fline)).length) (hT : T.data.toList = (lines (t :: L.map fline)).take K) (h0 : t ≠ []) (ht : ∀ b ∈ t, ¬ b = 13) (hL : Flds.ok L = true) : whole T = false := by
  cases hw : whole T with
  | false => rfl
  | true =>
    exfalso
    obtain ⟨p, q, hpq⟩ := whole_at hw
    have hne : (lines (t :: L.map fline)).drop K ≠ [] := fun h => by
      have := congrArg List.length h
      rw [List.length_drop, List.length_nil] at this
      omega
    have he : lines (t :: L.map fline) = p ++ 13 :: 10 :: 13 :: 10 :: (q ++ (lines (t :: L.map fline)).drop K) := by
      conv => lhs; rw [← List.take_append_drop K (lines (t :: L.map fline)), ← hT, hpq]
      simp
    have := gap_last (t :: L.map fline) p _ (by simp) (fun x hx => by
      rcases List.mem_cons.1 hx with rfl | h
      · exact ⟨h0, ht⟩
      · exact fline_none hL x h) he
    exact hne (List.append_eq_nil_iff.1 this).2
end Msg
end Go.Proofs.YtbcjpjhpobmpbaaGreatDoor
namespace Go.Proofs.YtbcjpjhpobmpbaaGreatDoor
open Go.RowKit
set_option linter.unusedVariables false
namespace Msg
open Flds (Fld)

theorem bulk_drop (l : List Flds.Fld) (n : ByteArray) : Flds.bulk (Flds.drop l n) ≤ Flds.bulk l := by
  unfold Flds.bulk Flds.drop
  induction l with
  | nil => simp
  | cons f l ih =>
    rw [List.filter_cons]
    split
    · simp only [List.length_cons, List.map_cons, List.sum_cons]; omega
    · simp only [List.length_cons, List.map_cons, List.sum_cons]; omega
theorem bare_bulk (l : List Flds.Fld) : Flds.bulk (bare l) ≤ Flds.bulk l := Nat.le_trans (bulk_drop _ _) (bulk_drop _ _)
theorem drop_swap (l : List Fld) (a b : ByteArray) : Flds.drop (Flds.drop l a) b = Flds.drop (Flds.drop l b) a := by
  unfold Flds.drop
  rw [List.filter_filter, List.filter_filter]
  congr 1
  funext f
  exact Bool.and_comm _ _
/-- the program drops the two names the other way round -/
theorem bare_two (l : List Fld) : Flds.drop (Flds.drop l Body.clName) Body.teName = bare l := drop_swap l _ _
theorem drop_mem {l : List Fld} {n : ByteArray} {f : Fld} (h : f ∈ Flds.drop l n) : f ∈ l ∧ ¬ f.1 = n := by
  unfold Flds.drop at h
  rw [List.mem_filter] at h
  exact ⟨h.1, of_decide_eq_true h.2⟩
theorem get_no {l : List Fld} {n : ByteArray} (h : ∀ f ∈ l, ¬ f.1 = n) : (Flds.get l n).2 = false := by rw [Flds.get_none l n h]
/-- a list that stays as it is when both are dropped has neither -/
theorem own_plain (l : List Fld) : (decide (l.length < 12) && Flds.ok l && decide (l = bare l)) = plain l := by
  unfold plain
  by_cases h : l = bare l
  · have hin : ∀ f ∈ l, f ∈ bare l := fun f hf => by rw [← h]; exact hf
    have h1 : ∀ f ∈ l, ¬ f.1 = Body.clName := fun f hf => (drop_mem (l := Flds.drop l Body.teName) (hin f hf)).2
    have h2 : ∀ f ∈ l, ¬ f.1 = Body.teName := fun f hf => (drop_mem (drop_mem (l := Flds.drop l Body.teName) (hin f hf)).1).2
    rw [get_no h1, get_no h2, decide_eq_true h, Bool.and_true]
    rfl
  · rw [decide_eq_false h, Bool.and_false]
    symm
    cases ha : (Flds.get l Body.teName).2 with
    | true => rfl
    | false =>
      cases hb : (Flds.get l Body.clName).2 with
      | true => rfl
      | false =>
        exfalso
        apply h
        unfold bare
        rw [drop_none (no_name ha), drop_none (no_name hb)]
theorem setGo_none (l : List Fld) (n v : ByteArray) (h : ∀ f ∈ l, ¬ f.1 = n) : Flds.setGo l n v = (l, false) := by
  have key : ∀ (l : List Fld) (r : List Fld × Bool), (∀ f ∈ l, ¬ f.1 = n) → l.foldl (Flds.setStep n v) r = (r.1 ++ l, r.2) := by
    intro l
    induction l with
    | nil => intro r _; simp
    | cons f l ih =>
      intro r hl
      rw [List.foldl_cons, ih _ (fun g hg => hl g (List.mem_cons_of_mem _ hg))]
      have : Flds.setStep n v r f = (r.1 ++ [f], r.2) := by unfold Flds.setStep; rw [if_neg (hl f (List.mem_cons_self ..))]
      rw [this]
      simp
  unfold Flds.setGo
  rw [key l _ h]
  simp
theorem set_plain {l : List Fld} (h : plain l = true) (b : ByteArray) : Flds.set l Body.clName (decB b.size) = framed l b := by
  rw [framed_plain h]
  unfold Flds.set
  rw [setGo_none l _ _ (plain_parts h).2.1]
  rfl
end Msg
end Go.Proofs.YtbcjpjhpobmpbaaGreatDoor
namespace Go.Proofs.YtbcjpjhpobmpbaaGreatDoor
open Go.RowKit
set_option linter.unusedVariables false
namespace Flds

/-- what a choice does at each element: what it makes of it, and whether it takes it -/
def Choice (g : Nat) (cap : Array Value) (B n : Nat) (w : World) (l : List Fld) (A : Nat → List Fld) (Q : Nat → World → Prop) : Prop :=
  ∀ k (hk : k < l.length) (W : World), Below B w W → n ≤ W.heap.size → Q k W →
    Calls Tryz.prog g (#[.agg #[.string l[k].1, .string l[k].2]] ++ cap) W fun e W' => ∃ (m : Fld) (t : Bool), e = .returned (.tuple #[.agg #[.string m.1, .string m.2], .bool t]) ∧ A (k + 1) = A k ++ (if t = true then [m] else []) ∧ Q (k + 1) W' ∧ Far B n W W'
set_option maxRecDepth 100000 in
set_option maxHeartbeats 1000000 in
theorem chosen_any (g : Nat) (cap : Array Value) (B : Nat) (w0 w : World) (v : Value) (l : List Fld) (A : Nat → List Fld) (Q : Nat → World → Prop)
    (h : Is w0 v l) (hB : B = w0.heap.size) (hb : Below B w0 w) (hBn : B ≤ w.heap.size) (hA0 : A 0 = []) (hA : ∀ k, k ≤ l.length → (A k).length ≤ 1073741824) (hl : l.length ≤ 1073741824)
    (hQ0 : Q 0 w) (hQ : ∀ k W W', Q k W → Below w.heap.size W W' → Q k W') (HC : Choice g cap B w.heap.size w0 l A Q) (hent : ∀ args W, (callFunc g args).run Tryz.prog W = .ok (.enter g args) W) :
    Calls Tryz.prog 147 #[v, .func (.func g) #[] cap] w fun e w' => ∃ v', e = .returned v' ∧ Own w.heap.size w' v' (A l.length) ∧ Below B w0 w' ∧ Q l.length w' := by
  obtain ⟨a, c, rfl, h2⟩ := is_form h
  have HA := Num.hide h2
  clear h h2
  have HCh := Num.hide HC
  have HQ := Num.hide hQ
  have HAl := Num.hide hA
  have HQ0 := Num.hide hQ0
  have HB0 := Num.hide hb
  have HA0 : Hid (Own w.heap.size w (.slice none 0 0) (A 0)) := by rw [hA0]; exact Recs.own_nil _ _
  clear HC hQ hA hQ0 hb hA0
  obtain ⟨i0, hi0, hz0, hz1, hz2⟩ := info_parts infoF
  go_enter Tryz.func147, Tryz.ntmps147
  go_wp2
  go_loopw [5, 12] (fun ov iv wr => ∃ i : Nat, i ≤ l.length ∧ iv = .int .i64 (i : Int) ∧ Hid (Own w.heap.size wr ov (A i)) ∧ Hid (Below B w0 wr) ∧ Hid (Q i wr) ∧ w.heap.size ≤ wr.heap.size) (fun _ iv _ => l.length - (intOf iv).toNat)
  case atStart => exact ⟨0, by omega, rfl, HA0, HB0, HQ0, Nat.le_refl _⟩
  case round =>
    clear HA0 HB0 HQ0
    obtain ⟨i, hi, rfl, HO, HB, HQi, hsz⟩ := hrel
    by_cases hlt : i < l.length
    · obtain ⟨bk, o, rfl, hc, hmx, hblt, hcell⟩ := Num.unhide HA (by omega)
      obtain ⟨g1, g2⟩ := hcell i hlt
      have c1 : wr.cell? ⟨bk, o + i * 2, none⟩ = some (.string l[i].1) := by rw [HB.out.cell (p := ⟨bk, o + i * 2, none⟩) (by show bk < B; omega)]; exact g1
      have c2 : wr.cell? ⟨bk, o + i * 2 + 1, none⟩ = some (.string l[i].2) := by rw [HB.out.cell (p := ⟨bk, o + i * 2 + 1, none⟩) (by show bk < B; omega)]; exact g2
      have HCi := Num.hide (HCh.out i hlt)
      have hdl := HAl.out i (by omega)
      clear hcell g1 g2
      generalize l[i] = f at c1 c2 HCi
      obtain ⟨x, y⟩ := f
      simp only at c1 c2
      have hsz1 : w.heap.size ≤ (wr.alloc (.cells #[.string x, .string y] 47)).heap.size := by simp; omega
      have HB1 := Num.hide (HB.out.alloc (by omega) (.cells #[.string x, .string y] 47))
      have HQ1 := Num.hide (HQ.out i _ _ HQi.out ((Below.refl w.heap.size wr).alloc hsz (.cells #[.string x, .string y] 47)))
      have HO1 := Num.hide (World.ownsRow.alloc HO.out (.cells #[.string x, .string y] 47))
      go_wp2_with fail
      refine (HCi.out _ HB1.out hsz1 HQ1.out).mono ?_
      rintro e w1 ⟨⟨m1, m2⟩, t, rfl, hAk, hQk, hF⟩
      have HO2 := Num.hide (own_far HO1.out hF)
      have HB2 := Num.hide (HB1.out.trans hF.below)
      have HQ2 := Num.hide hQk
      have HAk := Num.hide hAk
      have hsz2 := Nat.le_trans hsz1 hF.below.size
      clear hF hQk hAk HO HB HQi HB1 HQ1 HO1 hsz1 c1 c2
      have hsz3 : w.heap.size ≤ (w1.alloc (.cells #[.string m1, .string m2] 47)).heap.size := by simp; omega
      have HB3 := Num.hide (HB2.out.alloc (by omega) (.cells #[.string m1, .string m2] 47))
      have HQ3 := Num.hide (HQ.out (i + 1) _ _ HQ2.out ((Below.refl w.heap.size w1).alloc hsz2 (.cells #[.string m1, .string m2] 47)))
      have HO3 := Num.hide (World.ownsRow.alloc HO2.out (.cells #[.string m1, .string m2] 47))
      clear HO2 HB2 HQ2
      cases t with
      | false =>
        have HO4 : Hid (Own w.heap.size (w1.alloc (.cells #[.string m1, .string m2] 47)) u5 (A (i + 1))) := by
          rw [HAk.out, if_neg (by simp), List.append_nil]; exact HO3
        clear HO3
        go_wp2
        go_roundw
        case rel => exact ⟨i + 1, by omega, by go_num, HO4, HB3, HQ3, by simp; omega⟩
        case measure => simp [intOf]; omega
      | true =>
        have HAk2 : Hid (A (i + 1) = A i ++ [(m1, m2)]) := by show _ = _; rw [HAk.out, if_pos rfl]
        clear HAk
        go_wp2_with (at_builtin; refine wpList_append_own _ rfl _ _ 30 rfl w.heap.size 47 i0 _ 2 32 Tryz.underlying30 hi0 hz0 hz1 hz2 rfl (by decide) _ _ _ rfl (World.ownsRow.alloc HO3.out _) ⟨w1.heap.size + 1, 0, none⟩ 1 1 [.string m1, .string m2] rfl rfl (by simpa using cells_two (w1.alloc (.cells #[.string m1, .string m2] 47)) m1 m2) (two_ok m1 m2) (by unfold maxLen; omega) (by omega) ?c5 ?_)
        case c5 => first | omega | (simp; omega)
        intro v' w2 ho2 hg2 _
        obtain ⟨hp1, hp2⟩ := put_more hsz3 HO3.out (Below.refl w.heap.size _) ho2 hg2
        have HP1 : Hid (Own w.heap.size w2 v' (A (i + 1))) := by rw [HAk2.out]; exact hp1
        have HP2 := Num.hide (HB3.out.trans (hp2.mono (by omega)))
        have HP3 := Num.hide (HQ.out (i + 1) _ _ HQ3.out hp2)
        have hsz4 := Nat.le_trans hsz3 hp2.size
        clear ho2 hg2 hp1 hp2
        go_wp2
        go_roundw
        case rel => exact ⟨i + 1, by omega, by go_num, HP1, HP2, HP3, hsz4⟩
        case measure => simp [intOf]; omega
    · obtain rfl : i = l.length := by omega
      go_wp2
      go_ret
      exact ⟨_, rfl, HO.out, HB.out, HQi.out⟩
end Flds
end Go.Proofs.YtbcjpjhpobmpbaaGreatDoor
namespace Go.Proofs.YtbcjpjhpobmpbaaGreatDoor
open Go.RowKit
set_option linter.unusedVariables false
namespace Flds

set_option maxRecDepth 100000 in
set_option maxHeartbeats 1000000 in
theorem new_any (x y : ByteArray) (w : World) (hx : x.size ≤ 281474976710656) (hy : y.size ≤ 281474976710656) :
    Calls Tryz.prog 149 #[.string x, .string y] w fun e w' => e = .returned (.agg #[.string x, .string y]) ∧ Below w.heap.size w w' := by
  have c0 : (w.alloc (.cells #[.string ⟨#[]⟩, .string ⟨#[]⟩] 47)).heap[w.heap.size]? = some (.cells #[.string ⟨#[]⟩, .string ⟨#[]⟩] 47) := heap_alloc_new w _
  have HC := Num.hide c0
  have HB0 := Num.hide ((Below.refl w.heap.size w).alloc (Nat.le_refl _) (.cells #[.string ⟨#[]⟩, .string ⟨#[]⟩] 47))
  have hz0 : w.heap.size + 1 = (w.alloc (.cells #[.string ⟨#[]⟩, .string ⟨#[]⟩] 47)).heap.size := by simp
  clear c0
  go_enter Tryz.func149, Tryz.ntmps149
  go_wp2_with fail
  refine (Shelf.clone x _ hx).mono ?_
  rintro e w1 ⟨rfl, hb1⟩
  go_wp2_with fail
  refine (Shelf.clone y _ hy).mono ?_
  rintro e w2 ⟨rfl, hb2⟩
  obtain ⟨k0, k1, f0, f1⟩ := two_cells (show w2.heap[w.heap.size]? = _ from by rw [hb2.block _ (by have := hb1.size; omega), hb1.block _ (by omega)]; exact HC.out)
  have HB := Num.hide (HB0.out.trans (((hb1.mono (by omega : w.heap.size ≤ _)).trans (hb2.mono (by have := hb1.size; omega)))))
  clear hb1 hb2 HB0 HC hz0
  have r0 := Num.hide (box_first (x := x) (y := y) k0)
  have r1 := Num.hide (box_second (x := x) (y := y) k1)
  have HB1 := Num.hide ((HB.out.setCell (p := ⟨w.heap.size, 0, none⟩) (Nat.le_refl _) (.string x)).setCell (p := ⟨w.heap.size, 1, none⟩) (Nat.le_refl _) (.string y))
  go_wp2
  generalize ((w2.setCell ⟨w.heap.size, 0, none⟩ (.string x)).setCell ⟨w.heap.size, 1, none⟩ (.string y)) = w3 at r0 r1 HB1 ⊢
  have r0 := r0.out
  have r1 := r1.out
  exact bodyPost_ret (v := .agg #[.string x, .string y]) (by simp [results, Tryz.results149, go_sem, r0, r1]) rfl ⟨rfl, HB1.out⟩
end Flds
end Go.Proofs.YtbcjpjhpobmpbaaGreatDoor
namespace Go.Proofs.YtbcjpjhpobmpbaaGreatDoor
open Go.RowKit
set_option linter.unusedVariables false
namespace Flds

/-- what holds while the choice is made -/
def DropAt (w : World) (x y name : ByteArray) (nb : Nat) (W : World) : Prop := W.cell? ⟨w.heap.size, 0, none⟩ = some (.string x) ∧ W.cell? ⟨w.heap.size, 1, none⟩ = some (.string y) ∧ W.cell? ⟨nb, 0, none⟩ = some (.string name) ∧ Below w.heap.size w W ∧ nb < w.heap.size
def dropW (w : World) (x y : ByteArray) : World := ((w.alloc (.cells #[.string x, .string y] 47)).alloc (.cells #[.string ⟨#[]⟩, .string ⟨#[]⟩] 47)).drew
theorem dropAt0 (w : World) (x y name : ByteArray) (nb : Nat) (hn : w.cell? ⟨nb, 0, none⟩ = some (.string name)) : DropAt w x y name nb (dropW w x y) := by
  have hlt := Recs.lt_of_cell hn
  have hb : Below w.heap.size w (dropW w x y) := (((Below.refl _ _).alloc (Nat.le_refl _) _).alloc (by simp) _).drew
  refine ⟨?_, ?_, by rw [hb.cell (p := ⟨nb, 0, none⟩) hlt]; exact hn, hb, hlt⟩
  · show ((w.alloc _).alloc _).cell? _ = _
    rw [World.cell?_alloc_lt _ _ _ (by simp)]; simp
  · show ((w.alloc _).alloc _).cell? _ = _
    rw [World.cell?_alloc_lt _ _ _ (by simp)]; simp
theorem dropAt_below {w : World} {x y name : ByteArray} {nb : Nat} {W W' : World} (h : DropAt w x y name nb W) (hb : Below W.heap.size W W') : DropAt w x y name nb W' :=
  ⟨by rw [hb.cell (p := ⟨w.heap.size, 0, none⟩) (Recs.lt_of_cell h.1)]; exact h.1, by rw [hb.cell (p := ⟨w.heap.size, 1, none⟩) (Recs.lt_of_cell h.2.1)]; exact h.2.1, by rw [hb.cell (p := ⟨nb, 0, none⟩) (Recs.lt_of_cell h.2.2.1)]; exact h.2.2.1, h.2.2.2.1.trans (hb.mono h.2.2.2.1.size), h.2.2.2.2⟩
theorem dropAt_set {w : World} {x y name : ByteArray} {nb : Nat} {W : World} {x' y' : Value} (h : DropAt w x y name nb W) : DropAt w x y name nb ((W.setCell ⟨w.heap.size + 1, 0, none⟩ x').setCell ⟨w.heap.size + 1, 1, none⟩ y') := by
  have hb : Below (w.heap.size + 1) W ((W.setCell ⟨w.heap.size + 1, 0, none⟩ x').setCell ⟨w.heap.size + 1, 1, none⟩ y') := ((Below.refl _ _).setCell (p := ⟨w.heap.size + 1, 0, none⟩) (Nat.le_refl _) _).setCell (p := ⟨w.heap.size + 1, 1, none⟩) (Nat.le_refl _) _
  have hlt := h.2.2.2.2
  exact ⟨by rw [hb.cell (p := ⟨w.heap.size, 0, none⟩) (by show w.heap.size < _; omega)]; exact h.1, by rw [hb.cell (p := ⟨w.heap.size, 1, none⟩) (by show w.heap.size < _; omega)]; exact h.2.1, by rw [hb.cell (p := ⟨nb, 0, none⟩) (by show nb < _; omega)]; exact h.2.2.1, h.2.2.2.1.trans (hb.mono (by omega)), hlt⟩
theorem dropRes (w : World) (x y : ByteArray) : (dropW w x y).heap[w.heap.size + 1]? = some (.cells #[.string ⟨#[]⟩, .string ⟨#[]⟩] 47 (0, 0)) := by
  have := heap_alloc_new (w.alloc (.cells #[.string x, .string y] 47)) (.cells #[.string ⟨#[]⟩, .string ⟨#[]⟩] 47)
  show ((w.alloc _).alloc _).heap[w.heap.size + 1]? = _
  rw [← this, show (w.alloc (.cells #[.string x, .string y] 47)).heap.size = w.heap.size + 1 by simp]
set_option maxRecDepth 100000 in
set_option maxHeartbeats 4000000 in
theorem dropF_any (x y name : ByteArray) (nb : Nat) (w : World) (hn : w.cell? ⟨nb, 0, none⟩ = some (.string name)) (hx : x.size ≤ 281474976710656) (hy : y.size ≤ 281474976710656) :
    Calls Tryz.prog 148 #[.agg #[.string x, .string y], .pointer (some ⟨nb, 0, none⟩)] w fun e w' => e = .returned (.tuple #[.agg #[.string x, .string y], .bool (!decide (x = name))]) ∧ Below w.heap.size w w' := by
  have HN := Num.hide (fun W => new_any x y W hx hy)
  have HD0 := Num.hide (dropAt0 w x y name nb hn)
  have HR := Num.hide (dropRes w x y)
  have hne : (x.toList != name.toList) = !decide (x = name) := by
    by_cases h : x = name
    · subst h; simp
    · rw [bne, ne_text h, decide_eq_false h]
  generalize (!decide (x = name)) = r at hne ⊢
  clear hn
  go_enter Tryz.func148, Tryz.ntmps148
  go_wp2
  have hz : w.heap.size + 2 = (dropW w x y).heap.size := by simp [dropW]
  refine wp_region_held_drew (S := DropAt w x y name nb) (by kernel_rfl) HD0.out (fun hHeld => ?_)
  refine Reg.take (i := 0) (d := 5) (v := ?_) rfl rfl (by kernel_rfl) (by kernel_rfl) (by kernel_rfl) (fun _ _ _ h => h) (by rfl) ?_ hHeld ?_
  rotate_left
  · rintro W ⟨h1, h2, h3, h4⟩
    first | (go_simp; done) | (go_simp; with_reducible rfl)
  simp only [Act.put, List.setIfInBounds_toArray, List.set_cons_zero, List.set_cons_succ]
  refine Reg.take (i := 1) (d := 6) (v := ?_) rfl rfl (by kernel_rfl) (by kernel_rfl) (by kernel_rfl) (fun _ _ _ h => h) (by rfl) ?_ hHeld ?_
  rotate_left
  · rintro W ⟨h1, h2, h3, h4⟩
    first | (go_simp; done) | (go_simp; with_reducible rfl)
  simp only [Act.put, List.setIfInBounds_toArray, List.set_cons_zero, List.set_cons_succ]
  refine Reg.take (i := 2) (d := 7) (v := ?_) rfl rfl (by kernel_rfl) (by kernel_rfl) (by kernel_rfl) (fun _ _ _ h => h) (by rfl) ?_ hHeld ?_
  rotate_left
  · rintro W ⟨h1, h2, h3, h4⟩
    first | (go_simp; done) | (go_simp; with_reducible rfl)
  simp only [Act.put, List.setIfInBounds_toArray, List.set_cons_zero, List.set_cons_succ]
  refine Reg.take (i := 3) (d := 8) (v := ?_) rfl rfl (by kernel_rfl) (by kernel_rfl) (by kernel_rfl) (fun _ _ _ h => h) (by rfl) ?_ hHeld ?_
  rotate_left
  · rintro W ⟨h1, h2, h3, h4⟩
    first | (go_simp; done) | (go_simp; with_reducible rfl)
  simp only [Act.put, List.setIfInBounds_toArray, List.set_cons_zero, List.set_cons_succ]
  refine Reg.take (i := 5) (d := 10) (v := ?_) rfl rfl (by kernel_rfl) (by kernel_rfl) (by kernel_rfl) (fun _ _ _ h => h) (by rfl) ?_ hHeld ?_
  rotate_left
  · rintro W ⟨h1, h2, h3, h4⟩
    first | (go_simp; done) | (go_simp; with_reducible rfl)
  simp only [Act.put, List.setIfInBounds_toArray, List.set_cons_zero, List.set_cons_succ]
  refine Reg.take (i := 6) (d := 11) (v := ?_) rfl rfl (by kernel_rfl) (by kernel_rfl) (by kernel_rfl) (fun _ _ _ h => h) (by rfl) ?_ hHeld ?_
  rotate_left
  · rintro W ⟨h1, h2, h3, h4⟩
    first | (go_simp; done) | (go_simp; with_reducible rfl)
  simp only [Act.put, List.setIfInBounds_toArray, List.set_cons_zero, List.set_cons_succ]
  refine Reg.take (i := 7) (d := 12) (v := ?_) rfl rfl (by kernel_rfl) (by kernel_rfl) (by kernel_rfl) (fun _ _ _ h => h) (by rfl) ?_ hHeld ?_
  rotate_left
  · rintro W ⟨h1, h2, h3, h4⟩
    first | (go_simp; done) | (go_simp; with_reducible rfl)
  simp only [Act.put, List.setIfInBounds_toArray, List.set_cons_zero, List.set_cons_succ]
  refine Reg.take (i := 8) (d := 13) (v := ?_) rfl rfl (by kernel_rfl) (by kernel_rfl) (by kernel_rfl) (fun _ _ _ h => h) (by rfl) ?_ hHeld ?_
  rotate_left
  · rintro W ⟨h1, h2, h3, h4⟩
    first | (go_simp; done) | (go_simp; with_reducible rfl)
  simp only [Act.put, List.setIfInBounds_toArray, List.set_cons_zero, List.set_cons_succ]
  refine Reg.call (i := 4) rfl (by kernel_rfl) (by rfl) (fun K hK => ?_)
  go_wp2_with (first | (go_at_call 149; refine (Num.unhide HN _).mono ?_; rintro e w3 ⟨rfl, hb3⟩))
  refine hK.out _ _ (dropAt_below hHeld hb3) (fun hHeld2 => ?_)
  obtain ⟨k0, k1, f0, f1⟩ := two_cells (show w3.heap[w.heap.size + 1]? = _ from by rw [hb3.block _ (by change w.heap.size + 1 < (dropW w x y).heap.size; omega)]; exact HR.out)
  clear hK K hb3 HR hHeld
  replace hHeld := hHeld2
  clear hHeld2
  have r0 := Num.hide (box_first (x := x) (y := y) k0)
  have r1 := Num.hide (box_second (x := x) (y := y) k1)
  have HS := Num.hide (dropAt_set (x' := .string x) (y' := .string y) hHeld)
  refine Reg.call (i := 9) rfl (by kernel_rfl) (by rfl) (fun K hK => ?_)
  go_wp2
  refine hK.out _ _ HS.out (fun hHeld2 => ?_)
  clear hK K hHeld
  replace hHeld := hHeld2
  clear hHeld2 k0 k1 f0 f1
  generalize ((w3.setCell ⟨w.heap.size + 1, 0, none⟩ (.string x)).setCell ⟨w.heap.size + 1, 1, none⟩ (.string y)) = w4 at r0 r1 HS hHeld ⊢
  refine Reg.take (i := 10) (d := 4) (v := ?_) rfl rfl (by kernel_rfl) (by kernel_rfl) (by kernel_rfl) (fun _ _ _ h => h) (by rfl) ?_ hHeld ?_
  rotate_left
  · rintro W ⟨h1, h2, h3, h4⟩
    first | (go_simp; done) | (go_simp; with_reducible rfl)
  simp only [Act.put, List.setIfInBounds_toArray, List.set_cons_zero, List.set_cons_succ]
  refine wpAnyH_done (by kernel_rfl) ?_ _
  have r0 := r0.out
  have r1 := r1.out
  go_wp2
  exact bodyPost_ret (v := .tuple #[.agg #[.string x, .string y], .bool r]) (by simp [results, Tryz.results148, go_sem, r0, r1, show (x.toList == name.toList) = !r by rw [← hne, bne, Bool.not_not]]) rfl ⟨rfl, HS.out.2.2.2.1⟩
theorem drop_take_b (l : List Fld) (name : ByteArray) (k : Nat) (h : k < l.length) : drop (l.take (k + 1)) name = drop (l.take k) name ++ (if (!decide (l[k].1 = name)) = true then [l[k]] else []) := by
  rw [drop_take l name k h]
  by_cases e : l[k].1 = name
  · rw [if_pos e, if_neg (by simp [e])]
  · rw [if_neg e, if_pos (by simp [e])]
theorem drop_choice (w0 w : World) (l : List Fld) (name : ByteArray) (nb : Nat) (hb : Below w0.heap.size w0 w) (hz : ∀ f ∈ l, f.1.size ≤ 281474976710656 ∧ f.2.size ≤ 281474976710656) :
    Choice 148 #[.pointer (some ⟨nb, 0, none⟩)] w0.heap.size w.heap.size w0 l (fun k => drop (l.take k) name) (fun _ W => W.cell? ⟨nb, 0, none⟩ = some (.string name)) := by
  intro k hk W hB hn hQ
  have hzk := hz l[k] (List.getElem_mem hk)
  refine (dropF_any l[k].1 l[k].2 name nb W hQ hzk.1 hzk.2).mono ?_
  rintro e W' ⟨rfl, hb2⟩
  exact ⟨l[k], _, rfl, drop_take_b l name k hk, (hb2.cell (p := ⟨nb, 0, none⟩) (Recs.lt_of_cell hQ)).trans hQ, Far.of_below hb2 hB.size⟩
theorem sizes_of {l : List Fld} (h : bulk l ≤ 1099511627776) : ∀ f ∈ l, f.1.size ≤ 281474976710656 ∧ f.2.size ≤ 281474976710656 := by
  intro f hf
  obtain ⟨i, hi, rfl⟩ := List.getElem_of_mem hf
  have h1 := bulk_take l i hi
  have h2 := bulk_le l (i + 1)
  unfold bulk at h
  omega
set_option maxRecDepth 100000 in
set_option maxHeartbeats 1000000 in
theorem drop_impl (v : Value) (l : List Fld) (name : ByteArray) (w : World) (h : Is w v l) (hl : bulk l ≤ 1073741824) :
    Calls Tryz.prog 134 #[v, .string name] w fun e w' => ∃ v', e = .returned v' ∧ Own w.heap.size w' v' (drop l name) ∧ Below w.heap.size w w' := by
  have hlen : l.length ≤ 1073741824 := by unfold bulk at hl; omega
  have hb := (Below.refl w.heap.size w).alloc (Nat.le_refl _) (.cells #[.string name] 9)
  have HC := Num.hide (chosen_any 148 #[.pointer (some ⟨w.heap.size, 0, none⟩)] w.heap.size w (w.alloc (.cells #[.string name] 9)) v l (fun k => drop (l.take k) name) (fun _ W => W.cell? ⟨w.heap.size, 0, none⟩ = some (.string name)) h rfl hb (by simp) rfl
    (fun k hk => by have := drop_length (l.take k) name; rw [List.length_take] at this; omega) hlen (by simp)
    (fun k W W' hQ hb2 => (hb2.cell (p := ⟨w.heap.size, 0, none⟩) (by simp)).trans hQ) (drop_choice w _ l name w.heap.size hb (sizes_of (by omega))) (enters_of Tryz.func148 (by kernel_rfl) rfl))
  simp only [List.take_length] at HC
  clear h hb
  go_enter Tryz.func134, Tryz.ntmps134
  go_wp2_with fail
  refine HC.out.mono ?_
  rintro e w1 ⟨v', rfl, ho, hb1, _⟩
  have HO := Num.hide (Recs.own_mono ho (by simp : w.heap.size ≤ _))
  have HB := Num.hide hb1
  clear ho hb1
  go_wp2
  go_ret
  exact ⟨_, rfl, HO.out, HB.out⟩
end Flds
end Go.Proofs.YtbcjpjhpobmpbaaGreatDoor
