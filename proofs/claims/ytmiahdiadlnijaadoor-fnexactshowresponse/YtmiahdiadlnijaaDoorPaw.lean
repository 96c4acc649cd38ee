/-
  MsgRead: A request is read from its text, whatever stands behind; of a beginning more is wanted; what is read is right: plain.
  Box4: Boxes of four and of three values, of a call's own; shown fields are small.
-/
import Derived.Test.YtmiahdiadlnijaaDoorPam
import Derived.Test.YtmiahdiadlnijaaDoorRecs
import Derived.Test.YtmiahdiadlnijaaDoorPac
namespace Go.Proofs.YtmiahdiadlnijaaDoor
open Go.RowKit
set_option linter.unusedVariables false
namespace Msg
open Line (byteAt byteAt_eq eol)
open Flds (Fld enc)

/-- a request's first line -/
def rline (m u : ByteArray) : List UInt8 := m.data.toList ++ 32 :: (u.data.toList ++ 32 :: ver.data.toList)
theorem req_parts {m u : ByteArray} {l : List Fld} {b : ByteArray} (h : reqOk m u l b = true) : Sign.isTok m = true ∧ m.size ≤ 10 ∧ uriOk u = true ∧ plain l = true ∧ b.size ≤ 60 := by
  unfold reqOk at h
  simp only [Bool.and_eq_true, decide_eq_true_iff] at h
  exact ⟨h.1.1.1.1, h.1.1.1.2, h.1.1.2, h.1.2, h.2⟩
theorem req_mk {m u : ByteArray} {l : List Fld} {b : ByteArray} (h1 : Sign.isTok m = true) (h2 : m.size ≤ 10) (h3 : uriOk u = true) (h4 : plain l = true) (h5 : b.size ≤ 60) : reqOk m u l b = true := by
  unfold reqOk
  rw [h1, h3, h4, decide_eq_true h2, decide_eq_true h5]; rfl
theorem rline_none {m u : ByteArray} {l : List Fld} {b : ByteArray} (h : reqOk m u l b = true) : rline m u ≠ [] ∧ ∀ c ∈ rline m u, ¬ c = 13 := by
  obtain ⟨h1, _, h3, _, _⟩ := req_parts h
  refine ⟨by unfold rline; simp, ?_⟩
  intro c hc
  unfold rline at hc
  rcases List.mem_append.1 hc with h6 | h6
  · exact (tok_none h1 c h6).2
  · rcases List.mem_cons.1 h6 with rfl | h7
    · decide
    · rcases List.mem_append.1 h7 with h8 | h8
      · exact (uri_none h3 c h8).2
      · have : ∀ x ∈ 32 :: ver.data.toList, ¬ x = 13 := by decide
        exact this c h8
theorem req_list {m u : ByteArray} {l : List Fld} {b : ByteArray} (h : reqOk m u l b = true) : (reqText m u l b).data.toList = lines (rline m u :: (framed l b).map fline) ++ b.data.toList := by
  obtain ⟨h1, _, h3, h4, h5⟩ := req_parts h
  unfold reqText
  rw [lines_cons, ← shown_list (ok_framed h4 b h5)]
  unfold rline
  have hv : ver.data.toList = [72, 84, 84, 80, 47, 49, 46, 49] := rfl
  rw [hv]
  simp
theorem req_words {m u : ByteArray} {l : List Fld} {b : ByteArray} (h : reqOk m u l b = true) : words ⟨(rline m u).toArray⟩ = (m, u, ver) := by
  obtain ⟨h1, _, h3, _, _⟩ := req_parts h
  rw [words_list ⟨(rline m u).toArray⟩ m.data.toList u.data.toList ver.data.toList (by unfold rline; simp) (fun c hc => (tok_none h1 c hc).1) (fun c hc => (uri_none h3 c hc).1), list_back, list_back, list_back]
/-- what is read off a text of the right form -/
theorem read_head {T : ByteArray} {m u : ByteArray} {l : List Fld} {b : ByteArray} {q : List UInt8} (h : reqOk m u l b = true) (hd : Head T (rline m u) (framed l b) q) :
    readReq T = if q.length < b.size then noRq 1 else ((m, u, l, (⟨q.toArray⟩ : ByteArray).extract 0 b.size), (((rline m u).length + 2 + (Flds.shown (framed l b)).size : Nat) : Int) + b.size, 0) := by
  obtain ⟨h1, h2, h3, h4, h5⟩ := req_parts h
  unfold readReq
  rw [hd.whole, if_neg (by decide), hd.eol]
  simp only
  rw [hd.read]
  simp only
  rw [hd.line, req_words h, bare_framed h4, if_pos ⟨rfl, req_mk h1 h2 h3 h4 (by decide)⟩, hd.rest, body_framed h4 b h5]
  have hz : (⟨q.toArray⟩ : ByteArray).size = q.length := by rw [size_of]
  rw [hz]
  by_cases hq : q.length < b.size
  · rw [if_pos hq, if_pos hq] <;> rfl
  · rw [if_neg hq, if_neg hq] <;> rfl
/-- a request is read from its text, whatever stands behind -/
theorem read_req {m u : ByteArray} {l : List Fld} {b : ByteArray} (h : reqOk m u l b = true) (more : ByteArray) : readReq (reqText m u l b ++ more) = ((m, u, l, b), ((reqText m u l b).size : Int), 0) := by
  have h4 := (req_parts h).2.2.2.1
  have h5 := (req_parts h).2.2.2.2
  have hd := head_of (reqText m u l b ++ more) (rline m u) (framed l b) (b.data.toList ++ more.data.toList) (by rw [ByteArray.data_append, Array.toList_append, req_list h]; simp) (rline_none h).2 (ok_framed h4 b h5)
  rw [read_head h hd, if_neg (by rw [List.length_append, ← size_of]; omega)]
  have e1 : (⟨(b.data.toList ++ more.data.toList).toArray⟩ : ByteArray).extract 0 b.size = b := by
    have := extract_list ⟨(b.data.toList ++ more.data.toList).toArray⟩ [] b.data.toList more.data.toList (by simp)
    simp only [List.length_nil, Nat.zero_add] at this
    rw [size_of b, this, list_back]
  have e2 : (reqText m u l b).size = (rline m u).length + 2 + (Flds.shown (framed l b)).size + b.size := by
    rw [size_of, req_list h, lines_cons, size_of (Flds.shown (framed l b)), shown_list (ok_framed h4 b h5), size_of b]
    simp only [List.length_append, List.length_cons]
    omega
  rw [e1, e2]
  congr 2
/-- how long a request's text is at most -/
theorem enc_len {f : Fld} (h : Flds.okF f = true) : (enc f).length ≤ 88 := by
  unfold Flds.okF at h
  simp only [Bool.and_eq_true, decide_eq_true_iff] at h
  have h1 := h.1.1.2
  have h2 := h.2
  unfold enc
  simp only [List.length_append, List.length_cons, List.length_nil, ← size_of]
  omega
theorem flat_len : ∀ (L : List Fld), L.all Flds.okF = true → (L.flatMap enc).length ≤ 88 * L.length := by
  intro L
  induction L with
  | nil => intro _; simp
  | cons f L ih =>
    intro h
    rw [List.all_cons, Bool.and_eq_true] at h
    have h1 := enc_len h.1
    have h2 := ih h.2
    rw [List.flatMap_cons, List.length_append, List.length_cons]
    omega
theorem lines_len {L : List Fld} (h : Flds.ok L = true) : (lines (L.map fline)).length ≤ 1058 := by
  unfold Flds.ok at h
  rw [Bool.and_eq_true, decide_eq_true_iff] at h
  have := flat_len L h.1
  have h2 := h.2
  rw [lines_map, List.length_append]
  simp only [List.length_cons, List.length_nil]
  omega
theorem rline_len {m u : ByteArray} {l : List Fld} {b : ByteArray} (h : reqOk m u l b = true) : (rline m u).length ≤ 40 := by
  obtain ⟨_, h2, h3, _, _⟩ := req_parts h
  unfold uriOk at h3
  simp only [Bool.and_eq_true, decide_eq_true_iff] at h3
  have h4 := h3.1.2
  unfold rline
  have hv : ver.data.toList.length = 8 := rfl
  simp only [List.length_append, List.length_cons, hv, ← size_of]
  omega
/-- of a beginning more is wanted -/
theorem read_cut {m u : ByteArray} {l : List Fld} {b : ByteArray} (h : reqOk m u l b = true) (K : Nat) (hK : K < (reqText m u l b).size) : readReq ((reqText m u l b).extract 0 K) = noRq 1 := by
  have h4 := (req_parts h).2.2.2.1
  have h5 := (req_parts h).2.2.2.2
  have hok := ok_framed h4 b h5
  have hl : ((reqText m u l b).extract 0 K).data.toList = (lines (rline m u :: (framed l b).map fline) ++ b.data.toList).take K := by
    rw [ByteArray.data_extract, Array.toList_extract, List.extract_eq_drop_take', List.drop_zero, req_list h]
  have hsz : (reqText m u l b).size = (lines (rline m u :: (framed l b).map fline)).length + b.size := by rw [size_of, req_list h, List.length_append, ← size_of b]
  have hx : ((reqText m u l b).extract 0 K).size = K := by rw [ByteArray.size_extract]; omega
  by_cases hc : K < (lines (rline m u :: (framed l b).map fline)).length
  · have hw := head_cut _ (rline m u) (framed l b) K hc (by rw [hl, List.take_append_of_le_length (by omega)]) (rline_none h).1 (rline_none h).2 hok
    have hlen := lines_len hok
    have hrl := rline_len h
    rw [lines_cons] at hc
    simp only [List.length_append, List.length_cons] at hc
    unfold readReq
    rw [hw, if_pos rfl, hx, if_neg (by omega)]
  · have hd := head_of ((reqText m u l b).extract 0 K) (rline m u) (framed l b) (b.data.toList.take (K - (lines (rline m u :: (framed l b).map fline)).length)) (by rw [hl, List.take_append, List.take_of_length_le (by omega)]) (rline_none h).2 hok
    rw [read_head h hd, if_pos]
    rw [List.length_take, ← size_of]
    omega
/-- what is read of a body is small, and lies in the text -/
theorem unF_in (s : ByteArray) : ∀ (f a : Nat) (out : ByteArray) (r : Body.Told), out.size ≤ 60 → Body.unF s f a out = r → r.2.2 = 0 → r.1.size ≤ 60 ∧ 0 ≤ r.2.1 ∧ r.2.1 ≤ s.size := by
  intro f
  induction f with
  | zero => intro a out r _ h h0; unfold Body.unF at h; subst h; exact absurd h0 (by decide)
  | succ f ih =>
    intro a out r ho h h0
    unfold Body.unF at h
    split at h
    · split at h
      · subst h; exact absurd h0 (by decide)
      · subst h; exact absurd h0 (by decide)
    · split at h
      · subst h; exact absurd h0 (by decide)
      · next n hn =>
        split at h
        · subst h; exact absurd h0 (by decide)
        · next hg =>
          split at h
          · subst h; exact absurd h0 (by decide)
          · next hs =>
            split at h
            · split at h
              · subst h
                simp only
                rw [ByteArray.size_append, ByteArray.size_extract]
                omega
              · exact ih _ _ r (by rw [ByteArray.size_append, ByteArray.size_extract]; omega) h h0
            · subst h; exact absurd h0 (by decide)
theorem body_in (l : List Fld) (s : ByteArray) (c : Bool) (h : (Body.bodyOf l s c).2.2 = 0) : (Body.bodyOf l s c).1.size ≤ 60 ∧ 0 ≤ (Body.bodyOf l s c).2.1 ∧ (Body.bodyOf l s c).2.1 ≤ s.size := by
  obtain ⟨r, hr⟩ : ∃ r, Body.bodyOf l s c = r := ⟨_, rfl⟩
  rw [hr] at h ⊢
  unfold Body.bodyOf Body.bodyBy at hr
  have hs := Body.secs_bd (Flds.get l Body.clName).1
  split at hr
  · split at hr
    · exact unF_in s _ _ _ r (by decide) hr h
    · subst hr; exact absurd h (by decide)
  · split at hr
    · split at hr
      · subst hr; exact absurd h (by decide)
      · next hg =>
        split at hr
        · subst hr; exact absurd h (by decide)
        · subst hr
          simp only [not_or] at hg
          simp only
          rw [ByteArray.size_extract]
          omega
    · split at hr
      · split at hr
        · subst hr; exact absurd h (by decide)
        · subst hr; simp only; omega
      · subst hr; exact ⟨by decide, by decide, by simp⟩
theorem readGo_in (s : ByteArray) : ∀ (f a : Nat) (l : List Fld) (p : List Fld × Nat), Flds.readGo s f a l = some p → p.2 ≤ s.size := by
  intro f
  induction f with
  | zero => intro a l p h; cases h
  | succ f ih =>
    intro a l p h
    unfold Flds.readGo at h
    split at h
    · cases h
    · next i hi =>
      have hin := Line.eol_in hi
      split at h
      · next e => cases h; simp only; omega
      · split at h
        · cases h
        · split at h
          · exact ih _ _ p h
          · cases h
/-- what is read is right, and lies in the text -/
theorem read_right {s : ByteArray} (h : (readReq s).2.2 = 0) : reqOk (readReq s).1.1 (readReq s).1.2.1 (readReq s).1.2.2.1 (readReq s).1.2.2.2 = true ∧ 0 < (readReq s).2.1 ∧ (readReq s).2.1 ≤ s.size := by
  obtain ⟨r, hr⟩ : ∃ r, readReq s = r := ⟨_, rfl⟩
  rw [hr] at h ⊢
  unfold readReq at hr
  split at hr
  · subst hr
    exfalso
    revert h
    show ¬ (if 1500 < s.size then (2 : Int) else 1) = 0
    split <;> decide
  · split at hr
    · subst hr; exact absurd h (by decide)
    · next k hk =>
      split at hr
      · subst hr; exact absurd h (by decide)
      · next l n hln =>
        split at hr
        · next hq =>
          split at hr
          · next hb =>
            subst hr
            obtain ⟨g1, g2, g3⟩ := body_in l _ false hb
            obtain ⟨q1, q2, q3, q4, _⟩ := req_parts hq.2
            refine ⟨req_mk q1 q2 q3 q4 g1, ?_, ?_⟩
            · simp only; omega
            · simp only
              rw [ByteArray.size_extract] at g3
              have hin := Line.eol_in hk
              have hn := readGo_in _ _ _ _ _ (show Flds.readGo (s.extract (k + 2) s.size) 13 0 [] = some (l, n) from hln)
              rw [ByteArray.size_extract] at hn
              simp only at hn
              omega
          · next hb =>
            subst hr
            exfalso
            revert h
            show ¬ codeOf _ = 0
            unfold codeOf
            rw [if_neg hb]
            split <;> decide
        · subst hr; exact absurd h (by decide)
end Msg
end Go.Proofs.YtmiahdiadlnijaaDoor
namespace Go.Proofs.YtmiahdiadlnijaaDoor
open Go.RowKit
set_option linter.unusedVariables false
namespace Msg

/-- a box of four values, of the call's own; what was there stays -/
abbrev Box4 (w : World) (x y z u : Value) (W : World) : Prop :=
  W.cell? ⟨w.heap.size, 0, none⟩ = some x ∧ W.cell? ⟨w.heap.size, 1, none⟩ = some y ∧ W.cell? ⟨w.heap.size, 2, none⟩ = some z ∧ W.cell? ⟨w.heap.size, 3, none⟩ = some u ∧ Below w.heap.size w W
theorem Box4.step {w : World} {x y z u : Value} {W W' : World} (h : Box4 w x y z u W) (hb : Below W.heap.size W W') : Box4 w x y z u W' := by
  obtain ⟨h0, h1, h2, h3, h4⟩ := h
  have hlt : w.heap.size < W.heap.size := Recs.lt_of_cell h0
  exact ⟨(hb.cell (p := ⟨w.heap.size, 0, none⟩) hlt).trans h0, (hb.cell (p := ⟨w.heap.size, 1, none⟩) hlt).trans h1, (hb.cell (p := ⟨w.heap.size, 2, none⟩) hlt).trans h2, (hb.cell (p := ⟨w.heap.size, 3, none⟩) hlt).trans h3, h4.trans (hb.mono h4.size)⟩
theorem Box4.first (w : World) (x y z u : Value) (T : TypeId) {W : World} (hb : Below (w.alloc (.cells #[x, y, z, u] T)).heap.size (w.alloc (.cells #[x, y, z, u] T)) W) : Box4 w x y z u W := by
  have hlt : w.heap.size < (w.alloc (.cells #[x, y, z, u] T)).heap.size := by rw [World.size_alloc]; omega
  have hc : ∀ j, W.cell? ⟨w.heap.size, j, none⟩ = (#[x, y, z, u] : Array Value)[j]? := fun j => (hb.cell (p := ⟨w.heap.size, j, none⟩) hlt).trans (cell_of_row _ _ _ _ _ _ (heap_alloc_new w _))
  have hb0 := (Below.refl w.heap.size w).alloc (Nat.le_refl _) (.cells #[x, y, z, u] T)
  exact ⟨hc 0, hc 1, hc 2, hc 3, hb0.trans (hb.mono hb0.size)⟩
theorem Box4.drew {w : World} {x y z u : Value} {W : World} (h : Box4 w x y z u W) : Box4 w x y z u W.drew := h.step (Below.refl _ _).drew
theorem framed_bulk {L : List Flds.Fld} (h : Flds.ok L = true) : Flds.bulk L ≤ 1099511627776 := by
  have h1 := Flds.showGo_size L
  have h2 : (Flds.showGo L).size ≤ 1058 := by rw [size_of, Flds.showGo_list]; have := lines_len h; rw [lines_map, List.length_append] at this; omega
  unfold Flds.bulk
  omega
theorem shown_small {L : List Flds.Fld} (h : Flds.ok L = true) : (Flds.shown L).size ≤ 1058 := by rw [size_of, shown_list h]; exact lines_len h
theorem ok_bulk {L : List Flds.Fld} (h : Flds.ok L = true) : Flds.bulk L ≤ 1048576 := by
  have h1 := Flds.showGo_size L
  have h2 : (Flds.showGo L).size ≤ 1058 := by rw [size_of, Flds.showGo_list]; have := lines_len h; rw [lines_map, List.length_append] at this; omega
  unfold Flds.bulk
  omega
/-- a box of three values, of the call's own; what was there stays -/
abbrev Tri (w : World) (x y z : Value) (W : World) : Prop :=
  W.cell? ⟨w.heap.size, 0, none⟩ = some x ∧ W.cell? ⟨w.heap.size, 1, none⟩ = some y ∧ W.cell? ⟨w.heap.size, 2, none⟩ = some z ∧ Below w.heap.size w W
theorem Tri.step {w : World} {x y z : Value} {W W' : World} (h : Tri w x y z W) (hb : Below W.heap.size W W') : Tri w x y z W' := by
  obtain ⟨h0, h1, h2, h4⟩ := h
  have hlt : w.heap.size < W.heap.size := Recs.lt_of_cell h0
  exact ⟨(hb.cell (p := ⟨w.heap.size, 0, none⟩) hlt).trans h0, (hb.cell (p := ⟨w.heap.size, 1, none⟩) hlt).trans h1, (hb.cell (p := ⟨w.heap.size, 2, none⟩) hlt).trans h2, h4.trans (hb.mono h4.size)⟩
theorem Tri.first (w : World) (x y z : Value) (T : TypeId) {W : World} (hb : Below (w.alloc (.cells #[x, y, z] T)).heap.size (w.alloc (.cells #[x, y, z] T)) W) : Tri w x y z W := by
  have hlt : w.heap.size < (w.alloc (.cells #[x, y, z] T)).heap.size := by rw [World.size_alloc]; omega
  have hc : ∀ j, W.cell? ⟨w.heap.size, j, none⟩ = (#[x, y, z] : Array Value)[j]? := fun j => (hb.cell (p := ⟨w.heap.size, j, none⟩) hlt).trans (cell_of_row _ _ _ _ _ _ (heap_alloc_new w _))
  have hb0 := (Below.refl w.heap.size w).alloc (Nat.le_refl _) (.cells #[x, y, z] T)
  exact ⟨hc 0, hc 1, hc 2, hb0.trans (hb.mono hb0.size)⟩
theorem Tri.drew {w : World} {x y z : Value} {W : World} (h : Tri w x y z W) : Tri w x y z W.drew := h.step (Below.refl _ _).drew
end Msg
end Go.Proofs.YtmiahdiadlnijaaDoor
