/-
  MsgBack: What is shown of a message is read again, whatever stands behind; of a beginning more is wanted: plain.
  MsgShow: Requests and answers are read from their texts, whatever stands behind; of a beginning of a request more is wanted: plain.
  OwnNum: Fields without those that say how long a body is, as the program tells them, plain.
-/
import Derived.Test.YtmiahdiadlnijaaDoorPag
import Derived.Test.YtmiahdiadlnijaaDoorPal
namespace Go.Proofs.YtmiahdiadlnijaaDoor
open Go.RowKit
set_option linter.unusedVariables false
namespace Msg
open Line (byteAt byteAt_eq eol)
open Flds (Fld enc)

theorem byteAt_mid (T : ByteArray) (p : List UInt8) (b : UInt8) (q : List UInt8) (h : T.data.toList = p ++ b :: q) : byteAt T p.length = b.toNat := Body.byteAt_of T p b q h
theorem size_of (T : ByteArray) : T.size = T.data.toList.length := by rw [Array.length_toList]; rfl
/-- the first blank behind a stretch without any -/
theorem blF_list (T : ByteArray) : ∀ (t p q : List UInt8) (n : Nat), T.data.toList = p ++ (t ++ 32 :: q) → (∀ b ∈ t, ¬ b = 32) → t.length < n → blF T n p.length = some (p.length + t.length) := by
  intro t
  induction t with
  | nil =>
    intro p q n hT _ hn
    obtain ⟨m, rfl⟩ : ∃ m, n = m + 1 := ⟨n - 1, by simp at hn; omega⟩
    unfold blF
    rw [byteAt_mid T p 32 q (by simpa using hT), if_pos (by decide)]
    simp
  | cons b t ih =>
    intro p q n hT ha hn
    rw [List.length_cons] at hn
    obtain ⟨m, rfl⟩ : ∃ m, n = m + 1 := ⟨n - 1, by omega⟩
    unfold blF
    have hb := ha b (List.mem_cons_self ..)
    rw [byteAt_mid T p b (t ++ 32 :: q) (by simpa using hT), if_neg (fun h => hb (UInt8.toNat_inj.1 (h.trans (by decide))))]
    have := ih (p ++ [b]) q m (by rw [hT]; simp) (fun c hc => ha c (List.mem_cons_of_mem _ hc)) (by omega)
    rw [List.length_append, List.length_singleton] at this
    rw [this, List.length_cons]
    congr 1
    omega
theorem blk_list (T : ByteArray) (p t q : List UInt8) (hT : T.data.toList = p ++ (t ++ 32 :: q)) (h : ∀ b ∈ t, ¬ b = 32) : blk T p.length = some (p.length + t.length) := by
  unfold blk
  exact blF_list T t p q _ hT h (by rw [size_of, hT]; simp only [List.length_append, List.length_cons]; omega)
theorem extract_list (T : ByteArray) (p t q : List UInt8) (hT : T.data.toList = p ++ (t ++ q)) : T.extract p.length (p.length + t.length) = ⟨t.toArray⟩ := Body.extract_mid T p t q hT
theorem extract_rest (T : ByteArray) (p q : List UInt8) (hT : T.data.toList = p ++ q) : T.extract p.length T.size = ⟨q.toArray⟩ := by
  have := extract_list T p q [] (by simpa using hT)
  rw [show p.length + q.length = T.size by rw [size_of, hT, List.length_append]] at this
  exact this
theorem bytes_ext {x y : ByteArray} (h : x.data.toList = y.data.toList) : x = y := ByteArray.ext (Array.toList_inj.1 h)
theorem list_back (x : ByteArray) : (⟨x.data.toList.toArray⟩ : ByteArray) = x := bytes_ext (by simp)
/-- a line of three words -/
theorem words_list (T : ByteArray) (m u v : List UInt8) (hT : T.data.toList = m ++ 32 :: (u ++ 32 :: v)) (hm : ∀ b ∈ m, ¬ b = 32) (hu : ∀ b ∈ u, ¬ b = 32) : words T = (⟨m.toArray⟩, ⟨u.toArray⟩, ⟨v.toArray⟩) := by
  have h1 := blk_list T [] m (u ++ 32 :: v) (by simpa using hT) hm
  have h2 := blk_list T (m ++ [32]) u v (by rw [hT]; simp) hu
  simp only [List.length_nil, Nat.zero_add, List.length_append, List.length_singleton] at h1 h2
  unfold words
  rw [h1]
  simp only
  rw [h2]
  simp only
  have e1 := extract_list T [] m (32 :: (u ++ 32 :: v)) (by simpa using hT)
  have e2 := extract_list T (m ++ [32]) u (32 :: v) (by rw [hT]; simp)
  have e3 := extract_rest T (m ++ 32 :: (u ++ [32])) v (by rw [hT]; simp)
  simp only [List.length_nil, Nat.zero_add, List.length_append, List.length_cons] at e1 e2 e3
  rw [e1, e2, show m.length + 1 + u.length + 1 = m.length + (u.length + 1 + 1) by omega, e3]
/-- a gap anywhere -/
theorem wholeF_of (T : ByteArray) : ∀ (n i j : Nat), i ≤ j → j < i + n → T.extract j (j + 4) = gap → wholeF T n i = true := by
  intro n
  induction n with
  | zero => intro i j h1 h2; omega
  | succ n ih =>
    intro i j h1 h2 hg
    unfold wholeF
    by_cases e : T.extract i (i + 4) = gap
    · rw [if_pos e]
    · rw [if_neg e]
      have : i ≠ j := fun h => e (by rw [h]; exact hg)
      exact ih (i + 1) j (by omega) (by omega) hg
theorem whole_of (T : ByteArray) (p q : List UInt8) (hT : T.data.toList = p ++ (13 :: 10 :: 13 :: 10 :: q)) : whole T = true := by
  have e := extract_list T p [13, 10, 13, 10] q (by simpa using hT)
  have hz : T.size = p.length + 4 + q.length := by rw [size_of, hT]; simp only [List.length_append, List.length_cons]; omega
  unfold whole
  exact wholeF_of T _ 0 p.length (Nat.zero_le _) (by omega) e
theorem wholeF_no (T : ByteArray) : ∀ (n i : Nat), wholeF T n i = true → ∃ j, i ≤ j ∧ j < i + n ∧ T.extract j (j + 4) = gap := by
  intro n
  induction n with
  | zero => intro i h; cases h
  | succ n ih =>
    intro i h
    unfold wholeF at h
    by_cases e : T.extract i (i + 4) = gap
    · exact ⟨i, Nat.le_refl _, by omega, e⟩
    · rw [if_neg e] at h
      obtain ⟨j, h1, h2, h3⟩ := ih (i + 1) h
      exact ⟨j, by omega, by omega, h3⟩
theorem whole_at {T : ByteArray} (h : whole T = true) : ∃ p q, T.data.toList = p ++ (13 :: 10 :: 13 :: 10 :: q) := by
  obtain ⟨j, _, h2, h3⟩ := wholeF_no T _ 0 h
  refine ⟨T.data.toList.take j, T.data.toList.drop (j + 4), ?_⟩
  have e : (T.extract j (j + 4)).data.toList = [13, 10, 13, 10] := by rw [h3]; rfl
  rw [ByteArray.data_extract, Array.toList_extract, List.extract_eq_drop_take'] at e
  have e2 : (T.data.toList.drop j).take 4 = [13, 10, 13, 10] := by rw [← e, List.drop_take, Nat.add_sub_cancel_left]
  conv => lhs; rw [← List.take_append_drop j T.data.toList, ← List.take_append_drop 4 (T.data.toList.drop j), e2, List.drop_drop]
  rfl
/-- a gap lies nowhere ahead of the end of lines that are not empty -/
def lines (L : List (List UInt8)) : List UInt8 := L.flatMap (· ++ [13, 10]) ++ [13, 10]
theorem lines_cons (t : List UInt8) (L : List (List UInt8)) : lines (t :: L) = t ++ 13 :: 10 :: lines L := by unfold lines; simp
theorem no_thirteen {t p q r : List UInt8} {b : UInt8} (h : ∀ b ∈ t, ¬ b = 13) (he : p ++ 13 :: q = t ++ b :: r) : t.length ≤ p.length := by
  by_cases hc : p.length < t.length
  · exfalso
    have e1 : (p ++ 13 :: q)[p.length]? = some 13 := by simp
    rw [he, List.getElem?_append_left hc] at e1
    exact h _ (List.mem_of_getElem? e1) rfl
  · omega
theorem gap_last : ∀ (L : List (List UInt8)) (p q : List UInt8), L ≠ [] → (∀ t ∈ L, t ≠ [] ∧ ∀ b ∈ t, ¬ b = 13) → lines L = p ++ (13 :: 10 :: 13 :: 10 :: q) → q = [] := by
  intro L
  induction L with
  | nil => intro p q h; exact absurd rfl h
  | cons t L ih =>
    intro p q _ hall he
    rw [lines_cons] at he
    have ht := hall t (List.mem_cons_self ..)
    have hle := no_thirteen ht.2 he.symm
    obtain ⟨x, rfl⟩ : ∃ x, p = t ++ x := by
      refine ⟨p.drop t.length, ?_⟩
      have h1 : (p ++ 13 :: 10 :: 13 :: 10 :: q).take t.length = t := by rw [← he]; simp
      rw [List.take_append_of_le_length hle] at h1
      conv => lhs; rw [← List.take_append_drop t.length p, h1]
    rw [List.append_assoc] at he
    have he2 := List.append_cancel_left he
    match x, he2 with
    | [], he2 =>
      simp only [List.nil_append, List.cons.injEq, true_and] at he2
      cases L with
      | nil =>
        have : lines [] = [13, 10] := rfl
        rw [this] at he2
        simp only [List.cons.injEq, true_and] at he2
        exact he2.symm
      | cons t2 L2 =>
        exfalso
        have ht2 := hall t2 (by simp)
        rw [lines_cons] at he2
        cases t2 with
        | nil => exact ht2.1 rfl
        | cons b t3 =>
          simp only [List.cons_append, List.cons.injEq] at he2
          exact ht2.2 b (List.mem_cons_self ..) he2.1
    | [a], he2 =>
      exfalso
      simp only [List.cons_append, List.nil_append, List.cons.injEq] at he2
      have := he2.2.1
      revert this; decide
    | a :: c :: y, he2 =>
      simp only [List.cons_append, List.cons.injEq] at he2
      cases L with
      | nil =>
        have h1 : lines [] = [13, 10] := rfl
        rw [h1] at he2
        have := congrArg List.length he2.2.2
        simp only [List.length_cons, List.length_nil, List.length_append] at this
        omega
      | cons t2 L2 => exact ih y q (by simp) (fun t ht => hall t (List.mem_cons_of_mem _ ht)) he2.2.2
end Msg
end Go.Proofs.YtmiahdiadlnijaaDoor
namespace Go.Proofs.YtmiahdiadlnijaaDoor
open Go.RowKit
set_option linter.unusedVariables false
namespace Msg
open Line (byteAt byteAt_eq eol)
open Flds (Fld enc)

theorem tok_none {x : ByteArray} (h : Sign.isTok x = true) : ∀ b ∈ x.data.toList, ¬ b = 32 ∧ ¬ b = 13 := by
  intro b hb
  unfold Sign.isTok at h
  rw [Bool.and_eq_true, List.all_eq_true] at h
  have h1 := of_decide_eq_true (h.2 b hb)
  unfold Sign.tok at h1
  constructor
  · rintro rfl; revert h1; decide
  · rintro rfl; revert h1; decide
theorem uri_none {u : ByteArray} (h : uriOk u = true) : ∀ b ∈ u.data.toList, ¬ b = 32 ∧ ¬ b = 13 := by
  intro b hb
  unfold uriOk at h
  simp only [Bool.and_eq_true] at h
  have h1 := List.all_eq_true.1 h.1.1 b hb
  unfold uriB at h1
  have h2 := of_decide_eq_true h1
  constructor
  · rintro rfl; revert h2; decide
  · rintro rfl; revert h2; decide
theorem no_name {l : List Fld} {n : ByteArray} (h : (Flds.get l n).2 = false) : ∀ f ∈ l, ¬ f.1 = n := by
  intro f hf e
  obtain ⟨i, hi, rfl⟩ := List.getElem_of_mem hf
  have := Flds.get_is l i hi
  rw [e, h] at this
  cases this
theorem drop_none {l : List Fld} {n : ByteArray} (h : ∀ f ∈ l, ¬ f.1 = n) : Flds.drop l n = l := by
  unfold Flds.drop
  rw [List.filter_eq_self]
  intro f hf
  exact decide_eq_true (h f hf)
theorem plain_parts {l : List Fld} (h : plain l = true) : (∀ f ∈ l, ¬ f.1 = Body.teName) ∧ (∀ f ∈ l, ¬ f.1 = Body.clName) ∧ l.length < 12 ∧ Flds.ok l = true := by
  unfold plain at h
  simp only [Bool.and_eq_true, Bool.not_eq_true', decide_eq_true_iff] at h
  exact ⟨no_name h.1.1.1, no_name h.1.1.2, h.1.2, h.2⟩
theorem te_cl : ¬ Body.clName = Body.teName := fun h => by have := congrArg ByteArray.size h; revert this; decide
theorem bare_plain {l : List Fld} (h : plain l = true) : bare l = l := by
  obtain ⟨h1, h2, _, _⟩ := plain_parts h
  unfold bare
  rw [drop_none h1, drop_none h2]
theorem framed_plain {l : List Fld} (h : plain l = true) (b : ByteArray) : framed l b = l ++ [(Body.clName, decB b.size)] := by unfold framed; rw [bare_plain h]
theorem bare_framed {l : List Fld} (h : plain l = true) (b : ByteArray) : bare (framed l b) = l := by
  obtain ⟨h1, h2, _, _⟩ := plain_parts h
  rw [framed_plain h]
  unfold bare
  rw [Flds.drop_snoc, if_neg te_cl, Flds.drop_snoc, if_pos rfl, drop_none h1, drop_none h2, List.append_nil]
set_option maxRecDepth 100000 in
theorem dec_small (n : Nat) (h : n ≤ 60) : Flds.okF (Body.clName, decB (n : Int)) = true ∧ Sign.secs (decB (n : Int)) = ((n : Int), true) := by
  have key : ∀ n : Nat, n < 61 → Flds.okF (Body.clName, decB (n : Int)) = true ∧ Sign.secs (decB (n : Int)) = ((n : Int), true) := by decide +kernel
  exact key n (by omega)
theorem ok_framed {l : List Fld} (h : plain l = true) (b : ByteArray) (hb : b.size ≤ 60) : Flds.ok (framed l b) = true := by
  obtain ⟨_, _, h3, h4⟩ := plain_parts h
  rw [framed_plain h]
  unfold Flds.ok at h4 ⊢
  rw [Bool.and_eq_true] at h4
  rw [List.all_append, h4.1, Bool.true_and, Bool.and_eq_true]
  refine ⟨?_, decide_eq_true (by rw [List.length_append, List.length_singleton]; omega)⟩
  rw [List.all_cons, List.all_nil, Bool.and_true]
  exact (dec_small b.size hb).1
theorem get_framed {l : List Fld} (h : plain l = true) (b : ByteArray) : Flds.get (framed l b) Body.teName = (⟨#[]⟩, false) ∧ Flds.get (framed l b) Body.clName = (decB b.size, true) := by
  obtain ⟨h1, h2, _, _⟩ := plain_parts h
  rw [framed_plain h, Flds.get_snoc, Flds.get_snoc, Flds.get_none l _ h1, Flds.get_none l _ h2]
  unfold Flds.getStep
  rw [if_neg te_cl, if_pos rfl, if_neg (by simp), Flds.empty_app]
  exact ⟨rfl, rfl⟩
theorem body_framed {l : List Fld} (h : plain l = true) (b : ByteArray) (hb : b.size ≤ 60) (s : ByteArray) (c : Bool) : Body.bodyOf (framed l b) s c = if s.size < b.size then Body.more else (s.extract 0 b.size, (b.size : Int), 0) := by
  obtain ⟨g1, g2⟩ := get_framed h b
  unfold Body.bodyOf Body.bodyBy
  rw [g1, g2]
  simp only [(dec_small b.size hb).2]
  rw [if_neg (by decide), if_pos trivial, if_neg (by simp; omega)]
  by_cases hs : s.size < b.size
  · rw [if_pos (by omega), if_pos hs]
  · rw [if_neg (by omega), if_neg hs]; rfl
/-- a field's line -/
def fline (f : Fld) : List UInt8 := f.1.data.toList ++ 58 :: 32 :: f.2.data.toList
theorem enc_fline (f : Fld) : enc f = fline f ++ [13, 10] := by unfold enc fline; simp
theorem lines_map (L : List Fld) : lines (L.map fline) = L.flatMap enc ++ [13, 10] := by
  unfold lines
  congr 1
  induction L with
  | nil => rfl
  | cons f L ih => rw [List.map_cons, List.flatMap_cons, List.flatMap_cons, ih, enc_fline]
theorem shown_list {L : List Fld} (h : Flds.ok L = true) : (Flds.shown L).data.toList = lines (L.map fline) := by
  rw [lines_map]
  unfold Flds.shown
  rw [if_pos h, ← Flds.showGo_list]
  simp
theorem fline_none {L : List Fld} (h : Flds.ok L = true) : ∀ t ∈ L.map fline, t ≠ [] ∧ ∀ b ∈ t, ¬ b = 13 := by
  intro t ht
  obtain ⟨f, hf, rfl⟩ := List.mem_map.1 ht
  unfold Flds.ok at h
  rw [Bool.and_eq_true] at h
  have h1 := List.all_eq_true.1 h.1 f hf
  unfold Flds.okF at h1
  simp only [Bool.and_eq_true, decide_eq_true_iff] at h1
  obtain ⟨⟨⟨⟨h1, h2⟩, h3⟩, h4⟩, h5⟩ := h1
  refine ⟨by unfold fline; simp, ?_⟩
  intro b hb
  unfold fline at hb
  rcases List.mem_append.1 hb with h6 | h6
  · exact (tok_none h1 b h6).2
  · rcases List.mem_cons.1 h6 with rfl | h7
    · decide
    · rcases List.mem_cons.1 h7 with rfl | h8
      · decide
      · exact (Flds.val_no h4).1 b h8
theorem lines_end : ∀ (X : List (List UInt8)), X ≠ [] → ∃ p, lines X = p ++ [13, 10, 13, 10] := by
  intro X
  induction X with
  | nil => intro h; exact absurd rfl h
  | cons t X ih =>
    intro _
    rw [lines_cons]
    cases X with
    | nil => exact ⟨t, rfl⟩
    | cons t2 X2 =>
      obtain ⟨p, hp⟩ := ih (by simp)
      exact ⟨t ++ 13 :: 10 :: p, by rw [hp]; simp⟩
/-- what is found in a text of a first line, lines of fields and what stands behind -/
structure Head (T : ByteArray) (t : List UInt8) (L : List Fld) (q : List UInt8) : Prop where
  whole : whole T = true
  eol : eol T 0 = some t.length
  line : T.extract 0 t.length = ⟨t.toArray⟩
  read : Flds.read (T.extract (t.length + 2) T.size) = some (L, (Flds.shown L).size)
  rest : T.extract (t.length + 2 + (Flds.shown L).size) T.size = ⟨q.toArray⟩
theorem head_of (T : ByteArray) (t : List UInt8) (L : List Fld) (q : List UInt8) (hT : T.data.toList = lines (t :: L.map fline) ++ q) (ht : ∀ b ∈ t, ¬ b = 13) (hL : Flds.ok L = true) : Head T t L q := by
  have hT2 : T.data.toList = t ++ 13 :: 10 :: (lines (L.map fline) ++ q) := by rw [hT, lines_cons]; simp
  have hsl := shown_list hL
  have hss : (Flds.shown L).size = (lines (L.map fline)).length := by rw [size_of, hsl]
  obtain ⟨e1, e2⟩ := Line.eol_line T [] t (lines (L.map fline) ++ q) (by simpa using hT2) ht
  simp only [List.length_nil, Nat.zero_add] at e1 e2
  have e3 := extract_rest T (t ++ [13, 10]) (lines (L.map fline) ++ q) (by rw [hT2]; simp)
  have e4 := extract_rest T (t ++ 13 :: 10 :: lines (L.map fline)) q (by rw [hT2]; simp)
  simp only [List.length_append, List.length_cons, List.length_nil] at e3 e4
  have e5 : (⟨(lines (L.map fline) ++ q).toArray⟩ : ByteArray) = Flds.shown L ++ ⟨q.toArray⟩ := bytes_ext (by simp [hsl])
  refine ⟨?_, e1, e2, ?_, ?_⟩
  · obtain ⟨p, hp⟩ := lines_end (t :: L.map fline) (by simp)
    exact whole_of T p q (by rw [hT, hp]; simp)
  · rw [show t.length + 2 = t.length + (0 + 1 + 1) by omega, e3, e5]
    exact Flds.read_shown L _ hL
  · rw [hss, show t.length + 2 + (lines (L.map fline)).length = t.length + ((lines (L.map fline)).length + 1 + 1) by omega, e4]
theorem head_cut (T : ByteArray) (t : List UInt8) (L : List Fld) (K : Nat) (hK : K < (lines (t :: L.map fline)).length) (hT : T.data.toList = (lines (t :: L.map fline)).take K) (h0 : t ≠ []) (ht : ∀ b ∈ t, ¬ b = 13) (hL : Flds.ok L = true) : whole T = false := by
  cases hw : whole T with
  | false => rfl
  | true =>
    exfalso
    obtain ⟨p, q, hpq⟩ := whole_at hw
    have hne : (lines (t :: L.map fline)).drop K ≠ [] := fun h => by
      have := congrArg List.length h
      rw [List.length_drop, List.length_nil] at this
      omega
    have he : lines (t :: L.map fline) = p ++ 13 :: 10 :: 13 :: 10 :: (q ++ (lines (t :: L.map fline)).drop K) := by
      conv => lhs; rw [← List.take_append_drop K (lines (t :: L.map fline)), ← hT, hpq]
      simp
    have := gap_last (t :: L.map fline) p _ (by simp) (fun x hx => by
      rcases List.mem_cons.1 hx with rfl | h
      · exact ⟨h0, ht⟩
      · exact fline_none hL x h) he
    exact hne (List.append_eq_nil_iff.1 this).2
end Msg
end Go.Proofs.YtmiahdiadlnijaaDoor
namespace Go.Proofs.YtmiahdiadlnijaaDoor
open Go.RowKit
set_option linter.unusedVariables false
namespace Msg
open Flds (Fld)

theorem bulk_drop (l : List Flds.Fld) (n : ByteArray) : Flds.bulk (Flds.drop l n) ≤ Flds.bulk l := by
  unfold Flds.bulk Flds.drop
  induction l with
  | nil => simp
  | cons f l ih =>
    rw [List.filter_cons]
    split
    · simp only [List.length_cons, List.map_cons, List.sum_cons]; omega
    · simp only [List.length_cons, List.map_cons, List.sum_cons]; omega
theorem bare_bulk (l : List Flds.Fld) : Flds.bulk (bare l) ≤ Flds.bulk l := Nat.le_trans (bulk_drop _ _) (bulk_drop _ _)
theorem drop_swap (l : List Fld) (a b : ByteArray) : Flds.drop (Flds.drop l a) b = Flds.drop (Flds.drop l b) a := by
  unfold Flds.drop
  rw [List.filter_filter, List.filter_filter]
  congr 1
  funext f
  exact Bool.and_comm _ _
/-- the program drops the two names the other way round -/
theorem bare_two (l : List Fld) : Flds.drop (Flds.drop l Body.clName) Body.teName = bare l := drop_swap l _ _
theorem drop_mem {l : List Fld} {n : ByteArray} {f : Fld} (h : f ∈ Flds.drop l n) : f ∈ l ∧ ¬ f.1 = n := by
  unfold Flds.drop at h
  rw [List.mem_filter] at h
  exact ⟨h.1, of_decide_eq_true h.2⟩
theorem get_no {l : List Fld} {n : ByteArray} (h : ∀ f ∈ l, ¬ f.1 = n) : (Flds.get l n).2 = false := by rw [Flds.get_none l n h]
/-- a list that stays as it is when both are dropped has neither -/
theorem own_plain (l : List Fld) : (decide (l.length < 12) && Flds.ok l && decide (l = bare l)) = plain l := by
  unfold plain
  by_cases h : l = bare l
  · have hin : ∀ f ∈ l, f ∈ bare l := fun f hf => by rw [← h]; exact hf
    have h1 : ∀ f ∈ l, ¬ f.1 = Body.clName := fun f hf => (drop_mem (l := Flds.drop l Body.teName) (hin f hf)).2
    have h2 : ∀ f ∈ l, ¬ f.1 = Body.teName := fun f hf => (drop_mem (drop_mem (l := Flds.drop l Body.teName) (hin f hf)).1).2
    rw [get_no h1, get_no h2, decide_eq_true h, Bool.and_true]
    rfl
  · rw [decide_eq_false h, Bool.and_false]
    symm
    cases ha : (Flds.get l Body.teName).2 with
    | true => rfl
    | false =>
      cases hb : (Flds.get l Body.clName).2 with
      | true => rfl
      | false =>
        exfalso
        apply h
        unfold bare
        rw [drop_none (no_name ha), drop_none (no_name hb)]
theorem setGo_none (l : List Fld) (n v : ByteArray) (h : ∀ f ∈ l, ¬ f.1 = n) : Flds.setGo l n v = (l, false) := by
  have key : ∀ (l : List Fld) (r : List Fld × Bool), (∀ f ∈ l, ¬ f.1 = n) → l.foldl (Flds.setStep n v) r = (r.1 ++ l, r.2) := by
    intro l
    induction l with
    | nil => intro r _; simp
    | cons f l ih =>
      intro r hl
      rw [List.foldl_cons, ih _ (fun g hg => hl g (List.mem_cons_of_mem _ hg))]
      have : Flds.setStep n v r f = (r.1 ++ [f], r.2) := by unfold Flds.setStep; rw [if_neg (hl f (List.mem_cons_self ..))]
      rw [this]
      simp
  unfold Flds.setGo
  rw [key l _ h]
  simp
theorem set_plain {l : List Fld} (h : plain l = true) (b : ByteArray) : Flds.set l Body.clName (decB b.size) = framed l b := by
  rw [framed_plain h]
  unfold Flds.set
  rw [setGo_none l _ _ (plain_parts h).2.1]
  rfl
end Msg
end Go.Proofs.YtmiahdiadlnijaaDoor
