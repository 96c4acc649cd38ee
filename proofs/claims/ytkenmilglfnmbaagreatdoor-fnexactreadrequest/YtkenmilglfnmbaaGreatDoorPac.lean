/-
  MsgBack: What is shown of a message is read again, whatever stands behind; of a beginning more is wanted: plain.
  MsgShow: Requests and answers are read from their texts, whatever stands behind; of a beginning of a request more is wanted: plain.
  MsgRead: A request is read from its text, whatever stands behind; of a beginning more is wanted; what is read is right: plain.
  OwnNum: Fields without those that say how long a body is, as the program tells them, plain.
  WordsSpec: l6Words and l6Whole of the specification: a line parted at its first two blanks; whether a message's line and fields are there.
  LineEol: l3Line of the specification: the line at a place.
  LineSpec: l3Colon of the specification: the first colon.
  FldReadSpec: ReadFields of the specification: fields read off a text, in a row of the call's own; what was there stays.
-/
import Derived.Test.YtkenmilglfnmbaaGreatDoorPab
import Derived.Test.YtkenmilglfnmbaaGreatDoorRecs
import Derived.Test.YtkenmilglfnmbaaGreatDoorRows
import Derived.WalkKit
import Derived.WalkLawsBesides
import Derived.WalkSpells
import Derived.Below
import Derived.Deep.QuietTactic
import Derived.BigQuiet
import Derived.Laws.Strings
import Derived.Laws.Strings2
import Derived.Laws.Strings3
import Derived.Test.YtkenmilglfnmbaaGreatDoorSignNum
import Derived.Test.YtkenmilglfnmbaaGreatDoorLineDef
import Derived.Test.YtkenmilglfnmbaaGreatDoorPaa
import Derived.Test.YtkenmilglfnmbaaGreatDoorFldsOkSpec
import Derived.Test.YtkenmilglfnmbaaGreatDoorTrimSpec
import Derived.Test.YtkenmilglfnmbaaGreatDoorRegLaw
namespace Go.Proofs.YtkenmilglfnmbaaGreatDoor
open Go.RowKit
set_option linter.unusedVariables false
namespace Msg
open Line (byteAt byteAt_eq eol)
open Flds (Fld enc)

theorem byteAt_mid (T : ByteArray) (p : List UInt8) (b : UInt8) (q : List UInt8) (h : T.data.toList = p ++ b :: q) : byteAt T p.length = b.toNat := Body.byteAt_of T p b q h
theorem size_of (T : ByteArray) : T.size = T.data.toList.length := by rw [Array.length_toList]; rfl
/-- the first blank behind a stretch without any -/
theorem blF_list (T : ByteArray) : ∀ (t p q : List UInt8) (n : Nat), T.data.toList = p ++ (t ++ 32 :: q) → (∀ b ∈ t, ¬ b = 32) → t.length < n → blF T n p.length = some (p.length + t.length) := by
  intro t
  induction t with
  | nil =>
    intro p q n hT _ hn
    obtain ⟨m, rfl⟩ : ∃ m, n = m + 1 := ⟨n - 1, by simp at hn; omega⟩
    unfold blF
    rw [byteAt_mid T p 32 q (by simpa using hT), if_pos (by decide)]
    simp
  | cons b t ih =>
    intro p q n hT ha hn
    rw [List.length_cons] at hn
    obtain ⟨m, rfl⟩ : ∃ m, n = m + 1 := ⟨n - 1, by omega⟩
    unfold blF
    have hb := ha b (List.mem_cons_self ..)
    rw [byteAt_mid T p b (t ++ 32 :: q) (by simpa using hT), if_neg (fun h => hb (UInt8.toNat_inj.1 (h.trans (by decide))))]
    have := ih (p ++ [b]) q m (by rw [hT]; simp) (fun c hc => ha c (List.mem_cons_of_mem _ hc)) (by omega)
    rw [List.length_append, List.length_singleton] at this
    rw [this, List.length_cons]
    congr 1
    omega
theorem blk_list (T : ByteArray) (p t q : List UInt8) (hT : T.data.toList = p ++ (t ++ 32 :: q)) (h : ∀ b ∈ t, ¬ b = 32) : blk T p.length = some (p.length + t.length) := by
  unfold blk
  exact blF_list T t p q _ hT h (by rw [size_of, hT]; simp only [List.length_append, List.length_cons]; omega)
theorem extract_list (T : ByteArray) (p t q : List UInt8) (hT : T.data.toList = p ++ (t ++ q)) : T.extract p.length (p.length + t.length) = ⟨t.toArray⟩ := Body.extract_mid T p t q hT
theorem extract_rest (T : ByteArray) (p q : List UInt8) (hT : T.data.toList = p ++ q) : T.extract p.length T.size = ⟨q.toArray⟩ := by
  have := extract_list T p q [] (by simpa using hT)
  rw [show p.length + q.length = T.size by rw [size_of, hT, List.length_append]] at this
  exact this
theorem bytes_ext {x y : ByteArray} (h : x.data.toList = y.data.toList) : x = y := ByteArray.ext (Array.toList_inj.1 h)
theorem list_back (x : ByteArray) : (⟨x.data.toList.toArray⟩ : ByteArray) = x := bytes_ext (by simp)
/-- a line of three words -/
theorem words_list (T : ByteArray) (m u v : List UInt8) (hT : T.data.toList = m ++ 32 :: (u ++ 32 :: v)) (hm : ∀ b ∈ m, ¬ b = 32) (hu : ∀ b ∈ u, ¬ b = 32) : words T = (⟨m.toArray⟩, ⟨u.toArray⟩, ⟨v.toArray⟩) := by
  have h1 := blk_list T [] m (u ++ 32 :: v) (by simpa using hT) hm
  have h2 := blk_list T (m ++ [32]) u v (by rw [hT]; simp) hu
  simp only [List.length_nil, Nat.zero_add, List.length_append, List.length_singleton] at h1 h2
  unfold words
  rw [h1]
  simp only
  rw [h2]
  simp only
  have e1 := extract_list T [] m (32 :: (u ++ 32 :: v)) (by simpa using hT)
  have e2 := extract_list T (m ++ [32]) u (32 :: v) (by rw [hT]; simp)
  have e3 := extract_rest T (m ++ 32 :: (u ++ [32])) v (by rw [hT]; simp)
  simp only [List.length_nil, Nat.zero_add, List.length_append, List.length_cons] at e1 e2 e3
  rw [e1, e2, show m.length + 1 + u.length + 1 = m.length + (u.length + 1 + 1) by omega, e3]
/-- a gap anywhere -/
theorem wholeF_of (T : ByteArray) : ∀ (n i j : Nat), i ≤ j → j < i + n → T.extract j (j + 4) = gap → wholeF T n i = true := by
  intro n
  induction n with
  | zero => intro i j h1 h2; omega
  | succ n ih =>
    intro i j h1 h2 hg
    unfold wholeF
    by_cases e : T.extract i (i + 4) = gap
    · rw [if_pos e]
    · rw [if_neg e]
      have : i ≠ j := fun h => e (by rw [h]; exact hg)
      exact ih (i + 1) j (by omega) (by omega) hg
theorem whole_of (T : ByteArray) (p q : List UInt8) (hT : T.data.toList = p ++ (13 :: 10 :: 13 :: 10 :: q)) : whole T = true := by
  have e := extract_list T p [13, 10, 13, 10] q (by simpa using hT)
  have hz : T.size = p.length + 4 + q.length := by rw [size_of, hT]; simp only [List.length_append, List.length_cons]; omega
  unfold whole
  exact wholeF_of T _ 0 p.length (Nat.zero_le _) (by omega) e
theorem wholeF_no (T : ByteArray) : ∀ (n i : Nat), wholeF T n i = true → ∃ j, i ≤ j ∧ j < i + n ∧ T.extract j (j + 4) = gap := by
  intro n
  induction n with
  | zero => intro i h; cases h
  | succ n ih =>
    intro i h
    unfold wholeF at h
    by_cases e : T.extract i (i + 4) = gap
    · exact ⟨i, Nat.le_refl _, by omega, e⟩
    · rw [if_neg e] at h
      obtain ⟨j, h1, h2, h3⟩ := ih (i + 1) h
      exact ⟨j, by omega, by omega, h3⟩
theorem whole_at {T : ByteArray} (h : whole T = true) : ∃ p q, T.data.toList = p ++ (13 :: 10 :: 13 :: 10 :: q) := by
  obtain ⟨j, _, h2, h3⟩ := wholeF_no T _ 0 h
  refine ⟨T.data.toList.take j, T.data.toList.drop (j + 4), ?_⟩
  have e : (T.extract j (j + 4)).data.toList = [13, 10, 13, 10] := by rw [h3]; rfl
  rw [ByteArray.data_extract, Array.toList_extract, List.extract_eq_drop_take'] at e
  have e2 : (T.data.toList.drop j).take 4 = [13, 10, 13, 10] := by rw [← e, List.drop_take, Nat.add_sub_cancel_left]
  conv => lhs; rw [← List.take_append_drop j T.data.toList, ← List.take_append_drop 4 (T.data.toList.drop j), e2, List.drop_drop]
  rfl
/-- a gap lies nowhere ahead of the end of lines that are not empty -/
def lines (L : List (List UInt8)) : List UInt8 := L.flatMap (· ++ [13, 10]) ++ [13, 10]
theorem lines_cons (t : List UInt8) (L : List (List UInt8)) : lines (t :: L) = t ++ 13 :: 10 :: lines L := by unfold lines; simp
theorem no_thirteen {t p q r : List UInt8} {b : UInt8} (h : ∀ b ∈ t, ¬ b = 13) (he : p ++ 13 :: q = t ++ b :: r) : t.length ≤ p.length := by
  by_cases hc : p.length < t.length
  · exfalso
    have e1 : (p ++ 13 :: q)[p.length]? = some 13 := by simp
    rw [he, List.getElem?_append_left hc] at e1
    exact h _ (List.mem_of_getElem? e1) rfl
  · omega
theorem gap_last : ∀ (L : List (List UInt8)) (p q : List UInt8), L ≠ [] → (∀ t ∈ L, t ≠ [] ∧ ∀ b ∈ t, ¬ b = 13) → lines L = p ++ (13 :: 10 :: 13 :: 10 :: q) → q = [] := by
  intro L
  induction L with
  | nil => intro p q h; exact absurd rfl h
  | cons t L ih =>
    intro p q _ hall he
    rw [lines_cons] at he
    have ht := hall t (List.mem_cons_self ..)
    have hle := no_thirteen ht.2 he.symm
    obtain ⟨x, rfl⟩ : ∃ x, p = t ++ x := by
      refine ⟨p.drop t.length, ?_⟩
      have h1 : (p ++ 13 :: 10 :: 13 :: 10 :: q).take t.length = t := by rw [← he]; simp
      rw [List.take_append_of_le_length hle] at h1
      conv => lhs; rw [← List.take_append_drop t.length p, h1]
    rw [List.append_assoc] at he
    have he2 := List.append_cancel_left he
    match x, he2 with
    | [], he2 =>
      simp only [List.nil_append, List.cons.injEq, true_and] at he2
      cases L with
      | nil =>
        have : lines [] = [13, 10] := rfl
        rw [this] at he2
        simp only [List.cons.injEq, true_and] at he2
        exact he2.symm
      | cons t2 L2 =>
        exfalso
        have ht2 := hall t2 (by simp)
        rw [lines_cons] at he2
        cases t2 with
        | nil => exact ht2.1 rfl
        | cons b t3 =>
          simp only [List.cons_append, List.cons.injEq] at he2
          exact ht2.2 b (List.mem_cons_self ..) he2.1
    | [a], he2 =>
      exfalso
      simp only [List.cons_append, List.nil_append, List.cons.injEq] at he2
      have := he2.2.1
      revert this; decide
    | a :: c :: y, he2 =>
      simp only [List.cons_append, List.cons.injEq] at he2
      cases L with
      | nil =>
        have h1 : lines [] = [13, 10] := rfl
        rw [h1] at he2
        have := congrArg List.length he2.2.2
        simp only [List.length_cons, List.length_nil, List.length_append] at this
        omega
      | cons t2 L2 => exact ih y q (by simp) (fun t ht => hall t (List.mem_cons_of_mem _ ht)) he2.2.2
end Msg
end Go.Proofs.YtkenmilglfnmbaaGreatDoor
namespace Go.Proofs.YtkenmilglfnmbaaGreatDoor
open Go.RowKit
set_option linter.unusedVariables false
namespace Msg
open Line (byteAt byteAt_eq eol)
open Flds (Fld enc)

theorem tok_none {x : ByteArray} (h : Sign.isTok x = true) : ∀ b ∈ x.data.toList, ¬ b = 32 ∧ ¬ b = 13 := by
  intro b hb
  unfold Sign.isTok at h
  rw [Bool.and_eq_true, List.all_eq_true] at h
  have h1 := of_decide_eq_true (h.2 b hb)
  unfold Sign.tok at h1
  constructor
  · rintro rfl; revert h1; decide
  · rintro rfl; revert h1; decide
theorem uri_none {u : ByteArray} (h : uriOk u = true) : ∀ b ∈ u.data.toList, ¬ b = 32 ∧ ¬ b = 13 := by
  intro b hb
  unfold uriOk at h
  simp only [Bool.and_eq_true] at h
  have h1 := List.all_eq_true.1 h.1.1 b hb
  unfold uriB at h1
  have h2 := of_decide_eq_true h1
  constructor
  · rintro rfl; revert h2; decide
  · rintro rfl; revert h2; decide
theorem no_name {l : List Fld} {n : ByteArray} (h : (Flds.get l n).2 = false) : ∀ f ∈ l, ¬ f.1 = n := by
  intro f hf e
  obtain ⟨i, hi, rfl⟩ := List.getElem_of_mem hf
  have := Flds.get_is l i hi
  rw [e, h] at this
  cases this
theorem drop_none {l : List Fld} {n : ByteArray} (h : ∀ f ∈ l, ¬ f.1 = n) : Flds.drop l n = l := by
  unfold Flds.drop
  rw [List.filter_eq_self]
  intro f hf
  exact decide_eq_true (h f hf)
theorem plain_parts {l : List Fld} (h : plain l = true) : (∀ f ∈ l, ¬ f.1 = Body.teName) ∧ (∀ f ∈ l, ¬ f.1 = Body.clName) ∧ l.length < 12 ∧ Flds.ok l = true := by
  unfold plain at h
  simp only [Bool.and_eq_true, Bool.not_eq_true', decide_eq_true_iff] at h
  exact ⟨no_name h.1.1.1, no_name h.1.1.2, h.1.2, h.2⟩
theorem te_cl : ¬ Body.clName = Body.teName := fun h => by have := congrArg ByteArray.size h; revert this; decide
theorem bare_plain {l : List Fld} (h : plain l = true) : bare l = l := by
  obtain ⟨h1, h2, _, _⟩ := plain_parts h
  unfold bare
  rw [drop_none h1, drop_none h2]
theorem framed_plain {l : List Fld} (h : plain l = true) (b : ByteArray) : framed l b = l ++ [(Body.clName, decB b.size)] := by unfold framed; rw [bare_plain h]
theorem bare_framed {l : List Fld} (h : plain l = true) (b : ByteArray) : bare (framed l b) = l := by
  obtain ⟨h1, h2, _, _⟩ := plain_parts h
  rw [framed_plain h]
  unfold bare
  rw [Flds.drop_snoc, if_neg te_cl, Flds.drop_snoc, if_pos rfl, drop_none h1, drop_none h2, List.append_nil]
set_option maxRecDepth 100000 in
theorem dec_small (n : Nat) (h : n ≤ 60) : Flds.okF (Body.clName, decB (n : Int)) = true ∧ Sign.secs (decB (n : Int)) = ((n : Int), true) := by
  have key : ∀ n : Nat, n < 61 → Flds.okF (Body.clName, decB (n : Int)) = true ∧ Sign.secs (decB (n : Int)) = ((n : Int), true) := by decide +kernel
  exact key n (by omega)
theorem ok_framed {l : List Fld} (h : plain l = true) (b : ByteArray) (hb : b.size ≤ 60) : Flds.ok (framed l b) = true := by
  obtain ⟨_, _, h3, h4⟩ := plain_parts h
  rw [framed_plain h]
  unfold Flds.ok at h4 ⊢
  rw [Bool.and_eq_true] at h4
  rw [List.all_append, h4.1, Bool.true_and, Bool.and_eq_true]
  refine ⟨?_, decide_eq_true (by rw [List.length_append, List.length_singleton]; omega)⟩
  rw [List.all_cons, List.all_nil, Bool.and_true]
  exact (dec_small b.size hb).1
theorem get_framed {l : List Fld} (h : plain l = true) (b : ByteArray) : Flds.get (framed l b) Body.teName = (⟨#[]⟩, false) ∧ Flds.get (framed l b) Body.clName = (decB b.size, true) := by
  obtain ⟨h1, h2, _, _⟩ := plain_parts h
  rw [framed_plain h, Flds.get_snoc, Flds.get_snoc, Flds.get_none l _ h1, Flds.get_none l _ h2]
  unfold Flds.getStep
  rw [if_neg te_cl, if_pos rfl, if_neg (by simp), Flds.empty_app]
  exact ⟨rfl, rfl⟩
theorem body_framed {l : List Fld} (h : plain l = true) (b : ByteArray) (hb : b.size ≤ 60) (s : ByteArray) (c : Bool) : Body.bodyOf (framed l b) s c = if s.size < b.size then Body.more else (s.extract 0 b.size, (b.size : Int), 0) := by
  obtain ⟨g1, g2⟩ := get_framed h b
  unfold Body.bodyOf Body.bodyBy
  rw [g1, g2]
  simp only [(dec_small b.size hb).2]
  rw [if_neg (by decide), if_pos trivial, if_neg (by simp; omega)]
  by_cases hs : s.size < b.size
  · rw [if_pos (by omega), if_pos hs]
  · rw [if_neg (by omega), if_neg hs]; rfl
/-- a field's line -/
def fline (f : Fld) : List UInt8 := f.1.data.toList ++ 58 :: 32 :: f.2.data.toList
theorem enc_fline (f : Fld) : enc f = fline f ++ [13, 10] := by unfold enc fline; simp
theorem lines_map (L : List Fld) : lines (L.map fline) = L.flatMap enc ++ [13, 10] := by
  unfold lines
  congr 1
  induction L with
  | nil => rfl
  | cons f L ih => rw [List.map_cons, List.flatMap_cons, List.flatMap_cons, ih, enc_fline]
theorem shown_list {L : List Fld} (h : Flds.ok L = true) : (Flds.shown L).data.toList = lines (L.map fline) := by
  rw [lines_map]
  unfold Flds.shown
  rw [if_pos h, ← Flds.showGo_list]
  simp
theorem fline_none {L : List Fld} (h : Flds.ok L = true) : ∀ t ∈ L.map fline, t ≠ [] ∧ ∀ b ∈ t, ¬ b = 13 := by
  intro t ht
  obtain ⟨f, hf, rfl⟩ := List.mem_map.1 ht
  unfold Flds.ok at h
  rw [Bool.and_eq_true] at h
  have h1 := List.all_eq_true.1 h.1 f hf
  unfold Flds.okF at h1
  simp only [Bool.and_eq_true, decide_eq_true_iff] at h1
  obtain ⟨⟨⟨⟨h1, h2⟩, h3⟩, h4⟩, h5⟩ := h1
  refine ⟨by unfold fline; simp, ?_⟩
  intro b hb
  unfold fline at hb
  rcases List.mem_append.1 hb with h6 | h6
  · exact (tok_none h1 b h6).2
  · rcases List.mem_cons.1 h6 with rfl | h7
    · decide
    · rcases List.mem_cons.1 h7 with rfl | h8
      · decide
      · exact (Flds.val_no h4).1 b h8
theorem lines_end : ∀ (X : List (List UInt8)), X ≠ [] → ∃ p, lines X = p ++ [13, 10, 13, 10] := by
  intro X
  induction X with
  | nil => intro h; exact absurd rfl h
  | cons t X ih =>
    intro _
    rw [lines_cons]
    cases X with
    | nil => exact ⟨t, rfl⟩
    | cons t2 X2 =>
      obtain ⟨p, hp⟩ := ih (by simp)
      exact ⟨t ++ 13 :: 10 :: p, by rw [hp]; simp⟩
/-- what is found in a text of a first line, lines of fields and what stands behind -/
structure Head (T : ByteArray) (t : List UInt8) (L : List Fld) (q : List UInt8) : Prop where
  whole : whole T = true
  eol : eol T 0 = some t.length
  line : T.extract 0 t.length = ⟨t.toArray⟩
  read : Flds.read (T.extract (t.length + 2) T.size) = some (L, (Flds.shown L).size)
  rest : T.extract (t.length + 2 + (Flds.shown L).size) T.size = ⟨q.toArray⟩
theorem head_of (T : ByteArray) (t : List UInt8) (L : List Fld) (q : List UInt8) (hT : T.data.toList = lines (t :: L.map fline) ++ q) (ht : ∀ b ∈ t, ¬ b = 13) (hL : Flds.ok L = true) : Head T t L q := by
  have hT2 : T.data.toList = t ++ 13 :: 10 :: (lines (L.map fline) ++ q) := by rw [hT, lines_cons]; simp
  have hsl := shown_list hL
  have hss : (Flds.shown L).size = (lines (L.map fline)).length := by rw [size_of, hsl]
  obtain ⟨e1, e2⟩ := Line.eol_line T [] t (lines (L.map fline) ++ q) (by simpa using hT2) ht
  simp only [List.length_nil, Nat.zero_add] at e1 e2
  have e3 := extract_rest T (t ++ [13, 10]) (lines (L.map fline) ++ q) (by rw [hT2]; simp)
  have e4 := extract_rest T (t ++ 13 :: 10 :: lines (L.map fline)) q (by rw [hT2]; simp)
  simp only [List.length_append, List.length_cons, List.length_nil] at e3 e4
  have e5 : (⟨(lines (L.map fline) ++ q).toArray⟩ : ByteArray) = Flds.shown L ++ ⟨q.toArray⟩ := bytes_ext (by simp [hsl])
  refine ⟨?_, e1, e2, ?_, ?_⟩
  · obtain ⟨p, hp⟩ := lines_end (t :: L.map fline) (by simp)
    exact whole_of T p q (by rw [hT, hp]; simp)
  · rw [show t.length + 2 = t.length + (0 + 1 + 1) by omega, e3, e5]
    exact Flds.read_shown L _ hL
  · rw [hss, show t.length + 2 + (lines (L.map fline)).length = t.length + ((lines (L.map fline)).length + 1 + 1) by omega, e4]
theorem head_cut (T : ByteArray) (t : List UInt8) (L : List Fld) (K : Nat) (hK : K < (lines (t :: L.map fline)).length) (hT : T.data.toList = (lines (t :: L.map fline)).take K) (h0 : t ≠ []) (ht : ∀ b ∈ t, ¬ b = 13) (hL : Flds.ok L = true) : whole T = false := by
  cases hw : whole T with
  | false => rfl
  | true =>
    exfalso
    obtain ⟨p, q, hpq⟩ := whole_at hw
    have hne : (lines (t :: L.map fline)).drop K ≠ [] := fun h => by
      have := congrArg List.length h
      rw [List.length_drop, List.length_nil] at this
      omega
    have he : lines (t :: L.map fline) = p ++ 13 :: 10 :: 13 :: 10 :: (q ++ (lines (t :: L.map fline)).drop K) := by
      conv => lhs; rw [← List.take_append_drop K (lines (t :: L.map fline)), ← hT, hpq]
      simp
    have := gap_last (t :: L.map fline) p _ (by simp) (fun x hx => by
      rcases List.mem_cons.1 hx with rfl | h
      · exact ⟨h0, ht⟩
      · exact fline_none hL x h) he
    exact hne (List.append_eq_nil_iff.1 this).2
end Msg
end Go.Proofs.YtkenmilglfnmbaaGreatDoor
namespace Go.Proofs.YtkenmilglfnmbaaGreatDoor
open Go.RowKit
set_option linter.unusedVariables false
namespace Msg
open Line (byteAt byteAt_eq eol)
open Flds (Fld enc)

/-- a request's first line -/
def rline (m u : ByteArray) : List UInt8 := m.data.toList ++ 32 :: (u.data.toList ++ 32 :: ver.data.toList)
theorem req_parts {m u : ByteArray} {l : List Fld} {b : ByteArray} (h : reqOk m u l b = true) : Sign.isTok m = true ∧ m.size ≤ 10 ∧ uriOk u = true ∧ plain l = true ∧ b.size ≤ 60 := by
  unfold reqOk at h
  simp only [Bool.and_eq_true, decide_eq_true_iff] at h
  exact ⟨h.1.1.1.1, h.1.1.1.2, h.1.1.2, h.1.2, h.2⟩
theorem req_mk {m u : ByteArray} {l : List Fld} {b : ByteArray} (h1 : Sign.isTok m = true) (h2 : m.size ≤ 10) (h3 : uriOk u = true) (h4 : plain l = true) (h5 : b.size ≤ 60) : reqOk m u l b = true := by
  unfold reqOk
  rw [h1, h3, h4, decide_eq_true h2, decide_eq_true h5]; rfl
theorem rline_none {m u : ByteArray} {l : List Fld} {b : ByteArray} (h : reqOk m u l b = true) : rline m u ≠ [] ∧ ∀ c ∈ rline m u, ¬ c = 13 := by
  obtain ⟨h1, _, h3, _, _⟩ := req_parts h
  refine ⟨by unfold rline; simp, ?_⟩
  intro c hc
  unfold rline at hc
  rcases List.mem_append.1 hc with h6 | h6
  · exact (tok_none h1 c h6).2
  · rcases List.mem_cons.1 h6 with rfl | h7
    · decide
    · rcases List.mem_append.1 h7 with h8 | h8
      · exact (uri_none h3 c h8).2
      · have : ∀ x ∈ 32 :: ver.data.toList, ¬ x = 13 := by decide
        exact this c h8
theorem req_list {m u : ByteArray} {l : List Fld} {b : ByteArray} (h : reqOk m u l b = true) : (reqText m u l b).data.toList = lines (rline m u :: (framed l b).map fline) ++ b.data.toList := by
  obtain ⟨h1, _, h3, h4, h5⟩ := req_parts h
  unfold reqText
  rw [lines_cons, ← shown_list (ok_framed h4 b h5)]
  unfold rline
  have hv : ver.data.toList = [72, 84, 84, 80, 47, 49, 46, 49] := rfl
  rw [hv]
  simp
theorem req_words {m u : ByteArray} {l : List Fld} {b : ByteArray} (h : reqOk m u l b = true) : words ⟨(rline m u).toArray⟩ = (m, u, ver) := by
  obtain ⟨h1, _, h3, _, _⟩ := req_parts h
  rw [words_list ⟨(rline m u).toArray⟩ m.data.toList u.data.toList ver.data.toList (by unfold rline; simp) (fun c hc => (tok_none h1 c hc).1) (fun c hc => (uri_none h3 c hc).1), list_back, list_back, list_back]
/-- what is read off a text of the right form -/
theorem read_head {T : ByteArray} {m u : ByteArray} {l : List Fld} {b : ByteArray} {q : List UInt8} (h : reqOk m u l b = true) (hd : Head T (rline m u) (framed l b) q) :
    readReq T = if q.length < b.size then noRq 1 else ((m, u, l, (⟨q.toArray⟩ : ByteArray).extract 0 b.size), (((rline m u).length + 2 + (Flds.shown (framed l b)).size : Nat) : Int) + b.size, 0) := by
  obtain ⟨h1, h2, h3, h4, h5⟩ := req_parts h
  unfold readReq
  rw [hd.whole, if_neg (by decide), hd.eol]
  simp only
  rw [hd.read]
  simp only
  rw [hd.line, req_words h, bare_framed h4, if_pos ⟨rfl, req_mk h1 h2 h3 h4 (by decide)⟩, hd.rest, body_framed h4 b h5]
  have hz : (⟨q.toArray⟩ : ByteArray).size = q.length := by rw [size_of]
  rw [hz]
  by_cases hq : q.length < b.size
  · rw [if_pos hq, if_pos hq] <;> rfl
  · rw [if_neg hq, if_neg hq] <;> rfl
/-- a request is read from its text, whatever stands behind -/
theorem read_req {m u : ByteArray} {l : List Fld} {b : ByteArray} (h : reqOk m u l b = true) (more : ByteArray) : readReq (reqText m u l b ++ more) = ((m, u, l, b), ((reqText m u l b).size : Int), 0) := by
  have h4 := (req_parts h).2.2.2.1
  have h5 := (req_parts h).2.2.2.2
  have hd := head_of (reqText m u l b ++ more) (rline m u) (framed l b) (b.data.toList ++ more.data.toList) (by rw [ByteArray.data_append, Array.toList_append, req_list h]; simp) (rline_none h).2 (ok_framed h4 b h5)
  rw [read_head h hd, if_neg (by rw [List.length_append, ← size_of]; omega)]
  have e1 : (⟨(b.data.toList ++ more.data.toList).toArray⟩ : ByteArray).extract 0 b.size = b := by
    have := extract_list ⟨(b.data.toList ++ more.data.toList).toArray⟩ [] b.data.toList more.data.toList (by simp)
    simp only [List.length_nil, Nat.zero_add] at this
    rw [size_of b, this, list_back]
  have e2 : (reqText m u l b).size = (rline m u).length + 2 + (Flds.shown (framed l b)).size + b.size := by
    rw [size_of, req_list h, lines_cons, size_of (Flds.shown (framed l b)), shown_list (ok_framed h4 b h5), size_of b]
    simp only [List.length_append, List.length_cons]
    omega
  rw [e1, e2]
  congr 2
/-- how long a request's text is at most -/
theorem enc_len {f : Fld} (h : Flds.okF f = true) : (enc f).length ≤ 88 := by
  unfold Flds.okF at h
  simp only [Bool.and_eq_true, decide_eq_true_iff] at h
  have h1 := h.1.1.2
  have h2 := h.2
  unfold enc
  simp only [List.length_append, List.length_cons, List.length_nil, ← size_of]
  omega
theorem flat_len : ∀ (L : List Fld), L.all Flds.okF = true → (L.flatMap enc).length ≤ 88 * L.length := by
  intro L
  induction L with
  | nil => intro _; simp
  | cons f L ih =>
    intro h
    rw [List.all_cons, Bool.and_eq_true] at h
    have h1 := enc_len h.1
    have h2 := ih h.2
    rw [List.flatMap_cons, List.length_append, List.length_cons]
    omega
theorem lines_len {L : List Fld} (h : Flds.ok L = true) : (lines (L.map fline)).length ≤ 1058 := by
  unfold Flds.ok at h
  rw [Bool.and_eq_true, decide_eq_true_iff] at h
  have := flat_len L h.1
  have h2 := h.2
  rw [lines_map, List.length_append]
  simp only [List.length_cons, List.length_nil]
  omega
theorem rline_len {m u : ByteArray} {l : List Fld} {b : ByteArray} (h : reqOk m u l b = true) : (rline m u).length ≤ 40 := by
  obtain ⟨_, h2, h3, _, _⟩ := req_parts h
  unfold uriOk at h3
  simp only [Bool.and_eq_true, decide_eq_true_iff] at h3
  have h4 := h3.1.2
  unfold rline
  have hv : ver.data.toList.length = 8 := rfl
  simp only [List.length_append, List.length_cons, hv, ← size_of]
  omega
/-- of a beginning more is wanted -/
theorem read_cut {m u : ByteArray} {l : List Fld} {b : ByteArray} (h : reqOk m u l b = true) (K : Nat) (hK : K < (reqText m u l b).size) : readReq ((reqText m u l b).extract 0 K) = noRq 1 := by
  have h4 := (req_parts h).2.2.2.1
  have h5 := (req_parts h).2.2.2.2
  have hok := ok_framed h4 b h5
  have hl : ((reqText m u l b).extract 0 K).data.toList = (lines (rline m u :: (framed l b).map fline) ++ b.data.toList).take K := by
    rw [ByteArray.data_extract, Array.toList_extract, List.extract_eq_drop_take', List.drop_zero, req_list h]
  have hsz : (reqText m u l b).size = (lines (rline m u :: (framed l b).map fline)).length + b.size := by rw [size_of, req_list h, List.length_append, ← size_of b]
  have hx : ((reqText m u l b).extract 0 K).size = K := by rw [ByteArray.size_extract]; omega
  by_cases hc : K < (lines (rline m u :: (framed l b).map fline)).length
  · have hw := head_cut _ (rline m u) (framed l b) K hc (by rw [hl, List.take_append_of_le_length (by omega)]) (rline_none h).1 (rline_none h).2 hok
    have hlen := lines_len hok
    have hrl := rline_len h
    rw [lines_cons] at hc
    simp only [List.length_append, List.length_cons] at hc
    unfold readReq
    rw [hw, if_pos rfl, hx, if_neg (by omega)]
  · have hd := head_of ((reqText m u l b).extract 0 K) (rline m u) (framed l b) (b.data.toList.take (K - (lines (rline m u :: (framed l b).map fline)).length)) (by rw [hl, List.take_append, List.take_of_length_le (by omega)]) (rline_none h).2 hok
    rw [read_head h hd, if_pos]
    rw [List.length_take, ← size_of]
    omega
/-- what is read of a body is small, and lies in the text -/
theorem unF_in (s : ByteArray) : ∀ (f a : Nat) (out : ByteArray) (r : Body.Told), out.size ≤ 60 → Body.unF s f a out = r → r.2.2 = 0 → r.1.size ≤ 60 ∧ 0 ≤ r.2.1 ∧ r.2.1 ≤ s.size := by
  intro f
  induction f with
  | zero => intro a out r _ h h0; unfold Body.unF at h; subst h; exact absurd h0 (by decide)
  | succ f ih =>
    intro a out r ho h h0
    unfold Body.unF at h
    split at h
    · split at h
      · subst h; exact absurd h0 (by decide)
      · subst h; exact absurd h0 (by decide)
    · split at h
      · subst h; exact absurd h0 (by decide)
      · next n hn =>
        split at h
        · subst h; exact absurd h0 (by decide)
        · next hg =>
          split at h
          · subst h; exact absurd h0 (by decide)
          · next hs =>
            split at h
            · split at h
              · subst h
                simp only
                rw [ByteArray.size_append, ByteArray.size_extract]
                omega
              · exact ih _ _ r (by rw [ByteArray.size_append, ByteArray.size_extract]; omega) h h0
            · subst h; exact absurd h0 (by decide)
theorem body_in (l : List Fld) (s : ByteArray) (c : Bool) (h : (Body.bodyOf l s c).2.2 = 0) : (Body.bodyOf l s c).1.size ≤ 60 ∧ 0 ≤ (Body.bodyOf l s c).2.1 ∧ (Body.bodyOf l s c).2.1 ≤ s.size := by
  obtain ⟨r, hr⟩ : ∃ r, Body.bodyOf l s c = r := ⟨_, rfl⟩
  rw [hr] at h ⊢
  unfold Body.bodyOf Body.bodyBy at hr
  have hs := Body.secs_bd (Flds.get l Body.clName).1
  split at hr
  · split at hr
    · exact unF_in s _ _ _ r (by decide) hr h
    · subst hr; exact absurd h (by decide)
  · split at hr
    · split at hr
      · subst hr; exact absurd h (by decide)
      · next hg =>
        split at hr
        · subst hr; exact absurd h (by decide)
        · subst hr
          simp only [not_or] at hg
          simp only
          rw [ByteArray.size_extract]
          omega
    · split at hr
      · split at hr
        · subst hr; exact absurd h (by decide)
        · subst hr; simp only; omega
      · subst hr; exact ⟨by decide, by decide, by simp⟩
theorem readGo_in (s : ByteArray) : ∀ (f a : Nat) (l : List Fld) (p : List Fld × Nat), Flds.readGo s f a l = some p → p.2 ≤ s.size := by
  intro f
  induction f with
  | zero => intro a l p h; cases h
  | succ f ih =>
    intro a l p h
    unfold Flds.readGo at h
    split at h
    · cases h
    · next i hi =>
      have hin := Line.eol_in hi
      split at h
      · next e => cases h; simp only; omega
      · split at h
        · cases h
        · split at h
          · exact ih _ _ p h
          · cases h
/-- what is read is right, and lies in the text -/
theorem read_right {s : ByteArray} (h : (readReq s).2.2 = 0) : reqOk (readReq s).1.1 (readReq s).1.2.1 (readReq s).1.2.2.1 (readReq s).1.2.2.2 = true ∧ 0 < (readReq s).2.1 ∧ (readReq s).2.1 ≤ s.size := by
  obtain ⟨r, hr⟩ : ∃ r, readReq s = r := ⟨_, rfl⟩
  rw [hr] at h ⊢
  unfold readReq at hr
  split at hr
  · subst hr
    exfalso
    revert h
    show ¬ (if 1500 < s.size then (2 : Int) else 1) = 0
    split <;> decide
  · split at hr
    · subst hr; exact absurd h (by decide)
    · next k hk =>
      split at hr
      · subst hr; exact absurd h (by decide)
      · next l n hln =>
        split at hr
        · next hq =>
          split at hr
          · next hb =>
            subst hr
            obtain ⟨g1, g2, g3⟩ := body_in l _ false hb
            obtain ⟨q1, q2, q3, q4, _⟩ := req_parts hq.2
            refine ⟨req_mk q1 q2 q3 q4 g1, ?_, ?_⟩
            · simp only; omega
            · simp only
              rw [ByteArray.size_extract] at g3
              have hin := Line.eol_in hk
              have hn := readGo_in _ _ _ _ _ (show Flds.readGo (s.extract (k + 2) s.size) 13 0 [] = some (l, n) from hln)
              rw [ByteArray.size_extract] at hn
              simp only at hn
              omega
          · next hb =>
            subst hr
            exfalso
            revert h
            show ¬ codeOf _ = 0
            unfold codeOf
            rw [if_neg hb]
            split <;> decide
        · subst hr; exact absurd h (by decide)
end Msg
end Go.Proofs.YtkenmilglfnmbaaGreatDoor
namespace Go.Proofs.YtkenmilglfnmbaaGreatDoor
open Go.RowKit
set_option linter.unusedVariables false
namespace Msg
open Flds (Fld)

theorem bulk_drop (l : List Flds.Fld) (n : ByteArray) : Flds.bulk (Flds.drop l n) ≤ Flds.bulk l := by
  unfold Flds.bulk Flds.drop
  induction l with
  | nil => simp
  | cons f l ih =>
    rw [List.filter_cons]
    split
    · simp only [List.length_cons, List.map_cons, List.sum_cons]; omega
    · simp only [List.length_cons, List.map_cons, List.sum_cons]; omega
theorem bare_bulk (l : List Flds.Fld) : Flds.bulk (bare l) ≤ Flds.bulk l := Nat.le_trans (bulk_drop _ _) (bulk_drop _ _)
theorem drop_swap (l : List Fld) (a b : ByteArray) : Flds.drop (Flds.drop l a) b = Flds.drop (Flds.drop l b) a := by
  unfold Flds.drop
  rw [List.filter_filter, List.filter_filter]
  congr 1
  funext f
  exact Bool.and_comm _ _
/-- the program drops the two names the other way round -/
theorem bare_two (l : List Fld) : Flds.drop (Flds.drop l Body.clName) Body.teName = bare l := drop_swap l _ _
theorem drop_mem {l : List Fld} {n : ByteArray} {f : Fld} (h : f ∈ Flds.drop l n) : f ∈ l ∧ ¬ f.1 = n := by
  unfold Flds.drop at h
  rw [List.mem_filter] at h
  exact ⟨h.1, of_decide_eq_true h.2⟩
theorem get_no {l : List Fld} {n : ByteArray} (h : ∀ f ∈ l, ¬ f.1 = n) : (Flds.get l n).2 = false := by rw [Flds.get_none l n h]
/-- a list that stays as it is when both are dropped has neither -/
theorem own_plain (l : List Fld) : (decide (l.length < 12) && Flds.ok l && decide (l = bare l)) = plain l := by
  unfold plain
  by_cases h : l = bare l
  · have hin : ∀ f ∈ l, f ∈ bare l := fun f hf => by rw [← h]; exact hf
    have h1 : ∀ f ∈ l, ¬ f.1 = Body.clName := fun f hf => (drop_mem (l := Flds.drop l Body.teName) (hin f hf)).2
    have h2 : ∀ f ∈ l, ¬ f.1 = Body.teName := fun f hf => (drop_mem (drop_mem (l := Flds.drop l Body.teName) (hin f hf)).1).2
    rw [get_no h1, get_no h2, decide_eq_true h, Bool.and_true]
    rfl
  · rw [decide_eq_false h, Bool.and_false]
    symm
    cases ha : (Flds.get l Body.teName).2 with
    | true => rfl
    | false =>
      cases hb : (Flds.get l Body.clName).2 with
      | true => rfl
      | false =>
        exfalso
        apply h
        unfold bare
        rw [drop_none (no_name ha), drop_none (no_name hb)]
theorem setGo_none (l : List Fld) (n v : ByteArray) (h : ∀ f ∈ l, ¬ f.1 = n) : Flds.setGo l n v = (l, false) := by
  have key : ∀ (l : List Fld) (r : List Fld × Bool), (∀ f ∈ l, ¬ f.1 = n) → l.foldl (Flds.setStep n v) r = (r.1 ++ l, r.2) := by
    intro l
    induction l with
    | nil => intro r _; simp
    | cons f l ih =>
      intro r hl
      rw [List.foldl_cons, ih _ (fun g hg => hl g (List.mem_cons_of_mem _ hg))]
      have : Flds.setStep n v r f = (r.1 ++ [f], r.2) := by unfold Flds.setStep; rw [if_neg (hl f (List.mem_cons_self ..))]
      rw [this]
      simp
  unfold Flds.setGo
  rw [key l _ h]
  simp
theorem set_plain {l : List Fld} (h : plain l = true) (b : ByteArray) : Flds.set l Body.clName (decB b.size) = framed l b := by
  rw [framed_plain h]
  unfold Flds.set
  rw [setGo_none l _ _ (plain_parts h).2.1]
  rfl
end Msg
end Go.Proofs.YtkenmilglfnmbaaGreatDoor
namespace Go.Proofs.YtkenmilglfnmbaaGreatDoor
open Go.RowKit
set_option linter.unusedVariables false
namespace Msg
open Line (byteAt byteAt_eq)

set_option maxRecDepth 100000 in
set_option maxHeartbeats 2000000 in
theorem words_spec (s : ByteArray) (w : World) (hs : s.size ≤ 1152921504606846976) : Calls Tryz.prog 73 #[.string s] w fun e w' => e = .returned (.tuple #[.string (words s).1, .string (words s).2.1, .string (words s).2.2]) ∧ Below w.heap.size w w' := by
  obtain ⟨r, hr⟩ : ∃ r, words s = r := ⟨_, rfl⟩
  rw [hr]
  have HR := Num.hide hr
  clear hr
  go_enter Tryz.func73, Tryz.ntmps73
  go_wp2
  go_loop [5, 6, 7] (fun av bv iv => ∃ (i : Nat) (a b : Int), i ≤ s.size ∧ av = .int .i64 a ∧ bv = .int .i64 b ∧ iv = .int .i64 (i : Int) ∧ Hid (WdAt s i a b)) (fun _ _ iv => s.size - (intOf iv).toNat)
  case atStart => exact ⟨0, -1, -1, by omega, rfl, rfl, rfl, wd_start s⟩
  case round =>
    obtain ⟨i, a, b, hi, rfl, rfl, rfl, HW⟩ := hrel
    have hbd := wd_bd HW.out hi
    by_cases hlt : i < s.size
    · have hc := s[i].toNat_lt
      by_cases h32 : (s[i].toNat : Int) = 32
      · have e32 : ((s[i].toNat : Int) == 32) = true := by rw [beq_iff_eq]; exact h32
        have n32 : s[i].toNat = 32 := by omega
        by_cases ha : a < 0
        · have da : decide (a < 0) = true := decide_eq_true ha
          have HW2 := Num.hide (wd_first HW.out hlt n32 ha)
          clear HW h32 n32
          go_wp2
          go_round
          case rel => exact ⟨i + 1, _, _, by omega, rfl, rfl, by go_num, HW2⟩
          case measure => simp [intOf]; omega
        · have da : decide (a < 0) = false := decide_eq_false ha
          by_cases hb : b < 0
          · have db : decide (b < 0) = true := decide_eq_true hb
            have HW2 := Num.hide (wd_second HW.out hlt n32 ha hb)
            clear HW h32 n32
            go_wp2
            go_round
            case rel => exact ⟨i + 1, _, _, by omega, rfl, rfl, by go_num, HW2⟩
            case measure => simp [intOf]; omega
          · have db : decide (b < 0) = false := decide_eq_false hb
            have HW2 := Num.hide (wd_third HW.out ha hb)
            clear HW h32 n32
            go_wp2
            go_round
            case rel => exact ⟨i + 1, _, _, by omega, rfl, rfl, by go_num, HW2⟩
            case measure => simp [intOf]; omega
      · have e32 : ((s[i].toNat : Int) == 32) = false := by rw [beq_eq_false_iff_ne]; exact h32
        have HW2 := Num.hide (wd_no HW.out hlt (fun h => h32 (by omega)))
        clear HW h32
        go_wp2
        go_round
        case rel => exact ⟨i + 1, _, _, by omega, rfl, rfl, by go_num, HW2⟩
        case measure => simp [intOf]; omega
    · obtain rfl : i = s.size := by omega
      by_cases hb : b < 0
      · have hr := HR.out
        rw [wd_none HW.out hb] at hr
        subst hr
        clear HW HR
        go_wp2
        go_ret3
        exact ⟨rfl, Below.refl _ _⟩
      · obtain ⟨A, B, rfl, rfl, hAB, hBs, hw⟩ := wd_done HW.out hb
        have hr := HR.out
        rw [hw] at hr
        subst hr
        have db : decide ((B : Int) < 0) = false := decide_eq_false hb
        have k1 : (A : Int) ≤ (s.size : Int) := by omega
        have k2 : (A : Int) + 1 ≤ (B : Int) := by omega
        have k3 : (B : Int) ≤ (s.size : Int) := by omega
        have k4 : (B : Int) + 1 ≤ (s.size : Int) := by omega
        clear HW HR hw
        go_wp2
        go_quiet (fail)
        go_wp2
        go_ret3
        exact ⟨rfl, Recs.below_drewN (Below.refl _ _) _⟩
theorem whole_step (s : ByteArray) (i : Nat) (h : i + 3 < s.size) : wholeF s (s.size - 3 - i) i = if s.extract i (i + 4) = gap then true else wholeF s (s.size - 3 - (i + 1)) (i + 1) := by
  rw [show s.size - 3 - i = (s.size - 3 - (i + 1)) + 1 by omega]; rfl
set_option maxRecDepth 100000 in
set_option maxHeartbeats 1000000 in
theorem whole_spec (s : ByteArray) (w : World) (hs : s.size ≤ 1152921504606846976) : Calls Tryz.prog 71 #[.string s] w fun e w' => e = .returned (.bool (whole s)) ∧ w = w' := by
  obtain ⟨r, hr⟩ : ∃ r, whole s = r := ⟨_, rfl⟩
  rw [hr]
  have HR : Hid (wholeF s (s.size - 3 - 0) 0 = r) := hr
  clear hr
  go_enter Tryz.func71, Tryz.ntmps71
  go_wp2
  go_loop [3] (fun iv => ∃ i : Nat, i ≤ s.size ∧ iv = .int .i64 (i : Int) ∧ Hid (wholeF s (s.size - 3 - i) i = r)) (fun iv => s.size - (intOf iv).toNat)
  case atStart => exact ⟨0, by omega, rfl, HR⟩
  case round =>
    clear HR
    obtain ⟨i, hi, rfl, HR⟩ := hrel
    by_cases hlt : (i : Int) + 3 < (s.size : Int)
    · have he := HR.out
      rw [whole_step s i (by omega)] at he
      have k1 : (i : Int) + 4 ≤ (s.size : Int) := by omega
      have k2 : (i : Int) ≤ (i : Int) + 4 := by omega
      have hx := run_slice_string (P := Tryz.prog) w 9 s .i64 .i64 (i : Int) ((i : Int) + 4) Tryz.underlying9 (by omega) k2 k1
      rw [show ((i : Int)).toNat = i by omega, show ((i : Int) + 4).toNat = i + 4 by omega] at hx
      clear HR
      by_cases hg : s.extract i (i + 4) = gap
      · rw [if_pos hg] at he
        subst he
        rw [hg] at hx
        unfold gap at hx
        go_wp2
        go_ret
        exact ⟨rfl, rfl⟩
      · rw [if_neg hg] at he
        have HE := Num.hide he
        have hq : ((s.extract i (i + 4)).toList == [13, 10, 13, 10]) = false := by
          rw [beq_eq_false_iff_ne, ByteArray.toList_eq]
          intro e; exact hg (ByteArray.ext (Array.toList_inj.1 (by rw [e]; rfl)))
        clear he hg
        generalize s.extract i (i + 4) = t at hx hq
        go_wp2
        go_round
        case rel => exact ⟨i + 1, by omega, by go_num, HE⟩
        case measure => simp [intOf]; omega
    · have he := HR.out
      rw [show s.size - 3 - i = 0 by omega] at he
      have hf : false = r := he
      subst hf
      clear HR he
      go_wp2
      go_ret
      exact ⟨rfl, rfl⟩
end Msg
end Go.Proofs.YtkenmilglfnmbaaGreatDoor
namespace Go.Proofs.YtkenmilglfnmbaaGreatDoor
open Go.RowKit
set_option linter.unusedVariables false
namespace Line

set_option maxRecDepth 100000 in
set_option maxHeartbeats 1000000 in
theorem line_spec (s : ByteArray) (a : Nat) (w : World) (hs : s.size ≤ 1152921504606846976) (ha : a ≤ s.size) : Calls Tryz.prog 72 #[.string s, .int .i64 a] w fun e w' => e = .returned (.tuple #[.string (lineOf s a).1, .int .i64 (lineOf s a).2]) ∧ w = w' := by
  obtain ⟨r, hr⟩ : ∃ r, lineOf s a = r := ⟨_, rfl⟩
  rw [hr]
  unfold lineOf at hr
  have HR := Num.hide hr
  clear hr
  go_enter Tryz.func72, Tryz.ntmps72
  go_wp2
  go_loop [6] (fun iv => ∃ i : Nat, a ≤ i ∧ i ≤ s.size ∧ iv = .int .i64 (i : Int) ∧ Hid (eol s a = eol s i)) (fun iv => s.size - (intOf iv).toNat)
  case atStart => exact ⟨a, Nat.le_refl _, ha, rfl, rfl⟩
  case round =>
    obtain ⟨i, hai, hi, rfl, HE⟩ := hrel
    by_cases hlt : i + 1 < s.size
    · have hlt' : ((i : Int) + 1) < s.size := by omega
      have hi2 : i < s.size := by omega
      by_cases h13 : (s[i]).toNat = 13
      · have d13 : (((s[i]).toNat : Int) == 13) = true := by rw [beq_iff_eq]; omega
        by_cases h10 : (s[i + 1]).toNat = 10
        · have d10 : (((s[i + 1]).toNat : Int) == 10) = true := by rw [beq_iff_eq]; omega
          have hr := HR.out
          rw [HE.out, eol_hit s i hlt h13 h10] at hr
          subst hr
          clear h13 h10 HR
          go_wp2
          all_goals go_ret2
          all_goals exact ⟨rfl, rfl⟩
        · have d10 : (((s[i + 1]).toNat : Int) == 10) = false := by rw [beq_eq_false_iff_ne]; omega
          have HE2 : Hid (eol s a = eol s (i + 1)) := by show _ = _; rw [HE.out, eol_next s i hlt (fun h => h10 h.2)]
          clear h13 h10
          go_wp2
          go_round
          case rel => exact ⟨i + 1, by omega, by omega, by go_num, HE2⟩
          case measure => simp [intOf]; omega
      · have d13 : (((s[i]).toNat : Int) == 13) = false := by rw [beq_eq_false_iff_ne]; omega
        have HE2 : Hid (eol s a = eol s (i + 1)) := by show _ = _; rw [HE.out, eol_next s i hlt (fun h => h13 h.1)]
        clear h13
        go_wp2
        go_round
        case rel => exact ⟨i + 1, by omega, by omega, by go_num, HE2⟩
        case measure => simp [intOf]; omega
    · have hr := HR.out
      rw [HE.out, eol_end s i (by omega)] at hr
      subst hr
      clear HR
      go_wp2
      go_ret2
      exact ⟨rfl, rfl⟩
end Line
end Go.Proofs.YtkenmilglfnmbaaGreatDoor
namespace Go.Proofs.YtkenmilglfnmbaaGreatDoor
open Go.RowKit
set_option linter.unusedVariables false
namespace Line

set_option maxRecDepth 100000 in
set_option maxHeartbeats 1000000 in
theorem colon_spec (s : ByteArray) (w : World) (hs : s.size ≤ maxLen) : Calls Tryz.prog 121 #[.string s] w fun e w' => e = .returned (.int .i64 (colonOf s)) ∧ w = w' := by
  unfold maxLen at hs
  obtain ⟨r, hr⟩ : ∃ r, colonOf s = r := ⟨_, rfl⟩
  rw [hr]
  unfold colonOf at hr
  have HR := Num.hide hr
  clear hr
  go_enter Tryz.func121, Tryz.ntmps121
  go_wp2
  go_loop [3] (fun iv => ∃ i : Nat, i ≤ s.size ∧ iv = .int .i64 (i : Int) ∧ Hid (colon s = colonGo s (s.size - i) i)) (fun iv => s.size - (intOf iv).toNat)
  case atStart => exact ⟨0, Nat.zero_le _, rfl, rfl⟩
  case round =>
    obtain ⟨i, hi, rfl, HE⟩ := hrel
    by_cases hlt : i < s.size
    · obtain ⟨n, hn⟩ : ∃ n, s.size - i = n + 1 := ⟨s.size - i - 1, by omega⟩
      have he := HE.out
      rw [hn, colonGo, byteAt_eq s i hlt] at he
      have hn2 : s.size - (i + 1) = n := by omega
      by_cases h58 : (s[i]).toNat = 58
      · have d58 : (((s[i]).toNat : Int) == 58) = true := by rw [beq_iff_eq]; omega
        rw [if_pos h58] at he
        have hr := HR.out
        rw [he] at hr
        subst hr
        clear h58 HR he hn hn2
        go_wp2
        go_ret
        exact ⟨rfl, rfl⟩
      · have d58 : (((s[i]).toNat : Int) == 58) = false := by rw [beq_eq_false_iff_ne]; omega
        rw [if_neg h58] at he
        have HE2 : Hid (colon s = colonGo s (s.size - (i + 1)) (i + 1)) := by rw [hn2]; exact he
        clear h58 he hn hn2
        go_wp2
        go_round
        case rel => exact ⟨i + 1, by omega, by go_num, HE2⟩
        case measure => simp [intOf]; omega
    · have he := HE.out
      rw [show s.size - i = 0 by omega, colonGo] at he
      have hr := HR.out
      rw [he] at hr
      subst hr
      clear HR he
      go_wp2
      go_ret
      exact ⟨rfl, rfl⟩
end Line
end Go.Proofs.YtkenmilglfnmbaaGreatDoor
namespace Go.Proofs.YtkenmilglfnmbaaGreatDoor
open Go.RowKit
set_option linter.unusedVariables false
set_option linter.unusedSimpArgs false
namespace Flds

/-- what holds while a line is read -/
def Rd (w : World) (v : Value) (l : List Fld) (W : World) : Prop := Own w.heap.size W v l ∧ Below w.heap.size w W
theorem rd_below {w : World} {v : Value} {l : List Fld} {W W' : World} (h : Rd w v l W) (hb : Below W.heap.size W W') : Rd w v l W' := ⟨Recs.own_below h.1 hb, h.2.trans (hb.mono h.2.size)⟩
theorem rd_alloc {w : World} {v : Value} {l : List Fld} {W : World} (h : Rd w v l W) (o : Obj) : Rd w v l (W.alloc o) := ⟨World.ownsRow.alloc h.1 o, h.2.alloc h.2.size o⟩
theorem rd_set {w : World} {v : Value} {l : List Fld} {W : World} {g : Nat} {x y : Value} (h : Rd w v l W) (hg : ∀ k, v.ownBlock = some k → k < g) (hw : w.heap.size ≤ g) : Rd w v l ((W.setCell ⟨g, 0, none⟩ x).setCell ⟨g, 1, none⟩ y) :=
  ⟨Recs.own_stay h.1 hg (((Below.refl g W).setCell (Nat.le_refl _) _).setCell (Nat.le_refl _) _), (h.2.setCell hw _).setCell hw _⟩
theorem bad_end {w wr : World} (h : w.heap.size ≤ wr.heap.size) : Own w.heap.size (wr.alloc (.cells #[] 36)) (.slice (some ⟨wr.heap.size, 0, none⟩) 0 0) [] := World.ownsRow_made wr #[] 0 h (Nat.zero_le _) rfl
set_option maxRecDepth 100000 in
set_option maxHeartbeats 4000000 in
theorem read_spec (s : ByteArray) (w : World) (hs : s.size ≤ 1048576) :
    Calls Tryz.prog 74 #[.string s] w fun e w' => ∃ v', e = .returned (.tuple #[v', .int .i64 (readN s), .bool (readB s)]) ∧ Own w.heap.size w' v' (readL s) ∧ Below w.heap.size w w' := by
  obtain ⟨i0, hi0, hz0, hz1, hz2⟩ := info_parts infoF
  have HD := Num.hide (made_nil w)
  obtain ⟨L, hL⟩ : ∃ L, readL s = L := ⟨_, rfl⟩
  obtain ⟨N, hN⟩ : ∃ N, readN s = N := ⟨_, rfl⟩
  obtain ⟨b, hb⟩ : ∃ b, readB s = b := ⟨_, rfl⟩
  rw [hL, hN, hb]
  have HR : Hid (readL s = L ∧ readN s = N ∧ readB s = b) := ⟨hL, hN, hb⟩
  clear hL hN hb
  have HE : Hid (read s = none → L = [] ∧ N = 0 ∧ b = false) := fun h => by
    obtain ⟨h1, h2, h3⟩ := told_none h
    obtain ⟨g1, g2, g3⟩ := HR.out
    exact ⟨g1.symm.trans h1, g2.symm.trans h2, g3.symm.trans h3⟩
  have HF : Hid (∀ l n, read s = some (l, n) → L = l ∧ N = (n : Int) ∧ b = true) := fun l n h => by
    obtain ⟨h1, h2, h3⟩ := told_some h
    obtain ⟨g1, g2, g3⟩ := HR.out
    exact ⟨g1.symm.trans h1, g2.symm.trans h2, g3.symm.trans h3⟩
  clear HR
  go_enter Tryz.func74, Tryz.ntmps74
  go_wp2
  go_loopw [5, 6] (fun ov av wr => ∃ (a : Nat) (l : List Fld), av = .int .i64 (a : Int) ∧ Hid (RdAt s a l) ∧ Hid (Own w.heap.size wr ov l) ∧ Hid (Below w.heap.size w wr)) (fun _ av _ => s.size - (intOf av).toNat)
  case atStart => exact ⟨0, [], rfl, rd_start s, HD, (Below.refl _ _).alloc (Nat.le_refl _) _⟩
  case round =>
    clear HD
    obtain ⟨a, l, rfl, HA, HO, HB⟩ := hrel
    obtain ⟨va, vc, hv⟩ := Recs.own_len HO.out
    subst hv
    have hle := HA.out.le
    have hln := HA.out.len
    have hsz := HB.out.size
    by_cases h12 : l.length ≤ 12
    · have d12 : decide ((l.length : Int) ≤ 12) = true := by simp; omega
      have HL := Num.hide (fun W => Line.line_spec s a W (by omega) hle)
      cases he : Line.eol s a with
      | none =>
        have hl : Line.lineOf s a = (⟨#[]⟩, -1) := by unfold Line.lineOf; rw [he]
        rw [hl] at HL
        obtain ⟨rfl, rfl, rfl⟩ := Num.unhide HE (rd_none HA.out h12 he)
        clear hl he
        go_wp2_with fail
        refine (Num.unhide HL _).mono ?_
        rintro e w1 ⟨rfl, rfl⟩
        go_wp2
        go_ret3
        exact ⟨_, rfl, bad_end hsz, HB.out.alloc hsz _⟩
      | some i =>
        obtain ⟨hin1, hin2⟩ := Line.eol_in he
        have hl : Line.lineOf s a = (s.extract a i, (i : Int) + 2) := by unfold Line.lineOf; rw [he]
        rw [hl] at HL
        clear hl
        by_cases hia : i = a
        · subst hia
          have hem : s.extract i i = ⟨#[]⟩ := Sign.empty_true _ (by rw [ByteArray.size_extract]; omega)
          rw [hem] at HL
          obtain ⟨rfl, rfl, rfl⟩ := Num.unhide HF _ _ (rd_done HA.out h12 he)
          have HC := Num.hide (fun W h => ok_spec (.slice va L.length vc) L W h (fun f hf => by have := HA.out.small f hf; unfold maxLen; omega) (by omega))
          rw [rd_ok HA.out h12] at HC
          clear hem he
          go_wp2_with fail
          refine (Num.unhide HL _).mono ?_
          rintro e w1 ⟨rfl, rfl⟩
          go_wp2_with fail
          refine (Num.unhide HC _ (Recs.own_is cells_len HO.out)).mono ?_
          rintro e w2 ⟨rfl, hb2⟩
          have HO2 := Num.hide (Recs.own_below HO.out hb2)
          have HB2 := Num.hide (HB.out.trans (hb2.mono hsz))
          clear hb2
          go_wp2
          go_ret3
          exact ⟨_, rfl, HO2.out, HB2.out⟩
        · have hts : (s.extract a i).size = i - a := by rw [ByteArray.size_extract]; omega
          have hne := Sign.empty_false (s.extract a i) (by omega)
          have HC := Num.hide (fun W => Line.colon_spec (s.extract a i) W (by unfold maxLen; omega))
          cases hc : Line.colon (s.extract a i) with
          | none =>
            have hco : Line.colonOf (s.extract a i) = -1 := by unfold Line.colonOf; rw [hc]
            rw [hco] at HC
            obtain ⟨rfl, rfl, rfl⟩ := Num.unhide HE (rd_nocolon HA.out h12 he hia hc)
            clear hco hc he hts
            generalize s.extract a i = t at HL hne HC
            go_wp2_with fail
            refine (Num.unhide HL _).mono ?_
            rintro e w1 ⟨rfl, rfl⟩
            go_wp2_with fail
            refine (Num.unhide HC _).mono ?_
            rintro e w2 ⟨rfl, rfl⟩
            go_wp2
            go_ret3
            exact ⟨_, rfl, bad_end hsz, HB.out.alloc hsz _⟩
          | some k =>
            have hk := Line.colon_in hc
            have hco : Line.colonOf (s.extract a i) = (k : Int) := by unfold Line.colonOf; rw [hc]
            rw [hco] at HC
            have HBad := Num.hide (rd_bad HA.out h12 he hia hc)
            have HMore := Num.hide (rd_more HA.out h12 he hia hc)
            unfold fieldOf at HBad HMore
            clear hco hc
            generalize s.extract a i = t at HL hne HC hk hts HBad HMore
            have HLo := Num.hide (fun W => Sign.lower_spec (t.extract 0 k) W (by unfold maxLen; rw [ByteArray.size_extract]; omega))
            have HTr := Num.hide (fun W => Sign.trim_spec (t.extract (k + 1) t.size) W (by unfold maxLen; rw [ByteArray.size_extract]; omega))
            have hx1 : (Sign.lower (t.extract 0 k)).size ≤ 1048576 := by rw [Sign.size_lower, ByteArray.size_extract]; omega
            generalize Sign.lower (t.extract 0 k) = x at HLo HBad HMore hx1
            have hy1 : (Sign.trim (t.extract (k + 1) t.size)).size ≤ 1048576 := by have := Sign.trim_size (t.extract (k + 1) t.size); rw [ByteArray.size_extract] at this; omega
            generalize Sign.trim (t.extract (k + 1) t.size) = y at HTr HBad HMore hy1
            go_wp2_with fail
            refine (Num.unhide HL _).mono ?_
            rintro e w1 ⟨rfl, rfl⟩
            go_wp2_with fail
            refine (Num.unhide HC _).mono ?_
            rintro e w2 ⟨rfl, rfl⟩
            go_wp2
            have HTs := Num.hide hts
            have hk1 : k ≤ t.size := by omega
            have hk2 : IntKind.i64.wrap ((k : Int) + 1) = (k : Int) + 1 := by rw [IntKind.wrap_i64]; omega
            have hk3 : (0 : Int) ≤ (k : Int) + 1 := by omega
            have hk4 : (k : Int) + 1 ≤ (t.size : Int) := by omega
            have hk5 : ((k : Int) + 1).toNat = k + 1 := by omega
            clear hts
            refine wp_region_held_drew (S := Rd w (.slice va l.length vc) l) (by kernel_rfl) ⟨HO.out, HB.out.drew⟩ (fun hHeld => ?_)
            refine Reg.take (i := 0) (d := 33) (v := ?_) rfl rfl (by kernel_rfl) (by kernel_rfl) (by kernel_rfl) (fun _ _ _ h => h) (by rfl) ?_ hHeld ?_
            rotate_left
            · rintro W h1
              first | (go_simp; done) | (go_simp; with_reducible rfl)
            simp only [Act.put, List.setIfInBounds_toArray, List.set_cons_zero, List.set_cons_succ]
            refine Reg.take (i := 1) (d := 34) (v := ?_) rfl rfl (by kernel_rfl) (by kernel_rfl) (by kernel_rfl) (fun _ _ _ h => h) (by rfl) ?_ hHeld ?_
            rotate_left
            · rintro W h1
              first | (go_simp; done) | (go_simp; with_reducible rfl)
            simp only [Act.put, List.setIfInBounds_toArray, List.set_cons_zero, List.set_cons_succ]
            refine Reg.take (i := 2) (d := 35) (v := ?_) rfl rfl (by kernel_rfl) (by kernel_rfl) (by kernel_rfl) (fun _ _ _ h => h) (by rfl) ?_ hHeld ?_
            rotate_left
            · rintro W h1
              first | (go_simp; done) | (go_simp; with_reducible rfl)
            simp only [Act.put, List.setIfInBounds_toArray, List.set_cons_zero, List.set_cons_succ]
            refine Reg.take (i := 4) (d := 37) (v := ?_) rfl rfl (by kernel_rfl) (by kernel_rfl) (by kernel_rfl) (fun _ _ _ h => h) (by rfl) ?_ hHeld ?_
            rotate_left
            · rintro W h1
              first | (go_simp; done) | (go_simp; with_reducible rfl)
            simp only [Act.put, List.setIfInBounds_toArray, List.set_cons_zero, List.set_cons_succ]
            refine Reg.take (i := 5) (d := 38) (v := ?_) rfl rfl (by kernel_rfl) (by kernel_rfl) (by kernel_rfl) (fun _ _ _ h => h) (by rfl) ?_ hHeld ?_
            rotate_left
            · rintro W h1
              first | (go_simp; done) | (go_simp; with_reducible rfl)
            simp only [Act.put, List.setIfInBounds_toArray, List.set_cons_zero, List.set_cons_succ]
            refine Reg.take (i := 6) (d := 39) (v := ?_) rfl rfl (by kernel_rfl) (by kernel_rfl) (by kernel_rfl) (fun _ _ _ h => h) (by rfl) ?_ hHeld ?_
            rotate_left
            · rintro W h1
              first | (go_simp; done) | (go_simp; with_reducible rfl)
            simp only [Act.put, List.setIfInBounds_toArray, List.set_cons_zero, List.set_cons_succ]
            refine Reg.take (i := 7) (d := 40) (v := ?_) rfl rfl (by kernel_rfl) (by kernel_rfl) (by kernel_rfl) (fun _ _ _ h => h) (by rfl) ?_ hHeld ?_
            rotate_left
            · rintro W h1
              first | (go_simp; done) | (go_simp; with_reducible rfl)
            simp only [Act.put, List.setIfInBounds_toArray, List.set_cons_zero, List.set_cons_succ]
            refine wpAnyH_ready (rs := [3, 10]) (by kernel_rfl) (by simp) (AllReadyH.cons (Reg.at_ rfl) (fun K hK => ?_) (AllReadyH.cons (Reg.at_ rfl) (fun K hK => ?_) AllReadyH.nil))
            · rw [if_pos (by rfl)]
              go_wp2_with fail
              refine (Num.unhide HLo _).mono ?_
              rintro e w3 ⟨rfl, hb3⟩
              go_wp2_with fail
              refine hK.out _ _ ?_ (fun hHeld2 => ?_)
              · exact rd_below hHeld hb3
              clear hK K
              replace hHeld := hHeld2
              clear hHeld2
              refine wpAnyH_ready (rs := [8, 10]) (by kernel_rfl) (by simp) (AllReadyH.cons (Reg.at_ rfl) (fun K hK => ?_) (AllReadyH.cons (Reg.at_ rfl) (fun K hK => ?_) AllReadyH.nil))
              · rw [if_pos (by rfl)]
                go_wp2_with fail
                refine (Num.unhide HTr _).mono ?_
                rintro e w4 ⟨rfl, rfl⟩
                go_wp2_with fail
                refine hK.out _ _ ?_ (fun hHeld2 => ?_)
                · exact hHeld
                clear hK K
                replace hHeld := hHeld2
                clear hHeld2
                refine Reg.take (i := 9) (d := 42) (v := ?_) rfl rfl (by kernel_rfl) (by kernel_rfl) (by kernel_rfl) (fun _ _ _ h => h) (by rfl) ?_ hHeld ?_
                rotate_left
                · rintro W h1
                  first | (go_simp; done) | (go_simp; with_reducible rfl)
                simp only [Act.put, List.setIfInBounds_toArray, List.set_cons_zero, List.set_cons_succ]
                refine Reg.call (i := 10) rfl (by kernel_rfl) (by rfl) (fun K hK => ?_)
                have hKeep := hHeld
                go_wp2_with fail
                refine hK.out _ _ ?_ (fun hHeld2 => ?_)
                · exact rd_alloc hHeld _
                clear hK K
                replace hHeld := hHeld2
                clear hHeld2
                refine Reg.call (i := 11) rfl (by kernel_rfl) (by rfl) (fun K hK => ?_)
                go_wp2_with fail
                refine hK.out _ _ ?_ (fun hHeld2 => ?_)
                · exact rd_alloc hKeep _
                clear hK K
                replace hHeld := hHeld2
                clear hHeld2 hKeep hb3
                have b1 : (w3.alloc (.cells #[.string x, .string y] 36)).cell? ⟨w3.heap.size, 0, none⟩ = some (.string x) := by simp
                have b2 : (w3.alloc (.cells #[.string x, .string y] 36)).cell? ⟨w3.heap.size, 1, none⟩ = some (.string y) := by simp
                have hgb : w3.heap.size < (w3.alloc (.cells #[.string x, .string y] 36)).heap.size := by simp
                refine wpAnyH_done (by kernel_rfl) ?_ _
                have HH := Num.hide hHeld
                have HOk := Num.hide (fun W => okF_spec x y W (by unfold maxLen; omega) (by unfold maxLen; omega))
                clear hHeld
                cases hok : okF (x, y) with
                | false =>
                  rw [hok] at HOk
                  obtain ⟨rfl, rfl, rfl⟩ := Num.unhide HE (Num.unhide HBad hok)
                  clear hok
                  go_wp2_with fail
                  refine (Num.unhide HOk _).mono ?_
                  rintro e w5 ⟨rfl, hb5⟩
                  have R5 := Num.hide (rd_below HH.out hb5)
                  have s5 := R5.out.2.size
                  clear hb5
                  go_wp2
                  go_ret3
                  exact ⟨_, rfl, bad_end s5, R5.out.2.alloc s5 _⟩
                | true =>
                  rw [hok] at HOk
                  have HA2 := Num.hide (Num.unhide HMore hok)
                  clear hok
                  go_wp2_with fail
                  refine (Num.unhide HOk _).mono ?_
                  rintro e w5 ⟨rfl, hb5⟩
                  have R5 := Num.hide (rd_below HH.out hb5)
                  have s5 := R5.out.2.size
                  have k1 := (hb5.cell (p := ⟨w3.heap.size, 0, none⟩) hgb).trans b1
                  have k2 := (hb5.cell (p := ⟨w3.heap.size, 1, none⟩) hgb).trans b2
                  clear hb5 b1 b2
                  go_wp2_with (at_builtin; refine wpList_append_own _ rfl _ _ 37 rfl w.heap.size 36 i0 _ 2 32 Tryz.underlying37 hi0 hz0 hz1 hz2 rfl (by decide) _ _ _ rfl (World.ownsRow.alloc R5.out.1 _) ⟨w5.heap.size, 0, none⟩ 1 1 [.string x, .string y] rfl rfl (cells_two w5 x y) (two_ok x y) (by unfold maxLen; omega) (by omega) ?c9 ?_)
                  case c9 => first | omega | (simp; omega)
                  intro v' w6 ho6 hg6 _
                  obtain ⟨hp1, hp2⟩ := put_more s5 R5.out.1 R5.out.2 ho6 hg6
                  have HP1 := Num.hide hp1
                  have HP2 := Num.hide hp2
                  clear ho6 hg6 hp1 hp2
                  go_wp2
                  go_roundw
                  case rel => exact ⟨i + 2, _, by go_num, HA2, HP1, HP2⟩
                  case measure => simp [intOf]; omega
              · rw [if_pos (by rfl)]
                have hKeep := hHeld
                go_wp2_with fail
                refine hK.out _ _ ?_ (fun hHeld2 => ?_)
                · exact rd_alloc hHeld _
                clear hK K
                replace hHeld := hHeld2
                clear hHeld2
                refine Reg.call (i := 8) rfl (by kernel_rfl) (by rfl) (fun K hK => ?_)
                go_wp2_with fail
                refine (Num.unhide HTr _).mono ?_
                rintro e w4 ⟨rfl, rfl⟩
                go_wp2_with fail
                refine hK.out _ _ ?_ (fun hHeld2 => ?_)
                · exact hHeld
                clear hK K
                replace hHeld := hHeld2
                clear hHeld2
                refine Reg.take (i := 9) (d := 42) (v := ?_) rfl rfl (by kernel_rfl) (by kernel_rfl) (by kernel_rfl) (fun _ _ _ h => h) (by rfl) ?_ hHeld ?_
                rotate_left
                · rintro W h1
                  first | (go_simp; done) | (go_simp; with_reducible rfl)
                simp only [Act.put, List.setIfInBounds_toArray, List.set_cons_zero, List.set_cons_succ]
                refine Reg.call (i := 11) rfl (by kernel_rfl) (by rfl) (fun K hK => ?_)
                go_wp2_with fail
                refine hK.out _ _ ?_ (fun hHeld2 => ?_)
                · exact rd_alloc hKeep _
                clear hK K
                replace hHeld := hHeld2
                clear hHeld2 hKeep hb3
                have b1 : (w3.alloc (.cells #[.string x, .string y] 36)).cell? ⟨w3.heap.size, 0, none⟩ = some (.string x) := by simp
                have b2 : (w3.alloc (.cells #[.string x, .string y] 36)).cell? ⟨w3.heap.size, 1, none⟩ = some (.string y) := by simp
                have hgb : w3.heap.size < (w3.alloc (.cells #[.string x, .string y] 36)).heap.size := by simp
                refine wpAnyH_done (by kernel_rfl) ?_ _
                have HH := Num.hide hHeld
                have HOk := Num.hide (fun W => okF_spec x y W (by unfold maxLen; omega) (by unfold maxLen; omega))
                clear hHeld
                cases hok : okF (x, y) with
                | false =>
                  rw [hok] at HOk
                  obtain ⟨rfl, rfl, rfl⟩ := Num.unhide HE (Num.unhide HBad hok)
                  clear hok
                  go_wp2_with fail
                  refine (Num.unhide HOk _).mono ?_
                  rintro e w5 ⟨rfl, hb5⟩
                  have R5 := Num.hide (rd_below HH.out hb5)
                  have s5 := R5.out.2.size
                  clear hb5
                  go_wp2
                  go_ret3
                  exact ⟨_, rfl, bad_end s5, R5.out.2.alloc s5 _⟩
                | true =>
                  rw [hok] at HOk
                  have HA2 := Num.hide (Num.unhide HMore hok)
                  clear hok
                  go_wp2_with fail
                  refine (Num.unhide HOk _).mono ?_
                  rintro e w5 ⟨rfl, hb5⟩
                  have R5 := Num.hide (rd_below HH.out hb5)
                  have s5 := R5.out.2.size
                  have k1 := (hb5.cell (p := ⟨w3.heap.size, 0, none⟩) hgb).trans b1
                  have k2 := (hb5.cell (p := ⟨w3.heap.size, 1, none⟩) hgb).trans b2
                  clear hb5 b1 b2
                  go_wp2_with (at_builtin; refine wpList_append_own _ rfl _ _ 37 rfl w.heap.size 36 i0 _ 2 32 Tryz.underlying37 hi0 hz0 hz1 hz2 rfl (by decide) _ _ _ rfl (World.ownsRow.alloc R5.out.1 _) ⟨w5.heap.size, 0, none⟩ 1 1 [.string x, .string y] rfl rfl (cells_two w5 x y) (two_ok x y) (by unfold maxLen; omega) (by omega) ?c9 ?_)
                  case c9 => first | omega | (simp; omega)
                  intro v' w6 ho6 hg6 _
                  obtain ⟨hp1, hp2⟩ := put_more s5 R5.out.1 R5.out.2 ho6 hg6
                  have HP1 := Num.hide hp1
                  have HP2 := Num.hide hp2
                  clear ho6 hg6 hp1 hp2
                  go_wp2
                  go_roundw
                  case rel => exact ⟨i + 2, _, by go_num, HA2, HP1, HP2⟩
                  case measure => simp [intOf]; omega
            · rw [if_pos (by rfl)]
              have hKeep := hHeld
              go_wp2_with fail
              refine hK.out _ _ ?_ (fun hHeld2 => ?_)
              · exact rd_alloc hHeld _
              clear hK K
              replace hHeld := hHeld2
              clear hHeld2
              refine Reg.call (i := 3) rfl (by kernel_rfl) (by rfl) (fun K hK => ?_)
              go_wp2_with fail
              refine (Num.unhide HLo _).mono ?_
              rintro e w3 ⟨rfl, hb3⟩
              go_wp2_with fail
              refine hK.out _ _ ?_ (fun hHeld2 => ?_)
              · exact rd_below hHeld hb3
              clear hK K
              replace hHeld := hHeld2
              clear hHeld2
              refine Reg.call (i := 8) rfl (by kernel_rfl) (by rfl) (fun K hK => ?_)
              go_wp2_with fail
              refine (Num.unhide HTr _).mono ?_
              rintro e w4 ⟨rfl, rfl⟩
              go_wp2_with fail
              refine hK.out _ _ ?_ (fun hHeld2 => ?_)
              · exact hHeld
              clear hK K
              replace hHeld := hHeld2
              clear hHeld2
              refine Reg.take (i := 9) (d := 42) (v := ?_) rfl rfl (by kernel_rfl) (by kernel_rfl) (by kernel_rfl) (fun _ _ _ h => h) (by rfl) ?_ hHeld ?_
              rotate_left
              · rintro W h1
                first | (go_simp; done) | (go_simp; with_reducible rfl)
              simp only [Act.put, List.setIfInBounds_toArray, List.set_cons_zero, List.set_cons_succ]
              refine Reg.call (i := 11) rfl (by kernel_rfl) (by rfl) (fun K hK => ?_)
              have e1 := (hb3.cell (p := ⟨wr.heap.size, 0, none⟩) (by simp)).trans (show _ = some (.string ⟨#[]⟩) by simp)
              have e2 := (hb3.cell (p := ⟨wr.heap.size, 1, none⟩) (by simp)).trans (show _ = some (.string ⟨#[]⟩) by simp)
              have f1 := (hb3.frozen (p := ⟨wr.heap.size, 0, none⟩) (by simp)).trans (show _ = false by simp)
              have f2 := (hb3.frozen (p := ⟨wr.heap.size, 1, none⟩) (by simp)).trans (show _ = false by simp)
              have hlt3 : wr.heap.size < w3.heap.size := by have := hb3.size; simp at this; omega
              go_wp2_with fail
              refine hK.out _ _ ?_ (fun hHeld2 => ?_)
              · exact rd_set hHeld (fun k hk => (Recs.own_lt HO.out k hk).2) hsz
              clear hK K
              replace hHeld := hHeld2
              have b1 := box_first (x := x) (y := y) e1
              have b2 := box_second (x := x) (y := y) e2
              have hgb : wr.heap.size < ((w3.setCell ⟨wr.heap.size, 0, none⟩ (.string x)).setCell ⟨wr.heap.size, 1, none⟩ (.string y)).heap.size := by simp; omega
              clear hHeld2 hKeep hb3 e1 e2 f1 f2
              refine wpAnyH_done (by kernel_rfl) ?_ _
              have HH := Num.hide hHeld
              have HOk := Num.hide (fun W => okF_spec x y W (by unfold maxLen; omega) (by unfold maxLen; omega))
              clear hHeld
              cases hok : okF (x, y) with
              | false =>
                rw [hok] at HOk
                obtain ⟨rfl, rfl, rfl⟩ := Num.unhide HE (Num.unhide HBad hok)
                clear hok
                go_wp2_with fail
                refine (Num.unhide HOk _).mono ?_
                rintro e w5 ⟨rfl, hb5⟩
                have R5 := Num.hide (rd_below HH.out hb5)
                have s5 := R5.out.2.size
                clear hb5
                go_wp2
                go_ret3
                exact ⟨_, rfl, bad_end s5, R5.out.2.alloc s5 _⟩
              | true =>
                rw [hok] at HOk
                have HA2 := Num.hide (Num.unhide HMore hok)
                clear hok
                go_wp2_with fail
                refine (Num.unhide HOk _).mono ?_
                rintro e w5 ⟨rfl, hb5⟩
                have R5 := Num.hide (rd_below HH.out hb5)
                have s5 := R5.out.2.size
                have k1 := (hb5.cell (p := ⟨wr.heap.size, 0, none⟩) hgb).trans b1
                have k2 := (hb5.cell (p := ⟨wr.heap.size, 1, none⟩) hgb).trans b2
                clear hb5 b1 b2
                go_wp2_with (at_builtin; refine wpList_append_own _ rfl _ _ 37 rfl w.heap.size 36 i0 _ 2 32 Tryz.underlying37 hi0 hz0 hz1 hz2 rfl (by decide) _ _ _ rfl (World.ownsRow.alloc R5.out.1 _) ⟨w5.heap.size, 0, none⟩ 1 1 [.string x, .string y] rfl rfl (cells_two w5 x y) (two_ok x y) (by unfold maxLen; omega) (by omega) ?c9 ?_)
                case c9 => first | omega | (simp; omega)
                intro v' w6 ho6 hg6 _
                obtain ⟨hp1, hp2⟩ := put_more s5 R5.out.1 R5.out.2 ho6 hg6
                have HP1 := Num.hide hp1
                have HP2 := Num.hide hp2
                clear ho6 hg6 hp1 hp2
                go_wp2
                go_roundw
                case rel => exact ⟨i + 2, _, by go_num, HA2, HP1, HP2⟩
                case measure => simp [intOf]; omega
    · obtain ⟨rfl, rfl, rfl⟩ := Num.unhide HE (rd_full HA.out h12)
      have d12 : decide ((l.length : Int) ≤ 12) = false := by simp; omega
      go_wp2
      go_ret3
      exact ⟨_, rfl, bad_end hsz, HB.out.alloc hsz _⟩
end Flds
end Go.Proofs.YtkenmilglfnmbaaGreatDoor
