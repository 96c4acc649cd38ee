/-
  RespRead: An answer is read from its text: plain.
-/
import Derived.Test.YtmiahdiadlnijaaDoorPaw
import Derived.Test.YtmiahdiadlnijaaDoorPba
namespace Go.Proofs.YtmiahdiadlnijaaDoor
open Go.RowKit
set_option linter.unusedVariables false
namespace Msg
open Line (byteAt byteAt_eq eol)
open Flds (Fld enc)

/-- the number of a text -/
def decR (s : ByteArray) : Option Int :=
  if (-999999999 ≤ ReadDec.sval s.data.toList ∧ ReadDec.sval s.data.toList ≤ 999999999) ∧ Lib.itoa (ReadDec.sval s.data.toList) = s.data.toList then some (ReadDec.sval s.data.toList) else none
theorem good_dec {s : ByteArray} {a : Int} {t : Bool} (h : ReadDec.Good s a t) : a = (decR s).getD 0 ∧ t = (decR s).isSome := by
  rcases h with ⟨h1, h2, h3, h4⟩ | ⟨h1, h2, h3⟩
  · have e : ReadDec.sval s.data.toList = a := by rw [← h4]; exact (ReadDec.itoa_parts a).1
    unfold decR
    rw [e, if_pos ⟨⟨h2, h3⟩, h4⟩]
    exact ⟨rfl, h1⟩
  · unfold decR
    by_cases hc : (-999999999 ≤ ReadDec.sval s.data.toList ∧ ReadDec.sval s.data.toList ≤ 999999999) ∧ Lib.itoa (ReadDec.sval s.data.toList) = s.data.toList
    · exact absurd hc.2 (h3 _ hc.1.1 hc.1.2)
    · rw [if_neg hc]; exact ⟨h2, h1⟩
abbrev Rs := (Int × List Fld × ByteArray) × Int × Int
def noRs (c : Int) : Rs := ((0, [], ⟨#[]⟩), 0, c)
def readResp (s : ByteArray) : Rs :=
  if whole s = false then noRs (if 1500 < s.size then 2 else 1)
  else match eol s 0 with
    | none => noRs 2
    | some k => match Flds.read (s.extract (k + 2) s.size) with
      | none => noRs 2
      | some (l, n) => match decR (words (s.extract 0 k)).2.1 with
        | none => noRs 2
        | some st =>
          if (words (s.extract 0 k)).1 = ver ∧ (words (s.extract 0 k)).2.1.size = 3 ∧ respOk st (bare l) ⟨#[]⟩ = true then
            (if st = 204 ∨ st = 304 then ((st, bare l, ⟨#[]⟩), ((k + 2 + n : Nat) : Int), 0)
             else if (Body.bodyOf l (s.extract (k + 2 + n) s.size) true).2.2 = 0 then ((st, bare l, (Body.bodyOf l (s.extract (k + 2 + n) s.size) true).1), ((k + 2 + n : Nat) : Int) + (Body.bodyOf l (s.extract (k + 2 + n) s.size) true).2.1, 0)
             else noRs (codeOf (Body.bodyOf l (s.extract (k + 2 + n) s.size) true).2.2))
          else noRs 2
/-- an answer's first line -/
def sline (st : Int) : List UInt8 := ver.data.toList ++ 32 :: ((decB st).data.toList ++ 32 :: (reason st).data.toList)
theorem reasonF_one (st : Int) : ∀ (n i : Nat), i + n = 11 → reasonF st n i = ⟨#[83, 116, 97, 116, 117, 115]⟩ ∨ ∃ j, j < 11 ∧ reasonF st n i = texts.getD j ⟨#[]⟩ := by
  intro n
  induction n with
  | zero => intro i _; exact .inl rfl
  | succ n ih =>
    intro i hi
    unfold reasonF
    split
    · exact .inr ⟨i, by omega, rfl⟩
    · exact ih (i + 1) (by omega)
theorem reason_none (st : Int) : (∀ c ∈ (reason st).data.toList, ¬ c = 13) ∧ (reason st).size ≤ 40 := by
  have key : ∀ j, j < 11 → (∀ c ∈ (texts.getD j ⟨#[]⟩).data.toList, ¬ c = 13) ∧ (texts.getD j ⟨#[]⟩).size ≤ 40 := by decide
  have k2 : (∀ c ∈ (⟨#[83, 116, 97, 116, 117, 115]⟩ : ByteArray).data.toList, ¬ c = 13) ∧ (⟨#[83, 116, 97, 116, 117, 115]⟩ : ByteArray).size ≤ 40 := by decide
  rcases reasonF_one st 11 0 rfl with h | ⟨j, hj, h⟩
  · unfold reason; rw [h]; exact k2
  · unfold reason; rw [h]; exact key j hj
set_option maxRecDepth 100000 in
theorem dec_status (st : Int) (h0 : 200 ≤ st) (h1 : st ≤ 599) : (decB st).size = 3 ∧ decR (decB st) = some st ∧ ∀ c ∈ (decB st).data.toList, ¬ c = 32 ∧ ¬ c = 13 := by
  have key : ∀ n : Nat, n < 400 → (decB (200 + (n : Int))).size = 3 ∧ decR (decB (200 + (n : Int))) = some (200 + (n : Int)) ∧ ∀ c ∈ (decB (200 + (n : Int))).data.toList, ¬ c = 32 ∧ ¬ c = 13 := by decide +kernel
  have := key (st - 200).toNat (by omega)
  rw [show 200 + (((st - 200).toNat : Nat) : Int) = st by omega] at this
  exact this
theorem resp_parts {st : Int} {l : List Fld} {b : ByteArray} (h : respOk st l b = true) : (200 ≤ st ∧ st ≤ 599) ∧ plain l = true ∧ b.size ≤ 60 ∧ ((st ≠ 204 ∧ st ≠ 304) ∨ b = ⟨#[]⟩) := by
  unfold respOk at h
  simp only [Bool.and_eq_true, Bool.or_eq_true, decide_eq_true_iff] at h
  exact ⟨h.1.1.1, h.1.1.2, h.1.2, h.2⟩
theorem resp_mk {st : Int} {l : List Fld} (h1 : 200 ≤ st ∧ st ≤ 599) (h2 : plain l = true) (b : ByteArray) (h3 : b.size ≤ 60) (h4 : (st ≠ 204 ∧ st ≠ 304) ∨ b = ⟨#[]⟩) : respOk st l b = true := by
  unfold respOk
  rw [decide_eq_true h1, h2, decide_eq_true h3]
  rcases h4 with h | h
  · rw [decide_eq_true h]; rfl
  · rw [decide_eq_true h, Bool.or_true]; rfl
theorem sline_none (st : Int) (h0 : 200 ≤ st) (h1 : st ≤ 599) : sline st ≠ [] ∧ ∀ c ∈ sline st, ¬ c = 13 := by
  refine ⟨by unfold sline; simp, ?_⟩
  intro c hc
  unfold sline at hc
  rcases List.mem_append.1 hc with h6 | h6
  · have : ∀ x ∈ ver.data.toList, ¬ x = 13 := by decide
    exact this c h6
  · rcases List.mem_cons.1 h6 with rfl | h7
    · decide
    · rcases List.mem_append.1 h7 with h8 | h8
      · exact ((dec_status st h0 h1).2.2 c h8).2
      · rcases List.mem_cons.1 h8 with rfl | h9
        · decide
        · exact (reason_none st).1 c h9
theorem ok_fields {st : Int} {l : List Fld} {b : ByteArray} (h : respOk st l b = true) : Flds.ok (respFields st l b) = true := by
  obtain ⟨_, h2, h3, _⟩ := resp_parts h
  unfold respFields
  split
  · exact ok_framed h2 b h3
  · exact (plain_parts h2).2.2.2
theorem resp_list {st : Int} {l : List Fld} {b : ByteArray} (h : respOk st l b = true) : (respText st l b).data.toList = lines (sline st :: (respFields st l b).map fline) ++ b.data.toList := by
  unfold respText
  rw [lines_cons, ← shown_list (ok_fields h)]
  unfold sline
  have hv : ver.data.toList = [72, 84, 84, 80, 47, 49, 46, 49] := rfl
  rw [hv]
  simp
theorem resp_words (st : Int) (h0 : 200 ≤ st) (h1 : st ≤ 599) : words ⟨(sline st).toArray⟩ = (ver, decB st, reason st) := by
  have hv : ∀ c ∈ ver.data.toList, ¬ c = 32 := by decide
  rw [words_list ⟨(sline st).toArray⟩ ver.data.toList (decB st).data.toList (reason st).data.toList (by unfold sline; simp) hv (fun c hc => ((dec_status st h0 h1).2.2 c hc).1), list_back, list_back, list_back]
/-- an answer is read from its text -/
theorem read_resp {st : Int} {l : List Fld} {b : ByteArray} (h : respOk st l b = true) : readResp (respText st l b) = ((st, l, b), ((respText st l b).size : Int), 0) := by
  obtain ⟨h1, h2, h3, h4⟩ := resp_parts h
  have hok := ok_fields h
  have hd := head_of (respText st l b) (sline st) (respFields st l b) b.data.toList (resp_list h) (sline_none st h1.1 h1.2).2 hok
  obtain ⟨d1, d2, _⟩ := dec_status st h1.1 h1.2
  have e2 : (respText st l b).size = (sline st).length + 2 + (Flds.shown (respFields st l b)).size + b.size := by
    rw [size_of, resp_list h, lines_cons, size_of (Flds.shown (respFields st l b)), shown_list hok, size_of b]
    simp only [List.length_append, List.length_cons]
    omega
  have hbare : bare (respFields st l b) = l := by
    unfold respFields
    split
    · exact bare_framed h2 b
    · exact bare_plain h2
  unfold readResp
  rw [hd.whole, if_neg (by decide), hd.eol]
  simp only
  rw [hd.read]
  simp only
  rw [hd.line, resp_words st h1.1 h1.2]
  simp only
  rw [d2]
  simp only
  rw [hbare, if_pos ⟨trivial, d1, resp_mk h1 h2 _ (by decide) (.inr rfl)⟩, hd.rest, e2]
  by_cases hs : st = 204 ∨ st = 304
  · obtain rfl : b = ⟨#[]⟩ := by
      rcases h4 with ⟨h5, h6⟩ | h5
      · rcases hs with h7 | h7
        · exact absurd h7 h5
        · exact absurd h7 h6
      · exact h5
    rw [if_pos hs]
    rfl
  · have hne : st ≠ 204 ∧ st ≠ 304 := ⟨fun e => hs (.inl e), fun e => hs (.inr e)⟩
    have hf : respFields st l b = framed l b := by unfold respFields; rw [if_pos hne]
    have e1 : b.extract 0 b.size = b := by
      have := extract_list b [] b.data.toList [] (by simp)
      simp only [List.length_nil, Nat.zero_add] at this
      rw [size_of b, this, list_back]
    have hbo : Body.bodyOf (framed l b) b true = (b, (b.size : Int), 0) := by rw [body_framed h2 b h3, if_neg (Nat.lt_irrefl _), e1]
    rw [if_neg hs, hf, list_back, hbo]
    simp only
    rw [if_pos trivial]
    congr 2
end Msg
end Go.Proofs.YtmiahdiadlnijaaDoor
