/-
  RespRead: An answer is read from its text: plain.
  UriSpec: UriOk of the specification.
  FldGetSpec: FieldGet of the specification: all values of a name, joined; the world stays.
  PlainSpec: l6Plain of the specification: has a message no field that says how long its body is?
  ReqOkSpec: RequestOk of the specification: is a request right?
  RespOkSpec: ResponseOk of the specification: is an answer right?
  FldSameNum: Two fields compared, whole.
  FldSameSpec: SameFields of the specification: are two lists of fields alike?
-/
import Derived.Test.YtbajfklnekfeoaaGreatDoorPah
import Derived.Test.YtbajfklnekfeoaaGreatDoorPag
import Derived.Test.YtbajfklnekfeoaaGreatDoorSignNum
import Derived.Test.YtbajfklnekfeoaaGreatDoorPae
import Derived.Test.YtbajfklnekfeoaaGreatDoorPaa
import Derived.Laws.Strings
import Derived.Test.YtbajfklnekfeoaaGreatDoorPaf
import Derived.Test.YtbajfklnekfeoaaGreatDoorFldsOkSpec
import Derived.Test.YtbajfklnekfeoaaGreatDoorPac
import Derived.Test.YtbajfklnekfeoaaGreatDoorFlds
import Derived.Deep.QuietTactic
import Derived.BigQuiet
import Derived.Laws.StructEq
namespace Go.Proofs.YtbajfklnekfeoaaGreatDoor
open Go.RowKit
set_option linter.unusedVariables false
namespace Msg
open Line (byteAt byteAt_eq eol)
open Flds (Fld enc)

/-- the number of a text -/
def decR (s : ByteArray) : Option Int :=
  if (-999999999 ≤ ReadDec.sval s.data.toList ∧ ReadDec.sval s.data.toList ≤ 999999999) ∧ Lib.itoa (ReadDec.sval s.data.toList) = s.data.toList then some (ReadDec.sval s.data.toList) else none
theorem good_dec {s : ByteArray} {a : Int} {t : Bool} (h : ReadDec.Good s a t) : a = (decR s).getD 0 ∧ t = (decR s).isSome := by
  rcases h with ⟨h1, h2, h3, h4⟩ | ⟨h1, h2, h3⟩
  · have e : ReadDec.sval s.data.toList = a := by rw [← h4]; exact (ReadDec.itoa_parts a).1
    unfold decR
    rw [e, if_pos ⟨⟨h2, h3⟩, h4⟩]
    exact ⟨rfl, h1⟩
  · unfold decR
    by_cases hc : (-999999999 ≤ ReadDec.sval s.data.toList ∧ ReadDec.sval s.data.toList ≤ 999999999) ∧ Lib.itoa (ReadDec.sval s.data.toList) = s.data.toList
    · exact absurd hc.2 (h3 _ hc.1.1 hc.1.2)
    · rw [if_neg hc]; exact ⟨h2, h1⟩
abbrev Rs := (Int × List Fld × ByteArray) × Int × Int
def noRs (c : Int) : Rs := ((0, [], ⟨#[]⟩), 0, c)
def readResp (s : ByteArray) : Rs :=
  if whole s = false then noRs (if 1500 < s.size then 2 else 1)
  else match eol s 0 with
    | none => noRs 2
    | some k => match Flds.read (s.extract (k + 2) s.size) with
      | none => noRs 2
      | some (l, n) => match decR (words (s.extract 0 k)).2.1 with
        | none => noRs 2
        | some st =>
          if (words (s.extract 0 k)).1 = ver ∧ (words (s.extract 0 k)).2.1.size = 3 ∧ respOk st (bare l) ⟨#[]⟩ = true then
            (if st = 204 ∨ st = 304 then ((st, bare l, ⟨#[]⟩), ((k + 2 + n : Nat) : Int), 0)
             else if (Body.bodyOf l (s.extract (k + 2 + n) s.size) true).2.2 = 0 then ((st, bare l, (Body.bodyOf l (s.extract (k + 2 + n) s.size) true).1), ((k + 2 + n : Nat) : Int) + (Body.bodyOf l (s.extract (k + 2 + n) s.size) true).2.1, 0)
             else noRs (codeOf (Body.bodyOf l (s.extract (k + 2 + n) s.size) true).2.2))
          else noRs 2
/-- an answer's first line -/
def sline (st : Int) : List UInt8 := ver.data.toList ++ 32 :: ((decB st).data.toList ++ 32 :: (reason st).data.toList)
theorem reasonF_one (st : Int) : ∀ (n i : Nat), i + n = 11 → reasonF st n i = ⟨#[83, 116, 97, 116, 117, 115]⟩ ∨ ∃ j, j < 11 ∧ reasonF st n i = texts.getD j ⟨#[]⟩ := by
  intro n
  induction n with
  | zero => intro i _; exact .inl rfl
  | succ n ih =>
    intro i hi
    unfold reasonF
    split
    · exact .inr ⟨i, by omega, rfl⟩
    · exact ih (i + 1) (by omega)
theorem reason_none (st : Int) : (∀ c ∈ (reason st).data.toList, ¬ c = 13) ∧ (reason st).size ≤ 40 := by
  have key : ∀ j, j < 11 → (∀ c ∈ (texts.getD j ⟨#[]⟩).data.toList, ¬ c = 13) ∧ (texts.getD j ⟨#[]⟩).size ≤ 40 := by decide
  have k2 : (∀ c ∈ (⟨#[83, 116, 97, 116, 117, 115]⟩ : ByteArray).data.toList, ¬ c = 13) ∧ (⟨#[83, 116, 97, 116, 117, 115]⟩ : ByteArray).size ≤ 40 := by decide
  rcases reasonF_one st 11 0 rfl with h | ⟨j, hj, h⟩
  · unfold reason; rw [h]; exact k2
  · unfold reason; rw [h]; exact key j hj
set_option maxRecDepth 100000 in
theorem dec_status (st : Int) (h0 : 200 ≤ st) (h1 : st ≤ 599) : (decB st).size = 3 ∧ decR (decB st) = some st ∧ ∀ c ∈ (decB st).data.toList, ¬ c = 32 ∧ ¬ c = 13 := by
  have key : ∀ n : Nat, n < 400 → (decB (200 + (n : Int))).size = 3 ∧ decR (decB (200 + (n : Int))) = some (200 + (n : Int)) ∧ ∀ c ∈ (decB (200 + (n : Int))).data.toList, ¬ c = 32 ∧ ¬ c = 13 := by decide +kernel
  have := key (st - 200).toNat (by omega)
  rw [show 200 + (((st - 200).toNat : Nat) : Int) = st by omega] at this
  exact this
theorem resp_parts {st : Int} {l : List Fld} {b : ByteArray} (h : respOk st l b = true) : (200 ≤ st ∧ st ≤ 599) ∧ plain l = true ∧ b.size ≤ 60 ∧ ((st ≠ 204 ∧ st ≠ 304) ∨ b = ⟨#[]⟩) := by
  unfold respOk at h
  simp only [Bool.and_eq_true, Bool.or_eq_true, decide_eq_true_iff] at h
  exact ⟨h.1.1.1, h.1.1.2, h.1.2, h.2⟩
theorem resp_mk {st : Int} {l : List Fld} (h1 : 200 ≤ st ∧ st ≤ 599) (h2 : plain l = true) (b : ByteArray) (h3 : b.size ≤ 60) (h4 : (st ≠ 204 ∧ st ≠ 304) ∨ b = ⟨#[]⟩) : respOk st l b = true := by
  unfold respOk
  rw [decide_eq_true h1, h2, decide_eq_true h3]
  rcases h4 with h | h
  · rw [decide_eq_true h]; rfl
  · rw [decide_eq_true h, Bool.or_true]; rfl
theorem sline_none (st : Int) (h0 : 200 ≤ st) (h1 : st ≤ 599) : sline st ≠ [] ∧ ∀ c ∈ sline st, ¬ c = 13 := by
  refine ⟨by unfold sline; simp, ?_⟩
  intro c hc
  unfold sline at hc
  rcases List.mem_append.1 hc with h6 | h6
  · have : ∀ x ∈ ver.data.toList, ¬ x = 13 := by decide
    exact this c h6
  · rcases List.mem_cons.1 h6 with rfl | h7
    · decide
    · rcases List.mem_append.1 h7 with h8 | h8
      · exact ((dec_status st h0 h1).2.2 c h8).2
      · rcases List.mem_cons.1 h8 with rfl | h9
        · decide
        · exact (reason_none st).1 c h9
theorem ok_fields {st : Int} {l : List Fld} {b : ByteArray} (h : respOk st l b = true) : Flds.ok (respFields st l b) = true := by
  obtain ⟨_, h2, h3, _⟩ := resp_parts h
  unfold respFields
  split
  · exact ok_framed h2 b h3
  · exact (plain_parts h2).2.2.2
theorem resp_list {st : Int} {l : List Fld} {b : ByteArray} (h : respOk st l b = true) : (respText st l b).data.toList = lines (sline st :: (respFields st l b).map fline) ++ b.data.toList := by
  unfold respText
  rw [lines_cons, ← shown_list (ok_fields h)]
  unfold sline
  have hv : ver.data.toList = [72, 84, 84, 80, 47, 49, 46, 49] := rfl
  rw [hv]
  simp
theorem resp_words (st : Int) (h0 : 200 ≤ st) (h1 : st ≤ 599) : words ⟨(sline st).toArray⟩ = (ver, decB st, reason st) := by
  have hv : ∀ c ∈ ver.data.toList, ¬ c = 32 := by decide
  rw [words_list ⟨(sline st).toArray⟩ ver.data.toList (decB st).data.toList (reason st).data.toList (by unfold sline; simp) hv (fun c hc => ((dec_status st h0 h1).2.2 c hc).1), list_back, list_back, list_back]
/-- an answer is read from its text -/
theorem read_resp {st : Int} {l : List Fld} {b : ByteArray} (h : respOk st l b = true) : readResp (respText st l b) = ((st, l, b), ((respText st l b).size : Int), 0) := by
  obtain ⟨h1, h2, h3, h4⟩ := resp_parts h
  have hok := ok_fields h
  have hd := head_of (respText st l b) (sline st) (respFields st l b) b.data.toList (resp_list h) (sline_none st h1.1 h1.2).2 hok
  obtain ⟨d1, d2, _⟩ := dec_status st h1.1 h1.2
  have e2 : (respText st l b).size = (sline st).length + 2 + (Flds.shown (respFields st l b)).size + b.size := by
    rw [size_of, resp_list h, lines_cons, size_of (Flds.shown (respFields st l b)), shown_list hok, size_of b]
    simp only [List.length_append, List.length_cons]
    omega
  have hbare : bare (respFields st l b) = l := by
    unfold respFields
    split
    · exact bare_framed h2 b
    · exact bare_plain h2
  unfold readResp
  rw [hd.whole, if_neg (by decide), hd.eol]
  simp only
  rw [hd.read]
  simp only
  rw [hd.line, resp_words st h1.1 h1.2]
  simp only
  rw [d2]
  simp only
  rw [hbare, if_pos ⟨trivial, d1, resp_mk h1 h2 _ (by decide) (.inr rfl)⟩, hd.rest, e2]
  by_cases hs : st = 204 ∨ st = 304
  · obtain rfl : b = ⟨#[]⟩ := by
      rcases h4 with ⟨h5, h6⟩ | h5
      · rcases hs with h7 | h7
        · exact absurd h7 h5
        · exact absurd h7 h6
      · exact h5
    rw [if_pos hs]
    rfl
  · have hne : st ≠ 204 ∧ st ≠ 304 := ⟨fun e => hs (.inl e), fun e => hs (.inr e)⟩
    have hf : respFields st l b = framed l b := by unfold respFields; rw [if_pos hne]
    have e1 : b.extract 0 b.size = b := by
      have := extract_list b [] b.data.toList [] (by simp)
      simp only [List.length_nil, Nat.zero_add] at this
      rw [size_of b, this, list_back]
    have hbo : Body.bodyOf (framed l b) b true = (b, (b.size : Int), 0) := by rw [body_framed h2 b h3, if_neg (Nat.lt_irrefl _), e1]
    rw [if_neg hs, hf, list_back, hbo]
    simp only
    rw [if_pos trivial]
    congr 2
end Msg
end Go.Proofs.YtbajfklnekfeoaaGreatDoor
namespace Go.Proofs.YtbajfklnekfeoaaGreatDoor
open Go.RowKit
set_option linter.unusedVariables false
namespace Msg
open Line (byteAt byteAt_eq)

set_option maxRecDepth 100000 in
set_option maxHeartbeats 1000000 in
theorem uri_spec (s : ByteArray) (w : World) (hs : s.size ≤ maxLen) : Calls Tryz.prog 56 #[.string s] w fun e w' => e = .returned (.bool (uriOk s)) ∧ w = w' := by
  unfold maxLen at hs
  obtain ⟨r, hr⟩ : ∃ r, uriOk s = r := ⟨_, rfl⟩
  rw [hr]
  have HR := Num.hide hr
  clear hr
  go_enter Tryz.func56, Tryz.ntmps56
  go_wp2
  go_loop [3] (fun iv => ∃ k : Nat, k ≤ s.size ∧ iv = .int .i64 (k : Int) ∧ Hid ((s.data.toList.take k).all uriB = true)) (fun iv => s.size - (intOf iv).toNat)
  case atStart => exact ⟨0, by omega, rfl, by show _ = _; simp⟩
  case round =>
    obtain ⟨k, hk, rfl, HA⟩ := hrel
    by_cases hlt : k < s.size
    · have hc := s[k].toNat_lt
      have HT := Num.hide (Sign.all_take s uriB k hlt)
      have HN := Num.hide (fun h => Sign.not_all s uriB k hlt h)
      by_cases h1 : (s[k].toNat : Int) ≤ 32
      · obtain rfl : r = false := by rw [← HR.out]; unfold uriOk; rw [HN.out (decide_eq_false (by omega))]; rfl
        clear HR HA HT HN
        go_wp2
        all_goals go_ret
        all_goals exact ⟨rfl, rfl⟩
      · have d1 : decide ((s[k].toNat : Int) ≤ 32) = false := by rw [decide_eq_false_iff_not]; exact h1
        by_cases h2 : 127 ≤ (s[k].toNat : Int)
        · obtain rfl : r = false := by rw [← HR.out]; unfold uriOk; rw [HN.out (decide_eq_false (by omega))]; rfl
          clear HR HA HT HN
          go_wp2
          all_goals go_ret
          all_goals exact ⟨rfl, rfl⟩
        · have d2 : decide (127 ≤ (s[k].toNat : Int)) = false := by rw [decide_eq_false_iff_not]; exact h2
          have HA2 : Hid ((s.data.toList.take (k + 1)).all uriB = true) := by
            show _ = _; rw [HT.out, HA.out, Bool.true_and]; exact decide_eq_true (by omega)
          clear HA HT HN
          go_wp2
          all_goals go_round
          case rel => exact ⟨k + 1, by omega, by go_num, HA2⟩
          case measure => simp [intOf]; omega
    · obtain rfl : k = s.size := by omega
      have ha := Sign.all_full s uriB HA.out
      have hr := HR.out
      unfold uriOk at hr
      rw [ha, Bool.true_and] at hr
      clear HA ha
      by_cases h20 : (1 : Int) ≤ (s.size : Int) ∧ (s.size : Int) ≤ 20
      · rw [decide_eq_true (by omega : 1 ≤ s.size ∧ s.size ≤ 20), Bool.true_and, byteAt_eq s 0 (by omega)] at hr
        have h0 : 0 < s.size := by omega
        have hz : (0 : Int) < (s.size : Int) := by omega
        by_cases h47 : (s[0]).toNat = 47
        · have d47 : (((s[0]).toNat : Int) == 47) = true := by rw [beq_iff_eq]; omega
          rw [decide_eq_true h47] at hr
          subst hr
          clear HR h47
          go_wp2_with fail
          refine (Date.in_spec _ _ _ _).mono ?_
          rintro e w1 ⟨rfl, rfl⟩
          rw [decide_eq_true h20]
          go_wp2
          go_ret
          exact ⟨rfl, rfl⟩
        · have d47 : (((s[0]).toNat : Int) == 47) = false := by rw [beq_eq_false_iff_ne]; omega
          rw [decide_eq_false h47] at hr
          subst hr
          clear HR h47
          go_wp2_with fail
          refine (Date.in_spec _ _ _ _).mono ?_
          rintro e w1 ⟨rfl, rfl⟩
          rw [decide_eq_true h20]
          go_wp2
          go_ret
          exact ⟨rfl, rfl⟩
      · rw [decide_eq_false (by omega : ¬ (1 ≤ s.size ∧ s.size ≤ 20)), Bool.false_and] at hr
        subst hr
        clear HR
        go_wp2_with fail
        refine (Date.in_spec _ _ _ _).mono ?_
        rintro e w1 ⟨rfl, rfl⟩
        rw [decide_eq_false h20]
        go_wp2
        go_ret
        exact ⟨rfl, rfl⟩
theorem uri_spec_b (s : ByteArray) (w : World) (hs : s.size ≤ maxLen) : Calls Tryz.prog 56 #[.string s] w fun e w' => e = .returned (.bool (uriOk s)) ∧ Below w.heap.size w w' :=
  (uri_spec s w hs).mono (fun _ _ h => ⟨h.1, h.2 ▸ Below.refl _ _⟩)
end Msg
end Go.Proofs.YtbajfklnekfeoaaGreatDoor
namespace Go.Proofs.YtbajfklnekfeoaaGreatDoor
open Go.RowKit
set_option linter.unusedVariables false
namespace Flds

set_option maxRecDepth 100000 in
set_option maxHeartbeats 1000000 in
theorem get_spec (v : Value) (l : List Fld) (name : ByteArray) (w : World) (h : Is w v l) (hl : bulk l ≤ 1099511627776) :
    Calls Tryz.prog 110 #[v, .string name] w fun e w' => e = .returned (.tuple #[.string (get l name).1, .bool (get l name).2]) ∧ w = w' := by
  obtain ⟨a, c, rfl, h2⟩ := is_form h
  have HA := Num.hide h2
  have hlen : l.length ≤ 1099511627776 := by unfold bulk at hl; omega
  clear h h2
  obtain ⟨r, hr⟩ : ∃ r, get l name = r := ⟨_, rfl⟩
  rw [hr]
  have HR := Num.hide hr
  clear hr
  go_enter Tryz.func110, Tryz.ntmps110
  go_wp2
  go_loop [6, 7, 8] (fun sv bv iv => ∃ i : Nat, i ≤ l.length ∧ iv = .int .i64 (i : Int) ∧ (∃ s b, sv = .string s ∧ bv = .bool b ∧ Hid (get (l.take i) name = (s, b)))) (fun _ _ iv => l.length - (intOf iv).toNat)
  case atStart => exact ⟨0, by omega, rfl, _, _, rfl, rfl, rfl⟩
  case round =>
    obtain ⟨i, hi, rfl, s, b, rfl, rfl, HG⟩ := hrel
    by_cases hlt : i < l.length
    · obtain ⟨bk, o, rfl, hc, hmx, hblt, hcell⟩ := Num.unhide HA (by omega)
      obtain ⟨c1, c2⟩ := hcell i hlt
      have HT := Num.hide (get_take l name i hlt)
      have hsz := get_size (l.take i) name
      rw [HG.out] at hsz
      have hb1 := bulk_le l i
      have hss : s.size ≤ 4398046511104 := by
        simp only at hsz
        rw [List.length_take] at hsz
        unfold bulk at hl
        omega
      have hys : (l[i]).2.size ≤ 4398046511104 := by
        have h3 := bulk_take l i hlt
        have h4 := bulk_le l (i + 1)
        unfold bulk at hl
        omega
      clear hcell hsz hb1
      generalize l[i] = f at c1 c2 HT hys
      obtain ⟨x, y⟩ := f
      simp only at c1 c2 hys
      by_cases he : x = name
      · subst he
        cases b with
        | true =>
          have HT2 : Hid (get (l.take (i + 1)) x = (s ++ ⟨#[44, 32]⟩ ++ y, true)) := by
            have := HT.out
            rw [HG.out] at this
            rw [this]; unfold getStep; rw [if_pos rfl, if_pos rfl]; rfl
          go_wp2
          go_round
          case rel => exact ⟨i + 1, by omega, by go_num, _, _, rfl, rfl, HT2⟩
          case measure => simp [intOf]; omega
        | false =>
          have HT2 : Hid (get (l.take (i + 1)) x = (s ++ y, true)) := by
            have := HT.out
            rw [HG.out] at this
            rw [this]; unfold getStep; rw [if_pos rfl, if_neg (by simp)]; rfl
          go_wp2
          go_round
          case rel => exact ⟨i + 1, by omega, by go_num, _, _, rfl, rfl, HT2⟩
          case measure => simp [intOf]; omega
      · have d := text_ne' he
        have d' : (x.toList != name.toList) = true := by rw [bne, d]; rfl
        have HT2 : Hid (get (l.take (i + 1)) name = (s, b)) := by
          have := HT.out
          rw [HG.out] at this
          rw [this]; unfold getStep; rw [if_neg he]; rfl
        clear he
        go_wp2
        go_round
        case rel => exact ⟨i + 1, by omega, by go_num, _, _, rfl, rfl, HT2⟩
        case measure => simp [intOf]; omega
    · obtain rfl : i = l.length := by omega
      have hg := HG.out
      rw [List.take_of_length_le (Nat.le_refl _), HR.out] at hg
      subst hg
      go_wp2
      go_ret2
      exact ⟨rfl, rfl⟩
theorem get_spec_b (v : Value) (l : List Fld) (name : ByteArray) (w : World) (h : Is w v l) (hl : bulk l ≤ 1099511627776) :
    Calls Tryz.prog 110 #[v, .string name] w fun e w' => e = .returned (.tuple #[.string (get l name).1, .bool (get l name).2]) ∧ Below w.heap.size w w' :=
  (get_spec v l name w h hl).mono fun e w' ⟨h1, h2⟩ => ⟨h1, by subst h2; exact Below.refl _ _⟩
end Flds
end Go.Proofs.YtbajfklnekfeoaaGreatDoor
namespace Go.Proofs.YtbajfklnekfeoaaGreatDoor
open Go.RowKit
set_option linter.unusedVariables false
namespace Msg

theorem bulk_each {l : List Flds.Fld} (h : Flds.bulk l ≤ 1099511627776) : ∀ f ∈ l, f.1.size ≤ maxLen ∧ f.2.size ≤ maxLen := by
  intro f hf
  obtain ⟨i, hi, rfl⟩ := List.getElem_of_mem hf
  have h3 := Flds.bulk_take l i hi
  have h4 := Flds.bulk_le l (i + 1)
  unfold Flds.bulk at h; unfold maxLen
  omega
set_option maxRecDepth 100000 in
set_option maxHeartbeats 2000000 in
theorem plain_spec (v : Value) (l : List Flds.Fld) (w : World) (h : Flds.Is w v l) (hl : Flds.bulk l ≤ 1099511627776) :
    Calls Tryz.prog 57 #[v] w fun e w' => e = .returned (.bool (plain l)) ∧ Below w.heap.size w w' := by
  have hlen : l.length ≤ 1099511627776 := by unfold Flds.bulk at hl; omega
  have HG1 := Num.hide (Flds.get_spec v l Body.teName w h hl)
  have HG2 := Num.hide (Flds.get_spec v l Body.clName w h hl)
  have HO := Num.hide (Flds.ok_spec v l w h (bulk_each hl) hlen)
  obtain ⟨a, c, rfl, _⟩ := Flds.is_form h
  clear h
  obtain ⟨r, hr⟩ : ∃ r, plain l = r := ⟨_, rfl⟩
  rw [hr]
  unfold plain at hr
  unfold Body.teName at HG1
  unfold Body.clName at HG2
  generalize hx : Flds.get l Body.teName = x at hr
  generalize hy : Flds.get l Body.clName = y at hr
  have hx' : Flds.get l ⟨#[116, 114, 97, 110, 115, 102, 101, 114, 45, 101, 110, 99, 111, 100, 105, 110, 103]⟩ = x := hx
  have hy' : Flds.get l ⟨#[99, 111, 110, 116, 101, 110, 116, 45, 108, 101, 110, 103, 116, 104]⟩ = y := hy
  rw [hx'] at HG1
  rw [hy'] at HG2
  generalize Flds.ok l = o at HO hr
  obtain ⟨x1, x2⟩ := x
  obtain ⟨y1, y2⟩ := y
  simp only at hr HG1 HG2
  clear hx hy hx' hy' hl
  cases x2 with
  | true =>
    obtain rfl : false = r := by rw [← hr]; rfl
    clear hr
    go_enter Tryz.func57, Tryz.ntmps57
    go_wp2_with fail
    refine HG1.out.mono ?_
    rintro e w1 ⟨rfl, rfl⟩
    go_wp2_with fail
    refine HG2.out.mono ?_
    rintro e w1 ⟨rfl, rfl⟩
    go_wp2
    go_ret
    exact ⟨rfl, Below.refl _ _⟩
  | false =>
    cases y2 with
    | true =>
      obtain rfl : false = r := by rw [← hr]; rfl
      clear hr
      go_enter Tryz.func57, Tryz.ntmps57
      go_wp2_with fail
      refine HG1.out.mono ?_
      rintro e w1 ⟨rfl, rfl⟩
      go_wp2_with fail
      refine HG2.out.mono ?_
      rintro e w1 ⟨rfl, rfl⟩
      go_wp2
      go_ret
      exact ⟨rfl, Below.refl _ _⟩
    | false =>
      by_cases h12 : (l.length : Int) < 12
      · obtain rfl : o = r := by rw [← hr, decide_eq_true (by omega)]; rfl
        clear hr
        go_enter Tryz.func57, Tryz.ntmps57
        go_wp2_with fail
        refine HG1.out.mono ?_
        rintro e w1 ⟨rfl, rfl⟩
        go_wp2_with fail
        refine HG2.out.mono ?_
        rintro e w1 ⟨rfl, rfl⟩
        go_wp2_with fail
        refine HO.out.mono ?_
        rintro e w2 ⟨rfl, hb⟩
        have HB := Num.hide hb
        clear hb
        go_wp2
        go_ret
        exact ⟨rfl, HB.out⟩
      · obtain rfl : false = r := by rw [← hr, decide_eq_false (by omega)]; rfl
        have d12 : decide ((l.length : Int) < 12) = false := decide_eq_false h12
        clear hr
        go_enter Tryz.func57, Tryz.ntmps57
        go_wp2_with fail
        refine HG1.out.mono ?_
        rintro e w1 ⟨rfl, rfl⟩
        go_wp2_with fail
        refine HG2.out.mono ?_
        rintro e w1 ⟨rfl, rfl⟩
        go_wp2
        go_ret
        exact ⟨rfl, Below.refl _ _⟩
end Msg
end Go.Proofs.YtbajfklnekfeoaaGreatDoor
namespace Go.Proofs.YtbajfklnekfeoaaGreatDoor
open Go.RowKit
set_option linter.unusedVariables false
namespace Msg

set_option maxRecDepth 100000 in
set_option maxHeartbeats 2000000 in
theorem reqOk_spec (m u : ByteArray) (v : Value) (l : List Flds.Fld) (b : ByteArray) (w : World) (h : Flds.Is w v l) (hl : Flds.bulk l ≤ 1099511627776) (hm : m.size ≤ 1099511627776) (hu : u.size ≤ 1099511627776) (hb : b.size ≤ 1099511627776) :
    Calls Tryz.prog 20 #[Req.val m u v b] w fun e w' => e = .returned (.bool (reqOk m u l b)) ∧ Below w.heap.size w w' := by
  unfold Req.val
  have HT := Num.hide (fun W => Sign.isTok_spec m W (by unfold maxLen; omega))
  have HU := Num.hide (fun W => uri_spec u W (by unfold maxLen; omega))
  obtain ⟨a, c, rfl, _⟩ := Flds.is_form h
  have hb0 := (Below.refl w.heap.size w).alloc (Nat.le_refl _) (.cells #[.string m, .string u, .slice a l.length c, .string b] 39)
  have HB0 := Num.hide hb0
  have HP := Num.hide (plain_spec (.slice a l.length c) l _ (Recs.is_stay h (Nat.le_refl _) hb0) hl)
  clear h hb0 hl
  obtain ⟨r, hr⟩ : ∃ r, reqOk m u l b = r := ⟨_, rfl⟩
  rw [hr]
  unfold reqOk at hr
  generalize Sign.isTok m = t1 at HT hr
  generalize uriOk u = t2 at HU hr
  generalize plain l = t3 at HP hr
  cases t1 with
  | false =>
    obtain rfl : false = r := by rw [← hr]; rfl
    clear hr HU HP
    go_enter Tryz.func20, Tryz.ntmps20
    go_wp2_with fail
    refine (HT.out _).mono ?_
    rintro e w1 ⟨rfl, rfl⟩
    go_wp2
    go_ret
    exact ⟨rfl, HB0.out⟩
  | true =>
    by_cases h10 : (m.size : Int) ≤ 10
    · have e10 : decide (m.size ≤ 10) = true := decide_eq_true (by omega)
      rw [e10] at hr
      clear e10
      cases t2 with
      | false =>
        obtain rfl : false = r := by rw [← hr]; rfl
        clear hr HP
        go_enter Tryz.func20, Tryz.ntmps20
        go_wp2_with fail
        refine (HT.out _).mono ?_
        rintro e w1 ⟨rfl, rfl⟩
        go_wp2_with fail
        refine (HU.out _).mono ?_
        rintro e w1 ⟨rfl, rfl⟩
        go_wp2
        go_ret
        exact ⟨rfl, HB0.out⟩
      | true =>
        cases t3 with
        | false =>
          obtain rfl : false = r := by rw [← hr]; rfl
          clear hr
          go_enter Tryz.func20, Tryz.ntmps20
          go_wp2_with fail
          refine (HT.out _).mono ?_
          rintro e w1 ⟨rfl, rfl⟩
          go_wp2_with fail
          refine (HU.out _).mono ?_
          rintro e w1 ⟨rfl, rfl⟩
          go_wp2_with fail
          refine HP.out.mono ?_
          rintro e w2 ⟨rfl, hb2⟩
          have HB2 := Num.hide (HB0.out.trans (hb2.mono HB0.out.size))
          have k3 := (hb2.cell (p := ⟨w.heap.size, 3, none⟩) (by show w.heap.size < _; rw [World.size_alloc]; omega)).trans (cell_of_row _ _ _ _ _ _ (heap_alloc_new w _))
          simp only [List.getElem?_toArray, List.getElem?_cons_succ, List.getElem?_cons_zero] at k3
          clear hb2 HP
          go_wp2
          go_ret
          exact ⟨rfl, HB2.out⟩
        | true =>
          by_cases h60 : (b.size : Int) ≤ 60
          · obtain rfl : true = r := by rw [← hr, decide_eq_true (by omega : b.size ≤ 60)]; rfl
            clear hr
            go_enter Tryz.func20, Tryz.ntmps20
            go_wp2_with fail
            refine (HT.out _).mono ?_
            rintro e w1 ⟨rfl, rfl⟩
            go_wp2_with fail
            refine (HU.out _).mono ?_
            rintro e w1 ⟨rfl, rfl⟩
            go_wp2_with fail
            refine HP.out.mono ?_
            rintro e w2 ⟨rfl, hb2⟩
            have HB2 := Num.hide (HB0.out.trans (hb2.mono HB0.out.size))
            have k3 := (hb2.cell (p := ⟨w.heap.size, 3, none⟩) (by show w.heap.size < _; rw [World.size_alloc]; omega)).trans (cell_of_row _ _ _ _ _ _ (heap_alloc_new w _))
            simp only [List.getElem?_toArray, List.getElem?_cons_succ, List.getElem?_cons_zero] at k3
            clear hb2 HP
            go_wp2
            go_ret
            exact ⟨rfl, HB2.out⟩
          · obtain rfl : false = r := by rw [← hr, decide_eq_false (by omega : ¬ b.size ≤ 60)]; rfl
            have d60 : decide ((b.size : Int) ≤ 60) = false := decide_eq_false h60
            clear hr
            go_enter Tryz.func20, Tryz.ntmps20
            go_wp2_with fail
            refine (HT.out _).mono ?_
            rintro e w1 ⟨rfl, rfl⟩
            go_wp2_with fail
            refine (HU.out _).mono ?_
            rintro e w1 ⟨rfl, rfl⟩
            go_wp2_with fail
            refine HP.out.mono ?_
            rintro e w2 ⟨rfl, hb2⟩
            have HB2 := Num.hide (HB0.out.trans (hb2.mono HB0.out.size))
            have k3 := (hb2.cell (p := ⟨w.heap.size, 3, none⟩) (by show w.heap.size < _; rw [World.size_alloc]; omega)).trans (cell_of_row _ _ _ _ _ _ (heap_alloc_new w _))
            simp only [List.getElem?_toArray, List.getElem?_cons_succ, List.getElem?_cons_zero] at k3
            clear hb2 HP
            go_wp2
            go_ret
            exact ⟨rfl, HB2.out⟩
    · obtain rfl : false = r := by rw [← hr, decide_eq_false (by omega : ¬ m.size ≤ 10)]; rfl
      have d10 : decide ((m.size : Int) ≤ 10) = false := decide_eq_false h10
      clear hr HU HP
      go_enter Tryz.func20, Tryz.ntmps20
      go_wp2_with fail
      refine (HT.out _).mono ?_
      rintro e w1 ⟨rfl, rfl⟩
      go_wp2
      go_ret
      exact ⟨rfl, HB0.out⟩
end Msg
end Go.Proofs.YtbajfklnekfeoaaGreatDoor
namespace Go.Proofs.YtbajfklnekfeoaaGreatDoor
open Go.RowKit
set_option linter.unusedVariables false
namespace Msg

set_option maxRecDepth 100000 in
set_option maxHeartbeats 2000000 in
theorem respOk_spec (s : Int) (v : Value) (l : List Flds.Fld) (b : ByteArray) (w : World) (h : Flds.Is w v l) (hl : Flds.bulk l ≤ 1099511627776) (hb : b.size ≤ 1099511627776) :
    Calls Tryz.prog 25 #[Resp.val s v b] w fun e w' => e = .returned (.bool (respOk s l b)) ∧ Below w.heap.size w w' := by
  unfold Resp.val
  have HT := Num.hide (fun W => Date.in_spec s 200 599 W)
  obtain ⟨a, c, rfl, _⟩ := Flds.is_form h
  have hb0 := (Below.refl w.heap.size w).alloc (Nat.le_refl _) (.cells #[.int .i64 s, .slice a l.length c, .string b] 47)
  have HB0 := Num.hide hb0
  have HP := Num.hide (plain_spec (.slice a l.length c) l _ (Recs.is_stay h (Nat.le_refl _) hb0) hl)
  clear h hb0 hl
  obtain ⟨r, hr⟩ : ∃ r, respOk s l b = r := ⟨_, rfl⟩
  rw [hr]
  unfold respOk at hr
  generalize decide (200 ≤ s ∧ s ≤ 599) = t1 at HT hr
  generalize plain l = t3 at HP hr
  cases t1 with
  | false =>
    obtain rfl : false = r := by rw [← hr]; rfl
    clear hr HP
    go_enter Tryz.func25, Tryz.ntmps25
    go_wp2_with fail
    refine (HT.out _).mono ?_
    rintro e w1 ⟨rfl, rfl⟩
    go_wp2
    go_ret
    exact ⟨rfl, HB0.out⟩
  | true =>
    cases t3 with
    | false =>
      obtain rfl : false = r := by rw [← hr]; rfl
      clear hr
      go_enter Tryz.func25, Tryz.ntmps25
      go_wp2_with fail
      refine (HT.out _).mono ?_
      rintro e w1 ⟨rfl, rfl⟩
      go_wp2_with fail
      refine HP.out.mono ?_
      rintro e w2 ⟨rfl, hb2⟩
      have HB2 := Num.hide (HB0.out.trans (hb2.mono HB0.out.size))
      have k0 := (hb2.cell (p := ⟨w.heap.size, 0, none⟩) (by show w.heap.size < _; rw [World.size_alloc]; omega)).trans (cell_of_row _ _ _ _ _ _ (heap_alloc_new w _))
      have k2 := (hb2.cell (p := ⟨w.heap.size, 2, none⟩) (by show w.heap.size < _; rw [World.size_alloc]; omega)).trans (cell_of_row _ _ _ _ _ _ (heap_alloc_new w _))
      simp only [List.getElem?_toArray, List.getElem?_cons_succ, List.getElem?_cons_zero] at k0 k2
      clear hb2 HP
      go_wp2
      go_ret
      exact ⟨rfl, HB2.out⟩
    | true =>
      by_cases h60 : (b.size : Int) ≤ 60
      · rw [decide_eq_true (by omega : b.size ≤ 60)] at hr
        by_cases h4 : s = 204
        · have d4 : (s != 204) = false := by rw [bne_eq_false_iff_eq]; exact h4
          rw [decide_eq_false (fun h => h.1 h4), Bool.false_or] at hr
          by_cases he : b = ⟨#[]⟩
          · obtain rfl : true = r := by rw [← hr, decide_eq_true he]; rfl
            have db : b.toList.isEmpty = true := by rw [he, ByteArray.toList_eq]; rfl
            clear hr h4
            subst he
            go_enter Tryz.func25, Tryz.ntmps25
            go_wp2_with fail
            refine (HT.out _).mono ?_
            rintro e w1 ⟨rfl, rfl⟩
            go_wp2_with fail
            refine HP.out.mono ?_
            rintro e w2 ⟨rfl, hb2⟩
            have HB2 := Num.hide (HB0.out.trans (hb2.mono HB0.out.size))
            have k0 := (hb2.cell (p := ⟨w.heap.size, 0, none⟩) (by show w.heap.size < _; rw [World.size_alloc]; omega)).trans (cell_of_row _ _ _ _ _ _ (heap_alloc_new w _))
            have k2 := (hb2.cell (p := ⟨w.heap.size, 2, none⟩) (by show w.heap.size < _; rw [World.size_alloc]; omega)).trans (cell_of_row _ _ _ _ _ _ (heap_alloc_new w _))
            simp only [List.getElem?_toArray, List.getElem?_cons_succ, List.getElem?_cons_zero] at k0 k2
            clear hb2 HP
            go_wp2
            go_ret
            exact ⟨rfl, HB2.out⟩
          · obtain rfl : false = r := by rw [← hr, decide_eq_false he]; rfl
            have db : b.toList.isEmpty = false := Sign.empty_false b (by
              by_cases hz : 0 < b.size
              · exact hz
              · exact absurd (Sign.empty_true b (by omega)) he)
            clear hr h4 he
            go_enter Tryz.func25, Tryz.ntmps25
            go_wp2_with fail
            refine (HT.out _).mono ?_
            rintro e w1 ⟨rfl, rfl⟩
            go_wp2_with fail
            refine HP.out.mono ?_
            rintro e w2 ⟨rfl, hb2⟩
            have HB2 := Num.hide (HB0.out.trans (hb2.mono HB0.out.size))
            have k0 := (hb2.cell (p := ⟨w.heap.size, 0, none⟩) (by show w.heap.size < _; rw [World.size_alloc]; omega)).trans (cell_of_row _ _ _ _ _ _ (heap_alloc_new w _))
            have k2 := (hb2.cell (p := ⟨w.heap.size, 2, none⟩) (by show w.heap.size < _; rw [World.size_alloc]; omega)).trans (cell_of_row _ _ _ _ _ _ (heap_alloc_new w _))
            simp only [List.getElem?_toArray, List.getElem?_cons_succ, List.getElem?_cons_zero] at k0 k2
            clear hb2 HP
            go_wp2
            go_ret
            exact ⟨rfl, HB2.out⟩
        · have d4 : (s != 204) = true := by rw [bne_iff_ne]; exact h4
          by_cases h3 : s = 304
          · have d3 : (s != 304) = false := by rw [bne_eq_false_iff_eq]; exact h3
            rw [decide_eq_false (fun h => h.2 h3), Bool.false_or] at hr
            by_cases he : b = ⟨#[]⟩
            · obtain rfl : true = r := by rw [← hr, decide_eq_true he]; rfl
              clear hr h4 h3
              subst he
              go_enter Tryz.func25, Tryz.ntmps25
              go_wp2_with fail
              refine (HT.out _).mono ?_
              rintro e w1 ⟨rfl, rfl⟩
              go_wp2_with fail
              refine HP.out.mono ?_
              rintro e w2 ⟨rfl, hb2⟩
              have HB2 := Num.hide (HB0.out.trans (hb2.mono HB0.out.size))
              have k0 := (hb2.cell (p := ⟨w.heap.size, 0, none⟩) (by show w.heap.size < _; rw [World.size_alloc]; omega)).trans (cell_of_row _ _ _ _ _ _ (heap_alloc_new w _))
              have k2 := (hb2.cell (p := ⟨w.heap.size, 2, none⟩) (by show w.heap.size < _; rw [World.size_alloc]; omega)).trans (cell_of_row _ _ _ _ _ _ (heap_alloc_new w _))
              simp only [List.getElem?_toArray, List.getElem?_cons_succ, List.getElem?_cons_zero] at k0 k2
              clear hb2 HP
              go_wp2
              go_ret
              exact ⟨rfl, HB2.out⟩
            · obtain rfl : false = r := by rw [← hr, decide_eq_false he]; rfl
              have db : b.toList.isEmpty = false := Sign.empty_false b (by
                by_cases hz : 0 < b.size
                · exact hz
                · exact absurd (Sign.empty_true b (by omega)) he)
              clear hr h4 he h3
              go_enter Tryz.func25, Tryz.ntmps25
              go_wp2_with fail
              refine (HT.out _).mono ?_
              rintro e w1 ⟨rfl, rfl⟩
              go_wp2_with fail
              refine HP.out.mono ?_
              rintro e w2 ⟨rfl, hb2⟩
              have HB2 := Num.hide (HB0.out.trans (hb2.mono HB0.out.size))
              have k0 := (hb2.cell (p := ⟨w.heap.size, 0, none⟩) (by show w.heap.size < _; rw [World.size_alloc]; omega)).trans (cell_of_row _ _ _ _ _ _ (heap_alloc_new w _))
              have k2 := (hb2.cell (p := ⟨w.heap.size, 2, none⟩) (by show w.heap.size < _; rw [World.size_alloc]; omega)).trans (cell_of_row _ _ _ _ _ _ (heap_alloc_new w _))
              simp only [List.getElem?_toArray, List.getElem?_cons_succ, List.getElem?_cons_zero] at k0 k2
              clear hb2 HP
              go_wp2
              go_ret
              exact ⟨rfl, HB2.out⟩
          · have d3 : (s != 304) = true := by rw [bne_iff_ne]; exact h3
            obtain rfl : true = r := by rw [← hr, decide_eq_true ⟨h4, h3⟩]; rfl
            clear hr h4 h3
            go_enter Tryz.func25, Tryz.ntmps25
            go_wp2_with fail
            refine (HT.out _).mono ?_
            rintro e w1 ⟨rfl, rfl⟩
            go_wp2_with fail
            refine HP.out.mono ?_
            rintro e w2 ⟨rfl, hb2⟩
            have HB2 := Num.hide (HB0.out.trans (hb2.mono HB0.out.size))
            have k0 := (hb2.cell (p := ⟨w.heap.size, 0, none⟩) (by show w.heap.size < _; rw [World.size_alloc]; omega)).trans (cell_of_row _ _ _ _ _ _ (heap_alloc_new w _))
            have k2 := (hb2.cell (p := ⟨w.heap.size, 2, none⟩) (by show w.heap.size < _; rw [World.size_alloc]; omega)).trans (cell_of_row _ _ _ _ _ _ (heap_alloc_new w _))
            simp only [List.getElem?_toArray, List.getElem?_cons_succ, List.getElem?_cons_zero] at k0 k2
            clear hb2 HP
            go_wp2
            go_ret
            exact ⟨rfl, HB2.out⟩
      · obtain rfl : false = r := by rw [← hr, decide_eq_false (by omega : ¬ b.size ≤ 60)]; rfl
        have d60 : decide ((b.size : Int) ≤ 60) = false := decide_eq_false h60
        clear hr
        go_enter Tryz.func25, Tryz.ntmps25
        go_wp2_with fail
        refine (HT.out _).mono ?_
        rintro e w1 ⟨rfl, rfl⟩
        go_wp2_with fail
        refine HP.out.mono ?_
        rintro e w2 ⟨rfl, hb2⟩
        have HB2 := Num.hide (HB0.out.trans (hb2.mono HB0.out.size))
        have k0 := (hb2.cell (p := ⟨w.heap.size, 0, none⟩) (by show w.heap.size < _; rw [World.size_alloc]; omega)).trans (cell_of_row _ _ _ _ _ _ (heap_alloc_new w _))
        have k2 := (hb2.cell (p := ⟨w.heap.size, 2, none⟩) (by show w.heap.size < _; rw [World.size_alloc]; omega)).trans (cell_of_row _ _ _ _ _ _ (heap_alloc_new w _))
        simp only [List.getElem?_toArray, List.getElem?_cons_succ, List.getElem?_cons_zero] at k0 k2
        clear hb2 HP
        go_wp2
        go_ret
        exact ⟨rfl, HB2.out⟩
end Msg
end Go.Proofs.YtbajfklnekfeoaaGreatDoor
namespace Go.Proofs.YtbajfklnekfeoaaGreatDoor
open Go.RowKit
set_option linter.unusedVariables false
namespace Flds

theorem take_succ_same {α : Type} (a b : List α) (k : Nat) (ha : k < a.length) (hb : k < b.length) : a.take (k + 1) = b.take (k + 1) ↔ a.take k = b.take k ∧ a[k] = b[k] := by
  rw [List.take_succ_eq_append_getElem ha, List.take_succ_eq_append_getElem hb]
  constructor
  · intro h
    have h1 := List.append_inj h (by rw [List.length_take, List.length_take]; omega)
    exact ⟨h1.1, by simpa using h1.2⟩
  · rintro ⟨h1, h2⟩; rw [h1, h2]
theorem guard_run (op : BinOp) (a b : Operand) (xs ys : Array Value) (W : World) : (eqGuard op 36 a b (.agg xs) (.agg ys)).run Tryz.prog W = .ok () W := run_eqGuard_agg W op 36 a b xs ys (by kernel_rfl)
theorem eq_run (x y x' y' : ByteArray) (W : World) : (Op.equalIn 10000 36 (.agg #[.string x, .string y]) (.agg #[.string x', .string y'])).run Tryz.prog W = .ok (x.toList == x'.toList && y.toList == y'.toList) W := by
  have u9 := Tryz.underlying9
  have a9 := Tryz.isAgg9
  have z9 := Tryz.sizeOf9
  rw [show (10000 : Nat) = 9999 + 1 from rfl, run_equalIn_agg W 9999 36 _ _ (by kernel_rfl) (by kernel_rfl)]
  simp only [Program.fieldsOf, Tryz.underlying36]
  go_simp
  by_cases h1 : x.toList = x'.toList <;> by_cases h2 : y.toList = y'.toList <;> simp [h1, h2]
theorem neq_run (x y x' y' : ByteArray) (W : World) : (binOp .neq 36 (.agg #[.string x, .string y]) (.agg #[.string x', .string y'])).run Tryz.prog W = .ok (.bool (!decide (((x, y) : Fld) = (x', y')))) W := by
  have e : (x.toList == x'.toList && y.toList == y'.toList) = decide (((x, y) : Fld) = (x', y')) := by
    rw [Bool.eq_iff_iff, Bool.and_eq_true, beq_iff_eq, beq_iff_eq, decide_eq_true_iff, ByteArray.toList_eq, ByteArray.toList_eq, ByteArray.toList_eq, ByteArray.toList_eq, Prod.mk.injEq]
    exact ⟨fun h => ⟨ByteArray.ext (Array.toList_inj.1 h.1), ByteArray.ext (Array.toList_inj.1 h.2)⟩, fun h => ⟨by rw [h.1], by rw [h.2]⟩⟩
  rw [run_neq_struct, eq_run, e]; rfl
end Flds
end Go.Proofs.YtbajfklnekfeoaaGreatDoor
namespace Go.Proofs.YtbajfklnekfeoaaGreatDoor
open Go.RowKit
set_option linter.unusedVariables false
namespace Flds

set_option maxRecDepth 100000 in
set_option maxHeartbeats 1000000 in
theorem same_spec (va vb : Value) (la lb : List Fld) (w : World) (ha : Is w va la) (hb : Is w vb lb) (hla : la.length ≤ 1099511627776) : Calls Tryz.prog 21 #[va, vb] w fun e w' => e = .returned (.bool (decide (la = lb))) ∧ ∃ n, w' = w.drewN n := by
  obtain ⟨aa, ca, rfl, ha2⟩ := is_form ha
  obtain ⟨ab, cb, rfl, hb2⟩ := is_form hb
  have HA := Num.hide ha2
  have HB := Num.hide hb2
  clear ha hb ha2 hb2
  obtain ⟨r, hr⟩ : ∃ r, decide (la = lb) = r := ⟨_, rfl⟩
  rw [hr]
  have HR := Num.hide hr
  clear hr
  by_cases hl : la.length = lb.length
  · have hne : ((la.length : Int) != (lb.length : Int)) = false := by rw [hl]; simp
    have HL := Num.hide hl
    clear hl
    go_enter Tryz.func21, Tryz.ntmps21
    go_wp2
    clear hne
    go_loopw [5] (fun i wr => ∃ k n : Nat, k ≤ la.length ∧ i = .int .i64 (k : Int) ∧ Hid (wr = w.drewN n) ∧ Hid (la.take k = lb.take k)) (fun i _ => la.length - (intOf i).toNat)
    case atStart => exact ⟨0, 0, by omega, rfl, rfl, by simp [Hid]⟩
    case round =>
      obtain ⟨k, n, hk, rfl, HW, HT⟩ := hrel
      by_cases hlt : k < la.length
      · have hlt2 : k < lb.length := by have := HL.out; omega
        obtain ⟨ba, oa, rfl, hca, hma, hba, hcella⟩ := Num.unhide HA (by omega)
        obtain ⟨bb, ob, rfl, hcb, hmb, hbb, hcellb⟩ := Num.unhide HB (by omega)
        obtain ⟨ga1, ga2⟩ := hcella k hlt
        obtain ⟨gb1, gb2⟩ := hcellb k hlt2
        have c1 : wr.cell? ⟨ba, oa + k * 2, none⟩ = some (.string la[k].1) := by rw [HW.out]; exact ga1
        have c2 : wr.cell? ⟨ba, oa + k * 2 + 1, none⟩ = some (.string la[k].2) := by rw [HW.out]; exact ga2
        have c3 : wr.cell? ⟨bb, ob + k * 2, none⟩ = some (.string lb[k].1) := by rw [HW.out]; exact gb1
        have c4 : wr.cell? ⟨bb, ob + k * 2 + 1, none⟩ = some (.string lb[k].2) := by rw [HW.out]; exact gb2
        have HS := Num.hide (take_succ_same la lb k hlt hlt2)
        clear hcella hcellb ga1 ga2 gb1 gb2
        generalize la[k] = f at c1 c2 HS
        generalize lb[k] = g at c3 c4 HS
        obtain ⟨x, y⟩ := f
        obtain ⟨x', y'⟩ := g
        simp only at c1 c2 c3 c4
        have hg := fun op a b W => guard_run op a b #[.string x, .string y] #[.string x', .string y'] W
        have hq := fun W => neq_run x y x' y' W
        by_cases he : ((x, y) : Fld) = (x', y')
        · rw [decide_eq_true he] at hq
          have HT2 : Hid (la.take (k + 1) = lb.take (k + 1)) := HS.out.2 ⟨HT.out, he⟩
          clear he
          go_wp2
          go_quiet (fail)
          go_wp2
          go_roundw
          case rel => exact ⟨k + 1, n + nq, by omega, by go_num, by show _ = _; rw [HW.out, World.drewN_drewN], HT2⟩
          case measure => simp [intOf]; omega
        · rw [decide_eq_false he] at hq
          have hf : r = false := by
            rw [← HR.out]
            refine decide_eq_false (fun h => he ?_)
            exact (HS.out.1 (by rw [h])).2
          subst hf
          clear he
          go_wp2
          go_quiet (fail)
          go_wp2
          go_ret
          exact ⟨rfl, n + nq, by rw [HW.out, World.drewN_drewN]⟩
      · have ht : r = true := by
          rw [← HR.out]
          refine decide_eq_true ?_
          have h := HT.out
          rwa [List.take_of_length_le (by omega), List.take_of_length_le (by have := HL.out; omega)] at h
        subst ht
        go_wp2
        go_ret
        exact ⟨rfl, n, HW.out⟩
  · have hne : ((la.length : Int) != (lb.length : Int)) = true := by rw [bne_iff_ne]; omega
    have hf : r = false := by rw [← HR.out]; exact decide_eq_false (fun h => hl (by rw [h]))
    subst hf
    go_enter Tryz.func21, Tryz.ntmps21
    go_wp2
    go_ret
    exact ⟨rfl, 0, rfl⟩
theorem same_spec_b (va vb : Value) (la lb : List Fld) (w : World) (ha : Is w va la) (hb : Is w vb lb) (hla : la.length ≤ 1099511627776) : Calls Tryz.prog 21 #[va, vb] w fun e w' => e = .returned (.bool (decide (la = lb))) ∧ Below w.heap.size w w' :=
  (same_spec va vb la lb w ha hb hla).mono fun e w' ⟨h1, n, h2⟩ => ⟨h1, by subst h2; exact Recs.below_drewN (Below.refl _ _) n⟩
end Flds
end Go.Proofs.YtbajfklnekfeoaaGreatDoor
