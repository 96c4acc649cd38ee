/-
  FldLineNum: Lines of a text, and the fields of lines: plain facts (where Cut finds a line's end, a colon; reading by lines is reading field by field).
  FldLines: linesAhead of the program: the lines up to an empty one, in a row of the call's own; what was there stays.
  FldChsT: putChosen of the program from texts to fields, and readField: a field off each line that has a colon, behind each other in a row of the call's own.
  FldReadImpl: ReadFields of the program: fields read off a text, in a row of the call's own; what was there stays.
  FldShowImpl: ShowFields of the program: the text of fields, put together in a builder; what was there stays.
  FldBack: Plain facts on fields: what is set is there once, what is dropped is not, the rest stays; what is shown is read again.
  FldSetImpl: FieldSet of the program: a field is set, in a row of the call's own; what was there stays.
  FldGetImpl: FieldGet of the program: all values of a name, joined; what was there stays.
  FldSameSpec: SameFields of the specification: are two lists of fields alike?
  FldDropSpec: FieldDrop of the specification: a list of fields in a row of the call's own; what was there stays.
  DrawFlds: The specification's draws of lists of fields, of names and of values.
  Code: The bytes that a law is handed, as the draws read them.
  FieldsWalk: FnFields: what is set is there once; what is dropped is not; all else stays; fields are read from their text: for every draw.
-/
import Derived.Test.YtbeljhonikhdjaaDoorFldReadSpec
import Derived.Lib.CutLaws
import Derived.Test.YtbeljhonikhdjaaDoorStrs
import Derived.Test.YtbeljhonikhdjaaDoorShelfCut
import Derived.Test.YtbeljhonikhdjaaDoorChsFld
import Derived.Test.YtbeljhonikhdjaaDoorLowerImpl
import Derived.Test.YtbeljhonikhdjaaDoorTrimImpl
import Derived.Test.YtbeljhonikhdjaaDoorFldOkImpl
import Derived.Test.YtbeljhonikhdjaaDoorFldShowSpec
import Derived.Test.YtbeljhonikhdjaaDoorShelfBuild
import Derived.Test.YtbeljhonikhdjaaDoorFldSets
import Derived.Test.YtbeljhonikhdjaaDoorFldGets
import Derived.Test.YtbeljhonikhdjaaDoorFldDropImpl
import Derived.Test.YtbeljhonikhdjaaDoorChsStr
import Derived.Test.YtbeljhonikhdjaaDoorShelfClone
import Derived.Test.YtbeljhonikhdjaaDoorShelfJoin
import Derived.Test.YtbeljhonikhdjaaDoorFlds
import Derived.Deep.QuietTactic
import Derived.BigQuiet
import Derived.Laws.StructEq
import Derived.Test.YtbeljhonikhdjaaDoorDrawFld
import Derived.Test.YtbeljhonikhdjaaDoorDrawByte
import Derived.OpenShut
namespace Go.Proofs.YtbeljhonikhdjaaDoor
open Go.RowKit
set_option linter.unusedVariables false
namespace Line

theorem byteAt_list (s : ByteArray) (i : Nat) (h : i < s.size) : ∃ b, s.data.toList.drop i = b :: s.data.toList.drop (i + 1) ∧ byteAt s i = b.toNat := by
  have h2 : i < s.data.toList.length := by simpa using h
  refine ⟨s.data.toList[i], List.drop_eq_getElem_cons h2, ?_⟩
  rw [byteAt_eq s i h]; rfl
theorem drop_end (s : ByteArray) (i : Nat) (h : s.size ≤ i) : s.data.toList.drop i = [] := List.drop_eq_nil_of_le (by simpa using h)
/-- what Index tells of an end of a line -/
def eolI (r : Option Nat) (i : Nat) : Int := match r with | some k => (k : Int) - (i : Int) | none => -1
theorem index_eolGo (s : ByteArray) : ∀ (n i : Nat), n = s.size - i → Lib.index (s.data.toList.drop i) [13, 10] = eolI (eolGo s n i) i := by
  intro n
  induction n with
  | zero => intro i h; rw [drop_end s i (by omega)]; rfl
  | succ n ih =>
    intro i h
    obtain ⟨b, e, hb⟩ := byteAt_list s i (by omega)
    have ih2 := ih (i + 1) (by omega)
    rw [e]
    unfold Lib.index eolGo
    rw [ih2]
    by_cases hc : byteAt s i = 13 ∧ byteAt s (i + 1) = 10
    · rw [if_pos hc, if_pos]
      · show (0 : Int) = (i : Int) - (i : Int); omega
      · have h13 : b = 13 := by rw [← UInt8.toNat_inj, ← hb]; exact hc.1
        have hlt : i + 1 < s.size := by
          by_cases hz : i + 1 < s.size
          · exact hz
          · exfalso; have := hc.2; unfold byteAt at this; rw [dif_neg hz] at this; omega
        obtain ⟨b2, e2, hb2⟩ := byteAt_list s (i + 1) hlt
        have h10 : b2 = 10 := by rw [← UInt8.toNat_inj, ← hb2]; exact hc.2
        rw [e2, h13, h10]; rfl
    · rw [if_neg hc, if_neg]
      · cases hg : eolGo s n (i + 1) with
        | none => rfl
        | some k =>
          have := eolGo_in s _ _ _ hg
          show (if ((k : Int) - ((i + 1 : Nat) : Int) == -1) = true then (-1 : Int) else (k : Int) - ((i + 1 : Nat) : Int) + 1) = (k : Int) - (i : Int)
          rw [if_neg (by rw [beq_iff_eq]; omega)]; omega
      · intro hp
        apply hc
        by_cases hlt : i + 1 < s.size
        · obtain ⟨b2, e2, hb2⟩ := byteAt_list s (i + 1) hlt
          rw [e2] at hp
          simp only [List.isPrefixOf, Bool.and_eq_true, beq_iff_eq, and_true] at hp
          exact ⟨by rw [hb, ← hp.1]; rfl, by rw [hb2, ← hp.2]; rfl⟩
        · rw [drop_end s (i + 1) (by omega)] at hp
          simp [List.isPrefixOf] at hp
theorem extract_list (s : ByteArray) (a : Nat) : (s.extract a s.size).data.toList = s.data.toList.drop a := by
  rw [Lib.extract_data]
  exact List.take_of_length_le (by rw [List.length_drop, ← Lib.size_eq]; exact Nat.le_refl _)
theorem index_eol (s : ByteArray) (a : Nat) : Lib.indexB (s.extract a s.size) ⟨#[13, 10]⟩ = eolI (eol s a) a := by
  show Lib.index (s.extract a s.size).data.toList [13, 10] = _
  rw [extract_list]
  exact index_eolGo s _ a rfl
def colonI (r : Option Nat) (i : Nat) : Int := match r with | some k => (k : Int) - (i : Int) | none => -1
theorem index_colonGo (s : ByteArray) : ∀ (n i : Nat), n = s.size - i → Lib.index (s.data.toList.drop i) [58] = colonI (colonGo s n i) i := by
  intro n
  induction n with
  | zero => intro i h; rw [drop_end s i (by omega)]; rfl
  | succ n ih =>
    intro i h
    obtain ⟨b, e, hb⟩ := byteAt_list s i (by omega)
    have ih2 := ih (i + 1) (by omega)
    rw [e]
    unfold Lib.index colonGo
    rw [ih2]
    by_cases hc : byteAt s i = 58
    · rw [if_pos hc, if_pos]
      · show (0 : Int) = (i : Int) - (i : Int); omega
      · have h58 : b = 58 := by rw [← UInt8.toNat_inj, ← hb]; exact hc
        rw [h58]; rfl
    · rw [if_neg hc, if_neg]
      · cases hg : colonGo s n (i + 1) with
        | none => rfl
        | some k =>
          have := colonGo_in s _ _ _ hg
          show (if ((k : Int) - ((i + 1 : Nat) : Int) == -1) = true then (-1 : Int) else (k : Int) - ((i + 1 : Nat) : Int) + 1) = (k : Int) - (i : Int)
          rw [if_neg (by rw [beq_iff_eq]; omega)]; omega
      · intro hp
        apply hc
        simp only [List.isPrefixOf, Bool.and_eq_true, beq_iff_eq, and_true] at hp
        rw [hb, ← hp]; rfl
theorem index_colon (s : ByteArray) : Lib.indexB s ⟨#[58]⟩ = colonI (colon s) 0 := by
  show Lib.index s.data.toList [58] = _
  have := index_colonGo s s.size 0 rfl
  rw [List.drop_zero] at this
  exact this
/-- what Cut tells at a line's end -/
theorem cut_none {s : ByteArray} {a : Nat} (h : eol s a = none) : (⟨(Lib.cut (s.extract a s.size).data.toList (⟨#[13, 10]⟩ : ByteArray).data.toList).1.toArray⟩ : ByteArray) = s.extract a s.size ∧ (⟨(Lib.cut (s.extract a s.size).data.toList (⟨#[13, 10]⟩ : ByteArray).data.toList).2.1.toArray⟩ : ByteArray) = ByteArray.empty ∧ (Lib.cut (s.extract a s.size).data.toList (⟨#[13, 10]⟩ : ByteArray).data.toList).2.2 = false :=
  Lib.cutB_miss _ _ (by rw [index_eol, h]; rfl)
theorem ext_ext (s : ByteArray) (a i : Nat) (h1 : a ≤ i) (h2 : i ≤ s.size) : (s.extract a s.size).extract 0 (i - a) = s.extract a i := by
  rw [ByteArray.extract_extract, Nat.add_zero]
  congr 1
  omega
theorem cut_some {s : ByteArray} {a i : Nat} (h : eol s a = some i) : (⟨(Lib.cut (s.extract a s.size).data.toList (⟨#[13, 10]⟩ : ByteArray).data.toList).1.toArray⟩ : ByteArray) = s.extract a i ∧ (Lib.cut (s.extract a s.size).data.toList (⟨#[13, 10]⟩ : ByteArray).data.toList).2.2 = true := by
  have hin := eol_in h
  obtain ⟨h1, _, h3⟩ := Lib.cutB_hit (s.extract a s.size) ⟨#[13, 10]⟩ (i - a) (by rw [index_eol, h]; show (i : Int) - (a : Int) = ((i - a : Nat) : Int); omega)
  exact ⟨h1.trans (ext_ext s a i hin.1 (by omega)), h3⟩
theorem cutc_none {s : ByteArray} (h : colon s = none) : (⟨(Lib.cut s.data.toList (⟨#[58]⟩ : ByteArray).data.toList).1.toArray⟩ : ByteArray) = s ∧ (⟨(Lib.cut s.data.toList (⟨#[58]⟩ : ByteArray).data.toList).2.1.toArray⟩ : ByteArray) = ByteArray.empty ∧ (Lib.cut s.data.toList (⟨#[58]⟩ : ByteArray).data.toList).2.2 = false :=
  Lib.cutB_miss _ _ (by rw [index_colon, h]; rfl)
theorem cutc_some {s : ByteArray} {k : Nat} (h : colon s = some k) : (⟨(Lib.cut s.data.toList (⟨#[58]⟩ : ByteArray).data.toList).1.toArray⟩ : ByteArray) = s.extract 0 k ∧ (⟨(Lib.cut s.data.toList (⟨#[58]⟩ : ByteArray).data.toList).2.1.toArray⟩ : ByteArray) = s.extract (k + 1) s.size ∧ (Lib.cut s.data.toList (⟨#[58]⟩ : ByteArray).data.toList).2.2 = true :=
  Lib.cutB_hit s ⟨#[58]⟩ k (by rw [index_colon, h]; show (k : Int) - ((0 : Nat) : Int) = (k : Int); omega)
end Line
namespace Flds

/-- the lines from 'a' on up to an empty one, at most n with it, and the place behind it -/
def linesGo (s : ByteArray) : Nat → Nat → Option (List ByteArray × Nat)
  | 0, _ => none
  | n + 1, a =>
    match Line.eol s a with
    | none => none
    | some i => if i = a then some ([], i + 2) else (linesGo s n (i + 2)).map fun p => (s.extract a i :: p.1, p.2)
def lines (s : ByteArray) : Option (List ByteArray × Nat) := linesGo s 13 0
structure LnAt (s : ByteArray) (a : Nat) (L : List ByteArray) : Prop where
  le : a ≤ s.size
  len : L.length ≤ 13
  small : ∀ t ∈ L, t.size ≤ s.size
  same : lines s = (linesGo s (13 - L.length) a).map fun p => (L ++ p.1, p.2)
theorem ln_start (s : ByteArray) : LnAt s 0 [] where
  le := Nat.zero_le _
  len := Nat.zero_le _
  small := fun t h => by cases h
  same := by
    show linesGo s 13 0 = (linesGo s 13 0).map fun p => ([] ++ p.1, p.2)
    cases linesGo s 13 0 <;> rfl
section
variable {s : ByteArray} {a : Nat} {L : List ByteArray}
theorem ln_full (h : LnAt s a L) (hl : ¬ L.length ≤ 12) : lines s = none := by
  rw [h.same, show 13 - L.length = 0 by omega]; rfl
theorem ln_step (hl : L.length ≤ 12) : ∃ n, 13 - L.length = n + 1 := ⟨12 - L.length, by omega⟩
theorem ln_none (h : LnAt s a L) (hl : L.length ≤ 12) (he : Line.eol s a = none) : lines s = none := by
  obtain ⟨n, hn⟩ := ln_step hl
  rw [h.same, hn, linesGo, he]; rfl
theorem ln_done (h : LnAt s a L) (hl : L.length ≤ 12) (he : Line.eol s a = some a) : lines s = some (L, a + 2) := by
  obtain ⟨n, hn⟩ := ln_step hl
  rw [h.same, hn, linesGo, he]; simp
theorem ln_more (h : LnAt s a L) (hl : L.length ≤ 12) {i : Nat} (he : Line.eol s a = some i) (hi : i ≠ a) : LnAt s (i + 2) (L ++ [s.extract a i]) where
  le := by have := Line.eol_in he; omega
  len := by rw [List.length_append]; simp; omega
  small := by
    intro t ht
    rcases List.mem_append.1 ht with h1 | h1
    · exact h.small t h1
    · obtain rfl := List.mem_singleton.1 h1
      rw [ByteArray.size_extract]; omega
  same := by
    obtain ⟨n, hn⟩ := ln_step hl
    rw [h.same, hn, linesGo, he]
    simp only
    rw [if_neg hi, List.length_append, List.length_singleton, show 13 - (L.length + 1) = n by omega]
    cases linesGo s n (i + 2) <;> simp
end
/-- what is told of the lines -/
def lnL (s : ByteArray) : List ByteArray := match lines s with | some (l, _) => l | none => []
def lnN (s : ByteArray) : Int := match lines s with | some (_, n) => (n : Int) | none => 0
def lnB (s : ByteArray) : Bool := (lines s).isSome
theorem ln_told_none {s : ByteArray} (h : lines s = none) : lnL s = [] ∧ lnN s = 0 ∧ lnB s = false := by unfold lnL lnN lnB; rw [h]; exact ⟨rfl, rfl, rfl⟩
theorem ln_told_some {s : ByteArray} {l : List ByteArray} {n : Nat} (h : lines s = some (l, n)) : lnL s = l ∧ lnN s = (n : Int) ∧ lnB s = true := by unfold lnL lnN lnB; rw [h]; exact ⟨rfl, rfl, rfl⟩
theorem linesGo_len (s : ByteArray) : ∀ (n a : Nat) (p : List ByteArray × Nat), linesGo s n a = some p → p.1.length < n ∧ ∀ t ∈ p.1, t.size ≤ s.size := by
  intro n
  induction n with
  | zero => intro a p h; cases h
  | succ n ih =>
    intro a p h
    rw [linesGo] at h
    cases he : Line.eol s a with
    | none => rw [he] at h; cases h
    | some i =>
      rw [he] at h
      simp only at h
      by_cases hi : i = a
      · rw [if_pos hi] at h; cases h; exact ⟨Nat.zero_lt_succ _, fun t ht => by cases ht⟩
      · rw [if_neg hi] at h
        obtain ⟨q, hq, rfl⟩ := Option.map_eq_some_iff.1 h
        obtain ⟨h1, h2⟩ := ih _ _ hq
        refine ⟨by simp; omega, fun t ht => ?_⟩
        rcases List.mem_cons.1 ht with rfl | h3
        · rw [ByteArray.size_extract]; omega
        · exact h2 t h3
/-- the field of a line -/
def fieldAt (t : ByteArray) : Option Fld := (Line.colon t).map (fieldOf t)
def good (t : ByteArray) : Bool := match fieldAt t with | some f => okF f | none => false
theorem read_lines (s : ByteArray) : ∀ (n a : Nat) (l : List Fld), readGo s n a l = (linesGo s n a).bind fun p => if p.1.all good = true then some (l ++ p.1.filterMap fieldAt, p.2) else none := by
  intro n
  induction n with
  | zero => intro a l; rfl
  | succ n ih =>
    intro a l
    rw [readGo, linesGo]
    cases he : Line.eol s a with
    | none => rfl
    | some i =>
      simp only
      by_cases hi : i = a
      · rw [if_pos hi, if_pos hi]; simp
      · rw [if_neg hi, if_neg hi]
        cases hc : Line.colon (s.extract a i) with
        | none =>
          have hg : good (s.extract a i) = false := by unfold good fieldAt; rw [hc]; rfl
          cases linesGo s n (i + 2) with
          | none => rfl
          | some p => simp [hg]
        | some k =>
          simp only
          have hf : fieldAt (s.extract a i) = some (fieldOf (s.extract a i) k) := by unfold fieldAt; rw [hc]; rfl
          have hg : good (s.extract a i) = okF (fieldOf (s.extract a i) k) := by unfold good; rw [hf]
          cases hok : okF (fieldOf (s.extract a i) k) with
          | false =>
            rw [if_neg (by simp)]
            cases linesGo s n (i + 2) with
            | none => rfl
            | some p => simp [hg, hok]
          | true =>
            rw [if_pos rfl, ih]
            cases linesGo s n (i + 2) with
            | none => rfl
            | some p => simp [hg, hok, hf]
theorem read_of_lines (s : ByteArray) : read s = (lines s).bind fun p => if p.1.all good = true then some (p.1.filterMap fieldAt, p.2) else none := by
  unfold read lines
  rw [read_lines]
  simp
theorem flt_len (L : List ByteArray) : (L.filterMap fieldAt).length ≤ L.length := List.length_filterMap_le _ _
/-- where a line has no field, or one is not right, nothing is read -/
theorem good_short (L : List ByteArray) (h : (L.filterMap fieldAt).length < L.length) : L.all good = false := by
  rw [Bool.eq_false_iff]
  intro ha
  rw [List.all_eq_true] at ha
  have : ∀ (M : List ByteArray), (∀ t ∈ M, good t = true) → (M.filterMap fieldAt).length = M.length := by
    intro M
    induction M with
    | nil => intro _; rfl
    | cons t M ih =>
      intro hM
      have h1 := hM t (List.mem_cons_self ..)
      have h2 := ih (fun u hu => hM u (List.mem_cons_of_mem _ hu))
      unfold good at h1
      cases hf : fieldAt t with
      | none => rw [hf] at h1; cases h1
      | some f => rw [List.filterMap_cons_some hf, List.length_cons, List.length_cons, h2]
  have := this L ha
  omega
theorem good_full (L : List ByteArray) (h : ¬ (L.filterMap fieldAt).length < L.length) : L.all good = (L.filterMap fieldAt).all okF := by
  induction L with
  | nil => rfl
  | cons t M ih =>
    cases hf : fieldAt t with
    | none =>
      rw [List.filterMap_cons_none hf, List.length_cons] at h
      have := flt_len M
      omega
    | some f =>
      rw [List.filterMap_cons_some hf, List.length_cons, List.length_cons] at h
      have hg : good t = okF f := by unfold good; rw [hf]
      rw [List.filterMap_cons_some hf, List.all_cons, List.all_cons, hg, ih (by omega)]
theorem flt_take (L : List ByteArray) (k : Nat) (h : k < L.length) : (L.take (k + 1)).filterMap fieldAt = (L.take k).filterMap fieldAt ++ (match fieldAt L[k] with | some f => [f] | none => []) := by
  rw [List.take_succ_eq_append_getElem h, List.filterMap_append]
  cases hf : fieldAt L[k] with
  | none => rw [List.filterMap_cons_none hf]; rfl
  | some f => rw [List.filterMap_cons_some hf]; rfl
end Flds
end Go.Proofs.YtbeljhonikhdjaaDoor
namespace Go.Proofs.YtbeljhonikhdjaaDoor
open Go.RowKit
set_option linter.unusedVariables false
namespace Flds

/-- the library's variable holds some number -/
def Lim (w : World) : Prop := ∃ m, w.cell? ⟨0, 0, none⟩ = some (.int .i64 m)
theorem lim_lt {w : World} (h : Lim w) : 0 < w.heap.size := by obtain ⟨m, hm⟩ := h; exact Recs.lt_of_cell hm
theorem lim_of {w : World} (h : w.ShapedOpen Tryd.prog) : Lim w := Shelf.laysM145.s1_3 w h
theorem lim_below {w w' : World} {B : Nat} (h : Lim w) (hb : Below B w w') (hB : 0 < B) : Lim w' := by
  obtain ⟨m, hm⟩ := h
  exact ⟨m, (hb.cell (p := ⟨0, 0, none⟩) hB).trans hm⟩
theorem cut_eol (s : ByteArray) (a : Nat) (w : World) (hs : s.size ≤ 1048576) (hm : Lim w) :
    Calls Tryd.prog 58 #[.string (s.extract a s.size), .string ⟨#[13, 10]⟩] w fun e w' => ∃ x y, e = .returned (.tuple #[.string x, .string y, .bool (Line.eol s a).isSome]) ∧ (∀ i, Line.eol s a = some i → x = s.extract a i) ∧ ∃ n, w.drewN n = w' := by
  obtain ⟨m, hm⟩ := hm
  refine (Shelf.strings_Cut (s.extract a s.size) ⟨#[13, 10]⟩ m w (by rw [ByteArray.size_extract]; omega) hm).mono ?_
  rintro e w' ⟨rfl, n, rfl⟩
  cases he : Line.eol s a with
  | none =>
    obtain ⟨e1, e2, e3⟩ := Line.cut_none he
    exact ⟨_, _, by rw [e1, e2, e3]; rfl, (fun i h => by cases h), n, rfl⟩
  | some i =>
    obtain ⟨e1, e3⟩ := Line.cut_some he
    exact ⟨_, _, by rw [e1, e3]; rfl, (fun j h => by cases h; rfl), n, rfl⟩
set_option maxRecDepth 100000 in
set_option maxHeartbeats 2000000 in
theorem lines_impl (s : ByteArray) (w : World) (hs : s.size ≤ 1048576) (hm : Lim w) :
    Calls Tryd.prog 40 #[.string s] w fun e w' => ∃ v', e = .returned (.tuple #[v', .int .i64 (lnN s), .bool (lnB s)]) ∧ Strs.OwnS w.heap.size w' v' (lnL s) ∧ Below w.heap.size w w' := by
  obtain ⟨i0, hi0, hz0, hz1, hz2⟩ := info_parts Strs.infoS
  obtain ⟨L, hL⟩ : ∃ L, lnL s = L := ⟨_, rfl⟩
  obtain ⟨N, hN⟩ : ∃ N, lnN s = N := ⟨_, rfl⟩
  obtain ⟨b, hb⟩ : ∃ b, lnB s = b := ⟨_, rfl⟩
  rw [hL, hN, hb]
  have HR : Hid (lnL s = L ∧ lnN s = N ∧ lnB s = b) := ⟨hL, hN, hb⟩
  clear hL hN hb
  have HE : Hid (lines s = none → L = [] ∧ N = 0 ∧ b = false) := fun h => by
    obtain ⟨h1, h2, h3⟩ := ln_told_none h
    obtain ⟨g1, g2, g3⟩ := HR.out
    exact ⟨g1.symm.trans h1, g2.symm.trans h2, g3.symm.trans h3⟩
  have HF : Hid (∀ l n, lines s = some (l, n) → L = l ∧ N = (n : Int) ∧ b = true) := fun l n h => by
    obtain ⟨h1, h2, h3⟩ := ln_told_some h
    obtain ⟨g1, g2, g3⟩ := HR.out
    exact ⟨g1.symm.trans h1, g2.symm.trans h2, g3.symm.trans h3⟩
  have HM := Num.hide hm
  have hlm := lim_lt hm
  clear HR hm
  go_enter Tryd.func40, Tryd.ntmps40
  go_wp2
  go_loopw [5, 6] (fun ov av wr => ∃ (a : Nat) (l : List ByteArray), av = .int .i64 (a : Int) ∧ Hid (LnAt s a l) ∧ Hid (Strs.OwnS w.heap.size wr ov l) ∧ Hid (Below w.heap.size w wr)) (fun _ av _ => s.size - (intOf av).toNat)
  case atStart => exact ⟨0, [], rfl, ln_start s, Strs.own_nil _ _, Below.refl _ _⟩
  case round =>
    obtain ⟨a, l, rfl, HA, HO, HB⟩ := hrel
    obtain ⟨va, vc, hv⟩ := Strs.own_len HO.out
    subst hv
    have hle := HA.out.le
    have hln := HA.out.len
    have hsz := HB.out.size
    by_cases h12 : l.length ≤ 12
    · have d12 : decide ((l.length : Int) ≤ 12) = true := by simp; omega
      have HC := Num.hide (cut_eol s a wr hs (lim_below HM.out HB.out hlm))
      cases he : Line.eol s a with
      | none =>
        rw [he] at HC
        obtain ⟨rfl, rfl, rfl⟩ := Num.unhide HE (ln_none HA.out h12 he)
        clear he
        go_wp2_with fail
        refine (Num.unhide HC).mono ?_
        rintro e w1 ⟨x, y, rfl, _, n, rfl⟩
        go_wp2
        go_ret3
        exact ⟨_, rfl, Strs.own_nil _ _, Strs.below_drewN HB.out n⟩
      | some i =>
        rw [he] at HC
        have hin := Line.eol_in he
        by_cases hia : i = a
        · subst hia
          have hem : s.extract i i = ⟨#[]⟩ := Sign.empty_true _ (by rw [ByteArray.size_extract]; omega)
          obtain ⟨rfl, rfl, rfl⟩ := Num.unhide HF _ _ (ln_done HA.out h12 he)
          clear he
          go_wp2_with fail
          refine (Num.unhide HC).mono ?_
          rintro e w1 ⟨x, y, rfl, hx, n, rfl⟩
          obtain rfl : x = ⟨#[]⟩ := (hx i rfl).trans hem
          clear hx
          go_wp2
          go_ret3
          exact ⟨_, rfl, Strs.own_drewN HO.out n, Strs.below_drewN HB.out n⟩
        · have hts : (s.extract a i).size = i - a := by rw [ByteArray.size_extract]; omega
          have hne := Sign.empty_false (s.extract a i) (by omega)
          have HA2 := Num.hide (ln_more HA.out h12 he hia)
          clear he
          go_wp2_with fail
          refine (Num.unhide HC).mono ?_
          rintro e w1 ⟨x, y, rfl, hx, n, rfl⟩
          obtain rfl : x = s.extract a i := hx i rfl
          clear hx HC
          generalize s.extract a i = t at hne HA2 hts
          have hsz1 : w.heap.size ≤ (wr.drewN n).heap.size := hsz
          have HO1 : Hid (Strs.OwnS w.heap.size (wr.drewN n) (.slice va l.length vc) l) := Strs.own_drewN HO.out n
          have HB1 := Num.hide (Strs.below_drewN HB.out n)
          clear HO HB hsz
          generalize wr.drewN n = w1 at HO1 HB1 hsz1
          go_wp2_with (at_builtin; refine wpList_append_own _ rfl _ _ 50 rfl w.heap.size 9 i0 (.string ⟨#[]⟩) 1 16 Tryd.underlying50 hi0 hz0 hz1 hz2 rfl (by decide) _ _ _ rfl (World.ownsRow.alloc HO1.out _) ⟨w1.heap.size, 0, none⟩ 1 1 [.string t] rfl rfl (Strs.cells_one w1 t) (Strs.one_ok t) (by unfold maxLen; omega) (by omega) ?c5 ?_)
          case c5 => simp; omega
          intro v' w2 ho2 hg2 _
          have hp2 := Strs.below_grown (HB1.out.alloc hsz1 (.cells #[.string t] 9)) hg2 (fun j hj => (Strs.own_lt HO1.out j hj).1) (by simp; omega)
          have HP1 := Num.hide (Strs.own_snoc ho2)
          have HP2 := Num.hide hp2
          clear ho2 hg2 hp2
          go_wp2
          go_roundw
          case rel => exact ⟨i + 2, _, by go_num, HA2, HP1, HP2⟩
          case measure => simp [intOf]; omega
    · have d12 : decide ((l.length : Int) ≤ 12) = false := by simp; omega
      obtain ⟨rfl, rfl, rfl⟩ := Num.unhide HE (ln_full HA.out h12)
      go_wp2
      go_ret3
      exact ⟨_, rfl, Strs.own_nil _ _, HB.out⟩
end Flds
end Go.Proofs.YtbeljhonikhdjaaDoor
namespace Go.Proofs.YtbeljhonikhdjaaDoor
open Go.RowKit
set_option linter.unusedVariables false
namespace Flds

/-- what readField tells of a line -/
def lineF (t : ByteArray) : Fld := match Line.colon t with | some k => fieldOf t k | none => (Sign.lower t, Sign.trim ByteArray.empty)
theorem cut_colon (s : ByteArray) (w : World) (hs : s.size ≤ 1048576) (hm : Lim w) :
    Calls Tryd.prog 58 #[.string s, .string ⟨#[58]⟩] w fun e w' => ∃ x y, e = .returned (.tuple #[.string x, .string y, .bool (Line.colon s).isSome]) ∧ x.size ≤ 1048576 ∧ y.size ≤ 1048576 ∧ (Sign.lower x, Sign.trim y) = lineF s ∧ ∃ n, w.drewN n = w' := by
  obtain ⟨m, hm⟩ := hm
  refine (Shelf.strings_Cut s ⟨#[58]⟩ m w (by omega) hm).mono ?_
  rintro e w' ⟨rfl, n, rfl⟩
  unfold lineF
  cases he : Line.colon s with
  | none =>
    obtain ⟨e1, e2, e3⟩ := Line.cutc_none he
    exact ⟨_, _, by rw [e1, e2, e3]; rfl, hs, by decide, rfl, n, rfl⟩
  | some k =>
    obtain ⟨e1, e2, e3⟩ := Line.cutc_some he
    exact ⟨_, _, by rw [e1, e2, e3]; rfl, by rw [ByteArray.size_extract]; omega, by rw [ByteArray.size_extract]; omega, rfl, n, rfl⟩
set_option maxRecDepth 100000 in
set_option maxHeartbeats 2000000 in
theorem readF_any (s : ByteArray) (w : World) (hs : s.size ≤ 1048576) (hm : Lim w) :
    Calls Tryd.prog 42 #[.string s] w fun e w' => e = .returned (.tuple #[.agg #[.string (lineF s).1, .string (lineF s).2], .bool (Line.colon s).isSome]) ∧ Below w.heap.size w w' := by
  have c0 : (w.alloc (.cells #[.string ⟨#[]⟩, .string ⟨#[]⟩] 33)).heap[w.heap.size]? = some (.cells #[.string ⟨#[]⟩, .string ⟨#[]⟩] 33) := heap_alloc_new w _
  have HC := Num.hide c0
  have hb0 := (Below.refl w.heap.size w).alloc (Nat.le_refl _) (.cells #[.string ⟨#[]⟩, .string ⟨#[]⟩] 33)
  have HB0 := Num.hide hb0
  have hz0 : w.heap.size + 1 = (w.alloc (.cells #[.string ⟨#[]⟩, .string ⟨#[]⟩] 33)).heap.size := by simp
  have HM := Num.hide (cut_colon s _ hs (lim_below hm hb0 (lim_lt hm)))
  clear c0 hb0 hm
  generalize lineF s = f at HM
  generalize (Line.colon s).isSome = b at HM
  obtain ⟨f1, f2⟩ := f
  go_enter Tryd.func42, Tryd.ntmps42
  go_wp2_with fail
  refine HM.out.mono ?_
  rintro e w0 ⟨x, y, rfl, hx, hy, hf, n, rfl⟩
  simp only [Prod.mk.injEq] at hf
  obtain ⟨rfl, rfl⟩ := hf
  go_wp2_with fail
  refine (Sign.lower_impl x _ (by unfold maxLen; omega)).mono ?_
  rintro e w1 ⟨rfl, hb1⟩
  go_wp2_with fail
  refine (Sign.trim_impl y _ (by omega)).mono ?_
  rintro e w2 ⟨rfl, hb2⟩
  obtain ⟨k0, k1, g0, g1⟩ := two_cells (show w2.heap[w.heap.size]? = _ from by rw [hb2.block _ (by have := hb1.size; change (w.alloc _).heap.size ≤ _ at this; omega), hb1.block _ (by show _ < (w.alloc _).heap.size; omega)]; exact HC.out)
  have HB := Num.hide ((Strs.below_drewN HB0.out n).trans (((hb1.mono (by show _ ≤ (w.alloc _).heap.size; omega : w.heap.size ≤ _)).trans (hb2.mono (by have := hb1.size; change (w.alloc _).heap.size ≤ _ at this; omega)))))
  clear hb1 hb2 HB0 HC hz0 HM
  have r0 := Num.hide (box_first (x := Sign.lower x) (y := Sign.trim y) k0)
  have r1 := Num.hide (box_second (x := Sign.lower x) (y := Sign.trim y) k1)
  have HB1 := Num.hide ((HB.out.setCell (p := ⟨w.heap.size, 0, none⟩) (Nat.le_refl _) (.string (Sign.lower x))).setCell (p := ⟨w.heap.size, 1, none⟩) (Nat.le_refl _) (.string (Sign.trim y)))
  go_wp2
  generalize ((w2.setCell ⟨w.heap.size, 0, none⟩ (.string (Sign.lower x))).setCell ⟨w.heap.size, 1, none⟩ (.string (Sign.trim y))) = w3 at r0 r1 HB1 ⊢
  have r0 := r0.out
  have r1 := r1.out
  exact bodyPost_ret (v := .tuple #[.agg #[.string (Sign.lower x), .string (Sign.trim y)], .bool b]) (by simp [results, Tryd.results42, go_sem, r0, r1]) rfl ⟨rfl, HB1.out⟩
theorem flt_more (L : List ByteArray) (k : Nat) (h : k < L.length) : (L.take (k + 1)).filterMap fieldAt = (L.take k).filterMap fieldAt ++ (if (Line.colon L[k]).isSome = true then [lineF L[k]] else []) := by
  rw [flt_take L k h]
  congr 1
  unfold fieldAt lineF
  cases Line.colon L[k] <;> rfl
set_option maxRecDepth 100000 in
set_option maxHeartbeats 2000000 in
theorem fieldsOf_any (v : Value) (L : List ByteArray) (w : World) (h : Strs.Is w v L) (hl : L.length ≤ 1048576) (hz : ∀ t ∈ L, t.size ≤ 1048576) (hm : Lim w) :
    Calls Tryd.prog 41 #[v, .func (.func 42) #[] #[]] w fun e w' => ∃ v', e = .returned v' ∧ Own w.heap.size w' v' (L.filterMap fieldAt) ∧ Below w.heap.size w w' := by
  have h2 : ∃ a c, v = .slice a L.length c ∧ (0 < L.length → ∃ b o, a = some ⟨b, o, none⟩ ∧ L.length ≤ c ∧ c ≤ maxLen ∧ b < w.heap.size ∧ ∀ i (h : i < L.length), w.cell? ⟨b, o + i, none⟩ = some (.string L[i])) := by
    rcases h with ⟨rfl, a, c, rfl⟩ | ⟨b, o, c, rfl, h1, h2, h3⟩
    · exact ⟨a, c, rfl, fun h => by simp at h⟩
    · refine ⟨_, c, rfl, fun hp => ⟨b, o, rfl, h1, h2, ?_, h3⟩⟩
      exact Recs.lt_of_cell (h3 0 hp)
  obtain ⟨a, c, rfl, h2⟩ := h2
  have HA := Num.hide h2
  have HZ := Num.hide hz
  have HM := Num.hide hm
  have hlm := lim_lt hm
  have hent : ∀ args W, (callFunc 42 args).run Tryd.prog W = .ok (.enter 42 args) W := enters_of Tryd.func42 (by kernel_rfl) rfl
  clear h h2 hz hm
  obtain ⟨i0, hi0, hz0, hz1, hz2⟩ := info_parts infoF
  have HA0 : Hid (Own w.heap.size w (.slice none 0 0) ((L.take 0).filterMap fieldAt)) := Recs.own_nil _ _
  go_enter Tryd.func41, Tryd.ntmps41
  go_wp2
  go_loopw [5, 12] (fun ov iv wr => ∃ i : Nat, i ≤ L.length ∧ iv = .int .i64 (i : Int) ∧ Hid (Own w.heap.size wr ov ((L.take i).filterMap fieldAt)) ∧ Hid (Below w.heap.size w wr)) (fun _ iv _ => L.length - (intOf iv).toNat)
  case atStart => exact ⟨0, by omega, rfl, HA0, Below.refl _ _⟩
  case round =>
    clear HA0
    obtain ⟨i, hi, rfl, HO, HB⟩ := hrel
    have hsz := HB.out.size
    by_cases hlt : i < L.length
    · obtain ⟨bk, o, rfl, hc, hmx, hblt, hcell⟩ := Num.unhide HA (by omega)
      have c1 : wr.cell? ⟨bk, o + i, none⟩ = some (.string L[i]) := by rw [HB.out.cell (p := ⟨bk, o + i, none⟩) hblt]; exact hcell i hlt
      have HCi := Num.hide (readF_any L[i] wr (HZ.out _ (List.getElem_mem hlt)) (lim_below HM.out HB.out hlm))
      have HF := Num.hide (flt_more L i hlt)
      have hdl : ((L.take i).filterMap fieldAt).length ≤ 1048576 := by have := flt_len (L.take i); rw [List.length_take] at this; omega
      clear hcell
      generalize L[i] = t at c1 HCi HF
      generalize lineF t = f at HCi HF
      generalize (Line.colon t).isSome = tb at HCi HF
      obtain ⟨m1, m2⟩ := f
      simp only at HCi
      go_wp2_with fail
      refine HCi.out.mono ?_
      rintro e w1 ⟨rfl, hb1⟩
      have HO2 := Num.hide (Recs.own_below HO.out hb1)
      have HB2 := Num.hide (HB.out.trans (hb1.mono hsz))
      have hsz2 := Nat.le_trans hsz hb1.size
      clear hb1 HO HB c1 HCi
      have hsz3 : w.heap.size ≤ (w1.alloc (.cells #[.string m1, .string m2] 33)).heap.size := by simp; omega
      have HB3 := Num.hide (HB2.out.alloc hsz2 (.cells #[.string m1, .string m2] 33))
      have HO3 := Num.hide (World.ownsRow.alloc HO2.out (.cells #[.string m1, .string m2] 33))
      clear HO2 HB2
      cases tb with
      | false =>
        have HO4 : Hid (Own w.heap.size (w1.alloc (.cells #[.string m1, .string m2] 33)) u5 ((L.take (i + 1)).filterMap fieldAt)) := by
          rw [HF.out, if_neg (by simp), List.append_nil]; exact HO3
        clear HO3
        go_wp2
        go_roundw
        case rel => exact ⟨i + 1, by omega, by go_num, HO4, HB3⟩
        case measure => simp [intOf]; omega
      | true =>
        have HF2 : Hid ((L.take (i + 1)).filterMap fieldAt = (L.take i).filterMap fieldAt ++ [(m1, m2)]) := by show _ = _; rw [HF.out, if_pos rfl]
        clear HF
        go_wp2_with (at_builtin; refine wpList_append_own _ rfl _ _ 24 rfl w.heap.size 33 i0 _ 2 32 Tryd.underlying24 hi0 hz0 hz1 hz2 rfl (by decide) _ _ _ rfl (World.ownsRow.alloc HO3.out _) ⟨w1.heap.size + 1, 0, none⟩ 1 1 [.string m1, .string m2] rfl rfl (by simpa using cells_two (w1.alloc (.cells #[.string m1, .string m2] 33)) m1 m2) (two_ok m1 m2) (by unfold maxLen; omega) (by omega) ?c5 ?_)
        case c5 => first | omega | (simp; omega)
        intro v' w2 ho2 hg2 _
        obtain ⟨hp1, hp2⟩ := put_more hsz3 HO3.out (Below.refl w.heap.size _) ho2 hg2
        have HP1 : Hid (Own w.heap.size w2 v' ((L.take (i + 1)).filterMap fieldAt)) := by rw [HF2.out]; exact hp1
        have HP2 := Num.hide (HB3.out.trans hp2)
        clear ho2 hg2 hp1 hp2
        go_wp2
        go_roundw
        case rel => exact ⟨i + 1, by omega, by go_num, HP1, HP2⟩
        case measure => simp [intOf]; omega
    · obtain rfl : i = L.length := by omega
      have ho := HO.out
      rw [List.take_length] at ho
      have HO2 := Num.hide ho
      clear ho HO
      go_wp2
      go_ret
      exact ⟨_, rfl, HO2.out, HB.out⟩
end Flds
end Go.Proofs.YtbeljhonikhdjaaDoor
namespace Go.Proofs.YtbeljhonikhdjaaDoor
open Go.RowKit
set_option linter.unusedVariables false
namespace Flds

/-- sizes of the fields of lines -/
theorem fld_small {L : List ByteArray} (h : ∀ t ∈ L, t.size ≤ 1048576) : ∀ f ∈ L.filterMap fieldAt, f.1.size ≤ 1048576 ∧ f.2.size ≤ 1048576 := by
  intro f hf
  obtain ⟨t, ht, he⟩ := List.mem_filterMap.1 hf
  unfold fieldAt at he
  obtain ⟨k, hk, rfl⟩ := Option.map_eq_some_iff.1 he
  have := h t ht
  unfold fieldOf
  refine ⟨by show (Sign.lower _).size ≤ _; rw [Sign.size_lower, ByteArray.size_extract]; omega, ?_⟩
  have h2 := Sign.trim_size (t.extract (k + 1) t.size)
  rw [ByteArray.size_extract] at h2
  show (Sign.trim _).size ≤ _
  omega
/-- what is told, by the lines -/
theorem told_bad {s : ByteArray} {L : List ByteArray} {n : Nat} (h : lines s = some (L, n)) (hg : L.all good = false) : readL s = [] ∧ readN s = 0 ∧ readB s = false :=
  told_none (by rw [read_of_lines, h]; simp only [Option.bind_some]; rw [if_neg (by rw [hg]; decide)])
theorem told_good {s : ByteArray} {L : List ByteArray} {n : Nat} (h : lines s = some (L, n)) (hg : L.all good = true) : readL s = L.filterMap fieldAt ∧ readN s = (n : Int) ∧ readB s = true :=
  told_some (by rw [read_of_lines, h]; simp only [Option.bind_some]; rw [if_pos hg])
set_option maxRecDepth 100000 in
set_option maxHeartbeats 2000000 in
theorem read_impl (s : ByteArray) (w : World) (hs : s.size ≤ 1048576) (hS : Sign.Signs w) (hm : Lim w) :
    Calls Tryd.prog 16 #[.string s] w fun e w' => ∃ v', e = .returned (.tuple #[v', .int .i64 (readN s), .bool (readB s)]) ∧ Own w.heap.size w' v' (readL s) ∧ Below w.heap.size w w' := by
  have HLn := Num.hide (lines_impl s w hs hm)
  have HM := Num.hide hm
  have HSg := Num.hide hS
  have hlm := lim_lt hm
  have hsg := signs_lt hS
  clear hm hS
  cases hl : lines s with
  | none =>
    obtain ⟨e1, e2, e3⟩ := ln_told_none hl
    obtain ⟨g1, g2, g3⟩ := told_none (s := s) (by rw [read_of_lines, hl]; rfl)
    rw [g1, g2, g3]
    rw [e1, e2, e3] at HLn
    clear e1 e2 e3 g1 g2 g3 hl
    go_enter Tryd.func16, Tryd.ntmps16
    go_wp2_with fail
    refine HLn.out.mono ?_
    rintro e w1 ⟨v, rfl, ho, hb⟩
    have HB := Num.hide hb
    clear ho hb
    go_wp2
    go_ret3
    exact ⟨_, rfl, Recs.own_nil _ _, HB.out⟩
  | some p =>
    obtain ⟨L, n⟩ := p
    obtain ⟨e1, e2, e3⟩ := ln_told_some hl
    rw [e1, e2, e3] at HLn
    obtain ⟨hn, hz0⟩ := linesGo_len s _ _ _ hl
    simp only at hn hz0
    have hz : ∀ t ∈ L, t.size ≤ 1048576 := fun t ht => Nat.le_trans (hz0 t ht) hs
    have HZ := Num.hide hz
    have HFs := Num.hide (fun v W h hm => fieldsOf_any v L W h (by omega) HZ.out hm)
    have HOk := Num.hide (fun v W h hS => ok_impl v (L.filterMap fieldAt) W h (fun f hf => by have := fld_small HZ.out f hf; unfold maxLen; omega) hS)
    have hfl := flt_len L
    have hent : ∀ args W, (callFunc 42 args).run Tryd.prog W = .ok (.enter 42 args) W := enters_of Tryd.func42 (by kernel_rfl) rfl
    by_cases hsh : (L.filterMap fieldAt).length < L.length
    · obtain ⟨g1, g2, g3⟩ := told_bad hl (good_short L hsh)
      rw [g1, g2, g3]
      clear e1 e2 e3 g1 g2 g3 hl hz hz0 HOk
      generalize L.filterMap fieldAt = F at HFs hsh hfl
      go_enter Tryd.func16, Tryd.ntmps16
      go_wp2_with fail
      refine HLn.out.mono ?_
      rintro e w1 ⟨v, rfl, ho, hb⟩
      obtain ⟨va, vc, hv⟩ := Strs.own_len ho
      subst hv
      have HB := Num.hide hb
      have HO := Num.hide ho
      clear ho hb HLn
      go_wp2_with fail
      refine (HFs.out _ _ (Strs.own_is HO.out) (lim_below HM.out HB.out hlm)).mono ?_
      rintro e w2 ⟨u, rfl, ho2, hb2⟩
      obtain ⟨ua, uc, hu⟩ := Recs.own_len ho2
      subst hu
      have HB2 := Num.hide (HB.out.trans (hb2.mono HB.out.size))
      clear ho2 hb2
      go_wp2
      go_ret3
      exact ⟨_, rfl, Recs.own_nil _ _, HB2.out⟩
    · have hg := good_full L hsh
      have hok : ok (L.filterMap fieldAt) = L.all good := by
        unfold ok
        rw [← hg, decide_eq_true (by omega : (L.filterMap fieldAt).length ≤ 12), Bool.and_true]
      rw [hok] at HOk
      have hfe : decide (((L.filterMap fieldAt).length : Int) < (L.length : Int)) = false := by rw [decide_eq_false_iff_not]; omega
      cases hga : L.all good with
      | false =>
        obtain ⟨g1, g2, g3⟩ := told_bad hl hga
        rw [g1, g2, g3]
        rw [hga] at HOk
        clear e1 e2 e3 g1 g2 g3 hl hz hz0 hg hok hga
        generalize L.filterMap fieldAt = F at HFs hsh hfl hfe HOk
        go_enter Tryd.func16, Tryd.ntmps16
        go_wp2_with fail
        refine HLn.out.mono ?_
        rintro e w1 ⟨v, rfl, ho, hb⟩
        obtain ⟨va, vc, hv⟩ := Strs.own_len ho
        subst hv
        have HB := Num.hide hb
        have HO := Num.hide ho
        clear ho hb HLn
        go_wp2_with fail
        refine (HFs.out _ _ (Strs.own_is HO.out) (lim_below HM.out HB.out hlm)).mono ?_
        rintro e w2 ⟨u, rfl, ho2, hb2⟩
        obtain ⟨ua, uc, hu⟩ := Recs.own_len ho2
        subst hu
        have HB2 := Num.hide (HB.out.trans (hb2.mono HB.out.size))
        have HO2 := Num.hide ho2
        clear ho2 hb2
        go_wp2_with fail
        refine (HOk.out _ _ (Recs.own_is cells_len HO2.out) (signs_below HSg.out HB2.out hsg)).mono ?_
        rintro e w3 ⟨rfl, hb3⟩
        have HB3 := Num.hide (HB2.out.trans (hb3.mono HB2.out.size))
        clear hb3
        go_wp2
        go_ret3
        exact ⟨_, rfl, Recs.own_nil _ _, HB3.out⟩
      | true =>
        obtain ⟨g1, g2, g3⟩ := told_good hl hga
        rw [g1, g2, g3]
        rw [hga] at HOk
        clear e1 e2 e3 g1 g2 g3 hl hz hz0 hg hok hga
        generalize L.filterMap fieldAt = F at HFs hsh hfl hfe HOk
        go_enter Tryd.func16, Tryd.ntmps16
        go_wp2_with fail
        refine HLn.out.mono ?_
        rintro e w1 ⟨v, rfl, ho, hb⟩
        obtain ⟨va, vc, hv⟩ := Strs.own_len ho
        subst hv
        have HB := Num.hide hb
        have HO := Num.hide ho
        clear ho hb HLn
        go_wp2_with fail
        refine (HFs.out _ _ (Strs.own_is HO.out) (lim_below HM.out HB.out hlm)).mono ?_
        rintro e w2 ⟨u, rfl, ho2, hb2⟩
        obtain ⟨ua, uc, hu⟩ := Recs.own_len ho2
        subst hu
        have HB2 := Num.hide (HB.out.trans (hb2.mono HB.out.size))
        have HO2 := Num.hide (Recs.own_mono ho2 HB.out.size)
        clear ho2 hb2
        go_wp2_with fail
        refine (HOk.out _ _ (Recs.own_is cells_len HO2.out) (signs_below HSg.out HB2.out hsg)).mono ?_
        rintro e w3 ⟨rfl, hb3⟩
        have HB3 := Num.hide (HB2.out.trans (hb3.mono HB2.out.size))
        have HO3 := Num.hide (Recs.own_below HO2.out hb3)
        clear hb3
        go_wp2
        go_ret3
        exact ⟨_, rfl, HO3.out, HB3.out⟩
end Flds
end Go.Proofs.YtbeljhonikhdjaaDoor
namespace Go.Proofs.YtbeljhonikhdjaaDoor
open Go.RowKit
set_option linter.unusedVariables false
namespace Flds

theorem str_app (a b : ByteArray) : Lib.strCells a ++ Lib.strCells b = Lib.strCells (a ++ b) := by
  unfold Lib.strCells
  rw [← List.map_append]
  congr 1
theorem one_line (x y : ByteArray) (s : ByteArray) : s ++ (x ++ ⟨#[58]⟩ ++ ⟨#[32]⟩ ++ y ++ ⟨#[13, 10]⟩) = showStep s (x, y) := by
  have e : (⟨#[58, 32]⟩ : ByteArray) = ⟨#[58]⟩ ++ ⟨#[32]⟩ := by decide
  unfold showStep
  rw [e]
  simp only [ByteArray.append_assoc]
theorem bulk_sizes {l : List Fld} {m : Nat} (hl : bulk l ≤ m) : ∀ f ∈ l, f.1.size ≤ m ∧ f.2.size ≤ m := by
  intro f hf
  obtain ⟨i, hi, rfl⟩ := List.getElem_of_mem hf
  have h3 := bulk_take l i hi
  have h4 := bulk_le l (i + 1)
  unfold bulk at hl
  omega
set_option maxRecDepth 100000 in
set_option maxHeartbeats 2000000 in
theorem show_impl (v : Value) (l : List Fld) (w : World) (h : Is w v l) (hl : bulk l ≤ 1048576) (hS : Sign.Signs w) :
    Calls Tryd.prog 15 #[v] w fun e w' => e = .returned (.string (shown l)) ∧ Below w.heap.size w w' := by
  have HC := Num.hide (ok_impl v l w h (fun f hf => by have := bulk_sizes hl f hf; unfold maxLen; omega) hS)
  have hlen : l.length ≤ 1048576 := by unfold bulk at hl; omega
  obtain ⟨a, c, rfl, h2⟩ := is_form h
  have HA := Num.hide h2
  clear h h2 hS
  obtain ⟨r, hr⟩ : ∃ r, shown l = r := ⟨_, rfl⟩
  rw [hr]
  unfold shown at hr
  cases hok : ok l with
  | false =>
    rw [hok, if_neg (by simp)] at hr
    rw [hok] at HC
    subst hr
    clear hok
    go_enter Tryd.func15, Tryd.ntmps15
    go_wp2_with fail
    refine HC.out.mono ?_
    rintro e w1 ⟨rfl, hb⟩
    have HB := Num.hide hb
    clear hb
    go_wp2
    go_ret
    exact ⟨rfl, HB.out⟩
  | true =>
    rw [hok, if_pos rfl] at hr
    rw [hok] at HC
    have HR := Num.hide hr
    clear hok hr
    go_enter Tryd.func15, Tryd.ntmps15
    go_wp2_with fail
    refine HC.out.mono ?_
    rintro e w1 ⟨rfl, hb⟩
    have HB := Num.hide hb
    have hs1 := hb.size
    clear hb HC
    have H0 := Num.hide (Lib.IsBuilderF.of (Lib.fresh_isBuilder 60 5 w1))
    have HL0 := Num.hide ((Below.refl w1.heap.size w1).alloc (Nat.le_refl _) (.cells #[.pointer none, .slice none 0 0] 60))
    go_wp2
    go_loopw [11] (fun iv wr => ∃ (i : Nat) (s : ByteArray), i ≤ l.length ∧ iv = .int .i64 (i : Int) ∧ Hid (showGo (l.take i) = s) ∧ Hid (Lib.IsBuilderF 60 5 w1.heap.size w1.heap.size (Lib.strCells s) wr) ∧ Hid (Below w1.heap.size w1 wr)) (fun iv _ => l.length - (intOf iv).toNat)
    case atStart => exact ⟨0, _, by omega, rfl, rfl, H0, HL0⟩
    case round =>
      clear H0 HL0
      obtain ⟨i, s, hi, rfl, HS, HU, HL⟩ := hrel
      have hss : s.size ≤ 8796093022208 := by
        have h1 := showGo_size (l.take i)
        have h2 := bulk_le l i
        rw [HS.out, List.length_take] at h1
        unfold bulk at hl
        omega
      have hs2 := HL.out.size
      by_cases hlt : i < l.length
      · obtain ⟨b, o, rfl, hc, hmx, hblt, hcell⟩ := Num.unhide HA (by omega)
        obtain ⟨g1, g2⟩ := hcell i hlt
        have c1 : wr.cell? ⟨b, o + i * 2, none⟩ = some (.string l[i].1) := by rw [HL.out.cell (p := ⟨b, o + i * 2, none⟩) (by show b < _; omega), HB.out.cell (p := ⟨b, o + i * 2, none⟩) hblt]; exact g1
        have c2 : wr.cell? ⟨b, o + i * 2 + 1, none⟩ = some (.string l[i].2) := by rw [HL.out.cell (p := ⟨b, o + i * 2 + 1, none⟩) (by show b < _; omega), HB.out.cell (p := ⟨b, o + i * 2 + 1, none⟩) hblt]; exact g2
        have hT := showGo_take l i hlt
        rw [HS.out] at hT
        have HT := Num.hide hT
        have hxy : (l[i]).1.size ≤ 1048576 ∧ (l[i]).2.size ≤ 1048576 := bulk_sizes hl _ (List.getElem_mem hlt)
        clear hcell g1 g2 hT
        generalize l[i] = f at c1 c2 HT hxy
        obtain ⟨x, y⟩ := f
        simp only at c1 c2 hxy
        have HW := Num.hide (Shelf.writeString w1.heap.size w1.heap.size (Lib.strCells s) (x ++ ⟨#[58]⟩ ++ ⟨#[32]⟩ ++ y ++ ⟨#[13, 10]⟩) (wr.alloc (.cells #[.string x, .string y] 33)) (HU.out.alloc _) (by rw [Lib.strCells_length]; simp only [ByteArray.size_append]; have h1 : (⟨#[58]⟩ : ByteArray).size = 1 := rfl; have h2 : (⟨#[32]⟩ : ByteArray).size = 1 := rfl; have h3 : (⟨#[13, 10]⟩ : ByteArray).size = 2 := rfl; omega) (by simp; omega))
        have HL2 := Num.hide (HL.out.alloc hs2 (.cells #[.string x, .string y] 33))
        go_wp2_with fail
        refine (Num.unhide HW).mono ?_
        rintro e w2 ⟨rfl, hu, hb2⟩
        have HU2 : Hid (Lib.IsBuilderF 60 5 w1.heap.size w1.heap.size (Lib.strCells (showStep s (x, y))) w2) := by
          rw [← one_line, ← str_app]; exact Or.inr hu
        have HL3 := Num.hide (HL2.out.trans hb2)
        clear hu hb2 HL2 HW HL HU
        go_wp2
        go_roundw
        case rel => exact ⟨i + 1, _, by omega, by go_num, HT, HU2, HL3⟩
        case measure => simp [intOf]; omega
      · obtain rfl : i = l.length := by omega
        have hs := HS.out
        rw [List.take_of_length_le (Nat.le_refl _)] at hs
        have hr := HR.out
        rw [hs] at hr
        subst hr
        clear hs
        have HW := Num.hide (Shelf.writeString w1.heap.size w1.heap.size (Lib.strCells s) ⟨#[13, 10]⟩ wr HU.out (by rw [Lib.strCells_length]; have h3 : (⟨#[13, 10]⟩ : ByteArray).size = 2 := rfl; omega) hs2)
        rw [str_app] at HW
        have HF := Num.hide (fun W k => Shelf.builderString w1.heap.size w1.heap.size (s ++ ⟨#[13, 10]⟩).data.toList W k)
        go_wp2_with fail
        refine (Num.unhide HW).mono ?_
        rintro e w2 ⟨rfl, hu, hb2⟩
        have HU2 := Num.hide hu
        have HL2 := Num.hide (HL.out.trans hb2)
        have hs3 := HL2.out.size
        clear hu hb2
        go_wp2_with fail
        refine (Num.unhide HF _ (Or.inr HU2.out) (by omega)).mono ?_
        rintro e w3 ⟨rfl, hu, hb3⟩
        have HL3 := Num.hide (HB.out.trans ((HL2.out.trans hb3).mono hs1))
        clear hu hb3
        go_wp2
        go_ret
        exact ⟨rfl, HL3.out⟩
end Flds
end Go.Proofs.YtbeljhonikhdjaaDoor
namespace Go.Proofs.YtbeljhonikhdjaaDoor
open Go.RowKit
set_option linter.unusedVariables false
namespace Flds

theorem get_snoc (l : List Fld) (f : Fld) (name : ByteArray) : get (l ++ [f]) name = getStep name (get l name) f := by unfold get; rw [List.foldl_append]; rfl
theorem drop_snoc (l : List Fld) (f : Fld) (name : ByteArray) : drop (l ++ [f]) name = drop l name ++ (if f.1 = name then [] else [f]) := by
  unfold drop
  rw [List.filter_append]
  by_cases e : f.1 = name
  · rw [if_pos e]; simp [e]
  · rw [if_neg e]; simp [e]
theorem setGo_snoc (l : List Fld) (f : Fld) (name value : ByteArray) : setGo (l ++ [f]) name value = setStep name value (setGo l name value) f := by unfold setGo; rw [List.foldl_append]; rfl
theorem get_none (l : List Fld) (name : ByteArray) (h : ∀ f ∈ l, ¬ f.1 = name) : get l name = (⟨#[]⟩, false) := by
  revert h
  refine Num.snoc_ind (P := fun l => (∀ f ∈ l, ¬ f.1 = name) → get l name = (⟨#[]⟩, false)) (fun _ => rfl) ?_ l
  intro l f ih h
  rw [get_snoc, ih (fun g hg => h g (List.mem_append_left _ hg))]
  unfold getStep
  rw [if_neg (h f (by simp))]
theorem get_drop (l : List Fld) (name : ByteArray) : get (drop l name) name = (⟨#[]⟩, false) := by
  apply get_none
  intro f hf
  unfold drop at hf
  have := (List.mem_filter.1 hf).2
  simpa using this
theorem get_drop_other (l : List Fld) (name other : ByteArray) (h : ¬ other = name) : get (drop l name) other = get l other := by
  refine Num.snoc_ind (P := fun l => get (drop l name) other = get l other) rfl ?_ l
  intro l f ih
  rw [drop_snoc, get_snoc]
  by_cases e : f.1 = name
  · rw [if_pos e, List.append_nil, ih]
    unfold getStep
    rw [if_neg (by rw [e]; exact fun h2 => h h2.symm)]
  · rw [if_neg e, get_snoc, ih]
theorem get_is (l : List Fld) (i : Nat) (h : i < l.length) : (get l l[i].1).2 = true := by
  have key : ∀ (l : List Fld) (name : ByteArray), (∃ f ∈ l, f.1 = name) → (get l name).2 = true := by
    intro l name
    refine Num.snoc_ind (P := fun l => (∃ f ∈ l, f.1 = name) → (get l name).2 = true) (fun ⟨f, hf, _⟩ => by cases hf) ?_ l
    intro l f ih hx
    rw [get_snoc]
    unfold getStep
    by_cases e : f.1 = name
    · rw [if_pos e]
    · rw [if_neg e]
      obtain ⟨g, hg, he⟩ := hx
      rcases List.mem_append.1 hg with h1 | h1
      · exact ih ⟨g, h1, he⟩
      · exact absurd he (by rw [List.mem_singleton.1 h1]; exact e)
  exact key l l[i].1 ⟨l[i], List.getElem_mem h, rfl⟩
/-- what has been gone through of a list, and what is set of it -/
theorem empty_app (v : ByteArray) : (⟨#[]⟩ : ByteArray) ++ v = v := by apply ByteArray.ext; simp
theorem setGo_spec (l : List Fld) (name value : ByteArray) :
    ((setGo l name value).2 = false → (setGo l name value).1 = drop l name) ∧
    ((setGo l name value).2 = true → drop (setGo l name value).1 name = drop l name ∧ get (setGo l name value).1 name = (value, true) ∧ (setGo l name value).1.length = (drop l name).length + 1) := by
  refine Num.snoc_ind (P := fun l => ((setGo l name value).2 = false → (setGo l name value).1 = drop l name) ∧
    ((setGo l name value).2 = true → drop (setGo l name value).1 name = drop l name ∧ get (setGo l name value).1 name = (value, true) ∧ (setGo l name value).1.length = (drop l name).length + 1)) ⟨fun _ => rfl, fun h => by cases h⟩ ?_ l
  intro l f ih
  rw [setGo_snoc, drop_snoc]
  generalize setGo l name value = r at ih
  obtain ⟨m, b⟩ := r
  simp only at ih
  unfold setStep
  by_cases e : f.1 = name
  · rw [if_pos e, if_pos e, List.append_nil]
    cases b with
    | true =>
      rw [if_pos rfl]
      exact ih
    | false =>
      rw [if_neg (by simp)]
      obtain ⟨h1, _⟩ := ih
      have h1 := h1 rfl
      subst h1
      refine ⟨(fun h => by cases h), fun _ => ⟨?_, ?_, ?_⟩⟩
      · rw [drop_snoc, if_pos rfl, List.append_nil]
        unfold drop
        rw [List.filter_filter]; simp
      · rw [get_snoc, get_drop]
        unfold getStep
        rw [if_pos rfl, if_neg (by simp), empty_app]
      · simp
  · rw [if_neg e, if_neg e]
    refine ⟨fun h => ?_, fun h => ?_⟩
    · simp only at h ⊢
      rw [ih.1 h]
    · simp only at h ⊢
      obtain ⟨h1, h2, h3⟩ := ih.2 h
      refine ⟨?_, ?_, ?_⟩
      · rw [drop_snoc, if_neg e, h1]
      · rw [get_snoc, h2]
        unfold getStep
        rw [if_neg e]
      · rw [List.length_append, List.length_append, h3]; simp
theorem set_spec_all (l : List Fld) (name value : ByteArray) : drop (set l name value) name = drop l name ∧ get (set l name value) name = (value, true) ∧ (set l name value).length = (drop l name).length + 1 := by
  have h := setGo_spec l name value
  unfold set
  cases hb : (setGo l name value).2 with
  | true => rw [if_pos rfl]; exact h.2 hb
  | false =>
    rw [if_neg (by simp), h.1 hb]
    refine ⟨?_, ?_, ?_⟩
    · rw [drop_snoc, if_pos rfl, List.append_nil]
      unfold drop
      rw [List.filter_filter]; simp
    · rw [get_snoc, get_drop]
      unfold getStep
      rw [if_pos rfl, if_neg (by simp), empty_app]
    · simp

/-- a line, as bytes -/
def enc (f : Fld) : List UInt8 := f.1.data.toList ++ [58, 32] ++ f.2.data.toList ++ [13, 10]
theorem index_line (t q : List UInt8) (h : ∀ b ∈ t, ¬ b = 13) : Lib.index (t ++ 13 :: 10 :: q) [13, 10] = (t.length : Int) := by
  induction t with
  | nil => simp [Lib.index, List.isPrefixOf]
  | cons b t ih =>
    have hb : ¬ b = 13 := h b (List.mem_cons_self ..)
    have ih2 := ih (fun c hc => h c (List.mem_cons_of_mem _ hc))
    rw [List.cons_append, Lib.index, ih2]
    rw [if_neg, if_neg]
    · rw [List.length_cons]; omega
    · rw [beq_iff_eq]; omega
    · simp only [List.isPrefixOf, Bool.and_eq_true, beq_iff_eq]
      exact fun h => hb h.1.symm
theorem index_col (t q : List UInt8) (h : ∀ b ∈ t, ¬ b = 58) : Lib.index (t ++ 58 :: q) [58] = (t.length : Int) := by
  induction t with
  | nil => simp [Lib.index, List.isPrefixOf]
  | cons b t ih =>
    have hb : ¬ b = 58 := h b (List.mem_cons_self ..)
    have ih2 := ih (fun c hc => h c (List.mem_cons_of_mem _ hc))
    rw [List.cons_append, Lib.index, ih2]
    rw [if_neg, if_neg]
    · rw [List.length_cons]; omega
    · rw [beq_iff_eq]; omega
    · simp only [List.isPrefixOf, Bool.and_eq_true, beq_iff_eq]
      exact fun h => hb h.1.symm
theorem eol_line (T : ByteArray) (p t q : List UInt8) (hT : T.data.toList = p ++ (t ++ 13 :: 10 :: q)) (h : ∀ b ∈ t, ¬ b = 13) : Line.eol T p.length = some (p.length + t.length) ∧ T.extract p.length (p.length + t.length) = ⟨t.toArray⟩ := by
  have hi := Line.index_eolGo T _ p.length rfl
  rw [hT, List.drop_left, index_line t q h] at hi
  constructor
  · show Line.eolGo T _ _ = _
    cases he : Line.eolGo T (T.size - p.length) p.length with
    | none => rw [he] at hi; unfold Line.eolI at hi; simp only at hi; omega
    | some k => rw [he] at hi; unfold Line.eolI at hi; simp only at hi; congr 1; omega
  · apply ByteArray.ext
    apply Array.toList_inj.1
    rw [ByteArray.data_extract, Array.toList_extract, List.extract_eq_drop_take', hT]
    rw [List.take_append, List.drop_append]
    simp
theorem colon_line (x : ByteArray) (q : List UInt8) (h : ∀ b ∈ x.data.toList, ¬ b = 58) : Line.colon ⟨(x.data.toList ++ 58 :: q).toArray⟩ = some x.size := by
  have hi := Line.index_colonGo ⟨(x.data.toList ++ 58 :: q).toArray⟩ _ 0 rfl
  rw [List.drop_zero, List.toList_toArray, index_col _ q h] at hi
  show Line.colonGo _ _ _ = _
  rw [Nat.sub_zero] at hi
  cases he : Line.colonGo ⟨(x.data.toList ++ 58 :: q).toArray⟩ (ByteArray.size ⟨(x.data.toList ++ 58 :: q).toArray⟩) 0 with
  | none => rw [he] at hi; unfold Line.colonI at hi; simp only at hi; omega
  | some k =>
    rw [he] at hi; unfold Line.colonI at hi; simp only at hi
    have e : x.data.toList.length = x.size := by rw [Array.length_toList]; rfl
    congr 1; omega
theorem tok_no {x : ByteArray} (h : Sign.isTok x = true) : ∀ b ∈ x.data.toList, ¬ b = 58 ∧ ¬ b = 13 := by
  intro b hb
  unfold Sign.isTok at h
  rw [Bool.and_eq_true, List.all_eq_true] at h
  have h1 := of_decide_eq_true (h.2 b hb)
  unfold Sign.tok at h1
  constructor
  · rintro rfl; revert h1; decide
  · rintro rfl; revert h1; decide
theorem val_no {y : ByteArray} (h : Sign.isVal y = true) : (∀ b ∈ y.data.toList, ¬ b = 13) ∧ Sign.trim y = y := by
  unfold Sign.isVal at h
  rw [Bool.and_eq_true, List.all_eq_true] at h
  refine ⟨?_, ?_⟩
  · intro b hb
    have h1 := of_decide_eq_true (h.1 b hb)
    unfold Sign.val at h1
    rintro rfl; revert h1; decide
  · have h2 := h.2
    rw [beq_iff_eq, ByteArray.toList_eq, ByteArray.toList_eq] at h2
    exact ByteArray.ext (Array.toList_inj.1 h2)
theorem field_line (f : Fld) (h : okF f = true) : fieldOf ⟨(f.1.data.toList ++ 58 :: 32 :: f.2.data.toList).toArray⟩ f.1.size = f := by
  obtain ⟨x, y⟩ := f
  unfold okF at h
  simp only [Bool.and_eq_true, decide_eq_true_iff] at h
  obtain ⟨⟨⟨⟨h1, h2⟩, h3⟩, h4⟩, h5⟩ := h
  have ex : x.data.toList.length = x.size := by rw [Array.length_toList]; rfl
  unfold fieldOf
  have e1 : (⟨(x.data.toList ++ 58 :: 32 :: y.data.toList).toArray⟩ : ByteArray).extract 0 x.size = x := by
    apply ByteArray.ext
    apply Array.toList_inj.1
    rw [ByteArray.data_extract, Array.toList_extract, List.extract_eq_drop_take', List.drop_zero, List.toList_toArray]
    rw [← ex, List.take_left]
  have e2 : Sign.trim ((⟨(x.data.toList ++ 58 :: 32 :: y.data.toList).toArray⟩ : ByteArray).extract (x.size + 1) (ByteArray.size ⟨(x.data.toList ++ 58 :: 32 :: y.data.toList).toArray⟩)) = Sign.trim y := by
    unfold Sign.trim
    have e3 : ((⟨(x.data.toList ++ 58 :: 32 :: y.data.toList).toArray⟩ : ByteArray).extract (x.size + 1) (ByteArray.size ⟨(x.data.toList ++ 58 :: 32 :: y.data.toList).toArray⟩)).data.toList = 32 :: y.data.toList := by
      rw [Line.extract_list, List.toList_toArray, ← ex]
      rw [List.drop_append]
      simp
    rw [e3, List.dropWhile_cons_of_pos (by decide)]
  show (Sign.lower _, Sign.trim _) = (x, y)
  rw [e1, e2, (val_no h4).2, ← h2]
theorem read_line (T : ByteArray) (p q : List UInt8) (f : Fld) (hT : T.data.toList = p ++ (enc f ++ q)) (h : okF f = true) (n : Nat) (l : List Fld) :
    readGo T (n + 1) p.length l = readGo T n (p ++ enc f).length (l ++ [f]) := by
  have h0 := h
  unfold okF at h0
  simp only [Bool.and_eq_true, decide_eq_true_iff] at h0
  obtain ⟨⟨⟨⟨h1, h2⟩, h3⟩, h4⟩, h5⟩ := h0
  have hT2 : T.data.toList = p ++ ((f.1.data.toList ++ 58 :: 32 :: f.2.data.toList) ++ 13 :: 10 :: q) := by rw [hT]; unfold enc; simp
  obtain ⟨he, hx⟩ := eol_line T p _ q hT2 (by
    intro b hb
    rcases List.mem_append.1 hb with h6 | h6
    · exact (tok_no h1 b h6).2
    · rcases List.mem_cons.1 h6 with rfl | h7
      · decide
      · rcases List.mem_cons.1 h7 with rfl | h8
        · decide
        · exact (val_no h4).1 b h8)
  rw [readGo, he]
  simp only
  rw [if_neg (by simp), hx, colon_line f.1 _ (fun b hb => (tok_no h1 b hb).1)]
  simp only
  rw [field_line f h, if_pos h]
  congr 1
  unfold enc
  simp only [List.length_append, List.length_cons, List.length_nil]
  omega
theorem read_many (T : ByteArray) (q : List UInt8) : ∀ (fs : List Fld) (p : List UInt8) (n : Nat) (l : List Fld), T.data.toList = p ++ (fs.flatMap enc ++ 13 :: 10 :: q) → fs.all okF = true → fs.length ≤ n →
    readGo T (n + 1) p.length l = some (l ++ fs, (p ++ fs.flatMap enc).length + 2) := by
  intro fs
  induction fs with
  | nil =>
    intro p n l hT _ _
    obtain ⟨he, _⟩ := eol_line T p [] q (by simpa using hT) (fun b hb => by cases hb)
    rw [readGo, he]
    simp
  | cons f fs ih =>
    intro p n l hT ha hn
    rw [List.all_cons, Bool.and_eq_true] at ha
    rw [List.length_cons] at hn
    obtain ⟨m, rfl⟩ : ∃ m, n = m + 1 := ⟨n - 1, by omega⟩
    rw [List.flatMap_cons, List.append_assoc] at hT
    rw [read_line T p _ f hT ha.1]
    rw [ih (p ++ enc f) m (l ++ [f]) (by rw [hT]; simp) ha.2 (by omega)]
    simp
theorem showGo_list (l : List Fld) : (showGo l).data.toList = l.flatMap enc := by
  refine Num.snoc_ind (P := fun l => (showGo l).data.toList = l.flatMap enc) rfl ?_ l
  intro l f ih
  have e : showGo (l ++ [f]) = showStep (showGo l) f := by unfold showGo; rw [List.foldl_append]; rfl
  rw [e, List.flatMap_append, ← ih]
  unfold showStep enc
  simp
theorem read_shown (l : List Fld) (more : ByteArray) (h : ok l = true) : read (shown l ++ more) = some (l, (shown l).size) := by
  have hs : shown l = showGo l ++ ⟨#[13, 10]⟩ := by unfold shown; rw [if_pos h]
  unfold ok at h
  rw [Bool.and_eq_true, decide_eq_true_iff] at h
  have hT : (shown l ++ more).data.toList = [] ++ (l.flatMap enc ++ 13 :: 10 :: more.data.toList) := by
    rw [hs, ← showGo_list]; simp
  have := read_many (shown l ++ more) more.data.toList l [] 12 [] hT h.1 h.2
  unfold read
  rw [List.length_nil] at this
  rw [this]
  congr 2
  rw [hs, ByteArray.size_append, ← showGo_list]
  simp only [List.nil_append, Array.length_toList]
  rfl
theorem shown_empty (l : List Fld) : (shown l).toList.isEmpty = !(ok l) := by
  unfold shown
  cases h : ok l with
  | false => rw [if_neg (by simp), ByteArray.toList_eq]; rfl
  | true =>
    rw [if_pos rfl]
    refine (Sign.empty_false _ ?_).trans rfl
    rw [ByteArray.size_append]
    have : (⟨#[13, 10]⟩ : ByteArray).size = 2 := rfl
    omega
end Flds
end Go.Proofs.YtbeljhonikhdjaaDoor
namespace Go.Proofs.YtbeljhonikhdjaaDoor
open Go.RowKit
set_option linter.unusedVariables false
namespace Flds

/-- the world behind the parameter's box and the result's -/
def setW (w : World) (x y : ByteArray) : World := (w.alloc (.cells #[.string x, .string y] 33)).alloc (.cells #[.string ⟨#[]⟩, .string ⟨#[]⟩] 33)
theorem setRes (w : World) (x y : ByteArray) : (setW w x y).heap[w.heap.size + 1]? = some (.cells #[.string ⟨#[]⟩, .string ⟨#[]⟩] 33 (0, 0)) := dropRes w x y
theorem setBelow (w : World) (x y : ByteArray) : Below w.heap.size w (setW w x y) := ((Below.refl _ _).alloc (Nat.le_refl _) _).alloc (by simp) _
theorem setSize (w : World) (x y : ByteArray) : (setW w x y).heap.size = w.heap.size + 2 := by simp [setW]
set_option maxRecDepth 100000 in
set_option maxHeartbeats 1000000 in
theorem setF_other (x y name : ByteArray) (nb : Nat) (p q : Value) (w : World) (hn : w.cell? ⟨nb, 0, none⟩ = some (.string name)) (hx : x.size ≤ 281474976710656) (hy : y.size ≤ 281474976710656) (hne : ¬ x = name) :
    Calls Tryd.prog 31 #[.agg #[.string x, .string y], .pointer (some ⟨nb, 0, none⟩), p, q] w fun e w' => e = .returned (.tuple #[.agg #[.string x, .string y], .bool true]) ∧ Below w.heap.size w w' := by
  have HN := Num.hide (fun W => new_any x y W hx hy)
  have HR := Num.hide (setRes w x y)
  have HB0 := Num.hide (setBelow w x y)
  have hz := setSize w x y
  have d := ne_text hne
  have d' : (x.toList != name.toList) = true := by rw [bne, d]; rfl
  have hlt := Recs.lt_of_cell hn
  clear hne
  go_enter Tryd.func31, Tryd.ntmps31
  go_wp2_with fail
  refine (HN.out _).mono ?_
  rintro e w3 ⟨rfl, hb3⟩
  change Below (setW w x y).heap.size (setW w x y) w3 at hb3
  obtain ⟨k0, k1, f0, f1⟩ := two_cells (show w3.heap[w.heap.size + 1]? = _ from by rw [hb3.block _ (by omega)]; exact HR.out)
  have r0 := Num.hide (box_first (x := x) (y := y) k0)
  have r1 := Num.hide (box_second (x := x) (y := y) k1)
  have HB1 := Num.hide (((HB0.out.trans (hb3.mono (by omega))).setCell (p := ⟨w.heap.size + 1, 0, none⟩) (by simp) (.string x)).setCell (p := ⟨w.heap.size + 1, 1, none⟩) (by simp) (.string y))
  clear hb3 HR HB0
  go_wp2
  generalize ((w3.setCell ⟨w.heap.size + 1, 0, none⟩ (.string x)).setCell ⟨w.heap.size + 1, 1, none⟩ (.string y)) = w4 at r0 r1 HB1 ⊢
  have r0 := r0.out
  have r1 := r1.out
  exact bodyPost_ret (v := .tuple #[.agg #[.string x, .string y], .bool true]) (by simp [results, Tryd.results31, go_sem, r0, r1]) rfl ⟨rfl, HB1.out⟩
set_option maxRecDepth 100000 in
set_option maxHeartbeats 1000000 in
theorem setF_same (y name value : ByteArray) (b : Bool) (nb fb vb : Nat) (w : World) (hn : w.cell? ⟨nb, 0, none⟩ = some (.string name)) (hv : w.cell? ⟨vb, 0, none⟩ = some (.string value)) (hf : w.heap[fb]? = some (.cells #[.bool b] 4 (0, 0))) (hnf : nb ≠ fb) (hvf : vb ≠ fb)
    (hx : name.size ≤ 281474976710656) (hy : value.size ≤ 281474976710656) :
    Calls Tryd.prog 31 #[.agg #[.string name, .string y], .pointer (some ⟨nb, 0, none⟩), .pointer (some ⟨fb, 0, none⟩), .pointer (some ⟨vb, 0, none⟩)] w fun e w' => e = .returned (.tuple #[.agg #[.string name, .string value], .bool (!b)]) ∧ w'.heap[fb]? = some (.cells #[.bool true] 4 (0, 0)) ∧ Far fb (fb + 1) w w' := by
  have HN := Num.hide (fun W => new_any name value W hx hy)
  have hlt := Recs.lt_of_cell hn
  have hlv := Recs.lt_of_cell hv
  have hlf : fb < w.heap.size := (Array.getElem?_eq_some_iff.1 hf).1
  have c3 := cell_of_one hf
  have f3 := free_of_one hf
  have hsf : (w.setCell ⟨fb, 0, none⟩ (.bool true)).heap.size = w.heap.size := by simp
  have c1 : (w.setCell ⟨fb, 0, none⟩ (.bool true)).cell? ⟨nb, 0, none⟩ = some (.string name) := by
    rw [← hn]; exact World.cell?_of_block (w := w) (Below.heap_setCell w ⟨fb, 0, none⟩ _ nb hnf)
  have c2 : (w.setCell ⟨fb, 0, none⟩ (.bool true)).cell? ⟨vb, 0, none⟩ = some (.string value) := by
    rw [← hv]; exact World.cell?_of_block (w := w) (Below.heap_setCell w ⟨fb, 0, none⟩ _ vb hvf)
  have HO := Num.hide (show (w.setCell ⟨fb, 0, none⟩ (.bool true)).heap[fb]? = some (.cells #[.bool true] 4 (0, 0)) from one_setCell hf)
  have HK : Hid (∀ j, j ≠ fb → (w.setCell ⟨fb, 0, none⟩ (.bool true)).heap[j]? = w.heap[j]?) := fun j hj => Below.heap_setCell w ⟨fb, 0, none⟩ _ j hj
  have HE : Hid ((w.setCell ⟨fb, 0, none⟩ (.bool true)).os = w.os ∧ (w.setCell ⟨fb, 0, none⟩ (.bool true)).tape = w.tape ∧ (w.setCell ⟨fb, 0, none⟩ (.bool true)).output = w.output) := ⟨rfl, rfl, rfl⟩
  clear hf hnf hvf hv
  obtain ⟨W, hW⟩ : ∃ W, w.setCell ⟨fb, 0, none⟩ (.bool true) = W := ⟨_, rfl⟩
  rw [hW] at c1 c2 HO HK HE hsf
  have HR := Num.hide (setRes W name y)
  have HB0 := Num.hide (setBelow W name y)
  have hz := setSize W name y
  rw [hsf] at HB0 hz
  have HR2 : Hid ((setW W name y).heap[w.heap.size + 1]? = some (.cells #[.string ⟨#[]⟩, .string ⟨#[]⟩] 33 (0, 0))) := by rw [← hsf]; exact HR
  clear HR
  go_enter Tryd.func31, Tryd.ntmps31
  go_wp2_with fail
  refine (HN.out _).mono ?_
  rintro e w3 ⟨rfl, hb3⟩
  change Below (setW W name y).heap.size (setW W name y) w3 at hb3
  rw [hz] at hb3
  obtain ⟨k0, k1, f0, f1⟩ := two_cells (show w3.heap[w.heap.size + 1]? = _ from by rw [hb3.block _ (by omega)]; exact HR2.out)
  have r0 := Num.hide (box_first (x := name) (y := value) k0)
  have r1 := Num.hide (box_second (x := name) (y := value) k1)
  have HB1 := Num.hide (((HB0.out.trans (hb3.mono (by omega))).setCell (p := ⟨w.heap.size + 1, 0, none⟩) (by simp) (.string name)).setCell (p := ⟨w.heap.size + 1, 1, none⟩) (by simp) (.string value))
  clear hb3 HR2 HB0
  go_wp2
  generalize ((w3.setCell ⟨w.heap.size + 1, 0, none⟩ (.string name)).setCell ⟨w.heap.size + 1, 1, none⟩ (.string value)) = w4 at r0 r1 HB1 ⊢
  have r0 := r0.out
  have r1 := r1.out
  refine bodyPost_ret (v := .tuple #[.agg #[.string name, .string value], .bool (!b)]) (by simp [results, Tryd.results31, go_sem, r0, r1]) rfl ⟨rfl, (HB1.out.block fb hlf).trans HO.out, ⟨⟨?_, ?_, ?_, ?_, ?_⟩, ?_⟩⟩
  · exact HB1.out.os.trans HE.out.1
  · exact HB1.out.tape.trans HE.out.2.1
  · exact HB1.out.output.trans HE.out.2.2
  · have := HB1.out.size; omega
  · intro j hj
    exact (HB1.out.block j (by omega)).trans (HK.out j (by omega))
  · intro j hj hj2
    exact (HB1.out.block j hj2).trans (HK.out j (by omega))
theorem Far.mono {B n B' n' : Nat} {W W' : World} (h : Far B n W W') (hB : B' ≤ B) (hn : n ≤ n') : Far B' n' W W' := ⟨h.below.mono hB, fun j hj hj2 => h.rows j (by omega) hj2⟩
/-- what the choice of FieldSet knows: the name, the value, whether it was there -/
structure SetQ (nb fb vb : Nat) (name value : ByteArray) (b : Bool) (W : World) : Prop where
  hn : W.cell? ⟨nb, 0, none⟩ = some (.string name)
  hv : W.cell? ⟨vb, 0, none⟩ = some (.string value)
  hf : W.heap[fb]? = some (.cells #[.bool b] 4 (0, 0))
theorem SetQ.stay {nb fb vb n : Nat} {name value : ByteArray} {b : Bool} {W W' : World} (h : SetQ nb fb vb name value b W) (hb : Below n W W') (h1 : nb < n) (h2 : fb < n) (h3 : vb < n) : SetQ nb fb vb name value b W' :=
  ⟨(hb.cell (p := ⟨nb, 0, none⟩) h1).trans h.hn, (hb.cell (p := ⟨vb, 0, none⟩) h3).trans h.hv, (hb.block fb h2).trans h.hf⟩
theorem set_choice (w0 w : World) (l : List Fld) (name value : ByteArray) (fb : Nat) (h1 : w0.heap.size ≤ fb) (h2 : fb + 2 < w.heap.size) (hz : ∀ f ∈ l, f.1.size ≤ 281474976710656 ∧ f.2.size ≤ 281474976710656) (hx : name.size ≤ 281474976710656) (hy : value.size ≤ 281474976710656) :
    Choice 31 #[.pointer (some ⟨fb, 0, none⟩), .pointer (some ⟨fb + 2, 0, none⟩), .pointer (some ⟨fb + 1, 0, none⟩)] w0.heap.size w.heap.size w0 l (fun k => (setGo (l.take k) name value).1) (fun k W => SetQ fb (fb + 2) (fb + 1) name value (setGo (l.take k) name value).2 W) := by
  intro k hk W hB hn hQ
  have hzk := hz l[k] (List.getElem_mem hk)
  have hT := setGo_take l name value k hk
  simp only at hQ ⊢
  rw [hT]
  generalize setGo (l.take k) name value = r at hQ
  obtain ⟨L, b⟩ := r
  simp only at hQ
  generalize l[k] = f at hzk
  obtain ⟨x, y⟩ := f
  simp only at hzk
  by_cases e : x = name
  · subst e
    refine (setF_same y x value b fb (fb + 2) (fb + 1) W hQ.hn hQ.hv hQ.hf (by omega) (by omega) hx hy).mono ?_
    rintro e W' ⟨rfl, hf, hF⟩
    refine ⟨(x, value), !b, rfl, ?_, ⟨(hF.below.cell (p := ⟨fb, 0, none⟩) (by simp)).trans hQ.hn, (hF.below.cell (p := ⟨fb + 1, 0, none⟩) (by simp)).trans hQ.hv, ?_⟩, hF.mono (by omega) (by omega)⟩
    · cases b <;> simp [setStep]
    · rw [hf]; cases b <;> simp [setStep]
  · refine (setF_other x y name fb _ _ W hQ.hn hzk.1 hzk.2 e).mono ?_
    rintro e2 W' ⟨rfl, hb⟩
    refine ⟨(x, y), true, rfl, ?_, ?_, Far.of_below hb (by omega)⟩
    · simp [setStep, e]
    · have : (setStep name value (L, b) (x, y)).2 = b := by simp [setStep, e]
      rw [this]
      exact hQ.stay hb (by omega) (by omega) (by omega)
set_option maxRecDepth 100000 in
set_option maxHeartbeats 1000000 in
theorem set_impl (v : Value) (l : List Fld) (name value : ByteArray) (w : World) (h : Is w v l) (hl : bulk l ≤ 1073741823) (hx : name.size ≤ 281474976710656) (hy : value.size ≤ 281474976710656) :
    Calls Tryd.prog 9 #[v, .string name, .string value] w fun e w' => ∃ v', e = .returned v' ∧ Own w.heap.size w' v' (set l name value) ∧ Below w.heap.size w w' := by
  have hlen : l.length ≤ 1073741823 := by unfold bulk at hl; omega
  obtain ⟨i0, hi0, hz0, hz1, hz2⟩ := info_parts infoF
  have HN := Num.hide (fun W => new_any name value W hx hy)
  obtain ⟨w3, hw3⟩ : ∃ w3, ((w.alloc (.cells #[.string name] 9)).alloc (.cells #[.string value] 9)).alloc (.cells #[.bool false] 4) = w3 := ⟨_, rfl⟩
  have hs3 : w3.heap.size = w.heap.size + 3 := by rw [← hw3]; simp
  have hb : Below w.heap.size w w3 := by rw [← hw3]; exact (((Below.refl w.heap.size w).alloc (Nat.le_refl _) _).alloc (by simp) _).alloc (by simp; omega) _
  have hq0 : SetQ w.heap.size (w.heap.size + 2) (w.heap.size + 1) name value false w3 := by
    rw [← hw3]
    refine ⟨by rw [World.cell?_alloc_lt _ _ _ (by simp; omega), World.cell?_alloc_lt _ _ _ (by simp)]; simp, by rw [World.cell?_alloc_lt _ _ _ (by simp)]; simp, ?_⟩
    have := heap_alloc_new ((w.alloc (.cells #[.string name] 9)).alloc (.cells #[.string value] 9)) (.cells #[.bool false] 4)
    rw [← this, show ((w.alloc (.cells #[.string name] 9)).alloc (.cells #[.string value] 9)).heap.size = w.heap.size + 2 by simp]
  have HC := Num.hide (chosen_any 31 _ w.heap.size w w3 v l _ _ h rfl hb (by omega) rfl
    (fun k hk => by have := setGo_length (l.take k) name value; rw [List.length_take] at this; omega) (by omega) hq0
    (fun k W W' hQ hb2 => hQ.stay hb2 (by omega) (by omega) (by omega)) (set_choice w w3 l name value w.heap.size (Nat.le_refl _) (by omega) (sizes_of (by omega)) hx hy) (enters_of Tryd.func31 (by kernel_rfl) rfl))
  simp only [List.take_length, hs3] at HC
  clear hs3 hb hq0
  subst hw3
  have hgl := setGo_length l name value
  obtain ⟨R, hR⟩ : ∃ R, set l name value = R := ⟨_, rfl⟩
  rw [hR]
  unfold set at hR
  generalize setGo l name value = r at HC hR hgl
  obtain ⟨L, b⟩ := r
  simp only at HC hR hgl
  have HR := Num.hide hR
  clear h hR
  go_enter Tryd.func9, Tryd.ntmps9
  go_wp2_with fail
  refine HC.out.mono ?_
  rintro e w4 ⟨v', rfl, ho, hb1, hq⟩
  have HO := Num.hide ho
  have HB := Num.hide hb1
  have c1 := hq.hn
  have c2 := hq.hv
  have c3 := cell_of_one hq.hf
  have hs4 : w.heap.size + 3 ≤ w4.heap.size := by have := (Array.getElem?_eq_some_iff.1 hq.hf).1; omega
  clear ho hb1 hq
  cases b with
  | true =>
    have HR2 : Hid (L = R) := by rw [if_pos rfl] at HR; exact HR
    clear HR
    go_wp2
    go_ret
    exact ⟨_, rfl, by rw [← HR2.out]; exact Recs.own_mono HO.out (by omega), HB.out⟩
  | false =>
    have HR2 : Hid (L ++ [(name, value)] = R) := by rw [if_neg (by simp)] at HR; exact HR
    clear HR
    go_wp2_with fail
    refine (HN.out _).mono ?_
    rintro e w5 ⟨rfl, hb5⟩
    have HO5 := Num.hide (Recs.own_below HO.out hb5)
    have HB5 := Num.hide (HB.out.trans (hb5.mono (by omega)))
    have hs5 : w.heap.size + 3 ≤ w5.heap.size := Nat.le_trans hs4 hb5.size
    clear hb5 HO HB
    go_wp2_with (at_builtin; refine wpList_append_own _ rfl _ _ 24 rfl (w.heap.size + 3) 33 i0 _ 2 32 Tryd.underlying24 hi0 hz0 hz1 hz2 rfl (by decide) _ _ _ rfl (World.ownsRow.alloc HO5.out _) ⟨w5.heap.size, 0, none⟩ 1 1 [.string name, .string value] rfl rfl (cells_two w5 name value) (two_ok name value) (by unfold maxLen; omega) (by omega) ?c5 ?_)
    case c5 => first | omega | (simp; omega)
    intro v' w6 ho2 hg2 _
    obtain ⟨hp1, hp2⟩ := put_more (w := w5) hs5 HO5.out (Below.refl _ _) ho2 hg2
    have HP1 := Num.hide (Recs.own_mono hp1 (by omega : w.heap.size ≤ w.heap.size + 3))
    have HP2 := Num.hide (HB5.out.trans (hp2.mono (by omega)))
    clear ho2 hg2 hp1 hp2
    go_wp2
    go_ret
    exact ⟨_, rfl, by rw [← HR2.out]; exact HP1.out, HP2.out⟩
end Flds
end Go.Proofs.YtbeljhonikhdjaaDoor
namespace Go.Proofs.YtbeljhonikhdjaaDoor
open Go.RowKit
set_option linter.unusedVariables false
namespace Flds

/-- the values of a name -/
def vals (l : List Fld) (name : ByteArray) : List ByteArray := l.foldl (fun r f => r ++ (if f.1 = name then [f.2] else [])) []
theorem vals_take (l : List Fld) (name : ByteArray) (k : Nat) (h : k < l.length) : vals (l.take (k + 1)) name = vals (l.take k) name ++ (if l[k].1 = name then [l[k].2] else []) := by
  unfold vals
  rw [List.take_succ_eq_append_getElem h, List.foldl_append]; rfl
theorem vals_snoc (l : List Fld) (f : Fld) (name : ByteArray) : vals (l ++ [f]) name = vals l name ++ (if f.1 = name then [f.2] else []) := by
  unfold vals
  rw [List.foldl_append]; rfl
theorem vals_length (l : List Fld) (name : ByteArray) : (vals l name).length ≤ l.length := by
  refine Num.snoc_ind (P := fun l => (vals l name).length ≤ l.length) (Nat.le_refl _) ?_ l
  intro l f ih
  rw [vals_snoc, List.length_append, List.length_append]
  split <;> simp <;> omega
theorem join_snoc (xs : List (List UInt8)) (x sep : List UInt8) : Lib.join (xs ++ [x]) sep = if xs = [] then x else Lib.join xs sep ++ sep ++ x := by
  cases xs with
  | nil => simp [Lib.join_one]
  | cons a t => rw [List.cons_append, Lib.join_cons, Lib.join_cons]; simp [Lib.joinTail]
/-- what is joined of the values is what is got -/
theorem get_join (l : List Fld) (name : ByteArray) : get l name = (⟨(Lib.join ((vals l name).map (·.data.toList)) [44, 32]).toArray⟩, decide (0 < (vals l name).length)) := by
  refine Num.snoc_ind (P := fun l => get l name = (⟨(Lib.join ((vals l name).map (·.data.toList)) [44, 32]).toArray⟩, decide (0 < (vals l name).length))) rfl ?_ l
  intro l f ih
  have e : get (l ++ [f]) name = getStep name (get l name) f := by unfold get; rw [List.foldl_append]; rfl
  rw [e, ih, vals_snoc]
  unfold getStep
  by_cases h : f.1 = name
  · rw [if_pos h, if_pos h, List.map_append, List.map_cons, List.map_nil, join_snoc]
    generalize vals l name = V
    cases V with
    | nil =>
      simp only [List.map_nil, Lib.join_nil, List.length_nil, Nat.lt_irrefl, decide_false, Bool.false_eq_true, if_false, List.nil_append, List.length_cons, Nat.lt_add_one, decide_true, if_true, Prod.mk.injEq, and_true]
      apply ByteArray.ext; simp
    | cons a t =>
      simp only [List.length_cons, Nat.zero_lt_succ, decide_true, if_true, List.length_append, List.map_cons, reduceCtorEq, if_false, Prod.mk.injEq, Nat.add_pos_left, and_true]
      apply ByteArray.ext; simp
  · rw [if_neg h, if_neg h, List.append_nil]
set_option maxRecDepth 100000 in
set_option maxHeartbeats 1000000 in
theorem getF_other (x y name : ByteArray) (nb : Nat) (w : World) (hn : w.cell? ⟨nb, 0, none⟩ = some (.string name)) (hne : ¬ x = name) :
    Calls Tryd.prog 35 #[.agg #[.string x, .string y], .pointer (some ⟨nb, 0, none⟩)] w fun e w' => e = .returned (.tuple #[.string ⟨#[]⟩, .bool false]) ∧ Below w.heap.size w w' := by
  have d := text_ne' hne
  have d' : (x.toList != name.toList) = true := by rw [bne, d]; rfl
  have hlt := Recs.lt_of_cell hn
  clear hne
  go_enter Tryd.func35, Tryd.ntmps35
  go_wp2
  go_ret2
  exact ⟨rfl, (Below.refl _ _).alloc (Nat.le_refl _) _⟩
set_option maxRecDepth 100000 in
set_option maxHeartbeats 1000000 in
theorem getF_same (y name : ByteArray) (nb : Nat) (w : World) (hn : w.cell? ⟨nb, 0, none⟩ = some (.string name)) (hy : y.size ≤ 281474976710656) :
    Calls Tryd.prog 35 #[.agg #[.string name, .string y], .pointer (some ⟨nb, 0, none⟩)] w fun e w' => e = .returned (.tuple #[.string y, .bool true]) ∧ Below w.heap.size w w' := by
  have hlt := Recs.lt_of_cell hn
  have HB := Num.hide ((Below.refl w.heap.size w).alloc (Nat.le_refl _) (.cells #[.string name, .string y] 33))
  go_enter Tryd.func35, Tryd.ntmps35
  go_wp2_with fail
  refine (Shelf.clone y _ hy).mono ?_
  rintro e w1 ⟨rfl, hb⟩
  have HB1 := Num.hide (HB.out.trans (hb.mono (by simp)))
  clear hb HB
  go_wp2
  go_ret2
  exact ⟨rfl, HB1.out⟩
theorem get_choice (w0 w : World) (l : List Fld) (name : ByteArray) (nb : Nat) (hz : ∀ f ∈ l, f.1.size ≤ 281474976710656 ∧ f.2.size ≤ 281474976710656) :
    ChoiceS 35 #[.pointer (some ⟨nb, 0, none⟩)] w0.heap.size w.heap.size w0 l (fun k => vals (l.take k) name) (fun _ W => W.cell? ⟨nb, 0, none⟩ = some (.string name)) := by
  intro k hk W hB hn hQ
  have hzk := hz l[k] (List.getElem_mem hk)
  have hT := vals_take l name k hk
  simp only
  rw [hT]
  generalize l[k] = f at hzk
  obtain ⟨x, y⟩ := f
  simp only at hzk
  by_cases e : x = name
  · subst e
    refine (getF_same y x nb W hQ hzk.2).mono ?_
    rintro e W' ⟨rfl, hb2⟩
    exact ⟨y, true, rfl, by simp, (hb2.cell (p := ⟨nb, 0, none⟩) (Recs.lt_of_cell hQ)).trans hQ, Far.of_below hb2 hB.size⟩
  · refine (getF_other x y name nb W hQ e).mono ?_
    rintro e2 W' ⟨rfl, hb2⟩
    exact ⟨⟨#[]⟩, false, rfl, by simp [e], (hb2.cell (p := ⟨nb, 0, none⟩) (Recs.lt_of_cell hQ)).trans hQ, Far.of_below hb2 hB.size⟩
theorem sizes_get {l : List Fld} (h : bulk l ≤ 1099511627776) : ∀ f ∈ l, f.1.size ≤ 281474976710656 ∧ f.2.size ≤ 281474976710656 := by
  intro f hf
  obtain ⟨i, hi, rfl⟩ := List.getElem_of_mem hf
  have h1 := bulk_take l i hi
  have h2 := bulk_le l (i + 1)
  unfold bulk at h
  omega
/-- strings.Join at a list of texts, however it lies -/
theorem join_any (v : Value) (xs : List ByteArray) (sep : ByteArray) (B : Nat) (w : World) (ho : Strs.OwnS B w v xs) (hN : xs.length ≤ 1073741824) (hlen : (Lib.join (xs.map (·.data.toList)) sep.data.toList).length ≤ 140737488355328) :
    Calls Tryd.prog 37 #[v, .string sep] w fun e w' => e = .returned (.string ⟨(Lib.join (xs.map (·.data.toList)) sep.data.toList).toArray⟩) ∧ Below w.heap.size w w' := by
  by_cases h0 : xs.length = 0
  · obtain ⟨a, c, rfl⟩ := Strs.own_len ho
    obtain rfl : xs = [] := List.eq_nil_of_length_eq_zero h0
    exact (Shelf.strings_Join_none a c sep w).mono fun e w' ⟨h1, h2⟩ => ⟨h1, h2 ▸ Below.refl _ _⟩
  · rcases Strs.own_is ho with ⟨h1, _⟩ | ⟨b, o, c, rfl, hc, hm, hcell⟩
    · exact absurd (by rw [h1]; rfl) h0
    · exact Shelf.strings_Join b o c xs sep w (fun j x hj => by obtain ⟨hj2, rfl⟩ := List.getElem?_eq_some_iff.1 hj; exact hcell j hj2) (Recs.lt_of_cell (hcell 0 (by omega))) (by omega) hc hlen
set_option maxRecDepth 100000 in
set_option maxHeartbeats 1000000 in
theorem get_impl (v : Value) (l : List Fld) (name : ByteArray) (w : World) (h : Is w v l) (hl : bulk l ≤ 1073741824) :
    Calls Tryd.prog 11 #[v, .string name] w fun e w' => e = .returned (.tuple #[.string (get l name).1, .bool (get l name).2]) ∧ Below w.heap.size w w' := by
  have hlen : l.length ≤ 1073741824 := by unfold bulk at hl; omega
  have hb := (Below.refl w.heap.size w).alloc (Nat.le_refl _) (.cells #[.string name] 9)
  have HC := Num.hide (chosenS_any 35 #[.pointer (some ⟨w.heap.size, 0, none⟩)] w.heap.size w (w.alloc (.cells #[.string name] 9)) v l (fun k => vals (l.take k) name) (fun _ W => W.cell? ⟨w.heap.size, 0, none⟩ = some (.string name)) h rfl hb (by simp) rfl
    (fun k hk => by have := vals_length (l.take k) name; rw [List.length_take] at this; omega) hlen (by simp)
    (fun k W W' hQ hb2 => (hb2.cell (p := ⟨w.heap.size, 0, none⟩) (by simp)).trans hQ) (get_choice w _ l name w.heap.size (sizes_get (by omega))) (enters_of Tryd.func35 (by kernel_rfl) rfl))
  simp only [List.take_length] at HC
  have hgs := get_size l name
  have hvl := vals_length l name
  have hg := get_join l name
  generalize vals l name = V at HC hg hvl
  generalize get l name = r at hg hgs
  obtain ⟨g, t⟩ := r
  simp only [Prod.mk.injEq] at hg hgs ⊢
  obtain ⟨hg1, hg2⟩ := hg
  have HJ := Num.hide (fun vv B W ho => join_any vv V ⟨#[44, 32]⟩ B W ho (by omega) (by
    have e : (Lib.join (V.map (·.data.toList)) [44, 32]).length = g.size := by rw [hg1]; show _ = Array.size _; simp
    show (Lib.join (V.map (·.data.toList)) [44, 32]).length ≤ _
    rw [e]; unfold bulk at hl; omega))
  have HJ2 : Hid (∀ vv B W, Strs.OwnS B W vv V → Calls Tryd.prog 37 #[vv, .string ⟨#[44, 32]⟩] W fun e w' => e = .returned (.string g) ∧ Below W.heap.size W w') := fun vv B W ho => by rw [hg1]; exact HJ.out vv B W ho
  have HT := Num.hide hg2
  clear h hb HJ hg1 hg2 hgs
  go_enter Tryd.func11, Tryd.ntmps11
  go_wp2_with fail
  refine HC.out.mono ?_
  rintro e w1 ⟨v', rfl, ho, hb1, _⟩
  obtain ⟨va, vc, rfl⟩ := Strs.own_len ho
  have HO := Num.hide ho
  have HB := Num.hide hb1
  clear ho hb1
  go_wp2_with fail
  refine (HJ2.out _ _ _ HO.out).mono ?_
  rintro e w2 ⟨rfl, hb2⟩
  have HB2 := Num.hide (HB.out.trans (hb2.mono HB.out.size))
  clear hb2 HB HO
  go_wp2
  go_ret2
  exact ⟨by rw [HT.out]; rfl, HB2.out⟩
end Flds
end Go.Proofs.YtbeljhonikhdjaaDoor
namespace Go.Proofs.YtbeljhonikhdjaaDoor
open Go.RowKit
set_option linter.unusedVariables false
namespace Flds

theorem take_succ_same {α : Type} (a b : List α) (k : Nat) (ha : k < a.length) (hb : k < b.length) : a.take (k + 1) = b.take (k + 1) ↔ a.take k = b.take k ∧ a[k] = b[k] := by
  rw [List.take_succ_eq_append_getElem ha, List.take_succ_eq_append_getElem hb]
  constructor
  · intro h
    have h1 := List.append_inj h (by rw [List.length_take, List.length_take]; omega)
    exact ⟨h1.1, by simpa using h1.2⟩
  · rintro ⟨h1, h2⟩; rw [h1, h2]
theorem guard_run (op : BinOp) (a b : Operand) (xs ys : Array Value) (W : World) : (eqGuard op 33 a b (.agg xs) (.agg ys)).run Tryd.prog W = .ok () W := run_eqGuard_agg W op 33 a b xs ys (by kernel_rfl)
theorem eq_run (x y x' y' : ByteArray) (W : World) : (Op.equalIn 10000 33 (.agg #[.string x, .string y]) (.agg #[.string x', .string y'])).run Tryd.prog W = .ok (x.toList == x'.toList && y.toList == y'.toList) W := by
  have u9 := Tryd.underlying9
  have a9 := Tryd.isAgg9
  have z9 := Tryd.sizeOf9
  rw [show (10000 : Nat) = 9999 + 1 from rfl, run_equalIn_agg W 9999 33 _ _ (by kernel_rfl) (by kernel_rfl)]
  simp only [Program.fieldsOf, Tryd.underlying33]
  go_simp
  by_cases h1 : x.toList = x'.toList <;> by_cases h2 : y.toList = y'.toList <;> simp [h1, h2]
theorem neq_run (x y x' y' : ByteArray) (W : World) : (binOp .neq 33 (.agg #[.string x, .string y]) (.agg #[.string x', .string y'])).run Tryd.prog W = .ok (.bool (!decide (((x, y) : Fld) = (x', y')))) W := by
  have e : (x.toList == x'.toList && y.toList == y'.toList) = decide (((x, y) : Fld) = (x', y')) := by
    rw [Bool.eq_iff_iff, Bool.and_eq_true, beq_iff_eq, beq_iff_eq, decide_eq_true_iff, ByteArray.toList_eq, ByteArray.toList_eq, ByteArray.toList_eq, ByteArray.toList_eq, Prod.mk.injEq]
    exact ⟨fun h => ⟨ByteArray.ext (Array.toList_inj.1 h.1), ByteArray.ext (Array.toList_inj.1 h.2)⟩, fun h => ⟨by rw [h.1], by rw [h.2]⟩⟩
  rw [run_neq_struct, eq_run, e]; rfl
set_option maxRecDepth 100000 in
set_option maxHeartbeats 1000000 in
theorem same_spec (va vb : Value) (la lb : List Fld) (w : World) (ha : Is w va la) (hb : Is w vb lb) (hla : la.length ≤ 1099511627776) : Calls Tryd.prog 12 #[va, vb] w fun e w' => e = .returned (.bool (decide (la = lb))) ∧ ∃ n, w' = w.drewN n := by
  obtain ⟨aa, ca, rfl, ha2⟩ := is_form ha
  obtain ⟨ab, cb, rfl, hb2⟩ := is_form hb
  have HA := Num.hide ha2
  have HB := Num.hide hb2
  clear ha hb ha2 hb2
  obtain ⟨r, hr⟩ : ∃ r, decide (la = lb) = r := ⟨_, rfl⟩
  rw [hr]
  have HR := Num.hide hr
  clear hr
  by_cases hl : la.length = lb.length
  · have hne : ((la.length : Int) != (lb.length : Int)) = false := by rw [hl]; simp
    have HL := Num.hide hl
    clear hl
    go_enter Tryd.func12, Tryd.ntmps12
    go_wp2
    clear hne
    go_loopw [5] (fun i wr => ∃ k n : Nat, k ≤ la.length ∧ i = .int .i64 (k : Int) ∧ Hid (wr = w.drewN n) ∧ Hid (la.take k = lb.take k)) (fun i _ => la.length - (intOf i).toNat)
    case atStart => exact ⟨0, 0, by omega, rfl, rfl, by simp [Hid]⟩
    case round =>
      obtain ⟨k, n, hk, rfl, HW, HT⟩ := hrel
      by_cases hlt : k < la.length
      · have hlt2 : k < lb.length := by have := HL.out; omega
        obtain ⟨ba, oa, rfl, hca, hma, hba, hcella⟩ := Num.unhide HA (by omega)
        obtain ⟨bb, ob, rfl, hcb, hmb, hbb, hcellb⟩ := Num.unhide HB (by omega)
        obtain ⟨ga1, ga2⟩ := hcella k hlt
        obtain ⟨gb1, gb2⟩ := hcellb k hlt2
        have c1 : wr.cell? ⟨ba, oa + k * 2, none⟩ = some (.string la[k].1) := by rw [HW.out]; exact ga1
        have c2 : wr.cell? ⟨ba, oa + k * 2 + 1, none⟩ = some (.string la[k].2) := by rw [HW.out]; exact ga2
        have c3 : wr.cell? ⟨bb, ob + k * 2, none⟩ = some (.string lb[k].1) := by rw [HW.out]; exact gb1
        have c4 : wr.cell? ⟨bb, ob + k * 2 + 1, none⟩ = some (.string lb[k].2) := by rw [HW.out]; exact gb2
        have HS := Num.hide (take_succ_same la lb k hlt hlt2)
        clear hcella hcellb ga1 ga2 gb1 gb2
        generalize la[k] = f at c1 c2 HS
        generalize lb[k] = g at c3 c4 HS
        obtain ⟨x, y⟩ := f
        obtain ⟨x', y'⟩ := g
        simp only at c1 c2 c3 c4
        have hg := fun op a b W => guard_run op a b #[.string x, .string y] #[.string x', .string y'] W
        have hq := fun W => neq_run x y x' y' W
        by_cases he : ((x, y) : Fld) = (x', y')
        · rw [decide_eq_true he] at hq
          have HT2 : Hid (la.take (k + 1) = lb.take (k + 1)) := HS.out.2 ⟨HT.out, he⟩
          clear he
          go_wp2
          go_quiet (fail)
          go_wp2
          go_roundw
          case rel => exact ⟨k + 1, n + nq, by omega, by go_num, by show _ = _; rw [HW.out, World.drewN_drewN], HT2⟩
          case measure => simp [intOf]; omega
        · rw [decide_eq_false he] at hq
          have hf : r = false := by
            rw [← HR.out]
            refine decide_eq_false (fun h => he ?_)
            exact (HS.out.1 (by rw [h])).2
          subst hf
          clear he
          go_wp2
          go_quiet (fail)
          go_wp2
          go_ret
          exact ⟨rfl, n + nq, by rw [HW.out, World.drewN_drewN]⟩
      · have ht : r = true := by
          rw [← HR.out]
          refine decide_eq_true ?_
          have h := HT.out
          rwa [List.take_of_length_le (by omega), List.take_of_length_le (by have := HL.out; omega)] at h
        subst ht
        go_wp2
        go_ret
        exact ⟨rfl, n, HW.out⟩
  · have hne : ((la.length : Int) != (lb.length : Int)) = true := by rw [bne_iff_ne]; omega
    have hf : r = false := by rw [← HR.out]; exact decide_eq_false (fun h => hl (by rw [h]))
    subst hf
    go_enter Tryd.func12, Tryd.ntmps12
    go_wp2
    go_ret
    exact ⟨rfl, 0, rfl⟩
theorem same_spec_b (va vb : Value) (la lb : List Fld) (w : World) (ha : Is w va la) (hb : Is w vb lb) (hla : la.length ≤ 1099511627776) : Calls Tryd.prog 12 #[va, vb] w fun e w' => e = .returned (.bool (decide (la = lb))) ∧ Below w.heap.size w w' :=
  (same_spec va vb la lb w ha hb hla).mono fun e w' ⟨h1, n, h2⟩ => ⟨h1, by subst h2; exact Recs.below_drewN (Below.refl _ _) n⟩
end Flds
end Go.Proofs.YtbeljhonikhdjaaDoor
namespace Go.Proofs.YtbeljhonikhdjaaDoor
open Go.RowKit
set_option linter.unusedVariables false
namespace Flds

set_option maxRecDepth 100000 in
set_option maxHeartbeats 1000000 in
theorem drop_spec (v : Value) (l : List Fld) (name : ByteArray) (w : World) (h : Is w v l) (hl : l.length ≤ 1073741824) :
    Calls Tryd.prog 13 #[v, .string name] w fun e w' => ∃ v', e = .returned v' ∧ Own w.heap.size w' v' (drop l name) ∧ Below w.heap.size w w' := by
  obtain ⟨a, c, rfl, h2⟩ := is_form h
  have HA := Num.hide h2
  clear h h2
  obtain ⟨i0, hi0, hz0, hz1, hz2⟩ := info_parts infoF
  have HD := Num.hide (made_nil w)
  go_enter Tryd.func13, Tryd.ntmps13
  go_wp2
  go_loopw [5, 6] (fun ov iv wr => ∃ i : Nat, i ≤ l.length ∧ iv = .int .i64 (i : Int) ∧ Hid (Own w.heap.size wr ov (drop (l.take i) name)) ∧ Hid (Below w.heap.size w wr)) (fun _ iv _ => l.length - (intOf iv).toNat)
  case atStart => exact ⟨0, by omega, rfl, HD, (Below.refl _ _).alloc (Nat.le_refl _) _⟩
  case round =>
    clear HD
    obtain ⟨i, hi, rfl, HO, HB⟩ := hrel
    by_cases hlt : i < l.length
    · obtain ⟨bk, o, rfl, hc, hmx, hblt, hcell⟩ := Num.unhide HA (by omega)
      obtain ⟨g1, g2⟩ := hcell i hlt
      have c1 : wr.cell? ⟨bk, o + i * 2, none⟩ = some (.string l[i].1) := by rw [HB.out.cell (p := ⟨bk, o + i * 2, none⟩) hblt]; exact g1
      have c2 : wr.cell? ⟨bk, o + i * 2 + 1, none⟩ = some (.string l[i].2) := by rw [HB.out.cell (p := ⟨bk, o + i * 2 + 1, none⟩) hblt]; exact g2
      have HT := Num.hide (drop_take l name i hlt)
      have hdl : (drop (l.take i) name).length ≤ 1073741824 := by have := drop_length (l.take i) name; rw [List.length_take] at this; omega
      have hsz := HB.out.size
      clear hcell g1 g2
      generalize l[i] = f at c1 c2 HT
      generalize drop (l.take i) name = D at HO HT hdl
      obtain ⟨x, y⟩ := f
      simp only at c1 c2
      by_cases he : x = name
      · subst he
        have HO2 : Hid (Own w.heap.size wr u5 (drop (l.take (i + 1)) x)) := by
          rw [HT.out, if_pos rfl, List.append_nil]; exact HO
        go_wp2
        go_roundw
        case rel => exact ⟨i + 1, by omega, by go_num, HO2, HB⟩
        case measure => simp [intOf]; omega
      · have d := ne_text he
        have d' : (x.toList != name.toList) = true := by rw [bne, d]; rfl
        have HT2 : Hid (drop (l.take (i + 1)) name = D ++ [(x, y)]) := by show _ = _; rw [HT.out, if_neg he]
        clear he
        go_wp2_with (at_builtin; refine wpList_append_own _ rfl _ _ 24 rfl w.heap.size 33 i0 _ 2 32 Tryd.underlying24 hi0 hz0 hz1 hz2 rfl (by decide) _ _ _ rfl (World.ownsRow.alloc HO.out _) ⟨wr.heap.size, 0, none⟩ 1 1 [.string x, .string y] rfl rfl (cells_two wr x y) (two_ok x y) (by unfold maxLen; omega) (by omega) ?c5 ?_)
        case c5 => first | omega | (simp; omega)
        intro v' w2 ho2 hg2 _
        obtain ⟨hp1, hp2⟩ := put_more hsz HO.out HB.out ho2 hg2
        have HP1 : Hid (Own w.heap.size w2 v' (drop (l.take (i + 1)) name)) := by rw [HT2.out]; exact hp1
        have HP2 := Num.hide hp2
        clear ho2 hg2 hp1 hp2
        go_wp2
        go_roundw
        case rel => exact ⟨i + 1, by omega, by go_num, HP1, HP2⟩
        case measure => simp [intOf]; omega
    · obtain rfl : i = l.length := by omega
      have ho := HO.out
      rw [List.take_of_length_le (Nat.le_refl _)] at ho
      have HO2 := Num.hide ho
      clear ho HO
      go_wp2
      go_ret
      exact ⟨_, rfl, HO2.out, HB.out⟩

end Flds
end Go.Proofs.YtbeljhonikhdjaaDoor
namespace Go.Proofs.YtbeljhonikhdjaaDoor
open Go.RowKit
set_option linter.unusedVariables false
namespace Draw

/-- few fields, of small texts -/
structure Few (n : Nat) (l : List Flds.Fld) : Prop where
  len : l.length ≤ n
  small : ∀ f ∈ l, f.1.size ≤ 64 ∧ f.2.size ≤ 64
theorem Few.more {n : Nat} {l : List Flds.Fld} {x y : ByteArray} (h : Few n l) (hx : x.size ≤ 64) (hy : y.size ≤ 64) : Few (n + 1) (l ++ [(x, y)]) :=
  ⟨by rw [List.length_append, List.length_singleton]; have := h.len; omega, fun f hf => by
    rcases List.mem_append.1 hf with h1 | h1
    · exact h.small f h1
    · rw [List.mem_singleton.1 h1]; exact ⟨hx, hy⟩⟩
theorem Few.mono {n m : Nat} {l : List Flds.Fld} (h : Few n l) (hnm : n ≤ m) : Few m l := ⟨Nat.le_trans h.len hnm, h.small⟩
theorem Few.bulk {l : List Flds.Fld} {n : Nat} (h : Few n l) (hn : n ≤ 100) : Flds.bulk l ≤ 100000 := by
  have key : ∀ (l : List Flds.Fld), (∀ f ∈ l, f.1.size ≤ 64 ∧ f.2.size ≤ 64) → (l.map fun f => f.1.size + f.2.size).sum ≤ 128 * l.length := by
    intro l
    induction l with
    | nil => intro _; simp
    | cons f l ih =>
      intro h
      have h1 := h f (List.mem_cons_self ..)
      have h2 := ih (fun g hg => h g (List.mem_cons_of_mem _ hg))
      rw [List.map_cons, List.sum_cons, List.length_cons]
      omega
  have h1 := key l h.small
  have h2 := h.len
  unfold Flds.bulk
  omega
/-- an owned row stays while the cursor moves -/
theorem own_only {B C : Nat} {w w' : World} {v : Value} {l : List Flds.Fld} (h : Flds.Own B w v l) (ho : Only C w w') (hC : C < B) : Flds.Own B w' v l := ho.owns hC h
set_option maxRecDepth 100000 in
set_option maxHeartbeats 2000000 in
theorem fields_live (B C : Nat) (w : World) (h : Live B C w) :
    Calls Tryd.prog 53 #[.pointer (some ⟨C, 0, none⟩)] w fun e w' => ∃ v l, e = .returned v ∧ Flds.Own w.heap.size w' v l ∧ Few 4 l ∧ Live B C w' ∧ Only C w w' := by
  have hC := h.lt
  obtain ⟨i0, hi0, hz0, hz1, hz2⟩ := info_parts Flds.infoF
  have HL0 := Num.hide (h.alloc (.cells #[] 33))
  have HO0 := Num.hide ((Only.refl C w).alloc (.cells #[] 33))
  have HD := Num.hide (Flds.made_nil w)
  clear h
  go_enter Tryd.func53, Tryd.ntmps53
  go_wp2_with fail
  refine (below_live B C 5 _ HL0.out (by omega) (by omega)).mono ?_
  rintro e w1 ⟨z, rfl, hz0', hz1', hl, ho⟩
  obtain ⟨m, rfl⟩ := Int.eq_ofNat_of_zero_le hz0'
  have HL1 := Num.hide hl
  have HO1 := Num.hide (HO0.out.trans ho)
  have HD1 := Num.hide (own_only HD.out ho hC)
  clear hl ho HL0 HO0 HD
  go_wp2
  go_loopw [3, 4] (fun ov nv wr => ∃ (k : Nat) (l : List Flds.Fld), nv = .int .i64 (k : Int) ∧ k ≤ 4 ∧ Hid (Flds.Own w.heap.size wr ov l) ∧ Hid (Few (4 - k) l) ∧ Hid (Live B C wr) ∧ Hid (Only C w wr)) (fun _ nv _ => (intOf nv).toNat)
  case atStart => exact ⟨m, [], rfl, by omega, HD1, ⟨Nat.zero_le _, fun f hf => by cases hf⟩, HL1, HO1⟩
  case round =>
    clear HL1 HO1 HD1
    obtain ⟨k, l, rfl, hk, HO, HF, HL, HN⟩ := hrel
    have hsz := HN.out.size
    have hlen := HF.out.len
    by_cases h0 : 0 < (k : Int)
    · go_wp2_with fail
      refine (field_live B C _ HL.out).mono ?_
      rintro e w2 ⟨x, y, rfl, hx, hy, hl2, ho2⟩
      have hsz2 : w.heap.size ≤ w2.heap.size := Nat.le_trans hsz ho2.size
      have HO2 := Num.hide (own_only HO.out ho2 hC)
      have HN2 := Num.hide (HN.out.trans ho2)
      have HL2 := Num.hide hl2
      clear hl2 ho2 HL HN HO
      go_wp2_with (at_builtin; refine wpList_append_own _ rfl _ _ 24 rfl w.heap.size 33 i0 _ 2 32 Tryd.underlying24 hi0 hz0 hz1 hz2 rfl (by decide) _ _ _ rfl (World.ownsRow.alloc HO2.out _) ⟨w2.heap.size, 0, none⟩ 1 1 [.string x, .string y] rfl rfl (Flds.cells_two w2 x y) (Flds.two_ok x y) (by unfold maxLen; omega) (by omega) ?c9 ?_)
      case c9 => first | omega | (simp; omega)
      intro v' w3 ho3 hg3 _
      obtain ⟨hp1, hp2⟩ := Flds.put_more hsz2 HO2.out (Below.refl w.heap.size _) ho3 hg3
      have HP1 := Num.hide hp1
      have HP2 := Num.hide (HL2.out.under hp2 hC)
      have HP3 := Num.hide (HN2.out.of_below hp2)
      have HP4 := Num.hide ((HF.out.more hx hy).mono (by omega : 4 - k + 1 ≤ 4 - (k - 1)))
      clear ho3 hg3 hp1 hp2
      go_wp2
      go_roundw
      case rel => exact ⟨k - 1, _, by go_num, by omega, HP1, HP4, HP2, HP3⟩
      case measure => simp [intOf]; omega
    · have HF4 := Num.hide (HF.out.mono (by omega : 4 - k ≤ 4))
      go_wp2
      go_ret
      first | exact ⟨_, _, rfl, HO.out, HF4.out, HL.out, HN.out⟩ | exact ⟨_, rfl, _, HO.out, HF4.out, HL.out, HN.out⟩
def lenOf (v : Value) : Nat := match v with | .slice _ n _ => n | _ => 0
theorem lenOf_own {B : Nat} {w : World} {v : Value} {l : List Flds.Fld} (h : Flds.Own B w v l) : lenOf v = l.length := by
  obtain ⟨a, c, rfl⟩ := Recs.own_len h; rfl
set_option maxRecDepth 100000 in
set_option maxHeartbeats 2000000 in
theorem any_live (B C : Nat) (w : World) (h : Live B C w) :
    Calls Tryd.prog 27 #[.pointer (some ⟨C, 0, none⟩)] w fun e w' => ∃ v l, e = .returned v ∧ Flds.Own w.heap.size w' v l ∧ Few 13 l ∧ Live B C w' ∧ Only C w w' := by
  have hC := h.lt
  obtain ⟨i0, hi0, hz0, hz1, hz2⟩ := info_parts Flds.infoF
  have HL0 := Num.hide h
  clear h
  go_enter Tryd.func27, Tryd.ntmps27
  go_wp2_with fail
  refine (fields_live B C _ HL0.out).mono ?_
  rintro e w1 ⟨v, l, rfl, ho1, hf, hl1, hn1⟩
  go_wp2_with fail
  refine (below_live B C 12 _ hl1 (by omega) (by omega)).mono ?_
  rintro e w2 ⟨z, rfl, hz0', hz1', hl2, hn2⟩
  have HL2 := Num.hide hl2
  have HN2 := Num.hide (hn1.trans hn2)
  have HO2 := Num.hide (own_only ho1 hn2 hC)
  have HF := Num.hide hf
  have hlen := hf.len
  have hsz2 := HN2.out.size
  clear hl1 hn1 hl2 hn2 ho1 hf HL0
  by_cases z0 : z = 0
  · subst z0
    go_wp2_with fail
    refine (pick_live B C w2.heap.size _ 4 _ (HL2.out.alloc _) (by have := HL2.out.lt; omega) (heap_alloc_new w2 _) rfl (by omega) (by omega) (by decide)).mono ?_
    rintro e w3 ⟨x, rfl, hx, hl3, hn3⟩
    have HL3 := Num.hide hl3
    have HN3 := Num.hide ((HN2.out.alloc _).trans hn3)
    have HO3 : Hid (Flds.Own w.heap.size w3 v l) := own_only (World.ownsRow.alloc HO2.out _) hn3 hC
    have hsz3 := HN3.out.size
    clear hl3 hn3 HL2 HN2 HO2
    go_wp2_with (at_builtin; refine wpList_append_own _ rfl _ _ 24 rfl w.heap.size 33 i0 _ 2 32 Tryd.underlying24 hi0 hz0 hz1 hz2 rfl (by decide) _ _ _ rfl (World.ownsRow.alloc HO3.out _) ⟨w3.heap.size, 0, none⟩ 1 1 [.string x, .string ⟨#[]⟩] rfl rfl (Flds.cells_two w3 x ⟨#[]⟩) (Flds.two_ok x ⟨#[]⟩) (by unfold maxLen; omega) (by omega) ?c9 ?_)
    case c9 => first | omega | (simp; omega)
    intro v' w4 ho4 hg4 _
    obtain ⟨hp1, hp2⟩ := Flds.put_more hsz3 HO3.out (Below.refl w.heap.size _) ho4 hg4
    have HP1 := Num.hide hp1
    have HP2 := Num.hide (HL3.out.under hp2 hC)
    have HP3 := Num.hide (HN3.out.of_below hp2)
    have HP4 := Num.hide ((HF.out.more hx (by decide : (⟨#[]⟩ : ByteArray).size ≤ 64)).mono (by omega : 4 + 1 ≤ 13))
    clear ho4 hg4 hp1 hp2
    go_wp2
    go_ret
    exact ⟨_, _, rfl, HP1.out, HP4.out, HP2.out, HP3.out⟩
  · have d0 : (z == 0) = false := by rw [beq_eq_false_iff_ne]; exact z0
    by_cases z1 : z = 1
    · subst z1
      go_wp2_with fail
      refine (pick_live B C w2.heap.size _ 3 _ (HL2.out.alloc _) (by have := HL2.out.lt; omega) (heap_alloc_new w2 _) rfl (by omega) (by omega) (by decide)).mono ?_
      rintro e w3 ⟨x, rfl, hx, hl3, hn3⟩
      have HL3 := Num.hide hl3
      have HN3 := Num.hide ((HN2.out.alloc _).trans hn3)
      have HO3 : Hid (Flds.Own w.heap.size w3 v l) := own_only (World.ownsRow.alloc HO2.out _) hn3 hC
      have hsz3 := HN3.out.size
      clear hl3 hn3 HL2 HN2 HO2
      go_wp2_with (at_builtin; refine wpList_append_own _ rfl _ _ 24 rfl w.heap.size 33 i0 _ 2 32 Tryd.underlying24 hi0 hz0 hz1 hz2 rfl (by decide) _ _ _ rfl (World.ownsRow.alloc HO3.out _) ⟨w3.heap.size, 0, none⟩ 1 1 [.string ⟨#[97]⟩, .string x] rfl rfl (Flds.cells_two w3 ⟨#[97]⟩ x) (Flds.two_ok ⟨#[97]⟩ x) (by unfold maxLen; omega) (by omega) ?c9 ?_)
      case c9 => first | omega | (simp; omega)
      intro v' w4 ho4 hg4 _
      obtain ⟨hp1, hp2⟩ := Flds.put_more hsz3 HO3.out (Below.refl w.heap.size _) ho4 hg4
      have HP1 := Num.hide hp1
      have HP2 := Num.hide (HL3.out.under hp2 hC)
      have HP3 := Num.hide (HN3.out.of_below hp2)
      have HP4 := Num.hide ((HF.out.more (by decide : (⟨#[97]⟩ : ByteArray).size ≤ 64) hx).mono (by omega : 4 + 1 ≤ 13))
      clear ho4 hg4 hp1 hp2
      go_wp2
      go_ret
      exact ⟨_, _, rfl, HP1.out, HP4.out, HP2.out, HP3.out⟩
    · have d1 : (z == 1) = false := by rw [beq_eq_false_iff_ne]; exact z1
      by_cases z2 : z = 2
      · subst z2
        have HF13 := Num.hide (HF.out.mono (by omega : 4 ≤ 13))
        clear d0 d1 z0 z1
        go_wp2
        go_loopw [3] (fun ov wr => ∃ l : List Flds.Fld, Hid (Flds.Own w.heap.size wr ov l) ∧ Hid (Few 13 l) ∧ Hid (Live B C wr) ∧ Hid (Only C w wr)) (fun ov _ => 13 - lenOf ov)
        case atStart => exact ⟨l, HO2, HF13, HL2, HN2⟩
        case round =>
          clear HO2 HF13 HL2 HN2 HF hlen hsz2
          obtain ⟨l, HO, HF, HL, HN⟩ := hrel
          have hsz := HN.out.size
          have hlen := HF.out.len
          have HLn := Num.hide (lenOf_own HO.out)
          obtain ⟨va, vc, hv⟩ := Recs.own_len HO.out
          subst hv
          go_wp2_with fail
          refine (below_live B C 2 _ HL.out (by omega) (by omega)).mono ?_
          rintro e w3 ⟨t, rfl, ht0, ht1, hl3, hn3⟩
          have HL3 := Num.hide hl3
          have HN3 := Num.hide (HN.out.trans hn3)
          have HO3 := Num.hide (own_only HO.out hn3 hC)
          have hsz3 := HN3.out.size
          clear hl3 hn3 HL HN HO
          by_cases hlt : (l.length : Int) < 12 + t
          · go_wp2_with (at_builtin; refine wpList_append_own _ rfl _ _ 24 rfl w.heap.size 33 i0 _ 2 32 Tryd.underlying24 hi0 hz0 hz1 hz2 rfl (by decide) _ _ _ rfl (World.ownsRow.alloc HO3.out _) ⟨w3.heap.size, 0, none⟩ 1 1 [.string ⟨#[97]⟩, .string ⟨#[]⟩] rfl rfl (Flds.cells_two w3 ⟨#[97]⟩ ⟨#[]⟩) (Flds.two_ok ⟨#[97]⟩ ⟨#[]⟩) (by unfold maxLen; omega) (by omega) ?c9 ?_)
            case c9 => first | omega | (simp; omega)
            intro v' w4 ho4 hg4 _
            obtain ⟨hp1, hp2⟩ := Flds.put_more hsz3 HO3.out (Below.refl w.heap.size _) ho4 hg4
            have HP1 := Num.hide hp1
            have HP2 := Num.hide (HL3.out.under hp2 hC)
            have HP3 := Num.hide (HN3.out.of_below hp2)
            have HP4 : Hid (Few 13 (l ++ [(⟨#[97]⟩, ⟨#[]⟩)])) := (Few.more (n := l.length) ⟨Nat.le_refl _, HF.out.small⟩ (by decide) (by decide)).mono (by omega)
            have hlv := lenOf_own hp1
            rw [List.length_append, List.length_singleton] at hlv
            have HLv := Num.hide hlv
            clear ho4 hg4 hp1 hp2 hlv
            go_wp2
            go_roundw
            case rel => exact ⟨_, HP1, HP4, HP2, HP3⟩
            case measure =>
              have h1 := HLv.out
              simp [lenOf] at h1 ⊢
              omega
          · go_wp2
            go_ret
            exact ⟨_, _, rfl, HO3.out, HF.out, HL3.out, HN3.out⟩
      · have d2 : (z == 2) = false := by rw [beq_eq_false_iff_ne]; exact z2
        have HP4 := Num.hide (HF.out.mono (by omega : 4 ≤ 13))
        clear z0 z1 z2
        go_wp2
        go_ret
        exact ⟨_, _, rfl, HO2.out, HP4.out, HL2.out, HN2.out⟩
set_option maxRecDepth 100000 in
set_option maxHeartbeats 2000000 in
theorem name_live (B C : Nat) (w : World) (h : Live B C w) :
    Calls Tryd.prog 28 #[.pointer (some ⟨C, 0, none⟩)] w fun e w' => ∃ x, e = .returned (.string x) ∧ x.size ≤ 64 ∧ Live B C w' ∧ Only C w w' := by
  have HL := Num.hide h
  have hC := h.lt
  clear h
  go_enter Tryd.func28, Tryd.ntmps28
  go_wp2_with fail
  refine (pick_live B C w.heap.size _ 6 _ (HL.out.alloc _) (by omega) (heap_alloc_new w _) rfl (by omega) (by omega) (by decide)).mono ?_
  rintro e w3 ⟨x, rfl, hx, hl3, hn3⟩
  have HL3 := Num.hide hl3
  have HN3 := Num.hide (((Only.refl C w).alloc _).trans hn3)
  clear hl3 hn3
  go_wp2
  go_ret
  exact ⟨x, rfl, hx, HL3.out, HN3.out⟩
set_option maxRecDepth 100000 in
set_option maxHeartbeats 2000000 in
theorem drawShow (cap : Nat) (a : Option Addr) (l : List Int) (w : World) (hcode : CodeAt w.heap.size w a l) (hl : l.length ≤ 1048576) :
    Calls Tryd.prog 14 #[.slice a l.length cap] w fun e w' => ∃ v L, e = .returned v ∧ Flds.Own w.heap.size w' v L ∧ Few 13 L ∧ Below w.heap.size w w' := by
  have HC := Num.hide hcode
  clear hcode
  go_enter Tryd.func14, Tryd.ntmps14
  go_wp2_with fail
  refine (new_at w.heap.size cap a l _ (Nat.le_refl _) HC.out hl).mono ?_
  rintro e w1 ⟨C, rfl, hC, h1, b1⟩
  have HL : Hid (Live w.heap.size C w1) := ⟨_, _, _, _, h1⟩
  have HB1 := Num.hide b1
  have hCl := h1.lt
  clear h1 b1
  go_wp2_with fail
  refine (any_live _ C _ HL.out).mono ?_
  rintro e w2 ⟨v, L, rfl, ho2, hf, hl2, hn2⟩
  have HO2 := Num.hide (Recs.own_mono ho2 HB1.out.size)
  have HB2 := Num.hide (HB1.out.trans (hn2.below hC hCl))
  have HF := Num.hide hf
  clear ho2 hf hl2 hn2
  go_wp2
  go_ret
  exact ⟨_, _, rfl, HO2.out, HF.out, HB2.out⟩
set_option maxRecDepth 100000 in
set_option maxHeartbeats 2000000 in
theorem drawSet (cap : Nat) (a : Option Addr) (l : List Int) (w : World) (hcode : CodeAt w.heap.size w a l) (hl : l.length ≤ 1048576) :
    Calls Tryd.prog 8 #[.slice a l.length cap] w fun e w' => ∃ v L x y, e = .returned (.tuple #[v, .string x, .string y]) ∧ Flds.Own w.heap.size w' v L ∧ Few 13 L ∧ x.size ≤ 64 ∧ y.size ≤ 64 ∧ Below w.heap.size w w' := by
  have HC := Num.hide hcode
  clear hcode
  go_enter Tryd.func8, Tryd.ntmps8
  go_wp2_with fail
  refine (new_at w.heap.size cap a l _ (Nat.le_refl _) HC.out hl).mono ?_
  rintro e w1 ⟨C, rfl, hC, h1, b1⟩
  have HL : Hid (Live w.heap.size C w1) := ⟨_, _, _, _, h1⟩
  have HB1 := Num.hide b1
  have hCl := h1.lt
  clear h1 b1
  go_wp2_with fail
  refine (any_live _ C _ HL.out).mono ?_
  rintro e w2 ⟨v, L, rfl, ho2, hf, hl2, hn2⟩
  have HO2 := Num.hide ho2
  have HB2 := Num.hide (HB1.out.trans (hn2.below hC hCl))
  have HF := Num.hide hf
  have HL2 := Num.hide hl2
  have hs2 := hn2.size
  clear ho2 hf hl2 hn2
  go_wp2_with fail
  refine (name_live _ C _ HL2.out).mono ?_
  rintro e w3 ⟨x, rfl, hx, hl3, hn3⟩
  have HO3 := Num.hide (own_only HO2.out hn3 hCl)
  have HB3 := Num.hide (HB2.out.trans (hn3.below hC (by omega)))
  have HL3 := Num.hide hl3
  have hs3 := hn3.size
  clear hl3 hn3 HO2 HB2 HL2
  go_wp2_with fail
  refine (pick_live w.heap.size C w3.heap.size _ 3 _ (HL3.out.alloc _) (by omega) (heap_alloc_new w3 _) rfl (by omega) (by omega) (by decide)).mono ?_
  rintro e w4 ⟨y, rfl, hy, hl4, hn4⟩
  have HO4 := Num.hide (Recs.own_mono (own_only (World.ownsRow.alloc HO3.out _) hn4 hCl) HB1.out.size)
  have HB4 := Num.hide ((HB3.out.alloc HB3.out.size _).trans (hn4.below hC (by simp; omega)))
  clear hl4 hn4
  go_wp2
  go_ret3
  exact ⟨_, _, _, _, rfl, HO4.out, HF.out, hx, hy, HB4.out⟩
end Draw
end Go.Proofs.YtbeljhonikhdjaaDoor
namespace Go.Proofs.YtbeljhonikhdjaaDoor
open Go.RowKit
set_option linter.unusedVariables false
namespace Draw

theorem CodeAt.mono {B B' : Nat} {w : World} {a : Option Addr} {l : List Int} (h : CodeAt B w a l) (hB : B ≤ B') : CodeAt B' w a l := by
  refine ⟨h.1, ?_⟩
  rcases h.2 with h | ⟨b, off, ha, hb, hc⟩
  · exact .inl h
  · exact .inr ⟨b, off, ha, by omega, hc⟩
theorem lt_of_cell {w : World} {a : Addr} {v : Value} (h : w.cell? a = some v) : a.block < w.heap.size := by
  apply Decidable.byContradiction
  intro hc
  have hn : w.heap[a.block]? = none := Array.getElem?_eq_none (by omega)
  simp [World.cell?, hn] at h
theorem code_of (w : World) (x : Addr) (len : Nat) (zs : List Int) (hl : len ≤ zs.length) (hcell : ∀ i, i < zs.length → w.cell? (x.add i) = some (.int .u8 (zs.getD i 0))) (hwz : ∀ n ∈ zs, (Lit.int .u8 n).wf = true) :
    (zs.take len).length = len ∧ CodeAt w.heap.size w (some x) (zs.take len) := by
  have hlen : (zs.take len).length = len := by rw [List.length_take]; omega
  refine ⟨hlen, ?_, ?_⟩
  · intro i hi
    have hm : (zs.take len)[i] ∈ zs := List.mem_of_mem_take (List.getElem_mem hi)
    have := bounds_u8 (hwz _ hm)
    omega
  · by_cases h0 : len = 0
    · left; subst h0; rfl
    · right
      obtain ⟨b, off, spot⟩ := x
      have hc := hcell 0 (by omega)
      have hspot : spot = none := by simpa [Addr.add] using World.cell?_spot hc
      subst hspot
      have hadd : ∀ i, (⟨b, off, none⟩ : Addr).add i = ⟨b, off + i, none⟩ := fun i => by unfold Addr.add; split <;> simp_all
      refine ⟨b, off, rfl, ?_, ?_⟩
      · have := lt_of_cell hc
        rw [hadd] at this
        exact this
      · intro i hi
        have h2 := hcell i (by omega)
        rw [hadd] at h2
        rw [h2, List.getElem_take, List.getD_eq_getElem?_getD, List.getElem?_eq_getElem (by omega)]
        rfl
set_option maxHeartbeats 400000 in
theorem big_any (a : Option Addr) (n cap : Nat) (w : World) (h : n ≤ 9223372036854775807) : Calls Tryd.prog 7 #[.slice a n cap] w fun e w' => e = .returned (.bool (decide (1048576 < (n : Int)))) ∧ w = w' := by
  go_enter Tryd.func7, Tryd.ntmps7
  go_wp2
  go_ret
  exact ⟨by simp, rfl⟩
end Draw
end Go.Proofs.YtbeljhonikhdjaaDoor
namespace Go.Proofs.YtbeljhonikhdjaaDoor
open Go.RowKit
set_option linter.unusedVariables false
namespace Fields
open Flds Draw

theorem few_drop {n : Nat} {l : List Fld} (h : Few n l) (name : ByteArray) : Few n (drop l name) :=
  ⟨Nat.le_trans (drop_length l name) h.len, fun f hf => h.small f (List.mem_filter.1 hf).1⟩
theorem setGo_mem (l : List Fld) (name value : ByteArray) : ∀ f ∈ (setGo l name value).1, f ∈ l ∨ f = (name, value) := by
  refine Num.snoc_ind (P := fun l => ∀ f ∈ (setGo l name value).1, f ∈ l ∨ f = (name, value)) (fun f hf => by cases hf) ?_ l
  intro l g ih f hf
  rw [setGo_snoc] at hf
  unfold setStep at hf
  split at hf
  · split at hf
    · rcases ih f hf with h | h
      · exact .inl (List.mem_append_left _ h)
      · exact .inr h
    · rcases List.mem_append.1 hf with h | h
      · rcases ih f h with h | h
        · exact .inl (List.mem_append_left _ h)
        · exact .inr h
      · exact .inr (List.mem_singleton.1 h)
  · rcases List.mem_append.1 hf with h | h
    · rcases ih f h with h | h
      · exact .inl (List.mem_append_left _ h)
      · exact .inr h
    · exact .inl (by rw [List.mem_singleton.1 h]; simp)
theorem few_set {n : Nat} {l : List Fld} (h : Few n l) (name value : ByteArray) (hx : name.size ≤ 64) (hy : value.size ≤ 64) : Few (n + 1) (set l name value) := by
  refine ⟨by have := set_length l name value; have := h.len; omega, ?_⟩
  have key : ∀ f ∈ set l name value, f ∈ l ∨ f = (name, value) := by
    intro f hf
    unfold Flds.set at hf
    split at hf
    · exact setGo_mem l name value f hf
    · rcases List.mem_append.1 hf with h | h
      · exact setGo_mem l name value f h
      · exact .inr (List.mem_singleton.1 h)
  intro f hf
  rcases key f hf with h1 | h1
  · exact h.small f h1
  · rw [h1]; exact ⟨hx, hy⟩
theorem shown_small {n : Nat} {m : List Fld} (h : Few n m) (hn : n ≤ 100) : (shown m).size ≤ 600000 := by
  have hb := h.bulk hn
  have hs := showGo_size m
  unfold bulk at hb
  unfold shown
  split
  · rw [ByteArray.size_append]
    have e : (⟨#[13, 10]⟩ : ByteArray).size = 2 := rfl
    omega
  · exact Nat.zero_le _
theorem is_cells {w : World} {a : Option Addr} {c : Nat} {l : List Fld} (h : Is w (.slice a l.length c) l) : 0 < l.length → ∃ b o, a = some ⟨b, o, none⟩ ∧ l.length ≤ c ∧ c ≤ maxLen ∧ b < w.heap.size ∧ ∀ i (h : i < l.length), w.cell? ⟨b, o + i * 2, none⟩ = some (.string l[i].1) ∧ w.cell? ⟨b, o + i * 2 + 1, none⟩ = some (.string l[i].2) := by
  obtain ⟨a2, c2, h1, h2⟩ := is_form h
  simp only [Value.slice.injEq, true_and] at h1
  obtain ⟨rfl, rfl⟩ := h1
  exact h2
set_option maxRecDepth 100000 in
set_option maxHeartbeats 4000000 in
theorem law (a : Option Addr) (cap : Nat) (l : List Int) (w : World) (hcode : CodeAt w.heap.size w a l) (hl : l.length ≤ 1048576) (hS : Sign.Signs w) (hm : Lim w) :
    Calls Tryd.prog 3 #[.slice a l.length cap] w fun e w' => e = .returned (.bool true) ∧ Below w.heap.size w w' := by
  have HC := Num.hide hcode
  have HSg := Num.hide hS
  have HLm := Num.hide hm
  have hsg := signs_lt hS
  have hlm := lim_lt hm
  have HBg := Num.hide (fun W => big_any a l.length cap W (by omega))
  rw [decide_eq_false (by omega : ¬ (1048576 < (l.length : Int)))] at HBg
  clear hcode hS hm
  go_enter Tryd.func3, Tryd.ntmps3
  go_wp2_with fail
  refine (HBg.out _).mono ?_
  rintro e w0 ⟨rfl, rfl⟩
  go_wp2_with fail
  refine (drawSet cap a l w HC.out hl).mono ?_
  rintro e W1 ⟨v, L, x, y, rfl, ho, hf, hx, hy, hb⟩
  have BW1 := Num.hide hb
  have sW1 := hb.size
  have OvW1 := Num.hide ho
  clear hb ho 
  have HF := Num.hide hf
  have hlen := hf.len
  have HSet := Num.hide (set_spec_all L x y)
  have HFs := Num.hide (few_set hf x y hx hy)
  have HFd := Num.hide (few_drop hf x)
  clear hf
  obtain ⟨va, vc, hv⟩ := Recs.own_len OvW1.out
  subst hv
  go_wp2_with fail
  refine (set_impl _ L x y _ (Recs.own_is Flds.cells_len OvW1.out) (by have := HF.out.bulk (by omega); omega) (by omega) (by omega)).mono ?_
  rintro e W2 ⟨u, rfl, ho, hb⟩
  have BW2 := Num.hide (Recs.below_step BW1.out hb)
  have sW2 := hb.size
  have OvW2 := Num.hide (Recs.own_below OvW1.out hb)
  have OuW2 := Num.hide ho
  clear hb ho BW1 OvW1
  obtain ⟨ua, uc, hu⟩ := Recs.own_len OuW2.out
  have hul := HSet.out.2.2
  rw [hul] at hu
  subst hu
  clear hul
  go_wp2_with fail
  refine (drop_impl _ (set L x y) x _ (Recs.own_is Flds.cells_len OuW2.out) (by have := HFs.out.bulk (by omega); omega)).mono ?_
  rintro e W3 ⟨d, rfl, ho, hb⟩
  have BW3 := Num.hide (Recs.below_step BW2.out hb)
  have sW3 := hb.size
  have OvW3 := Num.hide (Recs.own_below OvW2.out hb)
  have OuW3 := Num.hide (Recs.own_below OuW2.out hb)
  have OdW3 := Num.hide ho
  clear hb ho BW2 OvW2 OuW2
  have od := OdW3.out
  rw [HSet.out.1] at od
  have OdW3 := Num.hide od
  clear od
  obtain ⟨da, dc, hd⟩ := Recs.own_len OdW3.out
  subst hd
  have hdl := HFd.out.len
  go_wp2_with fail
  refine (get_impl _ (set L x y) x _ (Recs.own_is Flds.cells_len OuW3.out) (by have := HFs.out.bulk (by omega); omega)).mono ?_
  rintro e W4 ⟨rfl, hb⟩
  have BW4 := Num.hide (Recs.below_step BW3.out hb)
  have sW4 := hb.size
  have OvW4 := Num.hide (Recs.own_below OvW3.out hb)
  have OuW4 := Num.hide (Recs.own_below OuW3.out hb)
  have OdW4 := Num.hide (Recs.own_below OdW3.out hb)
  clear hb BW3 OvW3 OuW3 OdW3
  rw [HSet.out.2.1]
  simp only
  go_wp2_with fail
  refine (get_impl _ (drop L x) x _ (Recs.own_is Flds.cells_len OdW4.out) (by have := HFd.out.bulk (by omega); omega)).mono ?_
  rintro e W5 ⟨rfl, hb⟩
  have BW5 := Num.hide (Recs.below_step BW4.out hb)
  have sW5 := hb.size
  have OvW5 := Num.hide (Recs.own_below OvW4.out hb)
  have OuW5 := Num.hide (Recs.own_below OuW4.out hb)
  have OdW5 := Num.hide (Recs.own_below OdW4.out hb)
  clear hb BW4 OvW4 OuW4 OdW4
  rw [get_drop]
  simp only
  go_wp2_with fail
  refine (drop_spec _ L x _ (Recs.own_is Flds.cells_len OvW5.out) (by omega)).mono ?_
  rintro e W6 ⟨g, rfl, ho, hb⟩
  have BW6 := Num.hide (Recs.below_step BW5.out hb)
  have sW6 := hb.size
  have OvW6 := Num.hide (Recs.own_below OvW5.out hb)
  have OuW6 := Num.hide (Recs.own_below OuW5.out hb)
  have OdW6 := Num.hide (Recs.own_below OdW5.out hb)
  have OgW6 := Num.hide ho
  clear hb ho BW5 OvW5 OuW5 OdW5
  go_wp2_with fail
  refine (same_spec_b _ _ (drop L x) (drop L x) _ (Recs.own_is Flds.cells_len OdW6.out) (Recs.own_is Flds.cells_len OgW6.out) (by omega)).mono ?_
  rintro e W7 ⟨rfl, hb⟩
  have BW7 := Num.hide (Recs.below_step BW6.out hb)
  have sW7 := hb.size
  have OvW7 := Num.hide (Recs.own_below OvW6.out hb)
  have OuW7 := Num.hide (Recs.own_below OuW6.out hb)
  have OdW7 := Num.hide (Recs.own_below OdW6.out hb)
  have OgW7 := Num.hide (Recs.own_below OgW6.out hb)
  clear hb BW6 OvW6 OuW6 OdW6 OgW6
  rw [decide_eq_true rfl]
  clear OgW7 OuW7 HFs
  have HV := Num.hide (is_cells (Recs.own_is Flds.cells_len OvW7.out))
  go_wp2
  go_loopw [12] (fun iv wr => ∃ i : Nat, i ≤ L.length ∧ iv = .int .i64 (i : Int) ∧ Hid (Below W7.heap.size W7 wr)) (fun iv _ => L.length - (intOf iv).toNat)
  case atStart => exact ⟨0, by omega, rfl, Below.refl _ _⟩
  case round =>
    obtain ⟨i, hi, rfl, HB⟩ := hrel
    have hszr := HB.out.size
    have hVr := Num.hide (Recs.own_below OvW7.out HB.out)
    have hDr := Num.hide (Recs.own_below OdW7.out HB.out)
    by_cases hlt : i < L.length
    · obtain ⟨bk, o, rfl, hc, hmx, hblt, hcell⟩ := Num.unhide HV (by omega)
      obtain ⟨g1, g2⟩ := hcell i hlt
      have c1 : wr.cell? ⟨bk, o + i * 2, none⟩ = some (.string L[i].1) := by rw [HB.out.cell (p := ⟨bk, o + i * 2, none⟩) hblt]; exact g1
      have HI := Num.hide (get_is L i hlt)
      have HOt := Num.hide (fun (hh : ¬ L[i].1 = x) => get_drop_other L x L[i].1 hh)
      clear hcell g1 g2
      generalize L[i].1 = t at c1 HI HOt
      have HG1 := Num.hide (fun W h => get_impl (.slice (some ⟨bk, o, none⟩) L.length vc) L t W h (by have := HF.out.bulk (by omega); omega))
      have HG2 := Num.hide (fun W h => get_impl (.slice da (drop L x).length dc) (drop L x) t W h (by have := HFd.out.bulk (by omega); omega))
      rw [HI.out] at HG1
      by_cases htx : t = x
      · subst htx
        rw [get_drop] at HG2
        generalize (get L t).1 = ga at HG1
        go_wp2_with fail
        refine (HG1.out _ (Recs.own_is Flds.cells_len hVr.out)).mono ?_
        rintro e R1 ⟨rfl, hb1⟩
        have HB1 := Num.hide (HB.out.trans (hb1.mono hszr))
        have k1 := (hb1.cell (p := ⟨bk, o + i * 2, none⟩) (by show bk < _; omega)).trans c1
        have hDr1 := Num.hide (Recs.own_below hDr.out hb1)
        have hs1 := hb1.size
        clear hb1
        go_wp2_with fail
        refine (HG2.out _ (Recs.own_is Flds.cells_len hDr1.out)).mono ?_
        rintro e R2 ⟨rfl, hb2⟩
        have HB2 := Num.hide (HB1.out.trans (hb2.mono (by omega)))
        have k2 := (hb2.cell (p := ⟨bk, o + i * 2, none⟩) (by show bk < _; omega)).trans k1
        clear hb2
        go_wp2
        go_roundw
        case rel => exact ⟨i + 1, by omega, by go_num, HB2⟩
        case measure => simp [intOf]; omega
      · rw [HOt.out htx, HI.out] at HG2
        generalize (get L t).1 = ga at HG1 HG2
        have hd1 := text_ne' htx
        have hd2 : (t.toList != x.toList) = true := by rw [bne, hd1]; rfl
        go_wp2_with fail
        refine (HG1.out _ (Recs.own_is Flds.cells_len hVr.out)).mono ?_
        rintro e R1 ⟨rfl, hb1⟩
        have HB1 := Num.hide (HB.out.trans (hb1.mono hszr))
        have k1 := (hb1.cell (p := ⟨bk, o + i * 2, none⟩) (by show bk < _; omega)).trans c1
        have hDr1 := Num.hide (Recs.own_below hDr.out hb1)
        have hs1 := hb1.size
        clear hb1
        go_wp2_with fail
        refine (HG2.out _ (Recs.own_is Flds.cells_len hDr1.out)).mono ?_
        rintro e R2 ⟨rfl, hb2⟩
        have HB2 := Num.hide (HB1.out.trans (hb2.mono (by omega)))
        have k2 := (hb2.cell (p := ⟨bk, o + i * 2, none⟩) (by show bk < _; omega)).trans k1
        clear hb2
        go_wp2
        go_roundw
        case rel => exact ⟨i + 1, by omega, by go_num, HB2⟩
        case measure => simp [intOf]; omega
    · have BR := Num.hide (BW7.out.trans (HB.out.mono BW7.out.size))
      have HCr := Num.hide ((HC.out.below BR.out).mono BR.out.size)
      have hsr := BR.out.size
      clear HV hVr hDr HF HFd HSet OvW7 OdW7
      go_wp2_with fail
      refine (drawShow cap a l wr HCr.out hl).mono ?_
      rintro e R1 ⟨mv, m, rfl, ho, hf, hb⟩
      have HO1 := Num.hide ho
      have HB1 := Num.hide (BR.out.trans (hb.mono hsr))
      have HF := Num.hide hf
      have hml := hf.len
      have hms := shown_small hf (by omega)
      clear ho hf hb BR
      go_wp2_with fail
      refine (show_impl _ m _ (Recs.own_is Flds.cells_len HO1.out) (by have := HF.out.bulk (by omega); omega) (signs_below HSg.out HB1.out hsg)).mono ?_
      rintro e R2 ⟨rfl, hb⟩
      have HO2 := Num.hide (Recs.own_below HO1.out hb)
      have HB2 := Num.hide (Recs.below_step HB1.out hb)
      clear hb HO1 HB1
      have hbs : (⟨#[98, 111, 100, 121]⟩ : ByteArray).size = 4 := rfl
      have HRd := Num.hide (fun W hS hm => read_impl (shown m ++ ⟨#[98, 111, 100, 121]⟩) W (by rw [ByteArray.size_append]; omega) hS hm)
      have HOk := Num.hide (fun v W h => ok_spec v m W h (fun f hf => by have := HF.out.small f hf; unfold maxLen; omega) (by omega))
      have hem := shown_empty m
      cases hok : ok m with
      | true =>
        obtain ⟨e1, e2, e3⟩ := told_some (read_shown m ⟨#[98, 111, 100, 121]⟩ hok)
        rw [e1, e2, e3] at HRd
        rw [hok] at HOk hem
        clear e1 e2 e3 hok
        generalize shown m = t at HRd hem hms
        have hne : t.toList.isEmpty = false := hem
        clear hem
        go_wp2_with fail
        refine (HRd.out _ (signs_below HSg.out HB2.out hsg) (lim_below HLm.out HB2.out hlm)).mono ?_
        rintro e R3 ⟨rv, rfl, ho, hb⟩
        have HO3 := Num.hide (Recs.own_below HO2.out hb)
        have HP3 := Num.hide ho
        have HB3 := Num.hide (Recs.below_step HB2.out hb)
        clear ho hb HO2 HB2
        go_wp2_with fail
        refine (HOk.out _ _ (Recs.own_is Flds.cells_len HO3.out)).mono ?_
        rintro e R4 ⟨rfl, hb⟩
        have HO4 := Num.hide (Recs.own_below HO3.out hb)
        have HP4 := Num.hide (Recs.own_below HP3.out hb)
        have HB4 := Num.hide (Recs.below_step HB3.out hb)
        clear hb HO3 HP3 HB3
        go_wp2_with fail
        refine (same_spec_b _ _ m m _ (Recs.own_is Flds.cells_len HP4.out) (Recs.own_is Flds.cells_len HO4.out) (by omega)).mono ?_
        rintro e R5 ⟨rfl, hb⟩
        rw [decide_eq_true rfl]
        have HB5 := Num.hide (Recs.below_step HB4.out hb)
        clear hb HO4 HP4 HB4
        go_wp2
        go_ret
        exact ⟨rfl, HB5.out⟩
      | false =>
        rw [hok] at HOk hem
        clear hok
        generalize shown m = t at HRd hem hms
        have hne : t.toList.isEmpty = true := hem
        clear hem
        generalize readL (t ++ ⟨#[98, 111, 100, 121]⟩) = rl at HRd
        generalize readN (t ++ ⟨#[98, 111, 100, 121]⟩) = rn at HRd
        generalize readB (t ++ ⟨#[98, 111, 100, 121]⟩) = rb at HRd
        go_wp2_with fail
        refine (HRd.out _ (signs_below HSg.out HB2.out hsg) (lim_below HLm.out HB2.out hlm)).mono ?_
        rintro e R3 ⟨rv, rfl, ho, hb⟩
        have HO3 := Num.hide (Recs.own_below HO2.out hb)
        have HB3 := Num.hide (Recs.below_step HB2.out hb)
        clear ho hb HO2 HB2
        go_wp2_with fail
        refine (HOk.out _ _ (Recs.own_is Flds.cells_len HO3.out)).mono ?_
        rintro e R4 ⟨rfl, hb⟩
        have HB4 := Num.hide (Recs.below_step HB3.out hb)
        clear hb HO3 HB3
        go_wp2
        go_ret
        exact ⟨rfl, HB4.out⟩
end Fields
end Go.Proofs.YtbeljhonikhdjaaDoor
