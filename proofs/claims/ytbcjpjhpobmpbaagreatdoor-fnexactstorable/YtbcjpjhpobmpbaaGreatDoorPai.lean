/-
  FldGetSpec: FieldGet of the specification: all values of a name, joined; the world stays.
  Strs: Lists of texts in memory: a slice of texts as it is read (Strs), and one whose row the call itself made (OwnS).
  SplitSpec: SplitList of the specification: the parts of a text, in a row of the call's own; what was there stays.
  DirOwn: A list of directives in a row of the call's own.
  DirPut: A directive put behind a list of directives in a row of the call's own.
-/
import Derived.Test.YtbcjpjhpobmpbaaGreatDoorPaa
import Derived.Test.YtbcjpjhpobmpbaaGreatDoorNum
import Derived.Test.YtbcjpjhpobmpbaaGreatDoorRows
import Derived.WalkKit
import Derived.WalkLawsBesides
import Derived.WalkSmall
import Derived.Below
import Derived.Test.YtbcjpjhpobmpbaaGreatDoorFlds
import Derived.Test.YtbcjpjhpobmpbaaGreatDoorPae
namespace Go.Proofs.YtbcjpjhpobmpbaaGreatDoor
open Go.RowKit
set_option linter.unusedVariables false
namespace Flds

set_option maxRecDepth 100000 in
set_option maxHeartbeats 1000000 in
theorem get_spec (v : Value) (l : List Fld) (name : ByteArray) (w : World) (h : Is w v l) (hl : bulk l ≤ 1099511627776) :
    Calls Tryz.prog 23 #[v, .string name] w fun e w' => e = .returned (.tuple #[.string (get l name).1, .bool (get l name).2]) ∧ w = w' := by
  obtain ⟨a, c, rfl, h2⟩ := is_form h
  have HA := Num.hide h2
  have hlen : l.length ≤ 1099511627776 := by unfold bulk at hl; omega
  clear h h2
  obtain ⟨r, hr⟩ : ∃ r, get l name = r := ⟨_, rfl⟩
  rw [hr]
  have HR := Num.hide hr
  clear hr
  go_enter Tryz.func23, Tryz.ntmps23
  go_wp2
  go_loop [6, 7, 8] (fun sv bv iv => ∃ i : Nat, i ≤ l.length ∧ iv = .int .i64 (i : Int) ∧ (∃ s b, sv = .string s ∧ bv = .bool b ∧ Hid (get (l.take i) name = (s, b)))) (fun _ _ iv => l.length - (intOf iv).toNat)
  case atStart => exact ⟨0, by omega, rfl, _, _, rfl, rfl, rfl⟩
  case round =>
    obtain ⟨i, hi, rfl, s, b, rfl, rfl, HG⟩ := hrel
    by_cases hlt : i < l.length
    · obtain ⟨bk, o, rfl, hc, hmx, hblt, hcell⟩ := Num.unhide HA (by omega)
      obtain ⟨c1, c2⟩ := hcell i hlt
      have HT := Num.hide (get_take l name i hlt)
      have hsz := get_size (l.take i) name
      rw [HG.out] at hsz
      have hb1 := bulk_le l i
      have hss : s.size ≤ 4398046511104 := by
        simp only at hsz
        rw [List.length_take] at hsz
        unfold bulk at hl
        omega
      have hys : (l[i]).2.size ≤ 4398046511104 := by
        have h3 := bulk_take l i hlt
        have h4 := bulk_le l (i + 1)
        unfold bulk at hl
        omega
      clear hcell hsz hb1
      generalize l[i] = f at c1 c2 HT hys
      obtain ⟨x, y⟩ := f
      simp only at c1 c2 hys
      by_cases he : x = name
      · subst he
        cases b with
        | true =>
          have HT2 : Hid (get (l.take (i + 1)) x = (s ++ ⟨#[44, 32]⟩ ++ y, true)) := by
            have := HT.out
            rw [HG.out] at this
            rw [this]; unfold getStep; rw [if_pos rfl, if_pos rfl]; rfl
          go_wp2
          go_round
          case rel => exact ⟨i + 1, by omega, by go_num, _, _, rfl, rfl, HT2⟩
          case measure => simp [intOf]; omega
        | false =>
          have HT2 : Hid (get (l.take (i + 1)) x = (s ++ y, true)) := by
            have := HT.out
            rw [HG.out] at this
            rw [this]; unfold getStep; rw [if_pos rfl, if_neg (by simp)]; rfl
          go_wp2
          go_round
          case rel => exact ⟨i + 1, by omega, by go_num, _, _, rfl, rfl, HT2⟩
          case measure => simp [intOf]; omega
      · have d := text_ne' he
        have d' : (x.toList != name.toList) = true := by rw [bne, d]; rfl
        have HT2 : Hid (get (l.take (i + 1)) name = (s, b)) := by
          have := HT.out
          rw [HG.out] at this
          rw [this]; unfold getStep; rw [if_neg he]; rfl
        clear he
        go_wp2
        go_round
        case rel => exact ⟨i + 1, by omega, by go_num, _, _, rfl, rfl, HT2⟩
        case measure => simp [intOf]; omega
    · obtain rfl : i = l.length := by omega
      have hg := HG.out
      rw [List.take_of_length_le (Nat.le_refl _), HR.out] at hg
      subst hg
      go_wp2
      go_ret2
      exact ⟨rfl, rfl⟩
theorem get_spec_b (v : Value) (l : List Fld) (name : ByteArray) (w : World) (h : Is w v l) (hl : bulk l ≤ 1099511627776) :
    Calls Tryz.prog 23 #[v, .string name] w fun e w' => e = .returned (.tuple #[.string (get l name).1, .bool (get l name).2]) ∧ Below w.heap.size w w' :=
  (get_spec v l name w h hl).mono fun e w' ⟨h1, h2⟩ => ⟨h1, by subst h2; exact Below.refl _ _⟩
end Flds
end Go.Proofs.YtbcjpjhpobmpbaaGreatDoor
namespace Go.Proofs.YtbcjpjhpobmpbaaGreatDoor
open Go.RowKit
set_option linter.unusedVariables false
namespace Strs

theorem infoS : (Tryz.prog.info? 9).map (fun i => (i.zero, i.size, i.bytes)) = some (some (.string ⟨#[]⟩), 1, 16) := by kernel_rfl
theorem grown_trans {a b c : World} {r : Option Nat} (h : a.grownBy b r) (k : b.grownBy c r) : a.grownBy c r :=
  ⟨k.os.trans h.os, k.tape.trans h.tape, k.output.trans h.output, Nat.le_trans h.size k.size, fun j hj hr => (k.block j (Nat.lt_of_lt_of_le hj h.size) hr).trans (h.block j hj hr)⟩
theorem grown_of_below {a b : World} (h : Below a.heap.size a b) (r : Option Nat) : a.grownBy b r :=
  ⟨h.os, h.tape, h.output, h.size, fun j hj _ => h.block j hj⟩
theorem grown_drew {a b : World} {r : Option Nat} (h : a.grownBy b r) : a.grownBy b.drew r := ⟨h.os, h.tape, h.output, h.size, h.block⟩
theorem grown_drewN {a b : World} {r : Option Nat} (h : a.grownBy b r) (n : Nat) : a.grownBy (b.drewN n) r := ⟨h.os, h.tape, h.output, h.size, h.block⟩
theorem below_drewN {B : Nat} {a b : World} (h : Below B a b) (n : Nat) : Below B a (b.drewN n) := ⟨h.os, h.tape, h.output, h.size, h.block⟩
theorem below_grown {B : Nat} {a b c : World} {r : Option Nat} (h : Below B a b) (k : b.grownBy c r) (hr : ∀ j, r = some j → B ≤ j) (hB : B ≤ b.heap.size) : Below B a c := h.grown k hB hr

/-- the slice's row is the call's own: from block B on, not marked; it bears these texts -/
def OwnS (B : Nat) (w : World) (v : Value) (l : List ByteArray) : Prop := w.ownsRow B 9 1 v l.length (l.map Value.string)
/-- a slice of texts as it is read -/
def Is (w : World) (v : Value) (l : List ByteArray) : Prop :=
  (l = [] ∧ ∃ a c, v = .slice a 0 c) ∨ ∃ b o c, v = .slice (some ⟨b, o, none⟩) l.length c ∧ l.length ≤ c ∧ c ≤ maxLen ∧ ∀ i (h : i < l.length), w.cell? ⟨b, o + i, none⟩ = some (.string l[i])

theorem own_nil (B : Nat) (w : World) : OwnS B w (.slice none 0 0) [] := World.ownsRow_nil w B _ 1
theorem own_len {B : Nat} {w : World} {v : Value} {l : List ByteArray} (h : OwnS B w v l) : ∃ a c, v = .slice a l.length c := by
  rcases h.2 with ⟨h1, h2⟩ | ⟨g, cap, cur, h1, _⟩
  · exact ⟨none, 0, by rw [h1, h2]⟩
  · exact ⟨_, _, h1⟩
theorem own_kept {B : Nat} {w w' : World} {v : Value} {l : List ByteArray} {r : Option Nat} (h : OwnS B w v l) (hg : w.grownBy w' r) (hne : v.ownBlock = none ∨ v.ownBlock ≠ r) : OwnS B w' v l := World.ownsRow.kept h hg hne
theorem own_below {B : Nat} {w w' : World} {v : Value} {l : List ByteArray} (h : OwnS B w v l) (hb : Below w.heap.size w w') : OwnS B w' v l :=
  own_kept h (grown_of_below hb none) (by cases e : v.ownBlock with
    | none => exact .inl rfl
    | some k => exact .inr (by intro h; cases h))
theorem own_drew {B : Nat} {w : World} {v : Value} {l : List ByteArray} (h : OwnS B w v l) : OwnS B w.drew v l := h
theorem own_drewN {B : Nat} {w : World} {v : Value} {l : List ByteArray} (h : OwnS B w v l) (n : Nat) : OwnS B (w.drewN n) v l := h
theorem own_lt {B : Nat} {w : World} {v : Value} {l : List ByteArray} (h : OwnS B w v l) : ∀ k, v.ownBlock = some k → B ≤ k ∧ k < w.heap.size := World.ownsRow.lt h
theorem own_is {B : Nat} {w : World} {v : Value} {l : List ByteArray} (h : OwnS B w v l) : Is w v l := by
  rcases h.2 with ⟨h1, h2⟩ | ⟨g, cap, cur, h1, hB, hg, hc, hm, hs, ht⟩
  · left; exact ⟨List.eq_nil_of_length_eq_zero h2, none, 0, h1⟩
  · right
    refine ⟨g, 0, cap, h1, hc, hm, fun i hi => ?_⟩
    rw [Nat.zero_add, cell_of_row w g i cur _ _ hg]
    have h2 : (cur.toList.take (l.length * 1))[i]? = (l.map Value.string)[i]? := by rw [ht]
    rw [List.getElem?_take_of_lt (by omega), List.getElem?_map, List.getElem?_eq_getElem hi] at h2
    simpa using h2
theorem is_below {B : Nat} {w w' : World} {v : Value} {l : List ByteArray} (h : Is w v l) (hb : Below w.heap.size w w') : Is w' v l := by
  rcases h with h | ⟨b, o, c, h1, h2, h3, h4⟩
  · exact .inl h
  · refine .inr ⟨b, o, c, h1, h2, h3, fun i hi => ?_⟩
    have e := h4 i hi
    have hlt : b < w.heap.size := by
      by_cases hz : b < w.heap.size
      · exact hz
      · exfalso
        have : w.heap[b]? = none := Array.getElem?_eq_none (by omega)
        simp [World.cell?, this] at e
    rw [hb.cell (p := ⟨b, o + i, none⟩) hlt]; exact e
/-- a row that lies below block C stays with what lies there -/
theorem own_stay {B C : Nat} {w w' : World} {v : Value} {l : List ByteArray} (h : OwnS B w v l) (hC : ∀ k, v.ownBlock = some k → k < C) (hb : Below C w w') : OwnS B w' v l := by
  refine ⟨h.1, ?_⟩
  rcases h.2 with h1 | ⟨g, cap, cur, h1, hB, hg, rest⟩
  · exact .inl h1
  · subst h1
    exact .inr ⟨g, cap, cur, rfl, hB, by rw [hb.block g (hC g rfl)]; exact hg, rest⟩
/-- what a marking of one's own row leaves of what lay below it -/
theorem below_mark {B C : Nat} {w w' : World} {v : Value} {l : List ByteArray} (h : OwnS B w v l) (hCB : C ≤ B) (hC : C ≤ w.heap.size) (hg : w.grownBy w' v.ownBlock) : Below C w w' :=
  (Below.refl C w).grown hg hC (fun j hj => Nat.le_trans hCB (own_lt h j hj).1)
theorem cells_one (w : World) (t : ByteArray) : ∀ j u, [Value.string t][j]? = some u → (w.alloc (.cells #[.string t] 9)).cell? ((⟨w.heap.size, 0, none⟩ : Addr).add j) = some u := by
  intro j u hj
  match j, hj with
  | 0, hj => simp at hj; subst hj; simp [Addr.add]
theorem one_ok (t : ByteArray) : ∀ u ∈ [Value.string t], u.oneCell' = true := by intro u hu; simp at hu; subst hu; rfl
theorem own_snoc {B : Nat} {w : World} {v : Value} {l : List ByteArray} {t : ByteArray} (h : w.ownsRow B 9 1 v (l.length + 1) (l.map Value.string ++ [.string t])) : OwnS B w v (l ++ [t]) := by
  unfold OwnS
  rw [List.length_append, List.map_append]
  exact h
end Strs
end Go.Proofs.YtbcjpjhpobmpbaaGreatDoor
namespace Go.Proofs.YtbcjpjhpobmpbaaGreatDoor
open Go.RowKit
set_option linter.unusedVariables false
namespace Sign

/-- where the specification stands within the text -/
structure SpAt (s : ByteArray) (i a : Nat) (q : Bool) (l : List ByteArray) : Prop where
  len : l.length ≤ i
  form : (i ≤ s.size ∧ a ≤ i ∧ split s = l ++ rest s (s.size - i) a q) ∨ (i = s.size + 1 ∧ a = s.size + 1 ∧ split s = l) ∨ (i = s.size + 1 ∧ a < s.size ∧ q = true ∧ split s = l ++ part s a s.size)
theorem sp_start (s : ByteArray) : SpAt s 0 0 false [] := ⟨Nat.le_refl _, .inl ⟨Nat.zero_le _, Nat.le_refl _, by rw [List.nil_append, Nat.sub_zero]; rfl⟩⟩
section
variable {s : ByteArray} {i a : Nat} {q : Bool} {l : List ByteArray}
theorem sp_in (h : SpAt s i a q l) (hi : i ≤ s.size) : a ≤ i ∧ split s = l ++ rest s (s.size - i) a q := by
  rcases h.form with h | h | h
  · exact h.2
  · omega
  · omega
theorem sp_le (h : SpAt s i a q l) : i ≤ s.size + 1 := by rcases h.form with h | h | h <;> omega
theorem sp_quote (h : SpAt s i a q l) (hi : i < s.size) (hc : (s[i]).toNat = 34) : SpAt s (i + 1) a (!q) l := by
  obtain ⟨h1, h2⟩ := sp_in h (by omega)
  exact ⟨by have := h.len; omega, .inl ⟨hi, by omega, by rw [h2, rest_quote s i a q hi hc]⟩⟩
theorem sp_esc (h : SpAt s i a true l) (hi : i < s.size) (hc : (s[i]).toNat = 92) : SpAt s (i + 2) a true l := by
  obtain ⟨h1, h2⟩ := sp_in h (by omega)
  refine ⟨by have := h.len; omega, ?_⟩
  by_cases h3 : i + 2 ≤ s.size
  · exact .inl ⟨h3, by omega, by rw [h2, rest_esc s i a hi hc]⟩
  · exact .inr (.inr ⟨by omega, by omega, rfl, by rw [h2, rest_esc s i a hi hc, rest_end s _ a true (by omega)]⟩)
theorem sp_comma (h : SpAt s i a false l) (hi : i < s.size) (hc : (s[i]).toNat = 44) : SpAt s (i + 1) (i + 1) false (l ++ part s a i) := by
  obtain ⟨h1, h2⟩ := sp_in h (by omega)
  refine ⟨?_, .inl ⟨hi, Nat.le_refl _, by rw [h2, rest_comma s i a hi hc, List.append_assoc]⟩⟩
  have hp : (part s a i).length ≤ 1 := by unfold part; split <;> simp
  have := h.len
  rw [List.length_append]; omega
theorem sp_else (h : SpAt s i a q l) (hi : i < s.size) (h1 : (s[i]).toNat ≠ 34) (h2 : ¬ (q = true ∧ (s[i]).toNat = 92)) (h3 : ¬ ((s[i]).toNat = 44 ∧ q = false)) : SpAt s (i + 1) a q l := by
  obtain ⟨h4, h5⟩ := sp_in h (by omega)
  exact ⟨by have := h.len; omega, .inl ⟨hi, by omega, by rw [h5, rest_else s i a q hi h1 h2 h3]⟩⟩
theorem sp_last (h : SpAt s s.size a q l) : SpAt s (s.size + 1) (s.size + 1) q (l ++ part s a s.size) := by
  obtain ⟨h1, h2⟩ := sp_in h (Nat.le_refl _)
  refine ⟨?_, .inr (.inl ⟨rfl, rfl, by rw [h2, rest_end s _ a q (Nat.le_refl _)]⟩)⟩
  have hp : (part s a s.size).length ≤ 1 := by unfold part; split <;> simp
  have := h.len
  rw [List.length_append]; omega
end
/-- its memory too -/
structure SpMid (w : World) (s : ByteArray) (i a : Nat) (q : Bool) (l : List ByteArray) (v : Value) (wr : World) : Prop where
  at_ : SpAt s i a q l
  own : Strs.OwnS w.heap.size wr v l
  below : Below w.heap.size w wr
theorem SpMid.to {w : World} {s : ByteArray} {i a : Nat} {q : Bool} {l : List ByteArray} {v : Value} {wr : World} (m : SpMid w s i a q l v wr) {i' a' : Nat} {q' : Bool} (h : SpAt s i' a' q' l) : SpMid w s i' a' q' l v wr := ⟨h, m.own, m.below⟩
theorem SpMid.size {w : World} {s : ByteArray} {i a : Nat} {q : Bool} {l : List ByteArray} {v : Value} {wr : World} (m : SpMid w s i a q l v wr) : w.heap.size ≤ wr.heap.size := m.below.size
theorem part_none (s : ByteArray) (a b : Nat) (h : (trim (s.extract a b)).size = 0) : part s a b = [] := by unfold part; rw [if_pos h]
theorem part_one (s : ByteArray) (a b : Nat) (h : ¬ (trim (s.extract a b)).size = 0) : part s a b = [trim (s.extract a b)] := by unfold part; rw [if_neg h]
theorem sp_put {w wr w2 : World} {v v' : Value} {l : List ByteArray} {t : ByteArray} (ho : Strs.OwnS w.heap.size wr v l) (hb : Below w.heap.size w wr)
    (ho2 : w2.ownsRow w.heap.size 9 1 v' (l.length + 1) (l.map Value.string ++ [.string t])) (hg : (wr.alloc (.cells #[.string t] 9)).grownBy w2 v.ownBlock) : Strs.OwnS w.heap.size w2 v' (l ++ [t]) ∧ Below w.heap.size w w2 :=
  ⟨Strs.own_snoc ho2, Strs.below_grown (hb.alloc hb.size _) hg (fun j hj => (Strs.own_lt ho j hj).1) (by simp; have := hb.size; omega)⟩

set_option maxRecDepth 100000 in
set_option maxHeartbeats 4000000 in
theorem split_spec (s : ByteArray) (w : World) (hs : s.size ≤ 1048576) :
    Calls Tryz.prog 24 #[.string s] w fun e w' => ∃ v', e = .returned v' ∧ Strs.OwnS w.heap.size w' v' (split s) ∧ Below w.heap.size w w' := by
  obtain ⟨i0, hi0, hz0, hz1, hz2⟩ := info_parts Strs.infoS
  go_enter Tryz.func24, Tryz.ntmps24
  go_wp2
  go_loopw [3, 4, 5, 6] (fun v f qv iv wr => ∃ (i a : Nat) (q : Bool) (l : List ByteArray), f = .int .i64 (a : Int) ∧ iv = .int .i64 (i : Int) ∧ qv = .bool q ∧ Hid (SpMid w s i a q l v wr)) (fun _ _ _ iv _ => s.size + 1 - (intOf iv).toNat)
  case atStart => exact ⟨0, 0, false, [], rfl, rfl, rfl, ⟨sp_start s, World.ownsRow_made w #[] 0 (Nat.le_refl _) (Nat.zero_le _) rfl, (Below.refl _ _).alloc (Nat.le_refl _) _⟩⟩
  case round =>
    obtain ⟨i, a, q, l, rfl, rfl, rfl, HM⟩ := hrel
    have hle := sp_le HM.out.at_
    have hlen := HM.out.at_.len
    have hsz := HM.out.size
    by_cases hin : i ≤ s.size
    · have hai := (sp_in HM.out.at_ hin).1
      by_cases hi : i < s.size
      · have di : decide ((i : Int) < (s.size : Int)) = true := by simp; omega
        have dg : decide ((s.size : Int) ≤ (i : Int)) = false := by simp; omega
        by_cases h34 : (s[i]).toNat = 34
        · have d34 : (((s[i]).toNat : Int) == 34) = true := by rw [beq_iff_eq]; omega
          have d92 : (((s[i]).toNat : Int) == 92) = false := by rw [beq_eq_false_iff_ne]; omega
          have d44 : (((s[i]).toNat : Int) == 44) = false := by rw [beq_eq_false_iff_ne]; omega
          have HM2 := Num.hide (HM.out.to (sp_quote HM.out.at_ hi h34))
          clear h34
          cases q with
          | true =>
            go_wp2
            go_roundw
            case rel => exact ⟨i + 1, a, false, l, rfl, by go_num, rfl, HM2⟩
            case measure => simp [intOf] <;> omega
          | false =>
            go_wp2
            go_roundw
            case rel => exact ⟨i + 1, a, true, l, rfl, by go_num, rfl, HM2⟩
            case measure => simp [intOf] <;> omega
        · have d34 : (((s[i]).toNat : Int) == 34) = false := by rw [beq_eq_false_iff_ne]; omega
          by_cases h92 : (s[i]).toNat = 92
          · have d92 : (((s[i]).toNat : Int) == 92) = true := by rw [beq_iff_eq]; omega
            have d44 : (((s[i]).toNat : Int) == 44) = false := by rw [beq_eq_false_iff_ne]; omega
            cases q with
            | true =>
              have HM2 := Num.hide (HM.out.to (sp_esc HM.out.at_ hi h92))
              clear h34 h92
              go_wp2
              go_roundw
              case rel => exact ⟨i + 2, a, true, l, rfl, by go_num, rfl, HM2⟩
              case measure => simp [intOf] <;> omega
            | false =>
              have HM2 := Num.hide (HM.out.to (sp_else HM.out.at_ hi h34 (by rintro ⟨h, _⟩; cases h) (by omega)))
              clear h34 h92
              go_wp2
              go_roundw
              case rel => exact ⟨i + 1, a, false, l, rfl, by go_num, rfl, HM2⟩
              case measure => simp [intOf] <;> omega
          · have d92 : (((s[i]).toNat : Int) == 92) = false := by rw [beq_eq_false_iff_ne]; omega
            by_cases h44 : (s[i]).toNat = 44
            · have d44 : (((s[i]).toNat : Int) == 44) = true := by rw [beq_iff_eq]; omega
              cases q with
              | true =>
                have HM2 := Num.hide (HM.out.to (sp_else HM.out.at_ hi h34 (by omega) (by rintro ⟨_, h⟩; cases h)))
                clear h34 h92 h44
                go_wp2
                go_roundw
                case rel => exact ⟨i + 1, a, true, l, rfl, by go_num, rfl, HM2⟩
                case measure => simp [intOf] <;> omega
              | false =>
                have HT := Num.hide (fun W => trim_spec (s.extract a i) W (by unfold maxLen; rw [ByteArray.size_extract]; omega))
                have HA := Num.hide (sp_comma HM.out.at_ hi h44)
                have HN := Num.hide (part_none s a i)
                have HO := Num.hide (part_one s a i)
                generalize trim (s.extract a i) = t at HT HN HO
                clear h34 h92 h44
                have hmin : min (i : Int) (s.size : Int) = (i : Int) := by omega
                by_cases ht : t.size = 0
                · have HA2 := HA.out
                  rw [HN.out ht, List.append_nil] at HA2
                  have HM2 := Num.hide (HM.out.to HA2)
                  obtain rfl : t = ⟨#[]⟩ := empty_true t ht
                  clear HA2 HA HO HN
                  go_wp2_with (go_at_call 45; refine (HT.out _).mono ?_; rintro e w' ⟨rfl, rfl⟩)
                  go_roundw
                  case rel => exact ⟨i + 1, i + 1, false, l, by go_num, by go_num, rfl, HM2⟩
                  case measure => simp [intOf] <;> omega
                · have HA2 := HA.out
                  rw [HO.out ht] at HA2
                  have HA3 := Num.hide HA2
                  have hne := empty_false t (by omega)
                  clear HA2 HA HO HN
                  go_wp2_with (first | (go_at_call 45; refine (HT.out _).mono ?_; rintro e w' ⟨rfl, rfl⟩) | (at_builtin; refine wpList_append_own _ rfl _ _ 55 rfl w.heap.size 9 i0 (.string ⟨#[]⟩) 1 16 Tryz.underlying55 hi0 hz0 hz1 hz2 rfl (by decide) _ _ _ rfl (World.ownsRow.alloc HM.out.own _) ⟨wr.heap.size, 0, none⟩ 1 1 [.string t] rfl rfl (Strs.cells_one wr t) (Strs.one_ok t) (by unfold maxLen; omega) (by omega) ?c5 ?_))
                  case c5 => simp; omega
                  intro v' w2 ho2 hg2 _
                  have HP := Num.hide (sp_put HM.out.own HM.out.below ho2 hg2)
                  clear ho2 hg2
                  go_wp2
                  go_roundw
                  case rel => exact ⟨i + 1, i + 1, false, l ++ [t], by go_num, by go_num, rfl, ⟨HA3.out, HP.out.1, HP.out.2⟩⟩
                  case measure => simp [intOf] <;> omega
            · have d44 : (((s[i]).toNat : Int) == 44) = false := by rw [beq_eq_false_iff_ne]; omega
              have HM2 := Num.hide (HM.out.to (sp_else HM.out.at_ hi h34 (by omega) (by omega)))
              clear h34 h92 h44
              cases q with
              | true =>
                go_wp2
                go_roundw
                case rel => exact ⟨i + 1, a, true, l, rfl, by go_num, rfl, HM2⟩
                case measure => simp [intOf] <;> omega
              | false =>
                go_wp2
                go_roundw
                case rel => exact ⟨i + 1, a, false, l, rfl, by go_num, rfl, HM2⟩
                case measure => simp [intOf] <;> omega
      · obtain rfl : i = s.size := by omega
        have di : decide ((s.size : Int) < (s.size : Int)) = false := by simp
        have dg : decide ((s.size : Int) ≤ (s.size : Int)) = true := by simp
        have HT := Num.hide (fun W => trim_spec (s.extract a s.size) W (by unfold maxLen; rw [ByteArray.size_extract]; omega))
        have HA := Num.hide (sp_last HM.out.at_)
        have HN := Num.hide (part_none s a s.size)
        have HO := Num.hide (part_one s a s.size)
        generalize trim (s.extract a s.size) = t at HT HN HO
        by_cases ht : t.size = 0
        · have HA2 := HA.out
          rw [HN.out ht, List.append_nil] at HA2
          have HM2 := Num.hide (HM.out.to HA2)
          obtain rfl : t = ⟨#[]⟩ := empty_true t ht
          clear HA2 HA HO HN
          go_wp2_with (go_at_call 45; refine (HT.out _).mono ?_; rintro e w' ⟨rfl, rfl⟩)
          go_roundw
          case rel => exact ⟨s.size + 1, s.size + 1, q, l, by go_num, by go_num, rfl, HM2⟩
          case measure => simp [intOf] <;> omega
        · have HA2 := HA.out
          rw [HO.out ht] at HA2
          have HA3 := Num.hide HA2
          have hne := empty_false t (by omega)
          clear HA2 HA HO HN
          go_wp2_with (first | (go_at_call 45; refine (HT.out _).mono ?_; rintro e w' ⟨rfl, rfl⟩) | (at_builtin; refine wpList_append_own _ rfl _ _ 55 rfl w.heap.size 9 i0 (.string ⟨#[]⟩) 1 16 Tryz.underlying55 hi0 hz0 hz1 hz2 rfl (by decide) _ _ _ rfl (World.ownsRow.alloc HM.out.own _) ⟨wr.heap.size, 0, none⟩ 1 1 [.string t] rfl rfl (Strs.cells_one wr t) (Strs.one_ok t) (by unfold maxLen; omega) (by omega) ?c5 ?_))
          case c5 => simp; omega
          intro v' w2 ho2 hg2 _
          have HP := Num.hide (sp_put HM.out.own HM.out.below ho2 hg2)
          clear ho2 hg2
          go_wp2
          go_roundw
          case rel => exact ⟨s.size + 1, s.size + 1, q, l ++ [t], by go_num, by go_num, rfl, ⟨HA3.out, HP.out.1, HP.out.2⟩⟩
          case measure => simp [intOf] <;> omega
    · obtain rfl : i = s.size + 1 := by omega
      rcases HM.out.at_.form with h | ⟨_, rfl, hsp⟩ | ⟨_, ha, rfl, hsp⟩
      · omega
      · have da : decide (((s.size + 1 : Nat) : Int) < (s.size : Int)) = false := by simp; omega
        have HS := Num.hide hsp
        clear hsp
        go_wp2
        go_ret
        exact ⟨_, rfl, by rw [HS.out]; exact HM.out.own, HM.out.below⟩
      · have da : decide ((a : Int) < (s.size : Int)) = true := by simp; omega
        have HT := Num.hide (fun W => trim_spec (s.extract a s.size) W (by unfold maxLen; rw [ByteArray.size_extract]; omega))
        have HN := Num.hide (part_none s a s.size)
        have HO := Num.hide (part_one s a s.size)
        have HS := Num.hide hsp
        clear hsp
        generalize trim (s.extract a s.size) = t at HT HN HO
        by_cases ht : t.size = 0
        · have hsp := HS.out
          rw [HN.out ht, List.append_nil] at hsp
          have HS2 := Num.hide hsp
          clear hsp
          obtain rfl : t = ⟨#[]⟩ := empty_true t ht
          go_wp2_with (go_at_call 45; refine (HT.out _).mono ?_; rintro e w' ⟨rfl, rfl⟩)
          go_ret
          exact ⟨_, rfl, by rw [HS2.out]; exact HM.out.own, HM.out.below⟩
        · have hsp := HS.out
          rw [HO.out ht] at hsp
          have HS2 := Num.hide hsp
          clear hsp
          have hne := empty_false t (by omega)
          go_wp2_with (first | (go_at_call 45; refine (HT.out _).mono ?_; rintro e w' ⟨rfl, rfl⟩) | (at_builtin; refine wpList_append_own _ rfl _ _ 55 rfl w.heap.size 9 i0 (.string ⟨#[]⟩) 1 16 Tryz.underlying55 hi0 hz0 hz1 hz2 rfl (by decide) _ _ _ rfl (World.ownsRow.alloc HM.out.own _) ⟨wr.heap.size, 0, none⟩ 1 1 [.string t] rfl rfl (Strs.cells_one wr t) (Strs.one_ok t) (by unfold maxLen; omega) (by omega) ?c5 ?_))
          case c5 => simp; omega
          intro v' w2 ho2 hg2 _
          have HP := Num.hide (sp_put HM.out.own HM.out.below ho2 hg2)
          clear ho2 hg2
          go_wp2
          go_ret
          exact ⟨_, rfl, by rw [HS2.out]; exact HP.out.1, HP.out.2⟩
end Sign
end Go.Proofs.YtbcjpjhpobmpbaaGreatDoor
namespace Go.Proofs.YtbcjpjhpobmpbaaGreatDoor
open Go.RowKit
set_option linter.unusedVariables false
namespace Dirs
open Flds (Fld cells cells_len Is is_form)

/-- a list of directives whose row the call itself made -/
def Own (B : Nat) (w : World) (v : Value) (l : List Fld) : Prop := Recs.Own 78 2 cells B w v l
theorem infoD : (Tryz.prog.info? 78).map (fun i => (i.zero, i.size, i.bytes)) = some (some (.agg #[.string ⟨#[]⟩, .string ⟨#[]⟩]), 2, 32) := by kernel_rfl
/-- a directive stored into a row of one's own -/
theorem own_put {B : Nat} {w : World} {v : Value} {l : List Fld} (h : Own B w v l) (i : Nat) (hi : i < l.length) : ∃ g c, v = .slice (some ⟨g, 0, none⟩) l.length c ∧ l.length ≤ c ∧ c ≤ maxLen ∧ B ≤ g ∧ g < w.heap.size ∧
    w.cell? ⟨g, i * 2, none⟩ = some (.string l[i].1) ∧ w.cell? ⟨g, i * 2 + 1, none⟩ = some (.string l[i].2) ∧ (∀ o, w.frozen? ⟨g, o, none⟩ = false) ∧
    (∀ x, Own B (w.setCell ⟨g, i * 2, none⟩ (.string x)) v (l.set i (x, l[i].2)) ∧ w.grownBy (w.setCell ⟨g, i * 2, none⟩ (.string x)) v.ownBlock) ∧
    (∀ y, Own B (w.setCell ⟨g, i * 2 + 1, none⟩ (.string y)) v (l.set i (l[i].1, y)) ∧ w.grownBy (w.setCell ⟨g, i * 2 + 1, none⟩ (.string y)) v.ownBlock) ∧
    ∀ x y, Own B ((w.setCell ⟨g, i * 2, none⟩ (.string x)).setCell ⟨g, i * 2 + 1, none⟩ (.string y)) v (l.set i (x, y)) ∧ w.grownBy ((w.setCell ⟨g, i * 2, none⟩ (.string x)).setCell ⟨g, i * 2 + 1, none⟩ (.string y)) v.ownBlock := by
  obtain ⟨g, c, hv, hc, hm, hB, hg, hcell, hfz, hset⟩ := Recs.own_row cells_len h (by omega)
  refine ⟨g, c, hv, hc, hm, hB, hg, hcell i hi 0 _ (by decide) rfl, hcell i hi 1 _ (by decide) rfl, hfz, fun x => hset i hi 0 (.string x) (x, l[i].2) (by decide) rfl, fun y => hset i hi 1 (.string y) (l[i].1, y) (by decide) rfl, fun x y => ?_⟩
  obtain ⟨h1, h2⟩ := hset i hi 0 (.string x) (x, l[i].2) (by decide) rfl
  obtain ⟨g', c', hv', _, _, _, _, _, _, hset'⟩ := Recs.own_row cells_len h1 (by rw [List.length_set]; omega)
  have hgg : g' = g := by rw [hv] at hv'; simp at hv'; exact hv'.1.symm
  subst hgg
  obtain ⟨h3, h4⟩ := hset' i (by rw [List.length_set]; exact hi) 1 (.string y) (x, y) (by decide) (by rw [List.getElem_set_self]; rfl)
  rw [List.set_set] at h3
  exact ⟨h3, Recs.grown_trans h2 h4⟩
end Dirs
end Go.Proofs.YtbcjpjhpobmpbaaGreatDoor
namespace Go.Proofs.YtbcjpjhpobmpbaaGreatDoor
open Go.RowKit
set_option linter.unusedVariables false
namespace Dirs
open Flds (Fld cells cells_len Is is_form two_ok)

theorem cells_two (w : World) (x y : ByteArray) : ∀ j u, [Value.string x, Value.string y][j]? = some u → (w.alloc (.cells #[.string x, .string y] 78)).cell? ((⟨w.heap.size, 0, none⟩ : Addr).add j) = some u := by
  intro j u hj
  match j, hj with
  | 0, hj => simp at hj; subst hj; simp [Addr.add]
  | 1, hj => simp at hj; subst hj; simp [Addr.add]
theorem put_more {w wr w2 : World} {B : Nat} {v v' : Value} {l : List Fld} {x y : ByteArray} (hB : B ≤ wr.heap.size) (ho : Own B wr v l) (hb : Below B w wr)
    (ho2 : w2.ownsRow B 78 2 v' (l.length + 1) (l.flatMap cells ++ [.string x, .string y])) (hg : (wr.alloc (.cells #[.string x, .string y] 78)).grownBy w2 v.ownBlock) : Own B w2 v' (l ++ [(x, y)]) ∧ Below B w w2 :=
  ⟨Recs.own_snoc ho2, (hb.alloc hB _).grown hg (by simp; omega) (fun j hj => (Recs.own_lt ho j hj).1)⟩
theorem made_nil (w : World) : Own w.heap.size (w.alloc (.cells #[] 78)) (.slice (some ⟨w.heap.size, 0, none⟩) 0 0) [] := World.ownsRow_made w #[] 0 (Nat.le_refl _) (Nat.zero_le _) rfl
end Dirs
end Go.Proofs.YtbcjpjhpobmpbaaGreatDoor
