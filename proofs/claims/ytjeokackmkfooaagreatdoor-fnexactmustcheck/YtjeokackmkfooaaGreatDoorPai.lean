/-
  SplitSpec: SplitList of the specification: the parts of a text, in a row of the call's own; what was there stays.
  DirOwn: A list of directives in a row of the call's own.
  DirPut: A directive put behind a list of directives in a row of the call's own.
  DirsSpec: Directives of the specification: the directives of a list of fields, in a row of the call's own; what was there stays.
  CcHasSpec: CcHas of the specification.
  PlainSpec: l6Plain of the specification: has a message no field that says how long its body is?
-/
import Derived.Test.YtjeokackmkfooaaGreatDoorPah
import Derived.Test.YtjeokackmkfooaaGreatDoorPaa
import Derived.Test.YtjeokackmkfooaaGreatDoorFlds
import Derived.Test.YtjeokackmkfooaaGreatDoorPae
import Derived.Test.YtjeokackmkfooaaGreatDoorLowerSpec
import Derived.Test.YtjeokackmkfooaaGreatDoorTokenSpec
import Derived.Laws.Strings2
import Derived.Maps.AppendAt
import Derived.Deep.Cut
import Derived.Test.YtjeokackmkfooaaGreatDoorPag
import Derived.Test.YtjeokackmkfooaaGreatDoorFldsOkSpec
namespace Go.Proofs.YtjeokackmkfooaaGreatDoor
open Go.RowKit
set_option linter.unusedVariables false
namespace Sign

/-- where the specification stands within the text -/
structure SpAt (s : ByteArray) (i a : Nat) (q : Bool) (l : List ByteArray) : Prop where
  len : l.length ≤ i
  form : (i ≤ s.size ∧ a ≤ i ∧ split s = l ++ rest s (s.size - i) a q) ∨ (i = s.size + 1 ∧ a = s.size + 1 ∧ split s = l) ∨ (i = s.size + 1 ∧ a < s.size ∧ q = true ∧ split s = l ++ part s a s.size)
theorem sp_start (s : ByteArray) : SpAt s 0 0 false [] := ⟨Nat.le_refl _, .inl ⟨Nat.zero_le _, Nat.le_refl _, by rw [List.nil_append, Nat.sub_zero]; rfl⟩⟩
section
variable {s : ByteArray} {i a : Nat} {q : Bool} {l : List ByteArray}
theorem sp_in (h : SpAt s i a q l) (hi : i ≤ s.size) : a ≤ i ∧ split s = l ++ rest s (s.size - i) a q := by
  rcases h.form with h | h | h
  · exact h.2
  · omega
  · omega
theorem sp_le (h : SpAt s i a q l) : i ≤ s.size + 1 := by rcases h.form with h | h | h <;> omega
theorem sp_quote (h : SpAt s i a q l) (hi : i < s.size) (hc : (s[i]).toNat = 34) : SpAt s (i + 1) a (!q) l := by
  obtain ⟨h1, h2⟩ := sp_in h (by omega)
  exact ⟨by have := h.len; omega, .inl ⟨hi, by omega, by rw [h2, rest_quote s i a q hi hc]⟩⟩
theorem sp_esc (h : SpAt s i a true l) (hi : i < s.size) (hc : (s[i]).toNat = 92) : SpAt s (i + 2) a true l := by
  obtain ⟨h1, h2⟩ := sp_in h (by omega)
  refine ⟨by have := h.len; omega, ?_⟩
  by_cases h3 : i + 2 ≤ s.size
  · exact .inl ⟨h3, by omega, by rw [h2, rest_esc s i a hi hc]⟩
  · exact .inr (.inr ⟨by omega, by omega, rfl, by rw [h2, rest_esc s i a hi hc, rest_end s _ a true (by omega)]⟩)
theorem sp_comma (h : SpAt s i a false l) (hi : i < s.size) (hc : (s[i]).toNat = 44) : SpAt s (i + 1) (i + 1) false (l ++ part s a i) := by
  obtain ⟨h1, h2⟩ := sp_in h (by omega)
  refine ⟨?_, .inl ⟨hi, Nat.le_refl _, by rw [h2, rest_comma s i a hi hc, List.append_assoc]⟩⟩
  have hp : (part s a i).length ≤ 1 := by unfold part; split <;> simp
  have := h.len
  rw [List.length_append]; omega
theorem sp_else (h : SpAt s i a q l) (hi : i < s.size) (h1 : (s[i]).toNat ≠ 34) (h2 : ¬ (q = true ∧ (s[i]).toNat = 92)) (h3 : ¬ ((s[i]).toNat = 44 ∧ q = false)) : SpAt s (i + 1) a q l := by
  obtain ⟨h4, h5⟩ := sp_in h (by omega)
  exact ⟨by have := h.len; omega, .inl ⟨hi, by omega, by rw [h5, rest_else s i a q hi h1 h2 h3]⟩⟩
theorem sp_last (h : SpAt s s.size a q l) : SpAt s (s.size + 1) (s.size + 1) q (l ++ part s a s.size) := by
  obtain ⟨h1, h2⟩ := sp_in h (Nat.le_refl _)
  refine ⟨?_, .inr (.inl ⟨rfl, rfl, by rw [h2, rest_end s _ a q (Nat.le_refl _)]⟩)⟩
  have hp : (part s a s.size).length ≤ 1 := by unfold part; split <;> simp
  have := h.len
  rw [List.length_append]; omega
end
/-- its memory too -/
structure SpMid (w : World) (s : ByteArray) (i a : Nat) (q : Bool) (l : List ByteArray) (v : Value) (wr : World) : Prop where
  at_ : SpAt s i a q l
  own : Strs.OwnS w.heap.size wr v l
  below : Below w.heap.size w wr
theorem SpMid.to {w : World} {s : ByteArray} {i a : Nat} {q : Bool} {l : List ByteArray} {v : Value} {wr : World} (m : SpMid w s i a q l v wr) {i' a' : Nat} {q' : Bool} (h : SpAt s i' a' q' l) : SpMid w s i' a' q' l v wr := ⟨h, m.own, m.below⟩
theorem SpMid.size {w : World} {s : ByteArray} {i a : Nat} {q : Bool} {l : List ByteArray} {v : Value} {wr : World} (m : SpMid w s i a q l v wr) : w.heap.size ≤ wr.heap.size := m.below.size
theorem part_none (s : ByteArray) (a b : Nat) (h : (trim (s.extract a b)).size = 0) : part s a b = [] := by unfold part; rw [if_pos h]
theorem part_one (s : ByteArray) (a b : Nat) (h : ¬ (trim (s.extract a b)).size = 0) : part s a b = [trim (s.extract a b)] := by unfold part; rw [if_neg h]
theorem sp_put {w wr w2 : World} {v v' : Value} {l : List ByteArray} {t : ByteArray} (ho : Strs.OwnS w.heap.size wr v l) (hb : Below w.heap.size w wr)
    (ho2 : w2.ownsRow w.heap.size 9 1 v' (l.length + 1) (l.map Value.string ++ [.string t])) (hg : (wr.alloc (.cells #[.string t] 9)).grownBy w2 v.ownBlock) : Strs.OwnS w.heap.size w2 v' (l ++ [t]) ∧ Below w.heap.size w w2 :=
  ⟨Strs.own_snoc ho2, Strs.below_grown (hb.alloc hb.size _) hg (fun j hj => (Strs.own_lt ho j hj).1) (by simp; have := hb.size; omega)⟩

set_option maxRecDepth 100000 in
set_option maxHeartbeats 4000000 in
theorem split_spec (s : ByteArray) (w : World) (hs : s.size ≤ 1048576) :
    Calls Tryz.prog 34 #[.string s] w fun e w' => ∃ v', e = .returned v' ∧ Strs.OwnS w.heap.size w' v' (split s) ∧ Below w.heap.size w w' := by
  obtain ⟨i0, hi0, hz0, hz1, hz2⟩ := info_parts Strs.infoS
  go_enter Tryz.func34, Tryz.ntmps34
  go_wp2
  go_loopw [3, 4, 5, 6] (fun v f qv iv wr => ∃ (i a : Nat) (q : Bool) (l : List ByteArray), f = .int .i64 (a : Int) ∧ iv = .int .i64 (i : Int) ∧ qv = .bool q ∧ Hid (SpMid w s i a q l v wr)) (fun _ _ _ iv _ => s.size + 1 - (intOf iv).toNat)
  case atStart => exact ⟨0, 0, false, [], rfl, rfl, rfl, ⟨sp_start s, World.ownsRow_made w #[] 0 (Nat.le_refl _) (Nat.zero_le _) rfl, (Below.refl _ _).alloc (Nat.le_refl _) _⟩⟩
  case round =>
    obtain ⟨i, a, q, l, rfl, rfl, rfl, HM⟩ := hrel
    have hle := sp_le HM.out.at_
    have hlen := HM.out.at_.len
    have hsz := HM.out.size
    by_cases hin : i ≤ s.size
    · have hai := (sp_in HM.out.at_ hin).1
      by_cases hi : i < s.size
      · have di : decide ((i : Int) < (s.size : Int)) = true := by simp; omega
        have dg : decide ((s.size : Int) ≤ (i : Int)) = false := by simp; omega
        by_cases h34 : (s[i]).toNat = 34
        · have d34 : (((s[i]).toNat : Int) == 34) = true := by rw [beq_iff_eq]; omega
          have d92 : (((s[i]).toNat : Int) == 92) = false := by rw [beq_eq_false_iff_ne]; omega
          have d44 : (((s[i]).toNat : Int) == 44) = false := by rw [beq_eq_false_iff_ne]; omega
          have HM2 := Num.hide (HM.out.to (sp_quote HM.out.at_ hi h34))
          clear h34
          cases q with
          | true =>
            go_wp2
            go_roundw
            case rel => exact ⟨i + 1, a, false, l, rfl, by go_num, rfl, HM2⟩
            case measure => simp [intOf] <;> omega
          | false =>
            go_wp2
            go_roundw
            case rel => exact ⟨i + 1, a, true, l, rfl, by go_num, rfl, HM2⟩
            case measure => simp [intOf] <;> omega
        · have d34 : (((s[i]).toNat : Int) == 34) = false := by rw [beq_eq_false_iff_ne]; omega
          by_cases h92 : (s[i]).toNat = 92
          · have d92 : (((s[i]).toNat : Int) == 92) = true := by rw [beq_iff_eq]; omega
            have d44 : (((s[i]).toNat : Int) == 44) = false := by rw [beq_eq_false_iff_ne]; omega
            cases q with
            | true =>
              have HM2 := Num.hide (HM.out.to (sp_esc HM.out.at_ hi h92))
              clear h34 h92
              go_wp2
              go_roundw
              case rel => exact ⟨i + 2, a, true, l, rfl, by go_num, rfl, HM2⟩
              case measure => simp [intOf] <;> omega
            | false =>
              have HM2 := Num.hide (HM.out.to (sp_else HM.out.at_ hi h34 (by rintro ⟨h, _⟩; cases h) (by omega)))
              clear h34 h92
              go_wp2
              go_roundw
              case rel => exact ⟨i + 1, a, false, l, rfl, by go_num, rfl, HM2⟩
              case measure => simp [intOf] <;> omega
          · have d92 : (((s[i]).toNat : Int) == 92) = false := by rw [beq_eq_false_iff_ne]; omega
            by_cases h44 : (s[i]).toNat = 44
            · have d44 : (((s[i]).toNat : Int) == 44) = true := by rw [beq_iff_eq]; omega
              cases q with
              | true =>
                have HM2 := Num.hide (HM.out.to (sp_else HM.out.at_ hi h34 (by omega) (by rintro ⟨_, h⟩; cases h)))
                clear h34 h92 h44
                go_wp2
                go_roundw
                case rel => exact ⟨i + 1, a, true, l, rfl, by go_num, rfl, HM2⟩
                case measure => simp [intOf] <;> omega
              | false =>
                have HT := Num.hide (fun W => trim_spec (s.extract a i) W (by unfold maxLen; rw [ByteArray.size_extract]; omega))
                have HA := Num.hide (sp_comma HM.out.at_ hi h44)
                have HN := Num.hide (part_none s a i)
                have HO := Num.hide (part_one s a i)
                generalize trim (s.extract a i) = t at HT HN HO
                clear h34 h92 h44
                have hmin : min (i : Int) (s.size : Int) = (i : Int) := by omega
                by_cases ht : t.size = 0
                · have HA2 := HA.out
                  rw [HN.out ht, List.append_nil] at HA2
                  have HM2 := Num.hide (HM.out.to HA2)
                  obtain rfl : t = ⟨#[]⟩ := empty_true t ht
                  clear HA2 HA HO HN
                  go_wp2_with (go_at_call 80; refine (HT.out _).mono ?_; rintro e w' ⟨rfl, rfl⟩)
                  go_roundw
                  case rel => exact ⟨i + 1, i + 1, false, l, by go_num, by go_num, rfl, HM2⟩
                  case measure => simp [intOf] <;> omega
                · have HA2 := HA.out
                  rw [HO.out ht] at HA2
                  have HA3 := Num.hide HA2
                  have hne := empty_false t (by omega)
                  clear HA2 HA HO HN
                  go_wp2_with (first | (go_at_call 80; refine (HT.out _).mono ?_; rintro e w' ⟨rfl, rfl⟩) | (at_builtin; refine wpList_append_own _ rfl _ _ 71 rfl w.heap.size 9 i0 (.string ⟨#[]⟩) 1 16 Tryz.underlying71 hi0 hz0 hz1 hz2 rfl (by decide) _ _ _ rfl (World.ownsRow.alloc HM.out.own _) ⟨wr.heap.size, 0, none⟩ 1 1 [.string t] rfl rfl (Strs.cells_one wr t) (Strs.one_ok t) (by unfold maxLen; omega) (by omega) ?c5 ?_))
                  case c5 => simp; omega
                  intro v' w2 ho2 hg2 _
                  have HP := Num.hide (sp_put HM.out.own HM.out.below ho2 hg2)
                  clear ho2 hg2
                  go_wp2
                  go_roundw
                  case rel => exact ⟨i + 1, i + 1, false, l ++ [t], by go_num, by go_num, rfl, ⟨HA3.out, HP.out.1, HP.out.2⟩⟩
                  case measure => simp [intOf] <;> omega
            · have d44 : (((s[i]).toNat : Int) == 44) = false := by rw [beq_eq_false_iff_ne]; omega
              have HM2 := Num.hide (HM.out.to (sp_else HM.out.at_ hi h34 (by omega) (by omega)))
              clear h34 h92 h44
              cases q with
              | true =>
                go_wp2
                go_roundw
                case rel => exact ⟨i + 1, a, true, l, rfl, by go_num, rfl, HM2⟩
                case measure => simp [intOf] <;> omega
              | false =>
                go_wp2
                go_roundw
                case rel => exact ⟨i + 1, a, false, l, rfl, by go_num, rfl, HM2⟩
                case measure => simp [intOf] <;> omega
      · obtain rfl : i = s.size := by omega
        have di : decide ((s.size : Int) < (s.size : Int)) = false := by simp
        have dg : decide ((s.size : Int) ≤ (s.size : Int)) = true := by simp
        have HT := Num.hide (fun W => trim_spec (s.extract a s.size) W (by unfold maxLen; rw [ByteArray.size_extract]; omega))
        have HA := Num.hide (sp_last HM.out.at_)
        have HN := Num.hide (part_none s a s.size)
        have HO := Num.hide (part_one s a s.size)
        generalize trim (s.extract a s.size) = t at HT HN HO
        by_cases ht : t.size = 0
        · have HA2 := HA.out
          rw [HN.out ht, List.append_nil] at HA2
          have HM2 := Num.hide (HM.out.to HA2)
          obtain rfl : t = ⟨#[]⟩ := empty_true t ht
          clear HA2 HA HO HN
          go_wp2_with (go_at_call 80; refine (HT.out _).mono ?_; rintro e w' ⟨rfl, rfl⟩)
          go_roundw
          case rel => exact ⟨s.size + 1, s.size + 1, q, l, by go_num, by go_num, rfl, HM2⟩
          case measure => simp [intOf] <;> omega
        · have HA2 := HA.out
          rw [HO.out ht] at HA2
          have HA3 := Num.hide HA2
          have hne := empty_false t (by omega)
          clear HA2 HA HO HN
          go_wp2_with (first | (go_at_call 80; refine (HT.out _).mono ?_; rintro e w' ⟨rfl, rfl⟩) | (at_builtin; refine wpList_append_own _ rfl _ _ 71 rfl w.heap.size 9 i0 (.string ⟨#[]⟩) 1 16 Tryz.underlying71 hi0 hz0 hz1 hz2 rfl (by decide) _ _ _ rfl (World.ownsRow.alloc HM.out.own _) ⟨wr.heap.size, 0, none⟩ 1 1 [.string t] rfl rfl (Strs.cells_one wr t) (Strs.one_ok t) (by unfold maxLen; omega) (by omega) ?c5 ?_))
          case c5 => simp; omega
          intro v' w2 ho2 hg2 _
          have HP := Num.hide (sp_put HM.out.own HM.out.below ho2 hg2)
          clear ho2 hg2
          go_wp2
          go_roundw
          case rel => exact ⟨s.size + 1, s.size + 1, q, l ++ [t], by go_num, by go_num, rfl, ⟨HA3.out, HP.out.1, HP.out.2⟩⟩
          case measure => simp [intOf] <;> omega
    · obtain rfl : i = s.size + 1 := by omega
      rcases HM.out.at_.form with h | ⟨_, rfl, hsp⟩ | ⟨_, ha, rfl, hsp⟩
      · omega
      · have da : decide (((s.size + 1 : Nat) : Int) < (s.size : Int)) = false := by simp; omega
        have HS := Num.hide hsp
        clear hsp
        go_wp2
        go_ret
        exact ⟨_, rfl, by rw [HS.out]; exact HM.out.own, HM.out.below⟩
      · have da : decide ((a : Int) < (s.size : Int)) = true := by simp; omega
        have HT := Num.hide (fun W => trim_spec (s.extract a s.size) W (by unfold maxLen; rw [ByteArray.size_extract]; omega))
        have HN := Num.hide (part_none s a s.size)
        have HO := Num.hide (part_one s a s.size)
        have HS := Num.hide hsp
        clear hsp
        generalize trim (s.extract a s.size) = t at HT HN HO
        by_cases ht : t.size = 0
        · have hsp := HS.out
          rw [HN.out ht, List.append_nil] at hsp
          have HS2 := Num.hide hsp
          clear hsp
          obtain rfl : t = ⟨#[]⟩ := empty_true t ht
          go_wp2_with (go_at_call 80; refine (HT.out _).mono ?_; rintro e w' ⟨rfl, rfl⟩)
          go_ret
          exact ⟨_, rfl, by rw [HS2.out]; exact HM.out.own, HM.out.below⟩
        · have hsp := HS.out
          rw [HO.out ht] at hsp
          have HS2 := Num.hide hsp
          clear hsp
          have hne := empty_false t (by omega)
          go_wp2_with (first | (go_at_call 80; refine (HT.out _).mono ?_; rintro e w' ⟨rfl, rfl⟩) | (at_builtin; refine wpList_append_own _ rfl _ _ 71 rfl w.heap.size 9 i0 (.string ⟨#[]⟩) 1 16 Tryz.underlying71 hi0 hz0 hz1 hz2 rfl (by decide) _ _ _ rfl (World.ownsRow.alloc HM.out.own _) ⟨wr.heap.size, 0, none⟩ 1 1 [.string t] rfl rfl (Strs.cells_one wr t) (Strs.one_ok t) (by unfold maxLen; omega) (by omega) ?c5 ?_))
          case c5 => simp; omega
          intro v' w2 ho2 hg2 _
          have HP := Num.hide (sp_put HM.out.own HM.out.below ho2 hg2)
          clear ho2 hg2
          go_wp2
          go_ret
          exact ⟨_, rfl, by rw [HS2.out]; exact HP.out.1, HP.out.2⟩
end Sign
end Go.Proofs.YtjeokackmkfooaaGreatDoor
namespace Go.Proofs.YtjeokackmkfooaaGreatDoor
open Go.RowKit
set_option linter.unusedVariables false
namespace Dirs
open Flds (Fld cells cells_len Is is_form)

/-- a list of directives whose row the call itself made -/
def Own (B : Nat) (w : World) (v : Value) (l : List Fld) : Prop := Recs.Own 65 2 cells B w v l
theorem infoD : (Tryz.prog.info? 65).map (fun i => (i.zero, i.size, i.bytes)) = some (some (.agg #[.string ⟨#[]⟩, .string ⟨#[]⟩]), 2, 32) := by kernel_rfl
/-- a directive stored into a row of one's own -/
theorem own_put {B : Nat} {w : World} {v : Value} {l : List Fld} (h : Own B w v l) (i : Nat) (hi : i < l.length) : ∃ g c, v = .slice (some ⟨g, 0, none⟩) l.length c ∧ l.length ≤ c ∧ c ≤ maxLen ∧ B ≤ g ∧ g < w.heap.size ∧
    w.cell? ⟨g, i * 2, none⟩ = some (.string l[i].1) ∧ w.cell? ⟨g, i * 2 + 1, none⟩ = some (.string l[i].2) ∧ (∀ o, w.frozen? ⟨g, o, none⟩ = false) ∧
    (∀ x, Own B (w.setCell ⟨g, i * 2, none⟩ (.string x)) v (l.set i (x, l[i].2)) ∧ w.grownBy (w.setCell ⟨g, i * 2, none⟩ (.string x)) v.ownBlock) ∧
    (∀ y, Own B (w.setCell ⟨g, i * 2 + 1, none⟩ (.string y)) v (l.set i (l[i].1, y)) ∧ w.grownBy (w.setCell ⟨g, i * 2 + 1, none⟩ (.string y)) v.ownBlock) ∧
    ∀ x y, Own B ((w.setCell ⟨g, i * 2, none⟩ (.string x)).setCell ⟨g, i * 2 + 1, none⟩ (.string y)) v (l.set i (x, y)) ∧ w.grownBy ((w.setCell ⟨g, i * 2, none⟩ (.string x)).setCell ⟨g, i * 2 + 1, none⟩ (.string y)) v.ownBlock := by
  obtain ⟨g, c, hv, hc, hm, hB, hg, hcell, hfz, hset⟩ := Recs.own_row cells_len h (by omega)
  refine ⟨g, c, hv, hc, hm, hB, hg, hcell i hi 0 _ (by decide) rfl, hcell i hi 1 _ (by decide) rfl, hfz, fun x => hset i hi 0 (.string x) (x, l[i].2) (by decide) rfl, fun y => hset i hi 1 (.string y) (l[i].1, y) (by decide) rfl, fun x y => ?_⟩
  obtain ⟨h1, h2⟩ := hset i hi 0 (.string x) (x, l[i].2) (by decide) rfl
  obtain ⟨g', c', hv', _, _, _, _, _, _, hset'⟩ := Recs.own_row cells_len h1 (by rw [List.length_set]; omega)
  have hgg : g' = g := by rw [hv] at hv'; simp at hv'; exact hv'.1.symm
  subst hgg
  obtain ⟨h3, h4⟩ := hset' i (by rw [List.length_set]; exact hi) 1 (.string y) (x, y) (by decide) (by rw [List.getElem_set_self]; rfl)
  rw [List.set_set] at h3
  exact ⟨h3, Recs.grown_trans h2 h4⟩
end Dirs
end Go.Proofs.YtjeokackmkfooaaGreatDoor
namespace Go.Proofs.YtjeokackmkfooaaGreatDoor
open Go.RowKit
set_option linter.unusedVariables false
namespace Dirs
open Flds (Fld cells cells_len Is is_form two_ok)

theorem cells_two (w : World) (x y : ByteArray) : ∀ j u, [Value.string x, Value.string y][j]? = some u → (w.alloc (.cells #[.string x, .string y] 65)).cell? ((⟨w.heap.size, 0, none⟩ : Addr).add j) = some u := by
  intro j u hj
  match j, hj with
  | 0, hj => simp at hj; subst hj; simp [Addr.add]
  | 1, hj => simp at hj; subst hj; simp [Addr.add]
theorem put_more {w wr w2 : World} {B : Nat} {v v' : Value} {l : List Fld} {x y : ByteArray} (hB : B ≤ wr.heap.size) (ho : Own B wr v l) (hb : Below B w wr)
    (ho2 : w2.ownsRow B 65 2 v' (l.length + 1) (l.flatMap cells ++ [.string x, .string y])) (hg : (wr.alloc (.cells #[.string x, .string y] 65)).grownBy w2 v.ownBlock) : Own B w2 v' (l ++ [(x, y)]) ∧ Below B w w2 :=
  ⟨Recs.own_snoc ho2, (hb.alloc hB _).grown hg (by simp; omega) (fun j hj => (Recs.own_lt ho j hj).1)⟩
theorem made_nil (w : World) : Own w.heap.size (w.alloc (.cells #[] 65)) (.slice (some ⟨w.heap.size, 0, none⟩) 0 0) [] := World.ownsRow_made w #[] 0 (Nat.le_refl _) (Nat.zero_le _) rfl
end Dirs
end Go.Proofs.YtjeokackmkfooaaGreatDoor
namespace Go.Proofs.YtjeokackmkfooaaGreatDoor
open Go.RowKit
set_option linter.unusedVariables false
namespace Cc
open Flds (Fld two_cells box_second)

/-- the memory within: what has been put lies in the first block or behind the parts -/
structure DMid (w w2 : World) (pv : Value) (L : List ByteArray) (i : Nat) (ov : Value) (wr : World) : Prop where
  own : Dirs.Own w.heap.size wr ov (ofParts (L.take i))
  apart : ∀ k, ov.ownBlock = some k → k = w.heap.size ∨ w2.heap.size ≤ k
  parts : Strs.Is wr pv L
  below : Below w.heap.size w wr
  size : w2.heap.size ≤ wr.heap.size
theorem DMid.step {w w2 : World} {pv : Value} {L : List ByteArray} {i : Nat} {ov : Value} {wr : World} (m : DMid w w2 pv L i ov wr) (hw : w.heap.size ≤ w2.heap.size) {w' : World} (h : Below wr.heap.size wr w') : DMid w w2 pv L i ov w' where
  own := Recs.own_below m.own h
  apart := m.apart
  parts := Strs.is_below (B := 0) m.parts h
  below := m.below.trans (h.mono (Nat.le_trans hw m.size))
  size := Nat.le_trans m.size h.size
theorem DMid.skip {w w2 : World} {pv : Value} {L : List ByteArray} {i : Nat} {ov : Value} {wr : World} (m : DMid w w2 pv L i ov wr) (hi : i < L.length) (h : isDir L[i] = false) : DMid w w2 pv L (i + 1) ov wr where
  own := by rw [ofParts_take L i hi, if_neg (by rw [h]; exact Bool.false_ne_true), List.append_nil]; exact m.own
  apart := m.apart
  parts := m.parts
  below := m.below
  size := m.size
theorem DMid.put {w w2 : World} {pb po pc : Nat} {L : List ByteArray} {i : Nat} {ov : Value} {wr : World} (m : DMid w w2 (.slice (some ⟨pb, po, none⟩) L.length pc) L i ov wr) (hi : i < L.length) (h : isDir L[i] = true) (hw : w.heap.size < pb) (hpb : pb < w2.heap.size) {x y : ByteArray} (hxy : dirOf L[i] = (x, y)) {v' : Value} {w3 : World}
    (ho : w3.ownsRow w.heap.size 65 2 v' ((ofParts (L.take i)).length + 1) ((ofParts (L.take i)).flatMap Flds.cells ++ [.string x, .string y])) (hg : (wr.alloc (.cells #[.string x, .string y] 65)).grownBy w3 ov.ownBlock)
    (hat : v'.ownBlock = ov.ownBlock ∨ v'.ownBlock = some (wr.heap.size + 1)) : DMid w w2 (.slice (some ⟨pb, po, none⟩) L.length pc) L (i + 1) v' w3 where
  own := by
    rw [ofParts_take L i hi, if_pos h, hxy]
    exact Recs.own_snoc ho
  apart := by
    intro k hk
    rcases hat with e | e
    · exact m.apart k (e ▸ hk)
    · rw [e] at hk
      cases hk
      right
      have := m.size
      omega
  parts := by
    rcases m.parts with h1 | ⟨b, o, c, h1, h2, h3, h4⟩
    · exact absurd h1.1 (by intro e; rw [e] at hi; exact absurd hi (Nat.not_lt_zero _))
    · cases h1
      refine .inr ⟨pb, po, pc, rfl, h2, h3, fun j hj => ?_⟩
      have hlt : pb < wr.heap.size := Nat.lt_of_lt_of_le hpb m.size
      have hb : w3.heap[pb]? = wr.heap[pb]? := by
        rw [hg.block pb (by simp; omega) (by intro e; have := m.apart pb e.symm; omega)]
        exact heap_alloc_old wr _ hlt
      have e : w3.cell? ⟨pb, po + j, none⟩ = wr.cell? ⟨pb, po + j, none⟩ := by
        unfold World.cell?
        simp only [hb]
      rw [e]; exact h4 j hj
  below := (m.below.alloc (by have := m.size; omega) _).grown hg (by have := m.size; simp; omega) (fun j hj => (Recs.own_lt m.own j hj).1)
  size := by have h1 := m.size; have h2 := hg.size; simp at h2; omega
theorem DMid.cell {w w2 : World} {pb po pc : Nat} {L : List ByteArray} {i : Nat} {ov : Value} {wr : World} (m : DMid w w2 (.slice (some ⟨pb, po, none⟩) L.length pc) L i ov wr) (hi : i < L.length) : wr.cell? ⟨pb, po + i, none⟩ = some (.string L[i]) ∧ L.length ≤ pc ∧ pc ≤ maxLen := by
  rcases m.parts with h1 | ⟨b, o, c, h1, h2, h3, h4⟩
  · exact absurd h1.1 (by intro e; rw [e] at hi; exact absurd hi (Nat.not_lt_zero _))
  · cases h1
    exact ⟨h4 i hi, h2, h3⟩

theorem unq_none : unq ⟨#[]⟩ = ⟨#[]⟩ := unq_short (by decide)
set_option maxRecDepth 100000 in
set_option maxHeartbeats 8000000 in
theorem dirs_spec (v : Value) (l : List Fld) (w : World) (h : Flds.Is w v l) (hl : Flds.bulk l ≤ 1048576) :
    Calls Tryz.prog 29 #[v] w fun e w' => ∃ v', e = .returned v' ∧ Dirs.Own w.heap.size w' v' (dirs l) ∧ Below w.heap.size w w' := by
  obtain ⟨i0, hi0, hz0, hz1, hz2⟩ := info_parts Dirs.infoD
  have HG := Num.hide (Flds.get_spec v l ccName (w.alloc (.cells #[] 65)) (Recs.is_below h ((Below.refl _ _).alloc (Nat.le_refl _) _)) (by omega))
  have hsz := said_size l
  obtain ⟨D, hD⟩ : ∃ D, dirs l = D := ⟨_, rfl⟩
  rw [hD]
  unfold dirs at hD
  generalize Flds.get l ccName = g at HG hsz hD
  obtain ⟨s, b⟩ := g
  simp only at HG hsz hD
  have HS := Num.hide (Sign.split_spec s (w.alloc (.cells #[] 65)) (by omega))
  have hlen := split_len s
  have HZ := Num.hide (split_small s)
  generalize Sign.split s = L at HS hlen HZ hD
  have HD := Num.hide hD
  have HM0 := Num.hide (Dirs.made_nil w)
  have HB0 := Num.hide ((Below.refl w.heap.size w).alloc (Nat.le_refl _) (.cells #[] 65))
  have hw1 : (w.alloc (.cells #[] 65)).heap.size = w.heap.size + 1 := by simp
  have HW1 := Num.hide hw1
  clear hD h hw1
  go_enter Tryz.func29, Tryz.ntmps29
  go_wp2_with fail
  refine HG.out.mono ?_
  rintro e w1 ⟨rfl, rfl⟩
  go_wp2_with fail
  refine HS.out.mono ?_
  rintro e w2 ⟨pv, rfl, ho, hb⟩
  obtain ⟨pa, pc, rfl⟩ := Strs.own_len ho
  have hsz2 := hb.size
  rw [HW1.out] at hsz2
  have HP : Hid (0 < L.length → ∃ pb po, pa = some ⟨pb, po, none⟩ ∧ w.heap.size < pb ∧ pb < w2.heap.size) := by
    intro hp
    have hlt := Strs.own_lt ho
    rcases ho.2 with ⟨_, h2⟩ | ⟨g, cap, cur, h1, hB, hg, _⟩
    · omega
    · cases h1
      have := (hlt g rfl).2
      exact ⟨g, 0, rfl, by have := HW1.out; omega, this⟩
  have HM : Hid (DMid w w2 (.slice pa L.length pc) L 0 (.slice (some ⟨w.heap.size, 0, none⟩) 0 0) w2) :=
    ⟨Recs.own_below HM0.out hb, fun k hk => by cases hk; exact .inl rfl, Strs.own_is ho, HB0.out.trans (hb.mono (by have := HW1.out; omega)), Nat.le_refl _⟩
  clear ho hb HM0 HB0 HG HS HW1
  go_wp2
  go_loopw [3, 7] (fun ov iv wr => ∃ i : Nat, i ≤ L.length ∧ iv = .int .i64 (i : Int) ∧ Hid (DMid w w2 (.slice pa L.length pc) L i ov wr)) (fun _ iv _ => L.length - (intOf iv).toNat)
  case atStart => exact ⟨0, by omega, rfl, HM⟩
  case round =>
    clear HM
    obtain ⟨i, hi, rfl, HM⟩ := hrel
    by_cases hlt : i < L.length
    · obtain ⟨pb, po, rfl, hpb1, hpb2⟩ := HP.out (by omega)
      obtain ⟨c1, hc, hmx⟩ := HM.out.cell hlt
      have ht := HZ.out L[i] (List.getElem_mem hlt)
      have hln := ofParts_len (L.take i)
      rw [List.length_take] at hln
      have HN := Num.hide (fun (W : World) (m : DMid w w2 (.slice (some ⟨pb, po, none⟩) L.length pc) L i u3 W) h => m.skip hlt h)
      have HPt := Num.hide (fun (W : World) (m : DMid w w2 (.slice (some ⟨pb, po, none⟩) L.length pc) L i u3 W) (h : isDir L[i] = true) (x y : ByteArray) (hxy : dirOf L[i] = (x, y)) (v' : Value) (w3 : World) => m.put hlt h hpb1 hpb2 hxy (v' := v') (w3 := w3))
      have HO := Num.hide HM.out.own
      generalize L[i] = t at c1 ht HN HPt
      generalize ofParts (L.take i) = O at HO HPt hln
      go_wp2
      go_loop [9] (fun kv => ∃ k : Nat, k ≤ t.size ∧ kv = .int .i64 (k : Int) ∧ Hid (EqTo t k)) (fun kv => t.size - (intOf kv).toNat)
      case atStart => exact ⟨0, by omega, rfl, eq_start t⟩
      case round =>
        obtain ⟨k, hk, rfl, HE⟩ := hrel
        by_cases hk2 : k < t.size
        · by_cases h61 : (t[k]).toNat = 61
          · obtain ⟨n1, n2⟩ := name_some (eq_hit HE.out hk2 h61)
            have HT := Num.hide (fun W => Sign.isTok_spec (t.extract 0 k) W (by unfold maxLen; rw [ByteArray.size_extract]; omega))
            have HLw := Num.hide (fun W => Sign.lower_spec (t.extract 0 k) W (by unfold maxLen; rw [ByteArray.size_extract]; omega))
            have HU := Num.hide (fun W => unq_spec (t.extract (k + 1) t.size) W (by unfold maxLen; rw [ByteArray.size_extract]; omega))
            unfold isDir at HN HPt
            unfold dirOf at HPt
            rw [n1, n2] at HPt
            rw [n1] at HN
            generalize Sign.isTok (t.extract 0 k) = tb at HT HN HPt
            generalize Sign.lower (t.extract 0 k) = lw at HLw HPt
            generalize unq (t.extract (k + 1) t.size) = uq at HU HPt
            clear n1 n2
            have d61 : (((t[k]).toNat : Int) != 61) = false := by rw [bne_eq_false_iff_eq]; omega
            have dk : (k : Int) + 1 ≤ (t.size : Int) := by omega
            clear h61
            go_wp2_with fail
            refine (HT.out _).mono ?_
            rintro e w3 ⟨rfl, rfl⟩
            cases tb with
            | false =>
              have HN2 := Num.hide (HN.out _ HM.out rfl)
              go_wp2
              go_roundw
              case rel => exact ⟨i + 1, by omega, by go_num, HN2⟩
              case measure => simp [intOf]; omega
            | true =>
              go_wp2_with fail
              refine (HLw.out _).mono ?_
              rintro e w3 ⟨rfl, hb3⟩
              have HM3 := Num.hide (HM.out.step (by omega) hb3)
              have HO3 := Num.hide (Recs.own_below HO.out hb3)
              have hs3 := HM3.out.size
              clear hb3 HM HO
              have HM4 := Num.hide (HM3.out.step (by omega) ((Below.refl w3.heap.size w3).alloc (Nat.le_refl _) (.cells #[.string lw, .string uq] 65)))
              have HO4 := Num.hide (World.ownsRow.alloc HO3.out (.cells #[.string lw, .string uq] 65))
              go_wp2_with fail
              refine (HU.out _).mono ?_
              rintro e w4 ⟨rfl, rfl⟩
              go_upto_region 15 with fail
              generalize hW4 : (w3.alloc (.cells #[.string lw, .string uq] 65)) = W4 at HM4 HO4 ⊢
              have b0 : W4.cell? ⟨w3.heap.size, 0, none⟩ = some (.string lw) := by rw [← hW4]; simp
              have b1 : W4.cell? ⟨w3.heap.size, 1, none⟩ = some (.string uq) := by rw [← hW4]; simp
              have hs4 := HM4.out.size
              clear hW4 HM3 HO3
              go_wp2_with (at_builtin; refine wpList_append_own_at _ rfl _ _ 63 rfl w.heap.size 65 i0 _ 2 32 Tryz.underlying63 hi0 hz0 hz1 hz2 rfl (by decide) _ _ _ rfl (World.ownsRow.alloc HO4.out _) ⟨W4.heap.size, 0, none⟩ 1 1 [.string lw, .string uq] rfl rfl (by simpa using Dirs.cells_two W4 lw uq) (Flds.two_ok lw uq) (by unfold maxLen; omega) (by omega) ?c5 ?_)
              case c5 => first | omega | (simp; omega)
              intro v' w5 ho5 hg5 _ hat5
              have HM5 := Num.hide (HPt.out W4 HM4.out (by first | trivial | rfl) lw uq rfl v' w5 ho5 hg5 hat5)
              clear ho5 hg5 hat5 HM4 HO4 b0 b1
              go_wp2
              go_roundw
              case rel => exact ⟨i + 1, by omega, by go_num, HM5⟩
              case measure => simp [intOf]; omega
          · have HE2 := Num.hide (eq_next HE.out hk2 h61)
            have d61 : (((t[k]).toNat : Int) != 61) = true := by rw [bne_iff_ne]; omega
            clear h61
            go_wp2
            go_round
            case rel => exact ⟨k + 1, by omega, by go_num, HE2⟩
            case measure => simp [intOf]; omega
        · obtain rfl : k = t.size := by omega
          have n1 : nameOf t = t := (name_none (eq_miss HE.out)).1
          have n2 := (name_none (eq_miss HE.out)).2
          have HT := Num.hide (fun W => Sign.isTok_spec t W (by unfold maxLen; omega))
          have HLw := Num.hide (fun W => Sign.lower_spec t W (by unfold maxLen; omega))
          unfold isDir at HN HPt
          unfold dirOf at HPt
          rw [n1, n2, unq_none] at HPt
          rw [n1] at HN
          generalize Sign.isTok t = tb at HT HN HPt
          generalize Sign.lower t = lw at HLw HPt
          clear n1 n2
          go_wp2_with fail
          refine (HT.out _).mono ?_
          rintro e w3 ⟨rfl, rfl⟩
          cases tb with
          | false =>
            have HN2 := Num.hide (HN.out _ HM.out rfl)
            go_wp2
            go_roundw
            case rel => exact ⟨i + 1, by omega, by go_num, HN2⟩
            case measure => simp [intOf]; omega
          | true =>
            go_wp2_with fail
            refine (HLw.out _).mono ?_
            rintro e w3 ⟨rfl, hb3⟩
            have HM3 := Num.hide (HM.out.step (by omega) hb3)
            have HO3 := Num.hide (Recs.own_below HO.out hb3)
            have hs3 := HM3.out.size
            clear hb3 HM HO
            have HM4 := Num.hide (HM3.out.step (by omega) ((Below.refl w3.heap.size w3).alloc (Nat.le_refl _) (.cells #[.string lw, .string ⟨#[]⟩] 65)))
            have HO4 := Num.hide (World.ownsRow.alloc HO3.out (.cells #[.string lw, .string ⟨#[]⟩] 65))
            go_upto_region 15 with fail
            generalize hW4 : (w3.alloc (.cells #[.string lw, .string ⟨#[]⟩] 65)) = W4 at HM4 HO4 ⊢
            have b0 : W4.cell? ⟨w3.heap.size, 0, none⟩ = some (.string lw) := by rw [← hW4]; simp
            have b1 : W4.cell? ⟨w3.heap.size, 1, none⟩ = some (.string ⟨#[]⟩) := by rw [← hW4]; simp
            have hs4 := HM4.out.size
            clear hW4 HM3 HO3
            go_wp2_with (at_builtin; refine wpList_append_own_at _ rfl _ _ 63 rfl w.heap.size 65 i0 _ 2 32 Tryz.underlying63 hi0 hz0 hz1 hz2 rfl (by decide) _ _ _ rfl (World.ownsRow.alloc HO4.out _) ⟨W4.heap.size, 0, none⟩ 1 1 [.string lw, .string ⟨#[]⟩] rfl rfl (by simpa using Dirs.cells_two W4 lw ⟨#[]⟩) (Flds.two_ok lw ⟨#[]⟩) (by unfold maxLen; omega) (by omega) ?c5 ?_)
            case c5 => first | omega | (simp; omega)
            intro v' w5 ho5 hg5 _ hat5
            have HM5 := Num.hide (HPt.out W4 HM4.out (by first | trivial | rfl) lw ⟨#[]⟩ rfl v' w5 ho5 hg5 hat5)
            clear ho5 hg5 hat5 HM4 HO4 b0 b1
            go_wp2
            go_roundw
            case rel => exact ⟨i + 1, by omega, by go_num, HM5⟩
            case measure => simp [intOf]; omega
    · obtain rfl : i = L.length := by omega
      have HE : Hid (Dirs.Own w.heap.size wr u3 D) := by rw [← HD.out]; have := HM.out.own; rw [List.take_length] at this; exact this
      have HB := Num.hide HM.out.below
      go_wp2
      go_ret
      exact ⟨_, rfl, HE.out, HB.out⟩
end Cc
end Go.Proofs.YtjeokackmkfooaaGreatDoor
namespace Go.Proofs.YtjeokackmkfooaaGreatDoor
open Go.RowKit
set_option linter.unusedVariables false
namespace Cc
open Flds (Fld text_ne')

theorem has_take (d : List Fld) (name : ByteArray) (k : Nat) (h : k < d.length) : has (d.take (k + 1)) name = (has (d.take k) name || decide (d[k].1 = name)) := by
  unfold has
  rw [List.take_succ_eq_append_getElem h, List.any_append]
  simp
theorem has_hit (d : List Fld) (name : ByteArray) (k : Nat) (h : k < d.length) (he : d[k].1 = name) : has d name = true := by
  unfold has
  rw [List.any_eq_true]
  exact ⟨d[k], List.getElem_mem h, by simp [he]⟩

set_option maxRecDepth 100000 in
set_option maxHeartbeats 2000000 in
theorem has_spec (v : Value) (l : List Fld) (name : ByteArray) (w : World) (h : Flds.Is w v l) (hl : Flds.bulk l ≤ 1048576) :
    Calls Tryz.prog 10 #[v, .string name] w fun e w' => e = .returned (.bool (has (dirs l) name)) ∧ Below w.heap.size w w' := by
  have hlen := dirs_len l
  have HDi := Num.hide (dirs_spec v l w h hl)
  obtain ⟨d, hd⟩ : ∃ d, dirs l = d := ⟨_, rfl⟩
  rw [hd] at hlen HDi ⊢
  obtain ⟨r, hr⟩ : ∃ r, has d name = r := ⟨_, rfl⟩
  rw [hr]
  have HR := Num.hide hr
  clear h hd hr
  go_enter Tryz.func10, Tryz.ntmps10
  go_wp2_with fail
  refine HDi.out.mono ?_
  rintro e w1 ⟨dv, rfl, ho, hb⟩
  obtain ⟨da, dc, rfl, h2⟩ := Flds.is_form (Recs.own_is Flds.cells_len ho)
  have HA := Num.hide h2
  have HB := Num.hide hb
  clear ho hb h2 HDi
  go_wp2
  go_loop [6] (fun iv => ∃ i : Nat, i ≤ d.length ∧ iv = .int .i64 (i : Int) ∧ Hid (has (d.take i) name = false)) (fun iv => d.length - (intOf iv).toNat)
  case atStart => exact ⟨0, by omega, rfl, rfl⟩
  case round =>
    obtain ⟨i, hi, rfl, HF⟩ := hrel
    by_cases hlt : i < d.length
    · obtain ⟨bk, o, rfl, hc, hmx, hblt, hcell⟩ := HA.out (by omega)
      obtain ⟨c1, c2⟩ := hcell i hlt
      have HT := Num.hide (has_take d name i hlt)
      have HH := Num.hide (has_hit d name i hlt)
      clear hcell
      generalize d[i] = f at c1 c2 HT HH
      obtain ⟨x, y⟩ := f
      simp only at c1 c2
      by_cases he : x = name
      · subst he
        obtain rfl : r = true := by rw [← HR.out]; exact HH.out rfl
        go_wp2
        go_ret
        exact ⟨rfl, HB.out⟩
      · have d' := text_ne' he
        have HF2 : Hid (has (d.take (i + 1)) name = false) := by
          show _ = _
          rw [HT.out, HF.out, Bool.false_or]; exact decide_eq_false he
        clear he
        go_wp2
        go_round
        case rel => exact ⟨i + 1, by omega, by go_num, HF2⟩
        case measure => simp [intOf]; omega
    · obtain rfl : i = d.length := by omega
      have hf := HF.out
      rw [List.take_length, HR.out] at hf
      subst hf
      go_wp2
      go_ret
      exact ⟨rfl, HB.out⟩

end Cc
end Go.Proofs.YtjeokackmkfooaaGreatDoor
namespace Go.Proofs.YtjeokackmkfooaaGreatDoor
open Go.RowKit
set_option linter.unusedVariables false
namespace Msg

theorem bulk_each {l : List Flds.Fld} (h : Flds.bulk l ≤ 1099511627776) : ∀ f ∈ l, f.1.size ≤ maxLen ∧ f.2.size ≤ maxLen := by
  intro f hf
  obtain ⟨i, hi, rfl⟩ := List.getElem_of_mem hf
  have h3 := Flds.bulk_take l i hi
  have h4 := Flds.bulk_le l (i + 1)
  unfold Flds.bulk at h; unfold maxLen
  omega
set_option maxRecDepth 100000 in
set_option maxHeartbeats 2000000 in
theorem plain_spec (v : Value) (l : List Flds.Fld) (w : World) (h : Flds.Is w v l) (hl : Flds.bulk l ≤ 1099511627776) :
    Calls Tryz.prog 79 #[v] w fun e w' => e = .returned (.bool (plain l)) ∧ Below w.heap.size w w' := by
  have hlen : l.length ≤ 1099511627776 := by unfold Flds.bulk at hl; omega
  have HG1 := Num.hide (Flds.get_spec v l Body.teName w h hl)
  have HG2 := Num.hide (Flds.get_spec v l Body.clName w h hl)
  have HO := Num.hide (Flds.ok_spec v l w h (bulk_each hl) hlen)
  obtain ⟨a, c, rfl, _⟩ := Flds.is_form h
  clear h
  obtain ⟨r, hr⟩ : ∃ r, plain l = r := ⟨_, rfl⟩
  rw [hr]
  unfold plain at hr
  unfold Body.teName at HG1
  unfold Body.clName at HG2
  generalize hx : Flds.get l Body.teName = x at hr
  generalize hy : Flds.get l Body.clName = y at hr
  have hx' : Flds.get l ⟨#[116, 114, 97, 110, 115, 102, 101, 114, 45, 101, 110, 99, 111, 100, 105, 110, 103]⟩ = x := hx
  have hy' : Flds.get l ⟨#[99, 111, 110, 116, 101, 110, 116, 45, 108, 101, 110, 103, 116, 104]⟩ = y := hy
  rw [hx'] at HG1
  rw [hy'] at HG2
  generalize Flds.ok l = o at HO hr
  obtain ⟨x1, x2⟩ := x
  obtain ⟨y1, y2⟩ := y
  simp only at hr HG1 HG2
  clear hx hy hx' hy' hl
  cases x2 with
  | true =>
    obtain rfl : false = r := by rw [← hr]; rfl
    clear hr
    go_enter Tryz.func79, Tryz.ntmps79
    go_wp2_with fail
    refine HG1.out.mono ?_
    rintro e w1 ⟨rfl, rfl⟩
    go_wp2_with fail
    refine HG2.out.mono ?_
    rintro e w1 ⟨rfl, rfl⟩
    go_wp2
    go_ret
    exact ⟨rfl, Below.refl _ _⟩
  | false =>
    cases y2 with
    | true =>
      obtain rfl : false = r := by rw [← hr]; rfl
      clear hr
      go_enter Tryz.func79, Tryz.ntmps79
      go_wp2_with fail
      refine HG1.out.mono ?_
      rintro e w1 ⟨rfl, rfl⟩
      go_wp2_with fail
      refine HG2.out.mono ?_
      rintro e w1 ⟨rfl, rfl⟩
      go_wp2
      go_ret
      exact ⟨rfl, Below.refl _ _⟩
    | false =>
      by_cases h12 : (l.length : Int) < 12
      · obtain rfl : o = r := by rw [← hr, decide_eq_true (by omega)]; rfl
        clear hr
        go_enter Tryz.func79, Tryz.ntmps79
        go_wp2_with fail
        refine HG1.out.mono ?_
        rintro e w1 ⟨rfl, rfl⟩
        go_wp2_with fail
        refine HG2.out.mono ?_
        rintro e w1 ⟨rfl, rfl⟩
        go_wp2_with fail
        refine HO.out.mono ?_
        rintro e w2 ⟨rfl, hb⟩
        have HB := Num.hide hb
        clear hb
        go_wp2
        go_ret
        exact ⟨rfl, HB.out⟩
      · obtain rfl : false = r := by rw [← hr, decide_eq_false (by omega)]; rfl
        have d12 : decide ((l.length : Int) < 12) = false := decide_eq_false h12
        clear hr
        go_enter Tryz.func79, Tryz.ntmps79
        go_wp2_with fail
        refine HG1.out.mono ?_
        rintro e w1 ⟨rfl, rfl⟩
        go_wp2_with fail
        refine HG2.out.mono ?_
        rintro e w1 ⟨rfl, rfl⟩
        go_wp2
        go_ret
        exact ⟨rfl, Below.refl _ _⟩
end Msg
end Go.Proofs.YtjeokackmkfooaaGreatDoor
