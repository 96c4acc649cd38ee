/-
  FldGetSpec: FieldGet of the specification: all values of a name, joined; the world stays.
  SplitSpec: SplitList of the specification: the parts of a text, in a row of the call's own; what was there stays.
  LowerSpec: Lower of the specification: what the call returns, for every text; what was there stays.
  RespVal: A response as a value.
-/
import Derived.Test.YtkogcbnbmdeolaaDoorPab
import Derived.Test.YtkogcbnbmdeolaaDoorStrs
import Derived.Test.YtkogcbnbmdeolaaDoorPaa
import Derived.Test.YtkogcbnbmdeolaaDoorFlds
namespace Go.Proofs.YtkogcbnbmdeolaaDoor
open Go.RowKit
set_option linter.unusedVariables false
namespace Flds

set_option maxRecDepth 100000 in
set_option maxHeartbeats 1000000 in
theorem get_spec (v : Value) (l : List Fld) (name : ByteArray) (w : World) (h : Is w v l) (hl : bulk l ≤ 1099511627776) :
    Calls Tryd.prog 22 #[v, .string name] w fun e w' => e = .returned (.tuple #[.string (get l name).1, .bool (get l name).2]) ∧ w = w' := by
  obtain ⟨a, c, rfl, h2⟩ := is_form h
  have HA := Num.hide h2
  have hlen : l.length ≤ 1099511627776 := by unfold bulk at hl; omega
  clear h h2
  obtain ⟨r, hr⟩ : ∃ r, get l name = r := ⟨_, rfl⟩
  rw [hr]
  have HR := Num.hide hr
  clear hr
  go_enter Tryd.func22, Tryd.ntmps22
  go_wp2
  go_loop [6, 7, 8] (fun sv bv iv => ∃ i : Nat, i ≤ l.length ∧ iv = .int .i64 (i : Int) ∧ (∃ s b, sv = .string s ∧ bv = .bool b ∧ Hid (get (l.take i) name = (s, b)))) (fun _ _ iv => l.length - (intOf iv).toNat)
  case atStart => exact ⟨0, by omega, rfl, _, _, rfl, rfl, rfl⟩
  case round =>
    obtain ⟨i, hi, rfl, s, b, rfl, rfl, HG⟩ := hrel
    by_cases hlt : i < l.length
    · obtain ⟨bk, o, rfl, hc, hmx, hblt, hcell⟩ := Num.unhide HA (by omega)
      obtain ⟨c1, c2⟩ := hcell i hlt
      have HT := Num.hide (get_take l name i hlt)
      have hsz := get_size (l.take i) name
      rw [HG.out] at hsz
      have hb1 := bulk_le l i
      have hss : s.size ≤ 4398046511104 := by
        simp only at hsz
        rw [List.length_take] at hsz
        unfold bulk at hl
        omega
      have hys : (l[i]).2.size ≤ 4398046511104 := by
        have h3 := bulk_take l i hlt
        have h4 := bulk_le l (i + 1)
        unfold bulk at hl
        omega
      clear hcell hsz hb1
      generalize l[i] = f at c1 c2 HT hys
      obtain ⟨x, y⟩ := f
      simp only at c1 c2 hys
      by_cases he : x = name
      · subst he
        cases b with
        | true =>
          have HT2 : Hid (get (l.take (i + 1)) x = (s ++ ⟨#[44, 32]⟩ ++ y, true)) := by
            have := HT.out
            rw [HG.out] at this
            rw [this]; unfold getStep; rw [if_pos rfl, if_pos rfl]; rfl
          go_wp2
          go_round
          case rel => exact ⟨i + 1, by omega, by go_num, _, _, rfl, rfl, HT2⟩
          case measure => simp [intOf]; omega
        | false =>
          have HT2 : Hid (get (l.take (i + 1)) x = (s ++ y, true)) := by
            have := HT.out
            rw [HG.out] at this
            rw [this]; unfold getStep; rw [if_pos rfl, if_neg (by simp)]; rfl
          go_wp2
          go_round
          case rel => exact ⟨i + 1, by omega, by go_num, _, _, rfl, rfl, HT2⟩
          case measure => simp [intOf]; omega
      · have d := text_ne' he
        have d' : (x.toList != name.toList) = true := by rw [bne, d]; rfl
        have HT2 : Hid (get (l.take (i + 1)) name = (s, b)) := by
          have := HT.out
          rw [HG.out] at this
          rw [this]; unfold getStep; rw [if_neg he]; rfl
        clear he
        go_wp2
        go_round
        case rel => exact ⟨i + 1, by omega, by go_num, _, _, rfl, rfl, HT2⟩
        case measure => simp [intOf]; omega
    · obtain rfl : i = l.length := by omega
      have hg := HG.out
      rw [List.take_of_length_le (Nat.le_refl _), HR.out] at hg
      subst hg
      go_wp2
      go_ret2
      exact ⟨rfl, rfl⟩
theorem get_spec_b (v : Value) (l : List Fld) (name : ByteArray) (w : World) (h : Is w v l) (hl : bulk l ≤ 1099511627776) :
    Calls Tryd.prog 22 #[v, .string name] w fun e w' => e = .returned (.tuple #[.string (get l name).1, .bool (get l name).2]) ∧ Below w.heap.size w w' :=
  (get_spec v l name w h hl).mono fun e w' ⟨h1, h2⟩ => ⟨h1, by subst h2; exact Below.refl _ _⟩
end Flds
end Go.Proofs.YtkogcbnbmdeolaaDoor
namespace Go.Proofs.YtkogcbnbmdeolaaDoor
open Go.RowKit
set_option linter.unusedVariables false
namespace Sign

/-- where the specification stands within the text -/
structure SpAt (s : ByteArray) (i a : Nat) (q : Bool) (l : List ByteArray) : Prop where
  len : l.length ≤ i
  form : (i ≤ s.size ∧ a ≤ i ∧ split s = l ++ rest s (s.size - i) a q) ∨ (i = s.size + 1 ∧ a = s.size + 1 ∧ split s = l) ∨ (i = s.size + 1 ∧ a < s.size ∧ q = true ∧ split s = l ++ part s a s.size)
theorem sp_start (s : ByteArray) : SpAt s 0 0 false [] := ⟨Nat.le_refl _, .inl ⟨Nat.zero_le _, Nat.le_refl _, by rw [List.nil_append, Nat.sub_zero]; rfl⟩⟩
section
variable {s : ByteArray} {i a : Nat} {q : Bool} {l : List ByteArray}
theorem sp_in (h : SpAt s i a q l) (hi : i ≤ s.size) : a ≤ i ∧ split s = l ++ rest s (s.size - i) a q := by
  rcases h.form with h | h | h
  · exact h.2
  · omega
  · omega
theorem sp_le (h : SpAt s i a q l) : i ≤ s.size + 1 := by rcases h.form with h | h | h <;> omega
theorem sp_quote (h : SpAt s i a q l) (hi : i < s.size) (hc : (s[i]).toNat = 34) : SpAt s (i + 1) a (!q) l := by
  obtain ⟨h1, h2⟩ := sp_in h (by omega)
  exact ⟨by have := h.len; omega, .inl ⟨hi, by omega, by rw [h2, rest_quote s i a q hi hc]⟩⟩
theorem sp_esc (h : SpAt s i a true l) (hi : i < s.size) (hc : (s[i]).toNat = 92) : SpAt s (i + 2) a true l := by
  obtain ⟨h1, h2⟩ := sp_in h (by omega)
  refine ⟨by have := h.len; omega, ?_⟩
  by_cases h3 : i + 2 ≤ s.size
  · exact .inl ⟨h3, by omega, by rw [h2, rest_esc s i a hi hc]⟩
  · exact .inr (.inr ⟨by omega, by omega, rfl, by rw [h2, rest_esc s i a hi hc, rest_end s _ a true (by omega)]⟩)
theorem sp_comma (h : SpAt s i a false l) (hi : i < s.size) (hc : (s[i]).toNat = 44) : SpAt s (i + 1) (i + 1) false (l ++ part s a i) := by
  obtain ⟨h1, h2⟩ := sp_in h (by omega)
  refine ⟨?_, .inl ⟨hi, Nat.le_refl _, by rw [h2, rest_comma s i a hi hc, List.append_assoc]⟩⟩
  have hp : (part s a i).length ≤ 1 := by unfold part; split <;> simp
  have := h.len
  rw [List.length_append]; omega
theorem sp_else (h : SpAt s i a q l) (hi : i < s.size) (h1 : (s[i]).toNat ≠ 34) (h2 : ¬ (q = true ∧ (s[i]).toNat = 92)) (h3 : ¬ ((s[i]).toNat = 44 ∧ q = false)) : SpAt s (i + 1) a q l := by
  obtain ⟨h4, h5⟩ := sp_in h (by omega)
  exact ⟨by have := h.len; omega, .inl ⟨hi, by omega, by rw [h5, rest_else s i a q hi h1 h2 h3]⟩⟩
theorem sp_last (h : SpAt s s.size a q l) : SpAt s (s.size + 1) (s.size + 1) q (l ++ part s a s.size) := by
  obtain ⟨h1, h2⟩ := sp_in h (Nat.le_refl _)
  refine ⟨?_, .inr (.inl ⟨rfl, rfl, by rw [h2, rest_end s _ a q (Nat.le_refl _)]⟩)⟩
  have hp : (part s a s.size).length ≤ 1 := by unfold part; split <;> simp
  have := h.len
  rw [List.length_append]; omega
end
/-- its memory too -/
structure SpMid (w : World) (s : ByteArray) (i a : Nat) (q : Bool) (l : List ByteArray) (v : Value) (wr : World) : Prop where
  at_ : SpAt s i a q l
  own : Strs.OwnS w.heap.size wr v l
  below : Below w.heap.size w wr
theorem SpMid.to {w : World} {s : ByteArray} {i a : Nat} {q : Bool} {l : List ByteArray} {v : Value} {wr : World} (m : SpMid w s i a q l v wr) {i' a' : Nat} {q' : Bool} (h : SpAt s i' a' q' l) : SpMid w s i' a' q' l v wr := ⟨h, m.own, m.below⟩
theorem SpMid.size {w : World} {s : ByteArray} {i a : Nat} {q : Bool} {l : List ByteArray} {v : Value} {wr : World} (m : SpMid w s i a q l v wr) : w.heap.size ≤ wr.heap.size := m.below.size
theorem part_none (s : ByteArray) (a b : Nat) (h : (trim (s.extract a b)).size = 0) : part s a b = [] := by unfold part; rw [if_pos h]
theorem part_one (s : ByteArray) (a b : Nat) (h : ¬ (trim (s.extract a b)).size = 0) : part s a b = [trim (s.extract a b)] := by unfold part; rw [if_neg h]
theorem sp_put {w wr w2 : World} {v v' : Value} {l : List ByteArray} {t : ByteArray} (ho : Strs.OwnS w.heap.size wr v l) (hb : Below w.heap.size w wr)
    (ho2 : w2.ownsRow w.heap.size 9 1 v' (l.length + 1) (l.map Value.string ++ [.string t])) (hg : (wr.alloc (.cells #[.string t] 9)).grownBy w2 v.ownBlock) : Strs.OwnS w.heap.size w2 v' (l ++ [t]) ∧ Below w.heap.size w w2 :=
  ⟨Strs.own_snoc ho2, Strs.below_grown (hb.alloc hb.size _) hg (fun j hj => (Strs.own_lt ho j hj).1) (by simp; have := hb.size; omega)⟩

set_option maxRecDepth 100000 in
set_option maxHeartbeats 4000000 in
theorem split_spec (s : ByteArray) (w : World) (hs : s.size ≤ 1048576) :
    Calls Tryd.prog 65 #[.string s] w fun e w' => ∃ v', e = .returned v' ∧ Strs.OwnS w.heap.size w' v' (split s) ∧ Below w.heap.size w w' := by
  obtain ⟨i0, hi0, hz0, hz1, hz2⟩ := info_parts Strs.infoS
  go_enter Tryd.func65, Tryd.ntmps65
  go_wp2
  go_loopw [3, 4, 5, 6] (fun v f qv iv wr => ∃ (i a : Nat) (q : Bool) (l : List ByteArray), f = .int .i64 (a : Int) ∧ iv = .int .i64 (i : Int) ∧ qv = .bool q ∧ Hid (SpMid w s i a q l v wr)) (fun _ _ _ iv _ => s.size + 1 - (intOf iv).toNat)
  case atStart => exact ⟨0, 0, false, [], rfl, rfl, rfl, ⟨sp_start s, World.ownsRow_made w #[] 0 (Nat.le_refl _) (Nat.zero_le _) rfl, (Below.refl _ _).alloc (Nat.le_refl _) _⟩⟩
  case round =>
    obtain ⟨i, a, q, l, rfl, rfl, rfl, HM⟩ := hrel
    have hle := sp_le HM.out.at_
    have hlen := HM.out.at_.len
    have hsz := HM.out.size
    by_cases hin : i ≤ s.size
    · have hai := (sp_in HM.out.at_ hin).1
      by_cases hi : i < s.size
      · have di : decide ((i : Int) < (s.size : Int)) = true := by simp; omega
        have dg : decide ((s.size : Int) ≤ (i : Int)) = false := by simp; omega
        by_cases h34 : (s[i]).toNat = 34
        · have d34 : (((s[i]).toNat : Int) == 34) = true := by rw [beq_iff_eq]; omega
          have d92 : (((s[i]).toNat : Int) == 92) = false := by rw [beq_eq_false_iff_ne]; omega
          have d44 : (((s[i]).toNat : Int) == 44) = false := by rw [beq_eq_false_iff_ne]; omega
          have HM2 := Num.hide (HM.out.to (sp_quote HM.out.at_ hi h34))
          clear h34
          cases q with
          | true =>
            go_wp2
            go_roundw
            case rel => exact ⟨i + 1, a, false, l, rfl, by go_num, rfl, HM2⟩
            case measure => simp [intOf] <;> omega
          | false =>
            go_wp2
            go_roundw
            case rel => exact ⟨i + 1, a, true, l, rfl, by go_num, rfl, HM2⟩
            case measure => simp [intOf] <;> omega
        · have d34 : (((s[i]).toNat : Int) == 34) = false := by rw [beq_eq_false_iff_ne]; omega
          by_cases h92 : (s[i]).toNat = 92
          · have d92 : (((s[i]).toNat : Int) == 92) = true := by rw [beq_iff_eq]; omega
            have d44 : (((s[i]).toNat : Int) == 44) = false := by rw [beq_eq_false_iff_ne]; omega
            cases q with
            | true =>
              have HM2 := Num.hide (HM.out.to (sp_esc HM.out.at_ hi h92))
              clear h34 h92
              go_wp2
              go_roundw
              case rel => exact ⟨i + 2, a, true, l, rfl, by go_num, rfl, HM2⟩
              case measure => simp [intOf] <;> omega
            | false =>
              have HM2 := Num.hide (HM.out.to (sp_else HM.out.at_ hi h34 (by rintro ⟨h, _⟩; cases h) (by omega)))
              clear h34 h92
              go_wp2
              go_roundw
              case rel => exact ⟨i + 1, a, false, l, rfl, by go_num, rfl, HM2⟩
              case measure => simp [intOf] <;> omega
          · have d92 : (((s[i]).toNat : Int) == 92) = false := by rw [beq_eq_false_iff_ne]; omega
            by_cases h44 : (s[i]).toNat = 44
            · have d44 : (((s[i]).toNat : Int) == 44) = true := by rw [beq_iff_eq]; omega
              cases q with
              | true =>
                have HM2 := Num.hide (HM.out.to (sp_else HM.out.at_ hi h34 (by omega) (by rintro ⟨_, h⟩; cases h)))
                clear h34 h92 h44
                go_wp2
                go_roundw
                case rel => exact ⟨i + 1, a, true, l, rfl, by go_num, rfl, HM2⟩
                case measure => simp [intOf] <;> omega
              | false =>
                have HT := Num.hide (fun W => trim_spec (s.extract a i) W (by unfold maxLen; rw [ByteArray.size_extract]; omega))
                have HA := Num.hide (sp_comma HM.out.at_ hi h44)
                have HN := Num.hide (part_none s a i)
                have HO := Num.hide (part_one s a i)
                generalize trim (s.extract a i) = t at HT HN HO
                clear h34 h92 h44
                have hmin : min (i : Int) (s.size : Int) = (i : Int) := by omega
                by_cases ht : t.size = 0
                · have HA2 := HA.out
                  rw [HN.out ht, List.append_nil] at HA2
                  have HM2 := Num.hide (HM.out.to HA2)
                  obtain rfl : t = ⟨#[]⟩ := empty_true t ht
                  clear HA2 HA HO HN
                  go_wp2_with (go_at_call 90; refine (HT.out _).mono ?_; rintro e w' ⟨rfl, rfl⟩)
                  go_roundw
                  case rel => exact ⟨i + 1, i + 1, false, l, by go_num, by go_num, rfl, HM2⟩
                  case measure => simp [intOf] <;> omega
                · have HA2 := HA.out
                  rw [HO.out ht] at HA2
                  have HA3 := Num.hide HA2
                  have hne := empty_false t (by omega)
                  clear HA2 HA HO HN
                  go_wp2_with (first | (go_at_call 90; refine (HT.out _).mono ?_; rintro e w' ⟨rfl, rfl⟩) | (at_builtin; refine wpList_append_own _ rfl _ _ 26 rfl w.heap.size 9 i0 (.string ⟨#[]⟩) 1 16 Tryd.underlying26 hi0 hz0 hz1 hz2 rfl (by decide) _ _ _ rfl (World.ownsRow.alloc HM.out.own _) ⟨wr.heap.size, 0, none⟩ 1 1 [.string t] rfl rfl (Strs.cells_one wr t) (Strs.one_ok t) (by unfold maxLen; omega) (by omega) ?c5 ?_))
                  case c5 => simp; omega
                  intro v' w2 ho2 hg2 _
                  have HP := Num.hide (sp_put HM.out.own HM.out.below ho2 hg2)
                  clear ho2 hg2
                  go_wp2
                  go_roundw
                  case rel => exact ⟨i + 1, i + 1, false, l ++ [t], by go_num, by go_num, rfl, ⟨HA3.out, HP.out.1, HP.out.2⟩⟩
                  case measure => simp [intOf] <;> omega
            · have d44 : (((s[i]).toNat : Int) == 44) = false := by rw [beq_eq_false_iff_ne]; omega
              have HM2 := Num.hide (HM.out.to (sp_else HM.out.at_ hi h34 (by omega) (by omega)))
              clear h34 h92 h44
              cases q with
              | true =>
                go_wp2
                go_roundw
                case rel => exact ⟨i + 1, a, true, l, rfl, by go_num, rfl, HM2⟩
                case measure => simp [intOf] <;> omega
              | false =>
                go_wp2
                go_roundw
                case rel => exact ⟨i + 1, a, false, l, rfl, by go_num, rfl, HM2⟩
                case measure => simp [intOf] <;> omega
      · obtain rfl : i = s.size := by omega
        have di : decide ((s.size : Int) < (s.size : Int)) = false := by simp
        have dg : decide ((s.size : Int) ≤ (s.size : Int)) = true := by simp
        have HT := Num.hide (fun W => trim_spec (s.extract a s.size) W (by unfold maxLen; rw [ByteArray.size_extract]; omega))
        have HA := Num.hide (sp_last HM.out.at_)
        have HN := Num.hide (part_none s a s.size)
        have HO := Num.hide (part_one s a s.size)
        generalize trim (s.extract a s.size) = t at HT HN HO
        by_cases ht : t.size = 0
        · have HA2 := HA.out
          rw [HN.out ht, List.append_nil] at HA2
          have HM2 := Num.hide (HM.out.to HA2)
          obtain rfl : t = ⟨#[]⟩ := empty_true t ht
          clear HA2 HA HO HN
          go_wp2_with (go_at_call 90; refine (HT.out _).mono ?_; rintro e w' ⟨rfl, rfl⟩)
          go_roundw
          case rel => exact ⟨s.size + 1, s.size + 1, q, l, by go_num, by go_num, rfl, HM2⟩
          case measure => simp [intOf] <;> omega
        · have HA2 := HA.out
          rw [HO.out ht] at HA2
          have HA3 := Num.hide HA2
          have hne := empty_false t (by omega)
          clear HA2 HA HO HN
          go_wp2_with (first | (go_at_call 90; refine (HT.out _).mono ?_; rintro e w' ⟨rfl, rfl⟩) | (at_builtin; refine wpList_append_own _ rfl _ _ 26 rfl w.heap.size 9 i0 (.string ⟨#[]⟩) 1 16 Tryd.underlying26 hi0 hz0 hz1 hz2 rfl (by decide) _ _ _ rfl (World.ownsRow.alloc HM.out.own _) ⟨wr.heap.size, 0, none⟩ 1 1 [.string t] rfl rfl (Strs.cells_one wr t) (Strs.one_ok t) (by unfold maxLen; omega) (by omega) ?c5 ?_))
          case c5 => simp; omega
          intro v' w2 ho2 hg2 _
          have HP := Num.hide (sp_put HM.out.own HM.out.below ho2 hg2)
          clear ho2 hg2
          go_wp2
          go_roundw
          case rel => exact ⟨s.size + 1, s.size + 1, q, l ++ [t], by go_num, by go_num, rfl, ⟨HA3.out, HP.out.1, HP.out.2⟩⟩
          case measure => simp [intOf] <;> omega
    · obtain rfl : i = s.size + 1 := by omega
      rcases HM.out.at_.form with h | ⟨_, rfl, hsp⟩ | ⟨_, ha, rfl, hsp⟩
      · omega
      · have da : decide (((s.size + 1 : Nat) : Int) < (s.size : Int)) = false := by simp; omega
        have HS := Num.hide hsp
        clear hsp
        go_wp2
        go_ret
        exact ⟨_, rfl, by rw [HS.out]; exact HM.out.own, HM.out.below⟩
      · have da : decide ((a : Int) < (s.size : Int)) = true := by simp; omega
        have HT := Num.hide (fun W => trim_spec (s.extract a s.size) W (by unfold maxLen; rw [ByteArray.size_extract]; omega))
        have HN := Num.hide (part_none s a s.size)
        have HO := Num.hide (part_one s a s.size)
        have HS := Num.hide hsp
        clear hsp
        generalize trim (s.extract a s.size) = t at HT HN HO
        by_cases ht : t.size = 0
        · have hsp := HS.out
          rw [HN.out ht, List.append_nil] at hsp
          have HS2 := Num.hide hsp
          clear hsp
          obtain rfl : t = ⟨#[]⟩ := empty_true t ht
          go_wp2_with (go_at_call 90; refine (HT.out _).mono ?_; rintro e w' ⟨rfl, rfl⟩)
          go_ret
          exact ⟨_, rfl, by rw [HS2.out]; exact HM.out.own, HM.out.below⟩
        · have hsp := HS.out
          rw [HO.out ht] at hsp
          have HS2 := Num.hide hsp
          clear hsp
          have hne := empty_false t (by omega)
          go_wp2_with (first | (go_at_call 90; refine (HT.out _).mono ?_; rintro e w' ⟨rfl, rfl⟩) | (at_builtin; refine wpList_append_own _ rfl _ _ 26 rfl w.heap.size 9 i0 (.string ⟨#[]⟩) 1 16 Tryd.underlying26 hi0 hz0 hz1 hz2 rfl (by decide) _ _ _ rfl (World.ownsRow.alloc HM.out.own _) ⟨wr.heap.size, 0, none⟩ 1 1 [.string t] rfl rfl (Strs.cells_one wr t) (Strs.one_ok t) (by unfold maxLen; omega) (by omega) ?c5 ?_))
          case c5 => simp; omega
          intro v' w2 ho2 hg2 _
          have HP := Num.hide (sp_put HM.out.own HM.out.below ho2 hg2)
          clear ho2 hg2
          go_wp2
          go_ret
          exact ⟨_, rfl, by rw [HS2.out]; exact HP.out.1, HP.out.2⟩
end Sign
end Go.Proofs.YtkogcbnbmdeolaaDoor
namespace Go.Proofs.YtkogcbnbmdeolaaDoor
open Go.RowKit
set_option linter.unusedVariables false
namespace Sign

theorem u8_add32 (c : Int) (h0 : 65 ≤ c) (h1 : c ≤ 90) : IntKind.u8.wrap (c + 32) = c + 32 := by
  rw [IntKind.wrap_u8]; omega

set_option maxRecDepth 100000 in
set_option maxHeartbeats 1000000 in
theorem lower_spec (s : ByteArray) (w : World) (hs : s.size ≤ maxLen) : Calls Tryd.prog 66 #[.string s] w fun e w' => e = .returned (.string (lower s)) ∧ Below w.heap.size w w' := by
  unfold maxLen at hs
  have hconv := Lib.run_convert_string_bytes (P := Tryd.prog) w 9 22 5 s (u := .string) Tryd.underlying9 Tryd.underlying22 Tryd.underlying5
  have hP := Num.hide (bytes_part w 5 s)
  have hB := Num.hide (bytes_below w 5 s)
  generalize Lib.bytesWorld w 5 s = W0 at hconv hP hB
  generalize grownCap w s.size 0 5 = cap at hconv
  go_enter Tryd.func66, Tryd.ntmps66
  go_wp2
  clear hconv
  go_loopw [4] (fun i W => ∃ k : Nat, k ≤ s.size ∧ i = .int .i64 k ∧ Hid (Part w.heap.size s k W) ∧ Hid (Below w.heap.size w W)) (fun i _ => s.size - (intOf i).toNat)
  case atStart => exact ⟨0, by omega, rfl, hP, hB⟩
  case round =>
    clear hP hB
    obtain ⟨k, hk, rfl, hP, hB⟩ := hrel
    by_cases hlt : k < s.size
    · have hcell := hP.out.todo k hlt (Nat.le_refl _)
      have hfree := hP.out.free k hlt
      by_cases h1 : 65 ≤ (s[k].toNat : Int)
      · have d1 : decide (65 ≤ (s[k].toNat : Int)) = true := decide_eq_true h1
        by_cases h2 : (s[k].toNat : Int) ≤ 90
        · have d2 : decide ((s[k].toNat : Int) ≤ 90) = true := decide_eq_true h2
          have hP2 := Num.hide (part_up hP.out hlt ⟨h1, h2⟩)
          have hw := u8_add32 _ h1 h2
          go_wp2
          go_roundw
          case rel => exact ⟨k + 1, by omega, by go_num, hP2, Num.hide (hB.out.setCell (Nat.le_refl _) _)⟩
          case measure => simp [intOf]; omega
        · have d2 : decide ((s[k].toNat : Int) ≤ 90) = false := decide_eq_false h2
          have hP2 := Num.hide (part_no hP.out hlt (fun h => h2 h.2))
          go_wp2
          go_roundw
          case rel => exact ⟨k + 1, by omega, by go_num, hP2, hB⟩
          case measure => simp [intOf]; omega
      · have d1 : decide (65 ≤ (s[k].toNat : Int)) = false := decide_eq_false h1
        have hP2 := Num.hide (part_no hP.out hlt (fun h => h1 h.1))
        go_wp2
        go_roundw
        case rel => exact ⟨k + 1, by omega, by go_num, hP2, hB⟩
        case measure => simp [intOf]; omega
    · obtain rfl : k = s.size := by omega
      have hback := part_back hP.out cap
      go_wp2
      go_ret
      exact ⟨rfl, hB.out⟩
end Sign
end Go.Proofs.YtkogcbnbmdeolaaDoor
namespace Go.Proofs.YtkogcbnbmdeolaaDoor
open Go.RowKit
set_option linter.unusedVariables false
namespace Resp

/-- a response: its status, its fields, its body -/
abbrev R := Int × List Flds.Fld × ByteArray
/-- the value of a response whose fields lie at v -/
def val (s : Int) (v : Value) (b : ByteArray) : Value := .agg #[.int .i64 s, v, .string b]
/-- how much a response holds -/
def bulk (l : List Flds.Fld) (b : ByteArray) : Nat := Flds.bulk l + b.size
end Resp
end Go.Proofs.YtkogcbnbmdeolaaDoor
