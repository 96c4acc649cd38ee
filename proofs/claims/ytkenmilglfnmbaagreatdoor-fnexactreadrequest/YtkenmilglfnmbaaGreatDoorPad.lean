/-
  FldDropSpec: FieldDrop of the specification: a list of fields in a row of the call's own; what was there stays.
  ReqReadNum: l6Code of the specification; facts for ReadRequest: how large what is read is, the boxes of the answer.
  ReadHexSpec: ReadHexNum of the specification: the number of one to six digits.
  UnchunkSpec: Unchunk of the specification: a body in pieces, read.
  SecondsSpec: Seconds of the specification: what the call returns, for every text; the world stays.
  BodySpec: BodyOf of the specification: where a body ends.
  ReqReadSpec: ReadRequest of the specification: a request off its text, its fields in a row of the call's own.
-/
import Derived.Test.YtkenmilglfnmbaaGreatDoorPaa
import Derived.Test.YtkenmilglfnmbaaGreatDoorPab
import Derived.Test.YtkenmilglfnmbaaGreatDoorPac
import Derived.Test.YtkenmilglfnmbaaGreatDoorRegLaw
import Derived.Lib.IndexMore
import Derived.Test.YtkenmilglfnmbaaGreatDoorBodyNum
import Derived.Test.YtkenmilglfnmbaaGreatDoorSignNum
import Derived.Laws.Strings
import Derived.Test.YtkenmilglfnmbaaGreatDoorUnchunkNum
import Derived.Test.YtkenmilglfnmbaaGreatDoorSecondsNum
import Derived.Test.YtkenmilglfnmbaaGreatDoorRows
import Derived.Test.YtkenmilglfnmbaaGreatDoorLowerSpec
import Derived.Deep.Cut
namespace Go.Proofs.YtkenmilglfnmbaaGreatDoor
open Go.RowKit
set_option linter.unusedVariables false
namespace Flds

set_option maxRecDepth 100000 in
set_option maxHeartbeats 1000000 in
theorem drop_spec (v : Value) (l : List Fld) (name : ByteArray) (w : World) (h : Is w v l) (hl : l.length ≤ 1073741824) :
    Calls Tryz.prog 75 #[v, .string name] w fun e w' => ∃ v', e = .returned v' ∧ Own w.heap.size w' v' (drop l name) ∧ Below w.heap.size w w' := by
  obtain ⟨a, c, rfl, h2⟩ := is_form h
  have HA := Num.hide h2
  clear h h2
  obtain ⟨i0, hi0, hz0, hz1, hz2⟩ := info_parts infoF
  have HD := Num.hide (made_nil w)
  go_enter Tryz.func75, Tryz.ntmps75
  go_wp2
  go_loopw [5, 6] (fun ov iv wr => ∃ i : Nat, i ≤ l.length ∧ iv = .int .i64 (i : Int) ∧ Hid (Own w.heap.size wr ov (drop (l.take i) name)) ∧ Hid (Below w.heap.size w wr)) (fun _ iv _ => l.length - (intOf iv).toNat)
  case atStart => exact ⟨0, by omega, rfl, HD, (Below.refl _ _).alloc (Nat.le_refl _) _⟩
  case round =>
    clear HD
    obtain ⟨i, hi, rfl, HO, HB⟩ := hrel
    by_cases hlt : i < l.length
    · obtain ⟨bk, o, rfl, hc, hmx, hblt, hcell⟩ := Num.unhide HA (by omega)
      obtain ⟨g1, g2⟩ := hcell i hlt
      have c1 : wr.cell? ⟨bk, o + i * 2, none⟩ = some (.string l[i].1) := by rw [HB.out.cell (p := ⟨bk, o + i * 2, none⟩) hblt]; exact g1
      have c2 : wr.cell? ⟨bk, o + i * 2 + 1, none⟩ = some (.string l[i].2) := by rw [HB.out.cell (p := ⟨bk, o + i * 2 + 1, none⟩) hblt]; exact g2
      have HT := Num.hide (drop_take l name i hlt)
      have hdl : (drop (l.take i) name).length ≤ 1073741824 := by have := drop_length (l.take i) name; rw [List.length_take] at this; omega
      have hsz := HB.out.size
      clear hcell g1 g2
      generalize l[i] = f at c1 c2 HT
      generalize drop (l.take i) name = D at HO HT hdl
      obtain ⟨x, y⟩ := f
      simp only at c1 c2
      by_cases he : x = name
      · subst he
        have HO2 : Hid (Own w.heap.size wr u5 (drop (l.take (i + 1)) x)) := by
          rw [HT.out, if_pos rfl, List.append_nil]; exact HO
        go_wp2
        go_roundw
        case rel => exact ⟨i + 1, by omega, by go_num, HO2, HB⟩
        case measure => simp [intOf]; omega
      · have d := ne_text he
        have d' : (x.toList != name.toList) = true := by rw [bne, d]; rfl
        have HT2 : Hid (drop (l.take (i + 1)) name = D ++ [(x, y)]) := by show _ = _; rw [HT.out, if_neg he]
        clear he
        go_wp2_with (at_builtin; refine wpList_append_own _ rfl _ _ 37 rfl w.heap.size 36 i0 _ 2 32 Tryz.underlying37 hi0 hz0 hz1 hz2 rfl (by decide) _ _ _ rfl (World.ownsRow.alloc HO.out _) ⟨wr.heap.size, 0, none⟩ 1 1 [.string x, .string y] rfl rfl (cells_two wr x y) (two_ok x y) (by unfold maxLen; omega) (by omega) ?c5 ?_)
        case c5 => first | omega | (simp; omega)
        intro v' w2 ho2 hg2 _
        obtain ⟨hp1, hp2⟩ := put_more hsz HO.out HB.out ho2 hg2
        have HP1 : Hid (Own w.heap.size w2 v' (drop (l.take (i + 1)) name)) := by rw [HT2.out]; exact hp1
        have HP2 := Num.hide hp2
        clear ho2 hg2 hp1 hp2
        go_wp2
        go_roundw
        case rel => exact ⟨i + 1, by omega, by go_num, HP1, HP2⟩
        case measure => simp [intOf]; omega
    · obtain rfl : i = l.length := by omega
      have ho := HO.out
      rw [List.take_of_length_le (Nat.le_refl _)] at ho
      have HO2 := Num.hide ho
      clear ho HO
      go_wp2
      go_ret
      exact ⟨_, rfl, HO2.out, HB.out⟩

end Flds
end Go.Proofs.YtkenmilglfnmbaaGreatDoor
namespace Go.Proofs.YtkenmilglfnmbaaGreatDoor
open Go.RowKit
set_option linter.unusedVariables false
set_option linter.unusedSimpArgs false
namespace Msg
open Line (eol lineOf)

set_option maxRecDepth 100000 in
set_option maxHeartbeats 1000000 in
theorem code_spec (c : Int) (w : World) : Calls Tryz.prog 77 #[.int .i64 c] w fun e w' => e = .returned (.int .i64 (codeOf c)) ∧ w = w' := by
  obtain ⟨r, hr⟩ : ∃ r, codeOf c = r := ⟨_, rfl⟩
  rw [hr]
  unfold codeOf at hr
  by_cases h0 : c = 0
  · rw [if_pos h0] at hr
    have d0 : (c == 0) = true := by rw [beq_iff_eq]; exact h0
    subst hr
    clear h0
    go_enter Tryz.func77, Tryz.ntmps77
    go_wp2
    go_ret
    exact ⟨rfl, rfl⟩
  · have d0 : (c == 0) = false := by rw [beq_eq_false_iff_ne]; exact h0
    rw [if_neg h0] at hr
    by_cases h1 : c = 1
    · rw [if_pos h1] at hr
      have d1 : (c == 1) = true := by rw [beq_iff_eq]; exact h1
      subst hr
      clear h0 h1
      go_enter Tryz.func77, Tryz.ntmps77
      go_wp2
      go_ret
      exact ⟨rfl, rfl⟩
    · rw [if_neg h1] at hr
      have d1 : (c == 1) = false := by rw [beq_eq_false_iff_ne]; exact h1
      subst hr
      clear h0 h1
      go_enter Tryz.func77, Tryz.ntmps77
      go_wp2
      go_ret
      exact ⟨rfl, rfl⟩
/-- where there is a gap there is a line -/
theorem whole_line {s : ByteArray} (h : whole s = true) : ∃ k, eol s 0 = some k := by
  cases he : eol s 0 with
  | some k => exact ⟨k, rfl⟩
  | none =>
    exfalso
    obtain ⟨p, q, hpq⟩ := whole_at h
    have hi := Line.index_eolGo s _ 0 rfl
    have he2 : Line.eolGo s (s.size - 0) 0 = none := he
    rw [he2, List.drop_zero] at hi
    have hi2 : Lib.index s.data.toList [13, 10] = -1 := hi
    rcases Lib.index_spec s.data.toList [13, 10] with ⟨_, h2⟩ | ⟨i, h2, _⟩
    · have := h2 p.length (by rw [hpq, List.length_append]; omega)
      unfold Lib.occAt at this
      rw [hpq, List.drop_left] at this
      simp at this
    · rw [h2] at hi2; omega
theorem all_bulk : ∀ (l : List Flds.Fld), l.all Flds.okF = true → Flds.bulk l ≤ 85 * l.length := by
  intro l
  induction l with
  | nil => intro _; simp [Flds.bulk]
  | cons f l ih =>
    intro h
    rw [List.all_cons, Bool.and_eq_true] at h
    have h1 := ih h.2
    have h2 := h.1
    unfold Flds.okF at h2
    simp only [Bool.and_eq_true, decide_eq_true_iff] at h2
    have h3 := h2.1.1.2
    have h4 := h2.2
    unfold Flds.bulk at h1 ⊢
    simp only [List.length_cons, List.map_cons, List.sum_cons]
    omega
theorem readGo_all (s : ByteArray) : ∀ (f a : Nat) (l : List Flds.Fld) (p : List Flds.Fld × Nat), l.all Flds.okF = true → Flds.readGo s f a l = some p → p.1.all Flds.okF = true := by
  intro f
  induction f with
  | zero => intro a l p _ h; cases h
  | succ f ih =>
    intro a l p ha h
    unfold Flds.readGo at h
    split at h
    · cases h
    · split at h
      · cases h; exact ha
      · split at h
        · cases h
        · split at h
          · next hk => exact ih _ _ p (by rw [List.all_append, ha]; simpa using hk) h
          · cases h
theorem readL_bulk (s : ByteArray) : Flds.bulk (Flds.readL s) ≤ 2000 := by
  have hlen := Flds.readL_length s
  unfold Flds.readL at hlen ⊢
  cases hr : Flds.read s with
  | none => simp [Flds.bulk]
  | some q =>
    obtain ⟨l, n⟩ := q
    rw [hr] at hlen
    simp only at hlen ⊢
    have := all_bulk l (readGo_all s 13 0 [] (l, n) rfl hr)
    omega
theorem words_size (s : ByteArray) : (words s).1.size ≤ s.size ∧ (words s).2.1.size ≤ s.size := by
  unfold words
  split
  · exact ⟨Nat.zero_le _, Nat.zero_le _⟩
  · split
    · exact ⟨Nat.zero_le _, Nat.zero_le _⟩
    · simp only [ByteArray.size_extract]; omega
def Z : Array Value := #[.string ⟨#[]⟩, .string ⟨#[]⟩, .slice none 0 0, .string ⟨#[]⟩]
/-- the box of the answer and that of no request, of the call's own; what was there stays -/
structure Two (w W : World) : Prop where
  res : W.heap[w.heap.size]? = some (.cells Z 39)
  non : W.heap[w.heap.size + 1]? = some (.cells Z 39)
  below : Below w.heap.size w W
theorem Two.lt {w W : World} (h : Two w W) : w.heap.size + 1 < W.heap.size := (Array.getElem?_eq_some_iff.1 h.non).1
theorem Two.step {w W W' : World} (h : Two w W) (hb : Below W.heap.size W W') : Two w W' := by
  have hl := h.lt
  exact ⟨(hb.block _ (by omega)).trans h.res, (hb.block _ hl).trans h.non, h.below.trans (hb.mono h.below.size)⟩
theorem Two.first {w W : World} (hb : Below ((w.alloc (.cells Z 39)).alloc (.cells Z 39)).heap.size ((w.alloc (.cells Z 39)).alloc (.cells Z 39)) W) : Two w W := by
  have e1 : (w.alloc (.cells Z 39)).heap.size = w.heap.size + 1 := by rw [World.size_alloc]
  have e2 : ((w.alloc (.cells Z 39)).alloc (.cells Z 39)).heap.size = w.heap.size + 1 + 1 := by rw [World.size_alloc, World.size_alloc]
  have hb0 := ((Below.refl w.heap.size w).alloc (Nat.le_refl _) (.cells Z 39)).alloc (by simp) (.cells Z 39)
  refine ⟨?_, ?_, hb0.trans (hb.mono hb0.size)⟩
  · rw [hb.block _ (by omega), heap_alloc_old _ _ (by omega), heap_alloc_new]
  · rw [hb.block _ (by omega), ← e1, heap_alloc_new]
theorem Two.cells {w W : World} (h : Two w W) : (W.cell? ⟨w.heap.size + 1, 0, none⟩ = some (.string ⟨#[]⟩) ∧ W.cell? ⟨w.heap.size + 1, 1, none⟩ = some (.string ⟨#[]⟩) ∧ W.cell? ⟨w.heap.size + 1, 2, none⟩ = some (.slice none 0 0) ∧ W.cell? ⟨w.heap.size + 1, 3, none⟩ = some (.string ⟨#[]⟩)) ∧
    (W.cell? ⟨w.heap.size, 0, none⟩ = some (.string ⟨#[]⟩) ∧ W.cell? ⟨w.heap.size, 1, none⟩ = some (.string ⟨#[]⟩) ∧ W.cell? ⟨w.heap.size, 2, none⟩ = some (.slice none 0 0) ∧ W.cell? ⟨w.heap.size, 3, none⟩ = some (.string ⟨#[]⟩)) ∧
    W.frozen? ⟨w.heap.size, 0, none⟩ = false ∧ W.frozen? ⟨w.heap.size, 1, none⟩ = false ∧ W.frozen? ⟨w.heap.size, 2, none⟩ = false ∧ W.frozen? ⟨w.heap.size, 3, none⟩ = false :=
  ⟨⟨Recs.box_cell h.non 0, Recs.box_cell h.non 1, Recs.box_cell h.non 2, Recs.box_cell h.non 3⟩, ⟨Recs.box_cell h.res 0, Recs.box_cell h.res 1, Recs.box_cell h.res 2, Recs.box_cell h.res 3⟩, Recs.box_thaw h.res 0, Recs.box_thaw h.res 1, Recs.box_thaw h.res 2, Recs.box_thaw h.res 3⟩
/-- what stores into the answer's box leave -/
theorem Two.told {w W : World} (h : Two w W) (a b c d : Value) : Below w.heap.size w ((((W.setCell ⟨w.heap.size, 0, none⟩ a).setCell ⟨w.heap.size, 1, none⟩ b).setCell ⟨w.heap.size, 2, none⟩ c).setCell ⟨w.heap.size, 3, none⟩ d) :=
  (((h.below.setCell (p := ⟨w.heap.size, 0, none⟩) (Nat.le_refl _) a).setCell (p := ⟨w.heap.size, 1, none⟩) (Nat.le_refl _) b).setCell (p := ⟨w.heap.size, 2, none⟩) (Nat.le_refl _) c).setCell (p := ⟨w.heap.size, 3, none⟩) (Nat.le_refl _) d
end Msg
end Go.Proofs.YtkenmilglfnmbaaGreatDoor
namespace Go.Proofs.YtkenmilglfnmbaaGreatDoor
open Go.RowKit
set_option linter.unusedVariables false
namespace Body

theorem hv_dig {c : Int} (h : 48 ≤ c ∧ c ≤ 57) : hv c = c - 48 := if_pos h
theorem hv_low {c : Int} (h : 97 ≤ c ∧ c ≤ 102) : hv c = c - 97 + 10 := by unfold hv; rw [if_neg (by omega), if_pos h]
theorem hv_up {c : Int} (h : 65 ≤ c ∧ c ≤ 70) : hv c = c - 65 + 10 := by unfold hv; rw [if_neg (by omega), if_neg (by omega), if_pos h]
theorem hv_none {c : Int} (h1 : ¬ (48 ≤ c ∧ c ≤ 57)) (h2 : ¬ (97 ≤ c ∧ c ≤ 102)) (h3 : ¬ (65 ≤ c ∧ c ≤ 70)) : hv c = -1 := by unfold hv; rw [if_neg h1, if_neg h2, if_neg h3]
theorem all_more (s : ByteArray) (k : Nat) (h : k < s.size) (ha : (s.data.toList.take k).all isHex = true) (hv0 : 0 ≤ hv (s[k].toNat : Int)) : (s.data.toList.take (k + 1)).all isHex = true := by
  rw [Sign.all_take s isHex k h, ha, Bool.true_and]
  exact decide_eq_true hv0
set_option maxRecDepth 100000 in
set_option maxHeartbeats 4000000 in
theorem readHex_spec (s : ByteArray) (w : World) (hs : s.size ≤ maxLen) :
    Calls Tryz.prog 168 #[.string s] w fun e w' => e = .returned (.tuple #[.int .i64 (rhN s), .bool (rhB s)]) ∧ w = w' := by
  unfold maxLen at hs
  obtain ⟨N, hN⟩ : ∃ N, rhN s = N := ⟨_, rfl⟩
  obtain ⟨b, hb⟩ : ∃ b, rhB s = b := ⟨_, rfl⟩
  rw [hN, hb]
  have HE : Hid (readHex s = none → N = 0 ∧ b = false) := fun h => by
    obtain ⟨h1, h2⟩ := rh_none h
    exact ⟨hN.symm.trans h1, hb.symm.trans h2⟩
  have HF : Hid (∀ z, readHex s = some z → N = z ∧ b = true) := fun z h => by
    constructor
    · rw [← hN]; unfold rhN; rw [h]; rfl
    · rw [← hb]; unfold rhB; rw [h]; rfl
  clear hN hb
  go_enter Tryz.func168, Tryz.ntmps168
  go_wp2
  go_loop [4, 5] (fun nv iv => ∃ (k : Nat) (x : Int), k ≤ s.size ∧ iv = .int .i64 (k : Int) ∧ nv = .int .i64 x ∧ Hid ((s.data.toList.take k).all isHex = true) ∧ Hid (k ≤ 6 → x = hexVal (s.data.toList.take k))) (fun _ iv => s.size - (intOf iv).toNat)
  case atStart => exact ⟨0, 0, by omega, rfl, rfl, by show _ = _; simp, fun _ => by simp [hexVal]⟩
  case round =>
    obtain ⟨k, x, hk, rfl, rfl, HA, HX⟩ := hrel
    by_cases hlt : k < s.size
    · have hc := s[k].toNat_lt
      have hc0 : (0 : Int) ≤ (s[k].toNat : Int) := by omega
      have hc1 : (s[k].toNat : Int) < 256 := by omega
      have HBad := Num.hide (fun h => rh_bad s k hlt h)
      have HMore := Num.hide (fun h => all_more s k hlt HA.out h)
      have HC : Hid (hv (s[k].toNat : Int) = hv (s[k].toNat : Int)) := rfl
      by_cases h1 : 48 ≤ (s[k].toNat : Int)
      · by_cases h2 : (s[k].toNat : Int) ≤ 57
        · have HH := Num.hide (hv_dig ⟨h1, h2⟩)
          have HA2 := Num.hide (HMore.out (by rw [HH.out]; omega))
          clear HBad HMore
          by_cases hk6 : k < 6
          · have hxe := Num.unhide HX (by omega)
            have hxb := hexVal_six (s.data.toList.take k) HA.out (by rw [List.length_take]; omega)
            rw [← hxe] at hxb
            have HV := Num.hide (hexVal_take s k hlt)
            have HXe := Num.hide hxe
            have HX2 : Hid (k + 1 ≤ 6 → x * 16 + ((s[k].toNat : Int) - 48) = hexVal (s.data.toList.take (k + 1))) := fun _ => by have q1 := HV.out; have q2 := HH.out; rw [← HXe.out] at q1; omega
            clear hxe HX HV HXe HC HH
            go_wp2
            all_goals go_round
            case rel => exact ⟨k + 1, _, by omega, by go_num, rfl, HA2, HX2⟩
            case measure => simp [intOf]; omega
          · clear HX
            go_wp2
            all_goals go_round
            case rel => exact ⟨k + 1, _, by omega, by go_num, rfl, HA2, fun h => absurd h (by omega)⟩
            case measure => simp [intOf]; omega
        · have d2 : decide ((s[k].toNat : Int) ≤ 57) = false := by rw [decide_eq_false_iff_not]; exact h2
          by_cases h3 : 97 ≤ (s[k].toNat : Int)
          · by_cases h4 : (s[k].toNat : Int) ≤ 102
            · have HH := Num.hide (hv_low ⟨h3, h4⟩)
              have HA2 := Num.hide (HMore.out (by rw [HH.out]; omega))
              clear HBad HMore
              by_cases hk6 : k < 6
              · have hxe := Num.unhide HX (by omega)
                have hxb := hexVal_six (s.data.toList.take k) HA.out (by rw [List.length_take]; omega)
                rw [← hxe] at hxb
                have HV := Num.hide (hexVal_take s k hlt)
                have HXe := Num.hide hxe
                have HX2 : Hid (k + 1 ≤ 6 → x * 16 + ((s[k].toNat : Int) - 97) + 10 = hexVal (s.data.toList.take (k + 1))) := fun _ => by have q1 := HV.out; have q2 := HH.out; rw [← HXe.out] at q1; omega
                clear hxe HX HV HXe HC HH
                go_wp2
                all_goals go_round
                case rel => exact ⟨k + 1, _, by omega, by go_num, rfl, HA2, HX2⟩
                case measure => simp [intOf]; omega
              · clear HX
                go_wp2
                all_goals go_round
                case rel => exact ⟨k + 1, _, by omega, by go_num, rfl, HA2, fun h => absurd h (by omega)⟩
                case measure => simp [intOf]; omega
            · have d4 : decide ((s[k].toNat : Int) ≤ 102) = false := by rw [decide_eq_false_iff_not]; exact h4
              have d6 : decide ((s[k].toNat : Int) ≤ 70) = false := by rw [decide_eq_false_iff_not]; omega
              obtain ⟨rfl, rfl⟩ := HE.out (HBad.out (hv_none (by omega) (by omega) (by omega)))
              clear HBad HMore HC
              go_wp2
              all_goals go_ret2
              all_goals exact ⟨rfl, rfl⟩
          · have d3 : decide (97 ≤ (s[k].toNat : Int)) = false := by rw [decide_eq_false_iff_not]; exact h3
            by_cases h5 : 65 ≤ (s[k].toNat : Int)
            · by_cases h6 : (s[k].toNat : Int) ≤ 70
              · have HH := Num.hide (hv_up ⟨h5, h6⟩)
                have HA2 := Num.hide (HMore.out (by rw [HH.out]; omega))
                clear HBad HMore
                by_cases hk6 : k < 6
                · have hxe := Num.unhide HX (by omega)
                  have hxb := hexVal_six (s.data.toList.take k) HA.out (by rw [List.length_take]; omega)
                  rw [← hxe] at hxb
                  have HV := Num.hide (hexVal_take s k hlt)
                  have HXe := Num.hide hxe
                  have HX2 : Hid (k + 1 ≤ 6 → x * 16 + ((s[k].toNat : Int) - 65) + 10 = hexVal (s.data.toList.take (k + 1))) := fun _ => by have q1 := HV.out; have q2 := HH.out; rw [← HXe.out] at q1; omega
                  clear hxe HX HV HXe HC HH
                  go_wp2
                  all_goals go_round
                  case rel => exact ⟨k + 1, _, by omega, by go_num, rfl, HA2, HX2⟩
                  case measure => simp [intOf]; omega
                · clear HX
                  go_wp2
                  all_goals go_round
                  case rel => exact ⟨k + 1, _, by omega, by go_num, rfl, HA2, fun h => absurd h (by omega)⟩
                  case measure => simp [intOf]; omega
              · have d6 : decide ((s[k].toNat : Int) ≤ 70) = false := by rw [decide_eq_false_iff_not]; exact h6
                obtain ⟨rfl, rfl⟩ := HE.out (HBad.out (hv_none (by omega) (by omega) (by omega)))
                clear HBad HMore HC
                go_wp2
                all_goals go_ret2
                all_goals exact ⟨rfl, rfl⟩
            · have d5 : decide (65 ≤ (s[k].toNat : Int)) = false := by rw [decide_eq_false_iff_not]; exact h5
              obtain ⟨rfl, rfl⟩ := HE.out (HBad.out (hv_none (by omega) (by omega) (by omega)))
              clear HBad HMore HC
              go_wp2
              all_goals go_ret2
              all_goals exact ⟨rfl, rfl⟩
      · have d1 : decide (48 ≤ (s[k].toNat : Int)) = false := by rw [decide_eq_false_iff_not]; exact h1
        have d3 : decide (97 ≤ (s[k].toNat : Int)) = false := by rw [decide_eq_false_iff_not]; omega
        have d5 : decide (65 ≤ (s[k].toNat : Int)) = false := by rw [decide_eq_false_iff_not]; omega
        obtain ⟨rfl, rfl⟩ := HE.out (HBad.out (hv_none (by omega) (by omega) (by omega)))
        clear HBad HMore HC
        go_wp2
        all_goals go_ret2
        all_goals exact ⟨rfl, rfl⟩
    · obtain rfl : k = s.size := by omega
      have hfull : s.data.toList.take s.size = s.data.toList := List.take_of_length_le (by rw [Array.length_toList]; exact Nat.le_refl _)
      have hall := HA.out
      rw [hfull] at hall
      by_cases h16 : 1 ≤ (s.size : Int) ∧ (s.size : Int) ≤ 6
      · have hx := Num.unhide HX (by omega)
        rw [hfull] at hx
        have hr : readHex s = some x := by unfold readHex; rw [if_pos ⟨hall, by omega, by omega⟩, hx]
        obtain ⟨rfl, rfl⟩ := HF.out x hr
        clear hx hr hall hfull HA HX HF HE
        go_wp2_with fail
        refine (Date.in_spec _ _ _ _).mono ?_
        rintro e w1 ⟨rfl, rfl⟩
        rw [decide_eq_true h16]
        go_wp2
        go_ret2
        exact ⟨rfl, rfl⟩
      · have hr : readHex s = none := by unfold readHex; rw [if_neg (by omega)]
        obtain ⟨rfl, rfl⟩ := HE.out hr
        clear hr hall hfull HA HX HF HE
        go_wp2_with fail
        refine (Date.in_spec _ _ _ _).mono ?_
        rintro e w1 ⟨rfl, rfl⟩
        rw [decide_eq_false h16]
        go_wp2
        go_ret2
        exact ⟨rfl, rfl⟩
theorem readHex_spec_b (s : ByteArray) (w : World) (hs : s.size ≤ maxLen) :
    Calls Tryz.prog 168 #[.string s] w fun e w' => e = .returned (.tuple #[.int .i64 (rhN s), .bool (rhB s)]) ∧ Below w.heap.size w w' :=
  (readHex_spec s w hs).mono fun e w' ⟨h1, h2⟩ => ⟨h1, by subst h2; exact Below.refl _ _⟩
end Body
end Go.Proofs.YtkenmilglfnmbaaGreatDoor
namespace Go.Proofs.YtkenmilglfnmbaaGreatDoor
open Go.RowKit
set_option linter.unusedVariables false
namespace Body
open Line (byteAt byteAt_eq)

set_option maxRecDepth 100000 in
set_option maxHeartbeats 4000000 in
theorem unchunk_spec (s : ByteArray) (w : World) (hs : s.size ≤ 1099511627776) :
    Calls Tryz.prog 126 #[.string s] w fun e w' => e = .returned (.tuple #[.string (unchunk s).1, .int .i64 (unchunk s).2.1, .int .i64 (unchunk s).2.2]) ∧ w = w' := by
  obtain ⟨r, hr⟩ : ∃ r, unchunk s = r := ⟨_, rfl⟩
  rw [hr]
  have HR := Num.hide hr
  clear hr
  go_enter Tryz.func126, Tryz.ntmps126
  go_wp2
  go_loop [5, 6] (fun ov av => ∃ (a : Nat) (out : ByteArray), av = .int .i64 (a : Int) ∧ ov = .string out ∧ Hid (UnAt s a out)) (fun _ av => s.size - (intOf av).toNat)
  case atStart => exact ⟨0, ⟨#[]⟩, rfl, rfl, un_start s⟩
  case round =>
    obtain ⟨a, out, rfl, rfl, HA⟩ := hrel
    have hle := HA.out.le
    have hos := HA.out.small
    have HL := Num.hide (Line.line_spec s a w (by omega) hle)
    cases he : Line.eol s a with
    | none =>
      have hl : Line.lineOf s a = (⟨#[]⟩, -1) := by unfold Line.lineOf; rw [he]
      rw [hl] at HL
      by_cases h8 : (8 : Int) < (s.size : Int) - (a : Int)
      · obtain rfl : r = bad := by rw [← HR.out]; exact un_long HA.out he (by omega)
        clear hl he HR HA
        go_wp2_with fail
        refine HL.out.mono ?_
        rintro e w1 ⟨rfl, rfl⟩
        go_wp2
        go_ret3
        exact ⟨rfl, rfl⟩
      · have d8 : decide ((8 : Int) < (s.size : Int) - (a : Int)) = false := by rw [decide_eq_false_iff_not]; exact h8
        obtain rfl : r = more := by rw [← HR.out]; exact un_more HA.out he (by omega)
        clear hl he HR HA
        go_wp2_with fail
        refine HL.out.mono ?_
        rintro e w1 ⟨rfl, rfl⟩
        go_wp2
        go_ret3
        exact ⟨rfl, rfl⟩
    | some i =>
      obtain ⟨hin1, hin2⟩ := Line.eol_in he
      have hl : Line.lineOf s a = (s.extract a i, (i : Int) + 2) := by unfold Line.lineOf; rw [he]
      rw [hl] at HL
      clear hl
      have HX := Num.hide (readHex_spec (s.extract a i) w (by unfold maxLen; rw [ByteArray.size_extract]; omega))
      cases hx : readHex (s.extract a i) with
      | none =>
        obtain ⟨e1, e2⟩ := rh_none hx
        rw [e1, e2] at HX
        obtain rfl : r = bad := by rw [← HR.out]; exact un_nohex HA.out he hx
        clear e1 e2 hx he HR HA
        generalize s.extract a i = t at HL HX
        go_wp2_with fail
        refine HL.out.mono ?_
        rintro e w1 ⟨rfl, rfl⟩
        go_wp2_with fail
        refine HX.out.mono ?_
        rintro e w1 ⟨rfl, rfl⟩
        go_wp2
        go_ret3
        exact ⟨rfl, rfl⟩
      | some n0 =>
        have hnb := readHex_bd hx
        obtain ⟨n, rfl⟩ := Int.eq_ofNat_of_zero_le hnb.1
        obtain ⟨e1, e2⟩ := rh_some hx
        rw [e1, e2] at HX
        have hnn : ((n : Int)).toNat = n := rfl
        by_cases h60 : (60 : Int) < (out.size : Int) + (n : Int)
        · obtain rfl : r = bad := by rw [← HR.out]; exact un_great HA.out he hx (by omega)
          clear e1 e2 hx he HR HA hnn
          generalize s.extract a i = t at HL HX
          go_wp2_with fail
          refine HL.out.mono ?_
          rintro e w1 ⟨rfl, rfl⟩
          go_wp2_with fail
          refine HX.out.mono ?_
          rintro e w1 ⟨rfl, rfl⟩
          go_wp2
          go_ret3
          exact ⟨rfl, rfl⟩
        · have d60 : decide ((60 : Int) < (out.size : Int) + (n : Int)) = false := by rw [decide_eq_false_iff_not]; exact h60
          by_cases hsh : (s.size : Int) < (i : Int) + 2 + (n : Int) + 2
          · obtain rfl : r = more := by rw [← HR.out]; exact un_short HA.out he hx (by omega) (by omega)
            clear e1 e2 hx he HR HA hnn
            generalize s.extract a i = t at HL HX
            go_wp2_with fail
            refine HL.out.mono ?_
            rintro e w1 ⟨rfl, rfl⟩
            go_wp2_with fail
            refine HX.out.mono ?_
            rintro e w1 ⟨rfl, rfl⟩
            go_wp2
            go_ret3
            exact ⟨rfl, rfl⟩
          · have dsh : decide ((s.size : Int) < (i : Int) + 2 + (n : Int) + 2) = false := by rw [decide_eq_false_iff_not]; exact hsh
            have q1 : i + 2 + n < s.size := by omega
            have q2 : i + 2 + n + 1 < s.size := by omega
            have b1 := byteAt_eq s (i + 2 + n) q1
            have b2 := byteAt_eq s (i + 2 + n + 1) q2
            have HBt := Num.hide (fun (h : ¬ (byteAt s (i + 2 + n) = 13 ∧ byteAt s (i + 2 + n + 1) = 10)) => un_noend HA.out he hx (by omega) (by omega) h)
            have HDn : Hid ((byteAt s (i + 2 + n) = 13 ∧ byteAt s (i + 2 + n + 1) = 10) → n = 0 → unchunk s = (out ++ s.extract (i + 2) (i + 2 + n), ((i + 2 + n + 2 : Nat) : Int), 0)) := fun h h0 => by subst h0; exact un_done HA.out he hx (by omega) (by omega) h
            have HNx := Num.hide (fun (h : byteAt s (i + 2 + n) = 13 ∧ byteAt s (i + 2 + n + 1) = 10) (h0 : ¬ (n : Int) = 0) => un_next HA.out he hx (by omega) (by omega) h h0)
            rw [b1, b2] at HBt HDn HNx
            clear e1 e2 hx he HA hnn b1 b2
            generalize s.extract a i = t at HL HX
            go_wp2_with fail
            refine HL.out.mono ?_
            rintro e w1 ⟨rfl, rfl⟩
            go_wp2_with fail
            refine HX.out.mono ?_
            rintro e w1 ⟨rfl, rfl⟩
            have hi1 : ((i : Int) + 2 + (n : Int)).toNat = i + 2 + n := by omega
            have hi2 : ((i : Int) + 2 + (n : Int) + 1).toNat = i + 2 + n + 1 := by omega
            have hi3 : ((i : Int) + 2).toNat = i + 2 := by omega
            have l1 : (0 : Int) ≤ (i : Int) + 2 := by omega
            have l2 : (i : Int) + 2 ≤ (i : Int) + 2 + (n : Int) := by omega
            have l3 : (i : Int) + 2 + (n : Int) ≤ (s.size : Int) := by omega
            by_cases c1 : (s[i + 2 + n]).toNat = 13
            · have f1 : (((s[i + 2 + n]).toNat : Int) != 13) = false := by rw [bne_eq_false_iff_eq]; omega
              by_cases c2 : (s[i + 2 + n + 1]).toNat = 10
              · have f2 : (((s[i + 2 + n + 1]).toNat : Int) != 10) = false := by rw [bne_eq_false_iff_eq]; omega
                have hxs : (s.extract (i + 2) (i + 2 + n)).size = n := by rw [ByteArray.size_extract]; omega
                by_cases h0 : n = 0
                · have hr := HDn.out ⟨c1, c2⟩ h0
                  rw [HR.out] at hr
                  subst hr
                  have d0 : ((n : Int) == 0) = true := by rw [beq_iff_eq]; omega
                  clear HBt HDn HNx HR c1 c2 h0
                  go_wp2
                  go_ret3
                  exact ⟨by simp, rfl⟩
                · have d0 : ((n : Int) == 0) = false := by rw [beq_eq_false_iff_ne]; omega
                  have HA2 := Num.hide (HNx.out ⟨c1, c2⟩ (by omega))
                  clear HBt HDn HNx c1 c2
                  go_wp2
                  go_round
                  case rel => exact ⟨i + 2 + n + 2, _, by go_num, rfl, HA2⟩
                  case measure => simp [intOf]; omega
              · have f2 : (((s[i + 2 + n + 1]).toNat : Int) != 10) = true := by rw [bne_iff_ne]; omega
                obtain rfl : r = bad := by rw [← HR.out]; exact HBt.out (fun h => c2 h.2)
                clear HBt HDn HNx HR c1 c2
                go_wp2
                go_ret3
                exact ⟨rfl, rfl⟩
            · have f1 : (((s[i + 2 + n]).toNat : Int) != 13) = true := by rw [bne_iff_ne]; omega
              obtain rfl : r = bad := by rw [← HR.out]; exact HBt.out (fun h => c1 h.1)
              clear HBt HDn HNx HR c1
              go_wp2
              go_ret3
              exact ⟨rfl, rfl⟩
theorem unchunk_spec_b (s : ByteArray) (w : World) (hs : s.size ≤ 1099511627776) :
    Calls Tryz.prog 126 #[.string s] w fun e w' => e = .returned (.tuple #[.string (unchunk s).1, .int .i64 (unchunk s).2.1, .int .i64 (unchunk s).2.2]) ∧ Below w.heap.size w w' :=
  (unchunk_spec s w hs).mono fun e w' ⟨h1, h2⟩ => ⟨h1, by subst h2; exact Below.refl _ _⟩
end Body
end Go.Proofs.YtkenmilglfnmbaaGreatDoor
namespace Go.Proofs.YtkenmilglfnmbaaGreatDoor
open Go.RowKit
set_option linter.unusedVariables false
namespace Sign

set_option maxRecDepth 100000 in
set_option maxHeartbeats 1000000 in
theorem seconds_spec (s : ByteArray) (w : World) (hs : s.size ≤ maxLen) : Calls Tryz.prog 125 #[.string s] w fun e w' => e = .returned (.tuple #[.int .i64 (secs s).1, .bool (secs s).2]) ∧ w = w' := by
  unfold maxLen at hs
  obtain ⟨r, hr⟩ : ∃ r, secs s = r := ⟨_, rfl⟩
  rw [hr]
  have HR := Num.hide hr
  clear hr
  go_enter Tryz.func125, Tryz.ntmps125
  go_wp2
  go_loop [4, 5] (fun n i => ∃ k : Nat, k ≤ s.size ∧ i = .int .i64 k ∧ n = .int .i64 (sec (s.data.toList.take k)) ∧ (s.data.toList.take k).all (fun b => decide (dig (b.toNat : Int))) = true) (fun _ i => s.size - (intOf i).toNat)
  case atStart => exact ⟨0, by omega, rfl, rfl, by simp⟩
  case round =>
    obtain ⟨k, hk, rfl, rfl, hall⟩ := hrel
    have hb := sec_bd _ hall
    have HA := Num.hide hall
    clear hall
    by_cases hlt : k < s.size
    · have hstep := Num.hide (all_take s (fun b => decide (dig (b.toNat : Int))) k hlt)
      have hsec := Num.hide (sec_take s k hlt)
      have hn := Num.hide (fun h => not_all s (fun b => decide (dig (b.toNat : Int))) k hlt h)
      have hc := s[k].toNat_lt
      obtain ⟨x, hx⟩ : ∃ x, sec (s.data.toList.take k) = x := ⟨_, rfl⟩
      rw [hx] at hb ⊢
      have HX := Num.hide hx
      clear hx
      by_cases h1 : 48 ≤ (s[k].toNat : Int)
      · have d1 : decide ((s[k].toNat : Int) < 48) = false := by simp; omega
        by_cases h2 : (s[k].toNat : Int) ≤ 57
        · have d2 : decide (57 < (s[k].toNat : Int)) = false := by simp; omega
          have hd := Num.hide (show decide (dig (s[k].toNat : Int)) = true from decide_eq_true (by unfold dig; omega))
          go_wp2
          all_goals go_round
          case rel => exact ⟨k + 1, by omega, by go_num, by rw [Num.unhide hsec, Num.unhide HX]; go_num, by rw [Num.unhide hstep, Num.unhide HA, Num.unhide hd]; rfl⟩
          case measure => simp [intOf]; omega
        · have d2 : decide (57 < (s[k].toNat : Int)) = true := by simp; omega
          have hr : secs s = (0, false) := by
            unfold secs
            rw [if_neg]
            intro h
            rw [Num.unhide hn (decide_eq_false (by unfold dig; omega))] at h
            simp at h
          rw [Num.unhide HR] at hr
          subst hr
          go_wp2
          all_goals go_ret2
          all_goals exact ⟨rfl, rfl⟩
      · have d1 : decide ((s[k].toNat : Int) < 48) = true := by simp; omega
        have hr : secs s = (0, false) := by
          unfold secs
          rw [if_neg]
          intro h
          rw [Num.unhide hn (decide_eq_false (by unfold dig; omega))] at h
          simp at h
        rw [Num.unhide HR] at hr
        subst hr
        go_wp2
        all_goals go_ret2
        all_goals exact ⟨rfl, rfl⟩
    · obtain rfl : k = s.size := by omega
      have hfull : s.data.toList.take s.size = s.data.toList := List.take_of_length_le (by rw [Array.length_toList]; exact Nat.le_refl _)
      have hall := Num.unhide HA
      have hr := Num.unhide HR
      rw [hfull] at hall hb ⊢
      unfold secs at hr
      by_cases h0 : 0 < s.size
      · rw [if_pos ⟨h0, hall⟩] at hr
        subst hr
        have h0' : decide (0 < (s.size : Int)) = true := by simp; omega
        clear HR HA hall hfull
        obtain ⟨x, hx⟩ : ∃ x, sec s.data.toList = x := ⟨_, rfl⟩
        rw [hx] at hb ⊢
        have HX := Num.hide hx
        clear hx
        go_wp2
        all_goals go_ret2
        all_goals exact ⟨by rw [Num.unhide HX]; rfl, rfl⟩
      · rw [if_neg (fun h => h0 h.1)] at hr
        subst hr
        have hz : s.size = 0 := by omega
        have h0' : decide (0 < (s.size : Int)) = false := by rw [hz]; rfl
        have e0 : sec s.data.toList = 0 := by
          rw [List.eq_nil_of_length_eq_zero (show s.data.toList.length = 0 by rw [Array.length_toList]; exact hz)]; rfl
        rw [e0]
        clear HR HA hall hfull
        go_wp2
        all_goals go_ret2
        all_goals exact ⟨rfl, rfl⟩
end Sign
end Go.Proofs.YtkenmilglfnmbaaGreatDoor
namespace Go.Proofs.YtkenmilglfnmbaaGreatDoor
open Go.RowKit
set_option linter.unusedVariables false
namespace Body

set_option maxRecDepth 100000 in
set_option maxHeartbeats 4000000 in
theorem body_spec (v : Value) (l : List Flds.Fld) (s : ByteArray) (c : Bool) (w : World) (h : Flds.Is w v l) (hl : Flds.bulk l ≤ 1048576) (hs : s.size ≤ 1048576) :
    Calls Tryz.prog 76 #[v, .string s, .bool c] w fun e w' => e = .returned (.tuple #[.string (bodyOf l s c).1, .int .i64 (bodyOf l s c).2.1, .int .i64 (bodyOf l s c).2.2]) ∧ Below w.heap.size w w' := by
  have HG1 := Num.hide (Flds.get_spec v l teName w h (by omega))
  have HG2 := Num.hide (Flds.get_spec v l clName w h (by omega))
  unfold bodyOf
  have z1 := get_small l teName hl
  have z2 := get_small l clName hl
  clear h
  generalize Flds.get l teName = te at HG1 z1
  generalize Flds.get l clName = cl at HG2 z2
  obtain ⟨te1, te2⟩ := te
  obtain ⟨cl1, cl2⟩ := cl
  simp only at z1 z2 HG1 HG2
  have HS := Num.hide (fun W => Sign.seconds_spec cl1 W (by unfold maxLen; omega))
  have HLo := Num.hide (fun W => Sign.lower_spec te1 W (by unfold maxLen; omega))
  have HU := Num.hide (fun W => unchunk_spec s W (by omega))
  have hsb := secs_bd cl1
  obtain ⟨r, hr⟩ : ∃ r, bodyBy (te1, te2) (cl1, cl2) s c = r := ⟨_, rfl⟩
  rw [hr]
  unfold bodyBy at hr
  simp only at hr
  generalize Sign.secs cl1 = sc at HS hsb hr
  obtain ⟨n, is⟩ := sc
  simp only at HS hsb hr
  generalize Sign.lower te1 = lo at HLo hr
  generalize unchunk s = un at HU hr
  have HR := Num.hide hr
  clear hr
  unfold teName at HG1
  unfold clName at HG2
  go_enter Tryz.func76, Tryz.ntmps76
  go_wp2_with fail
  refine HG1.out.mono ?_
  rintro e w1 ⟨rfl, rfl⟩
  go_wp2_with fail
  refine HG2.out.mono ?_
  rintro e w2 ⟨rfl, rfl⟩
  go_wp2_with fail
  refine (HS.out _).mono ?_
  rintro e w3 ⟨rfl, rfl⟩
  cases te2 with
  | true =>
    rw [if_pos rfl] at HR
    by_cases hch : lo = chName
    · subst hch
      unfold chName at HLo
      cases cl2 with
      | true =>
        obtain rfl : bad = r := by rw [← HR.out, if_neg (by simp)]
        clear HR
        go_wp2_with fail
        refine (HLo.out _).mono ?_
        rintro e w3 ⟨rfl, hb3⟩
        have HB3 := Num.hide hb3
        clear hb3
        go_wp2
        go_ret3
        exact ⟨rfl, HB3.out⟩
      | false =>
        obtain rfl : un = r := by rw [← HR.out, if_pos ⟨rfl, rfl⟩]
        clear HR
        go_wp2_with fail
        refine (HLo.out _).mono ?_
        rintro e w3 ⟨rfl, hb3⟩
        have HB3 := Num.hide hb3
        clear hb3
        go_wp2_with fail
        refine (HU.out _).mono ?_
        rintro e w4 ⟨rfl, rfl⟩
        go_wp2
        go_ret3
        exact ⟨rfl, HB3.out⟩
    · obtain rfl : bad = r := by rw [← HR.out, if_neg (fun h => hch h.1)]
      have dq : (lo.toList == [99, 104, 117, 110, 107, 101, 100]) = false := by
        rw [beq_eq_false_iff_ne, ByteArray.toList_eq]
        intro e
        exact hch (ByteArray.ext (Array.toList_inj.1 e))
      clear HR hch
      go_wp2_with fail
      refine (HLo.out _).mono ?_
      rintro e w3 ⟨rfl, hb3⟩
      have HB3 := Num.hide hb3
      clear hb3
      go_wp2
      go_ret3
      exact ⟨rfl, HB3.out⟩
  | false =>
    rw [if_neg (by simp)] at HR
    cases cl2 with
    | true =>
      rw [if_pos rfl] at HR
      cases is with
      | false =>
        obtain rfl : bad = r := by rw [← HR.out, if_pos (.inl rfl)]
        clear HR
        go_wp2
        go_ret3
        exact ⟨rfl, Below.refl _ _⟩
      | true =>
        by_cases h60 : 60 < n
        · obtain rfl : bad = r := by rw [← HR.out, if_pos (.inr h60)]
          clear HR
          go_wp2
          go_ret3
          exact ⟨rfl, Below.refl _ _⟩
        · have d60 : decide (60 < n) = false := by rw [decide_eq_false_iff_not]; exact h60
          by_cases hsn : (s.size : Int) < n
          · obtain rfl : more = r := by rw [← HR.out, if_neg (by simp; omega), if_pos hsn]
            clear HR
            go_wp2
            go_ret3
            exact ⟨rfl, Below.refl _ _⟩
          · have dsn : decide ((s.size : Int) < n) = false := by rw [decide_eq_false_iff_not]; exact hsn
            obtain rfl : (s.extract 0 n.toNat, n, 0) = r := by rw [← HR.out, if_neg (by simp; omega), if_neg hsn]
            clear HR
            go_wp2
            go_ret3
            exact ⟨rfl, Below.refl _ _⟩
    | false =>
      rw [if_neg (by simp)] at HR
      cases c with
      | true =>
        rw [if_pos rfl] at HR
        by_cases h60 : (60 : Int) < (s.size : Int)
        · obtain rfl : bad = r := by rw [← HR.out, if_pos (by omega)]
          clear HR
          go_wp2
          go_ret3
          exact ⟨rfl, Below.refl _ _⟩
        · have d60 : decide ((60 : Int) < (s.size : Int)) = false := by rw [decide_eq_false_iff_not]; exact h60
          obtain rfl : (s, (s.size : Int), 0) = r := by rw [← HR.out, if_neg (by omega)]
          clear HR
          go_wp2
          go_ret3
          exact ⟨rfl, Below.refl _ _⟩
      | false =>
        obtain rfl : (⟨#[]⟩, 0, 0) = r := by rw [← HR.out, if_neg (by simp)]
        clear HR
        go_wp2
        go_ret3
        exact ⟨rfl, Below.refl _ _⟩
end Body
end Go.Proofs.YtkenmilglfnmbaaGreatDoor
namespace Go.Proofs.YtkenmilglfnmbaaGreatDoor
open Go.RowKit
set_option linter.unusedVariables false
set_option linter.unusedSimpArgs false
namespace Msg
open Line (eol lineOf)

set_option maxRecDepth 100000 in
set_option maxHeartbeats 4000000 in
theorem readReq_spec (s : ByteArray) (w : World) (hs : s.size ≤ 1048576) :
    Calls Tryz.prog 28 #[.string s] w fun e w' => ∃ v', e = .returned (.tuple #[Req.val (readReq s).1.1 (readReq s).1.2.1 v' (readReq s).1.2.2.2, .int .i64 (readReq s).2.1, .int .i64 (readReq s).2.2]) ∧ Flds.Own w.heap.size w' v' (readReq s).1.2.2.1 ∧ Below w.heap.size w w' := by
  obtain ⟨r, hr⟩ : ∃ r, readReq s = r := ⟨_, rfl⟩
  rw [hr]
  unfold Req.val
  have HW := Num.hide (fun W => whole_spec s W (by omega))
  have HB0 := Num.hide (((Below.refl w.heap.size w).alloc (Nat.le_refl _) (.cells #[.string ⟨#[]⟩, .string ⟨#[]⟩, .slice none 0 0, .string ⟨#[]⟩] 39)).alloc (by simp) (.cells #[.string ⟨#[]⟩, .string ⟨#[]⟩, .slice none 0 0, .string ⟨#[]⟩] 39))
  cases hw : whole s with
  | false =>
    rw [hw] at HW
    unfold readReq at hr
    rw [if_pos hw] at hr
    by_cases h15 : 1500 < s.size
    · rw [if_pos h15] at hr
      have d15 : decide (1500 < (s.size : Int)) = true := decide_eq_true (by omega)
      subst hr
      clear hw
      go_enter Tryz.func28, Tryz.ntmps28
      go_wp2_with fail
      refine (HW.out _).mono ?_
      rintro e w1 ⟨rfl, rfl⟩
      go_wp2
      exact bodyPost_ret (v := .tuple #[.agg #[.string ⟨#[]⟩, .string ⟨#[]⟩, .slice none 0 0, .string ⟨#[]⟩], .int .i64 0, .int .i64 2]) (by simp [results, Tryz.results28, go_sem]) rfl ⟨_, rfl, Recs.own_nil _ _, HB0.out⟩
    · rw [if_neg h15] at hr
      have d15 : decide (1500 < (s.size : Int)) = false := decide_eq_false (by omega)
      subst hr
      clear hw
      go_enter Tryz.func28, Tryz.ntmps28
      go_wp2_with fail
      refine (HW.out _).mono ?_
      rintro e w1 ⟨rfl, rfl⟩
      go_wp2
      exact bodyPost_ret (v := .tuple #[.agg #[.string ⟨#[]⟩, .string ⟨#[]⟩, .slice none 0 0, .string ⟨#[]⟩], .int .i64 0, .int .i64 1]) (by simp [results, Tryz.results28, go_sem]) rfl ⟨_, rfl, Recs.own_nil _ _, HB0.out⟩
  | true =>
    rw [hw] at HW
    obtain ⟨k, hk⟩ := whole_line hw
    have hin := Line.eol_in hk
    have hlo : lineOf s 0 = (s.extract 0 k, (k : Int) + 2) := by unfold lineOf; rw [hk]
    have HLn := Num.hide (fun W => Line.line_spec s 0 W (by omega) (Nat.zero_le _))
    rw [hlo] at HLn
    have HWd := Num.hide (fun W => words_spec (s.extract 0 k) W (by rw [ByteArray.size_extract]; omega))
    have hx : (s.extract (k + 2) s.size).size ≤ 1048576 := by rw [ByteArray.size_extract]; omega
    have HRd := Num.hide (fun W => Flds.read_spec (s.extract (k + 2) s.size) W hx)
    have hkk : (k : Int) + 2 ≤ (s.size : Int) := by omega
    clear hlo
    go_enter Tryz.func28, Tryz.ntmps28
    go_wp2_with fail
    refine (HW.out _).mono ?_
    rintro e w1 ⟨rfl, rfl⟩
    go_wp2_with fail
    refine (HLn.out _).mono ?_
    rintro e w1 ⟨rfl, rfl⟩
    go_wp2_with fail
    refine (HWd.out _).mono ?_
    rintro e W1 ⟨rfl, hb1⟩
    have T1 := Num.hide (Two.first hb1)
    clear HW HLn HWd hb1 HB0
    have hrb := readL_bulk (s.extract (k + 2) s.size)
    have hlen := Flds.readL_length (s.extract (k + 2) s.size)
    have hws := words_size (s.extract 0 k)
    rw [ByteArray.size_extract] at hws
    unfold readReq at hr
    rw [if_neg (by rw [hw]; decide), hk] at hr
    simp only at hr
    have hN : Flds.readN (s.extract (k + 2) s.size) = 0 ∨ ∃ l n, Flds.read (s.extract (k + 2) s.size) = some (l, n) := by
      cases hq : Flds.read (s.extract (k + 2) s.size) with
      | none => left; exact (Flds.told_none hq).2.1
      | some q => right; exact ⟨q.1, q.2, rfl⟩
    have HD1 := Num.hide (fun v W h => Flds.drop_spec v (Flds.readL (s.extract (k + 2) s.size)) Body.teName W h (by omega))
    have hd1 := Flds.drop_length (Flds.readL (s.extract (k + 2) s.size)) Body.teName
    have HD2 := Num.hide (fun v W h => Flds.drop_spec v (Flds.drop (Flds.readL (s.extract (k + 2) s.size)) Body.teName) Body.clName W h (by omega))
    have hbb := bare_bulk (Flds.readL (s.extract (k + 2) s.size))
    change Hid (∀ v W, Flds.Is W v (Flds.drop (Flds.readL (s.extract (k + 2) s.size)) Body.teName) → Calls Tryz.prog 75 #[v, .string Body.clName] W fun e w' => ∃ v', e = .returned v' ∧ Flds.Own W.heap.size w' v' (bare (Flds.readL (s.extract (k + 2) s.size))) ∧ Below W.heap.size W w') at HD2
    have HOk := Num.hide (fun v W h => reqOk_spec (words (s.extract 0 k)).1 (words (s.extract 0 k)).2.1 v (bare (Flds.readL (s.extract (k + 2) s.size))) ⟨#[]⟩ W h (by omega) (by omega) (by omega) (by decide))
    have HR := Num.hide hr
    have HK := Num.hide hk
    unfold Req.val at HOk
    clear hr hk hw
    generalize hL2 : bare (Flds.readL (s.extract (k + 2) s.size)) = L2 at HD2 HOk hbb
    generalize hL1 : Flds.drop (Flds.readL (s.extract (k + 2) s.size)) Body.teName = L1 at HD1 HD2 hd1
    generalize hL0 : Flds.readL (s.extract (k + 2) s.size) = L0 at HRd HD1 hrb hlen hL2 hd1 hbb
    have HL0 := Num.hide hL0
    have HL2 := Num.hide hL2
    clear hL0 hL1 hL2
    unfold Body.teName at HD1
    unfold Body.clName at HD2
    generalize hwd : words (s.extract 0 k) = wd at HR HOk hws ⊢
    obtain ⟨m, u, v8⟩ := wd
    simp only at HR HOk hws ⊢
    go_wp2_with fail
    refine (HRd.out _).mono ?_
    rintro e W2 ⟨vF, rfl, hoF, hb2⟩
    have T2 := Num.hide (T1.out.step hb2)
    have OF2 := Num.hide hoF
    obtain ⟨aF, cF, hvF⟩ := Recs.own_len hoF
    subst hvF
    clear hoF hb2 T1 HRd
    go_wp2_with fail
    refine (HD1.out _ _ (Recs.own_is Flds.cells_len OF2.out)).mono ?_
    rintro e W3 ⟨v3, rfl, ho3, hb3⟩
    have T3 := Num.hide (T2.out.step hb3)
    have OF3 := Num.hide (Recs.own_below OF2.out hb3)
    have O3 := Num.hide ho3
    clear ho3 hb3 T2 OF2 HD1
    go_wp2_with fail
    refine (HD2.out _ _ (Recs.own_is Flds.cells_len O3.out)).mono ?_
    rintro e W4 ⟨v4, rfl, ho4, hb4⟩
    have T4 := Num.hide (T3.out.step hb4)
    have OF4 := Num.hide (Recs.own_below OF3.out hb4)
    have O4 := Num.hide ho4
    have s34 := hb4.size
    have hT3 := T3.out.lt
    obtain ⟨a4, c4, hv4⟩ := Recs.own_len ho4
    subst hv4
    clear ho4 hb4 T3 OF3 HD2 O3
    have T5 := Num.hide (T4.out.step ((Below.refl W4.heap.size W4).alloc (Nat.le_refl _) (.cells #[.string m, .string u, .slice a4 L2.length c4, .string ⟨#[]⟩] 39)))
    have O5 := Num.hide (World.ownsRow.alloc O4.out (.cells #[.string m, .string u, .slice a4 L2.length c4, .string ⟨#[]⟩] 39))
    have OF5 := Num.hide (World.ownsRow.alloc OF4.out (.cells #[.string m, .string u, .slice a4 L2.length c4, .string ⟨#[]⟩] 39))
    have R5 := Num.hide (heap_alloc_new W4 (.cells #[.string m, .string u, .slice a4 L2.length c4, .string ⟨#[]⟩] 39))
    have hB4 : ∀ j, (Value.slice a4 L2.length c4).ownBlock = some j → w.heap.size < j ∧ j < W4.heap.size := fun j hj => ⟨by have := (Recs.own_lt O4.out j hj).1; omega, (Recs.own_lt O4.out j hj).2⟩
    clear O4 OF4 T4
    go_upto_region 10 with fail
    generalize hg4 : W4.heap.size = g4 at R5 ⊢
    generalize W4.alloc (.cells #[.string m, .string u, .slice a4 L2.length c4, .string ⟨#[]⟩] 39) = W5 at T5 O5 OF5 R5 ⊢
    by_cases hver : v8 = ver
    · have dv : (v8.toList == [72, 84, 84, 80, 47, 49, 46, 49]) = true := by
        rw [hver, ByteArray.toList_eq]; rfl
      have dv2 : (v8.toList != [72, 84, 84, 80, 47, 49, 46, 49]) = false := by
        rw [hver, ByteArray.toList_eq]; rfl
      cases hq : Flds.read (s.extract (k + 2) s.size) with
      | none =>
        obtain ⟨_, g2, g3⟩ := Flds.told_none hq
        have hr : noRq 2 = r := by rw [← HR.out, hq]
        subst hr
        rw [g2, g3]
        clear HR hver hq
        obtain ⟨⟨n0, n1, n2, n3⟩, ⟨a0, a1, a2, a3⟩, f0, f1, f2, f3⟩ := T5.out.cells
        have HE := Num.hide (T5.out.told (.string ⟨#[]⟩) (.string ⟨#[]⟩) (.slice none 0 0) (.string ⟨#[]⟩))
        go_wp2
        exact bodyPost_ret (v := .tuple #[.agg #[.string ⟨#[]⟩, .string ⟨#[]⟩, .slice none 0 0, .string ⟨#[]⟩], .int .i64 0, .int .i64 2]) (by simp [results, Tryz.results28, go_sem, *]) rfl ⟨_, rfl, Recs.own_nil _ _, HE.out⟩
      | some q =>
        obtain ⟨l, n⟩ := q
        obtain ⟨hq1, hq2, hq3⟩ := Flds.told_some hq
        have e0 : L0 = l := by rw [← HL0.out]; exact hq1
        have e2 : bare l = L2 := by rw [← HL2.out, e0]
        have hr := HR.out
        rw [hq] at hr
        simp only at hr
        rw [e2] at hr
        have hn := readGo_in _ _ _ _ _ (show Flds.readGo (s.extract (k + 2) s.size) 13 0 [] = some (l, n) from hq)
        rw [ByteArray.size_extract] at hn
        simp only at hn
        subst e0
        rw [hq2, hq3]
        clear HR hq hq1 HL0 HL2 e2
        cases hok : reqOk m u L2 ⟨#[]⟩ with
        | false =>
          rw [hok] at HOk
          rw [if_neg (fun h => by rw [hok] at h; exact absurd h.2 (by decide))] at hr
          subst hr
          clear hver hok
          have q0 := Recs.box_cell R5.out 0
          have q1 := Recs.box_cell R5.out 1
          have q2 := Recs.box_cell R5.out 2
          have q3 := Recs.box_cell R5.out 3
          simp only [List.getElem?_toArray, List.getElem?_cons_succ, List.getElem?_cons_zero] at q0 q1 q2 q3
          go_wp2_with fail
          refine (HOk.out _ _ (Recs.own_is Flds.cells_len O5.out)).mono ?_
          rintro e W6 ⟨rfl, hb5⟩
          have T6 := Num.hide (T5.out.step hb5)
          clear hb5 T5 HOk
          obtain ⟨⟨n0, n1, n2, n3⟩, ⟨a0, a1, a2, a3⟩, f0, f1, f2, f3⟩ := T6.out.cells
          have HE := Num.hide (T6.out.told (.string ⟨#[]⟩) (.string ⟨#[]⟩) (.slice none 0 0) (.string ⟨#[]⟩))
          go_wp2
          exact bodyPost_ret (v := .tuple #[.agg #[.string ⟨#[]⟩, .string ⟨#[]⟩, .slice none 0 0, .string ⟨#[]⟩], .int .i64 0, .int .i64 2]) (by simp [results, Tryz.results28, go_sem, *]) rfl ⟨_, rfl, Recs.own_nil _ _, HE.out⟩
        | true =>
          rw [hok] at HOk
          rw [if_pos ⟨hver, hok⟩] at hr
          have HR2 := Num.hide hr
          clear hr hver hok
          have q0 := Recs.box_cell R5.out 0
          have q1 := Recs.box_cell R5.out 1
          have q2 := Recs.box_cell R5.out 2
          have q3 := Recs.box_cell R5.out 3
          simp only [List.getElem?_toArray, List.getElem?_cons_succ, List.getElem?_cons_zero] at q0 q1 q2 q3
          go_wp2_with fail
          refine (HOk.out _ _ (Recs.own_is Flds.cells_len O5.out)).mono ?_
          rintro e W6 ⟨rfl, hb5⟩
          have T6 := Num.hide (T5.out.step hb5)
          have O6 := Num.hide (Recs.own_below O5.out hb5)
          have OF6 := Num.hide (Recs.own_below OF5.out hb5)
          have R6 : Hid (W6.heap[g4]? = some (.cells #[.string m, .string u, .slice a4 L2.length c4, .string ⟨#[]⟩] 39)) := (hb5.block _ ((Array.getElem?_eq_some_iff.1 R5.out).1)).trans R5.out
          clear hb5 T5 HOk O5 OF5 R5
          have HBo := Num.hide (fun v W h => Body.body_spec v L0 (s.extract (k + 2 + n) s.size) false W h (by omega) (by rw [ByteArray.size_extract]; omega))
          have hbd := Body.body_bd L0 (s.extract (k + 2 + n) s.size) false
          rw [ByteArray.size_extract] at hbd
          generalize Body.bodyOf L0 (s.extract (k + 2 + n) s.size) false = bo at HBo HR2 hbd
          obtain ⟨bt, bn, bc⟩ := bo
          simp only at HBo HR2 hbd
          have kn : ((k : Int) + 2 + (n : Int)) ≤ (s.size : Int) := by omega
          have kt : ((k : Int) + 2 + (n : Int)).toNat = k + 2 + n := by omega
          go_wp2_with fail
          refine (HBo.out _ _ (Recs.own_is Flds.cells_len OF6.out)).mono ?_
          rintro e W7 ⟨rfl, hb7⟩
          have T7 := Num.hide (T6.out.step hb7)
          have O7 := Num.hide (Recs.own_below O6.out hb7)
          have R7 : Hid (W7.heap[g4]? = some (.cells #[.string m, .string u, .slice a4 L2.length c4, .string ⟨#[]⟩] 39)) := (hb7.block _ ((Array.getElem?_eq_some_iff.1 R6.out).1)).trans R6.out
          clear hb7 T6 HBo O6 OF6 R6
          by_cases hbc : bc = 0
          · have d0 : (bc != 0) = false := by rw [hbc]; rfl
            have hr : ((m, u, L2, bt), ((k + 2 + n : Nat) : Int) + bn, 0) = r := by rw [← HR2.out, if_pos hbc]
            subst hr
            clear HR2 hbc
            have q3 := Recs.box_cell R7.out 3
            simp only [List.getElem?_toArray, List.getElem?_cons_succ, List.getElem?_cons_zero] at q3
            have z3 := Recs.box_thaw R7.out 3
            have hne : ∀ j, (Value.slice a4 L2.length c4).ownBlock = some j → j ≠ g4 ∧ j ≠ w.heap.size := fun j hj => by
              have := hB4 j hj
              omega
            have hgn : w.heap.size ≠ g4 := by have := hT3; omega
            go_upto_region 16 with fail
            have R8 := Num.hide (Recs.box_set R7.out 3 (.string bt))
            have S8 := Num.hide (Recs.box_far (i := 3) T7.out.res (.string bt) hgn)
            have O8 := Num.hide (Recs.own_set O7.out g4 3 (.string bt) (fun j hj => (hne j hj).1))
            have B8 := Num.hide (T7.out.below.setCell (p := ⟨g4, 3, none⟩) (by show w.heap.size ≤ g4; omega) (.string bt))
            simp only [List.setIfInBounds_toArray, List.set_cons_succ, List.set_cons_zero] at R8
            clear q3 z3 T7 O7 R7
            generalize W7.setCell ⟨g4, 3, none⟩ (.string bt) = W8 at R8 S8 O8 B8 ⊢
            have q0 := Recs.box_cell R8.out 0
            have q1 := Recs.box_cell R8.out 1
            have q2 := Recs.box_cell R8.out 2
            have q3 := Recs.box_cell R8.out 3
            simp only [List.getElem?_toArray, List.getElem?_cons_succ, List.getElem?_cons_zero] at q0 q1 q2 q3
            have a0 := Recs.box_cell S8.out 0
            have a1 := Recs.box_cell S8.out 1
            have a2 := Recs.box_cell S8.out 2
            have a3 := Recs.box_cell S8.out 3
            simp only [Z, List.getElem?_toArray, List.getElem?_cons_succ, List.getElem?_cons_zero] at a0 a1 a2 a3
            have f0 := Recs.box_thaw S8.out 0
            have f1 := Recs.box_thaw S8.out 1
            have f2 := Recs.box_thaw S8.out 2
            have f3 := Recs.box_thaw S8.out 3
            have OF := Num.hide (Recs.own_set (Recs.own_set (Recs.own_set (Recs.own_set O8.out w.heap.size 0 (.string m) (fun j hj => (hne j hj).2)) w.heap.size 1 (.string u) (fun j hj => (hne j hj).2)) w.heap.size 2 (.slice a4 L2.length c4) (fun j hj => (hne j hj).2)) w.heap.size 3 (.string bt) (fun j hj => (hne j hj).2))
            have BF := Num.hide ((((B8.out.setCell (p := ⟨w.heap.size, 0, none⟩) (Nat.le_refl _) (.string m)).setCell (p := ⟨w.heap.size, 1, none⟩) (Nat.le_refl _) (.string u)).setCell (p := ⟨w.heap.size, 2, none⟩) (Nat.le_refl _) (.slice a4 L2.length c4)).setCell (p := ⟨w.heap.size, 3, none⟩) (Nat.le_refl _) (.string bt))
            go_wp2
            exact bodyPost_ret (v := .tuple #[.agg #[.string m, .string u, .slice a4 L2.length c4, .string bt], .int .i64 ((k : Int) + 2 + (n : Int) + bn), .int .i64 0]) (by simp [results, Tryz.results28, go_sem, *]) rfl ⟨_, rfl, Recs.own_mono OF.out (by omega), BF.out⟩
          · have d0 : (bc != 0) = true := by rw [bne_iff_ne]; exact hbc
            have hr : noRq (codeOf bc) = r := by rw [← HR2.out, if_neg hbc]
            subst hr
            have HCo := Num.hide (fun W => code_spec bc W)
            clear HR2 hbc
            obtain ⟨⟨n0, n1, n2, n3⟩, ⟨a0, a1, a2, a3⟩, f0, f1, f2, f3⟩ := T7.out.cells
            have HE := Num.hide (T7.out.told (.string ⟨#[]⟩) (.string ⟨#[]⟩) (.slice none 0 0) (.string ⟨#[]⟩))
            go_wp2
            go_region_with (go_at_call 77; refine (HCo.out _).mono ?_; rintro e w' ⟨rfl, rfl⟩)
            all_goals go_wp2
            all_goals exact bodyPost_ret (v := .tuple #[.agg #[.string ⟨#[]⟩, .string ⟨#[]⟩, .slice none 0 0, .string ⟨#[]⟩], .int .i64 0, .int .i64 (codeOf bc)]) (by simp [results, Tryz.results28, go_sem, *]) rfl ⟨_, rfl, Recs.own_nil _ _, HE.out.drew⟩
    · have dv : (v8.toList == [72, 84, 84, 80, 47, 49, 46, 49]) = false := by
        rw [beq_eq_false_iff_ne, ByteArray.toList_eq]
        intro e; exact hver (ByteArray.ext (Array.toList_inj.1 (by rw [e]; rfl)))
      have dv2 : (v8.toList != [72, 84, 84, 80, 47, 49, 46, 49]) = true := by rw [bne, dv]; rfl
      have hr : noRq 2 = r := by
        rw [← HR.out]
        cases Flds.read (s.extract (k + 2) s.size) with
        | none => rfl
        | some q => simp only; rw [if_neg (fun h => hver h.1)]
      subst hr
      clear HR hver
      obtain ⟨⟨n0, n1, n2, n3⟩, ⟨a0, a1, a2, a3⟩, f0, f1, f2, f3⟩ := T5.out.cells
      have HE := Num.hide (T5.out.told (.string ⟨#[]⟩) (.string ⟨#[]⟩) (.slice none 0 0) (.string ⟨#[]⟩))
      go_wp2
      exact bodyPost_ret (v := .tuple #[.agg #[.string ⟨#[]⟩, .string ⟨#[]⟩, .slice none 0 0, .string ⟨#[]⟩], .int .i64 0, .int .i64 2]) (by simp [results, Tryz.results28, go_sem, *]) rfl ⟨_, rfl, Recs.own_nil _ _, HE.out⟩
end Msg
end Go.Proofs.YtkenmilglfnmbaaGreatDoor
