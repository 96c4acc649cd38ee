/-
  SplitImpl: SplitList of the program: the parts of a text, in a row of the call's own; what was there stays.
  PartsImpl: varyParts of the program: the parts of all that stands under vary, in a row of the call's own.
  ChsTT: putChosen of the program from texts: what a choice that may hold memory of its own makes of those of a list of texts that it takes, behind each other in a row of the call's own: texts.
  CcMap: A map of numbers by texts, as far as it is asked: what it holds of each text.
  UpperImpl: isUpper of the program: a byte is a great letter, or not; the world stays.
-/
import Derived.Test.YtkogcbnbmdeolaaDoorPai
import Derived.Test.YtkogcbnbmdeolaaDoorPah
import Derived.Test.YtkogcbnbmdeolaaDoorPab
import Derived.Test.YtkogcbnbmdeolaaDoorRows
import Derived.WalkKit
import Derived.Maps.OwnSet
import Derived.Maps.OwnOps
import Derived.Maps.Views
import Derived.Test.YtkogcbnbmdeolaaDoorPaa
namespace Go.Proofs.YtkogcbnbmdeolaaDoor
open Go.RowKit
set_option linter.unusedVariables false
namespace Sign

/-- the program's memory within the text -/
structure Lay (w : World) (s : ByteArray) (pos : Nat) (l : List ByteArray) (v : Value) (wr : World) : Prop where
  own : Strs.OwnS (w.heap.size + 1) wr v l
  iter : wr.heap[w.heap.size]? = some (.stringIter s pos)
  below : Below w.heap.size w wr
theorem Lay.lt {w : World} {s : ByteArray} {pos : Nat} {l : List ByteArray} {v : Value} {wr : World} (m : Lay w s pos l v wr) : w.heap.size < wr.heap.size := (Array.getElem?_eq_some_iff.1 m.iter).1
theorem Lay.move {w : World} {s : ByteArray} {pos : Nat} {l : List ByteArray} {v : Value} {wr : World} (m : Lay w s pos l v wr) (pos' : Nat) : Lay w s pos' l v (wr.iterAt w.heap.size s pos') where
  own := ownsRow_iterAt m.own (by omega) s pos'
  iter := Lib.iterAt_heap wr _ s pos pos' m.iter
  below := Lib.below_iterAt m.below (Nat.le_refl _) s pos'
theorem Lay.put {w : World} {s : ByteArray} {pos : Nat} {l : List ByteArray} {v : Value} {wr : World} (m : Lay w s pos l v wr) {l' : List ByteArray} {v' : Value} {w2 : World}
    (ho : Strs.OwnS (w.heap.size + 1) w2 v' l') (hg : wr.grownBy w2 v.ownBlock) : Lay w s pos l' v' w2 where
  own := ho
  iter := by
    have hlt := m.lt
    rw [hg.block w.heap.size hlt (by intro h; have := (Strs.own_lt m.own _ h.symm).1; omega)]; exact m.iter
  below := Strs.below_grown m.below hg (fun j hj => by have := (Strs.own_lt m.own j hj).1; omega) (Nat.le_of_lt m.lt)
/-- the program within the text -/
structure Mid (w : World) (s : ByteArray) (pos : Nat) (E : Int) (a : Nat) (q : Bool) (l : List ByteArray) (v : Value) (wr : World) : Prop where
  at_ : At s pos E a q l
  lay : Lay w s pos l v wr
theorem Mid.move {w : World} {s : ByteArray} {pos : Nat} {E : Int} {a : Nat} {q : Bool} {l : List ByteArray} {v : Value} {wr : World} (m : Mid w s pos E a q l v wr) (pos' : Nat) {E' : Int} {a' : Nat} {q' : Bool} (h : At s pos' E' a' q' l) : Mid w s pos' E' a' q' l v (wr.iterAt w.heap.size s pos') := ⟨h, m.lay.move pos'⟩
theorem start_mid (s : ByteArray) (w : World) : Mid w s 0 (-1) 0 false [] (.slice none 0 0) (w.alloc (.stringIter s 0)) where
  at_ := at_start s
  lay := ⟨Strs.own_nil _ _, by show (w.heap.push _)[w.heap.size]? = _; rw [Array.getElem?_push_size], (Below.refl _ _).alloc (Nat.le_refl _) _⟩
theorem wide_of (s : ByteArray) (pos : Nat) (hp : pos < s.size) : 1 ≤ (Utf8.decode s pos).2 ∧ pos + (Utf8.decode s pos).2 ≤ s.size ∧ (∀ j (hj : j < s.size), pos < j → j < pos + (Utf8.decode s pos).2 → 128 ≤ (s[j]).toNat) := by
  by_cases ha : (s[pos]).toNat < 128
  · rw [decode_ascii s pos hp ha]
    exact ⟨Nat.le_refl _, hp, fun j hj h1 h2 => by simp only at h2; omega⟩
  · have h := decode_wide s pos hp (by omega)
    exact ⟨(decode_high s pos hp (by omega)).2, h.1, fun j hj h1 h2 => h.2 j hj (by omega) h2⟩

set_option maxRecDepth 100000 in
set_option maxHeartbeats 2000000 in
theorem split_impl (s : ByteArray) (w : World) (hs : s.size ≤ 1048576) :
    Calls Tryd.prog 15 #[.string s] w fun e w' => ∃ v', e = .returned v' ∧ Strs.OwnS (w.heap.size + 1) w' v' (split s) ∧ Below w.heap.size w w' := by
  have hM0 := Num.hide (start_mid s w)
  go_enter Tryd.func15, Tryd.ntmps15
  go_wp2
  go_loopw [3, 4, 5, 6] (fun v f e q wr => ∃ (pos : Nat) (E : Int) (a : Nat) (qb : Bool) (l : List ByteArray), f = .int .i64 (a : Int) ∧ e = .int .i64 E ∧ q = .bool qb ∧ Hid (Mid w s pos E a qb l v wr)) (fun _ _ _ _ wr => s.size - wr.iterPos w.heap.size)
  case atStart => exact ⟨0, -1, 0, false, [], rfl, rfl, rfl, hM0⟩
  case round =>
    clear hM0
    obtain ⟨pos, E, a, qb, l, rfl, rfl, rfl, HM⟩ := hrel
    have hle := HM.out.at_.le
    have hfrom := HM.out.at_.from_le
    have hesc := HM.out.at_.esc_le
    have hlen := HM.out.at_.len
    have hlt := HM.out.lay.lt
    by_cases hp : pos < s.size
    · obtain ⟨hw1, hw2, hw3⟩ := wide_of s pos hp
      have HW := Num.hide hw3
      clear hw3
      have hpos2 : ∀ (W : World), Hid (W.heap[w.heap.size]? = some (.stringIter s (pos + (Utf8.decode s pos).2))) → s.size - W.iterPos w.heap.size < s.size - wr.iterPos w.heap.size := by
        intro W hW
        rw [iterPos_of hW.out, iterPos_of HM.out.lay.iter]; omega
      have HP := Num.hide hpos2
      clear hpos2
      have hnx : ∀ ty, (Instr.next (.pointer (some ⟨w.heap.size, 0, none⟩)) true ty).run Tryd.prog wr = _ := fun ty => Lib.run_next_any_at wr w.heap.size s pos ty HM.out.lay.iter hp
      by_cases he : E = (pos : Int)
      · have HM2 := Num.hide (HM.out.move _ (at_wide HM.out.at_ hp _ hw1 hw2 HW.out (.inl he)))
        subst he
        generalize (wr.iterAt w.heap.size s (pos + (Utf8.decode s pos).2)) = W2 at hnx HM2
        have HI := Num.hide HM2.out.lay.iter
        generalize (Utf8.decode s pos).2 = wd at *
        generalize ((Utf8.decode s pos).1 : Int) = r at *
        go_wp2
        go_roundw
        case rel => exact ⟨pos + wd, _, a, qb, l, rfl, rfl, rfl, HM2⟩
        case measure => exact HP.out _ HI
      · have de : ((pos : Int) == E) = false := by rw [beq_eq_false_iff_ne]; exact fun h => he h.symm
        by_cases ha : (s[pos]).toNat < 128
        · have hdec := decode_ascii s pos hp ha
          rw [hdec] at hnx hw1 hw2 HW HP
          clear hdec HW
          by_cases h34 : (s[pos]).toNat = 34
          · have HM2 := Num.hide (HM.out.move _ (at_quote HM.out.at_ hp he h34))
            rw [h34] at hnx
            generalize (wr.iterAt w.heap.size s (pos + 1)) = W2 at hnx HM2
            have HI := Num.hide HM2.out.lay.iter
            clear ha h34 he
            go_wp2
            go_roundw
            case rel => exact ⟨pos + 1, _, a, !qb, l, rfl, rfl, rfl, HM2⟩
            case measure => exact HP.out _ HI
          · have d34 : (((s[pos]).toNat : Int) == 34) = false := by rw [beq_eq_false_iff_ne]; omega
            by_cases h92 : (s[pos]).toNat = 92
            · rw [h92] at hnx
              cases qb with
              | true =>
                have HM2 := Num.hide (HM.out.move _ (at_esc HM.out.at_ hp he h92))
                generalize (wr.iterAt w.heap.size s (pos + 1)) = W2 at hnx HM2
                have HI := Num.hide HM2.out.lay.iter
                clear ha h34 h92 he d34
                go_wp2
                go_roundw
                case rel => exact ⟨pos + 1, _, a, true, l, rfl, rfl, rfl, HM2⟩
                case measure => exact HP.out _ HI
              | false =>
                have HM2 := Num.hide (HM.out.move _ (at_else HM.out.at_ hp he h34 (by rintro ⟨h, _⟩; cases h) (by omega)))
                generalize (wr.iterAt w.heap.size s (pos + 1)) = W2 at hnx HM2
                have HI := Num.hide HM2.out.lay.iter
                clear ha h34 h92 he d34
                go_wp2
                go_roundw
                case rel => exact ⟨pos + 1, _, a, false, l, rfl, rfl, rfl, HM2⟩
                case measure => exact HP.out _ HI
            · have d92 : (((s[pos]).toNat : Int) == 92) = false := by rw [beq_eq_false_iff_ne]; omega
              by_cases h44 : (s[pos]).toNat = 44
              · rw [h44] at hnx
                cases qb with
                | false =>
                  have HA := Num.hide (at_comma HM.out.at_ hp he h44)
                  have HL := Num.hide (HM.out.lay.move (pos + 1))
                  generalize (wr.iterAt w.heap.size s (pos + 1)) = W2 at hnx HL
                  have hlt2 := HL.out.lt
                  have hext : (s.extract a pos).size ≤ 1048576 := by rw [ByteArray.size_extract]; omega
                  clear ha h34 h92 he h44 d34 d92
                  go_wp2_with fail
                  refine (addPart_any (w.heap.size + 1) _ l (s.extract a pos) _ HL.out.own (by omega) (by omega) (by omega)).mono ?_
                  rintro e w2 ⟨v2, rfl, ho2, hg2⟩
                  go_wp2
                  have HL2 := Num.hide (HL.out.put ho2 hg2)
                  have HI := Num.hide HL2.out.iter
                  go_roundw
                  case rel => exact ⟨pos + 1, _, pos + 1, false, _, by go_num, rfl, rfl, ⟨HA.out, HL2.out⟩⟩
                  case measure => exact HP.out _ HI
                | true =>
                  have HM2 := Num.hide (HM.out.move _ (at_else HM.out.at_ hp he h34 (by omega) (by rintro ⟨_, h⟩; cases h)))
                  generalize (wr.iterAt w.heap.size s (pos + 1)) = W2 at hnx HM2
                  have HI := Num.hide HM2.out.lay.iter
                  clear ha h34 h92 he d34 d92
                  go_wp2
                  go_roundw
                  case rel => exact ⟨pos + 1, _, a, true, l, rfl, rfl, rfl, HM2⟩
                  case measure => exact HP.out _ HI
              · have d44 : (((s[pos]).toNat : Int) == 44) = false := by rw [beq_eq_false_iff_ne]; omega
                have HM2 := Num.hide (HM.out.move _ (at_else HM.out.at_ hp he h34 (by omega) (by omega)))
                generalize (wr.iterAt w.heap.size s (pos + 1)) = W2 at hnx HM2
                have HI := Num.hide HM2.out.lay.iter
                clear ha h34 h92 he
                go_wp2
                go_roundw
                case rel => exact ⟨pos + 1, _, a, qb, l, rfl, rfl, rfl, HM2⟩
                case measure => exact HP.out _ HI
        · have hr := (decode_high s pos hp (by omega)).1
          have HM2 := Num.hide (HM.out.move _ (at_wide HM.out.at_ hp _ hw1 hw2 HW.out (.inr (by omega))))
          generalize (wr.iterAt w.heap.size s (pos + (Utf8.decode s pos).2)) = W2 at hnx HM2
          have HI := Num.hide HM2.out.lay.iter
          have d34 : (((Utf8.decode s pos).1 : Int) == 34) = false := by rw [beq_eq_false_iff_ne]; omega
          have d92 : (((Utf8.decode s pos).1 : Int) == 92) = false := by rw [beq_eq_false_iff_ne]; omega
          have d44 : (((Utf8.decode s pos).1 : Int) == 44) = false := by rw [beq_eq_false_iff_ne]; omega
          clear ha he hr
          generalize (Utf8.decode s pos).2 = wd at *
          generalize ((Utf8.decode s pos).1 : Int) = r at *
          go_wp2
          go_roundw
          case rel => exact ⟨pos + wd, _, a, qb, l, rfl, rfl, rfl, HM2⟩
          case measure => exact HP.out _ HI
    · obtain rfl : pos = s.size := by omega
      have hnx : ∀ ty, (Instr.next (.pointer (some ⟨w.heap.size, 0, none⟩)) true ty).run Tryd.prog wr = _ := fun ty => Lib.run_next_end_at wr w.heap.size s s.size ty HM.out.lay.iter hp
      have hext : (s.extract a s.size).size ≤ 1048576 := by rw [ByteArray.size_extract]; omega
      go_wp2_with fail
      refine (addPart_any (w.heap.size + 1) _ l (s.extract a s.size) _ HM.out.lay.own (by omega) (by omega) (by omega)).mono ?_
      rintro e w2 ⟨v2, rfl, ho2, hg2⟩
      go_wp2
      have HE := Num.hide (at_end HM.out.at_)
      go_ret
      refine ⟨_, rfl, ?_, ?_⟩
      · rw [← HE.out]; exact ho2
      · exact Strs.below_grown HM.out.lay.below hg2 (fun j hj => by have := (Strs.own_lt HM.out.lay.own j hj).1; omega) (Nat.le_of_lt hlt)
end Sign
end Go.Proofs.YtkogcbnbmdeolaaDoor
namespace Go.Proofs.YtkogcbnbmdeolaaDoor
open Go.RowKit
set_option linter.unusedVariables false
set_option linter.unusedSimpArgs false
namespace Flds

theorem strs_mono {B B' : Nat} {w : World} {v : Value} {l : List ByteArray} (h : Strs.OwnS B w v l) (hB : B' ≤ B) : Strs.OwnS B' w v l := by
  refine ⟨h.1, ?_⟩
  rcases h.2 with h1 | ⟨g, cap, cur, h1, h2, rest⟩
  · exact .inl h1
  · exact .inr ⟨g, cap, cur, h1, by omega, rest⟩
set_option maxRecDepth 100000 in
set_option maxHeartbeats 1000000 in
theorem parts_impl (v : Value) (l : List Fld) (w : World) (h : Is w v l) (hl : bulk l ≤ 1048576) :
    Calls Tryd.prog 63 #[v] w fun e w' => ∃ v', e = .returned v' ∧ Strs.OwnS w.heap.size w' v' (Sign.split (get l ⟨#[118, 97, 114, 121]⟩).1) ∧ Below w.heap.size w w' := by
  have HG := Num.hide (get_impl v l ⟨#[118, 97, 114, 121]⟩ w h (by omega))
  have hsz := Nat.le_trans (Cc.get_bulk l ⟨#[118, 97, 114, 121]⟩ (by decide)) hl
  generalize get l ⟨#[118, 97, 114, 121]⟩ = gv at HG hsz ⊢
  obtain ⟨s, sb⟩ := gv
  simp only at HG hsz ⊢
  have HSp := Num.hide (fun W => Sign.split_impl s W (by omega))
  generalize Sign.split s = L at HSp ⊢
  clear h
  go_enter Tryd.func63, Tryd.ntmps63
  go_wp2_with fail
  refine HG.out.mono ?_
  rintro e w1 ⟨rfl, hb⟩
  have HB := Num.hide hb
  clear hb
  go_wp2_with fail
  refine (HSp.out _).mono ?_
  rintro e w2 ⟨v2, rfl, ho, hb⟩
  have HO := Num.hide (strs_mono ho (Nat.le_trans HB.out.size (Nat.le_succ _)))
  have HB2 := Num.hide (HB.out.trans (hb.mono HB.out.size))
  clear ho hb HB
  go_wp2
  go_ret
  exact ⟨_, rfl, HO.out, HB2.out⟩
end Flds
end Go.Proofs.YtkogcbnbmdeolaaDoor
namespace Go.Proofs.YtkogcbnbmdeolaaDoor
open Go.RowKit
set_option linter.unusedVariables false
namespace Flds

/-- where the texts of a list lie -/
theorem is_at {W : World} {a : Option Addr} {n c : Nat} {L : List ByteArray} (h : Strs.Is W (.slice a n c) L) (i : Nat) (hi : i < L.length) : ∃ b o, a = some ⟨b, o, none⟩ ∧ n = L.length ∧ L.length ≤ c ∧ c ≤ maxLen ∧ W.cell? ⟨b, o + i, none⟩ = some (.string L[i]) := by
  rcases h with ⟨h1, _⟩ | ⟨b, o, c', e, h2, h3, h4⟩
  · subst h1; simp at hi
  · injection e with e1 e2 e3
    subst e3
    exact ⟨b, o, e1, e2, h2, h3, h4 i hi⟩
theorem is_slice {W : World} {v : Value} {L : List ByteArray} (h : Strs.Is W v L) : ∃ a c, v = .slice a L.length c := by
  rcases h with ⟨rfl, a, c, rfl⟩ | ⟨b, o, c, rfl, _⟩
  · exact ⟨a, c, rfl⟩
  · exact ⟨_, c, rfl⟩
/-- what a choice does at each text: what it makes of it, and whether it takes it -/
def ChoiceT (g : Nat) (cap : Array Value) (B n : Nat) (w : World) (l : List ByteArray) (A : Nat → List ByteArray) (Q : Nat → World → Prop) : Prop :=
  ∀ k (hk : k < l.length) (W : World), Below B w W → n ≤ W.heap.size → Q k W →
    Calls Tryd.prog g (#[.string l[k]] ++ cap) W fun e W' => ∃ (m : ByteArray) (t : Bool), e = .returned (.tuple #[.string m, .bool t]) ∧ A (k + 1) = A k ++ (if t = true then [m] else []) ∧ Q (k + 1) W' ∧ Far B n W W'
set_option maxRecDepth 100000 in
set_option maxHeartbeats 1000000 in
theorem chosenTT_any (g : Nat) (cap : Array Value) (B : Nat) (w : World) (v : Value) (l : List ByteArray) (A : Nat → List ByteArray) (Q : Nat → World → Prop)
    (hI : ∀ k W, Q k W → Strs.Is W v l) (hBn : B ≤ w.heap.size) (hA0 : A 0 = []) (hA : ∀ k, k ≤ l.length → (A k).length ≤ 1073741824) (hl : l.length ≤ 1073741824)
    (hQ0 : Q 0 w) (hQ : ∀ k W W', Q k W → Below w.heap.size W W' → Q k W') (HC : ChoiceT g cap B w.heap.size w l A Q) (hent : ∀ args W, (callFunc g args).run Tryd.prog W = .ok (.enter g args) W) :
    Calls Tryd.prog 62 #[v, .func (.func g) #[] cap] w fun e w' => ∃ v', e = .returned v' ∧ Strs.OwnS w.heap.size w' v' (A l.length) ∧ Below B w w' ∧ Q l.length w' := by
  obtain ⟨a, c, rfl⟩ := is_slice (hI 0 w hQ0)
  have HI := Num.hide hI
  have HCh := Num.hide HC
  have HQ := Num.hide hQ
  have HAl := Num.hide hA
  have HQ0 := Num.hide hQ0
  have HA0 : Hid (Strs.OwnS w.heap.size w (.slice none 0 0) (A 0)) := by rw [hA0]; exact Strs.own_nil _ _
  clear HC hQ hA hQ0 hI hA0
  obtain ⟨i0, hi0, hz0, hz1, hz2⟩ := info_parts Strs.infoS
  go_enter Tryd.func62, Tryd.ntmps62
  go_wp2
  go_loopw [5, 12] (fun ov iv wr => ∃ i : Nat, i ≤ l.length ∧ iv = .int .i64 (i : Int) ∧ Hid (Strs.OwnS w.heap.size wr ov (A i)) ∧ Hid (Below B w wr) ∧ Hid (Q i wr) ∧ w.heap.size ≤ wr.heap.size) (fun _ iv _ => l.length - (intOf iv).toNat)
  case atStart => exact ⟨0, by omega, rfl, HA0, Below.refl _ _, HQ0, Nat.le_refl _⟩
  case round =>
    clear HA0 HQ0
    obtain ⟨i, hi, rfl, HO, HB, HQi, hsz⟩ := hrel
    by_cases hlt : i < l.length
    · obtain ⟨bk, o, rfl, -, hc, hmx, c1⟩ := is_at (HI.out i wr HQi.out) i hlt
      have HCi := Num.hide (HCh.out i hlt)
      have hdl := HAl.out i (by omega)
      generalize l[i] = f at c1 HCi
      go_wp2_with fail
      refine (HCi.out _ HB.out hsz HQi.out).mono ?_
      rintro e w1 ⟨m, t, rfl, hAk, hQk, hF⟩
      have HO2 := Num.hide (strs_far HO.out hF)
      have HB2 := Num.hide (HB.out.trans hF.below)
      have HQ2 := Num.hide hQk
      have HAk := Num.hide hAk
      have hsz2 := Nat.le_trans hsz hF.below.size
      clear hF hQk hAk HO HB HQi c1
      cases t with
      | false =>
        have HO4 : Hid (Strs.OwnS w.heap.size w1 u5 (A (i + 1))) := by
          rw [HAk.out, if_neg (by simp), List.append_nil]; exact HO2
        clear HO2
        go_wp2
        go_roundw
        case rel => exact ⟨i + 1, by omega, by go_num, HO4, HB2, HQ2, hsz2⟩
        case measure => simp [intOf]; omega
      | true =>
        have HAk2 : Hid (A (i + 1) = A i ++ [m]) := by show _ = _; rw [HAk.out, if_pos rfl]
        clear HAk
        go_wp2_with (at_builtin; refine wpList_append_own _ rfl _ _ 26 rfl w.heap.size 9 i0 (.string ⟨#[]⟩) 1 16 Tryd.underlying26 hi0 hz0 hz1 hz2 rfl (by decide) _ _ _ rfl (World.ownsRow.alloc HO2.out _) ⟨w1.heap.size, 0, none⟩ 1 1 [.string m] rfl rfl (Strs.cells_one w1 m) (Strs.one_ok m) (by unfold maxLen; omega) (by omega) ?c5 ?_)
        case c5 => simp; omega
        intro v' w2 ho2 hg2 _
        have hp2 := Strs.below_grown ((Below.refl w.heap.size w1).alloc hsz2 (.cells #[.string m] 9)) hg2 (fun j hj => (Strs.own_lt HO2.out j hj).1) (by simp; omega)
        have HP1 : Hid (Strs.OwnS w.heap.size w2 v' (A (i + 1))) := by rw [HAk2.out]; exact Strs.own_snoc ho2
        have HP2 := Num.hide (HB2.out.trans (hp2.mono (by omega)))
        have HP3 := Num.hide (HQ.out (i + 1) _ _ HQ2.out hp2)
        have hsz4 := Nat.le_trans hsz2 hp2.size
        clear ho2 hg2 hp2
        go_wp2
        go_roundw
        case rel => exact ⟨i + 1, by omega, by go_num, HP1, HP2, HP3, hsz4⟩
        case measure => simp [intOf]; omega
    · obtain rfl : i = l.length := by omega
      go_wp2
      go_ret
      exact ⟨_, rfl, HO.out, HB.out, HQi.out⟩
end Flds
end Go.Proofs.YtkogcbnbmdeolaaDoor
namespace Go.Proofs.YtkogcbnbmdeolaaDoor
open Go.RowKit Go.WideMaps Go.Maps
set_option linter.unusedVariables false
namespace Cc

theorem law : Keyed Tryd.prog 9 := string_keyed Tryd.underlying9
theorem zeroI (w : World) : (zeroValue 3).run Tryd.prog w = .ok (.int .i64 0) w := by kernel_rfl
/-- what a text reads as -/
abbrev key (s : ByteArray) : Lit := .string s.data.toList
theorem key_of (s : ByteArray) (hs : s.size ≤ maxLen) : keyOf Tryd.prog 9 (.string s) = some (key s) := keyOf_string_mk Tryd.underlying9 hs
/-- the map at block b reads as D, of at most n entries -/
abbrev MapIs (w : World) (b n : Nat) (D : DataW Unit) : Prop := w.ownsMap Tryd.prog 9 (plainElem Tryd.prog 3) b n D
/-- D holds of each text what m tells -/
def Tells (D : DataW Unit) (m : ByteArray → Option Int) : Prop :=
  ∀ s, Go.Maps.has D (key s) = (m s).isSome ∧ ∀ c, m s = some c → D.atKey (key s) (.lit (.int .i64 0)) = .lit (.int .i64 c)
theorem tells_start : Tells (.map []) (fun _ => none) := fun s => ⟨rfl, fun c h => by cases h⟩
theorem key_inj {s t : ByteArray} (h : key s = key t) : s = t := by
  injection h with h
  exact ByteArray.ext (Array.toList_inj.1 h)
theorem tells_put {D : DataW Unit} {m : ByteArray → Option Int} (h : Tells D m) (hD : IsMap D) (s : ByteArray) (c : Int) {m' : ByteArray → Option Int} (h1 : m' s = some c) (h2 : ∀ t, ¬ t = s → m' t = m t) : Tells (D.put (key s) (.lit (.int .i64 c))) m' := by
  intro t
  have hk : WideAt.IsKeyLit (key s) := by trivial
  by_cases e : t = s
  · subst e
    rw [h1, has_put_same hD hk]
    refine ⟨rfl, fun c' hc => ?_⟩
    cases hc
    exact atKey_put_same hD hk _ _
  · have ne : key t ≠ key s := fun h => e (key_inj h)
    rw [h2 t e, has_put_other ne]
    refine ⟨(h t).1, fun c' hc => ?_⟩
    rw [atKey_put_other ne]
    exact (h t).2 c' hc
/-- what is looked up -/
theorem tells_at {D : DataW Unit} {m : ByteArray → Option Int} (h : Tells D m) (s : ByteArray) {c : Int} (hc : D.atKey (key s) (.lit (.int .i64 0)) = .lit (.int .i64 c)) : (m s = none ∧ Go.Maps.has D (key s) = false ∧ c = 0) ∨ (m s = some c ∧ Go.Maps.has D (key s) = true) := by
  obtain ⟨h1, h2⟩ := h s
  cases e : m s with
  | none =>
    left
    rw [e] at h1
    refine ⟨rfl, h1, ?_⟩
    rw [atKey_of_not_has h1] at hc
    injection hc with hc; injection hc with _ hc; exact hc.symm
  | some c' =>
    right
    rw [e] at h1
    have := h2 c' e
    rw [hc] at this
    injection this with this; injection this with _ this
    exact ⟨by rw [this], h1⟩
end Cc
end Go.Proofs.YtkogcbnbmdeolaaDoor
namespace Go.Proofs.YtkogcbnbmdeolaaDoor
open Go.RowKit
set_option linter.unusedVariables false
namespace Sign

set_option maxRecDepth 100000 in
set_option maxHeartbeats 1000000 in
theorem isUpper_any (c : Int) (w : World) : Calls Tryd.prog 49 #[.int .u8 c] w fun e w' => e = .returned (.bool (decide (up c))) ∧ w = w' := by
  by_cases h1 : 65 ≤ c
  · have d1 : decide (65 ≤ c) = true := decide_eq_true h1
    by_cases h2 : c ≤ 90
    · have d2 : decide (c ≤ 90) = true := decide_eq_true h2
      rw [show decide (up c) = true from decide_eq_true ⟨h1, h2⟩]
      go_enter Tryd.func49, Tryd.ntmps49
      go_wp2
      all_goals go_ret
      all_goals exact ⟨rfl, rfl⟩
    · have d2 : decide (c ≤ 90) = false := decide_eq_false h2
      rw [show decide (up c) = false from decide_eq_false (fun h => h2 h.2)]
      go_enter Tryd.func49, Tryd.ntmps49
      go_wp2
      all_goals go_ret
      all_goals exact ⟨rfl, rfl⟩
  · have d1 : decide (65 ≤ c) = false := decide_eq_false h1
    rw [show decide (up c) = false from decide_eq_false (fun h => h1 h.1)]
    go_enter Tryd.func49, Tryd.ntmps49
    go_wp2
    all_goals go_ret
    all_goals exact ⟨rfl, rfl⟩
end Sign
end Go.Proofs.YtkogcbnbmdeolaaDoor
