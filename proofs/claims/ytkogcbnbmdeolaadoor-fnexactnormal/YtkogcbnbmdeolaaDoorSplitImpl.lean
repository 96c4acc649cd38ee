/-
  SplitList of the program: the parts of a text, in a row of the call's own; what was there stays.
-/
import Derived.Test.YtkogcbnbmdeolaaDoorSplitAt
namespace Go.Proofs.YtkogcbnbmdeolaaDoor
open Go.RowKit
set_option linter.unusedVariables false
namespace Sign

/-- the program's memory within the text -/
structure Lay (w : World) (s : ByteArray) (pos : Nat) (l : List ByteArray) (v : Value) (wr : World) : Prop where
  own : Strs.OwnS (w.heap.size + 1) wr v l
  iter : wr.heap[w.heap.size]? = some (.stringIter s pos)
  below : Below w.heap.size w wr
theorem Lay.lt {w : World} {s : ByteArray} {pos : Nat} {l : List ByteArray} {v : Value} {wr : World} (m : Lay w s pos l v wr) : w.heap.size < wr.heap.size := (Array.getElem?_eq_some_iff.1 m.iter).1
theorem Lay.move {w : World} {s : ByteArray} {pos : Nat} {l : List ByteArray} {v : Value} {wr : World} (m : Lay w s pos l v wr) (pos' : Nat) : Lay w s pos' l v (wr.iterAt w.heap.size s pos') where
  own := ownsRow_iterAt m.own (by omega) s pos'
  iter := Lib.iterAt_heap wr _ s pos pos' m.iter
  below := Lib.below_iterAt m.below (Nat.le_refl _) s pos'
theorem Lay.put {w : World} {s : ByteArray} {pos : Nat} {l : List ByteArray} {v : Value} {wr : World} (m : Lay w s pos l v wr) {l' : List ByteArray} {v' : Value} {w2 : World}
    (ho : Strs.OwnS (w.heap.size + 1) w2 v' l') (hg : wr.grownBy w2 v.ownBlock) : Lay w s pos l' v' w2 where
  own := ho
  iter := by
    have hlt := m.lt
    rw [hg.block w.heap.size hlt (by intro h; have := (Strs.own_lt m.own _ h.symm).1; omega)]; exact m.iter
  below := Strs.below_grown m.below hg (fun j hj => by have := (Strs.own_lt m.own j hj).1; omega) (Nat.le_of_lt m.lt)
/-- the program within the text -/
structure Mid (w : World) (s : ByteArray) (pos : Nat) (E : Int) (a : Nat) (q : Bool) (l : List ByteArray) (v : Value) (wr : World) : Prop where
  at_ : At s pos E a q l
  lay : Lay w s pos l v wr
theorem Mid.move {w : World} {s : ByteArray} {pos : Nat} {E : Int} {a : Nat} {q : Bool} {l : List ByteArray} {v : Value} {wr : World} (m : Mid w s pos E a q l v wr) (pos' : Nat) {E' : Int} {a' : Nat} {q' : Bool} (h : At s pos' E' a' q' l) : Mid w s pos' E' a' q' l v (wr.iterAt w.heap.size s pos') := ⟨h, m.lay.move pos'⟩
theorem start_mid (s : ByteArray) (w : World) : Mid w s 0 (-1) 0 false [] (.slice none 0 0) (w.alloc (.stringIter s 0)) where
  at_ := at_start s
  lay := ⟨Strs.own_nil _ _, by show (w.heap.push _)[w.heap.size]? = _; rw [Array.getElem?_push_size], (Below.refl _ _).alloc (Nat.le_refl _) _⟩
theorem wide_of (s : ByteArray) (pos : Nat) (hp : pos < s.size) : 1 ≤ (Utf8.decode s pos).2 ∧ pos + (Utf8.decode s pos).2 ≤ s.size ∧ (∀ j (hj : j < s.size), pos < j → j < pos + (Utf8.decode s pos).2 → 128 ≤ (s[j]).toNat) := by
  by_cases ha : (s[pos]).toNat < 128
  · rw [decode_ascii s pos hp ha]
    exact ⟨Nat.le_refl _, hp, fun j hj h1 h2 => by simp only at h2; omega⟩
  · have h := decode_wide s pos hp (by omega)
    exact ⟨(decode_high s pos hp (by omega)).2, h.1, fun j hj h1 h2 => h.2 j hj (by omega) h2⟩

set_option maxRecDepth 100000 in
set_option maxHeartbeats 2000000 in
theorem split_impl (s : ByteArray) (w : World) (hs : s.size ≤ 1048576) :
    Calls Tryd.prog 15 #[.string s] w fun e w' => ∃ v', e = .returned v' ∧ Strs.OwnS (w.heap.size + 1) w' v' (split s) ∧ Below w.heap.size w w' := by
  have hM0 := Num.hide (start_mid s w)
  go_enter Tryd.func15, Tryd.ntmps15
  go_wp2
  go_loopw [3, 4, 5, 6] (fun v f e q wr => ∃ (pos : Nat) (E : Int) (a : Nat) (qb : Bool) (l : List ByteArray), f = .int .i64 (a : Int) ∧ e = .int .i64 E ∧ q = .bool qb ∧ Hid (Mid w s pos E a qb l v wr)) (fun _ _ _ _ wr => s.size - wr.iterPos w.heap.size)
  case atStart => exact ⟨0, -1, 0, false, [], rfl, rfl, rfl, hM0⟩
  case round =>
    clear hM0
    obtain ⟨pos, E, a, qb, l, rfl, rfl, rfl, HM⟩ := hrel
    have hle := HM.out.at_.le
    have hfrom := HM.out.at_.from_le
    have hesc := HM.out.at_.esc_le
    have hlen := HM.out.at_.len
    have hlt := HM.out.lay.lt
    by_cases hp : pos < s.size
    · obtain ⟨hw1, hw2, hw3⟩ := wide_of s pos hp
      have HW := Num.hide hw3
      clear hw3
      have hpos2 : ∀ (W : World), Hid (W.heap[w.heap.size]? = some (.stringIter s (pos + (Utf8.decode s pos).2))) → s.size - W.iterPos w.heap.size < s.size - wr.iterPos w.heap.size := by
        intro W hW
        rw [iterPos_of hW.out, iterPos_of HM.out.lay.iter]; omega
      have HP := Num.hide hpos2
      clear hpos2
      have hnx : ∀ ty, (Instr.next (.pointer (some ⟨w.heap.size, 0, none⟩)) true ty).run Tryd.prog wr = _ := fun ty => Lib.run_next_any_at wr w.heap.size s pos ty HM.out.lay.iter hp
      by_cases he : E = (pos : Int)
      · have HM2 := Num.hide (HM.out.move _ (at_wide HM.out.at_ hp _ hw1 hw2 HW.out (.inl he)))
        subst he
        generalize (wr.iterAt w.heap.size s (pos + (Utf8.decode s pos).2)) = W2 at hnx HM2
        have HI := Num.hide HM2.out.lay.iter
        generalize (Utf8.decode s pos).2 = wd at *
        generalize ((Utf8.decode s pos).1 : Int) = r at *
        go_wp2
        go_roundw
        case rel => exact ⟨pos + wd, _, a, qb, l, rfl, rfl, rfl, HM2⟩
        case measure => exact HP.out _ HI
      · have de : ((pos : Int) == E) = false := by rw [beq_eq_false_iff_ne]; exact fun h => he h.symm
        by_cases ha : (s[pos]).toNat < 128
        · have hdec := decode_ascii s pos hp ha
          rw [hdec] at hnx hw1 hw2 HW HP
          clear hdec HW
          by_cases h34 : (s[pos]).toNat = 34
          · have HM2 := Num.hide (HM.out.move _ (at_quote HM.out.at_ hp he h34))
            rw [h34] at hnx
            generalize (wr.iterAt w.heap.size s (pos + 1)) = W2 at hnx HM2
            have HI := Num.hide HM2.out.lay.iter
            clear ha h34 he
            go_wp2
            go_roundw
            case rel => exact ⟨pos + 1, _, a, !qb, l, rfl, rfl, rfl, HM2⟩
            case measure => exact HP.out _ HI
          · have d34 : (((s[pos]).toNat : Int) == 34) = false := by rw [beq_eq_false_iff_ne]; omega
            by_cases h92 : (s[pos]).toNat = 92
            · rw [h92] at hnx
              cases qb with
              | true =>
                have HM2 := Num.hide (HM.out.move _ (at_esc HM.out.at_ hp he h92))
                generalize (wr.iterAt w.heap.size s (pos + 1)) = W2 at hnx HM2
                have HI := Num.hide HM2.out.lay.iter
                clear ha h34 h92 he d34
                go_wp2
                go_roundw
                case rel => exact ⟨pos + 1, _, a, true, l, rfl, rfl, rfl, HM2⟩
                case measure => exact HP.out _ HI
              | false =>
                have HM2 := Num.hide (HM.out.move _ (at_else HM.out.at_ hp he h34 (by rintro ⟨h, _⟩; cases h) (by omega)))
                generalize (wr.iterAt w.heap.size s (pos + 1)) = W2 at hnx HM2
                have HI := Num.hide HM2.out.lay.iter
                clear ha h34 h92 he d34
                go_wp2
                go_roundw
                case rel => exact ⟨pos + 1, _, a, false, l, rfl, rfl, rfl, HM2⟩
                case measure => exact HP.out _ HI
            · have d92 : (((s[pos]).toNat : Int) == 92) = false := by rw [beq_eq_false_iff_ne]; omega
              by_cases h44 : (s[pos]).toNat = 44
              · rw [h44] at hnx
                cases qb with
                | false =>
                  have HA := Num.hide (at_comma HM.out.at_ hp he h44)
                  have HL := Num.hide (HM.out.lay.move (pos + 1))
                  generalize (wr.iterAt w.heap.size s (pos + 1)) = W2 at hnx HL
                  have hlt2 := HL.out.lt
                  have hext : (s.extract a pos).size ≤ 1048576 := by rw [ByteArray.size_extract]; omega
                  clear ha h34 h92 he h44 d34 d92
                  go_wp2_with fail
                  refine (addPart_any (w.heap.size + 1) _ l (s.extract a pos) _ HL.out.own (by omega) (by omega) (by omega)).mono ?_
                  rintro e w2 ⟨v2, rfl, ho2, hg2⟩
                  go_wp2
                  have HL2 := Num.hide (HL.out.put ho2 hg2)
                  have HI := Num.hide HL2.out.iter
                  go_roundw
                  case rel => exact ⟨pos + 1, _, pos + 1, false, _, by go_num, rfl, rfl, ⟨HA.out, HL2.out⟩⟩
                  case measure => exact HP.out _ HI
                | true =>
                  have HM2 := Num.hide (HM.out.move _ (at_else HM.out.at_ hp he h34 (by omega) (by rintro ⟨_, h⟩; cases h)))
                  generalize (wr.iterAt w.heap.size s (pos + 1)) = W2 at hnx HM2
                  have HI := Num.hide HM2.out.lay.iter
                  clear ha h34 h92 he d34 d92
                  go_wp2
                  go_roundw
                  case rel => exact ⟨pos + 1, _, a, true, l, rfl, rfl, rfl, HM2⟩
                  case measure => exact HP.out _ HI
              · have d44 : (((s[pos]).toNat : Int) == 44) = false := by rw [beq_eq_false_iff_ne]; omega
                have HM2 := Num.hide (HM.out.move _ (at_else HM.out.at_ hp he h34 (by omega) (by omega)))
                generalize (wr.iterAt w.heap.size s (pos + 1)) = W2 at hnx HM2
                have HI := Num.hide HM2.out.lay.iter
                clear ha h34 h92 he
                go_wp2
                go_roundw
                case rel => exact ⟨pos + 1, _, a, qb, l, rfl, rfl, rfl, HM2⟩
                case measure => exact HP.out _ HI
        · have hr := (decode_high s pos hp (by omega)).1
          have HM2 := Num.hide (HM.out.move _ (at_wide HM.out.at_ hp _ hw1 hw2 HW.out (.inr (by omega))))
          generalize (wr.iterAt w.heap.size s (pos + (Utf8.decode s pos).2)) = W2 at hnx HM2
          have HI := Num.hide HM2.out.lay.iter
          have d34 : (((Utf8.decode s pos).1 : Int) == 34) = false := by rw [beq_eq_false_iff_ne]; omega
          have d92 : (((Utf8.decode s pos).1 : Int) == 92) = false := by rw [beq_eq_false_iff_ne]; omega
          have d44 : (((Utf8.decode s pos).1 : Int) == 44) = false := by rw [beq_eq_false_iff_ne]; omega
          clear ha he hr
          generalize (Utf8.decode s pos).2 = wd at *
          generalize ((Utf8.decode s pos).1 : Int) = r at *
          go_wp2
          go_roundw
          case rel => exact ⟨pos + wd, _, a, qb, l, rfl, rfl, rfl, HM2⟩
          case measure => exact HP.out _ HI
    · obtain rfl : pos = s.size := by omega
      have hnx : ∀ ty, (Instr.next (.pointer (some ⟨w.heap.size, 0, none⟩)) true ty).run Tryd.prog wr = _ := fun ty => Lib.run_next_end_at wr w.heap.size s s.size ty HM.out.lay.iter hp
      have hext : (s.extract a s.size).size ≤ 1048576 := by rw [ByteArray.size_extract]; omega
      go_wp2_with fail
      refine (addPart_any (w.heap.size + 1) _ l (s.extract a s.size) _ HM.out.lay.own (by omega) (by omega) (by omega)).mono ?_
      rintro e w2 ⟨v2, rfl, ho2, hg2⟩
      go_wp2
      have HE := Num.hide (at_end HM.out.at_)
      go_ret
      refine ⟨_, rfl, ?_, ?_⟩
      · rw [← HE.out]; exact ho2
      · exact Strs.below_grown HM.out.lay.below hg2 (fun j hj => by have := (Strs.own_lt HM.out.lay.own j hj).1; omega) (Nat.le_of_lt hlt)
end Sign
end Go.Proofs.YtkogcbnbmdeolaaDoor
