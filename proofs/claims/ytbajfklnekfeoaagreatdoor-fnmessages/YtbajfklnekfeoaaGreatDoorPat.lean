/-
  ReqReadNum: l6Code of the specification; facts for ReadRequest: how large what is read is, the boxes of the answer.
  TakeImpl: takeFields and takeBody of the program's reader.
  ReadHexSpec: ReadHexNum of the specification: the number of one to six digits.
  UnchunkSpec: Unchunk of the specification: a body in pieces, read.
  SecondsSpec: Seconds of the specification: what the call returns, for every text; the world stays.
  BodySpec: BodyOf of the specification: where a body ends.
-/
import Derived.Test.YtbajfklnekfeoaaGreatDoorPai
import Derived.Test.YtbajfklnekfeoaaGreatDoorPah
import Derived.Test.YtbajfklnekfeoaaGreatDoorPal
import Derived.Test.YtbajfklnekfeoaaGreatDoorPas
import Derived.Test.YtbajfklnekfeoaaGreatDoorPaj
import Derived.Test.YtbajfklnekfeoaaGreatDoorRegLaw
import Derived.Lib.IndexMore
import Derived.Test.YtbajfklnekfeoaaGreatDoorPap
import Derived.Test.YtbajfklnekfeoaaGreatDoorPaq
import Derived.Deep.Cut
import Derived.Test.YtbajfklnekfeoaaGreatDoorPag
import Derived.Test.YtbajfklnekfeoaaGreatDoorPaa
import Derived.Test.YtbajfklnekfeoaaGreatDoorSignNum
import Derived.Laws.Strings
import Derived.Test.YtbajfklnekfeoaaGreatDoorSecondsNum
import Derived.Test.YtbajfklnekfeoaaGreatDoorRows
import Derived.Test.YtbajfklnekfeoaaGreatDoorLowerSpec
namespace Go.Proofs.YtbajfklnekfeoaaGreatDoor
open Go.RowKit
set_option linter.unusedVariables false
set_option linter.unusedSimpArgs false
namespace Msg
open Line (eol lineOf)

set_option maxRecDepth 100000 in
set_option maxHeartbeats 1000000 in
theorem code_spec (c : Int) (w : World) : Calls Tryz.prog 77 #[.int .i64 c] w fun e w' => e = .returned (.int .i64 (codeOf c)) ∧ w = w' := by
  obtain ⟨r, hr⟩ : ∃ r, codeOf c = r := ⟨_, rfl⟩
  rw [hr]
  unfold codeOf at hr
  by_cases h0 : c = 0
  · rw [if_pos h0] at hr
    have d0 : (c == 0) = true := by rw [beq_iff_eq]; exact h0
    subst hr
    clear h0
    go_enter Tryz.func77, Tryz.ntmps77
    go_wp2
    go_ret
    exact ⟨rfl, rfl⟩
  · have d0 : (c == 0) = false := by rw [beq_eq_false_iff_ne]; exact h0
    rw [if_neg h0] at hr
    by_cases h1 : c = 1
    · rw [if_pos h1] at hr
      have d1 : (c == 1) = true := by rw [beq_iff_eq]; exact h1
      subst hr
      clear h0 h1
      go_enter Tryz.func77, Tryz.ntmps77
      go_wp2
      go_ret
      exact ⟨rfl, rfl⟩
    · rw [if_neg h1] at hr
      have d1 : (c == 1) = false := by rw [beq_eq_false_iff_ne]; exact h1
      subst hr
      clear h0 h1
      go_enter Tryz.func77, Tryz.ntmps77
      go_wp2
      go_ret
      exact ⟨rfl, rfl⟩
/-- where there is a gap there is a line -/
theorem whole_line {s : ByteArray} (h : whole s = true) : ∃ k, eol s 0 = some k := by
  cases he : eol s 0 with
  | some k => exact ⟨k, rfl⟩
  | none =>
    exfalso
    obtain ⟨p, q, hpq⟩ := whole_at h
    have hi := Line.index_eolGo s _ 0 rfl
    have he2 : Line.eolGo s (s.size - 0) 0 = none := he
    rw [he2, List.drop_zero] at hi
    have hi2 : Lib.index s.data.toList [13, 10] = -1 := hi
    rcases Lib.index_spec s.data.toList [13, 10] with ⟨_, h2⟩ | ⟨i, h2, _⟩
    · have := h2 p.length (by rw [hpq, List.length_append]; omega)
      unfold Lib.occAt at this
      rw [hpq, List.drop_left] at this
      simp at this
    · rw [h2] at hi2; omega
theorem all_bulk : ∀ (l : List Flds.Fld), l.all Flds.okF = true → Flds.bulk l ≤ 85 * l.length := by
  intro l
  induction l with
  | nil => intro _; simp [Flds.bulk]
  | cons f l ih =>
    intro h
    rw [List.all_cons, Bool.and_eq_true] at h
    have h1 := ih h.2
    have h2 := h.1
    unfold Flds.okF at h2
    simp only [Bool.and_eq_true, decide_eq_true_iff] at h2
    have h3 := h2.1.1.2
    have h4 := h2.2
    unfold Flds.bulk at h1 ⊢
    simp only [List.length_cons, List.map_cons, List.sum_cons]
    omega
theorem readGo_all (s : ByteArray) : ∀ (f a : Nat) (l : List Flds.Fld) (p : List Flds.Fld × Nat), l.all Flds.okF = true → Flds.readGo s f a l = some p → p.1.all Flds.okF = true := by
  intro f
  induction f with
  | zero => intro a l p _ h; cases h
  | succ f ih =>
    intro a l p ha h
    unfold Flds.readGo at h
    split at h
    · cases h
    · split at h
      · cases h; exact ha
      · split at h
        · cases h
        · split at h
          · next hk => exact ih _ _ p (by rw [List.all_append, ha]; simpa using hk) h
          · cases h
theorem readL_bulk (s : ByteArray) : Flds.bulk (Flds.readL s) ≤ 2000 := by
  have hlen := Flds.readL_length s
  unfold Flds.readL at hlen ⊢
  cases hr : Flds.read s with
  | none => simp [Flds.bulk]
  | some q =>
    obtain ⟨l, n⟩ := q
    rw [hr] at hlen
    simp only at hlen ⊢
    have := all_bulk l (readGo_all s 13 0 [] (l, n) rfl hr)
    omega
theorem words_size (s : ByteArray) : (words s).1.size ≤ s.size ∧ (words s).2.1.size ≤ s.size := by
  unfold words
  split
  · exact ⟨Nat.zero_le _, Nat.zero_le _⟩
  · split
    · exact ⟨Nat.zero_le _, Nat.zero_le _⟩
    · simp only [ByteArray.size_extract]; omega
def Z : Array Value := #[.string ⟨#[]⟩, .string ⟨#[]⟩, .slice none 0 0, .string ⟨#[]⟩]
/-- the box of the answer and that of no request, of the call's own; what was there stays -/
structure Two (w W : World) : Prop where
  res : W.heap[w.heap.size]? = some (.cells Z 39)
  non : W.heap[w.heap.size + 1]? = some (.cells Z 39)
  below : Below w.heap.size w W
theorem Two.lt {w W : World} (h : Two w W) : w.heap.size + 1 < W.heap.size := (Array.getElem?_eq_some_iff.1 h.non).1
theorem Two.step {w W W' : World} (h : Two w W) (hb : Below W.heap.size W W') : Two w W' := by
  have hl := h.lt
  exact ⟨(hb.block _ (by omega)).trans h.res, (hb.block _ hl).trans h.non, h.below.trans (hb.mono h.below.size)⟩
theorem Two.first {w W : World} (hb : Below ((w.alloc (.cells Z 39)).alloc (.cells Z 39)).heap.size ((w.alloc (.cells Z 39)).alloc (.cells Z 39)) W) : Two w W := by
  have e1 : (w.alloc (.cells Z 39)).heap.size = w.heap.size + 1 := by rw [World.size_alloc]
  have e2 : ((w.alloc (.cells Z 39)).alloc (.cells Z 39)).heap.size = w.heap.size + 1 + 1 := by rw [World.size_alloc, World.size_alloc]
  have hb0 := ((Below.refl w.heap.size w).alloc (Nat.le_refl _) (.cells Z 39)).alloc (by simp) (.cells Z 39)
  refine ⟨?_, ?_, hb0.trans (hb.mono hb0.size)⟩
  · rw [hb.block _ (by omega), heap_alloc_old _ _ (by omega), heap_alloc_new]
  · rw [hb.block _ (by omega), ← e1, heap_alloc_new]
theorem Two.cells {w W : World} (h : Two w W) : (W.cell? ⟨w.heap.size + 1, 0, none⟩ = some (.string ⟨#[]⟩) ∧ W.cell? ⟨w.heap.size + 1, 1, none⟩ = some (.string ⟨#[]⟩) ∧ W.cell? ⟨w.heap.size + 1, 2, none⟩ = some (.slice none 0 0) ∧ W.cell? ⟨w.heap.size + 1, 3, none⟩ = some (.string ⟨#[]⟩)) ∧
    (W.cell? ⟨w.heap.size, 0, none⟩ = some (.string ⟨#[]⟩) ∧ W.cell? ⟨w.heap.size, 1, none⟩ = some (.string ⟨#[]⟩) ∧ W.cell? ⟨w.heap.size, 2, none⟩ = some (.slice none 0 0) ∧ W.cell? ⟨w.heap.size, 3, none⟩ = some (.string ⟨#[]⟩)) ∧
    W.frozen? ⟨w.heap.size, 0, none⟩ = false ∧ W.frozen? ⟨w.heap.size, 1, none⟩ = false ∧ W.frozen? ⟨w.heap.size, 2, none⟩ = false ∧ W.frozen? ⟨w.heap.size, 3, none⟩ = false :=
  ⟨⟨Recs.box_cell h.non 0, Recs.box_cell h.non 1, Recs.box_cell h.non 2, Recs.box_cell h.non 3⟩, ⟨Recs.box_cell h.res 0, Recs.box_cell h.res 1, Recs.box_cell h.res 2, Recs.box_cell h.res 3⟩, Recs.box_thaw h.res 0, Recs.box_thaw h.res 1, Recs.box_thaw h.res 2, Recs.box_thaw h.res 3⟩
/-- what stores into the answer's box leave -/
theorem Two.told {w W : World} (h : Two w W) (a b c d : Value) : Below w.heap.size w ((((W.setCell ⟨w.heap.size, 0, none⟩ a).setCell ⟨w.heap.size, 1, none⟩ b).setCell ⟨w.heap.size, 2, none⟩ c).setCell ⟨w.heap.size, 3, none⟩ d) :=
  (((h.below.setCell (p := ⟨w.heap.size, 0, none⟩) (Nat.le_refl _) a).setCell (p := ⟨w.heap.size, 1, none⟩) (Nat.le_refl _) b).setCell (p := ⟨w.heap.size, 2, none⟩) (Nat.le_refl _) c).setCell (p := ⟨w.heap.size, 3, none⟩) (Nat.le_refl _) d
end Msg
end Go.Proofs.YtbajfklnekfeoaaGreatDoor
namespace Go.Proofs.YtbajfklnekfeoaaGreatDoor
open Go.RowKit
set_option linter.unusedVariables false
set_option linter.unusedSimpArgs false
namespace Msg

/-- what the reader's methods want of a world: the program's and the library's variables -/
structure Ground (m b : Addr) (W : World) : Prop where
  lim : Body.Lim W
  syn : Body.Syn W
  errs : Body.Errs m b W
  signs : Sign.Signs W
theorem Ground.below {m b : Addr} {W W' : World} (h : Ground m b W) (hb : Below W.heap.size W W') : Ground m b W' :=
  ⟨h.lim.below hb, h.syn.below hb, h.errs.below hb, Flds.signs_below h.signs hb (Flds.signs_lt h.signs)⟩
set_option maxRecDepth 100000 in
set_option maxHeartbeats 2000000 in
theorem fields_yes (g : Nat) (s : ByteArray) (n : Nat) (v : Value) (l : List Flds.Fld) (k : Nat) (m b : Addr) (W : World) (h : Rd g s n v W) (hs : s.size ≤ 1048576) (hn : n ≤ s.size) (hr : Flds.read (s.extract n s.size) = some (l, k)) (hk : k ≤ 1048576) (hG : Ground m b W) :
    Calls Tryz.prog 105 #[.pointer (some ⟨g, 0, none⟩)] W fun e w' => e = .returned (.tuple #[]) ∧ ∃ v', Rd g s (n + k) v' w' ∧ Flds.Own W.heap.size w' v' l ∧ W.grownBy w' (some g) := by
  have hx : (s.extract n s.size).size ≤ 1048576 := by rw [ByteArray.size_extract]; omega
  have HRs := Num.hide (fun W h => rest_impl g s n v W h hn hs)
  have HF := Num.hide (fun W hS hm => Flds.read_impl (s.extract n s.size) W hx hS hm)
  obtain ⟨h1, h2, h3⟩ := Flds.told_some hr
  rw [h1, h2, h3] at HF
  have HP := Num.hide (fun v W h => pass_impl g s n k v W h (by omega) hk)
  have HR := Num.hide h
  have HG := Num.hide hG
  clear h hG hr h1 h2 h3
  generalize s.extract n s.size = T at HRs HF hx
  go_enter Tryz.func105, Tryz.ntmps105
  go_wp2_with fail
  refine (HRs.out _ HR.out).mono ?_
  rintro e w1 ⟨rfl, hb1⟩
  have B1 := Num.hide hb1
  have R1 := Num.hide (HR.out.step hb1)
  clear hb1
  go_wp2_with fail
  refine (HF.out _ (HG.out.below B1.out).signs (HG.out.below B1.out).lim).mono ?_
  rintro e w2 ⟨v2, rfl, ho2, hb2⟩
  have O2 := Num.hide (Recs.own_mono ho2 B1.out.size)
  have B2 := Num.hide (B1.out.trans (hb2.mono B1.out.size))
  have R2 := Num.hide (R1.out.step hb2)
  clear ho2 hb2
  go_wp2_with fail
  refine (demand_yes _).mono ?_
  rintro e w3 ⟨rfl, rfl⟩
  have hgl := HR.out.lt
  have O3 := Num.hide (Recs.own_set O2.out g 2 v2 (fun k hk => by have := (Recs.own_lt O2.out k hk).1; omega))
  have R3 := Num.hide (R2.out.hold v2)
  have G3 := Num.hide (Recs.grown_trans (Recs.grown_of_below B2.out (some g)) (grown_set w2 g 2 v2))
  have c2 := (R2.out.cells).2.2
  have z2 := Recs.box_thaw R2.out 2
  obtain ⟨a2, q2, rfl⟩ := Recs.own_len O2.out
  clear O2
  go_wp2_with fail
  refine (HP.out _ _ R3.out).mono ?_
  rintro e w4 ⟨rfl, hr4, hg4⟩
  have R4 := Num.hide hr4
  have G4 := Num.hide (Recs.grown_trans G3.out hg4)
  have O4 := Num.hide (Recs.own_kept O3.out hg4 (by
    cases hv : (Value.slice a2 l.length q2).ownBlock with
    | none => exact .inl rfl
    | some j => exact .inr (fun e => by have := (Recs.own_lt O3.out j hv).1; have e2 := Option.some.inj e; omega)))
  clear hr4 hg4
  go_wp2
  go_end0
  exact ⟨rfl, _, R4.out, O4.out, G4.out⟩
set_option maxRecDepth 100000 in
set_option maxHeartbeats 2000000 in
theorem fields_no (g : Nat) (s : ByteArray) (n : Nat) (v : Value) (m b : Addr) (W : World) (h : Rd g s n v W) (hs : s.size ≤ 1048576) (hn : n ≤ s.size) (hr : Flds.read (s.extract n s.size) = none) (hG : Ground m b W) :
    Calls Tryz.prog 105 #[.pointer (some ⟨g, 0, none⟩)] W fun e w' => e = thrown m b 2 ∧ Below W.heap.size W w' := by
  have hx : (s.extract n s.size).size ≤ 1048576 := by rw [ByteArray.size_extract]; omega
  have HRs := Num.hide (fun W h => rest_impl g s n v W h hn hs)
  have HF := Num.hide (fun W hS hm => Flds.read_impl (s.extract n s.size) W hx hS hm)
  rw [(show Flds.readB (s.extract n s.size) = false by unfold Flds.readB; rw [hr]; rfl)] at HF
  have HR := Num.hide h
  have HG := Num.hide hG
  clear h hG hr
  generalize Flds.readN (s.extract n s.size) = N at HF
  generalize Flds.readL (s.extract n s.size) = L at HF
  generalize s.extract n s.size = T at HRs HF hx
  go_enter Tryz.func105, Tryz.ntmps105
  go_wp2_with fail
  refine (HRs.out _ HR.out).mono ?_
  rintro e w1 ⟨rfl, hb1⟩
  have B1 := Num.hide hb1
  clear hb1
  go_wp2_with fail
  refine (HF.out _ (HG.out.below B1.out).signs (HG.out.below B1.out).lim).mono ?_
  rintro e w2 ⟨v2, rfl, ho2, hb2⟩
  have B2 := Num.hide (B1.out.trans (hb2.mono B1.out.size))
  clear ho2 hb2
  go_wp2_with fail
  refine (demand_no m b _ (HG.out.below B2.out).errs).mono ?_
  rintro e w3 ⟨rfl, rfl⟩
  unfold thrown
  exact ⟨rfl, rfl, B2.out⟩
/-- what a body is: its text, its bytes and its code -/
def bodyEnd (g : Nat) (s : ByteArray) (n : Nat) (v : Value) (m b : Addr) (W : World) (T : Body.Told) (e : Ending) (w' : World) : Prop :=
  W.grownBy w' (some g) ∧ if T.2.2 = 0 then (e = .returned (.string T.1) ∧ Rd g s (n + T.2.1.toNat) v w') else (T.2.2 = 1 ∨ T.2.2 = 2) ∧ e = thrown m b T.2.2.toNat
set_option maxRecDepth 100000 in
set_option maxHeartbeats 4000000 in
theorem takeBody_impl (g : Nat) (s : ByteArray) (n : Nat) (v : Value) (l : List Flds.Fld) (c : Bool) (m b : Addr) (W : World) (h : Rd g s n v W) (hs : s.size ≤ 1048576) (hn : n ≤ s.size) (hI : Flds.Is W v l) (hl : Flds.bulk l ≤ 1048576) (hG : Ground m b W) :
    Calls Tryz.prog 108 #[.pointer (some ⟨g, 0, none⟩), .bool c] W fun e w' => bodyEnd g s n v m b W (Body.bodyOf l (s.extract n s.size) c) e w' := by
  have hx : (s.extract n s.size).size ≤ 1048576 := by rw [ByteArray.size_extract]; omega
  have HRs := Num.hide (fun W h => rest_impl g s n v W h hn hs)
  have HA := Num.hide (fun W h (hG : Ground m b W) => Body.ahead_impl v l (s.extract n s.size) c m b W h hl hx hG.lim hG.syn hG.errs)
  have hin := body_in l (s.extract n s.size) c
  have HP := Num.hide (fun k W h (hk : k ≤ 1048576) => pass_impl g s n k v W h (by omega) hk)
  have HR := Num.hide h
  have HG := Num.hide hG
  generalize Body.bodyOf l (s.extract n s.size) c = R at HA hin ⊢
  generalize s.extract n s.size = T at HRs HA hx hin
  obtain ⟨a, q, rfl, _⟩ := Flds.is_form hI
  obtain ⟨c0, c1, c2⟩ := h.cells
  have hS0 : (fun X => Rd g s n (.slice a l.length q) X ∧ Flds.Is X (.slice a l.length q) l ∧ Below W.heap.size W X) W := ⟨h, hI, Below.refl _ _⟩
  clear h hG hI c0 c1 c2
  go_enter Tryz.func108, Tryz.ntmps108
  go_upto_region 1 with fail
  refine wp_region_held_drew (S := fun X => Rd g s n (.slice a l.length q) X ∧ Flds.Is X (.slice a l.length q) l ∧ Below W.heap.size W X) (by kernel_rfl) ⟨hS0.1.step (Below.refl _ _).drew, Recs.is_below hS0.2.1 (Below.refl _ _).drew, (Below.refl _ _).drew⟩ (fun hHeld => ?_)
  clear hS0
  refine Reg.take (i := 0) (d := 9) (v := ?_) rfl rfl (by kernel_rfl) (by kernel_rfl) (by kernel_rfl) (fun _ _ _ h => h) (by rfl) ?_ hHeld ?_
  rotate_left
  · rintro X ⟨g3, _, g4⟩
    obtain ⟨g0, g1, g2⟩ := g3.cells
    first | (go_simp; done) | (go_simp; with_reducible rfl)
  simp only [Act.put, List.setIfInBounds_toArray, List.set_cons_zero, List.set_cons_succ]
  refine Reg.take (i := 1) (d := 10) (v := ?_) rfl rfl (by kernel_rfl) (by kernel_rfl) (by kernel_rfl) (fun _ _ _ h => h) (by rfl) ?_ hHeld ?_
  rotate_left
  · rintro X ⟨g3, _, g4⟩
    obtain ⟨g0, g1, g2⟩ := g3.cells
    first | (go_simp; done) | (go_simp; with_reducible rfl)
  simp only [Act.put, List.setIfInBounds_toArray, List.set_cons_zero, List.set_cons_succ]
  refine Reg.take (i := 2) (d := 11) (v := ?_) rfl rfl (by kernel_rfl) (by kernel_rfl) (by kernel_rfl) (fun _ _ _ h => h) (by rfl) ?_ hHeld ?_
  rotate_left
  · rintro X ⟨g3, _, g4⟩
    obtain ⟨g0, g1, g2⟩ := g3.cells
    first | (go_simp; done) | (go_simp; with_reducible rfl)
  simp only [Act.put, List.setIfInBounds_toArray, List.set_cons_zero, List.set_cons_succ]
  refine Reg.take (i := 3) (d := 12) (v := ?_) rfl rfl (by kernel_rfl) (by kernel_rfl) (by kernel_rfl) (fun _ _ _ h => h) (by rfl) ?_ hHeld ?_
  rotate_left
  · rintro X ⟨g3, _, g4⟩
    obtain ⟨g0, g1, g2⟩ := g3.cells
    first | (go_simp; done) | (go_simp; with_reducible rfl)
  simp only [Act.put, List.setIfInBounds_toArray, List.set_cons_zero, List.set_cons_succ]
  refine Reg.take (i := 4) (d := 13) (v := ?_) rfl rfl (by kernel_rfl) (by kernel_rfl) (by kernel_rfl) (fun _ _ _ h => h) (by rfl) ?_ hHeld ?_
  rotate_left
  · rintro X ⟨g3, _, g4⟩
    obtain ⟨g0, g1, g2⟩ := g3.cells
    first | (go_simp; done) | (go_simp; with_reducible rfl)
  simp only [Act.put, List.setIfInBounds_toArray, List.set_cons_zero, List.set_cons_succ]
  refine Reg.take (i := 5) (d := 14) (v := ?_) rfl rfl (by kernel_rfl) (by kernel_rfl) (by kernel_rfl) (fun _ _ _ h => h) (by rfl) ?_ hHeld ?_
  rotate_left
  · rintro X ⟨g3, _, g4⟩
    obtain ⟨g0, g1, g2⟩ := g3.cells
    first | (go_simp; done) | (go_simp; with_reducible rfl)
  simp only [Act.put, List.setIfInBounds_toArray, List.set_cons_zero, List.set_cons_succ]
  refine Reg.take (i := 6) (d := 15) (v := ?_) rfl rfl (by kernel_rfl) (by kernel_rfl) (by kernel_rfl) (fun _ _ _ h => h) (by rfl) ?_ hHeld ?_
  rotate_left
  · rintro X ⟨g3, _, g4⟩
    obtain ⟨g0, g1, g2⟩ := g3.cells
    first | (go_simp; done) | (go_simp; with_reducible rfl)
  simp only [Act.put, List.setIfInBounds_toArray, List.set_cons_zero, List.set_cons_succ]
  refine Reg.take (i := 8) (d := 17) (v := ?_) rfl rfl (by kernel_rfl) (by kernel_rfl) (by kernel_rfl) (fun _ _ _ h => h) (by rfl) ?_ hHeld ?_
  rotate_left
  · rintro X ⟨g3, _, g4⟩
    obtain ⟨g0, g1, g2⟩ := g3.cells
    first | (go_simp; done) | (go_simp; with_reducible rfl)
  simp only [Act.put, List.setIfInBounds_toArray, List.set_cons_zero, List.set_cons_succ]
  refine Reg.call (i := 7) rfl (by kernel_rfl) (by rfl) (fun K hK => ?_)
  go_wp2_with (first | (go_at_call 157; refine (HRs.out _ hHeld.1).mono ?_; rintro e W3 ⟨rfl, hb3⟩))
  have HB3 := Num.hide hb3
  clear hb3
  refine hK.out _ _ ?_ (fun hHeld2 => ?_)
  · exact ⟨hHeld.1.step HB3.out, Recs.is_below hHeld.2.1 HB3.out, hHeld.2.2.trans (HB3.out.mono hHeld.2.2.size)⟩
  clear hK K
  replace hHeld := hHeld2
  clear hHeld2
  refine Reg.call (i := 9) rfl (by kernel_rfl) (by rfl) (fun K hK => ?_)
  go_wp2_with (first | (go_at_call 48; refine (HA.out _ hHeld.2.1 (HG.out.below hHeld.2.2)).mono ?_; rintro e W4 ⟨t, u, k, rfl, hk, ht, hb4⟩))
  have HB4 := Num.hide hb4
  have HT := Num.hide ht
  clear hb4 ht
  refine hK.out _ _ ?_ (fun hHeld2 => ?_)
  · exact ⟨hHeld.1.step HB4.out, Recs.is_below hHeld.2.1 HB4.out, hHeld.2.2.trans (HB4.out.mono hHeld.2.2.size)⟩
  clear hK K
  replace hHeld := hHeld2
  clear hHeld2
  refine Reg.take (i := 10) (d := 8) (v := ?_) rfl rfl (by kernel_rfl) (by kernel_rfl) (by kernel_rfl) (fun _ _ _ h => h) (by rfl) ?_ hHeld ?_
  rotate_left
  · rintro X ⟨g3, _, g4⟩
    obtain ⟨g0, g1, g2⟩ := g3.cells
    first | (go_simp; done) | (go_simp; with_reducible rfl)
  simp only [Act.put, List.setIfInBounds_toArray, List.set_cons_zero, List.set_cons_succ]
  refine Reg.take (i := 11) (d := 19) (v := ?_) rfl rfl (by kernel_rfl) (by kernel_rfl) (by kernel_rfl) (fun _ _ _ h => h) (by rfl) ?_ hHeld ?_
  rotate_left
  · rintro X ⟨g3, _, g4⟩
    obtain ⟨g0, g1, g2⟩ := g3.cells
    first | (go_simp; done) | (go_simp; with_reducible rfl)
  simp only [Act.put, List.setIfInBounds_toArray, List.set_cons_zero, List.set_cons_succ]
  refine Reg.take (i := 12) (d := 20) (v := ?_) rfl rfl (by kernel_rfl) (by kernel_rfl) (by kernel_rfl) (fun _ _ _ h => h) (by rfl) ?_ hHeld ?_
  rotate_left
  · rintro X ⟨g3, _, g4⟩
    obtain ⟨g0, g1, g2⟩ := g3.cells
    first | (go_simp; done) | (go_simp; with_reducible rfl)
  simp only [Act.put, List.setIfInBounds_toArray, List.set_cons_zero, List.set_cons_succ]
  refine Reg.take (i := 13) (d := 21) (v := ?_) rfl rfl (by kernel_rfl) (by kernel_rfl) (by kernel_rfl) (fun _ _ _ h => h) (by rfl) ?_ hHeld ?_
  rotate_left
  · rintro X ⟨g3, _, g4⟩
    obtain ⟨g0, g1, g2⟩ := g3.cells
    first | (go_simp; done) | (go_simp; with_reducible rfl)
  simp only [Act.put, List.setIfInBounds_toArray, List.set_cons_zero, List.set_cons_succ]
  refine Reg.take (i := 14) (d := 5) (v := ?_) rfl rfl (by kernel_rfl) (by kernel_rfl) (by kernel_rfl) (fun _ _ _ h => h) (by rfl) ?_ hHeld ?_
  rotate_left
  · rintro X ⟨g3, _, g4⟩
    obtain ⟨g0, g1, g2⟩ := g3.cells
    first | (go_simp; done) | (go_simp; with_reducible rfl)
  simp only [Act.put, List.setIfInBounds_toArray, List.set_cons_zero, List.set_cons_succ]
  refine Reg.take (i := 15) (d := 6) (v := ?_) rfl rfl (by kernel_rfl) (by kernel_rfl) (by kernel_rfl) (fun _ _ _ h => h) (by rfl) ?_ hHeld ?_
  rotate_left
  · rintro X ⟨g3, _, g4⟩
    obtain ⟨g0, g1, g2⟩ := g3.cells
    first | (go_simp; done) | (go_simp; with_reducible rfl)
  simp only [Act.put, List.setIfInBounds_toArray, List.set_cons_zero, List.set_cons_succ]
  refine Reg.take (i := 16) (d := 7) (v := ?_) rfl rfl (by kernel_rfl) (by kernel_rfl) (by kernel_rfl) (fun _ _ _ h => h) (by rfl) ?_ hHeld ?_
  rotate_left
  · rintro X ⟨g3, _, g4⟩
    obtain ⟨g0, g1, g2⟩ := g3.cells
    first | (go_simp; done) | (go_simp; with_reducible rfl)
  simp only [Act.put, List.setIfInBounds_toArray, List.set_cons_zero, List.set_cons_succ]
  refine wpAnyH_done (by kernel_rfl) ?_ _
  obtain ⟨hr4, _, hb4⟩ := hHeld
  have HRd := Num.hide hr4
  have HBl := Num.hide hb4
  clear hr4 hb4 HB3 HB4 HA HRs HG
  match k, hk with
  | 0, _ =>
    have e0 : Body.errV m b 0 = .nilIface := rfl
    rw [e0]
    have ht := HT.out
    unfold Body.tell at ht
    rw [if_pos rfl] at ht
    subst ht
    obtain ⟨h60, hu0, hu1⟩ := hin rfl
    simp only at hu0 hu1
    obtain ⟨U, rfl⟩ := Int.eq_ofNat_of_zero_le hu0
    clear hin HT e0
    go_wp2_with fail
    refine (HP.out U _ HRd.out (by omega)).mono ?_
    rintro e w5 ⟨rfl, hr5, hg5⟩
    have HF : Hid (bodyEnd g s n (.slice a l.length q) m b W (t, (U : Int), 0) (.returned (.string t)) w5) := ⟨Recs.grown_trans (Recs.grown_of_below HBl.out (some g)) hg5, by rw [if_pos rfl]; exact ⟨rfl, hr5⟩⟩
    clear hr5 hg5
    go_wp2
    go_ret
    exact HF.out
  | 1, _ =>
    have e0 : Body.errV m b 1 = .iface 199 (.pointer (some m)) := rfl
    rw [e0]
    have ht := HT.out
    unfold Body.tell at ht
    rw [if_neg (by decide)] at ht
    subst ht
    have HF : Hid (bodyEnd g s n (.slice a l.length q) m b W (⟨#[]⟩, 0, ((1 : Nat) : Int)) (thrown m b 1) W4) := ⟨Recs.grown_of_below HBl.out (some g), by rw [if_neg (by decide)]; exact ⟨.inl rfl, rfl⟩⟩
    clear hin HT e0
    go_wp2
    exact ⟨rfl, HF.out⟩
  | 2, _ =>
    have e0 : Body.errV m b 2 = .iface 199 (.pointer (some b)) := rfl
    rw [e0]
    have ht := HT.out
    unfold Body.tell at ht
    rw [if_neg (by decide)] at ht
    subst ht
    have HF : Hid (bodyEnd g s n (.slice a l.length q) m b W (⟨#[]⟩, 0, ((2 : Nat) : Int)) (thrown m b 2) W4) := ⟨Recs.grown_of_below HBl.out (some g), by rw [if_neg (by decide)]; exact ⟨.inr rfl, rfl⟩⟩
    clear hin HT e0
    go_wp2
    exact ⟨rfl, HF.out⟩
end Msg
end Go.Proofs.YtbajfklnekfeoaaGreatDoor
namespace Go.Proofs.YtbajfklnekfeoaaGreatDoor
open Go.RowKit
set_option linter.unusedVariables false
namespace Body

theorem hv_dig {c : Int} (h : 48 ≤ c ∧ c ≤ 57) : hv c = c - 48 := if_pos h
theorem hv_low {c : Int} (h : 97 ≤ c ∧ c ≤ 102) : hv c = c - 97 + 10 := by unfold hv; rw [if_neg (by omega), if_pos h]
theorem hv_up {c : Int} (h : 65 ≤ c ∧ c ≤ 70) : hv c = c - 65 + 10 := by unfold hv; rw [if_neg (by omega), if_neg (by omega), if_pos h]
theorem hv_none {c : Int} (h1 : ¬ (48 ≤ c ∧ c ≤ 57)) (h2 : ¬ (97 ≤ c ∧ c ≤ 102)) (h3 : ¬ (65 ≤ c ∧ c ≤ 70)) : hv c = -1 := by unfold hv; rw [if_neg h1, if_neg h2, if_neg h3]
theorem all_more (s : ByteArray) (k : Nat) (h : k < s.size) (ha : (s.data.toList.take k).all isHex = true) (hv0 : 0 ≤ hv (s[k].toNat : Int)) : (s.data.toList.take (k + 1)).all isHex = true := by
  rw [Sign.all_take s isHex k h, ha, Bool.true_and]
  exact decide_eq_true hv0
set_option maxRecDepth 100000 in
set_option maxHeartbeats 4000000 in
theorem readHex_spec (s : ByteArray) (w : World) (hs : s.size ≤ maxLen) :
    Calls Tryz.prog 168 #[.string s] w fun e w' => e = .returned (.tuple #[.int .i64 (rhN s), .bool (rhB s)]) ∧ w = w' := by
  unfold maxLen at hs
  obtain ⟨N, hN⟩ : ∃ N, rhN s = N := ⟨_, rfl⟩
  obtain ⟨b, hb⟩ : ∃ b, rhB s = b := ⟨_, rfl⟩
  rw [hN, hb]
  have HE : Hid (readHex s = none → N = 0 ∧ b = false) := fun h => by
    obtain ⟨h1, h2⟩ := rh_none h
    exact ⟨hN.symm.trans h1, hb.symm.trans h2⟩
  have HF : Hid (∀ z, readHex s = some z → N = z ∧ b = true) := fun z h => by
    constructor
    · rw [← hN]; unfold rhN; rw [h]; rfl
    · rw [← hb]; unfold rhB; rw [h]; rfl
  clear hN hb
  go_enter Tryz.func168, Tryz.ntmps168
  go_wp2
  go_loop [4, 5] (fun nv iv => ∃ (k : Nat) (x : Int), k ≤ s.size ∧ iv = .int .i64 (k : Int) ∧ nv = .int .i64 x ∧ Hid ((s.data.toList.take k).all isHex = true) ∧ Hid (k ≤ 6 → x = hexVal (s.data.toList.take k))) (fun _ iv => s.size - (intOf iv).toNat)
  case atStart => exact ⟨0, 0, by omega, rfl, rfl, by show _ = _; simp, fun _ => by simp [hexVal]⟩
  case round =>
    obtain ⟨k, x, hk, rfl, rfl, HA, HX⟩ := hrel
    by_cases hlt : k < s.size
    · have hc := s[k].toNat_lt
      have hc0 : (0 : Int) ≤ (s[k].toNat : Int) := by omega
      have hc1 : (s[k].toNat : Int) < 256 := by omega
      have HBad := Num.hide (fun h => rh_bad s k hlt h)
      have HMore := Num.hide (fun h => all_more s k hlt HA.out h)
      have HC : Hid (hv (s[k].toNat : Int) = hv (s[k].toNat : Int)) := rfl
      by_cases h1 : 48 ≤ (s[k].toNat : Int)
      · by_cases h2 : (s[k].toNat : Int) ≤ 57
        · have HH := Num.hide (hv_dig ⟨h1, h2⟩)
          have HA2 := Num.hide (HMore.out (by rw [HH.out]; omega))
          clear HBad HMore
          by_cases hk6 : k < 6
          · have hxe := Num.unhide HX (by omega)
            have hxb := hexVal_six (s.data.toList.take k) HA.out (by rw [List.length_take]; omega)
            rw [← hxe] at hxb
            have HV := Num.hide (hexVal_take s k hlt)
            have HXe := Num.hide hxe
            have HX2 : Hid (k + 1 ≤ 6 → x * 16 + ((s[k].toNat : Int) - 48) = hexVal (s.data.toList.take (k + 1))) := fun _ => by have q1 := HV.out; have q2 := HH.out; rw [← HXe.out] at q1; omega
            clear hxe HX HV HXe HC HH
            go_wp2
            all_goals go_round
            case rel => exact ⟨k + 1, _, by omega, by go_num, rfl, HA2, HX2⟩
            case measure => simp [intOf]; omega
          · clear HX
            go_wp2
            all_goals go_round
            case rel => exact ⟨k + 1, _, by omega, by go_num, rfl, HA2, fun h => absurd h (by omega)⟩
            case measure => simp [intOf]; omega
        · have d2 : decide ((s[k].toNat : Int) ≤ 57) = false := by rw [decide_eq_false_iff_not]; exact h2
          by_cases h3 : 97 ≤ (s[k].toNat : Int)
          · by_cases h4 : (s[k].toNat : Int) ≤ 102
            · have HH := Num.hide (hv_low ⟨h3, h4⟩)
              have HA2 := Num.hide (HMore.out (by rw [HH.out]; omega))
              clear HBad HMore
              by_cases hk6 : k < 6
              · have hxe := Num.unhide HX (by omega)
                have hxb := hexVal_six (s.data.toList.take k) HA.out (by rw [List.length_take]; omega)
                rw [← hxe] at hxb
                have HV := Num.hide (hexVal_take s k hlt)
                have HXe := Num.hide hxe
                have HX2 : Hid (k + 1 ≤ 6 → x * 16 + ((s[k].toNat : Int) - 97) + 10 = hexVal (s.data.toList.take (k + 1))) := fun _ => by have q1 := HV.out; have q2 := HH.out; rw [← HXe.out] at q1; omega
                clear hxe HX HV HXe HC HH
                go_wp2
                all_goals go_round
                case rel => exact ⟨k + 1, _, by omega, by go_num, rfl, HA2, HX2⟩
                case measure => simp [intOf]; omega
              · clear HX
                go_wp2
                all_goals go_round
                case rel => exact ⟨k + 1, _, by omega, by go_num, rfl, HA2, fun h => absurd h (by omega)⟩
                case measure => simp [intOf]; omega
            · have d4 : decide ((s[k].toNat : Int) ≤ 102) = false := by rw [decide_eq_false_iff_not]; exact h4
              have d6 : decide ((s[k].toNat : Int) ≤ 70) = false := by rw [decide_eq_false_iff_not]; omega
              obtain ⟨rfl, rfl⟩ := HE.out (HBad.out (hv_none (by omega) (by omega) (by omega)))
              clear HBad HMore HC
              go_wp2
              all_goals go_ret2
              all_goals exact ⟨rfl, rfl⟩
          · have d3 : decide (97 ≤ (s[k].toNat : Int)) = false := by rw [decide_eq_false_iff_not]; exact h3
            by_cases h5 : 65 ≤ (s[k].toNat : Int)
            · by_cases h6 : (s[k].toNat : Int) ≤ 70
              · have HH := Num.hide (hv_up ⟨h5, h6⟩)
                have HA2 := Num.hide (HMore.out (by rw [HH.out]; omega))
                clear HBad HMore
                by_cases hk6 : k < 6
                · have hxe := Num.unhide HX (by omega)
                  have hxb := hexVal_six (s.data.toList.take k) HA.out (by rw [List.length_take]; omega)
                  rw [← hxe] at hxb
                  have HV := Num.hide (hexVal_take s k hlt)
                  have HXe := Num.hide hxe
                  have HX2 : Hid (k + 1 ≤ 6 → x * 16 + ((s[k].toNat : Int) - 65) + 10 = hexVal (s.data.toList.take (k + 1))) := fun _ => by have q1 := HV.out; have q2 := HH.out; rw [← HXe.out] at q1; omega
                  clear hxe HX HV HXe HC HH
                  go_wp2
                  all_goals go_round
                  case rel => exact ⟨k + 1, _, by omega, by go_num, rfl, HA2, HX2⟩
                  case measure => simp [intOf]; omega
                · clear HX
                  go_wp2
                  all_goals go_round
                  case rel => exact ⟨k + 1, _, by omega, by go_num, rfl, HA2, fun h => absurd h (by omega)⟩
                  case measure => simp [intOf]; omega
              · have d6 : decide ((s[k].toNat : Int) ≤ 70) = false := by rw [decide_eq_false_iff_not]; exact h6
                obtain ⟨rfl, rfl⟩ := HE.out (HBad.out (hv_none (by omega) (by omega) (by omega)))
                clear HBad HMore HC
                go_wp2
                all_goals go_ret2
                all_goals exact ⟨rfl, rfl⟩
            · have d5 : decide (65 ≤ (s[k].toNat : Int)) = false := by rw [decide_eq_false_iff_not]; exact h5
              obtain ⟨rfl, rfl⟩ := HE.out (HBad.out (hv_none (by omega) (by omega) (by omega)))
              clear HBad HMore HC
              go_wp2
              all_goals go_ret2
              all_goals exact ⟨rfl, rfl⟩
      · have d1 : decide (48 ≤ (s[k].toNat : Int)) = false := by rw [decide_eq_false_iff_not]; exact h1
        have d3 : decide (97 ≤ (s[k].toNat : Int)) = false := by rw [decide_eq_false_iff_not]; omega
        have d5 : decide (65 ≤ (s[k].toNat : Int)) = false := by rw [decide_eq_false_iff_not]; omega
        obtain ⟨rfl, rfl⟩ := HE.out (HBad.out (hv_none (by omega) (by omega) (by omega)))
        clear HBad HMore HC
        go_wp2
        all_goals go_ret2
        all_goals exact ⟨rfl, rfl⟩
    · obtain rfl : k = s.size := by omega
      have hfull : s.data.toList.take s.size = s.data.toList := List.take_of_length_le (by rw [Array.length_toList]; exact Nat.le_refl _)
      have hall := HA.out
      rw [hfull] at hall
      by_cases h16 : 1 ≤ (s.size : Int) ∧ (s.size : Int) ≤ 6
      · have hx := Num.unhide HX (by omega)
        rw [hfull] at hx
        have hr : readHex s = some x := by unfold readHex; rw [if_pos ⟨hall, by omega, by omega⟩, hx]
        obtain ⟨rfl, rfl⟩ := HF.out x hr
        clear hx hr hall hfull HA HX HF HE
        go_wp2_with fail
        refine (Date.in_spec _ _ _ _).mono ?_
        rintro e w1 ⟨rfl, rfl⟩
        rw [decide_eq_true h16]
        go_wp2
        go_ret2
        exact ⟨rfl, rfl⟩
      · have hr : readHex s = none := by unfold readHex; rw [if_neg (by omega)]
        obtain ⟨rfl, rfl⟩ := HE.out hr
        clear hr hall hfull HA HX HF HE
        go_wp2_with fail
        refine (Date.in_spec _ _ _ _).mono ?_
        rintro e w1 ⟨rfl, rfl⟩
        rw [decide_eq_false h16]
        go_wp2
        go_ret2
        exact ⟨rfl, rfl⟩
theorem readHex_spec_b (s : ByteArray) (w : World) (hs : s.size ≤ maxLen) :
    Calls Tryz.prog 168 #[.string s] w fun e w' => e = .returned (.tuple #[.int .i64 (rhN s), .bool (rhB s)]) ∧ Below w.heap.size w w' :=
  (readHex_spec s w hs).mono fun e w' ⟨h1, h2⟩ => ⟨h1, by subst h2; exact Below.refl _ _⟩
end Body
end Go.Proofs.YtbajfklnekfeoaaGreatDoor
namespace Go.Proofs.YtbajfklnekfeoaaGreatDoor
open Go.RowKit
set_option linter.unusedVariables false
namespace Body
open Line (byteAt byteAt_eq)

set_option maxRecDepth 100000 in
set_option maxHeartbeats 4000000 in
theorem unchunk_spec (s : ByteArray) (w : World) (hs : s.size ≤ 1099511627776) :
    Calls Tryz.prog 126 #[.string s] w fun e w' => e = .returned (.tuple #[.string (unchunk s).1, .int .i64 (unchunk s).2.1, .int .i64 (unchunk s).2.2]) ∧ w = w' := by
  obtain ⟨r, hr⟩ : ∃ r, unchunk s = r := ⟨_, rfl⟩
  rw [hr]
  have HR := Num.hide hr
  clear hr
  go_enter Tryz.func126, Tryz.ntmps126
  go_wp2
  go_loop [5, 6] (fun ov av => ∃ (a : Nat) (out : ByteArray), av = .int .i64 (a : Int) ∧ ov = .string out ∧ Hid (UnAt s a out)) (fun _ av => s.size - (intOf av).toNat)
  case atStart => exact ⟨0, ⟨#[]⟩, rfl, rfl, un_start s⟩
  case round =>
    obtain ⟨a, out, rfl, rfl, HA⟩ := hrel
    have hle := HA.out.le
    have hos := HA.out.small
    have HL := Num.hide (Line.line_spec s a w (by omega) hle)
    cases he : Line.eol s a with
    | none =>
      have hl : Line.lineOf s a = (⟨#[]⟩, -1) := by unfold Line.lineOf; rw [he]
      rw [hl] at HL
      by_cases h8 : (8 : Int) < (s.size : Int) - (a : Int)
      · obtain rfl : r = bad := by rw [← HR.out]; exact un_long HA.out he (by omega)
        clear hl he HR HA
        go_wp2_with fail
        refine HL.out.mono ?_
        rintro e w1 ⟨rfl, rfl⟩
        go_wp2
        go_ret3
        exact ⟨rfl, rfl⟩
      · have d8 : decide ((8 : Int) < (s.size : Int) - (a : Int)) = false := by rw [decide_eq_false_iff_not]; exact h8
        obtain rfl : r = more := by rw [← HR.out]; exact un_more HA.out he (by omega)
        clear hl he HR HA
        go_wp2_with fail
        refine HL.out.mono ?_
        rintro e w1 ⟨rfl, rfl⟩
        go_wp2
        go_ret3
        exact ⟨rfl, rfl⟩
    | some i =>
      obtain ⟨hin1, hin2⟩ := Line.eol_in he
      have hl : Line.lineOf s a = (s.extract a i, (i : Int) + 2) := by unfold Line.lineOf; rw [he]
      rw [hl] at HL
      clear hl
      have HX := Num.hide (readHex_spec (s.extract a i) w (by unfold maxLen; rw [ByteArray.size_extract]; omega))
      cases hx : readHex (s.extract a i) with
      | none =>
        obtain ⟨e1, e2⟩ := rh_none hx
        rw [e1, e2] at HX
        obtain rfl : r = bad := by rw [← HR.out]; exact un_nohex HA.out he hx
        clear e1 e2 hx he HR HA
        generalize s.extract a i = t at HL HX
        go_wp2_with fail
        refine HL.out.mono ?_
        rintro e w1 ⟨rfl, rfl⟩
        go_wp2_with fail
        refine HX.out.mono ?_
        rintro e w1 ⟨rfl, rfl⟩
        go_wp2
        go_ret3
        exact ⟨rfl, rfl⟩
      | some n0 =>
        have hnb := readHex_bd hx
        obtain ⟨n, rfl⟩ := Int.eq_ofNat_of_zero_le hnb.1
        obtain ⟨e1, e2⟩ := rh_some hx
        rw [e1, e2] at HX
        have hnn : ((n : Int)).toNat = n := rfl
        by_cases h60 : (60 : Int) < (out.size : Int) + (n : Int)
        · obtain rfl : r = bad := by rw [← HR.out]; exact un_great HA.out he hx (by omega)
          clear e1 e2 hx he HR HA hnn
          generalize s.extract a i = t at HL HX
          go_wp2_with fail
          refine HL.out.mono ?_
          rintro e w1 ⟨rfl, rfl⟩
          go_wp2_with fail
          refine HX.out.mono ?_
          rintro e w1 ⟨rfl, rfl⟩
          go_wp2
          go_ret3
          exact ⟨rfl, rfl⟩
        · have d60 : decide ((60 : Int) < (out.size : Int) + (n : Int)) = false := by rw [decide_eq_false_iff_not]; exact h60
          by_cases hsh : (s.size : Int) < (i : Int) + 2 + (n : Int) + 2
          · obtain rfl : r = more := by rw [← HR.out]; exact un_short HA.out he hx (by omega) (by omega)
            clear e1 e2 hx he HR HA hnn
            generalize s.extract a i = t at HL HX
            go_wp2_with fail
            refine HL.out.mono ?_
            rintro e w1 ⟨rfl, rfl⟩
            go_wp2_with fail
            refine HX.out.mono ?_
            rintro e w1 ⟨rfl, rfl⟩
            go_wp2
            go_ret3
            exact ⟨rfl, rfl⟩
          · have dsh : decide ((s.size : Int) < (i : Int) + 2 + (n : Int) + 2) = false := by rw [decide_eq_false_iff_not]; exact hsh
            have q1 : i + 2 + n < s.size := by omega
            have q2 : i + 2 + n + 1 < s.size := by omega
            have b1 := byteAt_eq s (i + 2 + n) q1
            have b2 := byteAt_eq s (i + 2 + n + 1) q2
            have HBt := Num.hide (fun (h : ¬ (byteAt s (i + 2 + n) = 13 ∧ byteAt s (i + 2 + n + 1) = 10)) => un_noend HA.out he hx (by omega) (by omega) h)
            have HDn : Hid ((byteAt s (i + 2 + n) = 13 ∧ byteAt s (i + 2 + n + 1) = 10) → n = 0 → unchunk s = (out ++ s.extract (i + 2) (i + 2 + n), ((i + 2 + n + 2 : Nat) : Int), 0)) := fun h h0 => by subst h0; exact un_done HA.out he hx (by omega) (by omega) h
            have HNx := Num.hide (fun (h : byteAt s (i + 2 + n) = 13 ∧ byteAt s (i + 2 + n + 1) = 10) (h0 : ¬ (n : Int) = 0) => un_next HA.out he hx (by omega) (by omega) h h0)
            rw [b1, b2] at HBt HDn HNx
            clear e1 e2 hx he HA hnn b1 b2
            generalize s.extract a i = t at HL HX
            go_wp2_with fail
            refine HL.out.mono ?_
            rintro e w1 ⟨rfl, rfl⟩
            go_wp2_with fail
            refine HX.out.mono ?_
            rintro e w1 ⟨rfl, rfl⟩
            have hi1 : ((i : Int) + 2 + (n : Int)).toNat = i + 2 + n := by omega
            have hi2 : ((i : Int) + 2 + (n : Int) + 1).toNat = i + 2 + n + 1 := by omega
            have hi3 : ((i : Int) + 2).toNat = i + 2 := by omega
            have l1 : (0 : Int) ≤ (i : Int) + 2 := by omega
            have l2 : (i : Int) + 2 ≤ (i : Int) + 2 + (n : Int) := by omega
            have l3 : (i : Int) + 2 + (n : Int) ≤ (s.size : Int) := by omega
            by_cases c1 : (s[i + 2 + n]).toNat = 13
            · have f1 : (((s[i + 2 + n]).toNat : Int) != 13) = false := by rw [bne_eq_false_iff_eq]; omega
              by_cases c2 : (s[i + 2 + n + 1]).toNat = 10
              · have f2 : (((s[i + 2 + n + 1]).toNat : Int) != 10) = false := by rw [bne_eq_false_iff_eq]; omega
                have hxs : (s.extract (i + 2) (i + 2 + n)).size = n := by rw [ByteArray.size_extract]; omega
                by_cases h0 : n = 0
                · have hr := HDn.out ⟨c1, c2⟩ h0
                  rw [HR.out] at hr
                  subst hr
                  have d0 : ((n : Int) == 0) = true := by rw [beq_iff_eq]; omega
                  clear HBt HDn HNx HR c1 c2 h0
                  go_wp2
                  go_ret3
                  exact ⟨by simp, rfl⟩
                · have d0 : ((n : Int) == 0) = false := by rw [beq_eq_false_iff_ne]; omega
                  have HA2 := Num.hide (HNx.out ⟨c1, c2⟩ (by omega))
                  clear HBt HDn HNx c1 c2
                  go_wp2
                  go_round
                  case rel => exact ⟨i + 2 + n + 2, _, by go_num, rfl, HA2⟩
                  case measure => simp [intOf]; omega
              · have f2 : (((s[i + 2 + n + 1]).toNat : Int) != 10) = true := by rw [bne_iff_ne]; omega
                obtain rfl : r = bad := by rw [← HR.out]; exact HBt.out (fun h => c2 h.2)
                clear HBt HDn HNx HR c1 c2
                go_wp2
                go_ret3
                exact ⟨rfl, rfl⟩
            · have f1 : (((s[i + 2 + n]).toNat : Int) != 13) = true := by rw [bne_iff_ne]; omega
              obtain rfl : r = bad := by rw [← HR.out]; exact HBt.out (fun h => c1 h.1)
              clear HBt HDn HNx HR c1
              go_wp2
              go_ret3
              exact ⟨rfl, rfl⟩
theorem unchunk_spec_b (s : ByteArray) (w : World) (hs : s.size ≤ 1099511627776) :
    Calls Tryz.prog 126 #[.string s] w fun e w' => e = .returned (.tuple #[.string (unchunk s).1, .int .i64 (unchunk s).2.1, .int .i64 (unchunk s).2.2]) ∧ Below w.heap.size w w' :=
  (unchunk_spec s w hs).mono fun e w' ⟨h1, h2⟩ => ⟨h1, by subst h2; exact Below.refl _ _⟩
end Body
end Go.Proofs.YtbajfklnekfeoaaGreatDoor
namespace Go.Proofs.YtbajfklnekfeoaaGreatDoor
open Go.RowKit
set_option linter.unusedVariables false
namespace Sign

set_option maxRecDepth 100000 in
set_option maxHeartbeats 1000000 in
theorem seconds_spec (s : ByteArray) (w : World) (hs : s.size ≤ maxLen) : Calls Tryz.prog 125 #[.string s] w fun e w' => e = .returned (.tuple #[.int .i64 (secs s).1, .bool (secs s).2]) ∧ w = w' := by
  unfold maxLen at hs
  obtain ⟨r, hr⟩ : ∃ r, secs s = r := ⟨_, rfl⟩
  rw [hr]
  have HR := Num.hide hr
  clear hr
  go_enter Tryz.func125, Tryz.ntmps125
  go_wp2
  go_loop [4, 5] (fun n i => ∃ k : Nat, k ≤ s.size ∧ i = .int .i64 k ∧ n = .int .i64 (sec (s.data.toList.take k)) ∧ (s.data.toList.take k).all (fun b => decide (dig (b.toNat : Int))) = true) (fun _ i => s.size - (intOf i).toNat)
  case atStart => exact ⟨0, by omega, rfl, rfl, by simp⟩
  case round =>
    obtain ⟨k, hk, rfl, rfl, hall⟩ := hrel
    have hb := sec_bd _ hall
    have HA := Num.hide hall
    clear hall
    by_cases hlt : k < s.size
    · have hstep := Num.hide (all_take s (fun b => decide (dig (b.toNat : Int))) k hlt)
      have hsec := Num.hide (sec_take s k hlt)
      have hn := Num.hide (fun h => not_all s (fun b => decide (dig (b.toNat : Int))) k hlt h)
      have hc := s[k].toNat_lt
      obtain ⟨x, hx⟩ : ∃ x, sec (s.data.toList.take k) = x := ⟨_, rfl⟩
      rw [hx] at hb ⊢
      have HX := Num.hide hx
      clear hx
      by_cases h1 : 48 ≤ (s[k].toNat : Int)
      · have d1 : decide ((s[k].toNat : Int) < 48) = false := by simp; omega
        by_cases h2 : (s[k].toNat : Int) ≤ 57
        · have d2 : decide (57 < (s[k].toNat : Int)) = false := by simp; omega
          have hd := Num.hide (show decide (dig (s[k].toNat : Int)) = true from decide_eq_true (by unfold dig; omega))
          go_wp2
          all_goals go_round
          case rel => exact ⟨k + 1, by omega, by go_num, by rw [Num.unhide hsec, Num.unhide HX] <;> go_num, by rw [Num.unhide hstep, Num.unhide HA, Num.unhide hd]; rfl⟩
          case measure => simp [intOf]; omega
        · have d2 : decide (57 < (s[k].toNat : Int)) = true := by simp; omega
          have hr : secs s = (0, false) := by
            unfold secs
            rw [if_neg]
            intro h
            rw [Num.unhide hn (decide_eq_false (by unfold dig; omega))] at h
            simp at h
          rw [Num.unhide HR] at hr
          subst hr
          go_wp2
          all_goals go_ret2
          all_goals exact ⟨rfl, rfl⟩
      · have d1 : decide ((s[k].toNat : Int) < 48) = true := by simp; omega
        have hr : secs s = (0, false) := by
          unfold secs
          rw [if_neg]
          intro h
          rw [Num.unhide hn (decide_eq_false (by unfold dig; omega))] at h
          simp at h
        rw [Num.unhide HR] at hr
        subst hr
        go_wp2
        all_goals go_ret2
        all_goals exact ⟨rfl, rfl⟩
    · obtain rfl : k = s.size := by omega
      have hfull : s.data.toList.take s.size = s.data.toList := List.take_of_length_le (by rw [Array.length_toList]; exact Nat.le_refl _)
      have hall := Num.unhide HA
      have hr := Num.unhide HR
      rw [hfull] at hall hb ⊢
      unfold secs at hr
      by_cases h0 : 0 < s.size
      · rw [if_pos ⟨h0, hall⟩] at hr
        subst hr
        have h0' : decide (0 < (s.size : Int)) = true := by simp; omega
        clear HR HA hall hfull
        obtain ⟨x, hx⟩ : ∃ x, sec s.data.toList = x := ⟨_, rfl⟩
        rw [hx] at hb ⊢
        have HX := Num.hide hx
        clear hx
        go_wp2
        all_goals go_ret2
        all_goals exact ⟨by rw [Num.unhide HX]; rfl, rfl⟩
      · rw [if_neg (fun h => h0 h.1)] at hr
        subst hr
        have hz : s.size = 0 := by omega
        have h0' : decide (0 < (s.size : Int)) = false := by rw [hz]; rfl
        have e0 : sec s.data.toList = 0 := by
          rw [List.eq_nil_of_length_eq_zero (show s.data.toList.length = 0 by rw [Array.length_toList]; exact hz)]; rfl
        rw [e0]
        clear HR HA hall hfull
        go_wp2
        all_goals go_ret2
        all_goals exact ⟨rfl, rfl⟩
end Sign
end Go.Proofs.YtbajfklnekfeoaaGreatDoor
namespace Go.Proofs.YtbajfklnekfeoaaGreatDoor
open Go.RowKit
set_option linter.unusedVariables false
namespace Body

set_option maxRecDepth 100000 in
set_option maxHeartbeats 4000000 in
theorem body_spec (v : Value) (l : List Flds.Fld) (s : ByteArray) (c : Bool) (w : World) (h : Flds.Is w v l) (hl : Flds.bulk l ≤ 1048576) (hs : s.size ≤ 1048576) :
    Calls Tryz.prog 76 #[v, .string s, .bool c] w fun e w' => e = .returned (.tuple #[.string (bodyOf l s c).1, .int .i64 (bodyOf l s c).2.1, .int .i64 (bodyOf l s c).2.2]) ∧ Below w.heap.size w w' := by
  have HG1 := Num.hide (Flds.get_spec v l teName w h (by omega))
  have HG2 := Num.hide (Flds.get_spec v l clName w h (by omega))
  unfold bodyOf
  have z1 := get_small l teName hl
  have z2 := get_small l clName hl
  clear h
  generalize Flds.get l teName = te at HG1 z1
  generalize Flds.get l clName = cl at HG2 z2
  obtain ⟨te1, te2⟩ := te
  obtain ⟨cl1, cl2⟩ := cl
  simp only at z1 z2 HG1 HG2
  have HS := Num.hide (fun W => Sign.seconds_spec cl1 W (by unfold maxLen; omega))
  have HLo := Num.hide (fun W => Sign.lower_spec te1 W (by unfold maxLen; omega))
  have HU := Num.hide (fun W => unchunk_spec s W (by omega))
  have hsb := secs_bd cl1
  obtain ⟨r, hr⟩ : ∃ r, bodyBy (te1, te2) (cl1, cl2) s c = r := ⟨_, rfl⟩
  rw [hr]
  unfold bodyBy at hr
  simp only at hr
  generalize Sign.secs cl1 = sc at HS hsb hr
  obtain ⟨n, is⟩ := sc
  simp only at HS hsb hr
  generalize Sign.lower te1 = lo at HLo hr
  generalize unchunk s = un at HU hr
  have HR := Num.hide hr
  clear hr
  unfold teName at HG1
  unfold clName at HG2
  go_enter Tryz.func76, Tryz.ntmps76
  go_wp2_with fail
  refine HG1.out.mono ?_
  rintro e w1 ⟨rfl, rfl⟩
  go_wp2_with fail
  refine HG2.out.mono ?_
  rintro e w2 ⟨rfl, rfl⟩
  go_wp2_with fail
  refine (HS.out _).mono ?_
  rintro e w3 ⟨rfl, rfl⟩
  cases te2 with
  | true =>
    rw [if_pos rfl] at HR
    by_cases hch : lo = chName
    · subst hch
      unfold chName at HLo
      cases cl2 with
      | true =>
        obtain rfl : bad = r := by rw [← HR.out, if_neg (by simp)]
        clear HR
        go_wp2_with fail
        refine (HLo.out _).mono ?_
        rintro e w3 ⟨rfl, hb3⟩
        have HB3 := Num.hide hb3
        clear hb3
        go_wp2
        go_ret3
        exact ⟨rfl, HB3.out⟩
      | false =>
        obtain rfl : un = r := by rw [← HR.out, if_pos ⟨rfl, rfl⟩]
        clear HR
        go_wp2_with fail
        refine (HLo.out _).mono ?_
        rintro e w3 ⟨rfl, hb3⟩
        have HB3 := Num.hide hb3
        clear hb3
        go_wp2_with fail
        refine (HU.out _).mono ?_
        rintro e w4 ⟨rfl, rfl⟩
        go_wp2
        go_ret3
        exact ⟨rfl, HB3.out⟩
    · obtain rfl : bad = r := by rw [← HR.out, if_neg (fun h => hch h.1)]
      have dq : (lo.toList == [99, 104, 117, 110, 107, 101, 100]) = false := by
        rw [beq_eq_false_iff_ne, ByteArray.toList_eq]
        intro e
        exact hch (ByteArray.ext (Array.toList_inj.1 e))
      clear HR hch
      go_wp2_with fail
      refine (HLo.out _).mono ?_
      rintro e w3 ⟨rfl, hb3⟩
      have HB3 := Num.hide hb3
      clear hb3
      go_wp2
      go_ret3
      exact ⟨rfl, HB3.out⟩
  | false =>
    rw [if_neg (by simp)] at HR
    cases cl2 with
    | true =>
      rw [if_pos rfl] at HR
      cases is with
      | false =>
        obtain rfl : bad = r := by rw [← HR.out, if_pos (.inl rfl)]
        clear HR
        go_wp2
        go_ret3
        exact ⟨rfl, Below.refl _ _⟩
      | true =>
        by_cases h60 : 60 < n
        · obtain rfl : bad = r := by rw [← HR.out, if_pos (.inr h60)]
          clear HR
          go_wp2
          go_ret3
          exact ⟨rfl, Below.refl _ _⟩
        · have d60 : decide (60 < n) = false := by rw [decide_eq_false_iff_not]; exact h60
          by_cases hsn : (s.size : Int) < n
          · obtain rfl : more = r := by rw [← HR.out, if_neg (by simp; omega), if_pos hsn]
            clear HR
            go_wp2
            go_ret3
            exact ⟨rfl, Below.refl _ _⟩
          · have dsn : decide ((s.size : Int) < n) = false := by rw [decide_eq_false_iff_not]; exact hsn
            obtain rfl : (s.extract 0 n.toNat, n, 0) = r := by rw [← HR.out, if_neg (by simp; omega), if_neg hsn]
            clear HR
            go_wp2
            go_ret3
            exact ⟨rfl, Below.refl _ _⟩
    | false =>
      rw [if_neg (by simp)] at HR
      cases c with
      | true =>
        rw [if_pos rfl] at HR
        by_cases h60 : (60 : Int) < (s.size : Int)
        · obtain rfl : bad = r := by rw [← HR.out, if_pos (by omega)]
          clear HR
          go_wp2
          go_ret3
          exact ⟨rfl, Below.refl _ _⟩
        · have d60 : decide ((60 : Int) < (s.size : Int)) = false := by rw [decide_eq_false_iff_not]; exact h60
          obtain rfl : (s, (s.size : Int), 0) = r := by rw [← HR.out, if_neg (by omega)]
          clear HR
          go_wp2
          go_ret3
          exact ⟨rfl, Below.refl _ _⟩
      | false =>
        obtain rfl : (⟨#[]⟩, 0, 0) = r := by rw [← HR.out, if_neg (by simp)]
        clear HR
        go_wp2
        go_ret3
        exact ⟨rfl, Below.refl _ _⟩
end Body
end Go.Proofs.YtbajfklnekfeoaaGreatDoor
