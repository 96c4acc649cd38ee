/-
  ReadFields of the specification: fields read off a text, in a row of the call's own; what was there stays.
-/
import Derived.Test.YtbeljhonikhdjaaDoorFldsOkSpec
import Derived.Test.YtbeljhonikhdjaaDoorFldPut
import Derived.Test.YtbeljhonikhdjaaDoorLineSpec
import Derived.Test.YtbeljhonikhdjaaDoorTrimSpec
import Derived.Test.YtbeljhonikhdjaaDoorRegLaw
namespace Go.Proofs.YtbeljhonikhdjaaDoor
open Go.RowKit
set_option linter.unusedVariables false
set_option linter.unusedSimpArgs false
namespace Flds

/-- the field of a line, where a colon stands at k -/
def fieldOf (line : ByteArray) (k : Nat) : Fld := (Sign.lower (line.extract 0 k), Sign.trim (line.extract (k + 1) line.size))
/-- what is read from 'a' on behind the fields l, in at most so many lines: the fields and the next place -/
def readGo (s : ByteArray) : Nat → Nat → List Fld → Option (List Fld × Nat)
  | 0, _, _ => none
  | n + 1, a, l =>
    match Line.eol s a with
    | none => none
    | some i => if i = a then some (l, i + 2) else
      match Line.colon (s.extract a i) with
      | none => none
      | some k => if okF (fieldOf (s.extract a i) k) = true then readGo s n (i + 2) (l ++ [fieldOf (s.extract a i) k]) else none
/-- the fields and the place behind them -/
def read (s : ByteArray) : Option (List Fld × Nat) := readGo s 13 0 []
/-- where the reading stands -/
structure RdAt (s : ByteArray) (a : Nat) (l : List Fld) : Prop where
  le : a ≤ s.size
  len : l.length ≤ 13
  all : l.all okF = true
  same : read s = readGo s (13 - l.length) a l
  small : ∀ f ∈ l, f.1.size ≤ 60 ∧ f.2.size ≤ 60
theorem rd_start (s : ByteArray) : RdAt s 0 [] := ⟨Nat.zero_le _, Nat.zero_le _, rfl, rfl, fun f hf => by cases hf⟩
theorem okF_small {f : Fld} (h : okF f = true) : f.1.size ≤ 60 ∧ f.2.size ≤ 60 := by
  unfold okF at h
  simp only [Bool.and_eq_true, decide_eq_true_iff] at h
  omega
section
variable {s : ByteArray} {a : Nat} {l : List Fld}
theorem rd_full (h : RdAt s a l) (hl : ¬ l.length ≤ 12) : read s = none := by
  rw [h.same, show 13 - l.length = 0 by omega]; rfl
theorem rd_step (h : RdAt s a l) (hl : l.length ≤ 12) : ∃ n, 13 - l.length = n + 1 := ⟨12 - l.length, by omega⟩
theorem rd_none (h : RdAt s a l) (hl : l.length ≤ 12) (he : Line.eol s a = none) : read s = none := by
  obtain ⟨n, hn⟩ := rd_step h hl
  rw [h.same, hn, readGo, he]
theorem rd_done (h : RdAt s a l) (hl : l.length ≤ 12) (he : Line.eol s a = some a) : read s = some (l, a + 2) := by
  obtain ⟨n, hn⟩ := rd_step h hl
  rw [h.same, hn, readGo, he]; simp
theorem rd_nocolon (h : RdAt s a l) (hl : l.length ≤ 12) {i : Nat} (he : Line.eol s a = some i) (hi : i ≠ a) (hc : Line.colon (s.extract a i) = none) : read s = none := by
  obtain ⟨n, hn⟩ := rd_step h hl
  rw [h.same, hn, readGo, he]; simp only; rw [if_neg hi, hc]
theorem rd_bad (h : RdAt s a l) (hl : l.length ≤ 12) {i k : Nat} (he : Line.eol s a = some i) (hi : i ≠ a) (hc : Line.colon (s.extract a i) = some k) (hf : okF (fieldOf (s.extract a i) k) = false) : read s = none := by
  obtain ⟨n, hn⟩ := rd_step h hl
  rw [h.same, hn, readGo, he]; simp only; rw [if_neg hi, hc]; simp only; rw [if_neg (by rw [hf]; decide)]
theorem rd_more (h : RdAt s a l) (hl : l.length ≤ 12) {i k : Nat} (he : Line.eol s a = some i) (hi : i ≠ a) (hc : Line.colon (s.extract a i) = some k) (hf : okF (fieldOf (s.extract a i) k) = true) : RdAt s (i + 2) (l ++ [fieldOf (s.extract a i) k]) where
  le := by have := Line.eol_in he; omega
  len := by rw [List.length_append]; simp; omega
  all := by rw [List.all_append, h.all]; simp [hf]
  same := by
    obtain ⟨n, hn⟩ := rd_step h hl
    rw [h.same, hn, readGo, he]; simp only; rw [if_neg hi, hc]; simp only; rw [if_pos hf, List.length_append, List.length_singleton, show 13 - (l.length + 1) = n by omega]
  small := by
    intro f hf2
    rcases List.mem_append.1 hf2 with h1 | h1
    · exact h.small f h1
    · obtain rfl := List.mem_singleton.1 h1
      exact okF_small hf
theorem rd_ok (h : RdAt s a l) (hl : l.length ≤ 12) : ok l = true := by unfold ok; rw [h.all, Bool.true_and]; exact decide_eq_true hl
end
/-- what the call tells: the fields, how many bytes, and whether there were any to be read -/
def readL (s : ByteArray) : List Fld := match read s with | some (l, _) => l | none => []
def readN (s : ByteArray) : Int := match read s with | some (_, n) => (n : Int) | none => 0
def readB (s : ByteArray) : Bool := (read s).isSome
theorem told_none {s : ByteArray} (h : read s = none) : readL s = [] ∧ readN s = 0 ∧ readB s = false := by unfold readL readN readB; rw [h]; exact ⟨rfl, rfl, rfl⟩
theorem told_some {s : ByteArray} {l : List Fld} {n : Nat} (h : read s = some (l, n)) : readL s = l ∧ readN s = (n : Int) ∧ readB s = true := by unfold readL readN readB; rw [h]; exact ⟨rfl, rfl, rfl⟩
theorem readGo_length (s : ByteArray) : ∀ (n a : Nat) (l : List Fld) (p : List Fld × Nat), readGo s n a l = some p → p.1.length ≤ l.length + n := by
  intro n
  induction n with
  | zero => intro a l p h; cases h
  | succ n ih =>
    intro a l p h
    rw [readGo] at h
    cases he : Line.eol s a with
    | none => rw [he] at h; cases h
    | some i =>
      rw [he] at h
      simp only at h
      by_cases hi : i = a
      · rw [if_pos hi] at h; cases h; simp only; omega
      · rw [if_neg hi] at h
        cases hc : Line.colon (s.extract a i) with
        | none => rw [hc] at h; cases h
        | some k =>
          rw [hc] at h
          simp only at h
          by_cases hk : okF (fieldOf (s.extract a i) k) = true
          · rw [if_pos hk] at h
            have := ih _ _ _ h
            rw [List.length_append, List.length_singleton] at this
            omega
          · rw [if_neg hk] at h; cases h
theorem readL_length (s : ByteArray) : (readL s).length ≤ 13 := by
  unfold readL
  cases h : read s with
  | none => exact Nat.zero_le _
  | some p =>
    have := readGo_length s _ _ _ _ h
    rw [List.length_nil] at this
    obtain ⟨l, n⟩ := p
    simp only at this ⊢
    omega

/-- what holds while a line is read -/
def Rd (w : World) (v : Value) (l : List Fld) (W : World) : Prop := Own w.heap.size W v l ∧ Below w.heap.size w W
theorem rd_below {w : World} {v : Value} {l : List Fld} {W W' : World} (h : Rd w v l W) (hb : Below W.heap.size W W') : Rd w v l W' := ⟨Recs.own_below h.1 hb, h.2.trans (hb.mono h.2.size)⟩
theorem rd_alloc {w : World} {v : Value} {l : List Fld} {W : World} (h : Rd w v l W) (o : Obj) : Rd w v l (W.alloc o) := ⟨World.ownsRow.alloc h.1 o, h.2.alloc h.2.size o⟩
theorem rd_set {w : World} {v : Value} {l : List Fld} {W : World} {g : Nat} {x y : Value} (h : Rd w v l W) (hg : ∀ k, v.ownBlock = some k → k < g) (hw : w.heap.size ≤ g) : Rd w v l ((W.setCell ⟨g, 0, none⟩ x).setCell ⟨g, 1, none⟩ y) :=
  ⟨Recs.own_stay h.1 hg (((Below.refl g W).setCell (Nat.le_refl _) _).setCell (Nat.le_refl _) _), (h.2.setCell hw _).setCell hw _⟩
theorem bad_end {w wr : World} (h : w.heap.size ≤ wr.heap.size) : Own w.heap.size (wr.alloc (.cells #[] 33)) (.slice (some ⟨wr.heap.size, 0, none⟩) 0 0) [] := World.ownsRow_made wr #[] 0 h (Nat.zero_le _) rfl
set_option maxRecDepth 100000 in
set_option maxHeartbeats 4000000 in
theorem read_spec (s : ByteArray) (w : World) (hs : s.size ≤ 1048576) :
    Calls Tryd.prog 23 #[.string s] w fun e w' => ∃ v', e = .returned (.tuple #[v', .int .i64 (readN s), .bool (readB s)]) ∧ Own w.heap.size w' v' (readL s) ∧ Below w.heap.size w w' := by
  obtain ⟨i0, hi0, hz0, hz1, hz2⟩ := info_parts infoF
  have HD := Num.hide (made_nil w)
  obtain ⟨L, hL⟩ : ∃ L, readL s = L := ⟨_, rfl⟩
  obtain ⟨N, hN⟩ : ∃ N, readN s = N := ⟨_, rfl⟩
  obtain ⟨b, hb⟩ : ∃ b, readB s = b := ⟨_, rfl⟩
  rw [hL, hN, hb]
  have HR : Hid (readL s = L ∧ readN s = N ∧ readB s = b) := ⟨hL, hN, hb⟩
  clear hL hN hb
  have HE : Hid (read s = none → L = [] ∧ N = 0 ∧ b = false) := fun h => by
    obtain ⟨h1, h2, h3⟩ := told_none h
    obtain ⟨g1, g2, g3⟩ := HR.out
    exact ⟨g1.symm.trans h1, g2.symm.trans h2, g3.symm.trans h3⟩
  have HF : Hid (∀ l n, read s = some (l, n) → L = l ∧ N = (n : Int) ∧ b = true) := fun l n h => by
    obtain ⟨h1, h2, h3⟩ := told_some h
    obtain ⟨g1, g2, g3⟩ := HR.out
    exact ⟨g1.symm.trans h1, g2.symm.trans h2, g3.symm.trans h3⟩
  clear HR
  go_enter Tryd.func23, Tryd.ntmps23
  go_wp2
  go_loopw [5, 6] (fun ov av wr => ∃ (a : Nat) (l : List Fld), av = .int .i64 (a : Int) ∧ Hid (RdAt s a l) ∧ Hid (Own w.heap.size wr ov l) ∧ Hid (Below w.heap.size w wr)) (fun _ av _ => s.size - (intOf av).toNat)
  case atStart => exact ⟨0, [], rfl, rd_start s, HD, (Below.refl _ _).alloc (Nat.le_refl _) _⟩
  case round =>
    clear HD
    obtain ⟨a, l, rfl, HA, HO, HB⟩ := hrel
    obtain ⟨va, vc, hv⟩ := Recs.own_len HO.out
    subst hv
    have hle := HA.out.le
    have hln := HA.out.len
    have hsz := HB.out.size
    by_cases h12 : l.length ≤ 12
    · have d12 : decide ((l.length : Int) ≤ 12) = true := by simp; omega
      have HL := Num.hide (fun W => Line.line_spec s a W (by omega) hle)
      cases he : Line.eol s a with
      | none =>
        have hl : Line.lineOf s a = (⟨#[]⟩, -1) := by unfold Line.lineOf; rw [he]
        rw [hl] at HL
        obtain ⟨rfl, rfl, rfl⟩ := Num.unhide HE (rd_none HA.out h12 he)
        clear hl he
        go_wp2_with fail
        refine (Num.unhide HL _).mono ?_
        rintro e w1 ⟨rfl, rfl⟩
        go_wp2
        go_ret3
        exact ⟨_, rfl, bad_end hsz, HB.out.alloc hsz _⟩
      | some i =>
        obtain ⟨hin1, hin2⟩ := Line.eol_in he
        have hl : Line.lineOf s a = (s.extract a i, (i : Int) + 2) := by unfold Line.lineOf; rw [he]
        rw [hl] at HL
        clear hl
        by_cases hia : i = a
        · subst hia
          have hem : s.extract i i = ⟨#[]⟩ := Sign.empty_true _ (by rw [ByteArray.size_extract]; omega)
          rw [hem] at HL
          obtain ⟨rfl, rfl, rfl⟩ := Num.unhide HF _ _ (rd_done HA.out h12 he)
          have HC := Num.hide (fun W h => ok_spec (.slice va L.length vc) L W h (fun f hf => by have := HA.out.small f hf; unfold maxLen; omega) (by omega))
          rw [rd_ok HA.out h12] at HC
          clear hem he
          go_wp2_with fail
          refine (Num.unhide HL _).mono ?_
          rintro e w1 ⟨rfl, rfl⟩
          go_wp2_with fail
          refine (Num.unhide HC _ (Recs.own_is cells_len HO.out)).mono ?_
          rintro e w2 ⟨rfl, hb2⟩
          have HO2 := Num.hide (Recs.own_below HO.out hb2)
          have HB2 := Num.hide (HB.out.trans (hb2.mono hsz))
          clear hb2
          go_wp2
          go_ret3
          exact ⟨_, rfl, HO2.out, HB2.out⟩
        · have hts : (s.extract a i).size = i - a := by rw [ByteArray.size_extract]; omega
          have hne := Sign.empty_false (s.extract a i) (by omega)
          have HC := Num.hide (fun W => Line.colon_spec (s.extract a i) W (by unfold maxLen; omega))
          cases hc : Line.colon (s.extract a i) with
          | none =>
            have hco : Line.colonOf (s.extract a i) = -1 := by unfold Line.colonOf; rw [hc]
            rw [hco] at HC
            obtain ⟨rfl, rfl, rfl⟩ := Num.unhide HE (rd_nocolon HA.out h12 he hia hc)
            clear hco hc he hts
            generalize s.extract a i = t at HL hne HC
            go_wp2_with fail
            refine (Num.unhide HL _).mono ?_
            rintro e w1 ⟨rfl, rfl⟩
            go_wp2_with fail
            refine (Num.unhide HC _).mono ?_
            rintro e w2 ⟨rfl, rfl⟩
            go_wp2
            go_ret3
            exact ⟨_, rfl, bad_end hsz, HB.out.alloc hsz _⟩
          | some k =>
            have hk := Line.colon_in hc
            have hco : Line.colonOf (s.extract a i) = (k : Int) := by unfold Line.colonOf; rw [hc]
            rw [hco] at HC
            have HBad := Num.hide (rd_bad HA.out h12 he hia hc)
            have HMore := Num.hide (rd_more HA.out h12 he hia hc)
            unfold fieldOf at HBad HMore
            clear hco hc
            generalize s.extract a i = t at HL hne HC hk hts HBad HMore
            have HLo := Num.hide (fun W => Sign.lower_spec (t.extract 0 k) W (by unfold maxLen; rw [ByteArray.size_extract]; omega))
            have HTr := Num.hide (fun W => Sign.trim_spec (t.extract (k + 1) t.size) W (by unfold maxLen; rw [ByteArray.size_extract]; omega))
            have hx1 : (Sign.lower (t.extract 0 k)).size ≤ 1048576 := by rw [Sign.size_lower, ByteArray.size_extract]; omega
            generalize Sign.lower (t.extract 0 k) = x at HLo HBad HMore hx1
            have hy1 : (Sign.trim (t.extract (k + 1) t.size)).size ≤ 1048576 := by have := Sign.trim_size (t.extract (k + 1) t.size); rw [ByteArray.size_extract] at this; omega
            generalize Sign.trim (t.extract (k + 1) t.size) = y at HTr HBad HMore hy1
            go_wp2_with fail
            refine (Num.unhide HL _).mono ?_
            rintro e w1 ⟨rfl, rfl⟩
            go_wp2_with fail
            refine (Num.unhide HC _).mono ?_
            rintro e w2 ⟨rfl, rfl⟩
            go_wp2
            have HTs := Num.hide hts
            have hk1 : k ≤ t.size := by omega
            have hk2 : IntKind.i64.wrap ((k : Int) + 1) = (k : Int) + 1 := by rw [IntKind.wrap_i64]; omega
            have hk3 : (0 : Int) ≤ (k : Int) + 1 := by omega
            have hk4 : (k : Int) + 1 ≤ (t.size : Int) := by omega
            have hk5 : ((k : Int) + 1).toNat = k + 1 := by omega
            clear hts
            refine wp_region_held_drew (S := Rd w (.slice va l.length vc) l) (by kernel_rfl) ⟨HO.out, HB.out.drew⟩ (fun hHeld => ?_)
            refine Reg.take (i := 0) (d := 33) (v := ?_) rfl rfl (by kernel_rfl) (by kernel_rfl) (by kernel_rfl) (fun _ _ _ h => h) (by rfl) ?_ hHeld ?_
            rotate_left
            · rintro W h1
              first | (go_simp; done) | (go_simp; with_reducible rfl)
            simp only [Act.put, List.setIfInBounds_toArray, List.set_cons_zero, List.set_cons_succ]
            refine Reg.take (i := 1) (d := 34) (v := ?_) rfl rfl (by kernel_rfl) (by kernel_rfl) (by kernel_rfl) (fun _ _ _ h => h) (by rfl) ?_ hHeld ?_
            rotate_left
            · rintro W h1
              first | (go_simp; done) | (go_simp; with_reducible rfl)
            simp only [Act.put, List.setIfInBounds_toArray, List.set_cons_zero, List.set_cons_succ]
            refine Reg.take (i := 2) (d := 35) (v := ?_) rfl rfl (by kernel_rfl) (by kernel_rfl) (by kernel_rfl) (fun _ _ _ h => h) (by rfl) ?_ hHeld ?_
            rotate_left
            · rintro W h1
              first | (go_simp; done) | (go_simp; with_reducible rfl)
            simp only [Act.put, List.setIfInBounds_toArray, List.set_cons_zero, List.set_cons_succ]
            refine Reg.take (i := 4) (d := 37) (v := ?_) rfl rfl (by kernel_rfl) (by kernel_rfl) (by kernel_rfl) (fun _ _ _ h => h) (by rfl) ?_ hHeld ?_
            rotate_left
            · rintro W h1
              first | (go_simp; done) | (go_simp; with_reducible rfl)
            simp only [Act.put, List.setIfInBounds_toArray, List.set_cons_zero, List.set_cons_succ]
            refine Reg.take (i := 5) (d := 38) (v := ?_) rfl rfl (by kernel_rfl) (by kernel_rfl) (by kernel_rfl) (fun _ _ _ h => h) (by rfl) ?_ hHeld ?_
            rotate_left
            · rintro W h1
              first | (go_simp; done) | (go_simp; with_reducible rfl)
            simp only [Act.put, List.setIfInBounds_toArray, List.set_cons_zero, List.set_cons_succ]
            refine Reg.take (i := 6) (d := 39) (v := ?_) rfl rfl (by kernel_rfl) (by kernel_rfl) (by kernel_rfl) (fun _ _ _ h => h) (by rfl) ?_ hHeld ?_
            rotate_left
            · rintro W h1
              first | (go_simp; done) | (go_simp; with_reducible rfl)
            simp only [Act.put, List.setIfInBounds_toArray, List.set_cons_zero, List.set_cons_succ]
            refine Reg.take (i := 7) (d := 40) (v := ?_) rfl rfl (by kernel_rfl) (by kernel_rfl) (by kernel_rfl) (fun _ _ _ h => h) (by rfl) ?_ hHeld ?_
            rotate_left
            · rintro W h1
              first | (go_simp; done) | (go_simp; with_reducible rfl)
            simp only [Act.put, List.setIfInBounds_toArray, List.set_cons_zero, List.set_cons_succ]
            refine wpAnyH_ready (rs := [3, 10]) (by kernel_rfl) (by simp) (AllReadyH.cons (Reg.at_ rfl) (fun K hK => ?_) (AllReadyH.cons (Reg.at_ rfl) (fun K hK => ?_) AllReadyH.nil))
            · rw [if_pos (by rfl)]
              go_wp2_with fail
              refine (Num.unhide HLo _).mono ?_
              rintro e w3 ⟨rfl, hb3⟩
              go_wp2_with fail
              refine hK.out _ _ ?_ (fun hHeld2 => ?_)
              · exact rd_below hHeld hb3
              clear hK K
              replace hHeld := hHeld2
              clear hHeld2
              refine wpAnyH_ready (rs := [8, 10]) (by kernel_rfl) (by simp) (AllReadyH.cons (Reg.at_ rfl) (fun K hK => ?_) (AllReadyH.cons (Reg.at_ rfl) (fun K hK => ?_) AllReadyH.nil))
              · rw [if_pos (by rfl)]
                go_wp2_with fail
                refine (Num.unhide HTr _).mono ?_
                rintro e w4 ⟨rfl, rfl⟩
                go_wp2_with fail
                refine hK.out _ _ ?_ (fun hHeld2 => ?_)
                · exact hHeld
                clear hK K
                replace hHeld := hHeld2
                clear hHeld2
                refine Reg.take (i := 9) (d := 42) (v := ?_) rfl rfl (by kernel_rfl) (by kernel_rfl) (by kernel_rfl) (fun _ _ _ h => h) (by rfl) ?_ hHeld ?_
                rotate_left
                · rintro W h1
                  first | (go_simp; done) | (go_simp; with_reducible rfl)
                simp only [Act.put, List.setIfInBounds_toArray, List.set_cons_zero, List.set_cons_succ]
                refine Reg.call (i := 10) rfl (by kernel_rfl) (by rfl) (fun K hK => ?_)
                have hKeep := hHeld
                go_wp2_with fail
                refine hK.out _ _ ?_ (fun hHeld2 => ?_)
                · exact rd_alloc hHeld _
                clear hK K
                replace hHeld := hHeld2
                clear hHeld2
                refine Reg.call (i := 11) rfl (by kernel_rfl) (by rfl) (fun K hK => ?_)
                go_wp2_with fail
                refine hK.out _ _ ?_ (fun hHeld2 => ?_)
                · exact rd_alloc hKeep _
                clear hK K
                replace hHeld := hHeld2
                clear hHeld2 hKeep hb3
                have b1 : (w3.alloc (.cells #[.string x, .string y] 33)).cell? ⟨w3.heap.size, 0, none⟩ = some (.string x) := by simp
                have b2 : (w3.alloc (.cells #[.string x, .string y] 33)).cell? ⟨w3.heap.size, 1, none⟩ = some (.string y) := by simp
                have hgb : w3.heap.size < (w3.alloc (.cells #[.string x, .string y] 33)).heap.size := by simp
                refine wpAnyH_done (by kernel_rfl) ?_ _
                have HH := Num.hide hHeld
                have HOk := Num.hide (fun W => okF_spec x y W (by unfold maxLen; omega) (by unfold maxLen; omega))
                clear hHeld
                cases hok : okF (x, y) with
                | false =>
                  rw [hok] at HOk
                  obtain ⟨rfl, rfl, rfl⟩ := Num.unhide HE (Num.unhide HBad hok)
                  clear hok
                  go_wp2_with fail
                  refine (Num.unhide HOk _).mono ?_
                  rintro e w5 ⟨rfl, hb5⟩
                  have R5 := Num.hide (rd_below HH.out hb5)
                  have s5 := R5.out.2.size
                  clear hb5
                  go_wp2
                  go_ret3
                  exact ⟨_, rfl, bad_end s5, R5.out.2.alloc s5 _⟩
                | true =>
                  rw [hok] at HOk
                  have HA2 := Num.hide (Num.unhide HMore hok)
                  clear hok
                  go_wp2_with fail
                  refine (Num.unhide HOk _).mono ?_
                  rintro e w5 ⟨rfl, hb5⟩
                  have R5 := Num.hide (rd_below HH.out hb5)
                  have s5 := R5.out.2.size
                  have k1 := (hb5.cell (p := ⟨w3.heap.size, 0, none⟩) hgb).trans b1
                  have k2 := (hb5.cell (p := ⟨w3.heap.size, 1, none⟩) hgb).trans b2
                  clear hb5 b1 b2
                  go_wp2_with (at_builtin; refine wpList_append_own _ rfl _ _ 24 rfl w.heap.size 33 i0 _ 2 32 Tryd.underlying24 hi0 hz0 hz1 hz2 rfl (by decide) _ _ _ rfl (World.ownsRow.alloc R5.out.1 _) ⟨w5.heap.size, 0, none⟩ 1 1 [.string x, .string y] rfl rfl (cells_two w5 x y) (two_ok x y) (by unfold maxLen; omega) (by omega) ?c9 ?_)
                  case c9 => first | omega | (simp; omega)
                  intro v' w6 ho6 hg6 _
                  obtain ⟨hp1, hp2⟩ := put_more s5 R5.out.1 R5.out.2 ho6 hg6
                  have HP1 := Num.hide hp1
                  have HP2 := Num.hide hp2
                  clear ho6 hg6 hp1 hp2
                  go_wp2
                  go_roundw
                  case rel => exact ⟨i + 2, _, by go_num, HA2, HP1, HP2⟩
                  case measure => simp [intOf]; omega
              · rw [if_pos (by rfl)]
                have hKeep := hHeld
                go_wp2_with fail
                refine hK.out _ _ ?_ (fun hHeld2 => ?_)
                · exact rd_alloc hHeld _
                clear hK K
                replace hHeld := hHeld2
                clear hHeld2
                refine Reg.call (i := 8) rfl (by kernel_rfl) (by rfl) (fun K hK => ?_)
                go_wp2_with fail
                refine (Num.unhide HTr _).mono ?_
                rintro e w4 ⟨rfl, rfl⟩
                go_wp2_with fail
                refine hK.out _ _ ?_ (fun hHeld2 => ?_)
                · exact hHeld
                clear hK K
                replace hHeld := hHeld2
                clear hHeld2
                refine Reg.take (i := 9) (d := 42) (v := ?_) rfl rfl (by kernel_rfl) (by kernel_rfl) (by kernel_rfl) (fun _ _ _ h => h) (by rfl) ?_ hHeld ?_
                rotate_left
                · rintro W h1
                  first | (go_simp; done) | (go_simp; with_reducible rfl)
                simp only [Act.put, List.setIfInBounds_toArray, List.set_cons_zero, List.set_cons_succ]
                refine Reg.call (i := 11) rfl (by kernel_rfl) (by rfl) (fun K hK => ?_)
                go_wp2_with fail
                refine hK.out _ _ ?_ (fun hHeld2 => ?_)
                · exact rd_alloc hKeep _
                clear hK K
                replace hHeld := hHeld2
                clear hHeld2 hKeep hb3
                have b1 : (w3.alloc (.cells #[.string x, .string y] 33)).cell? ⟨w3.heap.size, 0, none⟩ = some (.string x) := by simp
                have b2 : (w3.alloc (.cells #[.string x, .string y] 33)).cell? ⟨w3.heap.size, 1, none⟩ = some (.string y) := by simp
                have hgb : w3.heap.size < (w3.alloc (.cells #[.string x, .string y] 33)).heap.size := by simp
                refine wpAnyH_done (by kernel_rfl) ?_ _
                have HH := Num.hide hHeld
                have HOk := Num.hide (fun W => okF_spec x y W (by unfold maxLen; omega) (by unfold maxLen; omega))
                clear hHeld
                cases hok : okF (x, y) with
                | false =>
                  rw [hok] at HOk
                  obtain ⟨rfl, rfl, rfl⟩ := Num.unhide HE (Num.unhide HBad hok)
                  clear hok
                  go_wp2_with fail
                  refine (Num.unhide HOk _).mono ?_
                  rintro e w5 ⟨rfl, hb5⟩
                  have R5 := Num.hide (rd_below HH.out hb5)
                  have s5 := R5.out.2.size
                  clear hb5
                  go_wp2
                  go_ret3
                  exact ⟨_, rfl, bad_end s5, R5.out.2.alloc s5 _⟩
                | true =>
                  rw [hok] at HOk
                  have HA2 := Num.hide (Num.unhide HMore hok)
                  clear hok
                  go_wp2_with fail
                  refine (Num.unhide HOk _).mono ?_
                  rintro e w5 ⟨rfl, hb5⟩
                  have R5 := Num.hide (rd_below HH.out hb5)
                  have s5 := R5.out.2.size
                  have k1 := (hb5.cell (p := ⟨w3.heap.size, 0, none⟩) hgb).trans b1
                  have k2 := (hb5.cell (p := ⟨w3.heap.size, 1, none⟩) hgb).trans b2
                  clear hb5 b1 b2
                  go_wp2_with (at_builtin; refine wpList_append_own _ rfl _ _ 24 rfl w.heap.size 33 i0 _ 2 32 Tryd.underlying24 hi0 hz0 hz1 hz2 rfl (by decide) _ _ _ rfl (World.ownsRow.alloc R5.out.1 _) ⟨w5.heap.size, 0, none⟩ 1 1 [.string x, .string y] rfl rfl (cells_two w5 x y) (two_ok x y) (by unfold maxLen; omega) (by omega) ?c9 ?_)
                  case c9 => first | omega | (simp; omega)
                  intro v' w6 ho6 hg6 _
                  obtain ⟨hp1, hp2⟩ := put_more s5 R5.out.1 R5.out.2 ho6 hg6
                  have HP1 := Num.hide hp1
                  have HP2 := Num.hide hp2
                  clear ho6 hg6 hp1 hp2
                  go_wp2
                  go_roundw
                  case rel => exact ⟨i + 2, _, by go_num, HA2, HP1, HP2⟩
                  case measure => simp [intOf]; omega
            · rw [if_pos (by rfl)]
              have hKeep := hHeld
              go_wp2_with fail
              refine hK.out _ _ ?_ (fun hHeld2 => ?_)
              · exact rd_alloc hHeld _
              clear hK K
              replace hHeld := hHeld2
              clear hHeld2
              refine Reg.call (i := 3) rfl (by kernel_rfl) (by rfl) (fun K hK => ?_)
              go_wp2_with fail
              refine (Num.unhide HLo _).mono ?_
              rintro e w3 ⟨rfl, hb3⟩
              go_wp2_with fail
              refine hK.out _ _ ?_ (fun hHeld2 => ?_)
              · exact rd_below hHeld hb3
              clear hK K
              replace hHeld := hHeld2
              clear hHeld2
              refine Reg.call (i := 8) rfl (by kernel_rfl) (by rfl) (fun K hK => ?_)
              go_wp2_with fail
              refine (Num.unhide HTr _).mono ?_
              rintro e w4 ⟨rfl, rfl⟩
              go_wp2_with fail
              refine hK.out _ _ ?_ (fun hHeld2 => ?_)
              · exact hHeld
              clear hK K
              replace hHeld := hHeld2
              clear hHeld2
              refine Reg.take (i := 9) (d := 42) (v := ?_) rfl rfl (by kernel_rfl) (by kernel_rfl) (by kernel_rfl) (fun _ _ _ h => h) (by rfl) ?_ hHeld ?_
              rotate_left
              · rintro W h1
                first | (go_simp; done) | (go_simp; with_reducible rfl)
              simp only [Act.put, List.setIfInBounds_toArray, List.set_cons_zero, List.set_cons_succ]
              refine Reg.call (i := 11) rfl (by kernel_rfl) (by rfl) (fun K hK => ?_)
              have e1 := (hb3.cell (p := ⟨wr.heap.size, 0, none⟩) (by simp)).trans (show _ = some (.string ⟨#[]⟩) by simp)
              have e2 := (hb3.cell (p := ⟨wr.heap.size, 1, none⟩) (by simp)).trans (show _ = some (.string ⟨#[]⟩) by simp)
              have f1 := (hb3.frozen (p := ⟨wr.heap.size, 0, none⟩) (by simp)).trans (show _ = false by simp)
              have f2 := (hb3.frozen (p := ⟨wr.heap.size, 1, none⟩) (by simp)).trans (show _ = false by simp)
              have hlt3 : wr.heap.size < w3.heap.size := by have := hb3.size; simp at this; omega
              go_wp2_with fail
              refine hK.out _ _ ?_ (fun hHeld2 => ?_)
              · exact rd_set hHeld (fun k hk => (Recs.own_lt HO.out k hk).2) hsz
              clear hK K
              replace hHeld := hHeld2
              have b1 := box_first (x := x) (y := y) e1
              have b2 := box_second (x := x) (y := y) e2
              have hgb : wr.heap.size < ((w3.setCell ⟨wr.heap.size, 0, none⟩ (.string x)).setCell ⟨wr.heap.size, 1, none⟩ (.string y)).heap.size := by simp; omega
              clear hHeld2 hKeep hb3 e1 e2 f1 f2
              refine wpAnyH_done (by kernel_rfl) ?_ _
              have HH := Num.hide hHeld
              have HOk := Num.hide (fun W => okF_spec x y W (by unfold maxLen; omega) (by unfold maxLen; omega))
              clear hHeld
              cases hok : okF (x, y) with
              | false =>
                rw [hok] at HOk
                obtain ⟨rfl, rfl, rfl⟩ := Num.unhide HE (Num.unhide HBad hok)
                clear hok
                go_wp2_with fail
                refine (Num.unhide HOk _).mono ?_
                rintro e w5 ⟨rfl, hb5⟩
                have R5 := Num.hide (rd_below HH.out hb5)
                have s5 := R5.out.2.size
                clear hb5
                go_wp2
                go_ret3
                exact ⟨_, rfl, bad_end s5, R5.out.2.alloc s5 _⟩
              | true =>
                rw [hok] at HOk
                have HA2 := Num.hide (Num.unhide HMore hok)
                clear hok
                go_wp2_with fail
                refine (Num.unhide HOk _).mono ?_
                rintro e w5 ⟨rfl, hb5⟩
                have R5 := Num.hide (rd_below HH.out hb5)
                have s5 := R5.out.2.size
                have k1 := (hb5.cell (p := ⟨wr.heap.size, 0, none⟩) hgb).trans b1
                have k2 := (hb5.cell (p := ⟨wr.heap.size, 1, none⟩) hgb).trans b2
                clear hb5 b1 b2
                go_wp2_with (at_builtin; refine wpList_append_own _ rfl _ _ 24 rfl w.heap.size 33 i0 _ 2 32 Tryd.underlying24 hi0 hz0 hz1 hz2 rfl (by decide) _ _ _ rfl (World.ownsRow.alloc R5.out.1 _) ⟨w5.heap.size, 0, none⟩ 1 1 [.string x, .string y] rfl rfl (cells_two w5 x y) (two_ok x y) (by unfold maxLen; omega) (by omega) ?c9 ?_)
                case c9 => first | omega | (simp; omega)
                intro v' w6 ho6 hg6 _
                obtain ⟨hp1, hp2⟩ := put_more s5 R5.out.1 R5.out.2 ho6 hg6
                have HP1 := Num.hide hp1
                have HP2 := Num.hide hp2
                clear ho6 hg6 hp1 hp2
                go_wp2
                go_roundw
                case rel => exact ⟨i + 2, _, by go_num, HA2, HP1, HP2⟩
                case measure => simp [intOf]; omega
    · obtain ⟨rfl, rfl, rfl⟩ := Num.unhide HE (rd_full HA.out h12)
      have d12 : decide ((l.length : Int) ≤ 12) = false := by simp; omega
      go_wp2
      go_ret3
      exact ⟨_, rfl, bad_end hsz, HB.out.alloc hsz _⟩
end Flds
end Go.Proofs.YtbeljhonikhdjaaDoor
