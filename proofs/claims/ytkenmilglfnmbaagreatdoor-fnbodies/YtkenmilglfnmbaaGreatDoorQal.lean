/-
  BodiesWalk: FnBodies: bodies in pieces are read as they were, whatever stands behind; of a beginning more is wanted: for every draw, of a program whose functions tell what they are to tell.
-/
import Derived.Test.YtkenmilglfnmbaaGreatDoorQaa
import Derived.Test.YtkenmilglfnmbaaGreatDoorQad
import Derived.Test.YtkenmilglfnmbaaGreatDoorQaf
import Derived.Test.YtkenmilglfnmbaaGreatDoorQaj
import Derived.Test.YtkenmilglfnmbaaGreatDoorQak
namespace Go.Proofs.YtkenmilglfnmbaaGreatDoor
open Go.RowKit
set_option linter.unusedVariables false
namespace Bodies
open Body Draw

theorem is_one (W : World) (x y : ByteArray) : Flds.Is (W.alloc (.cells #[.string x, .string y] 36)) (.slice (some ⟨W.heap.size, 0, none⟩) 1 1) [(x, y)] := by
  refine ⟨_, 1, rfl, fun _ => ⟨W.heap.size, 0, rfl, Nat.le_refl _, by unfold maxLen; omega, by simp, ?_⟩⟩
  intro i h j u hu
  obtain rfl : i = 0 := by simp at h; omega
  rw [cell_of_row _ _ _ _ _ _ (heap_alloc_new W _)]
  match j, hu with
  | 0, hu => simpa [Flds.cells] using hu
  | 1, hu => simpa [Flds.cells] using hu
  | j + 2, hu => simp [Flds.cells] at hu
theorem get_one_yes (x y : ByteArray) : Flds.get [(x, y)] x = (y, true) := by
  unfold Flds.get
  simp only [List.foldl_cons, List.foldl_nil, Flds.getStep, if_pos]
  rw [if_neg (by simp)]
  congr 1
theorem get_one_no (x y z : ByteArray) (h : ¬ x = z) : Flds.get [(x, y)] z = (⟨#[]⟩, false) := by
  unfold Flds.get
  simp only [List.foldl_cons, List.foldl_nil, Flds.getStep]
  rw [if_neg h]
theorem names_ne : ¬ teName = clName := by
  intro h
  have : teName.data.toList = clName.data.toList := by rw [h]
  revert this
  decide
theorem lower_ch : Sign.lower chName = chName := by
  apply ByteArray.ext
  apply Array.toList_inj.1
  decide
/-- what is told of a body in pieces -/
theorem body_te (t : ByteArray) : bodyOf [(teName, chName)] t false = unchunk t := by
  unfold bodyOf
  rw [get_one_yes, get_one_no _ _ _ names_ne]
  unfold bodyBy
  simp only
  rw [if_pos trivial, if_pos ⟨lower_ch, trivial⟩]
def decB (n : Int) : ByteArray := ⟨(Lib.itoa n).toArray⟩
theorem secs_dec : ∀ n : Nat, n ≤ 60 → Sign.secs (decB (n : Int)) = ((n : Int), true) := by decide +kernel
theorem decB_size : ∀ n : Nat, n ≤ 60 → (decB (n : Int)).size ≤ 2 := by decide +kernel
/-- what is told of a body by its length -/
theorem body_cl (s q : ByteArray) (h : s.size ≤ 60) : bodyOf [(clName, decB (s.size : Int))] (s ++ q) true = (s, (s.size : Int), 0) := by
  unfold bodyOf
  rw [get_one_yes, get_one_no _ _ _ (fun e => names_ne e.symm)]
  unfold bodyBy
  simp only
  rw [secs_dec s.size h]
  simp only
  rw [if_neg (by simp), if_pos trivial, if_neg (by simp; omega), if_neg (by rw [ByteArray.size_append]; omega), Int.toNat_natCast]
  congr 1
  apply ByteArray.ext
  apply Array.toList_inj.1
  rw [ByteArray.data_extract, Array.toList_extract, List.extract_eq_drop_take', List.drop_zero, ByteArray.data_append, Array.toList_append, size_list, List.take_left]
theorem chunk_size (s : ByteArray) (z : Int) (h : s.size ≤ 30) (hz : 1 ≤ z) : 5 ≤ (chunk s z).size ∧ (chunk s z).size ≤ 635 := by
  have h2 := chunkL_len z.toNat (by omega) s.data.toList
  have h3 := size_list s
  have e : (chunk s z).size = (chunkL z.toNat s.data.toList).length + 5 := by
    rw [size_list]; unfold chunk; rw [if_neg (by omega)]; simp
  omega
theorem hex_back (h : Int) : 0 ≤ h → h ≤ 16777215 → rhN (hexNum h) = h ∧ rhB (hexNum h) = true := by
  intro h0 h1
  obtain ⟨n, rfl⟩ := Int.eq_ofNat_of_zero_le h0
  exact rh_some (readHex_hex n (by omega))
set_option maxRecDepth 100000 in
set_option maxHeartbeats 8000000 in
theorem law (G : World → Prop) (hG : ∀ W W', G W → Below W.heap.size W W' → G W')
    (hchunk : ∀ (s : ByteArray) (z : Int) W, s.size ≤ 1048576 → z ≤ 9223372036854775807 → G W → Calls Tryz.prog 9 #[.string s, .int .i64 z] W fun e w' => e = .returned (.string (chunk s z)) ∧ Below W.heap.size W w')
    (hunch : ∀ (s : ByteArray) W, s.size ≤ 1048576 → G W → Calls Tryz.prog 10 #[.string s] W fun e w' => e = .returned (.tuple #[.string (unchunk s).1, .int .i64 (unchunk s).2.1, .int .i64 (unchunk s).2.2]) ∧ Below W.heap.size W w')
    (hhex : ∀ (n : Int) W, n ≤ 9223372036854775807 → G W → Calls Tryz.prog 14 #[.int .i64 n] W fun e w' => e = .returned (.string (hexNum n)) ∧ Below W.heap.size W w')
    (hread : ∀ (s : ByteArray) W, s.size ≤ 1048576 → G W → Calls Tryz.prog 13 #[.string s] W fun e w' => e = .returned (.tuple #[.int .i64 (rhN s), .bool (rhB s)]) ∧ Below W.heap.size W w')
    (hbody : ∀ v l (s : ByteArray) c W, Flds.Is W v l → Flds.bulk l ≤ 1048576 → s.size ≤ 1048576 → G W → Calls Tryz.prog 15 #[v, .string s, .bool c] W fun e w' => e = .returned (.tuple #[.string (bodyOf l s c).1, .int .i64 (bodyOf l s c).2.1, .int .i64 (bodyOf l s c).2.2]) ∧ Below W.heap.size W w')
    (a : Option Addr) (cap : Nat) (l : List Int) (w : World) (hcode : CodeAt w.heap.size w a l) (hl : l.length ≤ 1048576) (hg : G w) :
    Calls Tryz.prog 3 #[.slice a l.length cap] w fun e w' => e = .returned (.bool true) ∧ Below w.heap.size w w' := by
  have HC := Num.hide hcode
  have HG := Num.hide hG
  have HCh := Num.hide hchunk
  have HUn := Num.hide hunch
  have HHx := Num.hide hhex
  have HRd := Num.hide hread
  have HBo := Num.hide hbody
  have HG0 := Num.hide hg
  have HBg := Num.hide (fun W => big_any a l.length cap W (by omega))
  rw [decide_eq_false (by omega : ¬ (1048576 < (l.length : Int)))] at HBg
  clear hcode hG hchunk hunch hhex hread hbody hg
  go_enter Tryz.func3, Tryz.ntmps3
  go_wp2_with fail
  refine (HBg.out _).mono ?_
  rintro e w0 ⟨rfl, rfl⟩
  go_wp2_with fail
  refine (drawChunk cap a l w HC.out hl).mono ?_
  rintro e W1 ⟨s, z, rfl, hs, hz0, hz1, hb⟩
  have B1 := Num.hide hb
  have G1 := Num.hide (HG.out _ _ HG0.out hb)
  clear hb
  have HC1 := Num.hide (fun W hg => HCh.out s z W (by omega) (by omega) hg)
  by_cases hz : z < 1
  · have e0 : chunk s z = ⟨#[]⟩ := if_pos hz
    rw [e0] at HC1
    clear e0
    go_wp2_with fail
    refine (HC1.out _ G1.out).mono ?_
    rintro e W2 ⟨rfl, hb⟩
    have B2 := Num.hide (Recs.below_step B1.out hb)
    clear hb
    go_wp2
    go_ret
    exact ⟨rfl, B2.out⟩
  · have dz : decide (z < 1) = false := by rw [decide_eq_false_iff_not]; exact hz
    have hsz := chunk_size s z hs (by omega)
    have hq4 : (⟨#[116, 97, 105, 108]⟩ : ByteArray).size = 4 := rfl
    have HU1 := Num.hide (fun W hg => HUn.out (chunk s z ++ ⟨#[116, 97, 105, 108]⟩) W (by rw [ByteArray.size_append]; omega) hg)
    rw [unchunk_chunk s z _ (by omega) (by omega)] at HU1
    have HU2 := Num.hide (fun (K : Nat) (hK : K < (chunk s z).size) W hg => by
      have := HUn.out ((chunk s z).extract 0 K) W (by rw [ByteArray.size_extract]; omega) hg
      rw [unchunk_pre s z K (by omega) (by omega) hK] at this
      exact this)
    have HB1 := Num.hide (fun W hg => HBo.out _ _ (chunk s z ++ ⟨#[116, 97, 105, 108]⟩) false _ (is_one W teName chName) (by decide) (by rw [ByteArray.size_append]; omega) hg)
    rw [body_te, unchunk_chunk s z _ (by omega) (by omega)] at HB1
    have hdz := decB_size s.size (by omega)
    have HB2 := Num.hide (fun W hg => HBo.out _ _ (s ++ ⟨#[116, 97, 105, 108]⟩) true _ (is_one W clName (decB (s.size : Int))) (by show 1 + (clName.size + (decB (s.size : Int)).size + 0) ≤ _; have : clName.size = 14 := rfl; omega) (by rw [ByteArray.size_append]; omega) hg)
    rw [body_cl s _ (by omega)] at HB2
    have HDc := Num.hide (fun W => Dec.spec_any (s.size : Int) W (by omega) (by omega))
    change Hid (∀ W, Calls Tryz.prog 16 #[.int .i64 (s.size : Int)] W fun e w' => e = .returned (.string (decB (s.size : Int))) ∧ Below W.heap.size W w') at HDc
    generalize decB (s.size : Int) = dc at HDc HB2 hdz
    generalize chunk s z = t at HC1 HU1 HU2 HB1 hsz
    unfold teName chName at HB1
    unfold clName at HB2
    simp only at HU1 HU2 HB1 HB2
    unfold more at HU2
    simp only at HU2
    go_wp2_with fail
    refine (HC1.out _ G1.out).mono ?_
    rintro e W2 ⟨rfl, hb⟩
    have B2 := Num.hide (Recs.below_step B1.out hb)
    have G2 := Num.hide (HG.out _ _ G1.out hb)
    clear hb B1 G1
    go_wp2_with fail
    refine (HU1.out _ G2.out).mono ?_
    rintro e W3 ⟨rfl, hb⟩
    have B3 := Num.hide (Recs.below_step B2.out hb)
    have G3 := Num.hide (HG.out _ _ G2.out hb)
    clear hb B2 G2
    have dt0 : ((t.size : Int) == 0) = false := by rw [beq_eq_false_iff_ne]; omega
    go_wp2_with fail
    refine (at_zero w.heap.size cap a l _ (HC.out.below B3.out) hl).mono ?_
    rintro e W4 ⟨k0, rfl, hk0, hk1, rfl⟩
    obtain ⟨K, hK⟩ : ∃ K : Nat, k0 % (t.size : Int) = (K : Int) := ⟨(k0 % (t.size : Int)).toNat, by have := Int.emod_nonneg k0 (show (t.size : Int) ≠ 0 by omega); omega⟩
    have hKt : K < t.size := by have := Int.emod_lt_of_pos k0 (show 0 < (t.size : Int) by omega); omega
    go_wp2_with fail
    refine (HU2.out K hKt _ G3.out).mono ?_
    rintro e W4 ⟨rfl, hb⟩
    have B4 := Num.hide (Recs.below_step B3.out hb)
    have G4 := Num.hide (HG.out _ _ G3.out hb)
    clear hb B3 G3
    go_wp2_with fail
    refine (drawHex cap a l _ ((HC.out.below B4.out).mono B4.out.size) hl).mono ?_
    rintro e W5 ⟨h, rfl, hh0, hh1, hb⟩
    have B5 := Num.hide (Recs.below_step B4.out hb)
    have G5 := Num.hide (HG.out _ _ G4.out hb)
    clear hb B4 G4
    have HX := Num.hide (fun W hg => HHx.out h W (by omega) hg)
    have HRx := Num.hide (fun W hg => HRd.out (hexNum h) W (by have := hexNum_size h; omega) hg)
    have HBk := Num.hide (hex_back h)
    generalize rhN (hexNum h) = M at HRx HBk
    generalize rhB (hexNum h) = I at HRx HBk
    generalize hexNum h = hx at HX HRx
    go_wp2_with fail
    refine (HX.out _ G5.out).mono ?_
    rintro e W6 ⟨rfl, hb⟩
    have B6 := Num.hide (Recs.below_step B5.out hb)
    have G6 := Num.hide (HG.out _ _ G5.out hb)
    clear hb B5 G5
    go_wp2_with fail
    refine (HRx.out _ G6.out).mono ?_
    rintro e W7 ⟨rfl, hb⟩
    have B7 := Num.hide (Recs.below_step B6.out hb)
    have G7 := Num.hide (HG.out _ _ G6.out hb)
    clear hb B6 G6
    have hba := (Below.refl W7.heap.size W7).alloc (Nat.le_refl _) (.cells #[.string ⟨#[116, 114, 97, 110, 115, 102, 101, 114, 45, 101, 110, 99, 111, 100, 105, 110, 103]⟩, .string ⟨#[99, 104, 117, 110, 107, 101, 100]⟩] 36)
    have B7a := Num.hide (Recs.below_step B7.out hba)
    have G7a := Num.hide (HG.out _ _ G7.out hba)
    clear hba
    go_wp2_with fail
    refine (HB1.out _ G7a.out).mono ?_
    rintro e W8 ⟨rfl, hb⟩
    have B8 := Num.hide (Recs.below_step B7a.out hb)
    have G8 := Num.hide (HG.out _ _ G7a.out hb)
    clear hb B7 G7 B7a G7a
    go_wp2_with fail
    refine (HDc.out _).mono ?_
    rintro e W9 ⟨rfl, hb⟩
    have B9 := Num.hide (Recs.below_step B8.out hb)
    have G9 := Num.hide (HG.out _ _ G8.out hb)
    clear hb B8 G8
    have hba := (Below.refl W9.heap.size W9).alloc (Nat.le_refl _) (.cells #[.string ⟨#[99, 111, 110, 116, 101, 110, 116, 45, 108, 101, 110, 103, 116, 104]⟩, .string dc] 36)
    have B9a := Num.hide (Recs.below_step B9.out hba)
    have G9a := Num.hide (HG.out _ _ G9.out hba)
    clear hba
    go_wp2_with fail
    refine (HB2.out _ G9a.out).mono ?_
    rintro e W10 ⟨rfl, hb⟩
    have B10 := Num.hide (Recs.below_step B9a.out hb)
    clear hb B9 G9 B9a G9a HC HG HCh HUn HHx HRd HBo HG0 HBg HC1 HU1 HU2 HB1 HB2 HDc HX HRx
    by_cases h0 : h < 0
    · go_wp2
      go_ret
      exact ⟨rfl, B10.out⟩
    · have dh0 : decide (h < 0) = false := by rw [decide_eq_false_iff_not]; exact h0
      by_cases h1 : 16777215 < h
      · go_wp2
        go_ret
        exact ⟨rfl, B10.out⟩
      · have dh1 : decide (16777215 < h) = false := by rw [decide_eq_false_iff_not]; exact h1
        obtain ⟨rfl, rfl⟩ := HBk.out (by omega) (by omega)
        clear HBk
        go_wp2
        go_ret
        exact ⟨rfl, B10.out⟩
end Bodies
end Go.Proofs.YtkenmilglfnmbaaGreatDoor
