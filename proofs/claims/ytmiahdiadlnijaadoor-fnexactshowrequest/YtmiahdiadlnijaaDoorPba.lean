/-
  FldShowImpl: ShowFields of the program: the text of fields, put together in a builder; what was there stays.
  ReqShowImpl: ShowRequest of the program: the text of a request.
  ReadDecNum: Plain facts: a number's decimal text is read as that number, and as no other; how many digits it has.
-/
import Derived.Test.YtmiahdiadlnijaaDoorPau
import Derived.Test.YtmiahdiadlnijaaDoorPaq
import Derived.Test.YtmiahdiadlnijaaDoorPaz
import Derived.Test.YtmiahdiadlnijaaDoorPar
import Derived.Test.YtmiahdiadlnijaaDoorPaw
import Derived.Test.YtmiahdiadlnijaaDoorRegLaw
import Derived.Deep.Cut
import Derived.Test.YtmiahdiadlnijaaDoorPag
import Derived.Lib.Atoi
import Derived.Lib.AtoiBound
namespace Go.Proofs.YtmiahdiadlnijaaDoor
open Go.RowKit
set_option linter.unusedVariables false
namespace Flds

theorem str_app (a b : ByteArray) : Lib.strCells a ++ Lib.strCells b = Lib.strCells (a ++ b) := by
  unfold Lib.strCells
  rw [← List.map_append]
  congr 1
theorem one_line (x y : ByteArray) (s : ByteArray) : s ++ (x ++ ⟨#[58]⟩ ++ ⟨#[32]⟩ ++ y ++ ⟨#[13, 10]⟩) = showStep s (x, y) := by
  have e : (⟨#[58, 32]⟩ : ByteArray) = ⟨#[58]⟩ ++ ⟨#[32]⟩ := by decide
  unfold showStep
  rw [e]
  simp only [ByteArray.append_assoc]
theorem bulk_sizes {l : List Fld} {m : Nat} (hl : bulk l ≤ m) : ∀ f ∈ l, f.1.size ≤ m ∧ f.2.size ≤ m := by
  intro f hf
  obtain ⟨i, hi, rfl⟩ := List.getElem_of_mem hf
  have h3 := bulk_take l i hi
  have h4 := bulk_le l (i + 1)
  unfold bulk at hl
  omega
set_option maxRecDepth 100000 in
set_option maxHeartbeats 2000000 in
theorem show_impl (v : Value) (l : List Fld) (w : World) (h : Is w v l) (hl : bulk l ≤ 1048576) (hS : Sign.Signs w) :
    Calls Tryd.prog 32 #[v] w fun e w' => e = .returned (.string (shown l)) ∧ Below w.heap.size w w' := by
  have HC := Num.hide (ok_impl v l w h (fun f hf => by have := bulk_sizes hl f hf; unfold maxLen; omega) hS)
  have hlen : l.length ≤ 1048576 := by unfold bulk at hl; omega
  obtain ⟨a, c, rfl, h2⟩ := is_form h
  have HA := Num.hide h2
  clear h h2 hS
  obtain ⟨r, hr⟩ : ∃ r, shown l = r := ⟨_, rfl⟩
  rw [hr]
  unfold shown at hr
  cases hok : ok l with
  | false =>
    rw [hok, if_neg (by simp)] at hr
    rw [hok] at HC
    subst hr
    clear hok
    go_enter Tryd.func32, Tryd.ntmps32
    go_wp2_with fail
    refine HC.out.mono ?_
    rintro e w1 ⟨rfl, hb⟩
    have HB := Num.hide hb
    clear hb
    go_wp2
    go_ret
    exact ⟨rfl, HB.out⟩
  | true =>
    rw [hok, if_pos rfl] at hr
    rw [hok] at HC
    have HR := Num.hide hr
    clear hok hr
    go_enter Tryd.func32, Tryd.ntmps32
    go_wp2_with fail
    refine HC.out.mono ?_
    rintro e w1 ⟨rfl, hb⟩
    have HB := Num.hide hb
    have hs1 := hb.size
    clear hb HC
    have H0 := Num.hide (Lib.IsBuilderF.of (Lib.fresh_isBuilder 67 5 w1))
    have HL0 := Num.hide ((Below.refl w1.heap.size w1).alloc (Nat.le_refl _) (.cells #[.pointer none, .slice none 0 0] 67))
    go_wp2
    go_loopw [11] (fun iv wr => ∃ (i : Nat) (s : ByteArray), i ≤ l.length ∧ iv = .int .i64 (i : Int) ∧ Hid (showGo (l.take i) = s) ∧ Hid (Lib.IsBuilderF 67 5 w1.heap.size w1.heap.size (Lib.strCells s) wr) ∧ Hid (Below w1.heap.size w1 wr)) (fun iv _ => l.length - (intOf iv).toNat)
    case atStart => exact ⟨0, _, by omega, rfl, rfl, H0, HL0⟩
    case round =>
      clear H0 HL0
      obtain ⟨i, s, hi, rfl, HS, HU, HL⟩ := hrel
      have hss : s.size ≤ 8796093022208 := by
        have h1 := showGo_size (l.take i)
        have h2 := bulk_le l i
        rw [HS.out, List.length_take] at h1
        unfold bulk at hl
        omega
      have hs2 := HL.out.size
      by_cases hlt : i < l.length
      · obtain ⟨b, o, rfl, hc, hmx, hblt, hcell⟩ := Num.unhide HA (by omega)
        obtain ⟨g1, g2⟩ := hcell i hlt
        have c1 : wr.cell? ⟨b, o + i * 2, none⟩ = some (.string l[i].1) := by rw [HL.out.cell (p := ⟨b, o + i * 2, none⟩) (by show b < _; omega), HB.out.cell (p := ⟨b, o + i * 2, none⟩) hblt]; exact g1
        have c2 : wr.cell? ⟨b, o + i * 2 + 1, none⟩ = some (.string l[i].2) := by rw [HL.out.cell (p := ⟨b, o + i * 2 + 1, none⟩) (by show b < _; omega), HB.out.cell (p := ⟨b, o + i * 2 + 1, none⟩) hblt]; exact g2
        have hT := showGo_take l i hlt
        rw [HS.out] at hT
        have HT := Num.hide hT
        have hxy : (l[i]).1.size ≤ 1048576 ∧ (l[i]).2.size ≤ 1048576 := bulk_sizes hl _ (List.getElem_mem hlt)
        clear hcell g1 g2 hT
        generalize l[i] = f at c1 c2 HT hxy
        obtain ⟨x, y⟩ := f
        simp only at c1 c2 hxy
        have HW := Num.hide (Shelf.writeString w1.heap.size w1.heap.size (Lib.strCells s) (x ++ ⟨#[58]⟩ ++ ⟨#[32]⟩ ++ y ++ ⟨#[13, 10]⟩) (wr.alloc (.cells #[.string x, .string y] 60)) (HU.out.alloc _) (by rw [Lib.strCells_length]; simp only [ByteArray.size_append]; have h1 : (⟨#[58]⟩ : ByteArray).size = 1 := rfl; have h2 : (⟨#[32]⟩ : ByteArray).size = 1 := rfl; have h3 : (⟨#[13, 10]⟩ : ByteArray).size = 2 := rfl; omega) (by simp; omega))
        have HL2 := Num.hide (HL.out.alloc hs2 (.cells #[.string x, .string y] 60))
        go_wp2_with fail
        refine (Num.unhide HW).mono ?_
        rintro e w2 ⟨rfl, hu, hb2⟩
        have HU2 : Hid (Lib.IsBuilderF 67 5 w1.heap.size w1.heap.size (Lib.strCells (showStep s (x, y))) w2) := by
          rw [← one_line, ← str_app]; exact Or.inr hu
        have HL3 := Num.hide (HL2.out.trans hb2)
        clear hu hb2 HL2 HW HL HU
        go_wp2
        go_roundw
        case rel => exact ⟨i + 1, _, by omega, by go_num, HT, HU2, HL3⟩
        case measure => simp [intOf]; omega
      · obtain rfl : i = l.length := by omega
        have hs := HS.out
        rw [List.take_of_length_le (Nat.le_refl _)] at hs
        have hr := HR.out
        rw [hs] at hr
        subst hr
        clear hs
        have HW := Num.hide (Shelf.writeString w1.heap.size w1.heap.size (Lib.strCells s) ⟨#[13, 10]⟩ wr HU.out (by rw [Lib.strCells_length]; have h3 : (⟨#[13, 10]⟩ : ByteArray).size = 2 := rfl; omega) hs2)
        rw [str_app] at HW
        have HF := Num.hide (fun W k => Shelf.builderString w1.heap.size w1.heap.size (s ++ ⟨#[13, 10]⟩).data.toList W k)
        go_wp2_with fail
        refine (Num.unhide HW).mono ?_
        rintro e w2 ⟨rfl, hu, hb2⟩
        have HU2 := Num.hide hu
        have HL2 := Num.hide (HL.out.trans hb2)
        have hs3 := HL2.out.size
        clear hu hb2
        go_wp2_with fail
        refine (Num.unhide HF _ (Or.inr HU2.out) (by omega)).mono ?_
        rintro e w3 ⟨rfl, hu, hb3⟩
        have HL3 := Num.hide (HB.out.trans ((HL2.out.trans hb3).mono hs1))
        clear hu hb3
        go_wp2
        go_ret
        exact ⟨rfl, HL3.out⟩
end Flds
end Go.Proofs.YtmiahdiadlnijaaDoor
namespace Go.Proofs.YtmiahdiadlnijaaDoor
open Go.RowKit
set_option linter.unusedVariables false
set_option linter.unusedSimpArgs false
namespace Msg

set_option maxRecDepth 100000 in
set_option maxHeartbeats 4000000 in
theorem showReq_impl (m u : ByteArray) (v : Value) (l : List Flds.Fld) (b : ByteArray) (w : World) (h : Flds.Is w v l) (hl : Flds.bulk l ≤ 1048576) (hm : m.size ≤ 1048576) (hu : u.size ≤ 1048576) (hb : b.size ≤ 1048576) (hS : Sign.Signs w) (hT : Dec.Tab w) :
    Calls Tryd.prog 13 #[Req.val m u v b] w fun e w' => e = .returned (.string (showReq m u l b)) ∧ Below w.heap.size w w' := by
  have HOk := Num.hide (fun v W h hS => reqOk_impl m u v l b W h hl hm hu hb hS)
  have HSg := Num.hide hS
  have hsg := Flds.signs_lt hS
  have HI := Num.hide h
  unfold Req.val at HOk ⊢
  obtain ⟨a, c, rfl, _⟩ := Flds.is_form h
  have HB0 := Num.hide ((Below.refl w.heap.size w).alloc (Nat.le_refl _) (.cells #[.string m, .string u, .slice a l.length c, .string b] 29))
  clear h hS
  cases hok : reqOk m u l b with
  | true =>
    obtain ⟨h1, h2, h3, h4, h5⟩ := req_parts hok
    have hfo := ok_framed h4 b h5
    have hsm := shown_small hfo
    have HSh := Num.hide (fun v W h hS => Flds.show_impl v (framed l b) W h (ok_bulk hfo) hS)
    have HF := Num.hide (fun W h (hT : Dec.Tab W) => length_impl (.slice a l.length c) l b W h hl h5 hT)
    rw [set_plain h4] at HF
    have HTb := Num.hide hT
    have hsr : showReq m u l b = reqText m u l b := by unfold showReq; rw [if_pos hok]
    rw [hsr]
    obtain ⟨r, hr⟩ : ∃ r, reqText m u l b = r := ⟨_, rfl⟩
    rw [hr]
    unfold reqText at hr
    rw [hok] at HOk
    generalize Flds.shown (framed l b) = S at HSh hr hsm
    have hu20 : u.size ≤ 20 := by
      unfold uriOk at h3
      simp only [Bool.and_eq_true, decide_eq_true_iff] at h3
      exact h3.1.2.2
    have e32 : (⟨#[32, 72, 84, 84, 80, 47, 49, 46, 49, 13, 10]⟩ : ByteArray) = ⟨#[32]⟩ ++ ⟨#[72, 84, 84, 80, 47, 49, 46, 49]⟩ ++ ⟨#[13, 10]⟩ := by decide
    rw [e32, ← ByteArray.append_assoc, ← ByteArray.append_assoc] at hr
    have HR := Num.hide hr
    have f1 : ¬ 9223372036854775807 < m.size + 1 := by omega
    have f2 : ¬ 9223372036854775807 < m.size + 1 + u.size := by omega
    have f3 : ¬ 9223372036854775807 < m.size + 1 + u.size + 1 := by omega
    have f4 : ¬ 9223372036854775807 < m.size + 1 + u.size + 1 + 8 := by omega
    have f5 : ¬ 9223372036854775807 < m.size + 1 + u.size + 1 + 8 + 2 := by omega
    have f6 : ¬ 9223372036854775807 < m.size + 1 + u.size + 1 + 8 + 2 + S.size := by omega
    have f7 : ¬ 9223372036854775807 < m.size + 1 + u.size + 1 + 8 + 2 + S.size + b.size := by omega
    clear hr hok h1 h3 h4 hfo hsr hT e32
    go_enter Tryd.func13, Tryd.ntmps13
    go_wp2_with fail
    refine (HOk.out _ _ (Recs.is_stay HI.out (Nat.le_refl _) HB0.out) (Flds.signs_below HSg.out HB0.out hsg)).mono ?_
    rintro e W2 ⟨rfl, hb2⟩
    have HK := Num.hide (Box4.first w _ _ _ _ _ hb2)
    obtain ⟨g0, g1, g2, g3, _⟩ := HK.out
    clear hb2 HOk
    go_upto_region 4 with fail
    refine wp_region_held_drew (S := Box4 w (.string m) (.string u) (.slice a l.length c) (.string b)) (by kernel_rfl) HK.out.drew (fun hHeld => ?_)
    clear g0 g1 g2 g3
    refine Reg.take (i := 0) (d := 16) (v := ?_) rfl rfl (by kernel_rfl) (by kernel_rfl) (by kernel_rfl) (fun _ _ _ h => h) (by rfl) ?_ hHeld ?_
    rotate_left
    · rintro W ⟨g0, g1, g2, g3, g4⟩
      first | (go_simp; done) | (go_simp; with_reducible rfl)
    simp only [Act.put, List.setIfInBounds_toArray, List.set_cons_zero, List.set_cons_succ]
    refine Reg.take (i := 1) (d := 17) (v := ?_) rfl rfl (by kernel_rfl) (by kernel_rfl) (by kernel_rfl) (fun _ _ _ h => h) (by rfl) ?_ hHeld ?_
    rotate_left
    · rintro W ⟨g0, g1, g2, g3, g4⟩
      first | (go_simp; done) | (go_simp; with_reducible rfl)
    simp only [Act.put, List.setIfInBounds_toArray, List.set_cons_zero, List.set_cons_succ]
    refine Reg.take (i := 2) (d := 18) (v := ?_) rfl rfl (by kernel_rfl) (by kernel_rfl) (by kernel_rfl) (fun _ _ _ h => h) (by rfl) ?_ hHeld ?_
    rotate_left
    · rintro W ⟨g0, g1, g2, g3, g4⟩
      first | (go_simp; done) | (go_simp; with_reducible rfl)
    simp only [Act.put, List.setIfInBounds_toArray, List.set_cons_zero, List.set_cons_succ]
    refine Reg.take (i := 3) (d := 19) (v := ?_) rfl rfl (by kernel_rfl) (by kernel_rfl) (by kernel_rfl) (fun _ _ _ h => h) (by rfl) ?_ hHeld ?_
    rotate_left
    · rintro W ⟨g0, g1, g2, g3, g4⟩
      first | (go_simp; done) | (go_simp; with_reducible rfl)
    simp only [Act.put, List.setIfInBounds_toArray, List.set_cons_zero, List.set_cons_succ]
    refine Reg.take (i := 4) (d := 20) (v := ?_) rfl rfl (by kernel_rfl) (by kernel_rfl) (by kernel_rfl) (fun _ _ _ h => h) (by rfl) ?_ hHeld ?_
    rotate_left
    · rintro W ⟨g0, g1, g2, g3, g4⟩
      first | (go_simp; done) | (go_simp; with_reducible rfl)
    simp only [Act.put, List.setIfInBounds_toArray, List.set_cons_zero, List.set_cons_succ]
    refine Reg.take (i := 8) (d := 24) (v := ?_) rfl rfl (by kernel_rfl) (by kernel_rfl) (by kernel_rfl) (fun _ _ _ h => h) (by rfl) ?_ hHeld ?_
    rotate_left
    · rintro W ⟨g0, g1, g2, g3, g4⟩
      first | (go_simp; done) | (go_simp; with_reducible rfl)
    simp only [Act.put, List.setIfInBounds_toArray, List.set_cons_zero, List.set_cons_succ]
    refine Reg.take (i := 9) (d := 25) (v := ?_) rfl rfl (by kernel_rfl) (by kernel_rfl) (by kernel_rfl) (fun _ _ _ h => h) (by rfl) ?_ hHeld ?_
    rotate_left
    · rintro W ⟨g0, g1, g2, g3, g4⟩
      first | (go_simp; done) | (go_simp; with_reducible rfl)
    simp only [Act.put, List.setIfInBounds_toArray, List.set_cons_zero, List.set_cons_succ]
    refine Reg.call (i := 5) rfl (by kernel_rfl) (by rfl) (fun K hK => ?_)
    go_wp2_with (first | (go_at_call 33; refine (HF.out _ (Recs.is_stay HI.out (Nat.le_refl _) hHeld.2.2.2.2) (HTb.out.below hHeld.2.2.2.2)).mono ?_; rintro e W3 ⟨v3, rfl, ho3, hb3⟩))
    have HO3 := Num.hide ho3
    have HB3 := Num.hide hb3
    clear hb3 ho3
    refine hK.out _ _ ?_ (fun hHeld2 => ?_)
    · exact Box4.step hHeld HB3.out
    clear hK K
    replace hHeld := hHeld2
    clear hHeld2
    refine Reg.call (i := 6) rfl (by kernel_rfl) (by rfl) (fun K hK => ?_)
    go_wp2_with (first | (go_at_call 32; refine (HSh.out v3 _ (Recs.own_is Flds.cells_len HO3.out) (Flds.signs_below HSg.out hHeld.2.2.2.2 hsg)).mono ?_; rintro e W4 ⟨rfl, hb4⟩))
    have HB4 := Num.hide hb4
    clear hb4
    refine hK.out _ _ ?_ (fun hHeld2 => ?_)
    · exact Box4.step hHeld HB4.out
    clear hK K
    replace hHeld := hHeld2
    clear hHeld2
    refine Reg.take (i := 7) (d := 23) (v := ?_) rfl rfl (by kernel_rfl) (by kernel_rfl) (by kernel_rfl) (fun _ _ _ h => h) (by rfl) ?_ hHeld ?_
    rotate_left
    · rintro W ⟨g0, g1, g2, g3, g4⟩
      first | (go_simp; done) | (go_simp; with_reducible rfl)
    simp only [Act.put, List.setIfInBounds_toArray, List.set_cons_zero, List.set_cons_succ]
    refine Reg.take (i := 10) (d := 26) (v := ?_) rfl rfl (by kernel_rfl) (by kernel_rfl) (by kernel_rfl) (fun _ _ _ h => h) (by rfl) ?_ hHeld ?_
    rotate_left
    · rintro W ⟨g0, g1, g2, g3, g4⟩
      first | (go_simp; done) | (go_simp; with_reducible rfl)
    simp only [Act.put, List.setIfInBounds_toArray, List.set_cons_zero, List.set_cons_succ]
    refine Reg.take (i := 11) (d := 2) (v := ?_) rfl rfl (by kernel_rfl) (by kernel_rfl) (by kernel_rfl) (fun _ _ _ h => h) (by rfl) ?_ hHeld ?_
    rotate_left
    · rintro W ⟨g0, g1, g2, g3, g4⟩
      first | (go_simp; done) | (go_simp; with_reducible rfl)
    simp only [Act.put, List.setIfInBounds_toArray, List.set_cons_zero, List.set_cons_succ]
    refine wpAnyH_done (by kernel_rfl) ?_ _
    have HH := Num.hide hHeld.2.2.2.2
    have hr := HR.out
    subst hr
    go_wp2
    go_ret
    exact ⟨rfl, HH.out⟩
  | false =>
    have hsr : showReq m u l b = ⟨#[]⟩ := by unfold showReq; rw [if_neg (by rw [hok]; decide)]
    rw [hsr]
    rw [hok] at HOk
    clear hsr hok
    go_enter Tryd.func13, Tryd.ntmps13
    go_wp2_with fail
    refine (HOk.out _ _ (Recs.is_stay HI.out (Nat.le_refl _) HB0.out) (Flds.signs_below HSg.out HB0.out hsg)).mono ?_
    rintro e W2 ⟨rfl, hb2⟩
    have HB2 := Num.hide (HB0.out.trans (hb2.mono HB0.out.size))
    clear hb2 HOk
    go_wp2
    go_ret
    exact ⟨rfl, HB2.out⟩
end Msg
end Go.Proofs.YtmiahdiadlnijaaDoor
namespace Go.Proofs.YtmiahdiadlnijaaDoor
open Go.RowKit
set_option linter.unusedVariables false
namespace ReadDec

theorem ofNat_val (d : Nat) (h : d < 10) : (UInt8.ofNat (48 + d)).toNat = 48 + d := by rw [UInt8.toNat_ofNat']; omega
theorem decFrom_append (a b : List UInt8) (acc n : Nat) (h : Lib.decFrom acc a = some n) : Lib.decFrom acc (a ++ b) = Lib.decFrom n b := by
  induction a generalizing acc with
  | nil => simp only [Lib.decFrom, Option.some.injEq] at h; subst h; rfl
  | cons c a ih =>
    simp only [Lib.decFrom, List.cons_append] at h ⊢
    cases hd : Lib.digitVal c with
    | none => rw [hd] at h; cases h
    | some d => rw [hd] at h; exact ih _ h
/-- the number of the digits of a text, whatever else stands in it; and how many they are -/
def dval (acc : Int) : List UInt8 → Int
  | [] => acc
  | c :: l => if 48 ≤ c.toNat ∧ c.toNat ≤ 57 then dval (acc * 10 + ((c.toNat : Int) - 48)) l else dval acc l
def dcnt : List UInt8 → Nat
  | [] => 0
  | c :: l => (if 48 ≤ c.toNat ∧ c.toNat ≤ 57 then 1 else 0) + dcnt l
theorem dval_append (a b : List UInt8) (acc : Int) : dval acc (a ++ b) = dval (dval acc a) b := by
  induction a generalizing acc with
  | nil => rfl
  | cons c a ih => simp only [List.cons_append, dval]; split <;> exact ih _
theorem dcnt_append (a b : List UInt8) : dcnt (a ++ b) = dcnt a + dcnt b := by
  induction a with
  | nil => simp [dcnt]
  | cons c a ih => simp only [List.cons_append, dcnt, ih]; omega
theorem dcnt_le (a : List UInt8) : dcnt a ≤ a.length := by
  induction a with
  | nil => simp [dcnt]
  | cons c a ih => simp only [dcnt, List.length_cons]; split <;> omega
theorem dval_bd (a : List UInt8) (acc : Int) (h : 0 ≤ acc) : 0 ≤ dval acc a ∧ dval acc a < (acc + 1) * 10 ^ a.length := by
  induction a generalizing acc with
  | nil => simp [dval]; omega
  | cons c a ih =>
    have hp : (0 : Int) < 10 ^ a.length := Int.pow_pos (by decide)
    simp only [dval, List.length_cons, Int.pow_succ]
    split
    · rename_i hc
      have hi := ih (acc * 10 + ((c.toNat : Int) - 48)) (by omega)
      refine ⟨hi.1, Int.lt_of_lt_of_le hi.2 ?_⟩
      rw [Int.mul_comm (10 ^ a.length) 10, ← Int.mul_assoc]
      exact Int.mul_le_mul_of_nonneg_right (by omega) (by omega)
    · have hi := ih acc h
      refine ⟨hi.1, Int.lt_of_lt_of_le hi.2 ?_⟩
      rw [Int.mul_comm (10 ^ a.length) 10, ← Int.mul_assoc]
      exact Int.mul_le_mul_of_nonneg_right (by omega) (by omega)
theorem digits_all (k : Nat) : ∀ u, u < 10 ^ k ∨ u < 10 → Lib.decFrom 0 (Lib.decDigits u) = some u ∧ dval 0 (Lib.decDigits u) = u ∧ dcnt (Lib.decDigits u) = Lib.nDigits u := by
  induction k with
  | zero =>
    intro u h
    have h10 : u < 10 := by rcases h with h | h <;> omega
    rw [Lib.decDigits_one h10, Lib.nDigits_small h10]
    have hv := ofNat_val u h10
    refine ⟨?_, ?_, ?_⟩
    · simp only [Lib.decFrom, Lib.digitVal, hv]; rw [if_pos (by omega)]; simp
    · simp only [dval, hv]; rw [if_pos (by omega)]; omega
    · simp only [dcnt, hv]; rw [if_pos (by omega)]
  | succ k ih =>
    intro u h
    by_cases h10 : u < 10
    · exact ih u (.inr h10)
    · have hlt : u / 10 < 10 ^ k := by
        rcases h with h | h
        · rw [Nat.pow_succ] at h; omega
        · omega
      obtain ⟨i1, i2, i3⟩ := ih (u / 10) (.inl hlt)
      have hv := ofNat_val (u % 10) (by omega)
      rw [Lib.decDigits, dif_neg h10, Lib.nDigits_big h10]
      refine ⟨?_, ?_, ?_⟩
      · rw [decFrom_append _ _ _ _ i1]
        simp only [Lib.decFrom, Lib.digitVal, hv]
        rw [if_pos (by omega)]
        simp only [Option.some.injEq]
        omega
      · rw [dval_append, i2]
        simp only [dval, hv]
        rw [if_pos (by omega)]
        omega
      · rw [dcnt_append, i3]
        simp only [dcnt, hv]
        rw [if_pos (by omega)]
theorem digits_of (u : Nat) : Lib.decFrom 0 (Lib.decDigits u) = some u ∧ dval 0 (Lib.decDigits u) = u ∧ dcnt (Lib.decDigits u) = Lib.nDigits u :=
  digits_all (Lib.nDigits u) u (.inl (Lib.lt_pow_nDigits u))
theorem digits_ne (u : Nat) : Lib.decDigits u ≠ [] := by
  intro h
  have := congrArg List.length h
  rw [Lib.decDigits_length] at this
  have := Lib.nDigits_pos u
  simp at *
  omega
theorem head_digit (u : Nat) : ∃ c l, Lib.decDigits u = c :: l ∧ 48 ≤ c.toNat ∧ c.toNat ≤ 57 := by
  cases h : Lib.decDigits u with
  | nil => exact absurd h (digits_ne u)
  | cons c l =>
    refine ⟨c, l, rfl, ?_⟩
    have h1 := (digits_of u).1
    rw [h] at h1
    simp only [Lib.decFrom] at h1
    cases hd : Lib.digitVal c with
    | none => rw [hd] at h1; cases h1
    | some d => have := Lib.digitVal_eq hd; omega
theorem decNat_digits (u : Nat) : Lib.decNat (Lib.decDigits u) = some u := by
  unfold Lib.decNat
  have hne : (Lib.decDigits u).isEmpty = false := by
    cases h : Lib.decDigits u with
    | nil => exact absurd h (digits_ne u)
    | cons c l => rfl
  rw [hne]
  exact (digits_of u).1
theorem atoi_itoa (n : Int) : Lib.atoi (Lib.itoa n) = some n := by
  unfold Lib.itoa
  by_cases h : n < 0
  · rw [if_pos h]
    have e : Lib.atoi (45 :: Lib.decDigits n.natAbs) = (Lib.decNat (Lib.decDigits n.natAbs)).map fun (m : Nat) => -(m : Int) := rfl
    rw [e, decNat_digits]
    simp only [Option.map_some, Option.some.injEq]
    omega
  · rw [if_neg h]
    obtain ⟨c, l, he, h1, h2⟩ := head_digit n.toNat
    have hd := decNat_digits n.toNat
    rw [he] at hd ⊢
    have c1 : (c == 45) = false := by
      rw [beq_eq_false_iff_ne]; intro hc; subst hc; revert h1; decide
    have c2 : (c == 43) = false := by
      rw [beq_eq_false_iff_ne]; intro hc; subst hc; revert h1; decide
    simp only [Lib.atoi, c1, c2]
    simp only [Bool.false_eq_true, if_false, hd, Option.map_some, Option.some.injEq]
    omega
theorem itoa_inj (m n : Int) (h : Lib.itoa m = Lib.itoa n) : m = n := by
  have h1 := atoi_itoa m
  rw [h, atoi_itoa n] at h1
  exact (Option.some.inj h1).symm
/-- what the loop makes of a number's text -/
def sval (l : List UInt8) : Int := if l.head? = some 45 then -dval 0 l else dval 0 l
theorem itoa_parts (n : Int) : sval (Lib.itoa n) = n ∧ dcnt (Lib.itoa n) = Lib.nDigits n.natAbs := by
  unfold Lib.itoa sval
  by_cases h : n < 0
  · rw [if_pos h]
    have hd := digits_of n.natAbs
    have e1 : dval 0 (45 :: Lib.decDigits n.natAbs) = dval 0 (Lib.decDigits n.natAbs) := by simp [dval]
    have e2 : dcnt (45 :: Lib.decDigits n.natAbs) = dcnt (Lib.decDigits n.natAbs) := by simp [dcnt]
    rw [e1, e2, hd.2.1, hd.2.2]
    simp only [List.head?_cons, if_true]
    exact ⟨by omega, trivial⟩
  · rw [if_neg h]
    have hd := digits_of n.toNat
    obtain ⟨c, l, he, h1, h2⟩ := head_digit n.toNat
    rw [hd.2.1, hd.2.2, show n.natAbs = n.toNat by omega]
    have hc : (Lib.decDigits n.toNat).head? ≠ some 45 := by
      rw [he]; simp only [List.head?_cons, ne_eq, Option.some.injEq]; intro hc; subst hc; revert h1; decide
    rw [if_neg hc]
    exact ⟨by omega, rfl⟩
theorem digits_few (j u : Nat) (h : u < 10 ^ j) : Lib.nDigits u ≤ max 1 j := by
  induction j generalizing u with
  | zero => rw [Lib.nDigits_small (by simp at h; omega)]; omega
  | succ j ih =>
    by_cases h10 : u < 10
    · rw [Lib.nDigits_small h10]; omega
    · rw [Lib.nDigits_big h10]
      have hi := ih (u / 10) (by rw [Nat.pow_succ] at h; omega)
      rcases Nat.eq_zero_or_pos j with hj | hj
      · subst hj; simp at h; omega
      · omega
theorem nDigits_le9 (u : Nat) (h : u ≤ 999999999) : Lib.nDigits u ≤ 9 := by
  have h1 := digits_few 9 u (by omega)
  omega
theorem le9_nDigits (u : Nat) (h : Lib.nDigits u ≤ 9) : u ≤ 999999999 := by
  have h1 := Lib.lt_pow_nDigits u
  have h2 : 10 ^ Lib.nDigits u ≤ 10 ^ 9 := Nat.pow_le_pow_right (by decide) h
  omega
theorem length_itoa (n : Int) (h0 : -999999999 ≤ n) (h1 : n ≤ 999999999) : (Lib.itoa n).length ≤ 10 := by
  unfold Lib.itoa
  split
  · rw [List.length_cons, Lib.decDigits_length]; have := nDigits_le9 n.natAbs (by omega); omega
  · rw [Lib.decDigits_length]; have := nDigits_le9 n.toNat (by omega); omega
/-- what is told -/
def Good (s : ByteArray) (a : Int) (t : Bool) : Prop :=
  (t = true ∧ -999999999 ≤ a ∧ a ≤ 999999999 ∧ Lib.itoa a = s.data.toList) ∨ (t = false ∧ a = 0 ∧ ∀ m, -999999999 ≤ m → m ≤ 999999999 → Lib.itoa m ≠ s.data.toList)
theorem good_one (s : ByteArray) (a a' : Int) (t t' : Bool) (h : Good s a t) (h' : Good s a' t') : a = a' ∧ t = t' := by
  rcases h with ⟨rfl, h1, h2, h3⟩ | ⟨rfl, rfl, h3⟩ <;> rcases h' with ⟨rfl, k1, k2, k3⟩ | ⟨rfl, rfl, k3⟩
  · exact ⟨itoa_inj a a' (h3.trans k3.symm), rfl⟩
  · exact absurd h3 (k3 a h1 h2)
  · exact absurd k3 (h3 a' k1 k2)
  · exact ⟨rfl, rfl⟩
end ReadDec
end Go.Proofs.YtmiahdiadlnijaaDoor
