/-
  ShowFields of the program: the text of fields, put together in a builder; what was there stays.
-/
import Derived.Test.YtbeljhonikhdjaaDoorFldShowSpec
import Derived.Test.YtbeljhonikhdjaaDoorFldOkImpl
import Derived.Test.YtbeljhonikhdjaaDoorShelfBuild
namespace Go.Proofs.YtbeljhonikhdjaaDoor
open Go.RowKit
set_option linter.unusedVariables false
namespace Flds

theorem str_app (a b : ByteArray) : Lib.strCells a ++ Lib.strCells b = Lib.strCells (a ++ b) := by
  unfold Lib.strCells
  rw [← List.map_append]
  congr 1
theorem one_line (x y : ByteArray) (s : ByteArray) : s ++ (x ++ ⟨#[58]⟩ ++ ⟨#[32]⟩ ++ y ++ ⟨#[13, 10]⟩) = showStep s (x, y) := by
  have e : (⟨#[58, 32]⟩ : ByteArray) = ⟨#[58]⟩ ++ ⟨#[32]⟩ := by decide
  unfold showStep
  rw [e]
  simp only [ByteArray.append_assoc]
theorem bulk_sizes {l : List Fld} {m : Nat} (hl : bulk l ≤ m) : ∀ f ∈ l, f.1.size ≤ m ∧ f.2.size ≤ m := by
  intro f hf
  obtain ⟨i, hi, rfl⟩ := List.getElem_of_mem hf
  have h3 := bulk_take l i hi
  have h4 := bulk_le l (i + 1)
  unfold bulk at hl
  omega
set_option maxRecDepth 100000 in
set_option maxHeartbeats 2000000 in
theorem show_impl (v : Value) (l : List Fld) (w : World) (h : Is w v l) (hl : bulk l ≤ 1048576) (hS : Sign.Signs w) :
    Calls Tryd.prog 15 #[v] w fun e w' => e = .returned (.string (shown l)) ∧ Below w.heap.size w w' := by
  have HC := Num.hide (ok_impl v l w h (fun f hf => by have := bulk_sizes hl f hf; unfold maxLen; omega) hS)
  have hlen : l.length ≤ 1048576 := by unfold bulk at hl; omega
  obtain ⟨a, c, rfl, h2⟩ := is_form h
  have HA := Num.hide h2
  clear h h2 hS
  obtain ⟨r, hr⟩ : ∃ r, shown l = r := ⟨_, rfl⟩
  rw [hr]
  unfold shown at hr
  cases hok : ok l with
  | false =>
    rw [hok, if_neg (by simp)] at hr
    rw [hok] at HC
    subst hr
    clear hok
    go_enter Tryd.func15, Tryd.ntmps15
    go_wp2_with fail
    refine HC.out.mono ?_
    rintro e w1 ⟨rfl, hb⟩
    have HB := Num.hide hb
    clear hb
    go_wp2
    go_ret
    exact ⟨rfl, HB.out⟩
  | true =>
    rw [hok, if_pos rfl] at hr
    rw [hok] at HC
    have HR := Num.hide hr
    clear hok hr
    go_enter Tryd.func15, Tryd.ntmps15
    go_wp2_with fail
    refine HC.out.mono ?_
    rintro e w1 ⟨rfl, hb⟩
    have HB := Num.hide hb
    have hs1 := hb.size
    clear hb HC
    have H0 := Num.hide (Lib.IsBuilderF.of (Lib.fresh_isBuilder 60 5 w1))
    have HL0 := Num.hide ((Below.refl w1.heap.size w1).alloc (Nat.le_refl _) (.cells #[.pointer none, .slice none 0 0] 60))
    go_wp2
    go_loopw [11] (fun iv wr => ∃ (i : Nat) (s : ByteArray), i ≤ l.length ∧ iv = .int .i64 (i : Int) ∧ Hid (showGo (l.take i) = s) ∧ Hid (Lib.IsBuilderF 60 5 w1.heap.size w1.heap.size (Lib.strCells s) wr) ∧ Hid (Below w1.heap.size w1 wr)) (fun iv _ => l.length - (intOf iv).toNat)
    case atStart => exact ⟨0, _, by omega, rfl, rfl, H0, HL0⟩
    case round =>
      clear H0 HL0
      obtain ⟨i, s, hi, rfl, HS, HU, HL⟩ := hrel
      have hss : s.size ≤ 8796093022208 := by
        have h1 := showGo_size (l.take i)
        have h2 := bulk_le l i
        rw [HS.out, List.length_take] at h1
        unfold bulk at hl
        omega
      have hs2 := HL.out.size
      by_cases hlt : i < l.length
      · obtain ⟨b, o, rfl, hc, hmx, hblt, hcell⟩ := Num.unhide HA (by omega)
        obtain ⟨g1, g2⟩ := hcell i hlt
        have c1 : wr.cell? ⟨b, o + i * 2, none⟩ = some (.string l[i].1) := by rw [HL.out.cell (p := ⟨b, o + i * 2, none⟩) (by show b < _; omega), HB.out.cell (p := ⟨b, o + i * 2, none⟩) hblt]; exact g1
        have c2 : wr.cell? ⟨b, o + i * 2 + 1, none⟩ = some (.string l[i].2) := by rw [HL.out.cell (p := ⟨b, o + i * 2 + 1, none⟩) (by show b < _; omega), HB.out.cell (p := ⟨b, o + i * 2 + 1, none⟩) hblt]; exact g2
        have hT := showGo_take l i hlt
        rw [HS.out] at hT
        have HT := Num.hide hT
        have hxy : (l[i]).1.size ≤ 1048576 ∧ (l[i]).2.size ≤ 1048576 := bulk_sizes hl _ (List.getElem_mem hlt)
        clear hcell g1 g2 hT
        generalize l[i] = f at c1 c2 HT hxy
        obtain ⟨x, y⟩ := f
        simp only at c1 c2 hxy
        have HW := Num.hide (Shelf.writeString w1.heap.size w1.heap.size (Lib.strCells s) (x ++ ⟨#[58]⟩ ++ ⟨#[32]⟩ ++ y ++ ⟨#[13, 10]⟩) (wr.alloc (.cells #[.string x, .string y] 33)) (HU.out.alloc _) (by rw [Lib.strCells_length]; simp only [ByteArray.size_append]; have h1 : (⟨#[58]⟩ : ByteArray).size = 1 := rfl; have h2 : (⟨#[32]⟩ : ByteArray).size = 1 := rfl; have h3 : (⟨#[13, 10]⟩ : ByteArray).size = 2 := rfl; omega) (by simp; omega))
        have HL2 := Num.hide (HL.out.alloc hs2 (.cells #[.string x, .string y] 33))
        go_wp2_with fail
        refine (Num.unhide HW).mono ?_
        rintro e w2 ⟨rfl, hu, hb2⟩
        have HU2 : Hid (Lib.IsBuilderF 60 5 w1.heap.size w1.heap.size (Lib.strCells (showStep s (x, y))) w2) := by
          rw [← one_line, ← str_app]; exact Or.inr hu
        have HL3 := Num.hide (HL2.out.trans hb2)
        clear hu hb2 HL2 HW HL HU
        go_wp2
        go_roundw
        case rel => exact ⟨i + 1, _, by omega, by go_num, HT, HU2, HL3⟩
        case measure => simp [intOf]; omega
      · obtain rfl : i = l.length := by omega
        have hs := HS.out
        rw [List.take_of_length_le (Nat.le_refl _)] at hs
        have hr := HR.out
        rw [hs] at hr
        subst hr
        clear hs
        have HW := Num.hide (Shelf.writeString w1.heap.size w1.heap.size (Lib.strCells s) ⟨#[13, 10]⟩ wr HU.out (by rw [Lib.strCells_length]; have h3 : (⟨#[13, 10]⟩ : ByteArray).size = 2 := rfl; omega) hs2)
        rw [str_app] at HW
        have HF := Num.hide (fun W k => Shelf.builderString w1.heap.size w1.heap.size (s ++ ⟨#[13, 10]⟩).data.toList W k)
        go_wp2_with fail
        refine (Num.unhide HW).mono ?_
        rintro e w2 ⟨rfl, hu, hb2⟩
        have HU2 := Num.hide hu
        have HL2 := Num.hide (HL.out.trans hb2)
        have hs3 := HL2.out.size
        clear hu hb2
        go_wp2_with fail
        refine (Num.unhide HF _ (Or.inr HU2.out) (by omega)).mono ?_
        rintro e w3 ⟨rfl, hu, hb3⟩
        have HL3 := Num.hide (HB.out.trans ((HL2.out.trans hb3).mono hs1))
        clear hu hb3
        go_wp2
        go_ret
        exact ⟨rfl, HL3.out⟩
end Flds
end Go.Proofs.YtbeljhonikhdjaaDoor
