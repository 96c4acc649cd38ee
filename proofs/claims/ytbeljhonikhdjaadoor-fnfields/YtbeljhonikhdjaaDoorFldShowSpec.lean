/-
  ShowFields of the specification: the text of fields; what was there stays.
-/
import Derived.Test.YtbeljhonikhdjaaDoorFldsOkSpec
import Derived.Deep.QuietTactic
import Derived.BigQuiet
namespace Go.Proofs.YtbeljhonikhdjaaDoor
open Go.RowKit
set_option linter.unusedVariables false
namespace Flds

/-- one field more behind a text -/
def showStep (s : ByteArray) (f : Fld) : ByteArray := s ++ f.1 ++ ⟨#[58, 32]⟩ ++ f.2 ++ ⟨#[13, 10]⟩
def showGo (l : List Fld) : ByteArray := l.foldl showStep ⟨#[]⟩
/-- the text of fields; empty where they are not right -/
def shown (l : List Fld) : ByteArray := if ok l = true then showGo l ++ ⟨#[13, 10]⟩ else ⟨#[]⟩
theorem showGo_take (l : List Fld) (k : Nat) (h : k < l.length) : showGo (l.take (k + 1)) = showStep (showGo (l.take k)) l[k] := by
  unfold showGo
  rw [List.take_succ_eq_append_getElem h, List.foldl_append]; rfl
theorem showGo_size (l : List Fld) : (showGo l).size = 4 * l.length + (l.map fun f => f.1.size + f.2.size).sum := by
  refine Num.snoc_ind (P := fun l => (showGo l).size = 4 * l.length + (l.map fun f => f.1.size + f.2.size).sum) rfl ?_ l
  intro l f ih
  have e : showGo (l ++ [f]) = showStep (showGo l) f := by unfold showGo; rw [List.foldl_append]; rfl
  have hz1 : (⟨#[58, 32]⟩ : ByteArray).size = 2 := rfl
  have hz2 : (⟨#[13, 10]⟩ : ByteArray).size = 2 := rfl
  rw [e, List.length_append, List.map_append, List.sum_append]
  unfold showStep
  simp only [ByteArray.size_append, List.length_singleton, List.map_cons, List.map_nil, List.sum_cons, List.sum_nil, hz1, hz2]
  omega

set_option maxRecDepth 100000 in
set_option maxHeartbeats 1000000 in
theorem show_spec (v : Value) (l : List Fld) (w : World) (h : Is w v l) (hl : bulk l ≤ 1099511627776) :
    Calls Tryd.prog 22 #[v] w fun e w' => e = .returned (.string (shown l)) ∧ Below w.heap.size w w' := by
  have hz : ∀ f ∈ l, f.1.size ≤ maxLen ∧ f.2.size ≤ maxLen := by
    intro f hf
    obtain ⟨i, hi, rfl⟩ := List.getElem_of_mem hf
    have h3 := bulk_take l i hi
    have h4 := bulk_le l (i + 1)
    unfold bulk at hl; unfold maxLen
    omega
  have hlen : l.length ≤ 1099511627776 := by unfold bulk at hl; omega
  have HC := Num.hide (ok_spec v l w h hz hlen)
  obtain ⟨a, c, rfl, h2⟩ := is_form h
  have HA := Num.hide h2
  clear h h2 hz
  obtain ⟨r, hr⟩ : ∃ r, shown l = r := ⟨_, rfl⟩
  rw [hr]
  unfold shown at hr
  cases hok : ok l with
  | false =>
    rw [hok, if_neg (by simp)] at hr
    rw [hok] at HC
    subst hr
    clear hok
    go_enter Tryd.func22, Tryd.ntmps22
    go_wp2_with fail
    refine HC.out.mono ?_
    rintro e w1 ⟨rfl, hb⟩
    have HB := Num.hide hb
    clear hb
    go_wp2
    go_ret
    exact ⟨rfl, HB.out⟩
  | true =>
    rw [hok, if_pos rfl] at hr
    rw [hok] at HC
    have HR := Num.hide hr
    clear hok hr
    go_enter Tryd.func22, Tryd.ntmps22
    go_wp2_with fail
    refine HC.out.mono ?_
    rintro e w1 ⟨rfl, hb⟩
    have HB := Num.hide hb
    clear hb HC
    go_wp2
    go_loopw [3, 4] (fun sv iv wr => ∃ i : Nat, i ≤ l.length ∧ iv = .int .i64 (i : Int) ∧ (∃ s, sv = .string s ∧ Hid (showGo (l.take i) = s)) ∧ Hid (Below w.heap.size w wr)) (fun _ iv _ => l.length - (intOf iv).toNat)
    case atStart => exact ⟨0, by omega, rfl, ⟨_, rfl, rfl⟩, HB⟩
    case round =>
      clear HB
      obtain ⟨i, hi, rfl, ⟨s, rfl, HS⟩, HB⟩ := hrel
      have hss : s.size ≤ 8796093022208 := by
        have h1 := showGo_size (l.take i)
        have h2 := bulk_le l i
        rw [HS.out, List.length_take] at h1
        unfold bulk at hl
        omega
      by_cases hlt : i < l.length
      · obtain ⟨b, o, rfl, hc, hmx, hblt, hcell⟩ := Num.unhide HA (by omega)
        obtain ⟨g1, g2⟩ := hcell i hlt
        have c1 : wr.cell? ⟨b, o + i * 2, none⟩ = some (.string l[i].1) := by rw [HB.out.cell (p := ⟨b, o + i * 2, none⟩) hblt]; exact g1
        have c2 : wr.cell? ⟨b, o + i * 2 + 1, none⟩ = some (.string l[i].2) := by rw [HB.out.cell (p := ⟨b, o + i * 2 + 1, none⟩) hblt]; exact g2
        have hT := showGo_take l i hlt
        rw [HS.out] at hT
        have HT := Num.hide hT
        have hxy : (l[i]).1.size ≤ 8796093022208 ∧ (l[i]).2.size ≤ 8796093022208 := by
          have h3 := bulk_take l i hlt
          have h4 := bulk_le l (i + 1)
          unfold bulk at hl
          omega
        clear hcell g1 g2 hT
        generalize l[i] = f at c1 c2 HT hxy
        obtain ⟨x, y⟩ := f
        simp only at c1 c2 hxy
        unfold showStep at HT
        go_wp2
        go_quiet (fail)
        go_wp2
        go_roundw
        case rel => exact ⟨i + 1, by omega, by go_num, ⟨_, rfl, HT⟩, Num.hide (Recs.below_drewN HB.out nq)⟩
        case measure => simp [intOf]; omega
      · obtain rfl : i = l.length := by omega
        have hs := HS.out
        rw [List.take_of_length_le (Nat.le_refl _)] at hs
        have hr := HR.out
        rw [hs] at hr
        subst hr
        clear hs
        go_wp2
        go_ret
        exact ⟨rfl, HB.out⟩
end Flds
end Go.Proofs.YtbeljhonikhdjaaDoor
