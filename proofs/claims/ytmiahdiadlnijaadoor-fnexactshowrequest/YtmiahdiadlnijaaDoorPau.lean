/-
  RespOkImpl: hasBody and ResponseOk of the program: is an answer right?
  RespOpen: A response that came in, as the law's argument: what it reads as.
  FldShowSpec: ShowFields of the specification: the text of fields; what was there stays.
  FldDropSpec: FieldDrop of the specification: a list of fields in a row of the call's own; what was there stays.
-/
import Derived.Test.YtmiahdiadlnijaaDoorPar
import Derived.Test.YtmiahdiadlnijaaDoorPah
import Derived.Test.YtmiahdiadlnijaaDoorPas
import Derived.Deep.Strs
import Derived.Test.YtmiahdiadlnijaaDoorPac
import Derived.Test.YtmiahdiadlnijaaDoorFldsOkSpec
import Derived.Deep.QuietTactic
import Derived.BigQuiet
import Derived.Test.YtmiahdiadlnijaaDoorPad
namespace Go.Proofs.YtmiahdiadlnijaaDoor
open Go.RowKit
set_option linter.unusedVariables false
namespace Msg

set_option maxRecDepth 100000 in
theorem hasBody_impl (s : Int) (w : World) : Calls Tryd.prog 35 #[.int .i64 s] w fun e w' => e = .returned (.bool (decide (s ≠ 204 ∧ s ≠ 304))) ∧ w = w' := by
  by_cases h1 : s = 204
  · subst h1
    go_enter Tryd.func35, Tryd.ntmps35
    go_wp2
    go_ret
    exact ⟨rfl, rfl⟩
  · have d1 : (s != 204) = true := by rw [bne_iff_ne]; exact h1
    by_cases h2 : s = 304
    · subst h2
      go_enter Tryd.func35, Tryd.ntmps35
      go_wp2
      go_ret
      exact ⟨rfl, rfl⟩
    · have d2 : (s != 304) = true := by rw [bne_iff_ne]; exact h2
      rw [decide_eq_true ⟨h1, h2⟩]
      clear h1 h2
      go_enter Tryd.func35, Tryd.ntmps35
      go_wp2
      go_ret
      exact ⟨rfl, rfl⟩
theorem signs_alloc3 {w : World} (h : Sign.Signs w) (o : Obj) : Sign.Signs (w.alloc o) := Flds.signs_below h ((Below.refl w.heap.size w).alloc (Nat.le_refl _) o) (Flds.signs_lt h)
set_option maxRecDepth 100000 in
set_option maxHeartbeats 2000000 in
theorem respOk_impl (s : Int) (v : Value) (l : List Flds.Fld) (b : ByteArray) (w : World) (h : Flds.Is w v l) (hl : Flds.bulk l ≤ 1048576) (hb : b.size ≤ 1048576) (hS : Sign.Signs w) :
    Calls Tryd.prog 17 #[Resp.val s v b] w fun e w' => e = .returned (.bool (respOk s l b)) ∧ Below w.heap.size w w' := by
  unfold Resp.val
  have HHb := Num.hide (fun W => hasBody_impl s W)
  obtain ⟨a, c, rfl, _⟩ := Flds.is_form h
  have hb0 := (Below.refl w.heap.size w).alloc (Nat.le_refl _) (.cells #[.int .i64 s, .slice a l.length c, .string b] 39)
  have HB0 := Num.hide hb0
  have HP := Num.hide (own_impl (.slice a l.length c) l _ (Recs.is_stay h (Nat.le_refl _) hb0) hl (signs_alloc3 hS _))
  clear h hb0 hl hS
  obtain ⟨r, hr⟩ : ∃ r, respOk s l b = r := ⟨_, rfl⟩
  rw [hr]
  unfold respOk at hr
  generalize plain l = t3 at HP hr
  have fin : ∀ W, Below (w.alloc (.cells #[.int .i64 s, .slice a l.length c, .string b] 39)).heap.size (w.alloc (.cells #[.int .i64 s, .slice a l.length c, .string b] 39)) W → W.cell? ⟨w.heap.size, 0, none⟩ = some (.int .i64 s) ∧ W.cell? ⟨w.heap.size, 2, none⟩ = some (.string b) := fun W hb2 => by
    have k0 := (hb2.cell (p := ⟨w.heap.size, 0, none⟩) (by show w.heap.size < _; rw [World.size_alloc]; omega)).trans (cell_of_row _ _ _ _ _ _ (heap_alloc_new w _))
    have k3 := (hb2.cell (p := ⟨w.heap.size, 2, none⟩) (by show w.heap.size < _; rw [World.size_alloc]; omega)).trans (cell_of_row _ _ _ _ _ _ (heap_alloc_new w _))
    simp only [List.getElem?_toArray, List.getElem?_cons_succ, List.getElem?_cons_zero] at k0 k3
    exact ⟨k0, k3⟩
  have FIN := Num.hide fin
  clear fin
  by_cases h2 : s < 200
  · have d2 : decide (s < 200) = true := decide_eq_true h2
    obtain rfl : false = r := by rw [← hr, decide_eq_false (by omega : ¬ (200 ≤ s ∧ s ≤ 599))]; rfl
    clear hr HP
    go_enter Tryd.func17, Tryd.ntmps17
    go_wp2
    go_ret
    exact ⟨rfl, HB0.out⟩
  · have d2 : decide (s < 200) = false := decide_eq_false h2
    by_cases h5 : 599 < s
    · have d5 : decide (599 < s) = true := decide_eq_true h5
      obtain rfl : false = r := by rw [← hr, decide_eq_false (by omega : ¬ (200 ≤ s ∧ s ≤ 599))]; rfl
      clear hr HP
      go_enter Tryd.func17, Tryd.ntmps17
      go_wp2
      go_ret
      exact ⟨rfl, HB0.out⟩
    · have d5 : decide (599 < s) = false := decide_eq_false h5
      rw [decide_eq_true (by omega : 200 ≤ s ∧ s ≤ 599), Bool.true_and] at hr
      cases t3 with
      | false =>
        obtain rfl : false = r := by rw [← hr]; rfl
        clear hr
        go_enter Tryd.func17, Tryd.ntmps17
        go_wp2_with fail
        refine HP.out.mono ?_
        rintro e w2 ⟨rfl, hb2⟩
        have HB2 := Num.hide (HB0.out.trans (hb2.mono HB0.out.size))
        clear hb2 HP
        go_wp2
        go_ret
        exact ⟨rfl, HB2.out⟩
      | true =>
        rw [Bool.true_and] at hr
        by_cases he : b = ⟨#[]⟩
        · have db : b.toList.isEmpty = true := by rw [he, ByteArray.toList_eq]; rfl
          obtain rfl : true = r := by rw [← hr, decide_eq_true he, Bool.or_true, he]; rfl
          clear hr he
          go_enter Tryd.func17, Tryd.ntmps17
          go_wp2_with fail
          refine HP.out.mono ?_
          rintro e w2 ⟨rfl, hb2⟩
          have HB2 := Num.hide (HB0.out.trans (hb2.mono HB0.out.size))
          obtain ⟨k0, k2⟩ := FIN.out _ hb2
          clear hb2 HP
          go_wp2
          go_ret
          exact ⟨rfl, HB2.out⟩
        · have db : b.toList.isEmpty = false := Sign.empty_false b (by
            rcases Nat.eq_zero_or_pos b.size with h0 | h0
            · exact absurd (ByteArray.ext (Array.eq_empty_of_size_eq_zero h0)) he
            · exact h0)
          rw [decide_eq_false he, Bool.or_false] at hr
          generalize decide (s ≠ 204 ∧ s ≠ 304) = t at HHb hr
          cases t with
          | false =>
            obtain rfl : false = r := by rw [← hr, Bool.and_false]
            clear hr
            go_enter Tryd.func17, Tryd.ntmps17
            go_wp2_with fail
            refine HP.out.mono ?_
            rintro e w2 ⟨rfl, hb2⟩
            have HB2 := Num.hide (HB0.out.trans (hb2.mono HB0.out.size))
            obtain ⟨k0, k2⟩ := FIN.out _ hb2
            clear hb2 HP he
            go_wp2_with fail
            refine (HHb.out _).mono ?_
            rintro e w3 ⟨rfl, rfl⟩
            go_wp2
            go_ret
            exact ⟨rfl, HB2.out⟩
          | true =>
            rw [Bool.and_true] at hr
            have d60 : decide ((b.size : Int) ≤ 60) = r := by rw [← hr, decide_eq_decide]; omega
            clear hr
            go_enter Tryd.func17, Tryd.ntmps17
            go_wp2_with fail
            refine HP.out.mono ?_
            rintro e w2 ⟨rfl, hb2⟩
            have HB2 := Num.hide (HB0.out.trans (hb2.mono HB0.out.size))
            obtain ⟨k0, k2⟩ := FIN.out _ hb2
            clear hb2 HP he
            go_wp2_with fail
            refine (HHb.out _).mono ?_
            rintro e w3 ⟨rfl, rfl⟩
            go_wp2
            go_ret
            exact ⟨rfl, HB2.out⟩
end Msg
end Go.Proofs.YtmiahdiadlnijaaDoor
namespace Go.Proofs.YtmiahdiadlnijaaDoor
open Go.ChangeShapes Go.WideShapes Go.ChangeAt Go.RowKit Go.Deep
set_option linter.unusedVariables false
namespace Resp

/-- what the walk is told of a response that came in -/
def Arg (w : World) (v : Value) (s : Int) (l : List Flds.Fld) (b : ByteArray) : Prop := ∃ u, v = val s u b ∧ Flds.Arg w u l ∧ b.size ≤ maxLen ∧ (Lit.int .i64 s).wf = true
theorem three {α : Type} {cs : Array α} (h : cs.size = 3) : ∃ c0 c1 c2, cs = #[c0, c1, c2] := by
  obtain ⟨l⟩ := cs
  match l, h with
  | [c0, c1, c2], _ => exact ⟨c0, c1, c2, rfl⟩
set_option maxRecDepth 100000 in
theorem opened {H : Type} {enc : TypeId × Value → H} {W : World} {base : Nat} {v : Value} {d : DataW H} {p : List MemPlace}
    (hok : Value.okWide Tryd.prog W .any base 35 v) (h : DataW.Trod enc Tryd.prog W 0 (fun _ => true) true 35 v d p) : ∃ s l b, Arg W v s l b := by
  obtain ⟨cs, rfl, hz⟩ := okWide_struct Tryd.underlying35 hok
  obtain ⟨fuel, hf⟩ := h
  obtain ⟨c0, c1, c2, rfl⟩ := three (hz.trans (by kernel_rfl))
  obtain ⟨y0, y1, y2, n, _, hl, h0, h1, h2⟩ := trod_struct3 Tryd.underlying35 hf
  have e0 : Tryd.prog.cellsOf 3 = 1 := by kernel_rfl
  have e1 : Tryd.prog.cellsOf 22 = 1 := by kernel_rfl
  have e2 : Tryd.prog.cellsOf 9 = 1 := by kernel_rfl
  simp only [Value.cells] at h0 h1 h2
  rw [e0] at h0
  rw [e1] at h1
  rw [e2] at h2
  simp only [List.drop_zero, List.drop_succ_cons, List.take_succ_cons, List.take_zero] at h0 h1 h2
  obtain ⟨a0, len0, cap0, l, hcs, hla⟩ := Flds.opened_cells h1
  obtain ⟨t, et, _, ht⟩ := DataW.trod_string Tryd.underlying9 h2
  obtain ⟨k, ek, _, hk⟩ := DataW.trod_int Tryd.underlying3 h0
  simp only [List.cons.injEq, and_true] at hcs et ek
  subst hcs et ek
  exact ⟨k, l, t, _, rfl, hla, ht, hk⟩
theorem arg_stay {C : Nat} {w w' : World} {v : Value} {s : Int} {l : List Flds.Fld} {b : ByteArray} (h : Arg w v s l b) (hC : w.heap.size ≤ C) (hb : Below C w w') : Arg w' v s l b := by
  obtain ⟨u, h1, h2, h3⟩ := h
  exact ⟨u, h1, Flds.arg_stay h2 hC hb, h3⟩
end Resp
end Go.Proofs.YtmiahdiadlnijaaDoor
namespace Go.Proofs.YtmiahdiadlnijaaDoor
open Go.RowKit
set_option linter.unusedVariables false
namespace Flds

set_option maxRecDepth 100000 in
set_option maxHeartbeats 1000000 in
theorem show_spec (v : Value) (l : List Fld) (w : World) (h : Is w v l) (hl : bulk l ≤ 1099511627776) :
    Calls Tryd.prog 30 #[v] w fun e w' => e = .returned (.string (shown l)) ∧ Below w.heap.size w w' := by
  have hz : ∀ f ∈ l, f.1.size ≤ maxLen ∧ f.2.size ≤ maxLen := by
    intro f hf
    obtain ⟨i, hi, rfl⟩ := List.getElem_of_mem hf
    have h3 := bulk_take l i hi
    have h4 := bulk_le l (i + 1)
    unfold bulk at hl; unfold maxLen
    omega
  have hlen : l.length ≤ 1099511627776 := by unfold bulk at hl; omega
  have HC := Num.hide (ok_spec v l w h hz hlen)
  obtain ⟨a, c, rfl, h2⟩ := is_form h
  have HA := Num.hide h2
  clear h h2 hz
  obtain ⟨r, hr⟩ : ∃ r, shown l = r := ⟨_, rfl⟩
  rw [hr]
  unfold shown at hr
  cases hok : ok l with
  | false =>
    rw [hok, if_neg (by simp)] at hr
    rw [hok] at HC
    subst hr
    clear hok
    go_enter Tryd.func30, Tryd.ntmps30
    go_wp2_with fail
    refine HC.out.mono ?_
    rintro e w1 ⟨rfl, hb⟩
    have HB := Num.hide hb
    clear hb
    go_wp2
    go_ret
    exact ⟨rfl, HB.out⟩
  | true =>
    rw [hok, if_pos rfl] at hr
    rw [hok] at HC
    have HR := Num.hide hr
    clear hok hr
    go_enter Tryd.func30, Tryd.ntmps30
    go_wp2_with fail
    refine HC.out.mono ?_
    rintro e w1 ⟨rfl, hb⟩
    have HB := Num.hide hb
    clear hb HC
    go_wp2
    go_loopw [3, 4] (fun sv iv wr => ∃ i : Nat, i ≤ l.length ∧ iv = .int .i64 (i : Int) ∧ (∃ s, sv = .string s ∧ Hid (showGo (l.take i) = s)) ∧ Hid (Below w.heap.size w wr)) (fun _ iv _ => l.length - (intOf iv).toNat)
    case atStart => exact ⟨0, by omega, rfl, ⟨_, rfl, rfl⟩, HB⟩
    case round =>
      clear HB
      obtain ⟨i, hi, rfl, ⟨s, rfl, HS⟩, HB⟩ := hrel
      have hss : s.size ≤ 8796093022208 := by
        have h1 := showGo_size (l.take i)
        have h2 := bulk_le l i
        rw [HS.out, List.length_take] at h1
        unfold bulk at hl
        omega
      by_cases hlt : i < l.length
      · obtain ⟨b, o, rfl, hc, hmx, hblt, hcell⟩ := Num.unhide HA (by omega)
        obtain ⟨g1, g2⟩ := hcell i hlt
        have c1 : wr.cell? ⟨b, o + i * 2, none⟩ = some (.string l[i].1) := by rw [HB.out.cell (p := ⟨b, o + i * 2, none⟩) hblt]; exact g1
        have c2 : wr.cell? ⟨b, o + i * 2 + 1, none⟩ = some (.string l[i].2) := by rw [HB.out.cell (p := ⟨b, o + i * 2 + 1, none⟩) hblt]; exact g2
        have hT := showGo_take l i hlt
        rw [HS.out] at hT
        have HT := Num.hide hT
        have hxy : (l[i]).1.size ≤ 8796093022208 ∧ (l[i]).2.size ≤ 8796093022208 := by
          have h3 := bulk_take l i hlt
          have h4 := bulk_le l (i + 1)
          unfold bulk at hl
          omega
        clear hcell g1 g2 hT
        generalize l[i] = f at c1 c2 HT hxy
        obtain ⟨x, y⟩ := f
        simp only at c1 c2 hxy
        unfold showStep at HT
        go_wp2
        go_quiet (fail)
        go_wp2
        go_roundw
        case rel => exact ⟨i + 1, by omega, by go_num, ⟨_, rfl, HT⟩, Num.hide (Recs.below_drewN HB.out nq)⟩
        case measure => simp [intOf]; omega
      · obtain rfl : i = l.length := by omega
        have hs := HS.out
        rw [List.take_of_length_le (Nat.le_refl _)] at hs
        have hr := HR.out
        rw [hs] at hr
        subst hr
        clear hs
        go_wp2
        go_ret
        exact ⟨rfl, HB.out⟩
end Flds
end Go.Proofs.YtmiahdiadlnijaaDoor
namespace Go.Proofs.YtmiahdiadlnijaaDoor
open Go.RowKit
set_option linter.unusedVariables false
namespace Flds

set_option maxRecDepth 100000 in
set_option maxHeartbeats 1000000 in
theorem drop_spec (v : Value) (l : List Fld) (name : ByteArray) (w : World) (h : Is w v l) (hl : l.length ≤ 1073741824) :
    Calls Tryd.prog 50 #[v, .string name] w fun e w' => ∃ v', e = .returned v' ∧ Own w.heap.size w' v' (drop l name) ∧ Below w.heap.size w w' := by
  obtain ⟨a, c, rfl, h2⟩ := is_form h
  have HA := Num.hide h2
  clear h h2
  obtain ⟨i0, hi0, hz0, hz1, hz2⟩ := info_parts infoF
  have HD := Num.hide (made_nil w)
  go_enter Tryd.func50, Tryd.ntmps50
  go_wp2
  go_loopw [5, 6] (fun ov iv wr => ∃ i : Nat, i ≤ l.length ∧ iv = .int .i64 (i : Int) ∧ Hid (Own w.heap.size wr ov (drop (l.take i) name)) ∧ Hid (Below w.heap.size w wr)) (fun _ iv _ => l.length - (intOf iv).toNat)
  case atStart => exact ⟨0, by omega, rfl, HD, (Below.refl _ _).alloc (Nat.le_refl _) _⟩
  case round =>
    clear HD
    obtain ⟨i, hi, rfl, HO, HB⟩ := hrel
    by_cases hlt : i < l.length
    · obtain ⟨bk, o, rfl, hc, hmx, hblt, hcell⟩ := Num.unhide HA (by omega)
      obtain ⟨g1, g2⟩ := hcell i hlt
      have c1 : wr.cell? ⟨bk, o + i * 2, none⟩ = some (.string l[i].1) := by rw [HB.out.cell (p := ⟨bk, o + i * 2, none⟩) hblt]; exact g1
      have c2 : wr.cell? ⟨bk, o + i * 2 + 1, none⟩ = some (.string l[i].2) := by rw [HB.out.cell (p := ⟨bk, o + i * 2 + 1, none⟩) hblt]; exact g2
      have HT := Num.hide (drop_take l name i hlt)
      have hdl : (drop (l.take i) name).length ≤ 1073741824 := by have := drop_length (l.take i) name; rw [List.length_take] at this; omega
      have hsz := HB.out.size
      clear hcell g1 g2
      generalize l[i] = f at c1 c2 HT
      generalize drop (l.take i) name = D at HO HT hdl
      obtain ⟨x, y⟩ := f
      simp only at c1 c2
      by_cases he : x = name
      · subst he
        have HO2 : Hid (Own w.heap.size wr u5 (drop (l.take (i + 1)) x)) := by
          rw [HT.out, if_pos rfl, List.append_nil]; exact HO
        go_wp2
        go_roundw
        case rel => exact ⟨i + 1, by omega, by go_num, HO2, HB⟩
        case measure => simp [intOf]; omega
      · have d := ne_text he
        have d' : (x.toList != name.toList) = true := by rw [bne, d]; rfl
        have HT2 : Hid (drop (l.take (i + 1)) name = D ++ [(x, y)]) := by show _ = _; rw [HT.out, if_neg he]
        clear he
        go_wp2_with (at_builtin; refine wpList_append_own _ rfl _ _ 27 rfl w.heap.size 60 i0 _ 2 32 Tryd.underlying27 hi0 hz0 hz1 hz2 rfl (by decide) _ _ _ rfl (World.ownsRow.alloc HO.out _) ⟨wr.heap.size, 0, none⟩ 1 1 [.string x, .string y] rfl rfl (cells_two wr x y) (two_ok x y) (by unfold maxLen; omega) (by omega) ?c5 ?_)
        case c5 => first | omega | (simp; omega)
        intro v' w2 ho2 hg2 _
        obtain ⟨hp1, hp2⟩ := put_more hsz HO.out HB.out ho2 hg2
        have HP1 : Hid (Own w.heap.size w2 v' (drop (l.take (i + 1)) name)) := by rw [HT2.out]; exact hp1
        have HP2 := Num.hide hp2
        clear ho2 hg2 hp1 hp2
        go_wp2
        go_roundw
        case rel => exact ⟨i + 1, by omega, by go_num, HP1, HP2⟩
        case measure => simp [intOf]; omega
    · obtain rfl : i = l.length := by omega
      have ho := HO.out
      rw [List.take_of_length_le (Nat.le_refl _)] at ho
      have HO2 := Num.hide ho
      clear ho HO
      go_wp2
      go_ret
      exact ⟨_, rfl, HO2.out, HB.out⟩

end Flds
end Go.Proofs.YtmiahdiadlnijaaDoor
