/-
  DirsSpec: Directives of the specification: the directives of a list of fields, in a row of the call's own; what was there stays.
  CcHasSpec: CcHas of the specification.
  PlainSpec: l6Plain of the specification: has a message no field that says how long its body is?
  RespOkSpec: ResponseOk of the specification: is an answer right?
  StoreSpec: Storable of the specification.
-/
import Derived.Test.YtbcjpjhpobmpbaaGreatDoorPah
import Derived.Test.YtbcjpjhpobmpbaaGreatDoorPai
import Derived.Test.YtbcjpjhpobmpbaaGreatDoorLowerSpec
import Derived.Test.YtbcjpjhpobmpbaaGreatDoorTokenSpec
import Derived.Laws.Strings2
import Derived.Maps.AppendAt
import Derived.Deep.Cut
import Derived.Test.YtbcjpjhpobmpbaaGreatDoorPag
import Derived.Test.YtbcjpjhpobmpbaaGreatDoorFldsOkSpec
import Derived.Test.YtbcjpjhpobmpbaaGreatDoorPab
namespace Go.Proofs.YtbcjpjhpobmpbaaGreatDoor
open Go.RowKit
set_option linter.unusedVariables false
namespace Cc
open Flds (Fld two_cells box_second)

/-- the memory within: what has been put lies in the first block or behind the parts -/
structure DMid (w w2 : World) (pv : Value) (L : List ByteArray) (i : Nat) (ov : Value) (wr : World) : Prop where
  own : Dirs.Own w.heap.size wr ov (ofParts (L.take i))
  apart : ∀ k, ov.ownBlock = some k → k = w.heap.size ∨ w2.heap.size ≤ k
  parts : Strs.Is wr pv L
  below : Below w.heap.size w wr
  size : w2.heap.size ≤ wr.heap.size
theorem DMid.step {w w2 : World} {pv : Value} {L : List ByteArray} {i : Nat} {ov : Value} {wr : World} (m : DMid w w2 pv L i ov wr) (hw : w.heap.size ≤ w2.heap.size) {w' : World} (h : Below wr.heap.size wr w') : DMid w w2 pv L i ov w' where
  own := Recs.own_below m.own h
  apart := m.apart
  parts := Strs.is_below (B := 0) m.parts h
  below := m.below.trans (h.mono (Nat.le_trans hw m.size))
  size := Nat.le_trans m.size h.size
theorem DMid.skip {w w2 : World} {pv : Value} {L : List ByteArray} {i : Nat} {ov : Value} {wr : World} (m : DMid w w2 pv L i ov wr) (hi : i < L.length) (h : isDir L[i] = false) : DMid w w2 pv L (i + 1) ov wr where
  own := by rw [ofParts_take L i hi, if_neg (by rw [h]; exact Bool.false_ne_true), List.append_nil]; exact m.own
  apart := m.apart
  parts := m.parts
  below := m.below
  size := m.size
theorem DMid.put {w w2 : World} {pb po pc : Nat} {L : List ByteArray} {i : Nat} {ov : Value} {wr : World} (m : DMid w w2 (.slice (some ⟨pb, po, none⟩) L.length pc) L i ov wr) (hi : i < L.length) (h : isDir L[i] = true) (hw : w.heap.size < pb) (hpb : pb < w2.heap.size) {x y : ByteArray} (hxy : dirOf L[i] = (x, y)) {v' : Value} {w3 : World}
    (ho : w3.ownsRow w.heap.size 78 2 v' ((ofParts (L.take i)).length + 1) ((ofParts (L.take i)).flatMap Flds.cells ++ [.string x, .string y])) (hg : (wr.alloc (.cells #[.string x, .string y] 78)).grownBy w3 ov.ownBlock)
    (hat : v'.ownBlock = ov.ownBlock ∨ v'.ownBlock = some (wr.heap.size + 1)) : DMid w w2 (.slice (some ⟨pb, po, none⟩) L.length pc) L (i + 1) v' w3 where
  own := by
    rw [ofParts_take L i hi, if_pos h, hxy]
    exact Recs.own_snoc ho
  apart := by
    intro k hk
    rcases hat with e | e
    · exact m.apart k (e ▸ hk)
    · rw [e] at hk
      cases hk
      right
      have := m.size
      omega
  parts := by
    rcases m.parts with h1 | ⟨b, o, c, h1, h2, h3, h4⟩
    · exact absurd h1.1 (by intro e; rw [e] at hi; exact absurd hi (Nat.not_lt_zero _))
    · cases h1
      refine .inr ⟨pb, po, pc, rfl, h2, h3, fun j hj => ?_⟩
      have hlt : pb < wr.heap.size := Nat.lt_of_lt_of_le hpb m.size
      have hb : w3.heap[pb]? = wr.heap[pb]? := by
        rw [hg.block pb (by simp; omega) (by intro e; have := m.apart pb e.symm; omega)]
        exact heap_alloc_old wr _ hlt
      have e : w3.cell? ⟨pb, po + j, none⟩ = wr.cell? ⟨pb, po + j, none⟩ := by
        unfold World.cell?
        simp only [hb]
      rw [e]; exact h4 j hj
  below := (m.below.alloc (by have := m.size; omega) _).grown hg (by have := m.size; simp; omega) (fun j hj => (Recs.own_lt m.own j hj).1)
  size := by have h1 := m.size; have h2 := hg.size; simp at h2; omega
theorem DMid.cell {w w2 : World} {pb po pc : Nat} {L : List ByteArray} {i : Nat} {ov : Value} {wr : World} (m : DMid w w2 (.slice (some ⟨pb, po, none⟩) L.length pc) L i ov wr) (hi : i < L.length) : wr.cell? ⟨pb, po + i, none⟩ = some (.string L[i]) ∧ L.length ≤ pc ∧ pc ≤ maxLen := by
  rcases m.parts with h1 | ⟨b, o, c, h1, h2, h3, h4⟩
  · exact absurd h1.1 (by intro e; rw [e] at hi; exact absurd hi (Nat.not_lt_zero _))
  · cases h1
    exact ⟨h4 i hi, h2, h3⟩

theorem unq_none : unq ⟨#[]⟩ = ⟨#[]⟩ := unq_short (by decide)
set_option maxRecDepth 100000 in
set_option maxHeartbeats 8000000 in
theorem dirs_spec (v : Value) (l : List Fld) (w : World) (h : Flds.Is w v l) (hl : Flds.bulk l ≤ 1048576) :
    Calls Tryz.prog 40 #[v] w fun e w' => ∃ v', e = .returned v' ∧ Dirs.Own w.heap.size w' v' (dirs l) ∧ Below w.heap.size w w' := by
  obtain ⟨i0, hi0, hz0, hz1, hz2⟩ := info_parts Dirs.infoD
  have HG := Num.hide (Flds.get_spec v l ccName (w.alloc (.cells #[] 78)) (Recs.is_below h ((Below.refl _ _).alloc (Nat.le_refl _) _)) (by omega))
  have hsz := said_size l
  obtain ⟨D, hD⟩ : ∃ D, dirs l = D := ⟨_, rfl⟩
  rw [hD]
  unfold dirs at hD
  generalize Flds.get l ccName = g at HG hsz hD
  obtain ⟨s, b⟩ := g
  simp only at HG hsz hD
  have HS := Num.hide (Sign.split_spec s (w.alloc (.cells #[] 78)) (by omega))
  have hlen := split_len s
  have HZ := Num.hide (split_small s)
  generalize Sign.split s = L at HS hlen HZ hD
  have HD := Num.hide hD
  have HM0 := Num.hide (Dirs.made_nil w)
  have HB0 := Num.hide ((Below.refl w.heap.size w).alloc (Nat.le_refl _) (.cells #[] 78))
  have hw1 : (w.alloc (.cells #[] 78)).heap.size = w.heap.size + 1 := by simp
  have HW1 := Num.hide hw1
  clear hD h hw1
  go_enter Tryz.func40, Tryz.ntmps40
  go_wp2_with fail
  refine HG.out.mono ?_
  rintro e w1 ⟨rfl, rfl⟩
  go_wp2_with fail
  refine HS.out.mono ?_
  rintro e w2 ⟨pv, rfl, ho, hb⟩
  obtain ⟨pa, pc, rfl⟩ := Strs.own_len ho
  have hsz2 := hb.size
  rw [HW1.out] at hsz2
  have HP : Hid (0 < L.length → ∃ pb po, pa = some ⟨pb, po, none⟩ ∧ w.heap.size < pb ∧ pb < w2.heap.size) := by
    intro hp
    have hlt := Strs.own_lt ho
    rcases ho.2 with ⟨_, h2⟩ | ⟨g, cap, cur, h1, hB, hg, _⟩
    · omega
    · cases h1
      have := (hlt g rfl).2
      exact ⟨g, 0, rfl, by have := HW1.out; omega, this⟩
  have HM : Hid (DMid w w2 (.slice pa L.length pc) L 0 (.slice (some ⟨w.heap.size, 0, none⟩) 0 0) w2) :=
    ⟨Recs.own_below HM0.out hb, fun k hk => by cases hk; exact .inl rfl, Strs.own_is ho, HB0.out.trans (hb.mono (by have := HW1.out; omega)), Nat.le_refl _⟩
  clear ho hb HM0 HB0 HG HS HW1
  go_wp2
  go_loopw [3, 7] (fun ov iv wr => ∃ i : Nat, i ≤ L.length ∧ iv = .int .i64 (i : Int) ∧ Hid (DMid w w2 (.slice pa L.length pc) L i ov wr)) (fun _ iv _ => L.length - (intOf iv).toNat)
  case atStart => exact ⟨0, by omega, rfl, HM⟩
  case round =>
    clear HM
    obtain ⟨i, hi, rfl, HM⟩ := hrel
    by_cases hlt : i < L.length
    · obtain ⟨pb, po, rfl, hpb1, hpb2⟩ := HP.out (by omega)
      obtain ⟨c1, hc, hmx⟩ := HM.out.cell hlt
      have ht := HZ.out L[i] (List.getElem_mem hlt)
      have hln := ofParts_len (L.take i)
      rw [List.length_take] at hln
      have HN := Num.hide (fun (W : World) (m : DMid w w2 (.slice (some ⟨pb, po, none⟩) L.length pc) L i u3 W) h => m.skip hlt h)
      have HPt := Num.hide (fun (W : World) (m : DMid w w2 (.slice (some ⟨pb, po, none⟩) L.length pc) L i u3 W) (h : isDir L[i] = true) (x y : ByteArray) (hxy : dirOf L[i] = (x, y)) (v' : Value) (w3 : World) => m.put hlt h hpb1 hpb2 hxy (v' := v') (w3 := w3))
      have HO := Num.hide HM.out.own
      generalize L[i] = t at c1 ht HN HPt
      generalize ofParts (L.take i) = O at HO HPt hln
      go_wp2
      go_loop [9] (fun kv => ∃ k : Nat, k ≤ t.size ∧ kv = .int .i64 (k : Int) ∧ Hid (EqTo t k)) (fun kv => t.size - (intOf kv).toNat)
      case atStart => exact ⟨0, by omega, rfl, eq_start t⟩
      case round =>
        obtain ⟨k, hk, rfl, HE⟩ := hrel
        by_cases hk2 : k < t.size
        · by_cases h61 : (t[k]).toNat = 61
          · obtain ⟨n1, n2⟩ := name_some (eq_hit HE.out hk2 h61)
            have HT := Num.hide (fun W => Sign.isTok_spec (t.extract 0 k) W (by unfold maxLen; rw [ByteArray.size_extract]; omega))
            have HLw := Num.hide (fun W => Sign.lower_spec (t.extract 0 k) W (by unfold maxLen; rw [ByteArray.size_extract]; omega))
            have HU := Num.hide (fun W => unq_spec (t.extract (k + 1) t.size) W (by unfold maxLen; rw [ByteArray.size_extract]; omega))
            unfold isDir at HN HPt
            unfold dirOf at HPt
            rw [n1, n2] at HPt
            rw [n1] at HN
            generalize Sign.isTok (t.extract 0 k) = tb at HT HN HPt
            generalize Sign.lower (t.extract 0 k) = lw at HLw HPt
            generalize unq (t.extract (k + 1) t.size) = uq at HU HPt
            clear n1 n2
            have d61 : (((t[k]).toNat : Int) != 61) = false := by rw [bne_eq_false_iff_eq]; omega
            have dk : (k : Int) + 1 ≤ (t.size : Int) := by omega
            clear h61
            go_wp2_with fail
            refine (HT.out _).mono ?_
            rintro e w3 ⟨rfl, rfl⟩
            cases tb with
            | false =>
              have HN2 := Num.hide (HN.out _ HM.out rfl)
              go_wp2
              go_roundw
              case rel => exact ⟨i + 1, by omega, by go_num, HN2⟩
              case measure => simp [intOf]; omega
            | true =>
              go_wp2_with fail
              refine (HLw.out _).mono ?_
              rintro e w3 ⟨rfl, hb3⟩
              have HM3 := Num.hide (HM.out.step (by omega) hb3)
              have HO3 := Num.hide (Recs.own_below HO.out hb3)
              have hs3 := HM3.out.size
              clear hb3 HM HO
              have HM4 := Num.hide (HM3.out.step (by omega) ((Below.refl w3.heap.size w3).alloc (Nat.le_refl _) (.cells #[.string lw, .string uq] 78)))
              have HO4 := Num.hide (World.ownsRow.alloc HO3.out (.cells #[.string lw, .string uq] 78))
              go_wp2_with fail
              refine (HU.out _).mono ?_
              rintro e w4 ⟨rfl, rfl⟩
              go_upto_region 15 with fail
              generalize hW4 : (w3.alloc (.cells #[.string lw, .string uq] 78)) = W4 at HM4 HO4 ⊢
              have b0 : W4.cell? ⟨w3.heap.size, 0, none⟩ = some (.string lw) := by rw [← hW4]; simp
              have b1 : W4.cell? ⟨w3.heap.size, 1, none⟩ = some (.string uq) := by rw [← hW4]; simp
              have hs4 := HM4.out.size
              clear hW4 HM3 HO3
              go_wp2_with (at_builtin; refine wpList_append_own_at _ rfl _ _ 76 rfl w.heap.size 78 i0 _ 2 32 Tryz.underlying76 hi0 hz0 hz1 hz2 rfl (by decide) _ _ _ rfl (World.ownsRow.alloc HO4.out _) ⟨W4.heap.size, 0, none⟩ 1 1 [.string lw, .string uq] rfl rfl (by simpa using Dirs.cells_two W4 lw uq) (Flds.two_ok lw uq) (by unfold maxLen; omega) (by omega) ?c5 ?_)
              case c5 => first | omega | (simp; omega)
              intro v' w5 ho5 hg5 _ hat5
              have HM5 := Num.hide (HPt.out W4 HM4.out (by first | trivial | rfl) lw uq rfl v' w5 ho5 hg5 hat5)
              clear ho5 hg5 hat5 HM4 HO4 b0 b1
              go_wp2
              go_roundw
              case rel => exact ⟨i + 1, by omega, by go_num, HM5⟩
              case measure => simp [intOf]; omega
          · have HE2 := Num.hide (eq_next HE.out hk2 h61)
            have d61 : (((t[k]).toNat : Int) != 61) = true := by rw [bne_iff_ne]; omega
            clear h61
            go_wp2
            go_round
            case rel => exact ⟨k + 1, by omega, by go_num, HE2⟩
            case measure => simp [intOf]; omega
        · obtain rfl : k = t.size := by omega
          have n1 : nameOf t = t := (name_none (eq_miss HE.out)).1
          have n2 := (name_none (eq_miss HE.out)).2
          have HT := Num.hide (fun W => Sign.isTok_spec t W (by unfold maxLen; omega))
          have HLw := Num.hide (fun W => Sign.lower_spec t W (by unfold maxLen; omega))
          unfold isDir at HN HPt
          unfold dirOf at HPt
          rw [n1, n2, unq_none] at HPt
          rw [n1] at HN
          generalize Sign.isTok t = tb at HT HN HPt
          generalize Sign.lower t = lw at HLw HPt
          clear n1 n2
          go_wp2_with fail
          refine (HT.out _).mono ?_
          rintro e w3 ⟨rfl, rfl⟩
          cases tb with
          | false =>
            have HN2 := Num.hide (HN.out _ HM.out rfl)
            go_wp2
            go_roundw
            case rel => exact ⟨i + 1, by omega, by go_num, HN2⟩
            case measure => simp [intOf]; omega
          | true =>
            go_wp2_with fail
            refine (HLw.out _).mono ?_
            rintro e w3 ⟨rfl, hb3⟩
            have HM3 := Num.hide (HM.out.step (by omega) hb3)
            have HO3 := Num.hide (Recs.own_below HO.out hb3)
            have hs3 := HM3.out.size
            clear hb3 HM HO
            have HM4 := Num.hide (HM3.out.step (by omega) ((Below.refl w3.heap.size w3).alloc (Nat.le_refl _) (.cells #[.string lw, .string ⟨#[]⟩] 78)))
            have HO4 := Num.hide (World.ownsRow.alloc HO3.out (.cells #[.string lw, .string ⟨#[]⟩] 78))
            go_upto_region 15 with fail
            generalize hW4 : (w3.alloc (.cells #[.string lw, .string ⟨#[]⟩] 78)) = W4 at HM4 HO4 ⊢
            have b0 : W4.cell? ⟨w3.heap.size, 0, none⟩ = some (.string lw) := by rw [← hW4]; simp
            have b1 : W4.cell? ⟨w3.heap.size, 1, none⟩ = some (.string ⟨#[]⟩) := by rw [← hW4]; simp
            have hs4 := HM4.out.size
            clear hW4 HM3 HO3
            go_wp2_with (at_builtin; refine wpList_append_own_at _ rfl _ _ 76 rfl w.heap.size 78 i0 _ 2 32 Tryz.underlying76 hi0 hz0 hz1 hz2 rfl (by decide) _ _ _ rfl (World.ownsRow.alloc HO4.out _) ⟨W4.heap.size, 0, none⟩ 1 1 [.string lw, .string ⟨#[]⟩] rfl rfl (by simpa using Dirs.cells_two W4 lw ⟨#[]⟩) (Flds.two_ok lw ⟨#[]⟩) (by unfold maxLen; omega) (by omega) ?c5 ?_)
            case c5 => first | omega | (simp; omega)
            intro v' w5 ho5 hg5 _ hat5
            have HM5 := Num.hide (HPt.out W4 HM4.out (by first | trivial | rfl) lw ⟨#[]⟩ rfl v' w5 ho5 hg5 hat5)
            clear ho5 hg5 hat5 HM4 HO4 b0 b1
            go_wp2
            go_roundw
            case rel => exact ⟨i + 1, by omega, by go_num, HM5⟩
            case measure => simp [intOf]; omega
    · obtain rfl : i = L.length := by omega
      have HE : Hid (Dirs.Own w.heap.size wr u3 D) := by rw [← HD.out]; have := HM.out.own; rw [List.take_length] at this; exact this
      have HB := Num.hide HM.out.below
      go_wp2
      go_ret
      exact ⟨_, rfl, HE.out, HB.out⟩
end Cc
end Go.Proofs.YtbcjpjhpobmpbaaGreatDoor
namespace Go.Proofs.YtbcjpjhpobmpbaaGreatDoor
open Go.RowKit
set_option linter.unusedVariables false
namespace Cc
open Flds (Fld text_ne')

theorem has_take (d : List Fld) (name : ByteArray) (k : Nat) (h : k < d.length) : has (d.take (k + 1)) name = (has (d.take k) name || decide (d[k].1 = name)) := by
  unfold has
  rw [List.take_succ_eq_append_getElem h, List.any_append]
  simp
theorem has_hit (d : List Fld) (name : ByteArray) (k : Nat) (h : k < d.length) (he : d[k].1 = name) : has d name = true := by
  unfold has
  rw [List.any_eq_true]
  exact ⟨d[k], List.getElem_mem h, by simp [he]⟩

set_option maxRecDepth 100000 in
set_option maxHeartbeats 2000000 in
theorem has_spec (v : Value) (l : List Fld) (name : ByteArray) (w : World) (h : Flds.Is w v l) (hl : Flds.bulk l ≤ 1048576) :
    Calls Tryz.prog 18 #[v, .string name] w fun e w' => e = .returned (.bool (has (dirs l) name)) ∧ Below w.heap.size w w' := by
  have hlen := dirs_len l
  have HDi := Num.hide (dirs_spec v l w h hl)
  obtain ⟨d, hd⟩ : ∃ d, dirs l = d := ⟨_, rfl⟩
  rw [hd] at hlen HDi ⊢
  obtain ⟨r, hr⟩ : ∃ r, has d name = r := ⟨_, rfl⟩
  rw [hr]
  have HR := Num.hide hr
  clear h hd hr
  go_enter Tryz.func18, Tryz.ntmps18
  go_wp2_with fail
  refine HDi.out.mono ?_
  rintro e w1 ⟨dv, rfl, ho, hb⟩
  obtain ⟨da, dc, rfl, h2⟩ := Flds.is_form (Recs.own_is Flds.cells_len ho)
  have HA := Num.hide h2
  have HB := Num.hide hb
  clear ho hb h2 HDi
  go_wp2
  go_loop [6] (fun iv => ∃ i : Nat, i ≤ d.length ∧ iv = .int .i64 (i : Int) ∧ Hid (has (d.take i) name = false)) (fun iv => d.length - (intOf iv).toNat)
  case atStart => exact ⟨0, by omega, rfl, rfl⟩
  case round =>
    obtain ⟨i, hi, rfl, HF⟩ := hrel
    by_cases hlt : i < d.length
    · obtain ⟨bk, o, rfl, hc, hmx, hblt, hcell⟩ := HA.out (by omega)
      obtain ⟨c1, c2⟩ := hcell i hlt
      have HT := Num.hide (has_take d name i hlt)
      have HH := Num.hide (has_hit d name i hlt)
      clear hcell
      generalize d[i] = f at c1 c2 HT HH
      obtain ⟨x, y⟩ := f
      simp only at c1 c2
      by_cases he : x = name
      · subst he
        obtain rfl : r = true := by rw [← HR.out]; exact HH.out rfl
        go_wp2
        go_ret
        exact ⟨rfl, HB.out⟩
      · have d' := text_ne' he
        have HF2 : Hid (has (d.take (i + 1)) name = false) := by
          show _ = _
          rw [HT.out, HF.out, Bool.false_or]; exact decide_eq_false he
        clear he
        go_wp2
        go_round
        case rel => exact ⟨i + 1, by omega, by go_num, HF2⟩
        case measure => simp [intOf]; omega
    · obtain rfl : i = d.length := by omega
      have hf := HF.out
      rw [List.take_length, HR.out] at hf
      subst hf
      go_wp2
      go_ret
      exact ⟨rfl, HB.out⟩

end Cc
end Go.Proofs.YtbcjpjhpobmpbaaGreatDoor
namespace Go.Proofs.YtbcjpjhpobmpbaaGreatDoor
open Go.RowKit
set_option linter.unusedVariables false
namespace Msg

theorem bulk_each {l : List Flds.Fld} (h : Flds.bulk l ≤ 1099511627776) : ∀ f ∈ l, f.1.size ≤ maxLen ∧ f.2.size ≤ maxLen := by
  intro f hf
  obtain ⟨i, hi, rfl⟩ := List.getElem_of_mem hf
  have h3 := Flds.bulk_take l i hi
  have h4 := Flds.bulk_le l (i + 1)
  unfold Flds.bulk at h; unfold maxLen
  omega
set_option maxRecDepth 100000 in
set_option maxHeartbeats 2000000 in
theorem plain_spec (v : Value) (l : List Flds.Fld) (w : World) (h : Flds.Is w v l) (hl : Flds.bulk l ≤ 1099511627776) :
    Calls Tryz.prog 44 #[v] w fun e w' => e = .returned (.bool (plain l)) ∧ Below w.heap.size w w' := by
  have hlen : l.length ≤ 1099511627776 := by unfold Flds.bulk at hl; omega
  have HG1 := Num.hide (Flds.get_spec v l Body.teName w h hl)
  have HG2 := Num.hide (Flds.get_spec v l Body.clName w h hl)
  have HO := Num.hide (Flds.ok_spec v l w h (bulk_each hl) hlen)
  obtain ⟨a, c, rfl, _⟩ := Flds.is_form h
  clear h
  obtain ⟨r, hr⟩ : ∃ r, plain l = r := ⟨_, rfl⟩
  rw [hr]
  unfold plain at hr
  unfold Body.teName at HG1
  unfold Body.clName at HG2
  generalize hx : Flds.get l Body.teName = x at hr
  generalize hy : Flds.get l Body.clName = y at hr
  have hx' : Flds.get l ⟨#[116, 114, 97, 110, 115, 102, 101, 114, 45, 101, 110, 99, 111, 100, 105, 110, 103]⟩ = x := hx
  have hy' : Flds.get l ⟨#[99, 111, 110, 116, 101, 110, 116, 45, 108, 101, 110, 103, 116, 104]⟩ = y := hy
  rw [hx'] at HG1
  rw [hy'] at HG2
  generalize Flds.ok l = o at HO hr
  obtain ⟨x1, x2⟩ := x
  obtain ⟨y1, y2⟩ := y
  simp only at hr HG1 HG2
  clear hx hy hx' hy' hl
  cases x2 with
  | true =>
    obtain rfl : false = r := by rw [← hr]; rfl
    clear hr
    go_enter Tryz.func44, Tryz.ntmps44
    go_wp2_with fail
    refine HG1.out.mono ?_
    rintro e w1 ⟨rfl, rfl⟩
    go_wp2_with fail
    refine HG2.out.mono ?_
    rintro e w1 ⟨rfl, rfl⟩
    go_wp2
    go_ret
    exact ⟨rfl, Below.refl _ _⟩
  | false =>
    cases y2 with
    | true =>
      obtain rfl : false = r := by rw [← hr]; rfl
      clear hr
      go_enter Tryz.func44, Tryz.ntmps44
      go_wp2_with fail
      refine HG1.out.mono ?_
      rintro e w1 ⟨rfl, rfl⟩
      go_wp2_with fail
      refine HG2.out.mono ?_
      rintro e w1 ⟨rfl, rfl⟩
      go_wp2
      go_ret
      exact ⟨rfl, Below.refl _ _⟩
    | false =>
      by_cases h12 : (l.length : Int) < 12
      · obtain rfl : o = r := by rw [← hr, decide_eq_true (by omega)]; rfl
        clear hr
        go_enter Tryz.func44, Tryz.ntmps44
        go_wp2_with fail
        refine HG1.out.mono ?_
        rintro e w1 ⟨rfl, rfl⟩
        go_wp2_with fail
        refine HG2.out.mono ?_
        rintro e w1 ⟨rfl, rfl⟩
        go_wp2_with fail
        refine HO.out.mono ?_
        rintro e w2 ⟨rfl, hb⟩
        have HB := Num.hide hb
        clear hb
        go_wp2
        go_ret
        exact ⟨rfl, HB.out⟩
      · obtain rfl : false = r := by rw [← hr, decide_eq_false (by omega)]; rfl
        have d12 : decide ((l.length : Int) < 12) = false := decide_eq_false h12
        clear hr
        go_enter Tryz.func44, Tryz.ntmps44
        go_wp2_with fail
        refine HG1.out.mono ?_
        rintro e w1 ⟨rfl, rfl⟩
        go_wp2_with fail
        refine HG2.out.mono ?_
        rintro e w1 ⟨rfl, rfl⟩
        go_wp2
        go_ret
        exact ⟨rfl, Below.refl _ _⟩
end Msg
end Go.Proofs.YtbcjpjhpobmpbaaGreatDoor
namespace Go.Proofs.YtbcjpjhpobmpbaaGreatDoor
open Go.RowKit
set_option linter.unusedVariables false
namespace Msg

set_option maxRecDepth 100000 in
set_option maxHeartbeats 2000000 in
theorem respOk_spec (s : Int) (v : Value) (l : List Flds.Fld) (b : ByteArray) (w : World) (h : Flds.Is w v l) (hl : Flds.bulk l ≤ 1099511627776) (hb : b.size ≤ 1099511627776) :
    Calls Tryz.prog 22 #[Resp.val s v b] w fun e w' => e = .returned (.bool (respOk s l b)) ∧ Below w.heap.size w w' := by
  unfold Resp.val
  have HT := Num.hide (fun W => Date.in_spec s 200 599 W)
  obtain ⟨a, c, rfl, _⟩ := Flds.is_form h
  have hb0 := (Below.refl w.heap.size w).alloc (Nat.le_refl _) (.cells #[.int .i64 s, .slice a l.length c, .string b] 35)
  have HB0 := Num.hide hb0
  have HP := Num.hide (plain_spec (.slice a l.length c) l _ (Recs.is_stay h (Nat.le_refl _) hb0) hl)
  clear h hb0 hl
  obtain ⟨r, hr⟩ : ∃ r, respOk s l b = r := ⟨_, rfl⟩
  rw [hr]
  unfold respOk at hr
  generalize decide (200 ≤ s ∧ s ≤ 599) = t1 at HT hr
  generalize plain l = t3 at HP hr
  cases t1 with
  | false =>
    obtain rfl : false = r := by rw [← hr]; rfl
    clear hr HP
    go_enter Tryz.func22, Tryz.ntmps22
    go_wp2_with fail
    refine (HT.out _).mono ?_
    rintro e w1 ⟨rfl, rfl⟩
    go_wp2
    go_ret
    exact ⟨rfl, HB0.out⟩
  | true =>
    cases t3 with
    | false =>
      obtain rfl : false = r := by rw [← hr]; rfl
      clear hr
      go_enter Tryz.func22, Tryz.ntmps22
      go_wp2_with fail
      refine (HT.out _).mono ?_
      rintro e w1 ⟨rfl, rfl⟩
      go_wp2_with fail
      refine HP.out.mono ?_
      rintro e w2 ⟨rfl, hb2⟩
      have HB2 := Num.hide (HB0.out.trans (hb2.mono HB0.out.size))
      have k0 := (hb2.cell (p := ⟨w.heap.size, 0, none⟩) (by show w.heap.size < _; rw [World.size_alloc]; omega)).trans (cell_of_row _ _ _ _ _ _ (heap_alloc_new w _))
      have k2 := (hb2.cell (p := ⟨w.heap.size, 2, none⟩) (by show w.heap.size < _; rw [World.size_alloc]; omega)).trans (cell_of_row _ _ _ _ _ _ (heap_alloc_new w _))
      simp only [List.getElem?_toArray, List.getElem?_cons_succ, List.getElem?_cons_zero] at k0 k2
      clear hb2 HP
      go_wp2
      go_ret
      exact ⟨rfl, HB2.out⟩
    | true =>
      by_cases h60 : (b.size : Int) ≤ 60
      · rw [decide_eq_true (by omega : b.size ≤ 60)] at hr
        by_cases h4 : s = 204
        · have d4 : (s != 204) = false := by rw [bne_eq_false_iff_eq]; exact h4
          rw [decide_eq_false (fun h => h.1 h4), Bool.false_or] at hr
          by_cases he : b = ⟨#[]⟩
          · obtain rfl : true = r := by rw [← hr, decide_eq_true he]; rfl
            have db : b.toList.isEmpty = true := by rw [he, ByteArray.toList_eq]; rfl
            clear hr h4
            subst he
            go_enter Tryz.func22, Tryz.ntmps22
            go_wp2_with fail
            refine (HT.out _).mono ?_
            rintro e w1 ⟨rfl, rfl⟩
            go_wp2_with fail
            refine HP.out.mono ?_
            rintro e w2 ⟨rfl, hb2⟩
            have HB2 := Num.hide (HB0.out.trans (hb2.mono HB0.out.size))
            have k0 := (hb2.cell (p := ⟨w.heap.size, 0, none⟩) (by show w.heap.size < _; rw [World.size_alloc]; omega)).trans (cell_of_row _ _ _ _ _ _ (heap_alloc_new w _))
            have k2 := (hb2.cell (p := ⟨w.heap.size, 2, none⟩) (by show w.heap.size < _; rw [World.size_alloc]; omega)).trans (cell_of_row _ _ _ _ _ _ (heap_alloc_new w _))
            simp only [List.getElem?_toArray, List.getElem?_cons_succ, List.getElem?_cons_zero] at k0 k2
            clear hb2 HP
            go_wp2
            go_ret
            exact ⟨rfl, HB2.out⟩
          · obtain rfl : false = r := by rw [← hr, decide_eq_false he]; rfl
            have db : b.toList.isEmpty = false := Sign.empty_false b (by
              by_cases hz : 0 < b.size
              · exact hz
              · exact absurd (Sign.empty_true b (by omega)) he)
            clear hr h4 he
            go_enter Tryz.func22, Tryz.ntmps22
            go_wp2_with fail
            refine (HT.out _).mono ?_
            rintro e w1 ⟨rfl, rfl⟩
            go_wp2_with fail
            refine HP.out.mono ?_
            rintro e w2 ⟨rfl, hb2⟩
            have HB2 := Num.hide (HB0.out.trans (hb2.mono HB0.out.size))
            have k0 := (hb2.cell (p := ⟨w.heap.size, 0, none⟩) (by show w.heap.size < _; rw [World.size_alloc]; omega)).trans (cell_of_row _ _ _ _ _ _ (heap_alloc_new w _))
            have k2 := (hb2.cell (p := ⟨w.heap.size, 2, none⟩) (by show w.heap.size < _; rw [World.size_alloc]; omega)).trans (cell_of_row _ _ _ _ _ _ (heap_alloc_new w _))
            simp only [List.getElem?_toArray, List.getElem?_cons_succ, List.getElem?_cons_zero] at k0 k2
            clear hb2 HP
            go_wp2
            go_ret
            exact ⟨rfl, HB2.out⟩
        · have d4 : (s != 204) = true := by rw [bne_iff_ne]; exact h4
          by_cases h3 : s = 304
          · have d3 : (s != 304) = false := by rw [bne_eq_false_iff_eq]; exact h3
            rw [decide_eq_false (fun h => h.2 h3), Bool.false_or] at hr
            by_cases he : b = ⟨#[]⟩
            · obtain rfl : true = r := by rw [← hr, decide_eq_true he]; rfl
              clear hr h4 h3
              subst he
              go_enter Tryz.func22, Tryz.ntmps22
              go_wp2_with fail
              refine (HT.out _).mono ?_
              rintro e w1 ⟨rfl, rfl⟩
              go_wp2_with fail
              refine HP.out.mono ?_
              rintro e w2 ⟨rfl, hb2⟩
              have HB2 := Num.hide (HB0.out.trans (hb2.mono HB0.out.size))
              have k0 := (hb2.cell (p := ⟨w.heap.size, 0, none⟩) (by show w.heap.size < _; rw [World.size_alloc]; omega)).trans (cell_of_row _ _ _ _ _ _ (heap_alloc_new w _))
              have k2 := (hb2.cell (p := ⟨w.heap.size, 2, none⟩) (by show w.heap.size < _; rw [World.size_alloc]; omega)).trans (cell_of_row _ _ _ _ _ _ (heap_alloc_new w _))
              simp only [List.getElem?_toArray, List.getElem?_cons_succ, List.getElem?_cons_zero] at k0 k2
              clear hb2 HP
              go_wp2
              go_ret
              exact ⟨rfl, HB2.out⟩
            · obtain rfl : false = r := by rw [← hr, decide_eq_false he]; rfl
              have db : b.toList.isEmpty = false := Sign.empty_false b (by
                by_cases hz : 0 < b.size
                · exact hz
                · exact absurd (Sign.empty_true b (by omega)) he)
              clear hr h4 he h3
              go_enter Tryz.func22, Tryz.ntmps22
              go_wp2_with fail
              refine (HT.out _).mono ?_
              rintro e w1 ⟨rfl, rfl⟩
              go_wp2_with fail
              refine HP.out.mono ?_
              rintro e w2 ⟨rfl, hb2⟩
              have HB2 := Num.hide (HB0.out.trans (hb2.mono HB0.out.size))
              have k0 := (hb2.cell (p := ⟨w.heap.size, 0, none⟩) (by show w.heap.size < _; rw [World.size_alloc]; omega)).trans (cell_of_row _ _ _ _ _ _ (heap_alloc_new w _))
              have k2 := (hb2.cell (p := ⟨w.heap.size, 2, none⟩) (by show w.heap.size < _; rw [World.size_alloc]; omega)).trans (cell_of_row _ _ _ _ _ _ (heap_alloc_new w _))
              simp only [List.getElem?_toArray, List.getElem?_cons_succ, List.getElem?_cons_zero] at k0 k2
              clear hb2 HP
              go_wp2
              go_ret
              exact ⟨rfl, HB2.out⟩
          · have d3 : (s != 304) = true := by rw [bne_iff_ne]; exact h3
            obtain rfl : true = r := by rw [← hr, decide_eq_true ⟨h4, h3⟩]; rfl
            clear hr h4 h3
            go_enter Tryz.func22, Tryz.ntmps22
            go_wp2_with fail
            refine (HT.out _).mono ?_
            rintro e w1 ⟨rfl, rfl⟩
            go_wp2_with fail
            refine HP.out.mono ?_
            rintro e w2 ⟨rfl, hb2⟩
            have HB2 := Num.hide (HB0.out.trans (hb2.mono HB0.out.size))
            have k0 := (hb2.cell (p := ⟨w.heap.size, 0, none⟩) (by show w.heap.size < _; rw [World.size_alloc]; omega)).trans (cell_of_row _ _ _ _ _ _ (heap_alloc_new w _))
            have k2 := (hb2.cell (p := ⟨w.heap.size, 2, none⟩) (by show w.heap.size < _; rw [World.size_alloc]; omega)).trans (cell_of_row _ _ _ _ _ _ (heap_alloc_new w _))
            simp only [List.getElem?_toArray, List.getElem?_cons_succ, List.getElem?_cons_zero] at k0 k2
            clear hb2 HP
            go_wp2
            go_ret
            exact ⟨rfl, HB2.out⟩
      · obtain rfl : false = r := by rw [← hr, decide_eq_false (by omega : ¬ b.size ≤ 60)]; rfl
        have d60 : decide ((b.size : Int) ≤ 60) = false := decide_eq_false h60
        clear hr
        go_enter Tryz.func22, Tryz.ntmps22
        go_wp2_with fail
        refine (HT.out _).mono ?_
        rintro e w1 ⟨rfl, rfl⟩
        go_wp2_with fail
        refine HP.out.mono ?_
        rintro e w2 ⟨rfl, hb2⟩
        have HB2 := Num.hide (HB0.out.trans (hb2.mono HB0.out.size))
        have k0 := (hb2.cell (p := ⟨w.heap.size, 0, none⟩) (by show w.heap.size < _; rw [World.size_alloc]; omega)).trans (cell_of_row _ _ _ _ _ _ (heap_alloc_new w _))
        have k2 := (hb2.cell (p := ⟨w.heap.size, 2, none⟩) (by show w.heap.size < _; rw [World.size_alloc]; omega)).trans (cell_of_row _ _ _ _ _ _ (heap_alloc_new w _))
        simp only [List.getElem?_toArray, List.getElem?_cons_succ, List.getElem?_cons_zero] at k0 k2
        clear hb2 HP
        go_wp2
        go_ret
        exact ⟨rfl, HB2.out⟩
end Msg
end Go.Proofs.YtbcjpjhpobmpbaaGreatDoor
namespace Go.Proofs.YtbcjpjhpobmpbaaGreatDoor
open Go.RowKit
set_option linter.unusedVariables false
set_option linter.unusedSimpArgs false
namespace Pol
open Flds (Fld ret_int)

theorem starred_take (L : List ByteArray) (i : Nat) (h : i < L.length) (hn : starred (L.take i) = false) (ht : ¬ L[i] = star) : starred (L.take (i + 1)) = false := by
  unfold starred at *
  rw [List.take_succ_eq_append_getElem h, List.any_append, hn, List.any_cons, List.any_nil, decide_eq_false ht]; rfl
theorem starred_hit (L : List ByteArray) (i : Nat) (h : i < L.length) (ht : L[i] = star) : starred L = true := by
  unfold starred
  rw [List.any_eq_true]
  exact ⟨L[i], List.getElem_mem h, decide_eq_true ht⟩
set_option maxRecDepth 100000 in
set_option maxHeartbeats 8000000 in
theorem storable_spec (m u : ByteArray) (st : Int) (v1 v2 : Value) (l1 l2 : List Fld) (b1 b2 : ByteArray) (w : World) (h1 : Flds.Is w v1 l1) (h2 : Flds.Is w v2 l2) (hl1 : Flds.bulk l1 ≤ 1048576) (hl2 : Flds.bulk l2 + b2.size ≤ 1048576) :
    Calls Tryz.prog 8 #[Req.val m u v1 b1, Resp.val st v2 b2] w fun e w' => e = .returned (.bool (storable m l1 st l2 b2)) ∧ Below w.heap.size w w' := by
  have K0 := Num.hide (pat_first w m u v1 l1 b1 st v2 l2 b2 h1 h2)
  have HOk := Num.hide (fun W h => Msg.respOk_spec st v2 l2 b2 W h (by omega) (by omega))
  have HQ := Num.hide (fun W h => Cc.has_spec v1 l1 noStore W h hl1)
  have HRn := Num.hide (fun W h => Cc.has_spec v2 l2 noStore W h (by omega))
  have HP := Num.hide (fun W h => Cc.has_spec v2 l2 priv W h (by omega))
  have HU := Num.hide (fun W h => Cc.has_spec v2 l2 publ W h (by omega))
  have HX := Num.hide (fun W h => Cc.has_spec v2 l2 Age.sMaxAge W h (by omega))
  have HY := Num.hide (fun W h => Cc.has_spec v2 l2 mustRe W h (by omega))
  have HV := Num.hide (fun W h => Cc.has_spec v2 l2 Age.maxAge W h (by omega))
  have HG := Num.hide (fun W h => Flds.get_spec_b v2 l2 varyName W h (by omega))
  have HA := Num.hide (fun W h => Flds.get_spec_b v1 l1 authName W h (by omega))
  have HE := Num.hide (fun W h => Flds.get_spec_b v2 l2 Age.expiresName W h (by omega))
  have HH := Num.hide (fun W => heuristic_spec st W)
  have hsz := Nat.le_trans (Cc.get_bulk l2 varyName (by decide)) (by omega : Flds.bulk l2 ≤ 1048576)
  obtain ⟨av1, cv1, rfl, _⟩ := Flds.is_form h1
  obtain ⟨av2, cv2, rfl, _⟩ := Flds.is_form h2
  obtain ⟨r, hr⟩ : ∃ r, storable m l1 st l2 b2 = r := ⟨_, rfl⟩
  rw [hr]
  unfold storable barred alone letsBe said at hr
  generalize Msg.respOk st l2 b2 = Ok at HOk hr
  generalize Cc.has (Cc.dirs l1) noStore = Q at HQ hr
  generalize Cc.has (Cc.dirs l2) noStore = Rn at HRn hr
  generalize Cc.has (Cc.dirs l2) priv = P at HP hr
  generalize Cc.has (Cc.dirs l2) publ = U at HU hr
  generalize Cc.has (Cc.dirs l2) Age.sMaxAge = X at HX hr
  generalize Cc.has (Cc.dirs l2) mustRe = Y at HY hr
  generalize Cc.has (Cc.dirs l2) Age.maxAge = V at HV hr
  generalize Flds.get l2 varyName = gv at HG hr hsz
  generalize Flds.get l1 authName = ga at HA hr
  generalize Flds.get l2 Age.expiresName = ge at HE hr
  generalize heuristic st = H at HH hr
  obtain ⟨s, sb⟩ := gv
  obtain ⟨A1, A2⟩ := ga
  obtain ⟨E1, E2⟩ := ge
  simp only at HG HA HE hr hsz
  have HSp := Num.hide (fun W => Sign.split_spec s W (by omega))
  have hlen := Cc.split_len s
  generalize Sign.split s = L at HSp hr hlen
  have HR := Num.hide hr
  unfold Resp.val at HOk
  unfold Req.val Resp.val
  clear h1 h2 hr
  go_enter Tryz.func8, Tryz.ntmps8
  go_upto_region 1 with fail
  generalize (w.alloc (.cells #[.string m, .string u, .slice av1 l1.length cv1, .string b1] 32)).alloc (.cells #[.int .i64 st, .slice av2 l2.length cv2, .string b2] 35) = w0 at K0 ⊢
  by_cases hm : m = getM
  case neg =>
    have d0 : (m.toList == [71, 69, 84]) = false := by
      rw [beq_eq_false_iff_ne]
      intro e
      exact hm (ByteArray.ext (Array.toList_inj.1 ((ByteArray.toList_eq (bs := m)).symm.trans e)))
    have d1 : (m.toList != [71, 69, 84]) = true := by rw [bne, d0]; rfl
    have hmf : decide (m = getM) = false := decide_eq_false hm
    obtain rfl : r = false := by rw [← HR.out]; simp [*]
    have HBl := Num.hide (K0.out.2.2.2.2.2.2.2.2.2)
    obtain ⟨c0, c1, c2, c3, c4, c5, c6, -, -, -⟩ := K0.out
    clear HR K0
    go_wp2
    go_ret
    exact ⟨rfl, HBl.out⟩
  have d0 : (m.toList == [71, 69, 84]) = true := by rw [hm, ByteArray.toList_eq]; rfl
  have d1 : (m.toList != [71, 69, 84]) = false := by rw [bne, d0]; rfl
  have hmt : decide (m = getM) = true := decide_eq_true hm
  clear hm
  by_cases hs : st = 304
  case pos =>
    have d2 : (st == 304) = true := beq_iff_eq.2 hs
    have hsf : decide (st ≠ 304) = false := decide_eq_false (fun h => h hs)
    clear hs
    obtain rfl : r = false := by rw [← HR.out]; simp [*]
    have HBl := Num.hide (K0.out.2.2.2.2.2.2.2.2.2)
    obtain ⟨c0, c1, c2, c3, c4, c5, c6, -, -, -⟩ := K0.out
    clear HR K0
    go_wp2
    go_ret
    exact ⟨rfl, HBl.out⟩
  have d2 : (st == 304) = false := beq_eq_false_iff_ne.2 hs
  have hst : decide (st ≠ 304) = true := decide_eq_true hs
  have hr := HR.out
  rw [hmt, hst] at hr
  clear HR hs hmt hst
  have HR := Num.hide hr
  clear hr
  obtain ⟨c0, c1, c2, c3, c4, c5, c6, -, -, -⟩ := K0.out
  go_wp2_with fail
  refine (HOk.out _ K0.out.2.2.2.2.2.2.2.2.1).mono ?_
  rintro e wx1 ⟨rfl, hb⟩
  have K1 := Num.hide (PAt.step K0.out hb)
  clear hb c0 c1 c2 c3 c4 c5 c6 K0
  clear d0 d1 d2
  cases Ok with
  | false =>
    obtain rfl : r = false := by rw [← HR.out]; simp [*]
    have HBl := Num.hide (K1.out.2.2.2.2.2.2.2.2.2)
    obtain ⟨c0, c1, c2, c3, c4, c5, c6, -, -, -⟩ := K1.out
    clear HR K1
    go_wp2
    go_ret
    exact ⟨rfl, HBl.out⟩
  | true =>
  obtain ⟨c0, c1, c2, c3, c4, c5, c6, -, -, -⟩ := K1.out
  go_wp2_with fail
  refine (HQ.out _ K1.out.2.2.2.2.2.2.2.1).mono ?_
  rintro e wx2 ⟨rfl, hb⟩
  have K2 := Num.hide (PAt.step K1.out hb)
  clear hb c0 c1 c2 c3 c4 c5 c6 K1
  cases Q with
  | true =>
    obtain rfl : r = false := by rw [← HR.out]; simp [*]
    have HBl := Num.hide (K2.out.2.2.2.2.2.2.2.2.2)
    obtain ⟨c0, c1, c2, c3, c4, c5, c6, -, -, -⟩ := K2.out
    clear HR K2
    go_wp2
    go_ret
    exact ⟨rfl, HBl.out⟩
  | false =>
  obtain ⟨c0, c1, c2, c3, c4, c5, c6, -, -, -⟩ := K2.out
  go_wp2_with fail
  refine (HRn.out _ K2.out.2.2.2.2.2.2.2.2.1).mono ?_
  rintro e wx3 ⟨rfl, hb⟩
  have K3 := Num.hide (PAt.step K2.out hb)
  clear hb c0 c1 c2 c3 c4 c5 c6 K2
  cases Rn with
  | true =>
    obtain rfl : r = false := by rw [← HR.out]; simp [*]
    have HBl := Num.hide (K3.out.2.2.2.2.2.2.2.2.2)
    obtain ⟨c0, c1, c2, c3, c4, c5, c6, -, -, -⟩ := K3.out
    clear HR K3
    go_wp2
    go_ret
    exact ⟨rfl, HBl.out⟩
  | false =>
  obtain ⟨c0, c1, c2, c3, c4, c5, c6, -, -, -⟩ := K3.out
  go_wp2_with fail
  refine (HP.out _ K3.out.2.2.2.2.2.2.2.2.1).mono ?_
  rintro e wx4 ⟨rfl, hb⟩
  have K4 := Num.hide (PAt.step K3.out hb)
  clear hb c0 c1 c2 c3 c4 c5 c6 K3
  cases P with
  | true =>
    obtain rfl : r = false := by rw [← HR.out]; simp [*]
    have HBl := Num.hide (K4.out.2.2.2.2.2.2.2.2.2)
    obtain ⟨c0, c1, c2, c3, c4, c5, c6, -, -, -⟩ := K4.out
    clear HR K4
    go_wp2
    go_ret
    exact ⟨rfl, HBl.out⟩
  | false =>
  obtain ⟨c0, c1, c2, c3, c4, c5, c6, -, -, -⟩ := K4.out
  go_wp2_with fail
  refine (HG.out _ K4.out.2.2.2.2.2.2.2.2.1).mono ?_
  rintro e wx5 ⟨rfl, hb⟩
  have K5 := Num.hide (PAt.step K4.out hb)
  clear hb c0 c1 c2 c3 c4 c5 c6 K4
  obtain ⟨c0, c1, c2, c3, c4, c5, c6, -, -, -⟩ := K5.out
  go_wp2_with fail
  refine (HSp.out _).mono ?_
  rintro e wx6 ⟨pv, rfl, ho, hb⟩
  obtain ⟨pa, pc, rfl⟩ := Strs.own_len ho
  have K6 := Num.hide (PAt.step K5.out hb)
  have HI := Num.hide (Strs.own_is ho)
  clear ho hb c0 c1 c2 c3 c4 c5 c6 K5 HSp HG
  generalize hwl : wx6 = wl at K6 HI ⊢
  clear hwl
  go_wp2
  go_loop [8] (fun kv => ∃ i : Nat, i ≤ L.length ∧ kv = .int .i64 (i : Int) ∧ Hid (starred (L.take i) = false)) (fun kv => L.length - (intOf kv).toNat)
  case atStart => exact ⟨0, by omega, rfl, rfl⟩
  case round =>
  obtain ⟨i, hi, rfl, HN⟩ := hrel
  by_cases hlt : i < L.length
  · obtain ⟨b, po, rfl, hc1, hc2, hcell⟩ : ∃ b po, pa = some ⟨b, po, none⟩ ∧ L.length ≤ pc ∧ pc ≤ maxLen ∧ wl.cell? ⟨b, po + i, none⟩ = some (.string L[i]) := by
      rcases HI.out with ⟨h1, _⟩ | ⟨b, o, c, h1, h2, h3, h4⟩
      · rw [h1] at hlt; exact absurd hlt (Nat.not_lt_zero _)
      · cases h1; exact ⟨b, o, rfl, h2, h3, h4 i hlt⟩
    have HT := Num.hide (starred_take L i hlt)
    have HTt := Num.hide (starred_hit L i hlt)
    generalize L[i] = t at hcell HT HTt
    by_cases ht : t = star
    · have e1 : (t.toList == [42]) = true := by rw [ht, ByteArray.toList_eq]; rfl
      have hst := HTt.out ht
      clear ht HT HTt HN
      obtain rfl : r = false := by rw [← HR.out]; simp [*]
      have HBl := Num.hide (K6.out.2.2.2.2.2.2.2.2.2)
      obtain ⟨c0, c1, c2, c3, c4, c5, c6, -, -, -⟩ := K6.out
      clear HR K6
      go_wp2
      go_ret
      exact ⟨rfl, HBl.out⟩
    · have e1 : (t.toList == [42]) = false := by
        rw [beq_eq_false_iff_ne]
        intro e
        exact ht (ByteArray.ext (Array.toList_inj.1 ((ByteArray.toList_eq (bs := t)).symm.trans e)))
      have HN2 := Num.hide (HT.out HN.out ht)
      clear HT HTt ht HN K6 HR
      go_wp2
      go_round
      case rel => exact ⟨i + 1, by omega, by go_num, HN2⟩
      case measure => simp [intOf]; omega
  · obtain rfl : i = L.length := by omega
    have hsf : starred L = false := by have := HN.out; rwa [List.take_length] at this
    have hr := HR.out
    rw [hsf] at hr
    clear HN HR hsf HI
    have HR := Num.hide hr
    clear hr hlt hi
    obtain ⟨c0, c1, c2, c3, c4, c5, c6, -, -, -⟩ := K6.out
    go_wp2_with fail
    refine (HA.out _ K6.out.2.2.2.2.2.2.2.1).mono ?_
    rintro e wx7 ⟨rfl, hb⟩
    have K7 := Num.hide (PAt.step K6.out hb)
    clear hb c0 c1 c2 c3 c4 c5 c6 K6
    obtain ⟨Z, hZ⟩ : ∃ Z, (A2 && !U && !X && !Y) = Z := ⟨_, rfl⟩
    have hr := HR.out
    rw [hZ] at hr
    clear HR
    have HR := Num.hide hr
    have HZ := Num.hide hZ
    clear hr hZ
    go_upto_region 13 with fail
    go_cut [82] from 13 (fun v wx => v = .bool Z ∧ Hid (PAt w w.heap.size m u (.slice av1 l1.length cv1) l1 b1 st (.slice av2 l2.length cv2) l2 b2 wx))
    case first =>
      cases A2 with
      | false =>
        obtain rfl : Z = false := by rw [← HZ.out]; simp [*]
        obtain ⟨c0, c1, c2, c3, c4, c5, c6, -, -, -⟩ := K7.out
        go_wp2
        go_meet
        case rel => exact ⟨rfl, K7⟩
      | true =>
      obtain ⟨c0, c1, c2, c3, c4, c5, c6, -, -, -⟩ := K7.out
      go_wp2_with fail
      refine (HU.out _ K7.out.2.2.2.2.2.2.2.2.1).mono ?_
      rintro e wx8 ⟨rfl, hb⟩
      have K8 := Num.hide (PAt.step K7.out hb)
      clear hb c0 c1 c2 c3 c4 c5 c6 K7
      cases U with
      | true =>
        obtain rfl : Z = false := by rw [← HZ.out]; simp [*]
        obtain ⟨c0, c1, c2, c3, c4, c5, c6, -, -, -⟩ := K8.out
        go_wp2
        go_meet
        case rel => exact ⟨rfl, K8⟩
      | false =>
      obtain ⟨c0, c1, c2, c3, c4, c5, c6, -, -, -⟩ := K8.out
      go_wp2_with fail
      refine (HX.out _ K8.out.2.2.2.2.2.2.2.2.1).mono ?_
      rintro e wx9 ⟨rfl, hb⟩
      have K9 := Num.hide (PAt.step K8.out hb)
      clear hb c0 c1 c2 c3 c4 c5 c6 K8
      cases X with
      | true =>
        obtain rfl : Z = false := by rw [← HZ.out]; simp [*]
        obtain ⟨c0, c1, c2, c3, c4, c5, c6, -, -, -⟩ := K9.out
        go_wp2
        go_meet
        case rel => exact ⟨rfl, K9⟩
      | false =>
      obtain ⟨c0, c1, c2, c3, c4, c5, c6, -, -, -⟩ := K9.out
      go_wp2_with fail
      refine (HY.out _ K9.out.2.2.2.2.2.2.2.2.1).mono ?_
      rintro e wx10 ⟨rfl, hb⟩
      have K10 := Num.hide (PAt.step K9.out hb)
      clear hb c0 c1 c2 c3 c4 c5 c6 K9
      cases Y with
      | true =>
        obtain rfl : Z = false := by rw [← HZ.out]; simp [*]
        obtain ⟨c0, c1, c2, c3, c4, c5, c6, -, -, -⟩ := K10.out
        go_wp2
        go_meet
        case rel => exact ⟨rfl, K10⟩
      | false =>
        obtain rfl : Z = true := by rw [← HZ.out]; simp [*]
        obtain ⟨c0, c1, c2, c3, c4, c5, c6, -, -, -⟩ := K10.out
        go_wp2
        go_meet
        case rel => exact ⟨rfl, K10⟩
    case rest =>
    obtain ⟨rfl, KC⟩ := hcut
    clear K7 HZ
    cases Z with
    | true =>
      obtain rfl : r = false := by rw [← HR.out]; simp [*]
      have HBl := Num.hide (KC.out.2.2.2.2.2.2.2.2.2)
      obtain ⟨c0, c1, c2, c3, c4, c5, c6, -, -, -⟩ := KC.out
      clear HR KC
      go_wp2
      go_ret
      exact ⟨rfl, HBl.out⟩
    | false =>
    obtain ⟨c0, c1, c2, c3, c4, c5, c6, -, -, -⟩ := KC.out
    go_wp2_with fail
    refine (HE.out _ KC.out.2.2.2.2.2.2.2.2.1).mono ?_
    rintro e wx11 ⟨rfl, hb⟩
    have K11 := Num.hide (PAt.step KC.out hb)
    clear hb c0 c1 c2 c3 c4 c5 c6 KC
    obtain ⟨c0, c1, c2, c3, c4, c5, c6, -, -, -⟩ := K11.out
    go_wp2_with fail
    refine (HU.out _ K11.out.2.2.2.2.2.2.2.2.1).mono ?_
    rintro e wx12 ⟨rfl, hb⟩
    have K12 := Num.hide (PAt.step K11.out hb)
    clear hb c0 c1 c2 c3 c4 c5 c6 K11
    cases U with
    | true =>
      obtain rfl : r = true := by rw [← HR.out]; simp [*]
      have HBl := Num.hide (K12.out.2.2.2.2.2.2.2.2.2)
      obtain ⟨c0, c1, c2, c3, c4, c5, c6, -, -, -⟩ := K12.out
      clear HR K12
      go_wp2
      go_ret
      exact ⟨rfl, HBl.out⟩
    | false =>
    obtain ⟨c0, c1, c2, c3, c4, c5, c6, -, -, -⟩ := K12.out
    go_wp2_with fail
    refine (HV.out _ K12.out.2.2.2.2.2.2.2.2.1).mono ?_
    rintro e wx13 ⟨rfl, hb⟩
    have K13 := Num.hide (PAt.step K12.out hb)
    clear hb c0 c1 c2 c3 c4 c5 c6 K12
    cases V with
    | true =>
      obtain rfl : r = true := by rw [← HR.out]; simp [*]
      have HBl := Num.hide (K13.out.2.2.2.2.2.2.2.2.2)
      obtain ⟨c0, c1, c2, c3, c4, c5, c6, -, -, -⟩ := K13.out
      clear HR K13
      go_wp2
      go_ret
      exact ⟨rfl, HBl.out⟩
    | false =>
    obtain ⟨c0, c1, c2, c3, c4, c5, c6, -, -, -⟩ := K13.out
    go_wp2_with fail
    refine (HX.out _ K13.out.2.2.2.2.2.2.2.2.1).mono ?_
    rintro e wx14 ⟨rfl, hb⟩
    have K14 := Num.hide (PAt.step K13.out hb)
    clear hb c0 c1 c2 c3 c4 c5 c6 K13
    cases X with
    | true =>
      obtain rfl : r = true := by rw [← HR.out]; simp [*]
      have HBl := Num.hide (K14.out.2.2.2.2.2.2.2.2.2)
      obtain ⟨c0, c1, c2, c3, c4, c5, c6, -, -, -⟩ := K14.out
      clear HR K14
      go_wp2
      go_ret
      exact ⟨rfl, HBl.out⟩
    | false =>
    cases E2 with
    | true =>
      obtain rfl : r = true := by rw [← HR.out]; simp [*]
      have HBl := Num.hide (K14.out.2.2.2.2.2.2.2.2.2)
      obtain ⟨c0, c1, c2, c3, c4, c5, c6, -, -, -⟩ := K14.out
      clear HR K14
      go_wp2
      go_ret
      exact ⟨rfl, HBl.out⟩
    | false =>
    obtain ⟨c0, c1, c2, c3, c4, c5, c6, -, -, -⟩ := K14.out
    go_wp2_with fail
    refine (HH.out _).mono ?_
    rintro e wx15 ⟨rfl, hb⟩
    have K15 := Num.hide (PAt.step K14.out hb)
    clear hb c0 c1 c2 c3 c4 c5 c6 K14
    cases H with
    | true =>
      obtain rfl : r = true := by rw [← HR.out]; simp [*]
      have HBl := Num.hide (K15.out.2.2.2.2.2.2.2.2.2)
      obtain ⟨c0, c1, c2, c3, c4, c5, c6, -, -, -⟩ := K15.out
      clear HR K15
      go_wp2
      go_ret
      exact ⟨rfl, HBl.out⟩
    | false =>
      obtain rfl : r = false := by rw [← HR.out]; simp [*]
      have HBl := Num.hide (K15.out.2.2.2.2.2.2.2.2.2)
      obtain ⟨c0, c1, c2, c3, c4, c5, c6, -, -, -⟩ := K15.out
      clear HR K15
      go_wp2
      go_ret
      exact ⟨rfl, HBl.out⟩
end Pol
end Go.Proofs.YtbcjpjhpobmpbaaGreatDoor
