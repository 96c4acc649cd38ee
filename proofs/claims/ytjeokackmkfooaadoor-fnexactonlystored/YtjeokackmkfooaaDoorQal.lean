/-
  DirsSpec: Directives of the specification: the directives of a list of fields, in a row of the call's own; what was there stays.
-/
import Derived.Test.YtjeokackmkfooaaDoorQaf
import Derived.Test.YtjeokackmkfooaaDoorQag
import Derived.Test.YtjeokackmkfooaaDoorQah
import Derived.Test.YtjeokackmkfooaaDoorQai
import Derived.Test.YtjeokackmkfooaaDoorTokenSpec
import Derived.Test.YtjeokackmkfooaaDoorQak
import Derived.Laws.Strings2
import Derived.Maps.AppendAt
import Derived.Deep.Cut
namespace Go.Proofs.YtjeokackmkfooaaDoor
open Go.RowKit
set_option linter.unusedVariables false
namespace Cc
open Flds (Fld two_cells box_second)

/-- the memory within: what has been put lies in the first block or behind the parts -/
structure DMid (w w2 : World) (pv : Value) (L : List ByteArray) (i : Nat) (ov : Value) (wr : World) : Prop where
  own : Dirs.Own w.heap.size wr ov (ofParts (L.take i))
  apart : ∀ k, ov.ownBlock = some k → k = w.heap.size ∨ w2.heap.size ≤ k
  parts : Strs.Is wr pv L
  below : Below w.heap.size w wr
  size : w2.heap.size ≤ wr.heap.size
theorem DMid.step {w w2 : World} {pv : Value} {L : List ByteArray} {i : Nat} {ov : Value} {wr : World} (m : DMid w w2 pv L i ov wr) (hw : w.heap.size ≤ w2.heap.size) {w' : World} (h : Below wr.heap.size wr w') : DMid w w2 pv L i ov w' where
  own := Recs.own_below m.own h
  apart := m.apart
  parts := Strs.is_below (B := 0) m.parts h
  below := m.below.trans (h.mono (Nat.le_trans hw m.size))
  size := Nat.le_trans m.size h.size
theorem DMid.skip {w w2 : World} {pv : Value} {L : List ByteArray} {i : Nat} {ov : Value} {wr : World} (m : DMid w w2 pv L i ov wr) (hi : i < L.length) (h : isDir L[i] = false) : DMid w w2 pv L (i + 1) ov wr where
  own := by rw [ofParts_take L i hi, if_neg (by rw [h]; exact Bool.false_ne_true), List.append_nil]; exact m.own
  apart := m.apart
  parts := m.parts
  below := m.below
  size := m.size
theorem DMid.put {w w2 : World} {pb po pc : Nat} {L : List ByteArray} {i : Nat} {ov : Value} {wr : World} (m : DMid w w2 (.slice (some ⟨pb, po, none⟩) L.length pc) L i ov wr) (hi : i < L.length) (h : isDir L[i] = true) (hw : w.heap.size < pb) (hpb : pb < w2.heap.size) {x y : ByteArray} (hxy : dirOf L[i] = (x, y)) {v' : Value} {w3 : World}
    (ho : w3.ownsRow w.heap.size 42 2 v' ((ofParts (L.take i)).length + 1) ((ofParts (L.take i)).flatMap Flds.cells ++ [.string x, .string y])) (hg : (wr.alloc (.cells #[.string x, .string y] 42)).grownBy w3 ov.ownBlock)
    (hat : v'.ownBlock = ov.ownBlock ∨ v'.ownBlock = some (wr.heap.size + 1)) : DMid w w2 (.slice (some ⟨pb, po, none⟩) L.length pc) L (i + 1) v' w3 where
  own := by
    rw [ofParts_take L i hi, if_pos h, hxy]
    exact Recs.own_snoc ho
  apart := by
    intro k hk
    rcases hat with e | e
    · exact m.apart k (e ▸ hk)
    · rw [e] at hk
      cases hk
      right
      have := m.size
      omega
  parts := by
    rcases m.parts with h1 | ⟨b, o, c, h1, h2, h3, h4⟩
    · exact absurd h1.1 (by intro e; rw [e] at hi; exact absurd hi (Nat.not_lt_zero _))
    · cases h1
      refine .inr ⟨pb, po, pc, rfl, h2, h3, fun j hj => ?_⟩
      have hlt : pb < wr.heap.size := Nat.lt_of_lt_of_le hpb m.size
      have hb : w3.heap[pb]? = wr.heap[pb]? := by
        rw [hg.block pb (by simp; omega) (by intro e; have := m.apart pb e.symm; omega)]
        exact heap_alloc_old wr _ hlt
      have e : w3.cell? ⟨pb, po + j, none⟩ = wr.cell? ⟨pb, po + j, none⟩ := by
        unfold World.cell?
        simp only [hb]
      rw [e]; exact h4 j hj
  below := (m.below.alloc (by have := m.size; omega) _).grown hg (by have := m.size; simp; omega) (fun j hj => (Recs.own_lt m.own j hj).1)
  size := by have h1 := m.size; have h2 := hg.size; simp at h2; omega
theorem DMid.cell {w w2 : World} {pb po pc : Nat} {L : List ByteArray} {i : Nat} {ov : Value} {wr : World} (m : DMid w w2 (.slice (some ⟨pb, po, none⟩) L.length pc) L i ov wr) (hi : i < L.length) : wr.cell? ⟨pb, po + i, none⟩ = some (.string L[i]) ∧ L.length ≤ pc ∧ pc ≤ maxLen := by
  rcases m.parts with h1 | ⟨b, o, c, h1, h2, h3, h4⟩
  · exact absurd h1.1 (by intro e; rw [e] at hi; exact absurd hi (Nat.not_lt_zero _))
  · cases h1
    exact ⟨h4 i hi, h2, h3⟩

theorem unq_none : unq ⟨#[]⟩ = ⟨#[]⟩ := unq_short (by decide)
set_option maxRecDepth 100000 in
set_option maxHeartbeats 8000000 in
theorem dirs_spec (v : Value) (l : List Fld) (w : World) (h : Flds.Is w v l) (hl : Flds.bulk l ≤ 1048576) :
    Calls Tryd.prog 15 #[v] w fun e w' => ∃ v', e = .returned v' ∧ Dirs.Own w.heap.size w' v' (dirs l) ∧ Below w.heap.size w w' := by
  obtain ⟨i0, hi0, hz0, hz1, hz2⟩ := info_parts Dirs.infoD
  have HG := Num.hide (Flds.get_spec v l ccName (w.alloc (.cells #[] 42)) (Recs.is_below h ((Below.refl _ _).alloc (Nat.le_refl _) _)) (by omega))
  have hsz := said_size l
  obtain ⟨D, hD⟩ : ∃ D, dirs l = D := ⟨_, rfl⟩
  rw [hD]
  unfold dirs at hD
  generalize Flds.get l ccName = g at HG hsz hD
  obtain ⟨s, b⟩ := g
  simp only at HG hsz hD
  have HS := Num.hide (Sign.split_spec s (w.alloc (.cells #[] 42)) (by omega))
  have hlen := split_len s
  have HZ := Num.hide (split_small s)
  generalize Sign.split s = L at HS hlen HZ hD
  have HD := Num.hide hD
  have HM0 := Num.hide (Dirs.made_nil w)
  have HB0 := Num.hide ((Below.refl w.heap.size w).alloc (Nat.le_refl _) (.cells #[] 42))
  have hw1 : (w.alloc (.cells #[] 42)).heap.size = w.heap.size + 1 := by simp
  have HW1 := Num.hide hw1
  clear hD h hw1
  go_enter Tryd.func15, Tryd.ntmps15
  go_wp2_with fail
  refine HG.out.mono ?_
  rintro e w1 ⟨rfl, rfl⟩
  go_wp2_with fail
  refine HS.out.mono ?_
  rintro e w2 ⟨pv, rfl, ho, hb⟩
  obtain ⟨pa, pc, rfl⟩ := Strs.own_len ho
  have hsz2 := hb.size
  rw [HW1.out] at hsz2
  have HP : Hid (0 < L.length → ∃ pb po, pa = some ⟨pb, po, none⟩ ∧ w.heap.size < pb ∧ pb < w2.heap.size) := by
    intro hp
    have hlt := Strs.own_lt ho
    rcases ho.2 with ⟨_, h2⟩ | ⟨g, cap, cur, h1, hB, hg, _⟩
    · omega
    · cases h1
      have := (hlt g rfl).2
      exact ⟨g, 0, rfl, by have := HW1.out; omega, this⟩
  have HM : Hid (DMid w w2 (.slice pa L.length pc) L 0 (.slice (some ⟨w.heap.size, 0, none⟩) 0 0) w2) :=
    ⟨Recs.own_below HM0.out hb, fun k hk => by cases hk; exact .inl rfl, Strs.own_is ho, HB0.out.trans (hb.mono (by have := HW1.out; omega)), Nat.le_refl _⟩
  clear ho hb HM0 HB0 HG HS HW1
  go_wp2
  go_loopw [3, 7] (fun ov iv wr => ∃ i : Nat, i ≤ L.length ∧ iv = .int .i64 (i : Int) ∧ Hid (DMid w w2 (.slice pa L.length pc) L i ov wr)) (fun _ iv _ => L.length - (intOf iv).toNat)
  case atStart => exact ⟨0, by omega, rfl, HM⟩
  case round =>
    clear HM
    obtain ⟨i, hi, rfl, HM⟩ := hrel
    by_cases hlt : i < L.length
    · obtain ⟨pb, po, rfl, hpb1, hpb2⟩ := HP.out (by omega)
      obtain ⟨c1, hc, hmx⟩ := HM.out.cell hlt
      have ht := HZ.out L[i] (List.getElem_mem hlt)
      have hln := ofParts_len (L.take i)
      rw [List.length_take] at hln
      have HN := Num.hide (fun (W : World) (m : DMid w w2 (.slice (some ⟨pb, po, none⟩) L.length pc) L i u3 W) h => m.skip hlt h)
      have HPt := Num.hide (fun (W : World) (m : DMid w w2 (.slice (some ⟨pb, po, none⟩) L.length pc) L i u3 W) (h : isDir L[i] = true) (x y : ByteArray) (hxy : dirOf L[i] = (x, y)) (v' : Value) (w3 : World) => m.put hlt h hpb1 hpb2 hxy (v' := v') (w3 := w3))
      have HO := Num.hide HM.out.own
      generalize L[i] = t at c1 ht HN HPt
      generalize ofParts (L.take i) = O at HO HPt hln
      go_wp2
      go_loop [9] (fun kv => ∃ k : Nat, k ≤ t.size ∧ kv = .int .i64 (k : Int) ∧ Hid (EqTo t k)) (fun kv => t.size - (intOf kv).toNat)
      case atStart => exact ⟨0, by omega, rfl, eq_start t⟩
      case round =>
        obtain ⟨k, hk, rfl, HE⟩ := hrel
        by_cases hk2 : k < t.size
        · by_cases h61 : (t[k]).toNat = 61
          · obtain ⟨n1, n2⟩ := name_some (eq_hit HE.out hk2 h61)
            have HT := Num.hide (fun W => Sign.isTok_spec (t.extract 0 k) W (by unfold maxLen; rw [ByteArray.size_extract]; omega))
            have HLw := Num.hide (fun W => Sign.lower_spec (t.extract 0 k) W (by unfold maxLen; rw [ByteArray.size_extract]; omega))
            have HU := Num.hide (fun W => unq_spec (t.extract (k + 1) t.size) W (by unfold maxLen; rw [ByteArray.size_extract]; omega))
            unfold isDir at HN HPt
            unfold dirOf at HPt
            rw [n1, n2] at HPt
            rw [n1] at HN
            generalize Sign.isTok (t.extract 0 k) = tb at HT HN HPt
            generalize Sign.lower (t.extract 0 k) = lw at HLw HPt
            generalize unq (t.extract (k + 1) t.size) = uq at HU HPt
            clear n1 n2
            have d61 : (((t[k]).toNat : Int) != 61) = false := by rw [bne_eq_false_iff_eq]; omega
            have dk : (k : Int) + 1 ≤ (t.size : Int) := by omega
            clear h61
            go_wp2_with fail
            refine (HT.out _).mono ?_
            rintro e w3 ⟨rfl, rfl⟩
            cases tb with
            | false =>
              have HN2 := Num.hide (HN.out _ HM.out rfl)
              go_wp2
              go_roundw
              case rel => exact ⟨i + 1, by omega, by go_num, HN2⟩
              case measure => simp [intOf]; omega
            | true =>
              go_wp2_with fail
              refine (HLw.out _).mono ?_
              rintro e w3 ⟨rfl, hb3⟩
              have HM3 := Num.hide (HM.out.step (by omega) hb3)
              have HO3 := Num.hide (Recs.own_below HO.out hb3)
              have hs3 := HM3.out.size
              clear hb3 HM HO
              have HM4 := Num.hide (HM3.out.step (by omega) ((Below.refl w3.heap.size w3).alloc (Nat.le_refl _) (.cells #[.string lw, .string uq] 42)))
              have HO4 := Num.hide (World.ownsRow.alloc HO3.out (.cells #[.string lw, .string uq] 42))
              go_wp2_with fail
              refine (HU.out _).mono ?_
              rintro e w4 ⟨rfl, rfl⟩
              go_upto_region 15 with fail
              generalize hW4 : (w3.alloc (.cells #[.string lw, .string uq] 42)) = W4 at HM4 HO4 ⊢
              have b0 : W4.cell? ⟨w3.heap.size, 0, none⟩ = some (.string lw) := by rw [← hW4]; simp
              have b1 : W4.cell? ⟨w3.heap.size, 1, none⟩ = some (.string uq) := by rw [← hW4]; simp
              have hs4 := HM4.out.size
              clear hW4 HM3 HO3
              go_wp2_with (at_builtin; refine wpList_append_own_at _ rfl _ _ 40 rfl w.heap.size 42 i0 _ 2 32 Tryd.underlying40 hi0 hz0 hz1 hz2 rfl (by decide) _ _ _ rfl (World.ownsRow.alloc HO4.out _) ⟨W4.heap.size, 0, none⟩ 1 1 [.string lw, .string uq] rfl rfl (by simpa using Dirs.cells_two W4 lw uq) (Flds.two_ok lw uq) (by unfold maxLen; omega) (by omega) ?c5 ?_)
              case c5 => first | omega | (simp; omega)
              intro v' w5 ho5 hg5 _ hat5
              have HM5 := Num.hide (HPt.out W4 HM4.out (by first | trivial | rfl) lw uq rfl v' w5 ho5 hg5 hat5)
              clear ho5 hg5 hat5 HM4 HO4 b0 b1
              go_wp2
              go_roundw
              case rel => exact ⟨i + 1, by omega, by go_num, HM5⟩
              case measure => simp [intOf]; omega
          · have HE2 := Num.hide (eq_next HE.out hk2 h61)
            have d61 : (((t[k]).toNat : Int) != 61) = true := by rw [bne_iff_ne]; omega
            clear h61
            go_wp2
            go_round
            case rel => exact ⟨k + 1, by omega, by go_num, HE2⟩
            case measure => simp [intOf]; omega
        · obtain rfl : k = t.size := by omega
          have n1 : nameOf t = t := (name_none (eq_miss HE.out)).1
          have n2 := (name_none (eq_miss HE.out)).2
          have HT := Num.hide (fun W => Sign.isTok_spec t W (by unfold maxLen; omega))
          have HLw := Num.hide (fun W => Sign.lower_spec t W (by unfold maxLen; omega))
          unfold isDir at HN HPt
          unfold dirOf at HPt
          rw [n1, n2, unq_none] at HPt
          rw [n1] at HN
          generalize Sign.isTok t = tb at HT HN HPt
          generalize Sign.lower t = lw at HLw HPt
          clear n1 n2
          go_wp2_with fail
          refine (HT.out _).mono ?_
          rintro e w3 ⟨rfl, rfl⟩
          cases tb with
          | false =>
            have HN2 := Num.hide (HN.out _ HM.out rfl)
            go_wp2
            go_roundw
            case rel => exact ⟨i + 1, by omega, by go_num, HN2⟩
            case measure => simp [intOf]; omega
          | true =>
            go_wp2_with fail
            refine (HLw.out _).mono ?_
            rintro e w3 ⟨rfl, hb3⟩
            have HM3 := Num.hide (HM.out.step (by omega) hb3)
            have HO3 := Num.hide (Recs.own_below HO.out hb3)
            have hs3 := HM3.out.size
            clear hb3 HM HO
            have HM4 := Num.hide (HM3.out.step (by omega) ((Below.refl w3.heap.size w3).alloc (Nat.le_refl _) (.cells #[.string lw, .string ⟨#[]⟩] 42)))
            have HO4 := Num.hide (World.ownsRow.alloc HO3.out (.cells #[.string lw, .string ⟨#[]⟩] 42))
            go_upto_region 15 with fail
            generalize hW4 : (w3.alloc (.cells #[.string lw, .string ⟨#[]⟩] 42)) = W4 at HM4 HO4 ⊢
            have b0 : W4.cell? ⟨w3.heap.size, 0, none⟩ = some (.string lw) := by rw [← hW4]; simp
            have b1 : W4.cell? ⟨w3.heap.size, 1, none⟩ = some (.string ⟨#[]⟩) := by rw [← hW4]; simp
            have hs4 := HM4.out.size
            clear hW4 HM3 HO3
            go_wp2_with (at_builtin; refine wpList_append_own_at _ rfl _ _ 40 rfl w.heap.size 42 i0 _ 2 32 Tryd.underlying40 hi0 hz0 hz1 hz2 rfl (by decide) _ _ _ rfl (World.ownsRow.alloc HO4.out _) ⟨W4.heap.size, 0, none⟩ 1 1 [.string lw, .string ⟨#[]⟩] rfl rfl (by simpa using Dirs.cells_two W4 lw ⟨#[]⟩) (Flds.two_ok lw ⟨#[]⟩) (by unfold maxLen; omega) (by omega) ?c5 ?_)
            case c5 => first | omega | (simp; omega)
            intro v' w5 ho5 hg5 _ hat5
            have HM5 := Num.hide (HPt.out W4 HM4.out (by first | trivial | rfl) lw ⟨#[]⟩ rfl v' w5 ho5 hg5 hat5)
            clear ho5 hg5 hat5 HM4 HO4 b0 b1
            go_wp2
            go_roundw
            case rel => exact ⟨i + 1, by omega, by go_num, HM5⟩
            case measure => simp [intOf]; omega
    · obtain rfl : i = L.length := by omega
      have HE : Hid (Dirs.Own w.heap.size wr u3 D) := by rw [← HD.out]; have := HM.out.own; rw [List.take_length] at this; exact this
      have HB := Num.hide HM.out.below
      go_wp2
      go_ret
      exact ⟨_, rfl, HE.out, HB.out⟩
end Cc
end Go.Proofs.YtjeokackmkfooaaDoor
