/-
  FramedSpec: l6Framed of the specification: a body's fields as a message has them that goes out, in a row of the call's own.
  ReqShowSpec: ShowRequest of the specification: the text of a request.
  HexNumSpec: HexNum of the specification: a number in sixteen digits; what was there stays.
  ChunkSpec: Chunk of the specification: a text in pieces; what was there stays.
  DrawReadQ: DrawReadRequest of the specification: some text that is not long; what was there stays.
  UriImpl: UriOk of the program.
-/
import Derived.Test.YtbajfklnekfeoaaGreatDoorPag
import Derived.Test.YtbajfklnekfeoaaGreatDoorPaj
import Derived.Test.YtbajfklnekfeoaaGreatDoorPab
import Derived.Test.YtbajfklnekfeoaaGreatDoorPai
import Derived.Test.YtbajfklnekfeoaaGreatDoorPah
import Derived.Test.YtbajfklnekfeoaaGreatDoorRegLaw
import Derived.Test.YtbajfklnekfeoaaGreatDoorMem
import Derived.Below
import Derived.Deep.RegionWith
import Derived.BigRegion
import Derived.Deep.Cut
import Derived.Laws.Strings
import Derived.Test.YtbajfklnekfeoaaGreatDoorPad
import Derived.Laws.Strings2
import Derived.Test.YtbajfklnekfeoaaGreatDoorSignNum
import Derived.Test.YtbajfklnekfeoaaGreatDoorPae
import Derived.Test.YtbajfklnekfeoaaGreatDoorRows
namespace Go.Proofs.YtbajfklnekfeoaaGreatDoor
open Go.RowKit
set_option linter.unusedVariables false
namespace Msg
open Flds (infoF cells_two two_ok put_more)

set_option maxRecDepth 100000 in
set_option maxHeartbeats 2000000 in
theorem framed_spec (v : Value) (l : List Flds.Fld) (b : ByteArray) (w : World) (h : Flds.Is w v l) (hl : l.length ≤ 1073741824) (hb : b.size ≤ 1099511627776) :
    Calls Tryz.prog 119 #[v, .string b] w fun e w' => ∃ v', e = .returned v' ∧ Flds.Own w.heap.size w' v' (framed l b) ∧ Below w.heap.size w w' := by
  obtain ⟨i0, hi0, hz0, hz1, hz2⟩ := info_parts infoF
  have HD1 := Num.hide (Flds.drop_spec v l Body.teName w h hl)
  have HE : Hid (∀ W, Calls Tryz.prog 16 #[.int .i64 (b.size : Int)] W fun e w' => e = .returned (.string (decB b.size)) ∧ Below W.heap.size W w') := fun W => Dec.spec_any (b.size : Int) W (by omega) (by omega)
  have hl2 := Flds.drop_length l Body.teName
  have hl3 := Flds.drop_length (Flds.drop l Body.teName) Body.clName
  obtain ⟨R, hR⟩ : ∃ R, framed l b = R := ⟨_, rfl⟩
  rw [hR]
  unfold framed bare at hR
  have HD2 := Num.hide (fun v W h => Flds.drop_spec v (Flds.drop l Body.teName) Body.clName W h (by omega))
  obtain ⟨a, c, rfl, _⟩ := Flds.is_form h
  clear h
  generalize hL2 : Flds.drop (Flds.drop l Body.teName) Body.clName = L2 at hR HD2 hl3
  generalize hL1 : Flds.drop l Body.teName = L1 at HD1 HD2 hl2 hl3
  generalize decB b.size = t at hR HE
  have HR := Num.hide hR
  clear hR hL1 hL2
  unfold Body.teName at HD1
  unfold Body.clName at HD2 HR
  go_enter Tryz.func119, Tryz.ntmps119
  go_wp2_with fail
  refine HD1.out.mono ?_
  rintro e W1 ⟨v1, rfl, ho1, hb1⟩
  have HO1 := Num.hide ho1
  have HB1 := Num.hide hb1
  clear ho1 hb1 HD1
  go_wp2_with fail
  refine (HD2.out v1 W1 (Recs.own_is Flds.cells_len HO1.out)).mono ?_
  rintro e W2 ⟨v2, rfl, ho2, hb2⟩
  have HO2 := Num.hide (Recs.own_mono ho2 HB1.out.size)
  have HB2 := Num.hide (Recs.below_step HB1.out hb2)
  clear ho2 hb2 HD2 HO1 HB1
  go_wp2_with fail
  refine (HE.out _).mono ?_
  rintro e W3 ⟨rfl, hb3⟩
  have HO3 := Num.hide (Recs.own_below HO2.out hb3)
  have HB3 := Num.hide (Recs.below_step HB2.out hb3)
  have hsz := HB3.out.size
  obtain ⟨a2, c2, hv2⟩ := Recs.own_len HO3.out
  subst hv2
  clear hb3 HE HO2 HB2
  go_wp2_with (at_builtin; refine wpList_append_own _ rfl _ _ 37 rfl w.heap.size 36 i0 _ 2 32 Tryz.underlying37 hi0 hz0 hz1 hz2 rfl (by decide) _ _ _ rfl (World.ownsRow.alloc HO3.out _) ⟨W3.heap.size, 0, none⟩ 1 1 [.string ⟨#[99, 111, 110, 116, 101, 110, 116, 45, 108, 101, 110, 103, 116, 104]⟩, .string t] rfl rfl (cells_two W3 _ t) (two_ok _ t) (by unfold maxLen; omega) (by omega) ?c5 ?_)
  case c5 => first | omega | (simp; omega)
  intro v' w2 ho4 hg4 _
  obtain ⟨hp1, hp2⟩ := put_more hsz HO3.out HB3.out ho4 hg4
  have HP1 := Num.hide hp1
  have HP2 := Num.hide hp2
  clear ho4 hg4 hp1 hp2
  go_wp2
  go_ret
  exact ⟨_, rfl, by rw [← HR.out]; exact HP1.out, HP2.out⟩
end Msg
end Go.Proofs.YtbajfklnekfeoaaGreatDoor
namespace Go.Proofs.YtbajfklnekfeoaaGreatDoor
open Go.RowKit
set_option linter.unusedVariables false
set_option linter.unusedSimpArgs false
namespace Msg

set_option maxRecDepth 100000 in
set_option maxHeartbeats 4000000 in
theorem showReq_spec (m u : ByteArray) (v : Value) (l : List Flds.Fld) (b : ByteArray) (w : World) (h : Flds.Is w v l) (hl : Flds.bulk l ≤ 1048576) (hm : m.size ≤ 1099511627776) (hu : u.size ≤ 1099511627776) (hb : b.size ≤ 1099511627776) :
    Calls Tryz.prog 67 #[Req.val m u v b] w fun e w' => e = .returned (.string (showReq m u l b)) ∧ Below w.heap.size w w' := by
  have HOk := Num.hide (fun v W h => reqOk_spec m u v l b W h (by omega) hm hu hb)
  have hlen : l.length ≤ 1048576 := by unfold Flds.bulk at hl; omega
  have HF := Num.hide (fun W h => framed_spec v l b W h (by omega) hb)
  have HI := Num.hide h
  unfold Req.val at HOk ⊢
  obtain ⟨a, c, rfl, _⟩ := Flds.is_form h
  have HB0 := Num.hide ((Below.refl w.heap.size w).alloc (Nat.le_refl _) (.cells #[.string m, .string u, .slice a l.length c, .string b] 39))
  clear h
  cases hok : reqOk m u l b with
  | true =>
    obtain ⟨h1, h2, h3, h4, h5⟩ := req_parts hok
    have hfo := ok_framed h4 b h5
    have hsm := shown_small hfo
    have HSh := Num.hide (fun v W h => Flds.show_spec v (framed l b) W h (framed_bulk hfo))
    have hsr : showReq m u l b = reqText m u l b := by unfold showReq; rw [if_pos hok]
    rw [hsr]
    obtain ⟨r, hr⟩ : ∃ r, reqText m u l b = r := ⟨_, rfl⟩
    rw [hr]
    unfold reqText at hr
    rw [hok] at HOk
    generalize Flds.shown (framed l b) = S at HSh hr hsm
    have hu20 : u.size ≤ 20 := by
      unfold uriOk at h3
      simp only [Bool.and_eq_true, decide_eq_true_iff] at h3
      exact h3.1.2.2
    have HR := Num.hide hr
    have f1 : ¬ 9223372036854775807 < m.size + 1 := by omega
    have f2 : ¬ 9223372036854775807 < m.size + 1 + u.size := by omega
    have f3 : ¬ 9223372036854775807 < m.size + 1 + u.size + 11 := by omega
    have f4 : ¬ 9223372036854775807 < m.size + 1 + u.size + 11 + S.size := by omega
    have f5 : ¬ 9223372036854775807 < m.size + 1 + u.size + 11 + S.size + b.size := by omega
    clear hr hok h1 h3 h4 hfo hsr
    go_enter Tryz.func67, Tryz.ntmps67
    go_wp2_with fail
    refine (HOk.out _ _ (Recs.is_stay HI.out (Nat.le_refl _) HB0.out)).mono ?_
    rintro e W2 ⟨rfl, hb2⟩
    have HK := Num.hide (Box4.first w _ _ _ _ _ hb2)
    clear hb2 HOk
    go_wp2_with fail
    refine wp_region_held_drew (S := Box4 w (.string m) (.string u) (.slice a l.length c) (.string b)) (by kernel_rfl) HK.out.drew (fun hHeld => ?_)
    refine Reg.take (i := 0) (d := 6) (v := ?_) rfl rfl (by kernel_rfl) (by kernel_rfl) (by kernel_rfl) (fun _ _ _ h => h) (by rfl) ?_ hHeld ?_
    rotate_left
    · rintro W ⟨g0, g1, g2, g3, g4⟩
      first | (go_simp; done) | (go_simp; with_reducible rfl)
    simp only [Act.put, List.setIfInBounds_toArray, List.set_cons_zero, List.set_cons_succ]
    refine Reg.take (i := 1) (d := 7) (v := ?_) rfl rfl (by kernel_rfl) (by kernel_rfl) (by kernel_rfl) (fun _ _ _ h => h) (by rfl) ?_ hHeld ?_
    rotate_left
    · rintro W ⟨g0, g1, g2, g3, g4⟩
      first | (go_simp; done) | (go_simp; with_reducible rfl)
    simp only [Act.put, List.setIfInBounds_toArray, List.set_cons_zero, List.set_cons_succ]
    refine Reg.take (i := 2) (d := 8) (v := ?_) rfl rfl (by kernel_rfl) (by kernel_rfl) (by kernel_rfl) (fun _ _ _ h => h) (by rfl) ?_ hHeld ?_
    rotate_left
    · rintro W ⟨g0, g1, g2, g3, g4⟩
      first | (go_simp; done) | (go_simp; with_reducible rfl)
    simp only [Act.put, List.setIfInBounds_toArray, List.set_cons_zero, List.set_cons_succ]
    refine Reg.take (i := 3) (d := 9) (v := ?_) rfl rfl (by kernel_rfl) (by kernel_rfl) (by kernel_rfl) (fun _ _ _ h => h) (by rfl) ?_ hHeld ?_
    rotate_left
    · rintro W ⟨g0, g1, g2, g3, g4⟩
      first | (go_simp; done) | (go_simp; with_reducible rfl)
    simp only [Act.put, List.setIfInBounds_toArray, List.set_cons_zero, List.set_cons_succ]
    refine Reg.take (i := 4) (d := 10) (v := ?_) rfl rfl (by kernel_rfl) (by kernel_rfl) (by kernel_rfl) (fun _ _ _ h => h) (by rfl) ?_ hHeld ?_
    rotate_left
    · rintro W ⟨g0, g1, g2, g3, g4⟩
      first | (go_simp; done) | (go_simp; with_reducible rfl)
    simp only [Act.put, List.setIfInBounds_toArray, List.set_cons_zero, List.set_cons_succ]
    refine Reg.take (i := 5) (d := 11) (v := ?_) rfl rfl (by kernel_rfl) (by kernel_rfl) (by kernel_rfl) (fun _ _ _ h => h) (by rfl) ?_ hHeld ?_
    rotate_left
    · rintro W ⟨g0, g1, g2, g3, g4⟩
      first | (go_simp; done) | (go_simp; with_reducible rfl)
    simp only [Act.put, List.setIfInBounds_toArray, List.set_cons_zero, List.set_cons_succ]
    refine Reg.take (i := 6) (d := 12) (v := ?_) rfl rfl (by kernel_rfl) (by kernel_rfl) (by kernel_rfl) (fun _ _ _ h => h) (by rfl) ?_ hHeld ?_
    rotate_left
    · rintro W ⟨g0, g1, g2, g3, g4⟩
      first | (go_simp; done) | (go_simp; with_reducible rfl)
    simp only [Act.put, List.setIfInBounds_toArray, List.set_cons_zero, List.set_cons_succ]
    refine Reg.take (i := 7) (d := 13) (v := ?_) rfl rfl (by kernel_rfl) (by kernel_rfl) (by kernel_rfl) (fun _ _ _ h => h) (by rfl) ?_ hHeld ?_
    rotate_left
    · rintro W ⟨g0, g1, g2, g3, g4⟩
      first | (go_simp; done) | (go_simp; with_reducible rfl)
    simp only [Act.put, List.setIfInBounds_toArray, List.set_cons_zero, List.set_cons_succ]
    refine Reg.take (i := 8) (d := 14) (v := ?_) rfl rfl (by kernel_rfl) (by kernel_rfl) (by kernel_rfl) (fun _ _ _ h => h) (by rfl) ?_ hHeld ?_
    rotate_left
    · rintro W ⟨g0, g1, g2, g3, g4⟩
      first | (go_simp; done) | (go_simp; with_reducible rfl)
    simp only [Act.put, List.setIfInBounds_toArray, List.set_cons_zero, List.set_cons_succ]
    refine Reg.take (i := 9) (d := 15) (v := ?_) rfl rfl (by kernel_rfl) (by kernel_rfl) (by kernel_rfl) (fun _ _ _ h => h) (by rfl) ?_ hHeld ?_
    rotate_left
    · rintro W ⟨g0, g1, g2, g3, g4⟩
      first | (go_simp; done) | (go_simp; with_reducible rfl)
    simp only [Act.put, List.setIfInBounds_toArray, List.set_cons_zero, List.set_cons_succ]
    refine Reg.take (i := 10) (d := 16) (v := ?_) rfl rfl (by kernel_rfl) (by kernel_rfl) (by kernel_rfl) (fun _ _ _ h => h) (by rfl) ?_ hHeld ?_
    rotate_left
    · rintro W ⟨g0, g1, g2, g3, g4⟩
      first | (go_simp; done) | (go_simp; with_reducible rfl)
    simp only [Act.put, List.setIfInBounds_toArray, List.set_cons_zero, List.set_cons_succ]
    refine Reg.take (i := 14) (d := 20) (v := ?_) rfl rfl (by kernel_rfl) (by kernel_rfl) (by kernel_rfl) (fun _ _ _ h => h) (by rfl) ?_ hHeld ?_
    rotate_left
    · rintro W ⟨g0, g1, g2, g3, g4⟩
      first | (go_simp; done) | (go_simp; with_reducible rfl)
    simp only [Act.put, List.setIfInBounds_toArray, List.set_cons_zero, List.set_cons_succ]
    refine Reg.take (i := 15) (d := 21) (v := ?_) rfl rfl (by kernel_rfl) (by kernel_rfl) (by kernel_rfl) (fun _ _ _ h => h) (by rfl) ?_ hHeld ?_
    rotate_left
    · rintro W ⟨g0, g1, g2, g3, g4⟩
      first | (go_simp; done) | (go_simp; with_reducible rfl)
    simp only [Act.put, List.setIfInBounds_toArray, List.set_cons_zero, List.set_cons_succ]
    refine Reg.call (i := 11) rfl (by kernel_rfl) (by rfl) (fun K hK => ?_)
    go_wp2_with (first | (go_at_call 119; refine (HF.out _ (Recs.is_stay HI.out (Nat.le_refl _) hHeld.2.2.2.2)).mono ?_; rintro e W3 ⟨v3, rfl, ho3, hb3⟩))
    have HO3 := Num.hide ho3
    have HB3 := Num.hide hb3
    clear ho3 hb3
    refine hK.out _ _ ?_ (fun hHeld2 => ?_)
    · exact Box4.step hHeld HB3.out
    clear hK K
    replace hHeld := hHeld2
    clear hHeld2
    refine Reg.call (i := 12) rfl (by kernel_rfl) (by rfl) (fun K hK => ?_)
    go_wp2_with (first | (go_at_call 118; refine (HSh.out v3 _ (Recs.own_is Flds.cells_len HO3.out)).mono ?_; rintro e W4 ⟨rfl, hb4⟩))
    have HB4 := Num.hide hb4
    clear hb4
    refine hK.out _ _ ?_ (fun hHeld2 => ?_)
    · exact Box4.step hHeld HB4.out
    clear hK K
    replace hHeld := hHeld2
    clear hHeld2
    refine Reg.take (i := 13) (d := 19) (v := ?_) rfl rfl (by kernel_rfl) (by kernel_rfl) (by kernel_rfl) (fun _ _ _ h => h) (by rfl) ?_ hHeld ?_
    rotate_left
    · rintro W ⟨g0, g1, g2, g3, g4⟩
      first | (go_simp; done) | (go_simp; with_reducible rfl)
    simp only [Act.put, List.setIfInBounds_toArray, List.set_cons_zero, List.set_cons_succ]
    refine Reg.take (i := 16) (d := 22) (v := ?_) rfl rfl (by kernel_rfl) (by kernel_rfl) (by kernel_rfl) (fun _ _ _ h => h) (by rfl) ?_ hHeld ?_
    rotate_left
    · rintro W ⟨g0, g1, g2, g3, g4⟩
      first | (go_simp; done) | (go_simp; with_reducible rfl)
    simp only [Act.put, List.setIfInBounds_toArray, List.set_cons_zero, List.set_cons_succ]
    refine Reg.take (i := 17) (d := 2) (v := ?_) rfl rfl (by kernel_rfl) (by kernel_rfl) (by kernel_rfl) (fun _ _ _ h => h) (by rfl) ?_ hHeld ?_
    rotate_left
    · rintro W ⟨g0, g1, g2, g3, g4⟩
      first | (go_simp; done) | (go_simp; with_reducible rfl)
    simp only [Act.put, List.setIfInBounds_toArray, List.set_cons_zero, List.set_cons_succ]
    refine wpAnyH_done (by kernel_rfl) ?_ _
    have HH := Num.hide hHeld.2.2.2.2
    have hr := HR.out
    subst hr
    go_wp2
    go_ret
    exact ⟨rfl, HH.out⟩
  | false =>
    have hsr : showReq m u l b = ⟨#[]⟩ := by unfold showReq; rw [if_neg (by rw [hok]; decide)]
    rw [hsr]
    rw [hok] at HOk
    clear hsr hok
    go_enter Tryz.func67, Tryz.ntmps67
    go_wp2_with fail
    refine (HOk.out _ _ (Recs.is_stay HI.out (Nat.le_refl _) HB0.out)).mono ?_
    rintro e W2 ⟨rfl, hb2⟩
    have HB2 := Num.hide (HB0.out.trans (hb2.mono HB0.out.size))
    clear hb2 HOk
    go_wp2
    go_ret
    exact ⟨rfl, HB2.out⟩
end Msg
end Go.Proofs.YtbajfklnekfeoaaGreatDoor
namespace Go.Proofs.YtbajfklnekfeoaaGreatDoor
open Go.RowKit
set_option linter.unusedVariables false
namespace Body

theorem cons_text (c : UInt8) (out : List UInt8) : (⟨#[c]⟩ : ByteArray) ++ ⟨out.toArray⟩ = ⟨(c :: out).toArray⟩ := by
  rw [ByteArray.mk_append_mk]; simp
theorem byte_hx (k : Nat) (h : k < 16) : Num.byte ((Hex.hx k).toNat : Int) = Hex.hx k := by
  have : ∀ k, k < 16 → Num.byte ((Hex.hx k).toNat : Int) = Hex.hx k := by decide
  exact this k h
theorem hx_bd (k : Nat) : ((Hex.hx k).toNat : Int) < 256 := by have := (Hex.hx k).toNat_lt; omega
set_option maxRecDepth 100000 in
set_option maxHeartbeats 2000000 in
theorem hexNum_spec (n : Int) (w : World) (hmax : n ≤ 9223372036854775807) :
    Calls Tryz.prog 120 #[.int .i64 n] w fun e w' => e = .returned (.string (hexNum n)) ∧ Below w.heap.size w w' := by
  by_cases h0 : n < 0
  · have e0 : hexNum n = ⟨#[]⟩ := by unfold hexNum hexL; rw [if_pos h0]
    rw [e0]
    clear e0
    go_enter Tryz.func120, Tryz.ntmps120
    go_wp2
    go_ret
    exact ⟨rfl, Below.refl _ _⟩
  · have d0 : decide (n < 0) = false := by rw [decide_eq_false_iff_not]; exact h0
    obtain ⟨r, hr⟩ : ∃ r, hexNum n = r := ⟨_, rfl⟩
    rw [hr]
    have HR := Num.hide hr
    clear hr
    go_enter Tryz.func120, Tryz.ntmps120
    go_wp2
    go_loopw [0, 3] (fun q o wr => ∃ (x : Int) (out : List UInt8), 0 ≤ x ∧ x ≤ n ∧ Hid ((out = [] ∧ x = n) ∨ (out ≠ [] ∧ r = ⟨(dh x.toNat ++ out).toArray⟩)) ∧ out.length ≤ 16 ∧ q = .int .i64 x ∧ o = .string ⟨out.toArray⟩ ∧ Hid (Below w.heap.size w wr)) (fun q o _ => 2 * (intOf q).toNat + (match o with | .string t => if t.size = 0 then 1 else 0 | _ => 0))
    case atStart => exact ⟨n, [], by omega, by omega, .inl ⟨rfl, rfl⟩, by decide, rfl, rfl, Below.refl _ _⟩
    case round =>
      obtain ⟨x, out, hx0, hxn, HI, hol, rfl, rfl, HB⟩ := hrel
      have hsz := HB.out.size
      have hrs : r.size ≤ 16 := by rw [← HR.out]; exact hexNum_size n
      obtain ⟨k, hk⟩ : ∃ k : Nat, x % 16 = (k : Int) := ⟨(x % 16).toNat, by omega⟩
      have hk16 : k < 16 := by omega
      by_cases hx : 0 < x
      · have hst : r = ⟨(dh (x / 16).toNat ++ Hex.hx k :: out).toArray⟩ := by
          have hs := dh_step x.toNat (by omega) (by omega)
          rw [show x.toNat / 16 = (x / 16).toNat by omega, show x.toNat % 16 = k by omega] at hs
          rcases HI.out with ⟨ho, hxe⟩ | ⟨_, hr⟩
          · subst ho
            rw [← HR.out]
            unfold hexNum hexL
            rw [if_neg (by omega), if_neg (by omega), ← hxe, hs]
          · rw [hr, hs, List.append_assoc]; rfl
        have hlen : (Hex.hx k :: out).length ≤ 16 := by
          have h2 : r.size = (dh (x / 16).toNat ++ Hex.hx k :: out).length := by rw [hst]; simp [ByteArray.size]
          rw [List.length_append] at h2
          omega
        have HN : Hid ((Hex.hx k :: out = [] ∧ x / 16 = n) ∨ (Hex.hx k :: out ≠ [] ∧ r = ⟨(dh (x / 16).toNat ++ Hex.hx k :: out).toArray⟩)) := .inr ⟨by simp, hst⟩
        clear hst HI
        have hc := Mem.conv_one wr ((Hex.hx k).toNat : Int) (by omega) (hx_bd k)
        have hd := Hex.digit_at k hk16
        rw [byte_hx k hk16] at hc
        have hos : (⟨out.toArray⟩ : ByteArray).size = out.length := by simp [ByteArray.size]
        have HB1 := Num.hide (HB.out.alloc hsz (.cells #[.int .u8 ((Hex.hx k).toNat : Int)] 5))
        have HT := Num.hide (cons_text (Hex.hx k) out)
        go_wp2
        go_roundw
        case rel => exact ⟨x / 16, Hex.hx k :: out, by omega, by omega, HN, hlen, rfl, congrArg Value.string HT.out, HB1⟩
        case measure =>
          have h1 : ((⟨#[Hex.hx k]⟩ : ByteArray) ++ ⟨out.toArray⟩).size = out.length + 1 := by rw [HT.out]; simp [ByteArray.size]
          simp [intOf, h1]
          omega
      · obtain rfl : x = 0 := by omega
        have dx : decide ((0 : Int) < 0) = false := by decide
        by_cases ho : out = []
        · subst ho
          obtain rfl : k = 0 := by omega
          have hst : r = ⟨(dh ((0 : Int) / 16).toNat ++ [Hex.hx 0]).toArray⟩ := by
            rcases HI.out with ⟨_, hxe⟩ | ⟨h, _⟩
            · rw [← HR.out, ← hxe]; rfl
            · exact absurd rfl h
          have hc := Mem.conv_one wr ((Hex.hx 0).toNat : Int) (by omega) (hx_bd 0)
          have hd := Hex.digit_at 0 hk16
          rw [byte_hx 0 hk16] at hc
          have HB1 := Num.hide (HB.out.alloc hsz (.cells #[.int .u8 ((Hex.hx 0).toNat : Int)] 5))
          have HN : Hid (([Hex.hx 0] = [] ∧ (0 : Int) = n) ∨ ([Hex.hx 0] ≠ [] ∧ r = ⟨(dh (0 : Int).toNat ++ [Hex.hx 0]).toArray⟩)) := .inr ⟨by simp, hst⟩
          clear HI hst hk
          rw [show (⟨([] : List UInt8).toArray⟩ : ByteArray) = ⟨#[]⟩ from rfl]
          have HT := Num.hide (cons_text (Hex.hx 0) [])
          go_wp2
          go_roundw
          case rel => exact ⟨0, [Hex.hx 0], by omega, by omega, HN, by decide, rfl, congrArg Value.string HT.out, HB1⟩
          case measure => decide
        · have hst : r = ⟨out.toArray⟩ := by
            rcases HI.out with ⟨h, _⟩ | ⟨_, hr⟩
            · exact absurd h ho
            · rw [hr]; rfl
          have hne : (⟨out.toArray⟩ : ByteArray).toList.isEmpty = false := by
            rw [ByteArray.toList_eq]
            cases out with
            | nil => exact absurd rfl ho
            | cons c l => rfl
          clear HI HR hk
          obtain ⟨t, ht⟩ : ∃ t, (⟨out.toArray⟩ : ByteArray) = t := ⟨_, rfl⟩
          rw [ht] at hst hne ⊢
          subst hst
          clear ht
          go_wp2
          go_ret
          exact ⟨rfl, HB.out⟩
end Body
end Go.Proofs.YtbajfklnekfeoaaGreatDoor
namespace Go.Proofs.YtbajfklnekfeoaaGreatDoor
open Go.RowKit
set_option linter.unusedVariables false
namespace Body

set_option maxRecDepth 100000 in
set_option maxHeartbeats 2000000 in
theorem chunk_spec (s : ByteArray) (z : Int) (w : World) (hs : s.size ≤ 1048576) (hz : z ≤ 9223372036854775807) :
    Calls Tryz.prog 69 #[.string s, .int .i64 z] w fun e w' => e = .returned (.string (chunk s z)) ∧ Below w.heap.size w w' := by
  by_cases h1 : z < 1
  · have e0 : chunk s z = ⟨#[]⟩ := if_pos h1
    rw [e0]
    clear e0
    go_enter Tryz.func69, Tryz.ntmps69
    go_wp2
    go_ret
    exact ⟨rfl, Below.refl _ _⟩
  · have d1 : decide (z < 1) = false := by rw [decide_eq_false_iff_not]; exact h1
    obtain ⟨r, hr⟩ : ∃ r, chunk s z = r := ⟨_, rfl⟩
    rw [hr]
    have hr2 : (⟨(chunkL z.toNat s.data.toList ++ [48, 13, 10, 13, 10]).toArray⟩ : ByteArray) = r := by rw [← hr]; unfold chunk; rw [if_neg h1]
    have HR := Num.hide hr2
    obtain ⟨Z, rfl⟩ : ∃ Z : Nat, z = (Z : Int) := ⟨z.toNat, by omega⟩
    clear hr hr2
    go_enter Tryz.func69, Tryz.ntmps69
    go_wp2
    go_loopw [0, 5] (fun sv ov wr => ∃ (t out : ByteArray), sv = .string t ∧ ov = .string out ∧ t.size ≤ s.size ∧ Hid (out.data.toList ++ chunkL Z t.data.toList = chunkL Z s.data.toList) ∧ Hid (Below w.heap.size w wr)) (fun sv _ _ => match sv with | .string t => t.size | _ => 0)
    case atStart => exact ⟨s, ⟨#[]⟩, rfl, rfl, Nat.le_refl _, by show _ = _; rfl, Below.refl _ _⟩
    case round =>
      obtain ⟨t, out, rfl, rfl, hts, HE, HB⟩ := hrel
      have hsz := HB.out.size
      have hos : out.size ≤ 22020096 := by
        have h2 := chunkL_len Z (by omega) s.data.toList
        have h3 := congrArg List.length HE.out
        rw [List.length_append] at h3
        have e1 : out.data.toList.length = out.size := by rw [Array.length_toList]; rfl
        have e2 : s.data.toList.length = s.size := by rw [Array.length_toList]; rfl
        omega
      by_cases h0 : 0 < (t.size : Int)
      · obtain ⟨m, hm, hmn⟩ : ∃ m : Nat, (if t.size < Z then (t.size : Int) else (Z : Int)) = (m : Int) ∧ Hid (min Z t.size = m) := ⟨min Z t.size, by split <;> omega, rfl⟩
        have hmt : m ≤ t.size := by have := hmn.out; omega
        have hm1 : 1 ≤ m := by have := hmn.out; omega
        have HX := Num.hide (fun W => hexNum_spec (m : Int) W (by omega))
        have hxs := hexNum_size (m : Int)
        have HH : Hid ((hexNum (m : Int)).data.toList = hexL (m : Int)) := by show _ = _; unfold hexNum; rw [List.toList_toArray]
        generalize hexNum (m : Int) = hx at HX hxs HH
        have hE2 : (out ++ hx ++ ⟨#[13, 10]⟩ ++ t.extract 0 m ++ ⟨#[13, 10]⟩).data.toList ++ chunkL Z (t.extract m t.size).data.toList = chunkL Z s.data.toList := by
          rw [← HE.out]
          have e3 : t.data.toList.length = t.size := by rw [Array.length_toList]; rfl
          have hne : t.data.toList ≠ [] := fun h => by rw [h] at e3; simp at e3; omega
          rw [chunkL_step Z (by omega) t.data.toList hne, e3, hmn.out, ← HH.out]
          have e1 : (t.extract 0 m).data.toList = t.data.toList.take m := by
            rw [ByteArray.data_extract, Array.toList_extract, List.extract_eq_drop_take', List.drop_zero]
          have e2 : (t.extract m t.size).data.toList = t.data.toList.drop m := by
            rw [ByteArray.data_extract, Array.toList_extract, List.extract_eq_drop_take', List.take_of_length_le (by omega)]
          simp only [ByteArray.data_append, Array.toList_append, e1, e2, List.append_assoc]
        have HE2 := Num.hide hE2
        clear hE2 HH
        go_wp2_with fail
        first | go_region_with (go_at_call 120; refine (Num.unhide HX _).mono ?_; rintro e w1 ⟨rfl, hb1⟩) | fail
        all_goals
          have HB1 := Num.hide (HB.out.drew.trans (hb1.mono hsz))
          clear hb1
          go_wp2
          go_roundw
          case rel => exact ⟨_, _, rfl, rfl, by rw [ByteArray.size_extract]; omega, HE2, HB1⟩
          case measure => simp only [ByteArray.size_extract]; omega
      · have ht0 : t = ⟨#[]⟩ := by apply ByteArray.ext; exact Array.eq_empty_of_size_eq_zero (show t.size = 0 by omega)
        subst ht0
        have he := HE.out
        rw [show (⟨#[]⟩ : ByteArray).data.toList = [] from rfl, chunkL_nil, List.append_nil] at he
        have hr := HR.out
        rw [show (Z : Int).toNat = Z from rfl, ← he] at hr
        have hr2 : out ++ ⟨#[48, 13, 10, 13, 10]⟩ = r := by rw [← hr]; apply ByteArray.ext; simp
        subst hr2
        clear he hr HR HE
        go_wp2
        go_ret
        exact ⟨rfl, HB.out⟩
end Body
end Go.Proofs.YtbajfklnekfeoaaGreatDoor
namespace Go.Proofs.YtbajfklnekfeoaaGreatDoor
open Go.RowKit
set_option linter.unusedVariables false
namespace Draw

theorem chunk_size (b : ByteArray) (hb : b.size ≤ 64) : (Body.chunk b 3).size ≤ 1349 := by
  unfold Body.chunk
  rw [if_neg (by decide)]
  have h := Body.chunkL_len 3 (by decide) b.data.toList
  have e : b.data.toList.length = b.size := by rw [Array.length_toList]; rfl
  show List.length _ ≤ _
  rw [List.length_append]
  simp only [List.length_cons, List.length_nil]
  have e3 : Int.toNat 3 = 3 := rfl
  rw [e3]
  omega
theorem four_at (s : ByteArray) (h : s.size ≤ 1000) : ∀ i, i < (#[Value.string ⟨#[]⟩, .string ⟨#[]⟩, .string ⟨#[71, 69, 84, 32, 47]⟩, .string s] : Array Value).size → ∃ x, (#[Value.string ⟨#[]⟩, .string ⟨#[]⟩, .string ⟨#[71, 69, 84, 32, 47]⟩, .string s] : Array Value)[i]? = some (.string x) ∧ x.size ≤ 1000 := by
  intro i hi
  have hi4 : i < 4 := hi
  rcases (by omega : i = 0 ∨ i = 1 ∨ i = 2 ∨ i = 3) with rfl | rfl | rfl | rfl
  · exact ⟨_, rfl, by decide⟩
  · exact ⟨_, rfl, by decide⟩
  · exact ⟨_, rfl, by decide⟩
  · exact ⟨s, rfl, h⟩
theorem shown_req (m u : ByteArray) (l : List Flds.Fld) (b : ByteArray) (hm : m.size ≤ 64) (hu : u.size ≤ 64) (hf : Few 2 l) (hb : b.size ≤ 64) : (Msg.showReq m u l b).size ≤ 1000 := by
  unfold Msg.showReq
  by_cases h : Msg.reqOk m u l b = true
  · rw [if_pos h]
    have hb6 : b.size ≤ 60 := by
      unfold Msg.reqOk at h
      rw [Bool.and_eq_true] at h
      exact of_decide_eq_true h.2
    have hd := (Msg.dec_small b.size hb6).1
    have hds : (Msg.decB b.size).size ≤ 60 := by
      unfold Flds.okF at hd
      simp only [Bool.and_eq_true, decide_eq_true_iff] at hd
      omega
    have hfr : Few 3 (Msg.framed l b) := by
      unfold Msg.framed
      refine Few.more (n := 2) ⟨?_, ?_⟩ (by decide) (by omega)
      · unfold Msg.bare
        exact Nat.le_trans (List.length_filter_le _ _) (Nat.le_trans (List.length_filter_le _ _) hf.len)
      · intro f h1
        exact hf.small f (List.mem_filter.1 (List.mem_filter.1 h1).1).1
    have hs : (Flds.shown (Msg.framed l b)).size ≤ 398 := by
      have h1 := Flds.showGo_size (Msg.framed l b)
      have h2 := hfr.sum
      have h3 := hfr.len
      unfold Flds.shown
      split
      · rw [ByteArray.size_append]
        have e : (⟨#[13, 10]⟩ : ByteArray).size = 2 := rfl
        omega
      · exact Nat.zero_le _
    unfold Msg.reqText
    simp only [ByteArray.size_append]
    have e1 : (⟨#[32]⟩ : ByteArray).size = 1 := rfl
    have e2 : (⟨#[32, 72, 84, 84, 80, 47, 49, 46, 49, 13, 10]⟩ : ByteArray).size = 11 := rfl
    omega
  · rw [if_neg h]; exact Nat.zero_le _
set_option maxRecDepth 100000 in
set_option maxHeartbeats 4000000 in
theorem drawReadReq (cap : Nat) (a : Option Addr) (l0 : List Int) (w : World) (hcode : CodeAt w.heap.size w a l0) (hl0 : l0.length ≤ 1048576) :
    Calls Tryz.prog 27 #[.slice a l0.length cap] w fun e w' => ∃ t, e = .returned (.string t) ∧ t.size ≤ 10000 ∧ Below w.heap.size w w' := by
  have HC := Num.hide hcode
  clear hcode
  go_enter Tryz.func27, Tryz.ntmps27
  go_wp2_with fail
  refine (new_at w.heap.size cap a l0 _ (Nat.le_refl _) HC.out hl0).mono ?_
  rintro e w1 ⟨C, rfl, hC, h1, b1⟩
  have HL : Hid (Live w.heap.size C w1) := ⟨_, _, _, _, h1⟩
  have hCl := h1.lt
  have HB1 := Num.hide b1
  clear h1 b1 HC
  go_wp2_with fail
  refine (req_live _ C _ HL.out).mono ?_
  rintro e w2 ⟨m, u, v, l, b, rfl, hm, hu, hv, hf, hb, hl, ho⟩
  have hal : Below w2.heap.size w2 (w2.alloc (.cells #[.string m, .string u, v, .string b] 39)) := (Below.refl _ _).alloc (Nat.le_refl _) _
  have hB2 := HB1.out.trans (ho.below hC hCl)
  have HB2 := Num.hide hB2
  have HS := Num.hide (Msg.showReq_spec m u v l b _ (Recs.own_is Flds.cells_len (Recs.own_below hv hal)) (by have := hf.bulk (by omega); omega) (by omega) (by omega) (by omega))
  have hss := shown_req m u l b hm hu hf hb
  have HBox : Hid ((w2.alloc (.cells #[.string m, .string u, v, .string b] 39)).heap[w2.heap.size]? = some (.cells #[.string m, .string u, v, .string b] 39)) := heap_alloc_new w2 _
  have HL2 := Num.hide (hl.below hal)
  have hCg : C < w2.heap.size := by have := ho.size; omega
  have hwz := hB2.size
  obtain ⟨av, cv, hvv⟩ := Recs.own_len hv
  subst hvv
  generalize Msg.showReq m u l b = s at HS hss
  have HBa := Num.hide (HB2.out.trans (hal.mono hwz))
  unfold Req.val at HS ⊢
  clear hv hf hl ho hal hB2 HL HB1 HB2
  go_upto_region 3 with fail
  generalize w2.alloc (.cells #[.string m, .string u, .slice av l.length cv, .string b] 39) = w3 at HS HBox HL2 HBa ⊢
  generalize w2.heap.size = gq at HBox hCg hwz ⊢
  have c0 := Recs.box_cell HBox.out 0
  have c1 := Recs.box_cell HBox.out 1
  have c2 := Recs.box_cell HBox.out 2
  have c3 := Recs.box_cell HBox.out 3
  simp only [List.getElem?_toArray, List.getElem?_cons_succ, List.getElem?_cons_zero] at c0 c1 c2 c3
  go_wp2_with fail
  refine HS.out.mono ?_
  rintro e w4 ⟨rfl, hb4⟩
  have hg3 : gq < w3.heap.size := Recs.lt_of_cell c0
  have HBx4 : Hid (w4.heap[gq]? = some (.cells #[.string m, .string u, .slice av l.length cv, .string b] 39)) := (hb4.block _ hg3).trans HBox.out
  have HL4 := Num.hide (HL2.out.below hb4)
  have HB4 := Num.hide (HBa.out.trans (hb4.mono HBa.out.size))
  clear hb4 c0 c1 c2 c3 HS HBox HL2 HBa
  go_wp2_with fail
  refine (below_live _ C 9 _ HL4.out (by omega) (by omega)).mono ?_
  rintro e w5 ⟨z, rfl, hz0', hz1', hl, ho⟩
  have hg4 : gq < w4.heap.size := (Array.getElem?_eq_some_iff.1 HBx4.out).1
  have HBx5 : Hid (w5.heap[gq]? = some (.cells #[.string m, .string u, .slice av l.length cv, .string b] 39)) := (ho.block _ hg4 (by omega)).trans HBx4.out
  have HB5 := Num.hide (HB4.out.trans (ho.below hC HL4.out.lt))
  have HL5 := Num.hide hl
  clear hl ho HL4 HB4 HBx4
  by_cases z0 : z = 0
  · subst z0
    go_wp2_with fail
    refine (spoil_live _ C s _ HL5.out hss).mono ?_
    rintro e w6 ⟨t, rfl, ht, hl, ho⟩
    have HB6 := Num.hide (HB5.out.trans (ho.below hC HL5.out.lt))
    clear hl ho
    go_wp2
    go_ret
    exact ⟨t, rfl, by omega, HB6.out⟩
  · have d0 : (z == 0) = false := by rw [beq_eq_false_iff_ne]; exact z0
    by_cases z1 : z = 1
    · subst z1
      go_wp2_with fail
      refine (below_live _ C ((s.size : Int) + 1) _ HL5.out (by omega) (by omega)).mono ?_
      rintro e w6 ⟨t, rfl, ht0, ht1, hl, ho⟩
      obtain ⟨k, rfl⟩ := Int.eq_ofNat_of_zero_le ht0
      have HB6 := Num.hide (HB5.out.trans (ho.below hC HL5.out.lt))
      have hk : (k : Int) ≤ (s.size : Int) := by omega
      clear hl ho
      go_wp2
      go_ret
      exact ⟨_, rfl, by rw [ByteArray.size_extract]; omega, HB6.out⟩
    · have d1 : (z == 1) = false := by rw [beq_eq_false_iff_ne]; exact z1
      by_cases z2 : z = 2
      · subst z2
        have c0 := Recs.box_cell HBx5.out 0
        have c1 := Recs.box_cell HBx5.out 1
        have c3 := Recs.box_cell HBx5.out 3
        simp only [List.getElem?_toArray, List.getElem?_cons_succ, List.getElem?_cons_zero] at c0 c1 c3
        have HCk := Num.hide (fun W => Body.chunk_spec b 3 W (by omega) (by omega))
        have hck := chunk_size b hb
        generalize Body.chunk b 3 = ck at HCk hck
        have q1 : ¬ 9223372036854775807 < m.size + 1 := by omega
        have q2 : ¬ 9223372036854775807 < m.size + 1 + u.size := by omega
        have q3 : ¬ 9223372036854775807 < m.size + 1 + u.size + 41 := by omega
        have q4 : ¬ 9223372036854775807 < m.size + 1 + u.size + 41 + ck.size := by omega
        have HS0 := Num.hide (show w5.drew.cell? ⟨gq, 0, none⟩ = some (.string m) ∧ w5.drew.cell? ⟨gq, 1, none⟩ = some (.string u) ∧ w5.drew.cell? ⟨gq, 3, none⟩ = some (.string b) ∧ Below w.heap.size w w5.drew from ⟨c0, c1, c3, HB5.out.drew⟩)
        go_wp2
        refine wp_region_held_drew (S := fun W => W.cell? ⟨gq, 0, none⟩ = some (.string m) ∧ W.cell? ⟨gq, 1, none⟩ = some (.string u) ∧ W.cell? ⟨gq, 3, none⟩ = some (.string b) ∧ Below w.heap.size w W) (by kernel_rfl) HS0.out (fun hHeld => ?_)
        refine Reg.take (i := 0) (d := 30) (v := ?_) rfl rfl (by kernel_rfl) (by kernel_rfl) (by kernel_rfl) (fun _ _ _ h => h) (by rfl) ?_ hHeld ?_
        rotate_left
        · rintro W ⟨h1, h2, h3, h4⟩
          first | (go_simp; done) | (go_simp; with_reducible rfl)
        simp only [Act.put, List.setIfInBounds_toArray, List.set_cons_zero, List.set_cons_succ]
        refine Reg.take (i := 1) (d := 31) (v := ?_) rfl rfl (by kernel_rfl) (by kernel_rfl) (by kernel_rfl) (fun _ _ _ h => h) (by rfl) ?_ hHeld ?_
        rotate_left
        · rintro W ⟨h1, h2, h3, h4⟩
          first | (go_simp; done) | (go_simp; with_reducible rfl)
        simp only [Act.put, List.setIfInBounds_toArray, List.set_cons_zero, List.set_cons_succ]
        refine Reg.take (i := 2) (d := 32) (v := ?_) rfl rfl (by kernel_rfl) (by kernel_rfl) (by kernel_rfl) (fun _ _ _ h => h) (by rfl) ?_ hHeld ?_
        rotate_left
        · rintro W ⟨h1, h2, h3, h4⟩
          first | (go_simp; done) | (go_simp; with_reducible rfl)
        simp only [Act.put, List.setIfInBounds_toArray, List.set_cons_zero, List.set_cons_succ]
        refine Reg.take (i := 3) (d := 33) (v := ?_) rfl rfl (by kernel_rfl) (by kernel_rfl) (by kernel_rfl) (fun _ _ _ h => h) (by rfl) ?_ hHeld ?_
        rotate_left
        · rintro W ⟨h1, h2, h3, h4⟩
          first | (go_simp; done) | (go_simp; with_reducible rfl)
        simp only [Act.put, List.setIfInBounds_toArray, List.set_cons_zero, List.set_cons_succ]
        refine Reg.take (i := 4) (d := 34) (v := ?_) rfl rfl (by kernel_rfl) (by kernel_rfl) (by kernel_rfl) (fun _ _ _ h => h) (by rfl) ?_ hHeld ?_
        rotate_left
        · rintro W ⟨h1, h2, h3, h4⟩
          first | (go_simp; done) | (go_simp; with_reducible rfl)
        simp only [Act.put, List.setIfInBounds_toArray, List.set_cons_zero, List.set_cons_succ]
        refine Reg.take (i := 5) (d := 35) (v := ?_) rfl rfl (by kernel_rfl) (by kernel_rfl) (by kernel_rfl) (fun _ _ _ h => h) (by rfl) ?_ hHeld ?_
        rotate_left
        · rintro W ⟨h1, h2, h3, h4⟩
          first | (go_simp; done) | (go_simp; with_reducible rfl)
        simp only [Act.put, List.setIfInBounds_toArray, List.set_cons_zero, List.set_cons_succ]
        refine Reg.take (i := 6) (d := 36) (v := ?_) rfl rfl (by kernel_rfl) (by kernel_rfl) (by kernel_rfl) (fun _ _ _ h => h) (by rfl) ?_ hHeld ?_
        rotate_left
        · rintro W ⟨h1, h2, h3, h4⟩
          first | (go_simp; done) | (go_simp; with_reducible rfl)
        simp only [Act.put, List.setIfInBounds_toArray, List.set_cons_zero, List.set_cons_succ]
        refine Reg.take (i := 7) (d := 37) (v := ?_) rfl rfl (by kernel_rfl) (by kernel_rfl) (by kernel_rfl) (fun _ _ _ h => h) (by rfl) ?_ hHeld ?_
        rotate_left
        · rintro W ⟨h1, h2, h3, h4⟩
          first | (go_simp; done) | (go_simp; with_reducible rfl)
        simp only [Act.put, List.setIfInBounds_toArray, List.set_cons_zero, List.set_cons_succ]
        refine Reg.take (i := 8) (d := 38) (v := ?_) rfl rfl (by kernel_rfl) (by kernel_rfl) (by kernel_rfl) (fun _ _ _ h => h) (by rfl) ?_ hHeld ?_
        rotate_left
        · rintro W ⟨h1, h2, h3, h4⟩
          first | (go_simp; done) | (go_simp; with_reducible rfl)
        simp only [Act.put, List.setIfInBounds_toArray, List.set_cons_zero, List.set_cons_succ]
        refine Reg.call (i := 9) rfl (by kernel_rfl) (by rfl) (fun K hK => ?_)
        go_wp2_with (first | (go_at_call 69; refine (HCk.out _).mono ?_; rintro e w6 ⟨rfl, hb6⟩))
        refine hK.out _ _ ?_ (fun hHeld2 => ?_)
        · exact ⟨(hb6.cell (p := ⟨gq, 0, none⟩) (Recs.lt_of_cell hHeld.1)).trans hHeld.1, (hb6.cell (p := ⟨gq, 1, none⟩) (Recs.lt_of_cell hHeld.1)).trans hHeld.2.1, (hb6.cell (p := ⟨gq, 3, none⟩) (Recs.lt_of_cell hHeld.1)).trans hHeld.2.2.1, hHeld.2.2.2.trans (hb6.mono hHeld.2.2.2.size)⟩
        clear hK K
        replace hHeld := hHeld2
        clear hHeld2
        refine Reg.take (i := 10) (d := 40) (v := ?_) rfl rfl (by kernel_rfl) (by kernel_rfl) (by kernel_rfl) (fun _ _ _ h => h) (by rfl) ?_ hHeld ?_
        rotate_left
        · rintro W ⟨h1, h2, h3, h4⟩
          first | (go_simp; done) | (go_simp; with_reducible rfl)
        simp only [Act.put, List.setIfInBounds_toArray, List.set_cons_zero, List.set_cons_succ]
        refine Reg.take (i := 11) (d := 2) (v := ?_) rfl rfl (by kernel_rfl) (by kernel_rfl) (by kernel_rfl) (fun _ _ _ h => h) (by rfl) ?_ hHeld ?_
        rotate_left
        · rintro W ⟨h1, h2, h3, h4⟩
          first | (go_simp; done) | (go_simp; with_reducible rfl)
        simp only [Act.put, List.setIfInBounds_toArray, List.set_cons_zero, List.set_cons_succ]
        refine wpAnyH_done (by kernel_rfl) ?_ _
        have HB6 := Num.hide hHeld.2.2.2
        clear hHeld HS0 c0 c1 c3
        go_wp2
        go_ret
        exact ⟨m ++ ⟨#[32]⟩ ++ u ++ ⟨#[32, 72, 84, 84, 80, 47, 49, 46, 49, 13, 10, 84, 114, 97, 110, 115, 102, 101, 114, 45, 69, 110, 99, 111, 100, 105, 110, 103, 58, 32, 99, 104, 117, 110, 107, 101, 100, 13, 10, 13, 10]⟩ ++ ck, rfl, by rw [ByteArray.size_append, ByteArray.size_append, ByteArray.size_append, ByteArray.size_append]; show m.size + 1 + u.size + 41 + ck.size ≤ 10000; omega, HB6.out⟩
      · have d2 : (z == 2) = false := by rw [beq_eq_false_iff_ne]; exact z2
        by_cases z3 : z = 3
        · subst z3
          go_wp2_with fail
          refine (pick_live _ C w5.heap.size _ 7 _ (HL5.out.alloc _) (by have := HL5.out.lt; omega) (heap_alloc_new w5 _) rfl (by omega) (by omega) (by decide)).mono ?_
          rintro e w6 ⟨t, rfl, ht, hl, ho⟩
          have HB6 := Num.hide ((HB5.out.alloc HB5.out.size _).trans (ho.below hC (by have := HL5.out.lt; simp; omega)))
          clear hl ho
          go_wp2
          go_ret
          exact ⟨t, rfl, by omega, HB6.out⟩
        · have d3 : (z == 3) = false := by rw [beq_eq_false_iff_ne]; exact z3
          go_wp2_with fail
          refine (pick_p (fun x => x.size ≤ 1000) _ C w5.heap.size _ 4 _ (HL5.out.alloc _) (by have := HL5.out.lt; omega) (heap_alloc_new w5 _) rfl (by omega) (by omega) (four_at s hss)).mono ?_
          rintro e w6 ⟨t, rfl, ht, hl, ho⟩
          have HB6 := Num.hide ((HB5.out.alloc HB5.out.size _).trans (ho.below hC (by have := HL5.out.lt; simp; omega)))
          clear hl ho
          go_wp2
          go_ret
          exact ⟨_, rfl, by rw [ByteArray.size_append]; omega, HB6.out⟩
end Draw
end Go.Proofs.YtbajfklnekfeoaaGreatDoor
namespace Go.Proofs.YtbajfklnekfeoaaGreatDoor
open Go.RowKit
set_option linter.unusedVariables false
namespace Msg
open Line (byteAt byteAt_eq)

set_option maxRecDepth 100000 in
set_option maxHeartbeats 1000000 in
theorem uri_impl (s : ByteArray) (w : World) (hs : s.size ≤ maxLen) : Calls Tryz.prog 96 #[.string s] w fun e w' => e = .returned (.bool (uriOk s)) ∧ w = w' := by
  unfold maxLen at hs
  obtain ⟨r, hr⟩ : ∃ r, uriOk s = r := ⟨_, rfl⟩
  rw [hr]
  by_cases h0 : s.size = 0
  · have he : s.toList.isEmpty = true := by
      have : s = ⟨#[]⟩ := ByteArray.ext (Array.eq_empty_of_size_eq_zero h0)
      rw [this, ByteArray.toList_eq]; rfl
    obtain rfl : false = r := by rw [← hr]; unfold uriOk; rw [decide_eq_false (by omega : ¬ (1 ≤ s.size ∧ s.size ≤ 20)), Bool.and_false]; rfl
    clear hr
    go_enter Tryz.func96, Tryz.ntmps96
    go_wp2
    go_ret
    exact ⟨rfl, rfl⟩
  · have he : s.toList.isEmpty = false := Sign.empty_false s (by omega)
    by_cases h20 : (20 : Int) < (s.size : Int)
    · have d20 : decide ((20 : Int) < (s.size : Int)) = true := decide_eq_true h20
      obtain rfl : false = r := by rw [← hr]; unfold uriOk; rw [decide_eq_false (by omega : ¬ (1 ≤ s.size ∧ s.size ≤ 20)), Bool.and_false]; rfl
      clear hr
      go_enter Tryz.func96, Tryz.ntmps96
      go_wp2
      go_ret
      exact ⟨rfl, rfl⟩
    · have d20 : decide ((20 : Int) < (s.size : Int)) = false := decide_eq_false h20
      have hp : 0 < s.size := by omega
      have hz : (0 : Int) < (s.size : Int) := by omega
      unfold uriOk at hr
      rw [decide_eq_true (by omega : 1 ≤ s.size ∧ s.size ≤ 20), Bool.and_true, byteAt_eq s 0 hp] at hr
      by_cases h47 : (s[0]).toNat = 47
      · rw [decide_eq_true h47, Bool.and_true] at hr
        have d47 : (((s[0]).toNat : Int) != 47) = false := by rw [h47]; rfl
        have HR := Num.hide hr
        clear hr h47
        go_enter Tryz.func96, Tryz.ntmps96
        go_wp2
        go_loop [18] (fun iv => ∃ k : Nat, k ≤ s.size ∧ iv = .int .i64 (k : Int) ∧ Hid ((s.data.toList.take k).all uriB = true)) (fun iv => s.size - (intOf iv).toNat)
        case atStart => exact ⟨0, by omega, rfl, by show _ = _; simp⟩
        case round =>
          obtain ⟨k, hk, rfl, HA⟩ := hrel
          by_cases hlt : k < s.size
          · have hc := s[k].toNat_lt
            have HT := Num.hide (Sign.all_take s uriB k hlt)
            have HN := Num.hide (fun h => Sign.not_all s uriB k hlt h)
            by_cases h1 : (s[k].toNat : Int) < 33
            · obtain rfl : r = false := by rw [← HR.out]; exact HN.out (decide_eq_false (by omega))
              clear HR HA HT HN
              go_wp2
              all_goals go_ret
              all_goals exact ⟨rfl, rfl⟩
            · have d1 : decide ((s[k].toNat : Int) < 33) = false := decide_eq_false h1
              by_cases h2 : 126 < (s[k].toNat : Int)
              · obtain rfl : r = false := by rw [← HR.out]; exact HN.out (decide_eq_false (by omega))
                clear HR HA HT HN
                go_wp2
                all_goals go_ret
                all_goals exact ⟨rfl, rfl⟩
              · have d2 : decide (126 < (s[k].toNat : Int)) = false := decide_eq_false h2
                have HA2 : Hid ((s.data.toList.take (k + 1)).all uriB = true) := by
                  show _ = _; rw [HT.out, HA.out, Bool.true_and]; exact decide_eq_true (by omega)
                clear HA HT HN
                go_wp2
                all_goals go_round
                case rel => exact ⟨k + 1, by omega, by go_num, HA2⟩
                case measure => simp [intOf]; omega
          · obtain rfl : k = s.size := by omega
            obtain rfl : r = true := by rw [← HR.out]; exact Sign.all_full s uriB HA.out
            clear HA HR
            go_wp2
            go_ret
            exact ⟨rfl, rfl⟩
      · obtain rfl : false = r := by rw [← hr, decide_eq_false h47, Bool.and_false]
        have d47 : (((s[0]).toNat : Int) != 47) = true := by rw [bne_iff_ne]; omega
        clear hr h47
        go_enter Tryz.func96, Tryz.ntmps96
        go_wp2
        go_ret
        exact ⟨rfl, rfl⟩
theorem uri_impl_b (s : ByteArray) (w : World) (hs : s.size ≤ maxLen) : Calls Tryz.prog 96 #[.string s] w fun e w' => e = .returned (.bool (uriOk s)) ∧ Below w.heap.size w w' :=
  (uri_impl s w hs).mono (fun _ _ h => ⟨h.1, h.2 ▸ Below.refl _ _⟩)
end Msg
end Go.Proofs.YtbajfklnekfeoaaGreatDoor
