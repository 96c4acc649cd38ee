/-
  AgeAtSpec: AgeAt of the specification.
  CcSecSpec: CcSeconds of the specification.
  LifeSpec: Lifetime of the specification.
  MustSpec: MustCheck of the specification.
  MustLaw: FnExactMustCheck, whatever the program's MustCheck keeps to: it answers as the specification's and leaves its arguments as they were.
-/
import Derived.Test.YtjeokackmkfooaaGreatDoorPat
import Derived.Test.YtjeokackmkfooaaGreatDoorPai
import Derived.Test.YtjeokackmkfooaaGreatDoorPac
import Derived.Test.YtjeokackmkfooaaGreatDoorPad
import Derived.Test.YtjeokackmkfooaaGreatDoorPah
import Derived.Deep.Cut
import Derived.Test.YtjeokackmkfooaaGreatDoorPak
import Derived.Test.YtjeokackmkfooaaGreatDoorPaj
import Derived.Test.YtjeokackmkfooaaGreatDoorRegLaw
namespace Go.Proofs.YtjeokackmkfooaaGreatDoor
open Go.RowKit
set_option linter.unusedVariables false
namespace Age
open Flds (Fld ret_int)

set_option maxRecDepth 100000 in
set_option maxHeartbeats 2000000 in
theorem ageAt_spec (st : Int) (v : Value) (l : List Fld) (b : ByteArray) (asked came now : Int) (w : World) (h : Flds.Is w v l) (hl : Flds.bulk l ≤ 1048576) (hcm : came ≤ 9223372036854775807) (hnw : now ≤ 9223372036854775807) :
    Calls Tryz.prog 38 #[Resp.val st v b, .int .i64 asked, .int .i64 came, .int .i64 now] w fun e w' => e = .returned (.int .i64 (ageAt l asked came now)) ∧ Below w.heap.size w w' := by
  have hb0 : Below w.heap.size w (w.alloc (.cells #[.int .i64 st, v, .string b] 28)) := (Below.refl _ _).alloc (Nat.le_refl _) _
  have HV0 := Num.hide (Recs.is_below h hb0)
  obtain ⟨av, cv, rfl, _⟩ := Flds.is_form h
  have HX0 : Hid ((w.alloc (.cells #[.int .i64 st, .slice av l.length cv, .string b] 28)).heap[w.heap.size]? = some (.cells #[.int .i64 st, .slice av l.length cv, .string b] 28)) := heap_alloc_new w _
  have HB0 := Num.hide hb0
  have HF := Num.hide (firstAge_spec st _ l b asked came _ HV0.out hl hcm)
  obtain ⟨r, hr⟩ : ∃ r, ageAt l asked came now = r := ⟨_, rfl⟩
  rw [hr]
  unfold ageAt at hr
  obtain ⟨Hr, hHr⟩ : ∃ Hr, here came now = Hr := ⟨_, rfl⟩
  rw [hHr] at hr
  unfold here at hHr
  generalize firstAge l asked came = A at HF hr
  have HS := Num.hide (fun W => satAdd_spec A Hr W)
  rw [hr] at HS
  have HH := Num.hide hHr
  unfold Resp.val at HF ⊢
  clear h hb0 hr hHr HV0
  go_enter Tryz.func38, Tryz.ntmps38
  go_upto_region 2 with fail
  obtain ⟨Q, hQ⟩ : ∃ Q, (decide (came < now) && decide (0 ≤ came)) = Q := ⟨_, rfl⟩
  have HQ := Num.hide hQ
  have HQf : Hid (Q = false → Hr = 0) := fun h => by
    rw [← HH.out, if_neg]
    rintro ⟨e1, e2⟩
    rw [← hQ, decide_eq_true e1, decide_eq_true e2] at h; cases h
  have HQt : Hid (Q = true → came < now ∧ 0 ≤ came ∧ Hr = now - came) := fun h => by
    rw [← hQ, Bool.and_eq_true, decide_eq_true_iff, decide_eq_true_iff] at h
    exact ⟨h.1, h.2, by rw [← HH.out, if_pos h]⟩
  clear hQ HH
  generalize hW : w.alloc (.cells #[.int .i64 st, .slice av l.length cv, .string b] 28) = w1 at HX0 HB0 HF ⊢
  clear hW
  go_cut [16] from 10 (fun v wx => v = .bool Q ∧ wx = w1)
  case first =>
    by_cases h1 : came < now
    · have d1 : decide (came < now) = true := decide_eq_true h1
      by_cases h2 : 0 ≤ came
      · have d2 : decide (0 ≤ came) = true := decide_eq_true h2
        obtain rfl : Q = true := by rw [← HQ.out, d1, d2]; rfl
        clear HQ HQf HQt
        go_wp2
        go_meet
        case rel => exact ⟨rfl, rfl⟩
      · have d2 : decide (0 ≤ came) = false := decide_eq_false h2
        obtain rfl : Q = false := by rw [← HQ.out, d1, d2]; rfl
        clear HQ HQf HQt
        go_wp2
        go_meet
        case rel => exact ⟨rfl, rfl⟩
    · have d1 : decide (came < now) = false := decide_eq_false h1
      obtain rfl : Q = false := by rw [← HQ.out, d1]; rfl
      clear HQ HQf HQt
      go_wp2
      go_meet
      case rel => exact ⟨rfl, rfl⟩
  case rest =>
  obtain ⟨rfl, rfl⟩ := hcut
  clear HQ
  go_upto_if 16 with fail
  go_cut [9] from 10 (fun v wx => v = .int .i64 Hr ∧ wx = wc)
  case first =>
    cases Q with
    | false =>
      obtain rfl := HQf.out rfl
      clear HQf HQt HS
      go_wp2
      go_meet
      case rel => exact ⟨rfl, rfl⟩
    | true =>
      obtain ⟨h1, h2, rfl⟩ := HQt.out rfl
      clear HQf HQt HS
      go_wp2
      go_meet
      case rel => exact ⟨rfl, rfl⟩
  case rest =>
  obtain ⟨rfl, rfl⟩ := hcut
  clear HQf HQt
  have c0 := Recs.box_cell HX0.out 0
  have c1 := Recs.box_cell HX0.out 1
  have c2 := Recs.box_cell HX0.out 2
  simp only [List.getElem?_toArray, List.getElem?_cons_succ, List.getElem?_cons_zero] at c0 c1 c2
  go_wp2_with fail
  refine HF.out.mono ?_
  rintro e w2 ⟨rfl, hb⟩
  have HB2 := Num.hide (HB0.out.trans (hb.mono HB0.out.size))
  clear hb c0 c1 c2 HX0 HB0 HF
  go_wp2_with fail
  refine (HS.out _).mono ?_
  rintro e w3 ⟨rfl, rfl⟩
  go_wp2
  go_ret
  exact ⟨rfl, HB2.out⟩
end Age
end Go.Proofs.YtjeokackmkfooaaGreatDoor
namespace Go.Proofs.YtjeokackmkfooaaGreatDoor
open Go.RowKit
set_option linter.unusedVariables false
namespace Cc
open Flds (Fld text_ne')

set_option maxRecDepth 100000 in
set_option maxHeartbeats 2000000 in
theorem sec_spec (v : Value) (l : List Fld) (name : ByteArray) (w : World) (h : Flds.Is w v l) (hl : Flds.bulk l ≤ 1048576) :
    Calls Tryz.prog 40 #[v, .string name] w fun e w' => e = .returned (.tuple #[.int .i64 (sec (dirs l) name).1, .bool (sec (dirs l) name).2]) ∧ Below w.heap.size w w' := by
  have hlen := dirs_len l
  have hsm := dirs_small l
  have HDi := Num.hide (dirs_spec v l w h hl)
  obtain ⟨d, hd⟩ : ∃ d, dirs l = d := ⟨_, rfl⟩
  rw [hd] at hlen hsm HDi ⊢
  obtain ⟨r, hr⟩ : ∃ r, sec d name = r := ⟨_, rfl⟩
  rw [hr]
  rw [sec_best] at hr
  have HR := Num.hide hr
  have HZ := Num.hide hsm
  clear h hd hr hsm
  go_enter Tryz.func40, Tryz.ntmps40
  go_wp2_with fail
  refine HDi.out.mono ?_
  rintro e w1 ⟨dv, rfl, ho, hb⟩
  obtain ⟨da, dc, rfl, h2⟩ := Flds.is_form (Recs.own_is Flds.cells_len ho)
  have HA := Num.hide h2
  have HB := Num.hide hb
  clear ho hb h2 HDi
  go_wp2
  go_loop [7, 8, 9] (fun bv ov iv => ∃ i : Nat, i ≤ d.length ∧ iv = .int .i64 (i : Int) ∧ ∃ (b : Int) (o : Bool), bv = .int .i64 b ∧ ov = .bool o ∧ Hid (best (d.take i) name = (b, o))) (fun _ _ iv => d.length - (intOf iv).toNat)
  case atStart => exact ⟨0, by omega, rfl, _, _, rfl, rfl, rfl⟩
  case round =>
    obtain ⟨i, hi, rfl, b, o, rfl, rfl, HF⟩ := hrel
    by_cases hlt : i < d.length
    · obtain ⟨bk, ob, rfl, hc, hmx, hblt, hcell⟩ := HA.out (by omega)
      obtain ⟨c1, c2⟩ := hcell i hlt
      have HT := Num.hide (best_take d name i hlt)
      have hz := HZ.out d[i] (List.getElem_mem hlt)
      clear hcell
      generalize d[i] = f at c1 c2 HT hz
      obtain ⟨x, y⟩ := f
      simp only at c1 c2 hz
      by_cases he : x = name
      · subst he
        have HS := Num.hide (fun W => Sign.seconds_spec y W (by unfold maxLen; omega))
        have HF2 : Hid (best (d.take (i + 1)) x = (min b (Sign.secs y).1, true)) := by
          show _ = _
          rw [HT.out, HF.out, if_pos rfl]
        clear HT HF
        generalize Sign.secs y = sc at HS HF2
        obtain ⟨n, bn⟩ := sc
        simp only at HS HF2
        have HF3 : Hid (best (d.take (i + 1)) x = (if n < b then n else b, true)) := by
          show _ = _
          rw [HF2.out, show min b n = if n < b then n else b by split <;> omega]
        go_wp2_with fail
        refine (HS.out _).mono ?_
        rintro e w2 ⟨rfl, rfl⟩
        go_wp2
        go_round
        case rel => first | exact ⟨i + 1, by omega, by go_num, _, _, rfl, rfl, HF3⟩ | exact ⟨i + 1, by omega, by go_num, _, _, rfl, rfl, HF2⟩
        case measure => simp [intOf]; omega
      · have d' := text_ne' he
        have HF2 : Hid (best (d.take (i + 1)) name = (b, o)) := by
          show _ = _
          rw [HT.out, if_neg he]; exact HF.out
        clear he
        go_wp2
        go_round
        case rel => exact ⟨i + 1, by omega, by go_num, _, _, rfl, rfl, HF2⟩
        case measure => simp [intOf]; omega
    · obtain rfl : i = d.length := by omega
      have hf := HF.out
      rw [List.take_length] at hf
      have hr := HR.out
      rw [hf] at hr
      clear hf HF
      cases o with
      | false =>
        subst hr
        go_wp2
        go_ret2
        exact ⟨rfl, HB.out⟩
      | true =>
        subst hr
        go_wp2
        go_ret2
        exact ⟨rfl, HB.out⟩
end Cc
end Go.Proofs.YtjeokackmkfooaaGreatDoor
namespace Go.Proofs.YtjeokackmkfooaaGreatDoor
open Go.RowKit
set_option linter.unusedVariables false
namespace Age
open Flds (Fld ret_int)

/-- the answer's box, and what was there stays -/
structure LAt (w : World) (st : Int) (v : Value) (l : List Fld) (b : ByteArray) (W : World) : Prop where
  box : W.heap[w.heap.size]? = some (.cells #[.int .i64 st, v, .string b] 28)
  is : Flds.Is W v l
  below : Below w.heap.size w W
theorem LAt.step {w : World} {st : Int} {v : Value} {l : List Fld} {b : ByteArray} {W W' : World} (h : LAt w st v l b W) (hb : Below W.heap.size W W') : LAt w st v l b W' :=
  ⟨row_stays h.box hb, Recs.is_below h.is hb, h.below.trans (hb.mono h.below.size)⟩
theorem LAt.cell {w : World} {st : Int} {v : Value} {l : List Fld} {b : ByteArray} {W : World} (h : LAt w st v l b W) : W.cell? ⟨w.heap.size, 1, none⟩ = some v := by
  have c := Recs.box_cell h.box 1
  simpa using c
set_option maxRecDepth 100000 in
set_option maxHeartbeats 4000000 in
theorem lifetime_spec (st : Int) (v : Value) (l : List Fld) (b : ByteArray) (w : World) (h : Flds.Is w v l) (hl : Flds.bulk l ≤ 1048576) :
    Calls Tryz.prog 39 #[Resp.val st v b] w fun e w' => e = .returned (.int .i64 (lifetime l)) ∧ Below w.heap.size w w' := by
  have hb0 : Below w.heap.size w (w.alloc (.cells #[.int .i64 st, v, .string b] 28)) := (Below.refl _ _).alloc (Nat.le_refl _) _
  have HL0 : Hid (LAt w st v l b (w.alloc (.cells #[.int .i64 st, v, .string b] 28))) := ⟨heap_alloc_new w _, Recs.is_below h hb0, hb0⟩
  obtain ⟨av, cv, rfl, _⟩ := Flds.is_form h
  have HSm := Num.hide (fun W h => Cc.sec_spec (.slice av l.length cv) l sMaxAge W h hl)
  have HMa := Num.hide (fun W h => Cc.sec_spec (.slice av l.length cv) l maxAge W h hl)
  have HGe := Num.hide (fun W h => Flds.get_spec_b (.slice av l.length cv) l expiresName W h (by omega))
  have HDd := Num.hide (fun W h => dateOf_spec (.slice av l.length cv) l dateName W h hl)
  have HDe := Num.hide (fun W h => dateOf_spec (.slice av l.length cv) l expiresName W h hl)
  have HDl := Num.hide (fun W h => dateOf_spec (.slice av l.length cv) l lastName W h hl)
  have b1 := dateOf_bd l dateName
  have b2 := dateOf_bd l expiresName
  have b3 := dateOf_bd l lastName
  obtain ⟨r, hr⟩ : ∃ r, lifetime l = r := ⟨_, rfl⟩
  rw [hr]
  unfold lifetime at hr
  generalize Cc.sec (Cc.dirs l) sMaxAge = S at HSm hr
  generalize Cc.sec (Cc.dirs l) maxAge = M at HMa hr
  generalize Flds.get l expiresName = E at HGe hr
  generalize dateOf l dateName = D at HDd hr b1
  generalize dateOf l expiresName = X at HDe hr b2
  generalize dateOf l lastName = Y at HDl hr b3
  obtain ⟨S1, S2⟩ := S
  obtain ⟨M1, M2⟩ := M
  obtain ⟨E1, E2⟩ := E
  obtain ⟨D1, D2⟩ := D
  obtain ⟨X1, X2⟩ := X
  obtain ⟨Y1, Y2⟩ := Y
  simp only at HSm HMa HGe HDd HDe HDl hr b1 b2 b3
  have HR := Num.hide hr
  unfold Resp.val
  clear h hb0 hr
  go_enter Tryz.func39, Tryz.ntmps39
  go_upto_region 1 with fail
  generalize w.alloc (.cells #[.int .i64 st, .slice av l.length cv, .string b] 28) = w0 at HL0 ⊢
  have c1 := HL0.out.cell
  go_wp2_with fail
  refine (HSm.out _ HL0.out.is).mono ?_
  rintro e w1 ⟨rfl, hb⟩
  have HL1 := Num.hide (HL0.out.step hb)
  clear hb c1 HL0 HSm
  cases S2 with
  | true =>
    obtain rfl : S1 = r := by have := HR.out; simpa using this
    have HB := Num.hide HL1.out.below
    clear HL1
    go_wp2
    go_ret
    exact ⟨rfl, HB.out⟩
  | false =>
  have hr := HR.out
  rw [if_neg (by simp)] at hr
  clear HR
  have HR := Num.hide hr
  clear hr
  have c1 := HL1.out.cell
  go_wp2_with fail
  refine (HMa.out _ HL1.out.is).mono ?_
  rintro e w2 ⟨rfl, hb⟩
  have HL2 := Num.hide (HL1.out.step hb)
  clear hb c1 HL1 HMa
  cases M2 with
  | true =>
    obtain rfl : M1 = r := by have := HR.out; simpa using this
    have HB := Num.hide HL2.out.below
    clear HL2
    go_wp2
    go_ret
    exact ⟨rfl, HB.out⟩
  | false =>
  have hr := HR.out
  rw [if_neg (by simp)] at hr
  clear HR
  have HR := Num.hide hr
  clear hr
  have c1 := HL2.out.cell
  go_wp2_with fail
  refine (HDd.out _ HL2.out.is).mono ?_
  rintro e w3 ⟨rfl, hb⟩
  have HL3 := Num.hide (HL2.out.step hb)
  clear hb c1 HL2 HDd
  have c1 := HL3.out.cell
  go_wp2_with fail
  refine (HGe.out _ HL3.out.is).mono ?_
  rintro e w4 ⟨rfl, hb⟩
  have HL4 := Num.hide (HL3.out.step hb)
  clear hb c1 HL3 HGe
  have c1 := HL4.out.cell
  cases E2 with
  | true =>
    have hr := HR.out
    rw [if_pos rfl] at hr
    clear HR
    have HR := Num.hide hr
    clear hr
    go_wp2_with fail
    refine (HDe.out _ HL4.out.is).mono ?_
    rintro e w5 ⟨rfl, hb⟩
    have HB := Num.hide (HL4.out.step hb).below
    clear hb c1 HL4 HDe
    cases X2 with
    | false =>
      obtain rfl : r = 0 := by rw [← HR.out, if_neg (by simp)]
      go_wp2
      go_ret
      exact ⟨rfl, HB.out⟩
    | true =>
      cases D2 with
      | false =>
        obtain rfl : r = 0 := by rw [← HR.out, if_neg (by simp)]
        go_wp2
        go_ret
        exact ⟨rfl, HB.out⟩
      | true =>
        have hr := HR.out
        rw [if_pos ⟨rfl, rfl⟩] at hr
        by_cases hlt : 0 < X1 - D1
        · obtain rfl : r = X1 - D1 := by omega
          clear HR hr
          go_wp2
          all_goals go_ret
          all_goals exact ⟨ret_int (by omega), HB.out⟩
        · obtain rfl : r = 0 := by omega
          clear HR hr
          go_wp2
          all_goals go_ret
          all_goals exact ⟨ret_int (by omega), HB.out⟩
  | false =>
    have hr := HR.out
    rw [if_neg (by simp)] at hr
    clear HR
    have HR := Num.hide hr
    clear hr
    go_wp2_with fail
    refine (HDl.out _ HL4.out.is).mono ?_
    rintro e w5 ⟨rfl, hb⟩
    have HB := Num.hide (HL4.out.step hb).below
    clear hb c1 HL4 HDl
    cases D2 with
    | false =>
      obtain rfl : r = 0 := by rw [← HR.out, if_neg (by simp)]
      go_wp2
      go_ret
      exact ⟨rfl, HB.out⟩
    | true =>
      cases Y2 with
      | false =>
        obtain rfl : r = 0 := by rw [← HR.out, if_neg (by simp)]
        go_wp2
        go_ret
        exact ⟨rfl, HB.out⟩
      | true =>
        have hr := HR.out
        rw [if_pos ⟨rfl, rfl⟩] at hr
        by_cases hlt : 0 < D1 - Y1
        · obtain rfl : r = (D1 - Y1) / 10 := by rw [← hr]; congr 1; omega
          clear HR hr
          go_wp2
          all_goals go_ret
          all_goals exact ⟨ret_int (by omega), HB.out⟩
        · obtain rfl : r = 0 := by rw [← hr]; omega
          clear HR hr
          go_wp2
          all_goals go_ret
          all_goals exact ⟨ret_int (by omega), HB.out⟩
end Age
end Go.Proofs.YtjeokackmkfooaaGreatDoor
namespace Go.Proofs.YtjeokackmkfooaaGreatDoor
open Go.RowKit
set_option linter.unusedVariables false
set_option linter.unusedSimpArgs false
namespace Pol
open Flds (Fld ret_int)

set_option maxRecDepth 100000 in
set_option maxHeartbeats 8000000 in
theorem mustCheck_spec (m u : ByteArray) (st : Int) (v1 v2 : Value) (l1 l2 : List Fld) (b1 b2 : ByteArray) (asked came now : Int) (w : World) (h1 : Flds.Is w v1 l1) (h2 : Flds.Is w v2 l2) (hl1 : Flds.bulk l1 ≤ 1048576) (hl2 : Flds.bulk l2 ≤ 1048576) (hcm : came ≤ 9223372036854775807) (hnw : now ≤ 9223372036854775807) :
    Calls Tryz.prog 20 #[Req.val m u v1 b1, Resp.val st v2 b2, .int .i64 asked, .int .i64 came, .int .i64 now] w fun e w' => e = .returned (.bool (mustCheck l1 l2 asked came now)) ∧ Below w.heap.size w w' := by
  have K0 := Num.hide (pat_first w m u v1 l1 b1 st v2 l2 b2 h1 h2)
  have HA := Num.hide (fun W h => Cc.has_spec v1 l1 noCache W h hl1)
  have HB0 := Num.hide (fun W h => Cc.has_spec v2 l2 noCache W h hl2)
  have HO := Num.hide (fun W h => Cc.sec_spec v1 l1 Age.maxAge W h hl1)
  have HF := Num.hide (fun W h => Cc.sec_spec v1 l1 minFresh W h hl1)
  have HG := Num.hide (fun W h => Age.ageAt_spec st v2 l2 b2 asked came now W h hl2 hcm hnw)
  have HL := Num.hide (fun W h => Age.lifetime_spec st v2 l2 b2 W h hl2)
  obtain ⟨av1, cv1, rfl, _⟩ := Flds.is_form h1
  obtain ⟨av2, cv2, rfl, _⟩ := Flds.is_form h2
  obtain ⟨r, hr⟩ : ∃ r, mustCheck l1 l2 asked came now = r := ⟨_, rfl⟩
  rw [hr]
  unfold mustCheck tooOld tooStale said at hr
  generalize Cc.has (Cc.dirs l1) noCache = A at HA hr
  generalize Cc.has (Cc.dirs l2) noCache = B at HB0 hr
  generalize Cc.sec (Cc.dirs l1) Age.maxAge = O at HO hr
  generalize Cc.sec (Cc.dirs l1) minFresh = F at HF hr
  generalize Age.ageAt l2 asked came now = G at HG hr
  generalize Age.lifetime l2 = L at HL hr
  obtain ⟨O1, O2⟩ := O
  obtain ⟨F1, F2⟩ := F
  simp only at HO HF hr
  have HS := Num.hide (fun W => Age.satAdd_spec G F1 W)
  generalize Age.satAdd G F1 = S at HS hr
  have HR := Num.hide hr
  unfold Resp.val at HG HL
  unfold Req.val Resp.val
  clear h1 h2 hr
  go_enter Tryz.func20, Tryz.ntmps20
  go_upto_region 1 with fail
  generalize (w.alloc (.cells #[.string m, .string u, .slice av1 l1.length cv1, .string b1] 26)).alloc (.cells #[.int .i64 st, .slice av2 l2.length cv2, .string b2] 28) = w0 at K0 ⊢
  obtain ⟨c0, c1, c2, c3, c4, c5, c6, -, -, -⟩ := K0.out
  go_wp2_with fail
  refine (HA.out _ K0.out.2.2.2.2.2.2.2.1).mono ?_
  rintro e wx1 ⟨rfl, hb⟩
  have K1 := Num.hide (PAt.step K0.out hb)
  clear hb c0 c1 c2 c3 c4 c5 c6
  cases A with
  | true =>
    obtain rfl : r = true := by rw [← HR.out]; simp [*]
    have HBl := Num.hide (K1.out.2.2.2.2.2.2.2.2.2)
    obtain ⟨c0, c1, c2, c3, c4, c5, c6, -, -, -⟩ := K1.out
    clear HR K1
    go_wp2
    go_ret
    exact ⟨rfl, HBl.out⟩
  | false =>
  obtain ⟨c0, c1, c2, c3, c4, c5, c6, -, -, -⟩ := K1.out
  go_wp2_with fail
  refine (HB0.out _ K1.out.2.2.2.2.2.2.2.2.1).mono ?_
  rintro e wx2 ⟨rfl, hb⟩
  have K2 := Num.hide (PAt.step K1.out hb)
  clear hb c0 c1 c2 c3 c4 c5 c6
  cases B with
  | true =>
    obtain rfl : r = true := by rw [← HR.out]; simp [*]
    have HBl := Num.hide (K2.out.2.2.2.2.2.2.2.2.2)
    obtain ⟨c0, c1, c2, c3, c4, c5, c6, -, -, -⟩ := K2.out
    clear HR K2
    go_wp2
    go_ret
    exact ⟨rfl, HBl.out⟩
  | false =>
  obtain ⟨c0, c1, c2, c3, c4, c5, c6, -, -, -⟩ := K2.out
  go_wp2_with fail
  refine (HG.out _ K2.out.2.2.2.2.2.2.2.2.1).mono ?_
  rintro e wx3 ⟨rfl, hb⟩
  have K3 := Num.hide (PAt.step K2.out hb)
  clear hb c0 c1 c2 c3 c4 c5 c6
  obtain ⟨c0, c1, c2, c3, c4, c5, c6, -, -, -⟩ := K3.out
  go_wp2_with fail
  refine (HL.out _ K3.out.2.2.2.2.2.2.2.2.1).mono ?_
  rintro e wx4 ⟨rfl, hb⟩
  have K4 := Num.hide (PAt.step K3.out hb)
  clear hb c0 c1 c2 c3 c4 c5 c6
  obtain ⟨c0, c1, c2, c3, c4, c5, c6, -, -, -⟩ := K4.out
  go_wp2_with fail
  refine (HO.out _ K4.out.2.2.2.2.2.2.2.1).mono ?_
  rintro e wx5 ⟨rfl, hb⟩
  have K5 := Num.hide (PAt.step K4.out hb)
  clear hb c0 c1 c2 c3 c4 c5 c6
  cases O2 with
  | false =>
    obtain ⟨c0, c1, c2, c3, c4, c5, c6, -, -, -⟩ := K5.out
    go_wp2_with fail
    refine (HF.out _ K5.out.2.2.2.2.2.2.2.1).mono ?_
    rintro e wx6 ⟨rfl, hb⟩
    have K6 := Num.hide (PAt.step K5.out hb)
    clear hb c0 c1 c2 c3 c4 c5 c6
    cases F2 with
    | false =>
      by_cases h3 : L ≤ G
      · have d3 : decide (L ≤ G) = true := decide_eq_true h3
        obtain rfl : r = true := by rw [← HR.out]; simp [*]
        have HBl := Num.hide (K6.out.2.2.2.2.2.2.2.2.2)
        obtain ⟨c0, c1, c2, c3, c4, c5, c6, -, -, -⟩ := K6.out
        clear HR K6
        go_wp2
        go_ret
        exact ⟨rfl, HBl.out⟩
      · have d3 : decide (L ≤ G) = false := decide_eq_false h3
        obtain rfl : r = false := by rw [← HR.out]; simp [*]
        have HBl := Num.hide (K6.out.2.2.2.2.2.2.2.2.2)
        obtain ⟨c0, c1, c2, c3, c4, c5, c6, -, -, -⟩ := K6.out
        clear HR K6
        go_wp2
        go_ret
        exact ⟨rfl, HBl.out⟩
    | true =>
      obtain ⟨c0, c1, c2, c3, c4, c5, c6, -, -, -⟩ := K6.out
      go_wp2_with fail
      refine (HS.out _).mono ?_
      rintro e wz ⟨rfl, rfl⟩
      clear c0 c1 c2 c3 c4 c5 c6
      by_cases h2 : L < S
      · have d2 : decide (L < S) = true := decide_eq_true h2
        obtain rfl : r = true := by rw [← HR.out]; simp [*]
        have HBl := Num.hide (K6.out.2.2.2.2.2.2.2.2.2)
        obtain ⟨c0, c1, c2, c3, c4, c5, c6, -, -, -⟩ := K6.out
        clear HR K6
        go_wp2
        go_ret
        exact ⟨rfl, HBl.out⟩
      · have d2 : decide (L < S) = false := decide_eq_false h2
        by_cases h3 : L ≤ G
        · have d3 : decide (L ≤ G) = true := decide_eq_true h3
          obtain rfl : r = true := by rw [← HR.out]; simp [*]
          have HBl := Num.hide (K6.out.2.2.2.2.2.2.2.2.2)
          obtain ⟨c0, c1, c2, c3, c4, c5, c6, -, -, -⟩ := K6.out
          clear HR K6
          go_wp2
          go_ret
          exact ⟨rfl, HBl.out⟩
        · have d3 : decide (L ≤ G) = false := decide_eq_false h3
          obtain rfl : r = false := by rw [← HR.out]; simp [*]
          have HBl := Num.hide (K6.out.2.2.2.2.2.2.2.2.2)
          obtain ⟨c0, c1, c2, c3, c4, c5, c6, -, -, -⟩ := K6.out
          clear HR K6
          go_wp2
          go_ret
          exact ⟨rfl, HBl.out⟩
  | true =>
    by_cases h1 : O1 < G
    · have d1 : decide (O1 < G) = true := decide_eq_true h1
      obtain rfl : r = true := by rw [← HR.out]; simp [*]
      have HBl := Num.hide (K5.out.2.2.2.2.2.2.2.2.2)
      obtain ⟨c0, c1, c2, c3, c4, c5, c6, -, -, -⟩ := K5.out
      clear HR K5
      go_wp2
      go_ret
      exact ⟨rfl, HBl.out⟩
    · have d1 : decide (O1 < G) = false := decide_eq_false h1
      obtain ⟨c0, c1, c2, c3, c4, c5, c6, -, -, -⟩ := K5.out
      go_wp2_with fail
      refine (HF.out _ K5.out.2.2.2.2.2.2.2.1).mono ?_
      rintro e wx7 ⟨rfl, hb⟩
      have K7 := Num.hide (PAt.step K5.out hb)
      clear hb c0 c1 c2 c3 c4 c5 c6
      cases F2 with
      | false =>
        by_cases h3 : L ≤ G
        · have d3 : decide (L ≤ G) = true := decide_eq_true h3
          obtain rfl : r = true := by rw [← HR.out]; simp [*]
          have HBl := Num.hide (K7.out.2.2.2.2.2.2.2.2.2)
          obtain ⟨c0, c1, c2, c3, c4, c5, c6, -, -, -⟩ := K7.out
          clear HR K7
          go_wp2
          go_ret
          exact ⟨rfl, HBl.out⟩
        · have d3 : decide (L ≤ G) = false := decide_eq_false h3
          obtain rfl : r = false := by rw [← HR.out]; simp [*]
          have HBl := Num.hide (K7.out.2.2.2.2.2.2.2.2.2)
          obtain ⟨c0, c1, c2, c3, c4, c5, c6, -, -, -⟩ := K7.out
          clear HR K7
          go_wp2
          go_ret
          exact ⟨rfl, HBl.out⟩
      | true =>
        obtain ⟨c0, c1, c2, c3, c4, c5, c6, -, -, -⟩ := K7.out
        go_wp2_with fail
        refine (HS.out _).mono ?_
        rintro e wz ⟨rfl, rfl⟩
        clear c0 c1 c2 c3 c4 c5 c6
        by_cases h2 : L < S
        · have d2 : decide (L < S) = true := decide_eq_true h2
          obtain rfl : r = true := by rw [← HR.out]; simp [*]
          have HBl := Num.hide (K7.out.2.2.2.2.2.2.2.2.2)
          obtain ⟨c0, c1, c2, c3, c4, c5, c6, -, -, -⟩ := K7.out
          clear HR K7
          go_wp2
          go_ret
          exact ⟨rfl, HBl.out⟩
        · have d2 : decide (L < S) = false := decide_eq_false h2
          by_cases h3 : L ≤ G
          · have d3 : decide (L ≤ G) = true := decide_eq_true h3
            obtain rfl : r = true := by rw [← HR.out]; simp [*]
            have HBl := Num.hide (K7.out.2.2.2.2.2.2.2.2.2)
            obtain ⟨c0, c1, c2, c3, c4, c5, c6, -, -, -⟩ := K7.out
            clear HR K7
            go_wp2
            go_ret
            exact ⟨rfl, HBl.out⟩
          · have d3 : decide (L ≤ G) = false := decide_eq_false h3
            obtain rfl : r = false := by rw [← HR.out]; simp [*]
            have HBl := Num.hide (K7.out.2.2.2.2.2.2.2.2.2)
            obtain ⟨c0, c1, c2, c3, c4, c5, c6, -, -, -⟩ := K7.out
            clear HR K7
            go_wp2
            go_ret
            exact ⟨rfl, HBl.out⟩
end Pol
end Go.Proofs.YtjeokackmkfooaaGreatDoor
namespace Go.Proofs.YtjeokackmkfooaaGreatDoor
open Go.RowKit
set_option linter.unusedVariables false
set_option linter.unusedSimpArgs false
namespace Pol

/-- the boxes that the law loads, and what they lead to -/
abbrev mustCheck2 (w : World) (ga : Nat) (gb : Nat) (m1 u1 : ByteArray) (s2 : Int) (va : Value) (vb : Value) (l1 l2 : List Flds.Fld) (b1 b2 : ByteArray) (W : World) : Prop :=
  W.cell? ⟨ga, 0, none⟩ = some (.string m1) ∧ W.cell? ⟨ga, 1, none⟩ = some (.string u1) ∧ W.cell? ⟨ga, 2, none⟩ = some va ∧ W.cell? ⟨ga, 3, none⟩ = some (.string b1) ∧ W.cell? ⟨gb, 0, none⟩ = some (.int .i64 s2) ∧ W.cell? ⟨gb, 1, none⟩ = some vb ∧ W.cell? ⟨gb, 2, none⟩ = some (.string b2) ∧ Flds.Arg W va l1 ∧ Flds.Arg W vb l2 ∧ Below w.heap.size w W
theorem mustCheck2.step {w : World} {ga : Nat} {gb : Nat} {m1 u1 : ByteArray} {s2 : Int} {va : Value} {vb : Value} {l1 l2 : List Flds.Fld} {b1 b2 : ByteArray} {W W' : World} (h : mustCheck2 w ga gb m1 u1 s2 va vb l1 l2 b1 b2 W) (hb : Below W.heap.size W W') : mustCheck2 w ga gb m1 u1 s2 va vb l1 l2 b1 b2 W' := by
  obtain ⟨h0, h1, h2, h3, h4, h5, h6, h7, h8, h9⟩ := h
  have q0 : ga < W.heap.size := Recs.lt_of_cell h0
  have q1 : gb < W.heap.size := Recs.lt_of_cell h4
  exact ⟨(hb.cell (p := ⟨ga, 0, none⟩) q0).trans h0, (hb.cell (p := ⟨ga, 1, none⟩) q0).trans h1, (hb.cell (p := ⟨ga, 2, none⟩) q0).trans h2, (hb.cell (p := ⟨ga, 3, none⟩) q0).trans h3, (hb.cell (p := ⟨gb, 0, none⟩) q1).trans h4, (hb.cell (p := ⟨gb, 1, none⟩) q1).trans h5, (hb.cell (p := ⟨gb, 2, none⟩) q1).trans h6, Flds.arg_stay h7 (Nat.le_refl _) hb, Flds.arg_stay h8 (Nat.le_refl _) hb, h9.trans (hb.mono h9.size)⟩
abbrev mustCheck4 (w : World) (ga : Nat) (gb : Nat) (gx : Nat) (gy : Nat) (m1 u1 : ByteArray) (s2 : Int) (va : Value) (vb : Value) (vx : Value) (vy : Value) (l1 l2 : List Flds.Fld) (b1 b2 : ByteArray) (W : World) : Prop :=
  W.cell? ⟨ga, 0, none⟩ = some (.string m1) ∧ W.cell? ⟨ga, 1, none⟩ = some (.string u1) ∧ W.cell? ⟨ga, 2, none⟩ = some va ∧ W.cell? ⟨ga, 3, none⟩ = some (.string b1) ∧ W.cell? ⟨gb, 0, none⟩ = some (.int .i64 s2) ∧ W.cell? ⟨gb, 1, none⟩ = some vb ∧ W.cell? ⟨gb, 2, none⟩ = some (.string b2) ∧ W.cell? ⟨gx, 0, none⟩ = some (.string m1) ∧ W.cell? ⟨gx, 1, none⟩ = some (.string u1) ∧ W.cell? ⟨gx, 2, none⟩ = some vx ∧ W.cell? ⟨gx, 3, none⟩ = some (.string b1) ∧ W.cell? ⟨gy, 0, none⟩ = some (.int .i64 s2) ∧ W.cell? ⟨gy, 1, none⟩ = some vy ∧ W.cell? ⟨gy, 2, none⟩ = some (.string b2) ∧ Flds.Arg W va l1 ∧ Flds.Arg W vb l2 ∧ Flds.Is W vx l1 ∧ Flds.Is W vy l2 ∧ Below w.heap.size w W
theorem mustCheck4.step {w : World} {ga : Nat} {gb : Nat} {gx : Nat} {gy : Nat} {m1 u1 : ByteArray} {s2 : Int} {va : Value} {vb : Value} {vx : Value} {vy : Value} {l1 l2 : List Flds.Fld} {b1 b2 : ByteArray} {W W' : World} (h : mustCheck4 w ga gb gx gy m1 u1 s2 va vb vx vy l1 l2 b1 b2 W) (hb : Below W.heap.size W W') : mustCheck4 w ga gb gx gy m1 u1 s2 va vb vx vy l1 l2 b1 b2 W' := by
  obtain ⟨h0, h1, h2, h3, h4, h5, h6, h7, h8, h9, h10, h11, h12, h13, h14, h15, h16, h17, h18⟩ := h
  have q0 : ga < W.heap.size := Recs.lt_of_cell h0
  have q1 : gb < W.heap.size := Recs.lt_of_cell h4
  have q2 : gx < W.heap.size := Recs.lt_of_cell h7
  have q3 : gy < W.heap.size := Recs.lt_of_cell h11
  exact ⟨(hb.cell (p := ⟨ga, 0, none⟩) q0).trans h0, (hb.cell (p := ⟨ga, 1, none⟩) q0).trans h1, (hb.cell (p := ⟨ga, 2, none⟩) q0).trans h2, (hb.cell (p := ⟨ga, 3, none⟩) q0).trans h3, (hb.cell (p := ⟨gb, 0, none⟩) q1).trans h4, (hb.cell (p := ⟨gb, 1, none⟩) q1).trans h5, (hb.cell (p := ⟨gb, 2, none⟩) q1).trans h6, (hb.cell (p := ⟨gx, 0, none⟩) q2).trans h7, (hb.cell (p := ⟨gx, 1, none⟩) q2).trans h8, (hb.cell (p := ⟨gx, 2, none⟩) q2).trans h9, (hb.cell (p := ⟨gx, 3, none⟩) q2).trans h10, (hb.cell (p := ⟨gy, 0, none⟩) q3).trans h11, (hb.cell (p := ⟨gy, 1, none⟩) q3).trans h12, (hb.cell (p := ⟨gy, 2, none⟩) q3).trans h13, Flds.arg_stay h14 (Nat.le_refl _) hb, Flds.arg_stay h15 (Nat.le_refl _) hb, Recs.is_below h16 hb, Recs.is_below h17 hb, h18.trans (hb.mono h18.size)⟩
set_option maxRecDepth 100000 in
set_option maxHeartbeats 8000000 in
theorem mustCheck_law (asked came now : Int) (hx_asked : asked ≤ 9223372036854775807) (hx_came : came ≤ 9223372036854775807) (hx_now : now ≤ 9223372036854775807) (G : World → Prop) (hG : ∀ W W', G W → Below W.heap.size W W' → G W')
    (hi : ∀ (m1 u1 : ByteArray) (s2 : Int) (v1 v2 : Value) (l1 l2 : List Flds.Fld) (b1 b2 : ByteArray) W, Flds.Is W v1 l1 → Flds.Is W v2 l2 → m1.size + u1.size + Flds.bulk l1 + b1.size ≤ 1048576 → Flds.bulk l2 + b2.size ≤ 1048576 → G W → Calls Tryz.prog 9 #[Req.val m1 u1 v1 b1, Resp.val s2 v2 b2, .int .i64 asked, .int .i64 came, .int .i64 now] W fun e w' => e = .returned (.bool (mustCheck l1 l2 asked came now)) ∧ Below W.heap.size W w')
    (m1 u1 : ByteArray) (s2 : Int) (a1 a2 : Value) (l1 l2 : List Flds.Fld) (b1 b2 : ByteArray) (w : World) (ha1 : Flds.Arg w a1 l1) (ha2 : Flds.Arg w a2 l2) (hm1 : m1.size ≤ maxLen) (hu1 : u1.size ≤ maxLen) (hb1 : b1.size ≤ maxLen) (hb2 : b2.size ≤ maxLen) (hg : G w) :
    Calls Tryz.prog 5 #[Req.val m1 u1 a1 b1, Resp.val s2 a2 b2, .int .i64 asked, .int .i64 came, .int .i64 now] w fun e w' => e = .returned (.bool true) ∧ Below w.heap.size w w' := by
  have HZ1 := Num.hide (fun W h => Req.sz_any m1 u1 a1 l1 b1 1048576 W h hm1 hu1 hb1 (by omega) (by omega))
  have H1 := Num.hide ha1
  have H2 := Num.hide ha2
  obtain ⟨aa, ca, rfl, _⟩ := Flds.is_form ha1.1
  obtain ⟨ab, cb, rfl, _⟩ := Flds.is_form ha2.1
  have hb0 : Below w.heap.size w ((w.alloc (.cells #[.string m1, .string u1, (.slice aa l1.length ca), .string b1] 40)).alloc (.cells #[.int .i64 s2, (.slice ab l2.length cb), .string b2] 42)) := ((Below.refl _ w).alloc (Nat.le_refl _) _).alloc (by simp) _
  have e0 : (w.alloc (.cells #[.string m1, .string u1, (.slice aa l1.length ca), .string b1] 40)).heap.size = w.heap.size + 1 := by rw [World.size_alloc]
  have x0 : ((w.alloc (.cells #[.string m1, .string u1, (.slice aa l1.length ca), .string b1] 40)).alloc (.cells #[.int .i64 s2, (.slice ab l2.length cb), .string b2] 42)).heap[w.heap.size]? = some (.cells #[.string m1, .string u1, (.slice aa l1.length ca), .string b1] 40) := (heap_alloc_old _ _ (by omega)).trans (heap_alloc_new w _)
  have y0 : ((w.alloc (.cells #[.string m1, .string u1, (.slice aa l1.length ca), .string b1] 40)).alloc (.cells #[.int .i64 s2, (.slice ab l2.length cb), .string b2] 42)).heap[w.heap.size + 1]? = some (.cells #[.int .i64 s2, (.slice ab l2.length cb), .string b2] 42) := by
    have := heap_alloc_new (w.alloc (.cells #[.string m1, .string u1, (.slice aa l1.length ca), .string b1] 40)) (.cells #[.int .i64 s2, (.slice ab l2.length cb), .string b2] 42)
    rw [e0] at this
    exact this
  have K0 : Hid (mustCheck2 w w.heap.size (w.heap.size + 1) m1 u1 s2 (.slice aa l1.length ca) (.slice ab l2.length cb) l1 l2 b1 b2 ((w.alloc (.cells #[.string m1, .string u1, (.slice aa l1.length ca), .string b1] 40)).alloc (.cells #[.int .i64 s2, (.slice ab l2.length cb), .string b2] 42))) := ⟨Recs.box_cell x0 0, Recs.box_cell x0 1, Recs.box_cell x0 2, Recs.box_cell x0 3, Recs.box_cell y0 0, Recs.box_cell y0 1, Recs.box_cell y0 2, Flds.arg_stay H1.out (Nat.le_refl _) hb0, Flds.arg_stay H2.out (Nat.le_refl _) hb0, hb0⟩
  clear ha1 ha2 hb0 x0 y0 e0
  unfold Req.val at HZ1
  unfold Req.val Resp.val
  by_cases hbk1 : ¬ (Req.bulk m1 u1 l1 b1 : Int) ≤ 1048576
  · rw [Flds.left_no hbk1] at HZ1
    clear hi hG hg
    go_enter Tryz.func5, Tryz.ntmps5
    go_wp2_with fail
    refine (HZ1.out _ K0.out.2.2.2.2.2.2.2.1).mono ?_
    rintro e W1 ⟨rfl, hb⟩
    have K1 := Num.hide (mustCheck2.step K0.out hb)
    clear hb K0
    go_wp2
    go_ret
    exact ⟨rfl, K1.out.2.2.2.2.2.2.2.2.2⟩
  have hbb1 := Decidable.not_not.1 hbk1
  rw [Flds.left_yes hbb1] at HZ1
  have HZ2 := Num.hide (fun W h => Resp.sz_any s2 (.slice ab l2.length cb) l2 b2 (1048576 - (Req.bulk m1 u1 l1 b1 : Int)) W h hb2 (by omega) (by omega))
  unfold Resp.val at HZ2
  have dz1 : decide ((1048576 : Int) - (Req.bulk m1 u1 l1 b1 : Int) < 0) = false := by simp; omega
  by_cases hbk2 : ¬ (Resp.bulk l2 b2 : Int) ≤ 1048576 - (Req.bulk m1 u1 l1 b1 : Int)
  · rw [Flds.left_no hbk2] at HZ2
    clear hi hG hg
    go_enter Tryz.func5, Tryz.ntmps5
    go_wp2_with fail
    refine (HZ1.out _ K0.out.2.2.2.2.2.2.2.1).mono ?_
    rintro e W1 ⟨rfl, hb⟩
    have K1 := Num.hide (mustCheck2.step K0.out hb)
    clear hb K0
    obtain ⟨k0, k1, k2, k3, k4, k5, k6, _⟩ := K1.out
    go_wp2_with fail
    refine (HZ2.out _ K1.out.2.2.2.2.2.2.2.2.1).mono ?_
    rintro e W2 ⟨rfl, hb⟩
    have K2 := Num.hide (mustCheck2.step K1.out hb)
    clear hb K1
    go_wp2
    go_ret
    exact ⟨rfl, K2.out.2.2.2.2.2.2.2.2.2⟩
  · have hbb2 := Decidable.not_not.1 hbk2
    rw [Flds.left_yes hbb2] at HZ2
    have dz2 : decide ((1048576 : Int) - (Req.bulk m1 u1 l1 b1 : Int) - (Resp.bulk l2 b2 : Int) < 0) = false := by simp; omega
    have hc1 : m1.size + u1.size + Flds.bulk l1 + b1.size ≤ 1048576 := by unfold Req.bulk at hbb1; omega
    have hc2 : Flds.bulk l2 + b2.size ≤ 1048576 := by unfold Req.bulk at hbb1 hbb2; unfold Resp.bulk at hbb2; omega
    have hlen1 : l1.length ≤ 1048576 := by have := Flds.len_le l1; omega
    have hlen2 : l2.length ≤ 1048576 := by have := Flds.len_le l2; omega
    have HTa := Num.hide (fun W h => Req.to_any m1 u1 (.slice aa l1.length ca) l1 b1 W h hlen1)
    have HTb := Num.hide (fun W h => Resp.to_any s2 (.slice ab l2.length cb) l2 b2 W h hlen2)
    have HS := Num.hide (fun v1 v2 W h1 h2 => mustCheck_spec m1 u1 s2 v1 v2 l1 l2 b1 b2 asked came now W h1 h2 (by omega) (by omega) hx_came hx_now)
    have HI := Num.hide (fun v1 v2 W h1 h2 (hb : Below w.heap.size w W) => hi m1 u1 s2 v1 v2 l1 l2 b1 b2 W h1 h2 hc1 hc2 (hG w W hg hb))
    have HE1 := Num.hide (fun v1 v2 W h1 h2 => Req.eq_any m1 m1 u1 u1 v1 v2 l1 l1 b1 b1 W h1 h2 (by omega))
    have HE2 := Num.hide (fun v1 v2 W h1 h2 => Resp.eq_any s2 s2 v1 v2 l2 l2 b2 b2 W h1 h2 (by omega))
    rw [decide_eq_true ⟨rfl, rfl, rfl, rfl⟩] at HE1
    rw [decide_eq_true ⟨rfl, rfl, rfl⟩] at HE2
    unfold Req.val at HTa HE1
    unfold Resp.val at HTb HE2
    unfold Req.val Resp.val at HS HI
    generalize mustCheck l1 l2 asked came now = r at HS HI
    generalize Req.bulk m1 u1 l1 b1 = n1 at HZ1 HZ2 dz1 dz2 hbb1 hbb2
    generalize Resp.bulk l2 b2 = n2 at HZ2 dz2 hbb2
    clear hi hG hg hbk1 hbk2
    go_enter Tryz.func5, Tryz.ntmps5
    go_wp2_with fail
    refine (HZ1.out _ K0.out.2.2.2.2.2.2.2.1).mono ?_
    rintro e W1 ⟨rfl, hb⟩
    have K1 := Num.hide (mustCheck2.step K0.out hb)
    clear hb K0 HZ1
    obtain ⟨k0, k1, k2, k3, k4, k5, k6, _⟩ := K1.out
    go_wp2_with fail
    refine (HZ2.out _ K1.out.2.2.2.2.2.2.2.2.1).mono ?_
    rintro e W2 ⟨rfl, hb⟩
    have K2 := Num.hide (mustCheck2.step K1.out hb)
    clear hb K1 HZ2 k0 k1 k2 k3 k4 k5 k6
    go_wp2_with fail
    refine wp_region_held_drew (S := mustCheck2 w w.heap.size (w.heap.size + 1) m1 u1 s2 (.slice aa l1.length ca) (.slice ab l2.length cb) l1 l2 b1 b2) (by kernel_rfl) (mustCheck2.step K2.out (Below.refl _ _).drew) (fun hHeld => ?_)
    refine Reg.take (i := 0) (d := 26) (v := ?_) rfl rfl (by kernel_rfl) (by kernel_rfl) (by kernel_rfl) (fun _ _ _ h => h) (by rfl) ?_ hHeld ?_
    rotate_left
    · rintro W ⟨k0, k1, k2, k3, k4, k5, k6, k7, k8, k9⟩
      first | (go_simp; done) | (go_simp; with_reducible rfl)
    simp only [Act.put, List.setIfInBounds_toArray, List.set_cons_zero, List.set_cons_succ]
    refine Reg.take (i := 2) (d := 28) (v := ?_) rfl rfl (by kernel_rfl) (by kernel_rfl) (by kernel_rfl) (fun _ _ _ h => h) (by rfl) ?_ hHeld ?_
    rotate_left
    · rintro W ⟨k0, k1, k2, k3, k4, k5, k6, k7, k8, k9⟩
      first | (go_simp; done) | (go_simp; with_reducible rfl)
    simp only [Act.put, List.setIfInBounds_toArray, List.set_cons_zero, List.set_cons_succ]
    refine Reg.take (i := 4) (d := 30) (v := ?_) rfl rfl (by kernel_rfl) (by kernel_rfl) (by kernel_rfl) (fun _ _ _ h => h) (by rfl) ?_ hHeld ?_
    rotate_left
    · rintro W ⟨k0, k1, k2, k3, k4, k5, k6, k7, k8, k9⟩
      first | (go_simp; done) | (go_simp; with_reducible rfl)
    simp only [Act.put, List.setIfInBounds_toArray, List.set_cons_zero, List.set_cons_succ]
    refine Reg.take (i := 5) (d := 31) (v := ?_) rfl rfl (by kernel_rfl) (by kernel_rfl) (by kernel_rfl) (fun _ _ _ h => h) (by rfl) ?_ hHeld ?_
    rotate_left
    · rintro W ⟨k0, k1, k2, k3, k4, k5, k6, k7, k8, k9⟩
      first | (go_simp; done) | (go_simp; with_reducible rfl)
    simp only [Act.put, List.setIfInBounds_toArray, List.set_cons_zero, List.set_cons_succ]
    refine Reg.take (i := 6) (d := 32) (v := ?_) rfl rfl (by kernel_rfl) (by kernel_rfl) (by kernel_rfl) (fun _ _ _ h => h) (by rfl) ?_ hHeld ?_
    rotate_left
    · rintro W ⟨k0, k1, k2, k3, k4, k5, k6, k7, k8, k9⟩
      first | (go_simp; done) | (go_simp; with_reducible rfl)
    simp only [Act.put, List.setIfInBounds_toArray, List.set_cons_zero, List.set_cons_succ]
    refine Reg.call (i := 1) rfl (by kernel_rfl) (by rfl) (fun K hK => ?_)
    go_wp2_with (first | (go_at_call 16; refine (HTa.out _ hHeld.2.2.2.2.2.2.2.1.1).mono ?_; rintro e Wa ⟨va1, rfl, ho, hb⟩))
    obtain ⟨ava1, cva1, hvva1⟩ := Recs.own_len ho
    subst hvva1
    have Iva1 := Num.hide (Recs.own_is Flds.cells_len ho)
    have HBva1 := Num.hide hb
    clear ho hb
    refine hK.out _ _ ?_ (fun hHeld2 => ?_)
    · exact mustCheck2.step hHeld HBva1.out
    clear hK K
    replace hHeld := hHeld2
    clear hHeld2
    refine Reg.call (i := 3) rfl (by kernel_rfl) (by rfl) (fun K hK => ?_)
    go_wp2_with (first | (go_at_call 17; refine (HTb.out _ hHeld.2.2.2.2.2.2.2.2.1.1).mono ?_; rintro e Wb ⟨vb1, rfl, ho, hb⟩))
    obtain ⟨avb1, cvb1, hvvb1⟩ := Recs.own_len ho
    subst hvvb1
    have Ivb1 := Num.hide (Recs.own_is Flds.cells_len ho)
    have HBvb1 := Num.hide hb
    clear ho hb
    have Iva2 := Num.hide (Recs.is_below Iva1.out HBvb1.out)
    refine hK.out _ _ ?_ (fun hHeld2 => ?_)
    · exact mustCheck2.step hHeld HBvb1.out
    clear hK K
    replace hHeld := hHeld2
    clear hHeld2
    refine Reg.call (i := 7) rfl (by kernel_rfl) (by rfl) (fun K hK => ?_)
    go_wp2_with (first | (go_at_call 20; refine (HS.out _ _ _ Iva2.out Ivb1.out).mono ?_; rintro e Wc ⟨rfl, hb⟩))
    have HBc := Num.hide hb
    clear hb
    refine hK.out _ _ ?_ (fun hHeld2 => ?_)
    · exact mustCheck2.step hHeld HBc.out
    clear hK K
    replace hHeld := hHeld2
    clear hHeld2
    refine Reg.take (i := 8) (d := 12) (v := ?_) rfl rfl (by kernel_rfl) (by kernel_rfl) (by kernel_rfl) (fun _ _ _ h => h) (by rfl) ?_ hHeld ?_
    rotate_left
    · rintro W ⟨k0, k1, k2, k3, k4, k5, k6, k7, k8, k9⟩
      first | (go_simp; done) | (go_simp; with_reducible rfl)
    simp only [Act.put, List.setIfInBounds_toArray, List.set_cons_zero, List.set_cons_succ]
    refine wpAnyH_done (by kernel_rfl) ?_ _
    have K3 := Num.hide hHeld
    clear hHeld K2 HS Iva1 Iva2 Ivb1 HBva1 HBvb1 HBc
    obtain ⟨k0, k1, k2, k3, k4, k5, k6, _⟩ := K3.out
    go_wp2_with fail
    refine (HTa.out _ K3.out.2.2.2.2.2.2.2.1.1).mono ?_
    rintro e W4 ⟨v4, rfl, ho, hb⟩
    obtain ⟨ax, cx, hv4⟩ := Recs.own_len ho
    subst hv4
    have hal := (Below.refl W4.heap.size W4).alloc (Nat.le_refl _) (.cells #[.string m1, .string u1, (.slice ax l1.length cx), .string b1] 26)
    have K4 := Num.hide (mustCheck2.step (mustCheck2.step K3.out hb) hal)
    have Ix4 := Num.hide (Recs.is_below (Recs.own_is Flds.cells_len ho) hal)
    have X4 := Num.hide (heap_alloc_new W4 (.cells #[.string m1, .string u1, (.slice ax l1.length cx), .string b1] 26))
    clear ho hb hal K3 k0 k1 k2 k3 k4 k5 k6
    go_upto_region 10 with fail
    generalize W4.alloc (.cells #[.string m1, .string u1, (.slice ax l1.length cx), .string b1] 26) = V4 at K4 Ix4 X4 ⊢
    generalize W4.heap.size = g3 at X4 ⊢
    obtain ⟨k0, k1, k2, k3, k4, k5, k6, _⟩ := K4.out
    go_wp2_with fail
    refine (HTb.out _ K4.out.2.2.2.2.2.2.2.2.1.1).mono ?_
    rintro e W5 ⟨v5, rfl, ho, hb⟩
    obtain ⟨ay, cy, hv5⟩ := Recs.own_len ho
    subst hv5
    have hal := (Below.refl W5.heap.size W5).alloc (Nat.le_refl _) (.cells #[.int .i64 s2, (.slice ay l2.length cy), .string b2] 28)
    have K5 := Num.hide (mustCheck2.step (mustCheck2.step K4.out hb) hal)
    have Ix5 := Num.hide (Recs.is_below (Recs.is_below Ix4.out hb) hal)
    have Iy5 := Num.hide (Recs.is_below (Recs.own_is Flds.cells_len ho) hal)
    have hlt := (Array.getElem?_eq_some_iff.1 X4.out).1
    have X5 := Num.hide ((hal.block g3 (Nat.lt_of_lt_of_le hlt hb.size)).trans ((hb.block g3 hlt).trans X4.out))
    have Y5 := Num.hide (heap_alloc_new W5 (.cells #[.int .i64 s2, (.slice ay l2.length cy), .string b2] 28))
    clear ho hb hal hlt K4 Ix4 X4 k0 k1 k2 k3 k4 k5 k6
    go_upto_region 11 with fail
    generalize W5.alloc (.cells #[.int .i64 s2, (.slice ay l2.length cy), .string b2] 28) = V5 at K5 Ix5 Iy5 X5 Y5 ⊢
    generalize W5.heap.size = g4 at Y5 ⊢
    have K6 : Hid (mustCheck4 w w.heap.size (w.heap.size + 1) g3 g4 m1 u1 s2 (.slice aa l1.length ca) (.slice ab l2.length cb) (.slice ax l1.length cx) (.slice ay l2.length cy) l1 l2 b1 b2 V5) := by
      obtain ⟨k0, k1, k2, k3, k4, k5, k6, k7, k8, k9⟩ := K5.out
      exact ⟨k0, k1, k2, k3, k4, k5, k6, Recs.box_cell X5.out 0, Recs.box_cell X5.out 1, Recs.box_cell X5.out 2, Recs.box_cell X5.out 3, Recs.box_cell Y5.out 0, Recs.box_cell Y5.out 1, Recs.box_cell Y5.out 2, k7, k8, Ix5.out, Iy5.out, k9⟩
    clear K5 X5 Y5
    obtain ⟨_, _, _, _, _, _, _, k0, k1, k2, k3, k4, k5, k6, _⟩ := K6.out
    go_wp2_with fail
    refine (HI.out _ _ _ Ix5.out Iy5.out K6.out.2.2.2.2.2.2.2.2.2.2.2.2.2.2.2.2.2.2).mono ?_
    rintro e W6 ⟨rfl, hb⟩
    have K7 := Num.hide (mustCheck4.step K6.out hb)
    clear hb K6 Ix5 Iy5 HI k0 k1 k2 k3 k4 k5 k6
    go_wp2_with fail
    refine wp_region_held_drew (S := mustCheck4 w w.heap.size (w.heap.size + 1) g3 g4 m1 u1 s2 (.slice aa l1.length ca) (.slice ab l2.length cb) (.slice ax l1.length cx) (.slice ay l2.length cy) l1 l2 b1 b2) (by kernel_rfl) (mustCheck4.step K7.out (Below.refl _ _).drew) (fun hHeld => ?_)
    refine Reg.take (i := 0) (d := 47) (v := ?_) rfl rfl (by kernel_rfl) (by kernel_rfl) (by kernel_rfl) (fun _ _ _ h => h) (by rfl) ?_ hHeld ?_
    rotate_left
    · rintro W ⟨k0, k1, k2, k3, k4, k5, k6, k7, k8, k9, k10, k11, k12, k13, k14, k15, k16, k17, k18⟩
      first | (go_simp; done) | (go_simp; with_reducible rfl)
    simp only [Act.put, List.setIfInBounds_toArray, List.set_cons_zero, List.set_cons_succ]
    refine Reg.take (i := 1) (d := 48) (v := ?_) rfl rfl (by kernel_rfl) (by kernel_rfl) (by kernel_rfl) (fun _ _ _ h => h) (by rfl) ?_ hHeld ?_
    rotate_left
    · rintro W ⟨k0, k1, k2, k3, k4, k5, k6, k7, k8, k9, k10, k11, k12, k13, k14, k15, k16, k17, k18⟩
      first | (go_simp; done) | (go_simp; with_reducible rfl)
    simp only [Act.put, List.setIfInBounds_toArray, List.set_cons_zero, List.set_cons_succ]
    refine Reg.call (i := 2) rfl (by kernel_rfl) (by rfl) (fun K hK => ?_)
    go_wp2_with (first | (go_at_call 16; refine (HTa.out _ hHeld.2.2.2.2.2.2.2.2.2.2.2.2.2.2.1.1).mono ?_; rintro e Wp ⟨vp, rfl, ho, hb⟩))
    obtain ⟨avp, cvp, hvvp⟩ := Recs.own_len ho
    subst hvvp
    have Ivp := Num.hide (Recs.own_is Flds.cells_len ho)
    have HBvp := Num.hide hb
    clear ho hb
    refine hK.out _ _ ?_ (fun hHeld2 => ?_)
    · exact mustCheck4.step hHeld HBvp.out
    clear hK K
    replace hHeld := hHeld2
    clear hHeld2
    refine Reg.call (i := 3) rfl (by kernel_rfl) (by rfl) (fun K hK => ?_)
    go_wp2_with (first | (go_at_call 18; refine (HE1.out _ _ _ hHeld.2.2.2.2.2.2.2.2.2.2.2.2.2.2.2.2.1 Ivp.out).mono ?_; rintro e Wp2 ⟨rfl, hb⟩))
    have HBp2 := Num.hide hb
    clear hb
    refine hK.out _ _ ?_ (fun hHeld2 => ?_)
    · exact mustCheck4.step hHeld HBp2.out
    clear hK K
    replace hHeld := hHeld2
    clear hHeld2
    refine Reg.take (i := 4) (d := 51) (v := ?_) rfl rfl (by kernel_rfl) (by kernel_rfl) (by kernel_rfl) (fun _ _ _ h => h) (by rfl) ?_ hHeld ?_
    rotate_left
    · rintro W ⟨k0, k1, k2, k3, k4, k5, k6, k7, k8, k9, k10, k11, k12, k13, k14, k15, k16, k17, k18⟩
      first | (go_simp; done) | (go_simp; with_reducible rfl)
    simp only [Act.put, List.setIfInBounds_toArray, List.set_cons_zero, List.set_cons_succ]
    refine wpAnyH_done (by kernel_rfl) ?_ _
    have K8 := Num.hide hHeld
    clear hHeld K7
    go_wp2_with fail
    refine wp_region_held_drew (S := mustCheck4 w w.heap.size (w.heap.size + 1) g3 g4 m1 u1 s2 (.slice aa l1.length ca) (.slice ab l2.length cb) (.slice ax l1.length cx) (.slice ay l2.length cy) l1 l2 b1 b2) (by kernel_rfl) (mustCheck4.step K8.out (Below.refl _ _).drew) (fun hHeld => ?_)
    refine Reg.take (i := 0) (d := 52) (v := ?_) rfl rfl (by kernel_rfl) (by kernel_rfl) (by kernel_rfl) (fun _ _ _ h => h) (by rfl) ?_ hHeld ?_
    rotate_left
    · rintro W ⟨k0, k1, k2, k3, k4, k5, k6, k7, k8, k9, k10, k11, k12, k13, k14, k15, k16, k17, k18⟩
      first | (go_simp; done) | (go_simp; with_reducible rfl)
    simp only [Act.put, List.setIfInBounds_toArray, List.set_cons_zero, List.set_cons_succ]
    refine Reg.take (i := 1) (d := 53) (v := ?_) rfl rfl (by kernel_rfl) (by kernel_rfl) (by kernel_rfl) (fun _ _ _ h => h) (by rfl) ?_ hHeld ?_
    rotate_left
    · rintro W ⟨k0, k1, k2, k3, k4, k5, k6, k7, k8, k9, k10, k11, k12, k13, k14, k15, k16, k17, k18⟩
      first | (go_simp; done) | (go_simp; with_reducible rfl)
    simp only [Act.put, List.setIfInBounds_toArray, List.set_cons_zero, List.set_cons_succ]
    refine Reg.call (i := 2) rfl (by kernel_rfl) (by rfl) (fun K hK => ?_)
    go_wp2_with (first | (go_at_call 17; refine (HTb.out _ hHeld.2.2.2.2.2.2.2.2.2.2.2.2.2.2.2.1.1).mono ?_; rintro e Wq ⟨vq, rfl, ho, hb⟩))
    obtain ⟨avq, cvq, hvvq⟩ := Recs.own_len ho
    subst hvvq
    have Ivq := Num.hide (Recs.own_is Flds.cells_len ho)
    have HBvq := Num.hide hb
    clear ho hb
    refine hK.out _ _ ?_ (fun hHeld2 => ?_)
    · exact mustCheck4.step hHeld HBvq.out
    clear hK K
    replace hHeld := hHeld2
    clear hHeld2
    refine Reg.call (i := 3) rfl (by kernel_rfl) (by rfl) (fun K hK => ?_)
    go_wp2_with (first | (go_at_call 19; refine (HE2.out _ _ _ hHeld.2.2.2.2.2.2.2.2.2.2.2.2.2.2.2.2.2.1 Ivq.out).mono ?_; rintro e Wq2 ⟨rfl, hb⟩))
    have HBq2 := Num.hide hb
    clear hb
    refine hK.out _ _ ?_ (fun hHeld2 => ?_)
    · exact mustCheck4.step hHeld HBq2.out
    clear hK K
    replace hHeld := hHeld2
    clear hHeld2
    refine Reg.take (i := 4) (d := 56) (v := ?_) rfl rfl (by kernel_rfl) (by kernel_rfl) (by kernel_rfl) (fun _ _ _ h => h) (by rfl) ?_ hHeld ?_
    rotate_left
    · rintro W ⟨k0, k1, k2, k3, k4, k5, k6, k7, k8, k9, k10, k11, k12, k13, k14, k15, k16, k17, k18⟩
      first | (go_simp; done) | (go_simp; with_reducible rfl)
    simp only [Act.put, List.setIfInBounds_toArray, List.set_cons_zero, List.set_cons_succ]
    refine wpAnyH_done (by kernel_rfl) ?_ _
    have K9 := Num.hide hHeld.2.2.2.2.2.2.2.2.2.2.2.2.2.2.2.2.2.2
    clear hHeld K8
    go_wp2
    go_ret
    exact ⟨rfl, K9.out⟩
end Pol
end Go.Proofs.YtjeokackmkfooaaGreatDoor
