/-
  Code: The bytes that a law is handed, as the draws read them.
  AgesWalk: FnAges: what is stored grows older as time goes by, second by second, and once it is not fresh it stays so; no age runs over: for every draw, of a program whose functions tell what they are to tell.
-/
import Derived.Test.YtihiljickefanaaGreatDoorPbe
import Derived.OpenShut
import Derived.Test.YtihiljickefanaaGreatDoorPbk
import Derived.Test.YtihiljickefanaaGreatDoorPal
import Derived.Test.YtihiljickefanaaGreatDoorPao
import Derived.Deep.Cut
namespace Go.Proofs.YtihiljickefanaaGreatDoor
open Go.RowKit
set_option linter.unusedVariables false
namespace Draw

theorem CodeAt.mono {B B' : Nat} {w : World} {a : Option Addr} {l : List Int} (h : CodeAt B w a l) (hB : B ≤ B') : CodeAt B' w a l := by
  refine ⟨h.1, ?_⟩
  rcases h.2 with h | ⟨b, off, ha, hb, hc⟩
  · exact .inl h
  · exact .inr ⟨b, off, ha, by omega, hc⟩
theorem lt_of_cell {w : World} {a : Addr} {v : Value} (h : w.cell? a = some v) : a.block < w.heap.size := by
  apply Decidable.byContradiction
  intro hc
  have hn : w.heap[a.block]? = none := Array.getElem?_eq_none (by omega)
  simp [World.cell?, hn] at h
theorem code_of (w : World) (x : Addr) (len : Nat) (zs : List Int) (hl : len ≤ zs.length) (hcell : ∀ i, i < zs.length → w.cell? (x.add i) = some (.int .u8 (zs.getD i 0))) (hwz : ∀ n ∈ zs, (Lit.int .u8 n).wf = true) :
    (zs.take len).length = len ∧ CodeAt w.heap.size w (some x) (zs.take len) := by
  have hlen : (zs.take len).length = len := by rw [List.length_take]; omega
  refine ⟨hlen, ?_, ?_⟩
  · intro i hi
    have hm : (zs.take len)[i] ∈ zs := List.mem_of_mem_take (List.getElem_mem hi)
    have := bounds_u8 (hwz _ hm)
    omega
  · by_cases h0 : len = 0
    · left; subst h0; rfl
    · right
      obtain ⟨b, off, spot⟩ := x
      have hc := hcell 0 (by omega)
      have hspot : spot = none := by simpa [Addr.add] using World.cell?_spot hc
      subst hspot
      have hadd : ∀ i, (⟨b, off, none⟩ : Addr).add i = ⟨b, off + i, none⟩ := fun i => by unfold Addr.add; split <;> simp_all
      refine ⟨b, off, rfl, ?_, ?_⟩
      · have := lt_of_cell hc
        rw [hadd] at this
        exact this
      · intro i hi
        have h2 := hcell i (by omega)
        rw [hadd] at h2
        rw [h2, List.getElem_take, List.getD_eq_getElem?_getD, List.getElem?_eq_getElem (by omega)]
        rfl
set_option maxHeartbeats 400000 in
theorem big_any (a : Option Addr) (n cap : Nat) (w : World) (h : n ≤ 9223372036854775807) : Calls Tryz.prog 6 #[.slice a n cap] w fun e w' => e = .returned (.bool (decide (1048576 < (n : Int)))) ∧ w = w' := by
  go_enter Tryz.func6, Tryz.ntmps6
  go_wp2
  go_ret
  exact ⟨by simp, rfl⟩
end Draw
end Go.Proofs.YtihiljickefanaaGreatDoor
namespace Go.Proofs.YtihiljickefanaaGreatDoor
open Go.RowKit
set_option linter.unusedVariables false
set_option linter.unusedSimpArgs false
namespace Ages
open Flds (Fld)
open Draw Age

theorem code_at {w W : World} {a : Option Addr} {l : List Int} (h : CodeAt w.heap.size w a l) (hb : Below w.heap.size w W) : CodeAt W.heap.size W a l := by
  have h2 := h.below hb
  refine ⟨h2.1, ?_⟩
  rcases h2.2 with h3 | ⟨x, y, h3, h4, h5⟩
  · exact .inl h3
  · exact .inr ⟨x, y, h3, Nat.lt_of_lt_of_le h4 hb.size, h5⟩
/-- the box, what it leads to, and the memory that a walk goes on with -/
abbrev GAt (G : World → Prop) (w : World) (g : Nat) (st : Int) (v : Value) (l : List Fld) (b : ByteArray) (W : World) : Prop :=
  W.cell? ⟨g, 0, none⟩ = some (.int .i64 st) ∧ W.cell? ⟨g, 1, none⟩ = some v ∧ W.cell? ⟨g, 2, none⟩ = some (.string b) ∧ Flds.Is W v l ∧ G W ∧ Below w.heap.size w W
theorem GAt.step {G : World → Prop} (HG : ∀ W W', G W → Below W.heap.size W W' → G W') {w : World} {g : Nat} {st : Int} {v : Value} {l : List Fld} {b : ByteArray} {W W' : World} (h : GAt G w g st v l b W) (hb : Below W.heap.size W W') : GAt G w g st v l b W' := by
  obtain ⟨h0, h1, h2, h3, h4, h5⟩ := h
  have hlt : g < W.heap.size := Recs.lt_of_cell h0
  exact ⟨(hb.cell (p := ⟨g, 0, none⟩) hlt).trans h0, (hb.cell (p := ⟨g, 1, none⟩) hlt).trans h1, (hb.cell (p := ⟨g, 2, none⟩) hlt).trans h2, Recs.is_below h3 hb, HG _ _ h4 hb, h5.trans (hb.mono h5.size)⟩
set_option maxRecDepth 100000 in
set_option maxHeartbeats 16000000 in
theorem law (G : World → Prop) (HGb : ∀ W W', G W → Below W.heap.size W W' → G W')
    (hAg : ∀ (st : Int) (v : Value) (l : List Fld) (b : ByteArray) (asked came now : Int) (W : World), Flds.Is W v l → Flds.bulk l + b.size ≤ 1048576 → 0 ≤ came → came ≤ 1000 → 0 ≤ asked → asked ≤ 1000 → -2 ≤ now → now ≤ 9223372036854775807 → G W →
      Calls Tryz.prog 8 #[Resp.val st v b, .int .i64 asked, .int .i64 came, .int .i64 now] W fun e w' => e = .returned (.int .i64 (ageAt l asked came now)) ∧ Below W.heap.size W w')
    (hFi : ∀ (st : Int) (v : Value) (l : List Fld) (b : ByteArray) (asked came : Int) (W : World), Flds.Is W v l → Flds.bulk l + b.size ≤ 1048576 → 0 ≤ came → came ≤ 1000 → 0 ≤ asked → asked ≤ 1000 → G W →
      Calls Tryz.prog 10 #[Resp.val st v b, .int .i64 asked, .int .i64 came] W fun e w' => e = .returned (.int .i64 (firstAge l asked came)) ∧ Below W.heap.size W w')
    (hLi : ∀ (st : Int) (v : Value) (l : List Fld) (b : ByteArray) (W : World), Flds.Is W v l → Flds.bulk l + b.size ≤ 1048576 → G W →
      Calls Tryz.prog 11 #[Resp.val st v b] W fun e w' => e = .returned (.int .i64 (lifetime l)) ∧ Below W.heap.size W w')
    (hFr : ∀ (st : Int) (v : Value) (l : List Fld) (b : ByteArray) (asked came now : Int) (W : World), Flds.Is W v l → Flds.bulk l + b.size ≤ 1048576 → 0 ≤ came → came ≤ 1000 → 0 ≤ asked → asked ≤ 1000 → -2 ≤ now → now ≤ 9223372036854775807 → G W →
      Calls Tryz.prog 12 #[Resp.val st v b, .int .i64 asked, .int .i64 came, .int .i64 now] W fun e w' => e = .returned (.bool (isFresh l asked came now)) ∧ Below W.heap.size W w')
    (hSa : ∀ (x y : Int) (W : World), (-9223372036854775807 ≤ x ∧ x ≤ 9223372036854775807) → (-9223372036854775807 ≤ y ∧ y ≤ 9223372036854775807) → G W →
      Calls Tryz.prog 14 #[.int .i64 x, .int .i64 y] W fun e w' => e = .returned (.int .i64 (satAdd x y)) ∧ Below W.heap.size W w')
    (a : Option Addr) (cap : Nat) (l0 : List Int) (w : World) (hcode : CodeAt w.heap.size w a l0) (hl0 : l0.length ≤ 1048576) (g : G w) :
    Calls Tryz.prog 3 #[.slice a l0.length cap] w fun e w' => e = .returned (.bool true) ∧ Below w.heap.size w w' := by
  have HC := Num.hide hcode
  have HBg := Num.hide (fun W => big_any a l0.length cap W (by omega))
  rw [decide_eq_false (by omega : ¬ (1048576 < (l0.length : Int)))] at HBg
  have HGb' := Num.hide HGb
  have Hg := Num.hide g
  have HSa := Num.hide hSa
  have HAg' := Num.hide hAg
  have HFi' := Num.hide hFi
  have HLi' := Num.hide hLi
  have HFr' := Num.hide hFr
  clear hcode g HGb hAg hFi hLi hFr hSa
  go_enter Tryz.func3, Tryz.ntmps3
  go_wp2_with fail
  refine (HBg.out _).mono ?_
  rintro e w0 ⟨rfl, rfl⟩
  go_wp2_with fail
  refine (drawAgeAt cap a l0 w HC.out hl0).mono ?_
  rintro e w1 ⟨st, v, l, b, asked, came, now, rfl, hv, hf, hb, ha0, ha1, hc0, hc1, hn0, hn1, hB⟩
  have hbk := hf.bulk (by omega)
  obtain ⟨av, cv, hvv⟩ := Recs.own_len hv
  subst hvv
  have hal : Below w1.heap.size w1 (w1.alloc (.cells #[.int .i64 st, .slice av l.length cv, .string b] 26)) := (Below.refl _ _).alloc (Nat.le_refl _) _
  have x0 := heap_alloc_new w1 (.cells #[.int .i64 st, .slice av l.length cv, .string b] 26)
  have HW : Hid (GAt G w w1.heap.size st (.slice av l.length cv) l b (w1.alloc (.cells #[.int .i64 st, .slice av l.length cv, .string b] 26))) :=
    ⟨by rw [cell_of_row _ _ _ _ _ _ x0]; rfl, by rw [cell_of_row _ _ _ _ _ _ x0]; rfl, by rw [cell_of_row _ _ _ _ _ _ x0]; rfl, Recs.is_below (Recs.own_is Flds.cells_len hv) hal, HGb'.out _ _ (HGb'.out _ _ Hg.out hB) hal, hB.trans (hal.mono hB.size)⟩
  clear hv hB hal x0 hf Hg
  unfold Resp.val
  go_upto_region 4 with fail
  generalize w1.alloc (.cells #[.int .i64 st, .slice av l.length cv, .string b] 26) = w2 at HW ⊢
  generalize w1.heap.size = gb at HW ⊢
  have HSt := Num.hide (fun (W W' : World) (h : GAt G w gb st (.slice av l.length cv) l b W) hb => GAt.step HGb'.out (W' := W') h hb)
  have hag := fun now W hn0 hn1 h g => HAg'.out st (.slice av l.length cv) l b asked came now W h (by omega) (by omega) (by omega) (by omega) (by omega) hn0 hn1 g
  have hfi := fun W h g => HFi'.out st (.slice av l.length cv) l b asked came W h (by omega) (by omega) (by omega) (by omega) (by omega) g
  have hli := fun W h g => HLi'.out st (.slice av l.length cv) l b W h (by omega) g
  have hfr := fun now W hn h g => HFr'.out st (.slice av l.length cv) l b asked came now W h (by omega) (by omega) (by omega) (by omega) (by omega) (And.left hn) (And.right hn) g
  unfold Resp.val at hag hfi hli hfr
  have HAg := Num.hide hag
  have HFi := Num.hide hfi
  have HLi := Num.hide hli
  have HFr : Hid (∀ (now : Int) (W : World), (-2 ≤ now ∧ now ≤ 9223372036854775807) → _) := hfr
  clear hag hfi hli hfr HAg' HFi' HLi' HFr'
  obtain ⟨c0, c1, c2, _, _, _⟩ := HW.out
  go_wp2_with fail
  refine (HAg.out now _ (by omega) (by omega) HW.out.2.2.2.1 HW.out.2.2.2.2.1).mono ?_
  rintro e w3 ⟨rfl, hb⟩
  have HW3 := Num.hide (HSt.out _ _ HW.out hb)
  clear hb c0 c1 c2 HW
  have hA := ageAt_bd l asked came now
  have hA1 := age_next l asked came now
  have hAf := age_first l asked came now
  have hAs := age_step l asked came now hc0
  have hLb := lifetime_bd l
  obtain ⟨k0, hk⟩ : ∃ k : Int, 0 ≤ k ∧ k ≤ 255 ∨ True := ⟨0, .inr trivial⟩
  clear hk k0
  obtain ⟨c0, c1, c2, _, _, _⟩ := HW3.out
  go_wp2_with fail
  refine (HAg.out (now + 1) _ (by omega) (by omega) HW3.out.2.2.2.1 HW3.out.2.2.2.2.1).mono ?_
  rintro e w4 ⟨rfl, hb⟩
  have Hw4 := Num.hide (HSt.out _ _ HW3.out hb)
  clear hb c0 c1 c2 HW3
  go_wp2_with fail
  refine (at_zero w.heap.size cap a l0 _ (HC.out.below Hw4.out.2.2.2.2.2) hl0).mono ?_
  rintro e w5 ⟨k, rfl, hk0, hk1, rfl⟩
  obtain ⟨c0, c1, c2, _, _, _⟩ := Hw4.out
  go_wp2_with fail
  refine (HAg.out (now + k) _ (by omega) (by omega) Hw4.out.2.2.2.1 Hw4.out.2.2.2.2.1).mono ?_
  rintro e w6 ⟨rfl, hb⟩
  have Hw6 := Num.hide (HSt.out _ _ Hw4.out hb)
  clear hb c0 c1 c2 Hw4
  have hAk := age_later l asked came now k hk0
  have hCb := ageAt_bd l asked came (now + k)
  have hFk := Num.hide (fresh_once l asked came now k hk0)
  have hFd : isFresh l asked came now = decide (ageAt l asked came now < lifetime l) := rfl
  have HFr1 := Num.hide (HFr.out now)
  have HFr2 := Num.hide (HFr.out (now + k))
  obtain ⟨F0, hF0⟩ : ∃ F0, isFresh l asked came now = F0 := ⟨_, rfl⟩
  obtain ⟨Fk, hFk2⟩ : ∃ Fk, isFresh l asked came (now + k) = Fk := ⟨_, rfl⟩
  have hfk := hFk.out
  rw [hF0] at HFr1 hfk hFd
  rw [hFk2] at HFr2 hfk
  have HFkk := Num.hide hfk
  clear hF0 hFk2 HFr HAg hfk hFk
  generalize ageAt l asked came now = A at hA hA1 hAf hAs hAk hFd ⊢
  generalize ageAt l asked came (now + 1) = B at hA1 hAs ⊢
  generalize ageAt l asked came (now + k) = Ck at hAk hCb ⊢
  generalize firstAge l asked came = FA at HFi hAf
  generalize lifetime l = L at HLi hLb hFd
  have HFd := Num.hide hFd
  have HAs := Num.hide hAs
  clear hFd hAs
  have d1 : decide (A < 0) = false := decide_eq_false (by omega)
  have d2 : decide (B < A) = false := decide_eq_false (by omega)
  have d3 : decide (A + 1 < B) = false := decide_eq_false (by omega)
  have d4 : decide (Ck < A) = false := decide_eq_false (by omega)
  have d5 : decide (2147483648 < Ck) = false := decide_eq_false (by omega)
  have d6 : decide (A < FA) = false := decide_eq_false (by omega)
  have d7 : decide (L < 0) = false := decide_eq_false (by omega)
  have d8 : decide (2147483648 < L) = false := decide_eq_false (by omega)
  obtain ⟨c0, c1, c2, _, _, _⟩ := Hw6.out
  go_wp2_with fail
  refine (HFi.out _ Hw6.out.2.2.2.1 Hw6.out.2.2.2.2.1).mono ?_
  rintro e w7 ⟨rfl, hb⟩
  have Hw7 := Num.hide (HSt.out _ _ Hw6.out hb)
  clear hb c0 c1 c2 Hw6
  obtain ⟨c0, c1, c2, _, _, _⟩ := Hw7.out
  go_wp2_with fail
  refine (HLi.out _ Hw7.out.2.2.2.1 Hw7.out.2.2.2.2.1).mono ?_
  rintro e w8 ⟨rfl, hb⟩
  have Hw8 := Num.hide (HSt.out _ _ Hw7.out hb)
  clear hb c0 c1 c2 Hw7
  obtain ⟨c0, c1, c2, _, _, _⟩ := Hw8.out
  go_wp2_with fail
  refine (HLi.out _ Hw8.out.2.2.2.1 Hw8.out.2.2.2.2.1).mono ?_
  rintro e w9 ⟨rfl, hb⟩
  have Hw9 := Num.hide (HSt.out _ _ Hw8.out hb)
  clear hb c0 c1 c2 Hw8
  clear d1 d2 d3 d4 d5 d6 d7 d8
  go_upto_region 10 with fail
  go_cut [109] from 14 (fun v wx => v = .bool false ∧ Hid (GAt G w gb st (.slice av l.length cv) l b wx))
  case first =>
    by_cases hle : came ≤ now
    · have e1 : decide (came ≤ now) = true := decide_eq_true hle
      have hB := HAs.out hle
      by_cases hm : 2147483648 < A + 1
      · obtain rfl : B = 2147483648 := by omega
        clear hB HAs
        obtain ⟨c0, c1, c2, _, _, _⟩ := Hw9.out
        go_wp2_with fail
        refine (HFr2.out _ ⟨by omega, by omega⟩ Hw9.out.2.2.2.1 Hw9.out.2.2.2.2.1).mono ?_
        rintro e wx ⟨rfl, hb⟩
        have Hwx := Num.hide (HSt.out _ _ Hw9.out hb)
        clear hb c0 c1 c2 Hw9
        cases Fk with
        | false =>
          go_wp2
          go_meet
          case rel => exact ⟨rfl, Hwx⟩
        | true =>
          obtain rfl : F0 = true := HFkk.out rfl
          obtain ⟨c0, c1, c2, _, _, _⟩ := Hwx.out
          go_wp2_with fail
          refine (HFr1.out _ ⟨by omega, by omega⟩ Hwx.out.2.2.2.1 Hwx.out.2.2.2.2.1).mono ?_
          rintro e wy ⟨rfl, hb⟩
          have Hwy := Num.hide (HSt.out _ _ Hwx.out hb)
          clear hb c0 c1 c2 Hwx
          go_wp2
          go_meet
          case rel => exact ⟨rfl, Hwy⟩
      · obtain rfl : B = A + 1 := by omega
        clear hB HAs
        obtain ⟨c0, c1, c2, _, _, _⟩ := Hw9.out
        go_wp2_with fail
        refine (HFr2.out _ ⟨by omega, by omega⟩ Hw9.out.2.2.2.1 Hw9.out.2.2.2.2.1).mono ?_
        rintro e wx ⟨rfl, hb⟩
        have Hwx := Num.hide (HSt.out _ _ Hw9.out hb)
        clear hb c0 c1 c2 Hw9
        cases Fk with
        | false =>
          go_wp2
          go_meet
          case rel => exact ⟨rfl, Hwx⟩
        | true =>
          obtain rfl : F0 = true := HFkk.out rfl
          obtain ⟨c0, c1, c2, _, _, _⟩ := Hwx.out
          go_wp2_with fail
          refine (HFr1.out _ ⟨by omega, by omega⟩ Hwx.out.2.2.2.1 Hwx.out.2.2.2.2.1).mono ?_
          rintro e wy ⟨rfl, hb⟩
          have Hwy := Num.hide (HSt.out _ _ Hwx.out hb)
          clear hb c0 c1 c2 Hwx
          go_wp2
          go_meet
          case rel => exact ⟨rfl, Hwy⟩
    · have e1 : decide (came ≤ now) = false := decide_eq_false hle
      clear HAs
      obtain ⟨c0, c1, c2, _, _, _⟩ := Hw9.out
      go_wp2_with fail
      refine (HFr2.out _ ⟨by omega, by omega⟩ Hw9.out.2.2.2.1 Hw9.out.2.2.2.2.1).mono ?_
      rintro e wx ⟨rfl, hb⟩
      have Hwx := Num.hide (HSt.out _ _ Hw9.out hb)
      clear hb c0 c1 c2 Hw9
      cases Fk with
      | false =>
        go_wp2
        go_meet
        case rel => exact ⟨rfl, Hwx⟩
      | true =>
        obtain rfl : F0 = true := HFkk.out rfl
        obtain ⟨c0, c1, c2, _, _, _⟩ := Hwx.out
        go_wp2_with fail
        refine (HFr1.out _ ⟨by omega, by omega⟩ Hwx.out.2.2.2.1 Hwx.out.2.2.2.2.1).mono ?_
        rintro e wy ⟨rfl, hb⟩
        have Hwy := Num.hide (HSt.out _ _ Hwx.out hb)
        clear hb c0 c1 c2 Hwx
        go_wp2
        go_meet
        case rel => exact ⟨rfl, Hwy⟩
  case rest =>
  obtain ⟨rfl, HW⟩ := hcut
  clear Hw9
  go_wp2_with fail
  refine (drawSat cap a l0 _ (code_at HC.out HW.out.2.2.2.2.2) hl0).mono ?_
  rintro e w10 ⟨x, y, rfl, hx, hy, hb⟩
  have Hw10 := Num.hide (HSt.out _ _ HW.out hb)
  clear hb HW
  go_wp2_with fail
  refine (HSa.out x y _ hx hy Hw10.out.2.2.2.2.1).mono ?_
  rintro e w11 ⟨rfl, hb⟩
  have Hw11 := Num.hide (HSt.out _ _ Hw10.out hb)
  clear hb Hw10
  have hsb := satAdd_bd x y
  have hsc := satAdd_comm x y
  have HSb := Num.hide (fun W g => HSa.out y x W hy hx g)
  rw [← hsc] at HSb
  generalize satAdd x y = N at HSb hsb ⊢
  clear hsc HSa
  have HN := Num.hide (HSt.out _ _ Hw11.out (Below.refl w11.heap.size w11).drew)
  have n0 : decide (0 ≤ N) = true := decide_eq_true hsb.1
  have n1 : decide (N ≤ 2147483648) = true := decide_eq_true hsb.2
  go_wp2
  refine wp_region_held_drew (S := GAt G w gb st (.slice av l.length cv) l b) (by kernel_rfl) HN.out (fun hHeld => ?_)
  refine Reg.take (i := 0) (d := 118) (v := ?_) rfl rfl (by kernel_rfl) (by kernel_rfl) (by kernel_rfl) (fun _ _ _ h => h) (by rfl) ?_ hHeld ?_
  rotate_left
  · rintro W ⟨h1, h2, h3, h4, h5, h6⟩
    first | (go_simp; done) | (go_simp; with_reducible rfl)
  simp only [Act.put, List.setIfInBounds_toArray, List.set_cons_zero, List.set_cons_succ]
  refine Reg.take (i := 1) (d := 119) (v := ?_) rfl rfl (by kernel_rfl) (by kernel_rfl) (by kernel_rfl) (fun _ _ _ h => h) (by rfl) ?_ hHeld ?_
  rotate_left
  · rintro W ⟨h1, h2, h3, h4, h5, h6⟩
    first | (go_simp; done) | (go_simp; with_reducible rfl)
  simp only [Act.put, List.setIfInBounds_toArray, List.set_cons_zero, List.set_cons_succ]
  refine Reg.take (i := 2) (d := 120) (v := ?_) rfl rfl (by kernel_rfl) (by kernel_rfl) (by kernel_rfl) (fun _ _ _ h => h) (by rfl) ?_ hHeld ?_
  rotate_left
  · rintro W ⟨h1, h2, h3, h4, h5, h6⟩
    first | (go_simp; done) | (go_simp; with_reducible rfl)
  simp only [Act.put, List.setIfInBounds_toArray, List.set_cons_zero, List.set_cons_succ]
  refine Reg.call (i := 3) rfl (by kernel_rfl) (by rfl) (fun K hK => ?_)
  go_wp2_with (first | (go_at_call 14; refine (HSb.out _ hHeld.2.2.2.2.1).mono ?_; rintro e w2 ⟨rfl, hb2⟩))
  refine hK.out _ _ ?_ (fun hHeld2 => ?_)
  · exact HSt.out _ _ hHeld hb2
  clear hK K
  replace hHeld := hHeld2
  clear hHeld2
  refine Reg.take (i := 4) (d := 122) (v := ?_) rfl rfl (by kernel_rfl) (by kernel_rfl) (by kernel_rfl) (fun _ _ _ h => h) (by rfl) ?_ hHeld ?_
  rotate_left
  · rintro W ⟨h1, h2, h3, h4, h5, h6⟩
    first | (go_simp; done) | (go_simp; with_reducible rfl)
  simp only [Act.put, List.setIfInBounds_toArray, List.set_cons_zero, List.set_cons_succ]
  refine Reg.take (i := 5) (d := 123) (v := ?_) rfl rfl (by kernel_rfl) (by kernel_rfl) (by kernel_rfl) (fun _ _ _ h => h) (by rfl) ?_ hHeld ?_
  rotate_left
  · rintro W ⟨h1, h2, h3, h4, h5, h6⟩
    first | (go_simp; done) | (go_simp; with_reducible rfl)
  simp only [Act.put, List.setIfInBounds_toArray, List.set_cons_zero, List.set_cons_succ]
  refine Reg.take (i := 6) (d := 124) (v := ?_) rfl rfl (by kernel_rfl) (by kernel_rfl) (by kernel_rfl) (fun _ _ _ h => h) (by rfl) ?_ hHeld ?_
  rotate_left
  · rintro W ⟨h1, h2, h3, h4, h5, h6⟩
    first | (go_simp; done) | (go_simp; with_reducible rfl)
  simp only [Act.put, List.setIfInBounds_toArray, List.set_cons_zero, List.set_cons_succ]
  refine Reg.take (i := 7) (d := 125) (v := ?_) rfl rfl (by kernel_rfl) (by kernel_rfl) (by kernel_rfl) (fun _ _ _ h => h) (by rfl) ?_ hHeld ?_
  rotate_left
  · rintro W ⟨h1, h2, h3, h4, h5, h6⟩
    first | (go_simp; done) | (go_simp; with_reducible rfl)
  simp only [Act.put, List.setIfInBounds_toArray, List.set_cons_zero, List.set_cons_succ]
  refine Reg.take (i := 8) (d := 126) (v := ?_) rfl rfl (by kernel_rfl) (by kernel_rfl) (by kernel_rfl) (fun _ _ _ h => h) (by rfl) ?_ hHeld ?_
  rotate_left
  · rintro W ⟨h1, h2, h3, h4, h5, h6⟩
    first | (go_simp; done) | (go_simp; with_reducible rfl)
  simp only [Act.put, List.setIfInBounds_toArray, List.set_cons_zero, List.set_cons_succ]
  refine Reg.take (i := 9) (d := 127) (v := ?_) rfl rfl (by kernel_rfl) (by kernel_rfl) (by kernel_rfl) (fun _ _ _ h => h) (by rfl) ?_ hHeld ?_
  rotate_left
  · rintro W ⟨h1, h2, h3, h4, h5, h6⟩
    first | (go_simp; done) | (go_simp; with_reducible rfl)
  simp only [Act.put, List.setIfInBounds_toArray, List.set_cons_zero, List.set_cons_succ]
  refine Reg.take (i := 10) (d := 128) (v := ?_) rfl rfl (by kernel_rfl) (by kernel_rfl) (by kernel_rfl) (fun _ _ _ h => h) (by rfl) ?_ hHeld ?_
  rotate_left
  · rintro W ⟨h1, h2, h3, h4, h5, h6⟩
    first | (go_simp; done) | (go_simp; with_reducible rfl)
  simp only [Act.put, List.setIfInBounds_toArray, List.set_cons_zero, List.set_cons_succ]
  refine Reg.take (i := 11) (d := 129) (v := ?_) rfl rfl (by kernel_rfl) (by kernel_rfl) (by kernel_rfl) (fun _ _ _ h => h) (by rfl) ?_ hHeld ?_
  rotate_left
  · rintro W ⟨h1, h2, h3, h4, h5, h6⟩
    first | (go_simp; done) | (go_simp; with_reducible rfl)
  simp only [Act.put, List.setIfInBounds_toArray, List.set_cons_zero, List.set_cons_succ]
  refine Reg.take (i := 12) (d := 130) (v := ?_) rfl rfl (by kernel_rfl) (by kernel_rfl) (by kernel_rfl) (fun _ _ _ h => h) (by rfl) ?_ hHeld ?_
  rotate_left
  · rintro W ⟨h1, h2, h3, h4, h5, h6⟩
    first | (go_simp; done) | (go_simp; with_reducible rfl)
  simp only [Act.put, List.setIfInBounds_toArray, List.set_cons_zero, List.set_cons_succ]
  refine Reg.take (i := 13) (d := 131) (v := ?_) rfl rfl (by kernel_rfl) (by kernel_rfl) (by kernel_rfl) (fun _ _ _ h => h) (by rfl) ?_ hHeld ?_
  rotate_left
  · rintro W ⟨h1, h2, h3, h4, h5, h6⟩
    first | (go_simp; done) | (go_simp; with_reducible rfl)
  simp only [Act.put, List.setIfInBounds_toArray, List.set_cons_zero, List.set_cons_succ]
  refine Reg.take (i := 14) (d := 132) (v := ?_) rfl rfl (by kernel_rfl) (by kernel_rfl) (by kernel_rfl) (fun _ _ _ h => h) (by rfl) ?_ hHeld ?_
  rotate_left
  · rintro W ⟨h1, h2, h3, h4, h5, h6⟩
    first | (go_simp; done) | (go_simp; with_reducible rfl)
  simp only [Act.put, List.setIfInBounds_toArray, List.set_cons_zero, List.set_cons_succ]
  refine Reg.take (i := 15) (d := 133) (v := ?_) rfl rfl (by kernel_rfl) (by kernel_rfl) (by kernel_rfl) (fun _ _ _ h => h) (by rfl) ?_ hHeld ?_
  rotate_left
  · rintro W ⟨h1, h2, h3, h4, h5, h6⟩
    first | (go_simp; done) | (go_simp; with_reducible rfl)
  simp only [Act.put, List.setIfInBounds_toArray, List.set_cons_zero, List.set_cons_succ]
  refine Reg.take (i := 16) (d := 134) (v := ?_) rfl rfl (by kernel_rfl) (by kernel_rfl) (by kernel_rfl) (fun _ _ _ h => h) (by rfl) ?_ hHeld ?_
  rotate_left
  · rintro W ⟨h1, h2, h3, h4, h5, h6⟩
    first | (go_simp; done) | (go_simp; with_reducible rfl)
  simp only [Act.put, List.setIfInBounds_toArray, List.set_cons_zero, List.set_cons_succ]
  refine Reg.take (i := 17) (d := 135) (v := ?_) rfl rfl (by kernel_rfl) (by kernel_rfl) (by kernel_rfl) (fun _ _ _ h => h) (by rfl) ?_ hHeld ?_
  rotate_left
  · rintro W ⟨h1, h2, h3, h4, h5, h6⟩
    first | (go_simp; done) | (go_simp; with_reducible rfl)
  simp only [Act.put, List.setIfInBounds_toArray, List.set_cons_zero, List.set_cons_succ]
  refine Reg.take (i := 19) (d := 137) (v := ?_) rfl rfl (by kernel_rfl) (by kernel_rfl) (by kernel_rfl) (fun _ _ _ h => h) (by rfl) ?_ hHeld ?_
  rotate_left
  · rintro W ⟨h1, h2, h3, h4, h5, h6⟩
    first | (go_simp; done) | (go_simp; with_reducible rfl)
  simp only [Act.put, List.setIfInBounds_toArray, List.set_cons_zero, List.set_cons_succ]
  refine Reg.take (i := 21) (d := 139) (v := ?_) rfl rfl (by kernel_rfl) (by kernel_rfl) (by kernel_rfl) (fun _ _ _ h => h) (by rfl) ?_ hHeld ?_
  rotate_left
  · rintro W ⟨h1, h2, h3, h4, h5, h6⟩
    first | (go_simp; done) | (go_simp; with_reducible rfl)
  simp only [Act.put, List.setIfInBounds_toArray, List.set_cons_zero, List.set_cons_succ]
  refine Reg.call (i := 18) rfl (by kernel_rfl) (by rfl) (fun K hK => ?_)
  go_wp2_with (first | (go_at_call 12; refine (HFr1.out _ ⟨by omega, by omega⟩ hHeld.2.2.2.1 hHeld.2.2.2.2.1).mono ?_; rintro e w3 ⟨rfl, hb3⟩))
  refine hK.out _ _ ?_ (fun hHeld2 => ?_)
  · exact HSt.out _ _ hHeld hb3
  clear hK K
  replace hHeld := hHeld2
  clear hHeld2
  refine Reg.call (i := 20) rfl (by kernel_rfl) (by rfl) (fun K hK => ?_)
  go_wp2_with (first | (go_at_call 11; refine (HLi.out _ hHeld.2.2.2.1 hHeld.2.2.2.2.1).mono ?_; rintro e w4 ⟨rfl, hb4⟩))
  refine hK.out _ _ ?_ (fun hHeld2 => ?_)
  · exact HSt.out _ _ hHeld hb4
  clear hK K
  replace hHeld := hHeld2
  clear hHeld2
  refine Reg.take (i := 22) (d := 140) (v := ?_) rfl rfl (by kernel_rfl) (by kernel_rfl) (by kernel_rfl) (fun _ _ _ h => h) (by rfl) ?_ hHeld ?_
  rotate_left
  · rintro W ⟨h1, h2, h3, h4, h5, h6⟩
    first | (go_simp; done) | (go_simp; with_reducible rfl)
  simp only [Act.put, List.setIfInBounds_toArray, List.set_cons_zero, List.set_cons_succ]
  refine Reg.take (i := 23) (d := 141) (v := ?_) rfl rfl (by kernel_rfl) (by kernel_rfl) (by kernel_rfl) (fun _ _ _ h => h) (by rfl) ?_ hHeld ?_
  rotate_left
  · rintro W ⟨h1, h2, h3, h4, h5, h6⟩
    first | (go_simp; done) | (go_simp; with_reducible rfl)
  simp only [Act.put, List.setIfInBounds_toArray, List.set_cons_zero, List.set_cons_succ]
  refine Reg.take (i := 24) (d := 142) (v := ?_) rfl rfl (by kernel_rfl) (by kernel_rfl) (by kernel_rfl) (fun _ _ _ h => h) (by rfl) ?_ hHeld ?_
  rotate_left
  · rintro W ⟨h1, h2, h3, h4, h5, h6⟩
    first | (go_simp; done) | (go_simp; with_reducible rfl)
  simp only [Act.put, List.setIfInBounds_toArray, List.set_cons_zero, List.set_cons_succ]
  refine Reg.take (i := 25) (d := 2) (v := ?_) rfl rfl (by kernel_rfl) (by kernel_rfl) (by kernel_rfl) (fun _ _ _ h => h) (by rfl) ?_ hHeld ?_
  rotate_left
  · rintro W ⟨h1, h2, h3, h4, h5, h6⟩
    first | (go_simp; done) | (go_simp; with_reducible rfl)
  simp only [Act.put, List.setIfInBounds_toArray, List.set_cons_zero, List.set_cons_succ]
  refine wpAnyH_done (by kernel_rfl) ?_ _
  have HB := Num.hide hHeld.2.2.2.2.2
  clear hHeld HN
  rw [HFd.out]
  go_wp2
  go_ret
  exact ⟨by first | rfl | simp, HB.out⟩
end Ages
end Go.Proofs.YtihiljickefanaaGreatDoor
