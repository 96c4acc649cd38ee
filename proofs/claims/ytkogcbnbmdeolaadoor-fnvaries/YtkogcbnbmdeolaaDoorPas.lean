/-
  FitsImpl: VaryFits of the program: what was picked is taken away one by one.
  DrawFldL: The specification's draws of lists of fields.
  DrawPickInt: l1PickInt of the draws, of a cursor in whatever state.
-/
import Derived.Test.YtkogcbnbmdeolaaDoorPaq
import Derived.BigQuiet
import Derived.Test.YtkogcbnbmdeolaaDoorDrawFld
import Derived.Test.YtkogcbnbmdeolaaDoorDrawLive
namespace Go.Proofs.YtkogcbnbmdeolaaDoor
open Go.RowKit
set_option linter.unusedVariables false
set_option linter.unusedSimpArgs false
namespace Vary
open Flds (Fld)

/-- what is left of a list behind its first k: where it lies -/
def Left (w : World) (L : List Fld) (k : Nat) (v : Value) : Prop :=
  ∃ a n c, v = .slice a n c ∧ n = L.length - k ∧ (0 < n → ∃ b o, a = some ⟨b, o, none⟩ ∧ n ≤ c ∧ c ≤ maxLen ∧ b < w.heap.size ∧ ∀ i (h : k + i < L.length), w.cell? ⟨b, o + i * 2, none⟩ = some (.string L[k + i].1) ∧ w.cell? ⟨b, o + i * 2 + 1, none⟩ = some (.string L[k + i].2))
theorem left_start {w : World} {v : Value} {L : List Fld} (h : Flds.Is w v L) : Left w L 0 v := by
  obtain ⟨a, c, rfl, h2⟩ := Flds.is_form h
  refine ⟨a, L.length, c, rfl, rfl, fun hp => ?_⟩
  obtain ⟨b, o, h3, h4, h5, h6, h7⟩ := h2 hp
  refine ⟨b, o, h3, h4, h5, h6, fun i hi => ?_⟩
  have e : L[0 + i] = L[i]'(by omega) := by congr 1; omega
  rw [e]; exact h7 i (by omega)
theorem left_on {w : World} {L : List Fld} {k b o n c : Nat} (h : Left w L k (.slice (some ⟨b, o, none⟩) n c)) (hn : 0 < n) : Left w L (k + 1) (.slice (if c = 1 then some ⟨b, o, none⟩ else some ⟨b, o + 2, none⟩) (n - 1) (c - 1)) := by
  obtain ⟨a, n', c', e, hn', h2⟩ := h
  injection e with e1 e2 e3
  subst e2 e3
  have a1 : n - 1 = L.length - (k + 1) := by clear h2; omega
  obtain ⟨b', o', h3, h4, h5, h6, h7⟩ := h2 hn
  rw [← e1] at h3
  cases h3
  refine ⟨_, n - 1, c - 1, rfl, a1, fun hp => ⟨b, o + 2, if_neg (by omega), by omega, by omega, h6, fun i hi => ?_⟩⟩
  have h8 := h7 (i + 1) (by omega)
  have e : L[k + 1 + i] = L[k + (i + 1)]'(by omega) := by congr 1; omega
  rw [e, show o + 2 + i * 2 = o + (i + 1) * 2 from by omega]
  exact h8
set_option maxRecDepth 100000 in
set_option maxHeartbeats 4000000 in
theorem varyFits_impl (m u : ByteArray) (st : Int) (v1 v2 v3 : Value) (l1 l2 l3 : List Fld) (b1 b2 : ByteArray) (w : World) (h1 : Flds.Is w v1 l1) (h2 : Flds.Is w v2 l2) (h3 : Flds.Is w v3 l3) (hl1 : Flds.bulk l1 ≤ 1048576) (hl2 : Flds.bulk l2 ≤ 1048576) (hl3 : l3.length ≤ 4194304) :
    Calls Tryd.prog 23 #[Req.val m u v1 b1, Resp.val st v2 b2, v3] w fun e w' => e = .returned (.bool (decide (picked l1 l2 = l3))) ∧ Below w.heap.size w w' := by
  have K0 := Num.hide (Pol.pat_first w m u v1 l1 b1 st v2 l2 b2 h1 h2)
  have I3 := Num.hide (Recs.is_below h3 K0.out.2.2.2.2.2.2.2.2.2)
  have HP := Num.hide (fun W h1 h2 => picked_impl m u st v1 v2 l1 l2 b1 b2 W h1 h2 hl1 hl2)
  have hlen : (picked l1 l2).length ≤ 1099511627776 := by
    have h := names_len (Sign.split (Flds.get l2 varyName).1)
    have h2 := Cc.split_len (Flds.get l2 varyName).1
    have h3 := Cc.get_bulk l2 varyName (by decide)
    have h4 := pick_len l1 (varyNames l2)
    unfold picked
    unfold varyNames at *
    omega
  generalize picked l1 l2 = P at HP hlen ⊢
  obtain ⟨r, hr⟩ : ∃ r, decide (P = l3) = r := ⟨_, rfl⟩
  rw [hr]
  have HR := Num.hide hr
  obtain ⟨av1, cv1, rfl, -⟩ := Flds.is_form h1
  obtain ⟨av2, cv2, rfl, -⟩ := Flds.is_form h2
  obtain ⟨av3, cv3, rfl, -⟩ := Flds.is_form h3
  unfold Req.val Resp.val at HP ⊢
  clear h1 h2 h3 hr
  go_enter Tryd.func23, Tryd.ntmps23
  go_upto_region 1 with fail
  generalize (w.alloc (.cells #[.string m, .string u, .slice av1 l1.length cv1, .string b1] 32)).alloc (.cells #[.int .i64 st, .slice av2 l2.length cv2, .string b2] 34) = w0 at K0 I3 ⊢
  obtain ⟨c0, c1, c2, c3, c4, c5, c6, -, -, -⟩ := K0.out
  go_wp2_with fail
  refine (HP.out _ K0.out.2.2.2.2.2.2.2.1 K0.out.2.2.2.2.2.2.2.2.1).mono ?_
  rintro e w1 ⟨v', rfl, ho, hb⟩
  obtain ⟨ap, cp, rfl⟩ := Recs.own_len ho
  have IP := Num.hide (Flds.is_form (Recs.own_is Flds.cells_len ho))
  have L0 := Num.hide (left_start (Recs.is_below I3.out hb))
  have HB := Num.hide (K0.out.2.2.2.2.2.2.2.2.2.trans (hb.mono K0.out.2.2.2.2.2.2.2.2.2.size))
  clear ho hb c0 c1 c2 c3 c4 c5 c6 K0 I3 HP
  go_wp2
  go_loopw [2, 13] (fun sv iv wr => ∃ k : Nat, k ≤ P.length ∧ k ≤ l3.length ∧ iv = .int .i64 (k : Int) ∧ Hid (Left w1 l3 k sv) ∧ Hid (P.take k = l3.take k) ∧ Hid (Below w1.heap.size w1 wr)) (fun _ iv _ => P.length - (intOf iv).toNat)
  case atStart => exact ⟨0, by omega, by omega, rfl, L0, rfl, Below.refl _ _⟩
  case round =>
    clear L0
    obtain ⟨k, hk, hk3, rfl, HL, HT, HW⟩ := hrel
    obtain ⟨a, n, c, rfl, hn, hl⟩ := HL.out
    have HN := Num.hide hn
    clear hn
    by_cases hlt : k < P.length
    · obtain ⟨av, cv, e, hp⟩ := IP.out
      injection e with e1 e2 e3
      subst e1 e3
      obtain ⟨bp, op, rfl, hc1, hc2, hblt, hcell⟩ := hp (by omega)
      obtain ⟨g1, g2⟩ := hcell k hlt
      have c1 : wr.cell? ⟨bp, op + k * 2, none⟩ = some (.string P[k].1) := by rw [HW.out.cell (p := ⟨bp, op + k * 2, none⟩) hblt]; exact g1
      have c2 : wr.cell? ⟨bp, op + k * 2 + 1, none⟩ = some (.string P[k].2) := by rw [HW.out.cell (p := ⟨bp, op + k * 2 + 1, none⟩) hblt]; exact g2
      have HF : Hid (P[k]? = some P[k]) := List.getElem?_eq_getElem hlt
      clear hcell g1 g2 e2 hp
      generalize P[k] = f at c1 c2 HF
      obtain ⟨x, y⟩ := f
      simp only at c1 c2
      have HX : Hid (P[k]? = some (x, y)) := HF.out
      clear HF
      have hb1 : Below wr.heap.size wr (wr.alloc (.cells #[.string x, .string y] 40)) := (Below.refl _ _).alloc (Nat.le_refl _) _
      have HW1 := Num.hide (HW.out.trans (hb1.mono HW.out.size))
      have X1 := Num.hide (heap_alloc_new wr (.cells #[.string x, .string y] 40))
      clear hb1
      by_cases hn0 : n = 0
      · subst hn0
        have hf : r = false := by
          rw [← HR.out]
          refine decide_eq_false (fun h => ?_)
          rw [h] at hlt
          have := HN.out
          omega
        subst hf
        clear hl HL HN HX
        go_upto_region 4 with fail
        generalize wr.alloc (.cells #[.string x, .string y] 40) = wq at HW1 X1 ⊢
        go_quiet (fail)
        go_wp2
        go_ret
        exact ⟨rfl, HB.out.trans ((Recs.below_drewN HW1.out nq).mono HB.out.size)⟩
      · obtain ⟨b3, o3, rfl, hc31, hc32, hblt3, hcell3⟩ := hl (by omega)
        have hk4 : k < l3.length := by have := HN.out; omega
        obtain ⟨g1, g2⟩ := hcell3 0 (by omega)
        have hcut := Num.hide (left_on HL.out (by omega))
        have ek : l3[k + 0] = l3[k] := rfl
        rw [ek] at g1 g2
        have HX3 : Hid (l3[k]? = some l3[k]) := List.getElem?_eq_getElem hk4
        have hbl : Below w1.heap.size w1 (wr.alloc (.cells #[.string x, .string y] 40)) := HW1.out
        have c3 : (wr.alloc (.cells #[.string x, .string y] 40)).cell? ⟨b3, o3, none⟩ = some (.string l3[k].1) := by rw [hbl.cell (p := ⟨b3, o3, none⟩) hblt3]; have := g1; simpa using this
        have c4 : (wr.alloc (.cells #[.string x, .string y] 40)).cell? ⟨b3, o3 + 1, none⟩ = some (.string l3[k].2) := by rw [hbl.cell (p := ⟨b3, o3 + 1, none⟩) hblt3]; have := g2; simpa using this
        clear hcell3 g1 g2 ek hbl
        generalize l3[k] = f at c3 c4 HX3
        obtain ⟨x', y'⟩ := f
        simp only at c3 c4
        have d0 : ((n : Int) == 0) = false := by rw [beq_eq_false_iff_ne]; omega
        have hg := fun op a b W => Flds.guard_run op a b #[.string x', .string y'] #[.string x, .string y] W
        have hq := fun W => Flds.neq_run x' y' x y W
        by_cases he : ((x', y') : Fld) = (x, y)
        · rw [decide_eq_true he] at hq
          have HT2 : Hid (P.take (k + 1) = l3.take (k + 1)) := by
            show _ = _
            rw [List.take_add_one, List.take_add_one, HX.out, HX3.out, HT.out, he]
          clear he hl HL HX HX3 HT
          go_upto_region 4 with fail
          generalize wr.alloc (.cells #[.string x, .string y] 40) = wq at HW1 X1 c3 c4 ⊢
          have e1 : wq.cell? ⟨wr.heap.size, 0, none⟩ = some (.string x) := Recs.box_cell X1.out 0
          have e2 : wq.cell? ⟨wr.heap.size, 1, none⟩ = some (.string y) := Recs.box_cell X1.out 1
          go_quiet (fail)
          go_wp2
          go_roundw
          case rel => exact ⟨k + 1, by omega, by omega, by go_num, hcut.out, HT2, Recs.below_drewN HW1.out nq⟩
          case measure => simp [intOf]; omega
        · rw [decide_eq_false he] at hq
          have hf : r = false := by
            rw [← HR.out]
            refine decide_eq_false (fun h => he ?_)
            have := HX.out
            rw [h, HX3.out] at this
            exact Option.some.inj this
          subst hf
          clear he hl HL HX HX3 HT hcut
          go_upto_region 4 with fail
          generalize wr.alloc (.cells #[.string x, .string y] 40) = wq at HW1 X1 c3 c4 ⊢
          have e1 : wq.cell? ⟨wr.heap.size, 0, none⟩ = some (.string x) := Recs.box_cell X1.out 0
          have e2 : wq.cell? ⟨wr.heap.size, 1, none⟩ = some (.string y) := Recs.box_cell X1.out 1
          go_quiet (fail)
          go_wp2
          go_ret
          exact ⟨rfl, HB.out.trans ((Recs.below_drewN HW1.out nq).mono HB.out.size)⟩
    · obtain rfl : k = P.length := by omega
      have hrr : ((n : Int) == 0) = r := by
        rw [← HR.out, Bool.eq_iff_iff, beq_iff_eq, decide_eq_true_iff]
        have h1 := HT.out
        rw [List.take_length] at h1
        have h2 := HN.out
        constructor
        · intro h
          rw [h1, List.take_of_length_le (by omega)]
        · intro h
          rw [← h] at h2
          omega
      clear hl HL HT HN
      go_wp2
      go_ret
      exact ⟨rfl, HB.out.trans (HW.out.mono HB.out.size)⟩
end Vary
end Go.Proofs.YtkogcbnbmdeolaaDoor
namespace Go.Proofs.YtkogcbnbmdeolaaDoor
open Go.RowKit
set_option linter.unusedVariables false
namespace Draw

/-- few fields, of small texts -/
structure Few (n : Nat) (l : List Flds.Fld) : Prop where
  len : l.length ≤ n
  small : ∀ f ∈ l, f.1.size ≤ 64 ∧ f.2.size ≤ 64
theorem Few.more {n : Nat} {l : List Flds.Fld} {x y : ByteArray} (h : Few n l) (hx : x.size ≤ 64) (hy : y.size ≤ 64) : Few (n + 1) (l ++ [(x, y)]) :=
  ⟨by rw [List.length_append, List.length_singleton]; have := h.len; omega, fun f hf => by
    rcases List.mem_append.1 hf with h1 | h1
    · exact h.small f h1
    · rw [List.mem_singleton.1 h1]; exact ⟨hx, hy⟩⟩
theorem Few.mono {n m : Nat} {l : List Flds.Fld} (h : Few n l) (hnm : n ≤ m) : Few m l := ⟨Nat.le_trans h.len hnm, h.small⟩
theorem Few.sum {l : List Flds.Fld} {n : Nat} (h : Few n l) : (l.map fun f => f.1.size + f.2.size).sum ≤ 128 * l.length := by
  have key : ∀ (l : List Flds.Fld), (∀ f ∈ l, f.1.size ≤ 64 ∧ f.2.size ≤ 64) → (l.map fun f => f.1.size + f.2.size).sum ≤ 128 * l.length := by
    intro l
    induction l with
    | nil => intro _; simp
    | cons f l ih =>
      intro h
      have h1 := h f (List.mem_cons_self ..)
      have h2 := ih (fun g hg => h g (List.mem_cons_of_mem _ hg))
      rw [List.map_cons, List.sum_cons, List.length_cons]
      omega
  exact key l h.small
theorem Few.bulk {l : List Flds.Fld} {n : Nat} (h : Few n l) (hn : n ≤ 100) : Flds.bulk l ≤ 100000 := by
  have key : ∀ (l : List Flds.Fld), (∀ f ∈ l, f.1.size ≤ 64 ∧ f.2.size ≤ 64) → (l.map fun f => f.1.size + f.2.size).sum ≤ 128 * l.length := by
    intro l
    induction l with
    | nil => intro _; simp
    | cons f l ih =>
      intro h
      have h1 := h f (List.mem_cons_self ..)
      have h2 := ih (fun g hg => h g (List.mem_cons_of_mem _ hg))
      rw [List.map_cons, List.sum_cons, List.length_cons]
      omega
  have h1 := key l h.small
  have h2 := h.len
  unfold Flds.bulk
  omega
/-- an owned row stays while the cursor moves -/
theorem own_only {B C : Nat} {w w' : World} {v : Value} {l : List Flds.Fld} (h : Flds.Own B w v l) (ho : Only C w w') (hC : C < B) : Flds.Own B w' v l := ho.owns hC h
/-- they are all as they are drawn -/
def AllSaid (l : List Flds.Fld) : Prop := ∀ f ∈ l, Drawn f.1 f.2
theorem AllSaid.calm {l : List Flds.Fld} (h : AllSaid l) : ∀ f ∈ l, Calm.Said f.1 f.2 := fun f hf => (h f hf).said
theorem AllSaid.more {l : List Flds.Fld} {x y : ByteArray} (h : AllSaid l) (hs : Drawn x y) : AllSaid (l ++ [(x, y)]) := by
  intro f hf
  rcases List.mem_append.1 hf with h1 | h1
  · exact h f h1
  · rw [List.mem_singleton.1 h1]; exact hs
/-- such, and not nil -/
structure Laid (l : List Flds.Fld) (v : Value) : Prop where
  said : AllSaid l
  there : ¬ v = .slice none 0 0
theorem own_some {B : Nat} {w : World} {v : Value} {l : List Flds.Fld} (h : Flds.Own B w v l) (hn : ¬ v = .slice none 0 0) : ∃ g c, v = .slice (some ⟨g, 0, none⟩) l.length c := by
  rcases h.2 with ⟨h1, _⟩ | ⟨g, cap, cur, h1, _⟩
  · exact absurd h1 hn
  · exact ⟨g, cap, h1⟩
set_option maxRecDepth 100000 in
set_option maxHeartbeats 2000000 in
theorem fields_q (B C : Nat) (w : World) (h : Live B C w) :
    Calls Tryd.prog 57 #[.pointer (some ⟨C, 0, none⟩)] w fun e w' => ∃ v l, e = .returned v ∧ Flds.Own w.heap.size w' v l ∧ Few 4 l ∧ AllSaid l ∧ (∃ g c, v = .slice (some ⟨g, 0, none⟩) l.length c) ∧ Live B C w' ∧ Only C w w' := by
  have hC := h.lt
  obtain ⟨i0, hi0, hz0, hz1, hz2⟩ := info_parts Flds.infoF
  have HL0 := Num.hide (h.alloc (.cells #[] 40))
  have HO0 := Num.hide ((Only.refl C w).alloc (.cells #[] 40))
  have HD := Num.hide (Flds.made_nil w)
  clear h
  go_enter Tryd.func57, Tryd.ntmps57
  go_wp2_with fail
  refine (below_live B C 5 _ HL0.out (by omega) (by omega)).mono ?_
  rintro e w1 ⟨z, rfl, hz0', hz1', hl, ho⟩
  obtain ⟨m, rfl⟩ := Int.eq_ofNat_of_zero_le hz0'
  have HL1 := Num.hide hl
  have HO1 := Num.hide (HO0.out.trans ho)
  have HD1 := Num.hide (own_only HD.out ho hC)
  clear hl ho HL0 HO0 HD
  go_wp2
  go_loopw [3, 4] (fun ov nv wr => ∃ (k : Nat) (l : List Flds.Fld), nv = .int .i64 (k : Int) ∧ k ≤ 4 ∧ Hid (Flds.Own w.heap.size wr ov l) ∧ Hid (Few (4 - k) l) ∧ Hid (Laid l ov) ∧ Hid (Live B C wr) ∧ Hid (Only C w wr)) (fun _ nv _ => (intOf nv).toNat)
  case atStart => exact ⟨m, [], rfl, by omega, HD1, ⟨Nat.zero_le _, fun f hf => by cases hf⟩, ⟨(fun f hf => by cases hf), (by intro h; cases h)⟩, HL1, HO1⟩
  case round =>
    clear HL1 HO1 HD1
    obtain ⟨k, l, rfl, hk, HO, HF, HS, HL, HN⟩ := hrel
    have hsz := HN.out.size
    have hlen := HF.out.len
    by_cases h0 : 0 < (k : Int)
    · go_wp2_with fail
      refine (field_q B C _ HL.out).mono ?_
      rintro e w2 ⟨x, y, rfl, hx, hy, hs2, hl2, ho2⟩
      have HSd := Num.hide hs2
      clear hs2
      have hsz2 : w.heap.size ≤ w2.heap.size := Nat.le_trans hsz ho2.size
      have HO2 := Num.hide (own_only HO.out ho2 hC)
      have HN2 := Num.hide (HN.out.trans ho2)
      have HL2 := Num.hide hl2
      clear hl2 ho2 HL HN HO
      go_wp2_with (at_builtin; refine wpList_append_own _ rfl _ _ 30 rfl w.heap.size 40 i0 _ 2 32 Tryd.underlying30 hi0 hz0 hz1 hz2 rfl (by decide) _ _ _ rfl (World.ownsRow.alloc HO2.out _) ⟨w2.heap.size, 0, none⟩ 1 1 [.string x, .string y] rfl rfl (Flds.cells_two w2 x y) (Flds.two_ok x y) (by unfold maxLen; omega) (by omega) ?c9 ?_)
      case c9 => first | omega | (simp; omega)
      intro v' w3 ho3 hg3 hnil
      obtain ⟨hp1, hp2⟩ := Flds.put_more hsz2 HO2.out (Below.refl w.heap.size _) ho3 hg3
      have HP1 := Num.hide hp1
      have HP2 := Num.hide (HL2.out.under hp2 hC)
      have HP3 := Num.hide (HN2.out.of_below hp2)
      have HP4 := Num.hide ((HF.out.more hx hy).mono (by omega : 4 - k + 1 ≤ 4 - (k - 1)))
      have HS2 : Hid (Laid (l ++ [(x, y)]) v') := ⟨HS.out.said.more HSd.out, fun h => hnil h⟩
      clear ho3 hg3 hp1 hp2 hnil
      go_wp2
      go_roundw
      case rel => exact ⟨k - 1, _, by go_num, by omega, HP1, HP4, HS2, HP2, HP3⟩
      case measure => simp [intOf]; omega
    · have HF4 := Num.hide (HF.out.mono (by omega : 4 - k ≤ 4))
      have HG := Num.hide (own_some HO.out HS.out.there)
      go_wp2
      go_ret
      first | exact ⟨_, _, rfl, HO.out, HF4.out, HS.out.said, HG.out, HL.out, HN.out⟩ | exact ⟨_, rfl, _, HO.out, HF4.out, HS.out.said, HG.out, HL.out, HN.out⟩
theorem fields_live (B C : Nat) (w : World) (h : Live B C w) :
    Calls Tryd.prog 57 #[.pointer (some ⟨C, 0, none⟩)] w fun e w' => ∃ v l, e = .returned v ∧ Flds.Own w.heap.size w' v l ∧ Few 4 l ∧ Live B C w' ∧ Only C w w' :=
  (fields_q B C w h).mono fun e w' ⟨v, l, h1, h2, h3, _, _, h4, h5⟩ => ⟨v, l, h1, h2, h3, h4, h5⟩
end Draw
end Go.Proofs.YtkogcbnbmdeolaaDoor
namespace Go.Proofs.YtkogcbnbmdeolaaDoor
open Go.RowKit
set_option linter.unusedVariables false
namespace Draw

/-- numbers within bounds -/
def IntsIn (lo hi : Int) : List Value → Prop
  | [] => True
  | .int .i64 z :: l => (lo ≤ z ∧ z ≤ hi) ∧ IntsIn lo hi l
  | _ :: _ => False
theorem ints_at {lo hi : Int} : ∀ {l : List Value}, IntsIn lo hi l → ∀ i, i < l.length → ∃ z, l[i]? = some (.int .i64 z) ∧ lo ≤ z ∧ z ≤ hi
  | [], _, i, hi => by simp at hi
  | v :: l, h, i, hi => by
    cases v with
    | int k z =>
      cases k with
      | i64 =>
        obtain ⟨h1, h2⟩ := h
        cases i with
        | zero => exact ⟨z, rfl, h1⟩
        | succ i => exact ints_at h2 i (by simpa using hi)
      | _ => cases h
    | _ => cases h
set_option maxRecDepth 100000 in
set_option maxHeartbeats 1000000 in
theorem pickInt_live (B C R : Nat) (lo hi : Int) (cs : Array Value) (n : Nat) (w : World) (h : Live B C w) (hR : R ≠ C) (hrow : w.heap[R]? = some (.cells cs 3)) (hn : cs.size = n) (h0 : 0 < n) (h1 : n ≤ 256) (ht : IntsIn lo hi cs.toList) :
    Calls Tryd.prog 108 #[.pointer (some ⟨C, 0, none⟩), .slice (some ⟨R, 0, none⟩) n n] w fun e w' => ∃ z : Int, e = .returned (.int .i64 z) ∧ lo ≤ z ∧ z ≤ hi ∧ Live B C w' ∧ Only C w w' := by
  have HR := Num.hide hrow
  have HT := Num.hide ht
  have HN := Num.hide hn
  clear hrow ht hn
  go_enter Tryd.func108, Tryd.ntmps108
  go_wp2_with fail
  refine (below_live B C n _ h (by omega) (by omega)).mono ?_
  rintro e w1 ⟨z, rfl, hz0, hz1, hl, ho⟩
  obtain ⟨j, rfl⟩ := Int.eq_ofNat_of_zero_le hz0
  obtain ⟨x, hx, hx0, hx1⟩ := ints_at HT.out j (by have := HN.out; rw [Array.length_toList]; omega)
  have hc : w1.cell? ⟨R, j, none⟩ = some (.int .i64 x) := by
    rw [cell_of_row w1 R j _ _ _ ((ho.block R (Array.getElem?_eq_some_iff.1 (Num.unhide HR)).1 hR).trans (Num.unhide HR))]
    rw [← hx, Array.getElem?_toList]
  have HX0 := Num.hide hx0
  have HX1 := Num.hide hx1
  clear hx hx0 hx1
  have HL := Num.hide hl
  have HO := Num.hide ho
  clear hl ho
  go_wp2
  go_ret
  exact ⟨x, rfl, HX0.out, HX1.out, HL.out, HO.out⟩
end Draw
end Go.Proofs.YtkogcbnbmdeolaaDoor
