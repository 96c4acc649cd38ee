/-
  DrawFldL: The specification's draws of lists of fields.
  DrawFldA: The specification's draws of lists of any fields.
  DrawPickInt: l1PickInt of the draws, of a cursor in whatever state.
  DrawTextLive: l1Text of the draws, of a cursor in whatever state.
  RespVal: A response as a value.
  ReqVal: A request as a value.
  Boxes: Boxes of a call's own: what a store into one leaves of what lies below and of the rows behind.
-/
import Derived.Test.YtbajfklnekfeoaaGreatDoorPab
import Derived.Test.YtbajfklnekfeoaaGreatDoorPaa
import Derived.Test.YtbajfklnekfeoaaGreatDoorDrawString
import Derived.Test.YtbajfklnekfeoaaGreatDoorFlds
import Derived.Test.YtbajfklnekfeoaaGreatDoorRecs
namespace Go.Proofs.YtbajfklnekfeoaaGreatDoor
open Go.RowKit
set_option linter.unusedVariables false
namespace Draw

/-- few fields, of small texts -/
structure Few (n : Nat) (l : List Flds.Fld) : Prop where
  len : l.length ≤ n
  small : ∀ f ∈ l, f.1.size ≤ 64 ∧ f.2.size ≤ 64
theorem Few.more {n : Nat} {l : List Flds.Fld} {x y : ByteArray} (h : Few n l) (hx : x.size ≤ 64) (hy : y.size ≤ 64) : Few (n + 1) (l ++ [(x, y)]) :=
  ⟨by rw [List.length_append, List.length_singleton]; have := h.len; omega, fun f hf => by
    rcases List.mem_append.1 hf with h1 | h1
    · exact h.small f h1
    · rw [List.mem_singleton.1 h1]; exact ⟨hx, hy⟩⟩
theorem Few.mono {n m : Nat} {l : List Flds.Fld} (h : Few n l) (hnm : n ≤ m) : Few m l := ⟨Nat.le_trans h.len hnm, h.small⟩
theorem Few.sum {l : List Flds.Fld} {n : Nat} (h : Few n l) : (l.map fun f => f.1.size + f.2.size).sum ≤ 128 * l.length := by
  have key : ∀ (l : List Flds.Fld), (∀ f ∈ l, f.1.size ≤ 64 ∧ f.2.size ≤ 64) → (l.map fun f => f.1.size + f.2.size).sum ≤ 128 * l.length := by
    intro l
    induction l with
    | nil => intro _; simp
    | cons f l ih =>
      intro h
      have h1 := h f (List.mem_cons_self ..)
      have h2 := ih (fun g hg => h g (List.mem_cons_of_mem _ hg))
      rw [List.map_cons, List.sum_cons, List.length_cons]
      omega
  exact key l h.small
theorem Few.bulk {l : List Flds.Fld} {n : Nat} (h : Few n l) (hn : n ≤ 100) : Flds.bulk l ≤ 100000 := by
  have key : ∀ (l : List Flds.Fld), (∀ f ∈ l, f.1.size ≤ 64 ∧ f.2.size ≤ 64) → (l.map fun f => f.1.size + f.2.size).sum ≤ 128 * l.length := by
    intro l
    induction l with
    | nil => intro _; simp
    | cons f l ih =>
      intro h
      have h1 := h f (List.mem_cons_self ..)
      have h2 := ih (fun g hg => h g (List.mem_cons_of_mem _ hg))
      rw [List.map_cons, List.sum_cons, List.length_cons]
      omega
  have h1 := key l h.small
  have h2 := h.len
  unfold Flds.bulk
  omega
/-- an owned row stays while the cursor moves -/
theorem own_only {B C : Nat} {w w' : World} {v : Value} {l : List Flds.Fld} (h : Flds.Own B w v l) (ho : Only C w w') (hC : C < B) : Flds.Own B w' v l := ho.owns hC h
/-- what is said of caching in them ends its quotes -/
def AllSaid (l : List Flds.Fld) : Prop := ∀ f ∈ l, Calm.Said f.1 f.2
theorem AllSaid.more {l : List Flds.Fld} {x y : ByteArray} (h : AllSaid l) (hs : Calm.Said x y) : AllSaid (l ++ [(x, y)]) := by
  intro f hf
  rcases List.mem_append.1 hf with h1 | h1
  · exact h f h1
  · rw [List.mem_singleton.1 h1]; exact hs
/-- such, and not nil -/
structure Laid (l : List Flds.Fld) (v : Value) : Prop where
  said : AllSaid l
  there : ¬ v = .slice none 0 0
theorem own_some {B : Nat} {w : World} {v : Value} {l : List Flds.Fld} (h : Flds.Own B w v l) (hn : ¬ v = .slice none 0 0) : ∃ g c, v = .slice (some ⟨g, 0, none⟩) l.length c := by
  rcases h.2 with ⟨h1, _⟩ | ⟨g, cap, cur, h1, _⟩
  · exact absurd h1 hn
  · exact ⟨g, cap, h1⟩
set_option maxRecDepth 100000 in
set_option maxHeartbeats 2000000 in
theorem fields_q (B C : Nat) (w : World) (h : Live B C w) :
    Calls Tryz.prog 149 #[.pointer (some ⟨C, 0, none⟩)] w fun e w' => ∃ v l, e = .returned v ∧ Flds.Own w.heap.size w' v l ∧ Few 4 l ∧ AllSaid l ∧ (∃ g c, v = .slice (some ⟨g, 0, none⟩) l.length c) ∧ Live B C w' ∧ Only C w w' := by
  have hC := h.lt
  obtain ⟨i0, hi0, hz0, hz1, hz2⟩ := info_parts Flds.infoF
  have HL0 := Num.hide (h.alloc (.cells #[] 36))
  have HO0 := Num.hide ((Only.refl C w).alloc (.cells #[] 36))
  have HD := Num.hide (Flds.made_nil w)
  clear h
  go_enter Tryz.func149, Tryz.ntmps149
  go_wp2_with fail
  refine (below_live B C 5 _ HL0.out (by omega) (by omega)).mono ?_
  rintro e w1 ⟨z, rfl, hz0', hz1', hl, ho⟩
  obtain ⟨m, rfl⟩ := Int.eq_ofNat_of_zero_le hz0'
  have HL1 := Num.hide hl
  have HO1 := Num.hide (HO0.out.trans ho)
  have HD1 := Num.hide (own_only HD.out ho hC)
  clear hl ho HL0 HO0 HD
  go_wp2
  go_loopw [3, 4] (fun ov nv wr => ∃ (k : Nat) (l : List Flds.Fld), nv = .int .i64 (k : Int) ∧ k ≤ 4 ∧ Hid (Flds.Own w.heap.size wr ov l) ∧ Hid (Few (4 - k) l) ∧ Hid (Laid l ov) ∧ Hid (Live B C wr) ∧ Hid (Only C w wr)) (fun _ nv _ => (intOf nv).toNat)
  case atStart => exact ⟨m, [], rfl, by omega, HD1, ⟨Nat.zero_le _, fun f hf => by cases hf⟩, ⟨(fun f hf => by cases hf), (by intro h; cases h)⟩, HL1, HO1⟩
  case round =>
    clear HL1 HO1 HD1
    obtain ⟨k, l, rfl, hk, HO, HF, HS, HL, HN⟩ := hrel
    have hsz := HN.out.size
    have hlen := HF.out.len
    by_cases h0 : 0 < (k : Int)
    · go_wp2_with fail
      refine (field_q B C _ HL.out).mono ?_
      rintro e w2 ⟨x, y, rfl, hx, hy, hs2, hl2, ho2⟩
      have HSd := Num.hide hs2
      clear hs2
      have hsz2 : w.heap.size ≤ w2.heap.size := Nat.le_trans hsz ho2.size
      have HO2 := Num.hide (own_only HO.out ho2 hC)
      have HN2 := Num.hide (HN.out.trans ho2)
      have HL2 := Num.hide hl2
      clear hl2 ho2 HL HN HO
      go_wp2_with (at_builtin; refine wpList_append_own _ rfl _ _ 37 rfl w.heap.size 36 i0 _ 2 32 Tryz.underlying37 hi0 hz0 hz1 hz2 rfl (by decide) _ _ _ rfl (World.ownsRow.alloc HO2.out _) ⟨w2.heap.size, 0, none⟩ 1 1 [.string x, .string y] rfl rfl (Flds.cells_two w2 x y) (Flds.two_ok x y) (by unfold maxLen; omega) (by omega) ?c9 ?_)
      case c9 => first | omega | (simp; omega)
      intro v' w3 ho3 hg3 hnil
      obtain ⟨hp1, hp2⟩ := Flds.put_more hsz2 HO2.out (Below.refl w.heap.size _) ho3 hg3
      have HP1 := Num.hide hp1
      have HP2 := Num.hide (HL2.out.under hp2 hC)
      have HP3 := Num.hide (HN2.out.of_below hp2)
      have HP4 := Num.hide ((HF.out.more hx hy).mono (by omega : 4 - k + 1 ≤ 4 - (k - 1)))
      have HS2 : Hid (Laid (l ++ [(x, y)]) v') := ⟨HS.out.said.more HSd.out, fun h => hnil h⟩
      clear ho3 hg3 hp1 hp2 hnil
      go_wp2
      go_roundw
      case rel => exact ⟨k - 1, _, by go_num, by omega, HP1, HP4, HS2, HP2, HP3⟩
      case measure => simp [intOf]; omega
    · have HF4 := Num.hide (HF.out.mono (by omega : 4 - k ≤ 4))
      have HG := Num.hide (own_some HO.out HS.out.there)
      go_wp2
      go_ret
      first | exact ⟨_, _, rfl, HO.out, HF4.out, HS.out.said, HG.out, HL.out, HN.out⟩ | exact ⟨_, rfl, _, HO.out, HF4.out, HS.out.said, HG.out, HL.out, HN.out⟩
theorem fields_live (B C : Nat) (w : World) (h : Live B C w) :
    Calls Tryz.prog 149 #[.pointer (some ⟨C, 0, none⟩)] w fun e w' => ∃ v l, e = .returned v ∧ Flds.Own w.heap.size w' v l ∧ Few 4 l ∧ Live B C w' ∧ Only C w w' :=
  (fields_q B C w h).mono fun e w' ⟨v, l, h1, h2, h3, _, _, h4, h5⟩ => ⟨v, l, h1, h2, h3, h4, h5⟩
end Draw
end Go.Proofs.YtbajfklnekfeoaaGreatDoor
namespace Go.Proofs.YtbajfklnekfeoaaGreatDoor
open Go.RowKit
set_option linter.unusedVariables false
namespace Draw

def lenOf (v : Value) : Nat := match v with | .slice _ n _ => n | _ => 0
theorem lenOf_own {B : Nat} {w : World} {v : Value} {l : List Flds.Fld} (h : Flds.Own B w v l) : lenOf v = l.length := by
  obtain ⟨a, c, rfl⟩ := Recs.own_len h; rfl
set_option maxRecDepth 100000 in
set_option maxHeartbeats 2000000 in
theorem any_live (B C : Nat) (w : World) (h : Live B C w) :
    Calls Tryz.prog 94 #[.pointer (some ⟨C, 0, none⟩)] w fun e w' => ∃ v l, e = .returned v ∧ Flds.Own w.heap.size w' v l ∧ Few 13 l ∧ Live B C w' ∧ Only C w w' := by
  have hC := h.lt
  obtain ⟨i0, hi0, hz0, hz1, hz2⟩ := info_parts Flds.infoF
  have HL0 := Num.hide h
  clear h
  go_enter Tryz.func94, Tryz.ntmps94
  go_wp2_with fail
  refine (fields_live B C _ HL0.out).mono ?_
  rintro e w1 ⟨v, l, rfl, ho1, hf, hl1, hn1⟩
  go_wp2_with fail
  refine (below_live B C 12 _ hl1 (by omega) (by omega)).mono ?_
  rintro e w2 ⟨z, rfl, hz0', hz1', hl2, hn2⟩
  have HL2 := Num.hide hl2
  have HN2 := Num.hide (hn1.trans hn2)
  have HO2 := Num.hide (own_only ho1 hn2 hC)
  have HF := Num.hide hf
  have hlen := hf.len
  have hsz2 := HN2.out.size
  clear hl1 hn1 hl2 hn2 ho1 hf HL0
  by_cases z0 : z = 0
  · subst z0
    go_wp2_with fail
    refine (pick_live B C w2.heap.size _ 4 _ (HL2.out.alloc _) (by have := HL2.out.lt; omega) (heap_alloc_new w2 _) rfl (by omega) (by omega) (by decide)).mono ?_
    rintro e w3 ⟨x, rfl, hx, hl3, hn3⟩
    have HL3 := Num.hide hl3
    have HN3 := Num.hide ((HN2.out.alloc _).trans hn3)
    have HO3 : Hid (Flds.Own w.heap.size w3 v l) := own_only (World.ownsRow.alloc HO2.out _) hn3 hC
    have hsz3 := HN3.out.size
    clear hl3 hn3 HL2 HN2 HO2
    go_wp2_with (at_builtin; refine wpList_append_own _ rfl _ _ 37 rfl w.heap.size 36 i0 _ 2 32 Tryz.underlying37 hi0 hz0 hz1 hz2 rfl (by decide) _ _ _ rfl (World.ownsRow.alloc HO3.out _) ⟨w3.heap.size, 0, none⟩ 1 1 [.string x, .string ⟨#[]⟩] rfl rfl (Flds.cells_two w3 x ⟨#[]⟩) (Flds.two_ok x ⟨#[]⟩) (by unfold maxLen; omega) (by omega) ?c9 ?_)
    case c9 => first | omega | (simp; omega)
    intro v' w4 ho4 hg4 _
    obtain ⟨hp1, hp2⟩ := Flds.put_more hsz3 HO3.out (Below.refl w.heap.size _) ho4 hg4
    have HP1 := Num.hide hp1
    have HP2 := Num.hide (HL3.out.under hp2 hC)
    have HP3 := Num.hide (HN3.out.of_below hp2)
    have HP4 := Num.hide ((HF.out.more hx (by decide : (⟨#[]⟩ : ByteArray).size ≤ 64)).mono (by omega : 4 + 1 ≤ 13))
    clear ho4 hg4 hp1 hp2
    go_wp2
    go_ret
    exact ⟨_, _, rfl, HP1.out, HP4.out, HP2.out, HP3.out⟩
  · have d0 : (z == 0) = false := by rw [beq_eq_false_iff_ne]; exact z0
    by_cases z1 : z = 1
    · subst z1
      go_wp2_with fail
      refine (pick_live B C w2.heap.size _ 3 _ (HL2.out.alloc _) (by have := HL2.out.lt; omega) (heap_alloc_new w2 _) rfl (by omega) (by omega) (by decide)).mono ?_
      rintro e w3 ⟨x, rfl, hx, hl3, hn3⟩
      have HL3 := Num.hide hl3
      have HN3 := Num.hide ((HN2.out.alloc _).trans hn3)
      have HO3 : Hid (Flds.Own w.heap.size w3 v l) := own_only (World.ownsRow.alloc HO2.out _) hn3 hC
      have hsz3 := HN3.out.size
      clear hl3 hn3 HL2 HN2 HO2
      go_wp2_with (at_builtin; refine wpList_append_own _ rfl _ _ 37 rfl w.heap.size 36 i0 _ 2 32 Tryz.underlying37 hi0 hz0 hz1 hz2 rfl (by decide) _ _ _ rfl (World.ownsRow.alloc HO3.out _) ⟨w3.heap.size, 0, none⟩ 1 1 [.string ⟨#[97]⟩, .string x] rfl rfl (Flds.cells_two w3 ⟨#[97]⟩ x) (Flds.two_ok ⟨#[97]⟩ x) (by unfold maxLen; omega) (by omega) ?c9 ?_)
      case c9 => first | omega | (simp; omega)
      intro v' w4 ho4 hg4 _
      obtain ⟨hp1, hp2⟩ := Flds.put_more hsz3 HO3.out (Below.refl w.heap.size _) ho4 hg4
      have HP1 := Num.hide hp1
      have HP2 := Num.hide (HL3.out.under hp2 hC)
      have HP3 := Num.hide (HN3.out.of_below hp2)
      have HP4 := Num.hide ((HF.out.more (by decide : (⟨#[97]⟩ : ByteArray).size ≤ 64) hx).mono (by omega : 4 + 1 ≤ 13))
      clear ho4 hg4 hp1 hp2
      go_wp2
      go_ret
      exact ⟨_, _, rfl, HP1.out, HP4.out, HP2.out, HP3.out⟩
    · have d1 : (z == 1) = false := by rw [beq_eq_false_iff_ne]; exact z1
      by_cases z2 : z = 2
      · subst z2
        have HF13 := Num.hide (HF.out.mono (by omega : 4 ≤ 13))
        clear d0 d1 z0 z1
        go_wp2
        go_loopw [3] (fun ov wr => ∃ l : List Flds.Fld, Hid (Flds.Own w.heap.size wr ov l) ∧ Hid (Few 13 l) ∧ Hid (Live B C wr) ∧ Hid (Only C w wr)) (fun ov _ => 13 - lenOf ov)
        case atStart => exact ⟨l, HO2, HF13, HL2, HN2⟩
        case round =>
          clear HO2 HF13 HL2 HN2 HF hlen hsz2
          obtain ⟨l, HO, HF, HL, HN⟩ := hrel
          have hsz := HN.out.size
          have hlen := HF.out.len
          have HLn := Num.hide (lenOf_own HO.out)
          obtain ⟨va, vc, hv⟩ := Recs.own_len HO.out
          subst hv
          go_wp2_with fail
          refine (below_live B C 2 _ HL.out (by omega) (by omega)).mono ?_
          rintro e w3 ⟨t, rfl, ht0, ht1, hl3, hn3⟩
          have HL3 := Num.hide hl3
          have HN3 := Num.hide (HN.out.trans hn3)
          have HO3 := Num.hide (own_only HO.out hn3 hC)
          have hsz3 := HN3.out.size
          clear hl3 hn3 HL HN HO
          by_cases hlt : (l.length : Int) < 12 + t
          · go_wp2_with (at_builtin; refine wpList_append_own _ rfl _ _ 37 rfl w.heap.size 36 i0 _ 2 32 Tryz.underlying37 hi0 hz0 hz1 hz2 rfl (by decide) _ _ _ rfl (World.ownsRow.alloc HO3.out _) ⟨w3.heap.size, 0, none⟩ 1 1 [.string ⟨#[97]⟩, .string ⟨#[]⟩] rfl rfl (Flds.cells_two w3 ⟨#[97]⟩ ⟨#[]⟩) (Flds.two_ok ⟨#[97]⟩ ⟨#[]⟩) (by unfold maxLen; omega) (by omega) ?c9 ?_)
            case c9 => first | omega | (simp; omega)
            intro v' w4 ho4 hg4 _
            obtain ⟨hp1, hp2⟩ := Flds.put_more hsz3 HO3.out (Below.refl w.heap.size _) ho4 hg4
            have HP1 := Num.hide hp1
            have HP2 := Num.hide (HL3.out.under hp2 hC)
            have HP3 := Num.hide (HN3.out.of_below hp2)
            have HP4 : Hid (Few 13 (l ++ [(⟨#[97]⟩, ⟨#[]⟩)])) := (Few.more (n := l.length) ⟨Nat.le_refl _, HF.out.small⟩ (by decide) (by decide)).mono (by omega)
            have hlv := lenOf_own hp1
            rw [List.length_append, List.length_singleton] at hlv
            have HLv := Num.hide hlv
            clear ho4 hg4 hp1 hp2 hlv
            go_wp2
            go_roundw
            case rel => exact ⟨_, HP1, HP4, HP2, HP3⟩
            case measure =>
              have h1 := HLv.out
              simp [lenOf] at h1 ⊢
              omega
          · go_wp2
            go_ret
            exact ⟨_, _, rfl, HO3.out, HF.out, HL3.out, HN3.out⟩
      · have d2 : (z == 2) = false := by rw [beq_eq_false_iff_ne]; exact z2
        have HP4 := Num.hide (HF.out.mono (by omega : 4 ≤ 13))
        clear z0 z1 z2
        go_wp2
        go_ret
        exact ⟨_, _, rfl, HO2.out, HP4.out, HL2.out, HN2.out⟩
end Draw
end Go.Proofs.YtbajfklnekfeoaaGreatDoor
namespace Go.Proofs.YtbajfklnekfeoaaGreatDoor
open Go.RowKit
set_option linter.unusedVariables false
namespace Draw

/-- numbers within bounds -/
def IntsIn (lo hi : Int) : List Value → Prop
  | [] => True
  | .int .i64 z :: l => (lo ≤ z ∧ z ≤ hi) ∧ IntsIn lo hi l
  | _ :: _ => False
theorem ints_at {lo hi : Int} : ∀ {l : List Value}, IntsIn lo hi l → ∀ i, i < l.length → ∃ z, l[i]? = some (.int .i64 z) ∧ lo ≤ z ∧ z ≤ hi
  | [], _, i, hi => by simp at hi
  | v :: l, h, i, hi => by
    cases v with
    | int k z =>
      cases k with
      | i64 =>
        obtain ⟨h1, h2⟩ := h
        cases i with
        | zero => exact ⟨z, rfl, h1⟩
        | succ i => exact ints_at h2 i (by simpa using hi)
      | _ => cases h
    | _ => cases h
set_option maxRecDepth 100000 in
set_option maxHeartbeats 1000000 in
theorem pickInt_live (B C R : Nat) (lo hi : Int) (cs : Array Value) (n : Nat) (w : World) (h : Live B C w) (hR : R ≠ C) (hrow : w.heap[R]? = some (.cells cs 3)) (hn : cs.size = n) (h0 : 0 < n) (h1 : n ≤ 256) (ht : IntsIn lo hi cs.toList) :
    Calls Tryz.prog 38 #[.pointer (some ⟨C, 0, none⟩), .slice (some ⟨R, 0, none⟩) n n] w fun e w' => ∃ z : Int, e = .returned (.int .i64 z) ∧ lo ≤ z ∧ z ≤ hi ∧ Live B C w' ∧ Only C w w' := by
  have HR := Num.hide hrow
  have HT := Num.hide ht
  have HN := Num.hide hn
  clear hrow ht hn
  go_enter Tryz.func38, Tryz.ntmps38
  go_wp2_with fail
  refine (below_live B C n _ h (by omega) (by omega)).mono ?_
  rintro e w1 ⟨z, rfl, hz0, hz1, hl, ho⟩
  obtain ⟨j, rfl⟩ := Int.eq_ofNat_of_zero_le hz0
  obtain ⟨x, hx, hx0, hx1⟩ := ints_at HT.out j (by have := HN.out; rw [Array.length_toList]; omega)
  have hc : w1.cell? ⟨R, j, none⟩ = some (.int .i64 x) := by
    rw [cell_of_row w1 R j _ _ _ ((ho.block R (Array.getElem?_eq_some_iff.1 (Num.unhide HR)).1 hR).trans (Num.unhide HR))]
    rw [← hx, Array.getElem?_toList]
  have HX0 := Num.hide hx0
  have HX1 := Num.hide hx1
  clear hx hx0 hx1
  have HL := Num.hide hl
  have HO := Num.hide ho
  clear hl ho
  go_wp2
  go_ret
  exact ⟨x, rfl, HX0.out, HX1.out, HL.out, HO.out⟩
end Draw
end Go.Proofs.YtbajfklnekfeoaaGreatDoor
namespace Go.Proofs.YtbajfklnekfeoaaGreatDoor
open Go.RowKit
set_option linter.unusedVariables false
namespace Draw

theorem text_live (B C : Nat) (most : Nat) (w : World) (h : Live B C w) (hm : most ≤ 1000000) :
    Calls Tryz.prog 37 #[.pointer (some ⟨C, 0, none⟩), .int .i64 (most : Int)] w fun e w' => ∃ t, e = .returned (.string t) ∧ t.size ≤ most ∧ Live B C w' ∧ Only C w w' := by
  obtain ⟨cap, a, l, s, h⟩ := h
  refine (text_at B C cap a l (most : Int) w s h (by omega) (by omega)).mono ?_
  rintro e w' ⟨rfl, h2, ho⟩
  have := length_txt l (most : Int) s (by omega)
  exact ⟨_, rfl, by show (txt l (most : Int) s).toArray.size ≤ most; rw [List.size_toArray]; exact this, ⟨_, _, _, _, h2⟩, ho⟩
end Draw
end Go.Proofs.YtbajfklnekfeoaaGreatDoor
namespace Go.Proofs.YtbajfklnekfeoaaGreatDoor
open Go.RowKit
set_option linter.unusedVariables false
namespace Resp

/-- a response: its status, its fields, its body -/
abbrev R := Int × List Flds.Fld × ByteArray
/-- the value of a response whose fields lie at v -/
def val (s : Int) (v : Value) (b : ByteArray) : Value := .agg #[.int .i64 s, v, .string b]
/-- how much a response holds -/
def bulk (l : List Flds.Fld) (b : ByteArray) : Nat := Flds.bulk l + b.size
end Resp
end Go.Proofs.YtbajfklnekfeoaaGreatDoor
namespace Go.Proofs.YtbajfklnekfeoaaGreatDoor
open Go.RowKit
set_option linter.unusedVariables false
namespace Req

/-- the value of a request whose fields lie at v -/
def val (m u : ByteArray) (v : Value) (b : ByteArray) : Value := .agg #[.string m, .string u, v, .string b]
/-- how much a request holds -/
def bulk (m u : ByteArray) (l : List Flds.Fld) (b : ByteArray) : Nat := m.size + u.size + Flds.bulk l + b.size
end Req
end Go.Proofs.YtbajfklnekfeoaaGreatDoor
namespace Go.Proofs.YtbajfklnekfeoaaGreatDoor
open Go.RowKit
set_option linter.unusedVariables false
namespace Recs

/-- what lies below B, and the rows from n on that were there, are as they were -/
structure Past (B n : Nat) (W W' : World) : Prop where
  below : Below B W W'
  rows : ∀ j, n ≤ j → j < W.heap.size → W'.heap[j]? = W.heap[j]?
theorem Past.refl (B n : Nat) (W : World) : Past B n W W := ⟨Below.refl _ _, fun _ _ _ => rfl⟩
theorem Past.set {B n : Nat} {W W' : World} (h : Past B n W W') (g i : Nat) (u : Value) (hB : B ≤ g) (hn : g < n) : Past B n W (W'.setCell ⟨g, i, none⟩ u) :=
  ⟨h.below.setCell (p := ⟨g, i, none⟩) hB u, fun j hj hl => (heap_setCell_other W' ⟨g, i, none⟩ j u (fun e => by have e2 : j = g := e; omega)).trans (h.rows j hj hl)⟩
theorem Past.drew {B n : Nat} {W W' : World} (h : Past B n W W') : Past B n W W'.drew := ⟨h.below.drew, h.rows⟩
theorem own_past {α : Type} {e : TypeId} {sz : Nat} {enc : α → List Value} {B n : Nat} {W W' : World} {v : Value} {l : List α} (h : Own e sz enc n W v l) (hf : Past B n W W') : Own e sz enc n W' v l := by
  refine ⟨h.1, ?_⟩
  have hlt := own_lt h
  rcases h.2 with h1 | ⟨g, cap, cur, h1, hB, hg, rest⟩
  · exact .inl h1
  · subst h1
    exact .inr ⟨g, cap, cur, rfl, hB, by rw [hf.rows g hB (hlt g rfl).2]; exact hg, rest⟩
/-- the cells of a box that is known whole -/
theorem box_cell {w : World} {g : Nat} {cs : Array Value} {T : TypeId} (h : w.heap[g]? = some (.cells cs T (0, 0))) (i : Nat) : w.cell? ⟨g, i, none⟩ = cs[i]? := cell_of_row w g _ _ _ _ h
theorem box_thaw {w : World} {g : Nat} {cs : Array Value} {T : TypeId} (h : w.heap[g]? = some (.cells cs T (0, 0))) (i : Nat) : w.frozen? ⟨g, i, none⟩ = false := frozen_of_row w g i _ _ h
theorem box_set {w : World} {g : Nat} {cs : Array Value} {T : TypeId} (h : w.heap[g]? = some (.cells cs T (0, 0))) (i : Nat) (u : Value) : (w.setCell ⟨g, i, none⟩ u).heap[g]? = some (.cells (cs.setIfInBounds i u) T (0, 0)) := heap_setCell_same w g i cs _ u h
theorem box_far {w : World} {g k i : Nat} {o : Option Obj} (h : w.heap[k]? = o) (u : Value) (hne : k ≠ g) : (w.setCell ⟨g, i, none⟩ u).heap[k]? = o := (heap_setCell_other w ⟨g, i, none⟩ k u (fun e => hne e)).trans h
/-- three boxes that were just laid, behind whatever was laid since -/
theorem three_rows (w W : World) (p r o : Obj) (hb : Below (((w.alloc p).alloc r).alloc o).heap.size (((w.alloc p).alloc r).alloc o) W) : W.heap[w.heap.size]? = some p ∧ W.heap[w.heap.size + 1]? = some r ∧ W.heap[w.heap.size + 1 + 1]? = some o := by
  have e1 : (w.alloc p).heap.size = w.heap.size + 1 := by rw [World.size_alloc]
  have e2 : ((w.alloc p).alloc r).heap.size = w.heap.size + 1 + 1 := by rw [World.size_alloc, World.size_alloc]
  have e3 : (((w.alloc p).alloc r).alloc o).heap.size = w.heap.size + 1 + 1 + 1 := by rw [World.size_alloc, World.size_alloc, World.size_alloc]
  refine ⟨?_, ?_, ?_⟩
  · rw [hb.block _ (by omega), heap_alloc_old _ _ (by omega), heap_alloc_old _ _ (by omega), heap_alloc_new]
  · rw [hb.block _ (by omega), heap_alloc_old _ _ (by omega), ← e1, heap_alloc_new]
  · rw [hb.block _ (by omega), ← e2, heap_alloc_new]
/-- a row of one's own is as it was behind a store into another block -/
theorem own_set {α : Type} {e : TypeId} {sz : Nat} {enc : α → List Value} {B : Nat} {W : World} {v : Value} {l : List α} (h : Own e sz enc B W v l) (g i : Nat) (u : Value) (hne : ∀ k, v.ownBlock = some k → k ≠ g) : Own e sz enc B (W.setCell ⟨g, i, none⟩ u) v l := by
  have hg : W.grownBy (W.setCell ⟨g, i, none⟩ u) (some g) := ⟨rfl, rfl, rfl, by simp, fun j hj hr => heap_setCell_other W ⟨g, i, none⟩ j u (fun e => hr (by rw [show j = g from e]))⟩
  refine own_kept h hg ?_
  cases hv : v.ownBlock with
  | none => exact .inl rfl
  | some k => exact .inr (fun e => hne k hv (Option.some.inj e))
end Recs
end Go.Proofs.YtbajfklnekfeoaaGreatDoor
