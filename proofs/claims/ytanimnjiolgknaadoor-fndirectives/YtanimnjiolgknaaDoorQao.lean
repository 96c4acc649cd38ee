/-
  DrawFldL: The specification's draws of lists of fields.
  DrawOnce: l1Once of the draws.
-/
import Derived.Test.YtanimnjiolgknaaDoorDrawFld
import Derived.Test.YtanimnjiolgknaaDoorDrawByte
namespace Go.Proofs.YtanimnjiolgknaaDoor
open Go.RowKit
set_option linter.unusedVariables false
namespace Draw

/-- few fields, of small texts -/
structure Few (n : Nat) (l : List Flds.Fld) : Prop where
  len : l.length ≤ n
  small : ∀ f ∈ l, f.1.size ≤ 64 ∧ f.2.size ≤ 64
theorem Few.more {n : Nat} {l : List Flds.Fld} {x y : ByteArray} (h : Few n l) (hx : x.size ≤ 64) (hy : y.size ≤ 64) : Few (n + 1) (l ++ [(x, y)]) :=
  ⟨by rw [List.length_append, List.length_singleton]; have := h.len; omega, fun f hf => by
    rcases List.mem_append.1 hf with h1 | h1
    · exact h.small f h1
    · rw [List.mem_singleton.1 h1]; exact ⟨hx, hy⟩⟩
theorem Few.mono {n m : Nat} {l : List Flds.Fld} (h : Few n l) (hnm : n ≤ m) : Few m l := ⟨Nat.le_trans h.len hnm, h.small⟩
theorem Few.bulk {l : List Flds.Fld} {n : Nat} (h : Few n l) (hn : n ≤ 100) : Flds.bulk l ≤ 100000 := by
  have key : ∀ (l : List Flds.Fld), (∀ f ∈ l, f.1.size ≤ 64 ∧ f.2.size ≤ 64) → (l.map fun f => f.1.size + f.2.size).sum ≤ 128 * l.length := by
    intro l
    induction l with
    | nil => intro _; simp
    | cons f l ih =>
      intro h
      have h1 := h f (List.mem_cons_self ..)
      have h2 := ih (fun g hg => h g (List.mem_cons_of_mem _ hg))
      rw [List.map_cons, List.sum_cons, List.length_cons]
      omega
  have h1 := key l h.small
  have h2 := h.len
  unfold Flds.bulk
  omega
/-- an owned row stays while the cursor moves -/
theorem own_only {B C : Nat} {w w' : World} {v : Value} {l : List Flds.Fld} (h : Flds.Own B w v l) (ho : Only C w w') (hC : C < B) : Flds.Own B w' v l := ho.owns hC h
/-- what is said of caching in them ends its quotes -/
def AllSaid (l : List Flds.Fld) : Prop := ∀ f ∈ l, Calm.Said f.1 f.2
theorem AllSaid.more {l : List Flds.Fld} {x y : ByteArray} (h : AllSaid l) (hs : Calm.Said x y) : AllSaid (l ++ [(x, y)]) := by
  intro f hf
  rcases List.mem_append.1 hf with h1 | h1
  · exact h f h1
  · rw [List.mem_singleton.1 h1]; exact hs
/-- such, and not nil -/
structure Laid (l : List Flds.Fld) (v : Value) : Prop where
  said : AllSaid l
  there : ¬ v = .slice none 0 0
theorem own_some {B : Nat} {w : World} {v : Value} {l : List Flds.Fld} (h : Flds.Own B w v l) (hn : ¬ v = .slice none 0 0) : ∃ g c, v = .slice (some ⟨g, 0, none⟩) l.length c := by
  rcases h.2 with ⟨h1, _⟩ | ⟨g, cap, cur, h1, _⟩
  · exact absurd h1 hn
  · exact ⟨g, cap, h1⟩
set_option maxRecDepth 100000 in
set_option maxHeartbeats 2000000 in
theorem fields_q (B C : Nat) (w : World) (h : Live B C w) :
    Calls Tryd.prog 43 #[.pointer (some ⟨C, 0, none⟩)] w fun e w' => ∃ v l, e = .returned v ∧ Flds.Own w.heap.size w' v l ∧ Few 4 l ∧ AllSaid l ∧ (∃ g c, v = .slice (some ⟨g, 0, none⟩) l.length c) ∧ Live B C w' ∧ Only C w w' := by
  have hC := h.lt
  obtain ⟨i0, hi0, hz0, hz1, hz2⟩ := info_parts Flds.infoF
  have HL0 := Num.hide (h.alloc (.cells #[] 61))
  have HO0 := Num.hide ((Only.refl C w).alloc (.cells #[] 61))
  have HD := Num.hide (Flds.made_nil w)
  clear h
  go_enter Tryd.func43, Tryd.ntmps43
  go_wp2_with fail
  refine (below_live B C 5 _ HL0.out (by omega) (by omega)).mono ?_
  rintro e w1 ⟨z, rfl, hz0', hz1', hl, ho⟩
  obtain ⟨m, rfl⟩ := Int.eq_ofNat_of_zero_le hz0'
  have HL1 := Num.hide hl
  have HO1 := Num.hide (HO0.out.trans ho)
  have HD1 := Num.hide (own_only HD.out ho hC)
  clear hl ho HL0 HO0 HD
  go_wp2
  go_loopw [3, 4] (fun ov nv wr => ∃ (k : Nat) (l : List Flds.Fld), nv = .int .i64 (k : Int) ∧ k ≤ 4 ∧ Hid (Flds.Own w.heap.size wr ov l) ∧ Hid (Few (4 - k) l) ∧ Hid (Laid l ov) ∧ Hid (Live B C wr) ∧ Hid (Only C w wr)) (fun _ nv _ => (intOf nv).toNat)
  case atStart => exact ⟨m, [], rfl, by omega, HD1, ⟨Nat.zero_le _, fun f hf => by cases hf⟩, ⟨(fun f hf => by cases hf), (by intro h; cases h)⟩, HL1, HO1⟩
  case round =>
    clear HL1 HO1 HD1
    obtain ⟨k, l, rfl, hk, HO, HF, HS, HL, HN⟩ := hrel
    have hsz := HN.out.size
    have hlen := HF.out.len
    by_cases h0 : 0 < (k : Int)
    · go_wp2_with fail
      refine (field_q B C _ HL.out).mono ?_
      rintro e w2 ⟨x, y, rfl, hx, hy, hs2, hl2, ho2⟩
      have HSd := Num.hide hs2
      clear hs2
      have hsz2 : w.heap.size ≤ w2.heap.size := Nat.le_trans hsz ho2.size
      have HO2 := Num.hide (own_only HO.out ho2 hC)
      have HN2 := Num.hide (HN.out.trans ho2)
      have HL2 := Num.hide hl2
      clear hl2 ho2 HL HN HO
      go_wp2_with (at_builtin; refine wpList_append_own _ rfl _ _ 24 rfl w.heap.size 61 i0 _ 2 32 Tryd.underlying24 hi0 hz0 hz1 hz2 rfl (by decide) _ _ _ rfl (World.ownsRow.alloc HO2.out _) ⟨w2.heap.size, 0, none⟩ 1 1 [.string x, .string y] rfl rfl (Flds.cells_two w2 x y) (Flds.two_ok x y) (by unfold maxLen; omega) (by omega) ?c9 ?_)
      case c9 => first | omega | (simp; omega)
      intro v' w3 ho3 hg3 hnil
      obtain ⟨hp1, hp2⟩ := Flds.put_more hsz2 HO2.out (Below.refl w.heap.size _) ho3 hg3
      have HP1 := Num.hide hp1
      have HP2 := Num.hide (HL2.out.under hp2 hC)
      have HP3 := Num.hide (HN2.out.of_below hp2)
      have HP4 := Num.hide ((HF.out.more hx hy).mono (by omega : 4 - k + 1 ≤ 4 - (k - 1)))
      have HS2 : Hid (Laid (l ++ [(x, y)]) v') := ⟨HS.out.said.more HSd.out, fun h => hnil h⟩
      clear ho3 hg3 hp1 hp2 hnil
      go_wp2
      go_roundw
      case rel => exact ⟨k - 1, _, by go_num, by omega, HP1, HP4, HS2, HP2, HP3⟩
      case measure => simp [intOf]; omega
    · have HF4 := Num.hide (HF.out.mono (by omega : 4 - k ≤ 4))
      have HG := Num.hide (own_some HO.out HS.out.there)
      go_wp2
      go_ret
      first | exact ⟨_, _, rfl, HO.out, HF4.out, HS.out.said, HG.out, HL.out, HN.out⟩ | exact ⟨_, rfl, _, HO.out, HF4.out, HS.out.said, HG.out, HL.out, HN.out⟩
theorem fields_live (B C : Nat) (w : World) (h : Live B C w) :
    Calls Tryd.prog 43 #[.pointer (some ⟨C, 0, none⟩)] w fun e w' => ∃ v l, e = .returned v ∧ Flds.Own w.heap.size w' v l ∧ Few 4 l ∧ Live B C w' ∧ Only C w w' :=
  (fields_q B C w h).mono fun e w' ⟨v, l, h1, h2, h3, _, _, h4, h5⟩ => ⟨v, l, h1, h2, h3, h4, h5⟩
end Draw
end Go.Proofs.YtanimnjiolgknaaDoor
namespace Go.Proofs.YtanimnjiolgknaaDoor
open Go.RowKit
set_option linter.unusedVariables false
namespace Draw

theorem once_at (B C cap : Nat) (a : Option Addr) (l : List Int) (n : Int) (w : World) (s : Nat × Int) (h : At B C cap a l w s) (hn : n ≤ 4294967296) :
    Calls Tryd.prog 44 #[.pointer (some ⟨C, 0, none⟩), .int .i64 n] w fun e w' => e = .returned (.bool (blv l n s == 0)) ∧ At B C cap a l w' (bls l n s) ∧ Only C w w' := by
  go_enter Tryd.func44, Tryd.ntmps44
  go_wp2_with fail
  refine (below_at B C cap a l n _ s h hn).mono ?_
  rintro e w1 ⟨rfl, h1, ho⟩
  go_wp2
  go_ret
  exact ⟨rfl, h1, ho⟩
end Draw
end Go.Proofs.YtanimnjiolgknaaDoor
