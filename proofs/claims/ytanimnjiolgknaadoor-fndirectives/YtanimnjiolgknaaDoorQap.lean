/-
  DrawCc: The specification's draws of what is said of caching.
  Code: The bytes that a law is handed, as the draws read them.
  RegLaw: One step through a region that draws its order: an operation taken first (its place and its slot written out), one whose guard says no, and a call that comes up alone.
-/
import Derived.Test.YtanimnjiolgknaaDoorQao
import Derived.Test.YtanimnjiolgknaaDoorDrawByte
import Derived.OpenShut
import Derived.Test.YtanimnjiolgknaaDoorNum
import Derived.Deep.RegionHeld
namespace Go.Proofs.YtanimnjiolgknaaDoor
open Go.RowKit
set_option linter.unusedVariables false
namespace Draw

theorem once_live (B C : Nat) (n : Int) (w : World) (h : Live B C w) (hn : n ≤ 4294967296) :
    Calls Tryd.prog 44 #[.pointer (some ⟨C, 0, none⟩), .int .i64 n] w fun e w' => ∃ b, e = .returned (.bool b) ∧ Live B C w' ∧ Only C w w' := by
  obtain ⟨cap, a, l, s, h⟩ := h
  refine (once_at B C cap a l n w s h hn).mono ?_
  rintro e w' ⟨rfl, h2, ho⟩
  exact ⟨_, rfl, ⟨_, _, _, _, h2⟩, ho⟩
set_option maxRecDepth 100000 in
set_option maxHeartbeats 2000000 in
theorem l7_live (B C : Nat) (w : World) (h : Live B C w) :
    Calls Tryd.prog 25 #[.pointer (some ⟨C, 0, none⟩)] w fun e w' => ∃ v l, e = .returned v ∧ Flds.Own w.heap.size w' v l ∧ Few 5 l ∧ AllSaid l ∧ (∃ g c, v = .slice (some ⟨g, 0, none⟩) l.length c) ∧ Live B C w' ∧ Only C w w' := by
  have hC := h.lt
  obtain ⟨i0, hi0, hz0, hz1, hz2⟩ := info_parts Flds.infoF
  have HL0 := Num.hide h
  clear h
  go_enter Tryd.func25, Tryd.ntmps25
  go_wp2_with fail
  refine (fields_q B C _ HL0.out).mono ?_
  rintro e w1 ⟨v, l, rfl, ho1, hf, hs, hg, hl1, hn1⟩
  obtain ⟨g, c, rfl⟩ := hg
  go_wp2_with fail
  refine (once_live B C 3 _ hl1 (by omega)).mono ?_
  rintro e w2 ⟨b, rfl, hl2, hn2⟩
  have HL2 := Num.hide hl2
  have HN2 := Num.hide (hn1.trans hn2)
  have HO2 := Num.hide (own_only ho1 hn2 hC)
  have HF := Num.hide hf
  have HS := Num.hide hs
  have hlen := hf.len
  have hsz2 := HN2.out.size
  clear hl1 hn1 hl2 hn2 ho1 hf hs HL0
  cases b with
  | false =>
    have HF5 := Num.hide (HF.out.mono (by omega : 4 ≤ 5))
    go_wp2
    go_ret
    first | exact ⟨_, _, rfl, HO2.out, HF5.out, HS.out, ⟨_, _, rfl⟩, HL2.out, HN2.out⟩ | exact ⟨_, rfl, _, HO2.out, HF5.out, HS.out, ⟨_, _, rfl⟩, HL2.out, HN2.out⟩
  | true =>
    go_wp2_with fail
    refine (pick_q Calm.calm B C w2.heap.size _ 8 _ (HL2.out.alloc _) (by have := HL2.out.lt; omega) (heap_alloc_new w2 _) rfl (by omega) (by omega) (by kernel_rfl)).mono ?_
    rintro e w3 ⟨y, rfl, hy, hq, hl3, hn3⟩
    have HL3 := Num.hide hl3
    have HN3 := Num.hide ((HN2.out.alloc _).trans hn3)
    have HO3 : Hid (Flds.Own w.heap.size w3 (.slice (some ⟨g, 0, none⟩) l.length c) l) := own_only (World.ownsRow.alloc HO2.out _) hn3 hC
    have hsz3 := HN3.out.size
    have HQ : Hid (Calm.Said Calm.cc y) := fun _ => hq
    clear hl3 hn3 HL2 HN2 HO2 hq
    go_wp2_with (at_builtin; refine wpList_append_own _ rfl _ _ 24 rfl w.heap.size 61 i0 _ 2 32 Tryd.underlying24 hi0 hz0 hz1 hz2 rfl (by decide) _ _ _ rfl (World.ownsRow.alloc HO3.out _) ⟨w3.heap.size, 0, none⟩ 1 1 [.string Calm.cc, .string y] rfl rfl (Flds.cells_two w3 Calm.cc y) (Flds.two_ok Calm.cc y) (by unfold maxLen; omega) (by omega) ?c9 ?_)
    case c9 => first | omega | (simp; omega)
    intro v' w4 ho4 hg4 hnil
    obtain ⟨hp1, hp2⟩ := Flds.put_more hsz3 HO3.out (Below.refl w.heap.size _) ho4 hg4
    have HP1 := Num.hide hp1
    have HP2 := Num.hide (HL3.out.under hp2 hC)
    have HP3 := Num.hide (HN3.out.of_below hp2)
    have HP4 := Num.hide (HF.out.more (by decide : Calm.cc.size ≤ 64) hy)
    have HP5 := Num.hide (HS.out.more HQ.out)
    have HG := Num.hide (own_some hp1 (fun e => hnil e))
    clear ho4 hg4 hp1 hp2 hnil
    go_wp2
    go_ret
    exact ⟨_, _, rfl, HP1.out, HP4.out, HP5.out, HG.out, HP2.out, HP3.out⟩
set_option maxRecDepth 100000 in
set_option maxHeartbeats 2000000 in
theorem drawCc (cap : Nat) (a : Option Addr) (l : List Int) (w : World) (hcode : CodeAt w.heap.size w a l) (hl : l.length ≤ 1048576) :
    Calls Tryd.prog 8 #[.slice a l.length cap] w fun e w' => ∃ v L x, e = .returned (.tuple #[v, .string x]) ∧ Flds.Own w.heap.size w' v L ∧ Few 5 L ∧ AllSaid L ∧ (∃ g c, v = .slice (some ⟨g, 0, none⟩) L.length c) ∧ x.size ≤ 64 ∧ Below w.heap.size w w' := by
  have HC := Num.hide hcode
  clear hcode
  go_enter Tryd.func8, Tryd.ntmps8
  go_wp2_with fail
  refine (new_at w.heap.size cap a l _ (Nat.le_refl _) HC.out hl).mono ?_
  rintro e w1 ⟨C, rfl, hC, h1, b1⟩
  have HL : Hid (Live w.heap.size C w1) := ⟨_, _, _, _, h1⟩
  have HB1 := Num.hide b1
  have hCl := h1.lt
  clear h1 b1
  go_wp2_with fail
  refine (l7_live _ C _ HL.out).mono ?_
  rintro e w2 ⟨v, L, rfl, ho2, hf, hs, hg, hl2, hn2⟩
  have HO2 := Num.hide ho2
  have HB2 := Num.hide (HB1.out.trans (hn2.below hC hCl))
  have HF := Num.hide hf
  have HS := Num.hide hs
  have HG := Num.hide hg
  have HL2 := Num.hide hl2
  have hs2 := hn2.size
  clear ho2 hf hs hg hl2 hn2 HL
  go_wp2_with fail
  refine (pick_live _ C w2.heap.size _ 5 _ (HL2.out.alloc _) (by omega) (heap_alloc_new w2 _) rfl (by omega) (by omega) (by decide)).mono ?_
  rintro e w3 ⟨x, rfl, hx, hl3, hn3⟩
  have HB3 := Num.hide ((HB2.out.alloc (by omega) _).trans (hn3.below hC (by simp; omega)))
  have HO3 := Num.hide (Recs.own_mono (own_only (World.ownsRow.alloc HO2.out _) hn3 hCl) HB1.out.size)
  clear hl3 hn3 HB2 HO2
  go_wp2
  go_ret2
  exact ⟨_, _, _, rfl, HO3.out, HF.out, HS.out, HG.out, hx, HB3.out⟩
end Draw
end Go.Proofs.YtanimnjiolgknaaDoor
namespace Go.Proofs.YtanimnjiolgknaaDoor
open Go.RowKit
set_option linter.unusedVariables false
namespace Draw

theorem CodeAt.mono {B B' : Nat} {w : World} {a : Option Addr} {l : List Int} (h : CodeAt B w a l) (hB : B ≤ B') : CodeAt B' w a l := by
  refine ⟨h.1, ?_⟩
  rcases h.2 with h | ⟨b, off, ha, hb, hc⟩
  · exact .inl h
  · exact .inr ⟨b, off, ha, by omega, hc⟩
theorem lt_of_cell {w : World} {a : Addr} {v : Value} (h : w.cell? a = some v) : a.block < w.heap.size := by
  apply Decidable.byContradiction
  intro hc
  have hn : w.heap[a.block]? = none := Array.getElem?_eq_none (by omega)
  simp [World.cell?, hn] at h
theorem code_of (w : World) (x : Addr) (len : Nat) (zs : List Int) (hl : len ≤ zs.length) (hcell : ∀ i, i < zs.length → w.cell? (x.add i) = some (.int .u8 (zs.getD i 0))) (hwz : ∀ n ∈ zs, (Lit.int .u8 n).wf = true) :
    (zs.take len).length = len ∧ CodeAt w.heap.size w (some x) (zs.take len) := by
  have hlen : (zs.take len).length = len := by rw [List.length_take]; omega
  refine ⟨hlen, ?_, ?_⟩
  · intro i hi
    have hm : (zs.take len)[i] ∈ zs := List.mem_of_mem_take (List.getElem_mem hi)
    have := bounds_u8 (hwz _ hm)
    omega
  · by_cases h0 : len = 0
    · left; subst h0; rfl
    · right
      obtain ⟨b, off, spot⟩ := x
      have hc := hcell 0 (by omega)
      have hspot : spot = none := by simpa [Addr.add] using World.cell?_spot hc
      subst hspot
      have hadd : ∀ i, (⟨b, off, none⟩ : Addr).add i = ⟨b, off + i, none⟩ := fun i => by unfold Addr.add; split <;> simp_all
      refine ⟨b, off, rfl, ?_, ?_⟩
      · have := lt_of_cell hc
        rw [hadd] at this
        exact this
      · intro i hi
        have h2 := hcell i (by omega)
        rw [hadd] at h2
        rw [h2, List.getElem_take, List.getD_eq_getElem?_getD, List.getElem?_eq_getElem (by omega)]
        rfl
set_option maxHeartbeats 400000 in
theorem big_any (a : Option Addr) (n cap : Nat) (w : World) (h : n ≤ 9223372036854775807) : Calls Tryd.prog 7 #[.slice a n cap] w fun e w' => e = .returned (.bool (decide (1048576 < (n : Int)))) ∧ w = w' := by
  go_enter Tryd.func7, Tryd.ntmps7
  go_wp2
  go_ret
  exact ⟨by simp, rfl⟩
end Draw
end Go.Proofs.YtanimnjiolgknaaDoor
namespace Go.Proofs.YtanimnjiolgknaaDoor
open Go.RowKit
set_option linter.unusedVariables false
namespace Reg

variable {P : Program} {ops : Array Oper} {Q : Exit → Act → World → Prop} {md : Region.Mode} {S : World → Prop}
theorem at_ {i : Nat} {o : Oper} (h : ops.toList[i]? = some o) : ops[i]? = some o := by rw [← Array.getElem?_toList]; exact h
/-- what is wanted and yields in every world that meets S is taken first -/
theorem take {i d : Nat} {o : Oper} {v : Value} {fuel : Nat} {listed : Array Bool} {a : Act} {w : World} (hi : ops.toList[i]? = some o) (hd : o.dst = some d)
    (hs : Region.noSelect ops = true) (hf : Region.free md ops listed i = true) (hr : (Region.ready md ops listed).contains i = true)
    (hQ : ∀ c a w, Q (.panic c) (a.put (some d) v) w → Q (.panic c) a w) (hw : Region.wanted o (yielded ops a.tmps) = true) (hy : ∀ w, S w → (execOp a.eval o).run P w = .ok (.value v) w) (hS : S w)
    (h : wpAnyH P md ops Q S fuel (listed.setIfInBounds i true) (a.put (some d) v) w) : wpAnyH P md ops Q S (fuel + 1) listed a w := by
  rw [← hd] at hQ h
  exact wpAnyH_take (at_ hi) hs hf hr hQ (.inl ⟨hw, hy⟩) hS h
/-- what is not wanted is passed by -/
theorem pass {i d : Nat} {o : Oper} {fuel : Nat} {listed : Array Bool} {a : Act} {w : World} (hi : ops.toList[i]? = some o) (hd : o.dst = some d)
    (hs : Region.noSelect ops = true) (hf : Region.free md ops listed i = true) (hr : (Region.ready md ops listed).contains i = true)
    (hQ : ∀ c a w, Q (.panic c) (a.put (some d) undef) w → Q (.panic c) a w) (hw : Region.wanted o (yielded ops a.tmps) = false) (hS : S w)
    (h : wpAnyH P md ops Q S fuel (listed.setIfInBounds i true) (a.put (some d) undef) w) : wpAnyH P md ops Q S (fuel + 1) listed a w := by
  rw [← hd] at hQ h
  exact wpAnyH_take (at_ hi) hs hf hr hQ (.inr ⟨hw, rfl⟩) hS h
/-- a call that comes up alone -/
theorem call {i : Nat} {o : Oper} {fuel : Nat} {listed : Array Bool} {a : Act} {w : World} (hi : ops.toList[i]? = some o) (hr : Region.ready md ops listed = [i]) (hw : Region.wanted o (yielded ops a.tmps) = true)
    (h : ∀ K' : Act → World → Prop, Shut (∀ a w, S w → (S w → wpAnyH P md ops Q S fuel (listed.setIfInBounds i true) a w) → K' a w) → Oper.wp P o a w K' Q) : wpAnyH P md ops Q S (fuel + 1) listed a w := by
  refine wpAnyH_ready hr (by simp) (AllReadyH.cons (at_ hi) (fun K hK => ?_) AllReadyH.nil)
  rw [if_pos hw]
  exact h K hK
end Reg
end Go.Proofs.YtanimnjiolgknaaDoor
