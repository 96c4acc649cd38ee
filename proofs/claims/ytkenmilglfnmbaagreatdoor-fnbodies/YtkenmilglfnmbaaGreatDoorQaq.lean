/-
  PiecesIter: piecesAhead of the program: the pieces of a body, handed on one by one up to the first that is empty or at fault.
-/
import Derived.Test.YtkenmilglfnmbaaGreatDoorPieceImpl
import Derived.Test.YtkenmilglfnmbaaGreatDoorQao
import Derived.RangeFuncNested
import Derived.RangeFuncBound
import Derived.RangeFuncCalls
import Derived.RangeFuncLeaves
import Derived.Shelf.Abstract
import Derived.Shelf.RegionOpen
import Derived.WalkKit
import Derived.OwnWalkIn
import Derived.TacticsInMore
import Derived.LoopNIn
import Derived.LoopIn
namespace Go.Proofs.YtkenmilglfnmbaaGreatDoor
open Go.RowKit Go.Shelf
attribute [local go_sem] Oper.semAt_some
set_option linter.unusedVariables false
namespace Body

/-- a piece, as it is handed on -/
abbrev Pc := { x : Pc0 // x.1.size ≤ 60 ∧ x.2.1 ≤ 4194304 ∧ x.2.2 ≤ 2 }
def catB (l : List Pc) : ByteArray := l.foldl (fun o x => o ++ x.1.1) ⟨#[]⟩
def sumU (l : List Pc) : Nat := l.foldl (fun n x => n + x.1.2.1) 0
theorem catB_snoc (l : List Pc) (x : Pc) : catB (l ++ [x]) = catB l ++ x.1.1 := by unfold catB; rw [List.foldl_append]; rfl
theorem sumU_snoc (l : List Pc) (x : Pc) : sumU (l ++ [x]) = sumU l + x.1.2.1 := by unfold sumU; rw [List.foldl_append]; rfl
/-- of what there was all rows of pieces stay, and all that is old -/
def KeepP (n : Nat) (W W' : World) : Prop := Below n W W' ∧ ∀ (k : Nat) (c : Array Value) (fz : Nat × Nat), W.heap[k]? = some (.cells c 117 fz) → W'.heap[k]? = some (.cells c 117 fz)
theorem keepP_t {n : Nat} {A B C : World} (h : KeepP n A B) (g : KeepP n B C) : KeepP n A C := ⟨h.1.trans g.1, fun k c fz hk => g.2 k c fz (h.2 k c fz hk)⟩
theorem keepP_b {n : Nat} {w : World} (hn : n ≤ w.heap.size) (W : World) (l : Nat) (o o' : Obj) (hl : w.heap.size ≤ l) (h : W.heap[l]? = some o) (hc : o.isCells = false) (hw : o.isWalk = false) : KeepP n W (W.putObj l o') :=
  ⟨belowK_b hn W l o o' hl h hc hw, fun k c fz hk => (World.putObj_heap_other (by rintro rfl; rw [h] at hk; cases hk; cases hc)).trans hk⟩
theorem grown_of_below {W W' : World} (h : Below W.heap.size W W') : W.grownBy W' none := ⟨h.os, h.tape, h.output, h.size, fun k hk _ => h.block k hk⟩
/-- what is known at the end, and where it was left -/
def PEnd (s : ByteArray) (xs : List Pc) : Prop := (∀ x ∈ xs, x.1.2.2 = 0) → unchunk s = (catB xs, (sumU xs : Int), 0)
def PLeft (s : ByteArray) (xs : List Pc) : Prop := ∀ init x, xs = init ++ [x] → x.1.2.2 ≠ 0 → unchunk s = (⟨#[]⟩, 0, (x.1.2.2 : Int))
theorem snoc_inj {α : Type} {l l' : List α} {x x' : α} (h : l ++ [x] = l' ++ [x']) : l = l' ∧ x = x' := by
  have := List.append_inj' h rfl
  exact ⟨this.1, by simpa using this.2⟩
set_option maxRecDepth 100000 in
set_option maxHeartbeats 4000000 in
theorem pieces_stops (n n0 k1 : Nat) (s : ByteArray) (m b : Addr) (w : World) (hn : 1 ≤ n) (hs : s.size ≤ 1048576) (hn0 : n0 ≤ w.heap.size)
    (hG : ∀ W, Below n0 w W → Lim W ∧ Syn W ∧ Errs m b W)
    (h1 : w.heap[k1]? = some (.cells #[.string s] 9 (0, 0))) :
    SeqStopsK Fence.wide n Tryz.prog 132 #[.pointer (some ⟨k1, 0, none⟩)] (fun x : Pc => #[Value.agg #[.string x.1.1, .int .i64 (x.1.2.1 : Int)], errV m b x.1.2.2]) (KeepP n0) (PEnd s) (PLeft s) (s.size + 1) w := fun l J Jx W hW hJ hJx hY h0 => by
  have hW1 := (hW.block k1 (Array.getElem?_eq_some_iff.1 h1).1).trans h1
  have hc1 : W.cell? ⟨k1, 0, none⟩ = some (.string s) := by simp [World.cell?, hW1]
  have HY := Num.hide hY
  have HJ := Num.hide hJ
  have H0 := Num.hide h0
  have HG := Num.hide hG
  have HW := Num.hide (hW.mono hn0)
  clear hW hJ hJx hY h0 hW1 h1 hG
  refine callsIn_of_wp Tryz.func132 rfl trivial ?_ rfl
  simp only [Tryz.ntmps132, List.size_toArray, List.length_cons, List.length_nil, Nat.reduceAdd, Nat.reduceSub, Array.replicate_succ, Array.replicate_zero, List.push_toArray, List.append_toArray, List.nil_append, List.cons_append]
  gi_wp2
  gi_loopw [3, 4] (fun rv ov wr => ∃ (a room : Nat) (pre : List Pc), rv = .string (s.extract a s.size) ∧ ov = .int .i64 (room : Int) ∧ a ≤ s.size ∧ room ≤ 60 ∧ pre.length ≤ a ∧ Hid (room + (catB pre).size = 60 ∧ UnAt s a (catB pre) ∧ sumU pre = a ∧ ∀ x ∈ pre, x.1.2.2 = 0) ∧ Hid (J pre wr) ∧ Hid (Below n0 w wr) ∧ W.heap.size ≤ wr.heap.size) (fun rv _ _ => match rv with | .string t => t.size | _ => 0)
  case atStart => exact ⟨0, 60, [], by simp, rfl, Nat.zero_le _, Nat.le_refl _, Nat.le_refl _, ⟨rfl, un_start s, rfl, fun x h => by cases h⟩, H0, HW, Nat.le_refl _⟩
  case round =>
    obtain ⟨a, room, pre, rfl, rfl, ha, hr, hpl, HA, HJp, HB, hzs⟩ := hrel
    obtain ⟨hm, hS, hE⟩ := HG.out _ HB.out
    have HC := Num.hide (piece_impl s a room m b wr hs ha hr hm hS hE)
    have hz : (s.extract a s.size).size = s.size - a := by rw [ByteArray.size_extract]; omega
    have hcd := pc_code (s := s) (a := a) (room := room)
    have HT := Num.hide (fun h => pc_told (room := room) HA.out.2.1 HA.out.1 h)
    have HRt := Num.hide (fun h => pc_right (room := room) HA.out.2.1 HA.out.1 h)
    clear hm hS hE
    unfold pcV at HC
    generalize pieceAt s a room = X at HC hcd HT HRt
    obtain ⟨t, u, c⟩ := X
    have hpn : pre.length < s.size + 1 := by omega
    by_cases hc : c = 0
    · subst hc
      obtain ⟨g1, g2, g3, g4, g5⟩ := HRt.out rfl
      have G4 := Num.hide g4
      have G5 := Num.hide g5
      replace g1 : t.size ≤ room := g1
      replace g2 : a + u ≤ s.size := g2
      have hp : t.size ≤ 60 ∧ u ≤ 4194304 ∧ 0 ≤ 2 := ⟨Nat.le_trans g1 hr, by omega, hcd⟩
      clear g4 g5 HT HRt hcd
      simp only [errV] at HC
      by_cases ht : t.size = 0
      · obtain rfl : t = ⟨#[]⟩ := Sign.empty_true _ ht
        have HYx := Num.hide (fun W => HY.out pre ⟨(⟨#[]⟩, u, 0), hp⟩ W)
        gi_wp2_with (refine ⟨trivial, ?_⟩; gi_at_call 133; refine (callsIn_wide.2 HC.out).mono ?_; rintro e w1 ⟨rfl, hb1⟩; have hb2 : Below wr.heap.size wr (w1.alloc (.cells #[.string ⟨#[]⟩, .int .i64 (u : Int)] 117)) := hb1.alloc hb1.size _; have hbx := World.alloc_heap_new w1 (.cells #[.string ⟨#[]⟩, .int .i64 (u : Int)] 117); obtain ⟨fn, tmps, assign, body, hy, hR⟩ := HYx.out _ (HJ.out pre wr _ none HJp.out (grown_of_below hb2) (fun r e => by cases e)) hpn; simp only [errV] at hy; have HR := Num.hide hR; have hws := hb2.size; have HB2 := Num.hide (HB.out.trans (hb2.mono (Nat.le_trans hn0 HB.out.size))); clear hR hb1 hb2 HC)
        refine HR.out.mono ?_
        rintro e W3 (⟨rfl, hJ3, hk3⟩ | ⟨rfl, hJx3⟩)
        · have hbx3 := hk3.2 _ _ _ hbx
          have c0 : W3.cell? ⟨w1.heap.size, 0, none⟩ = some (.string ⟨#[]⟩) := by simp [World.cell?, hbx3]
          have HJ3 := Num.hide hJ3
          clear hk3 hJ3
          gi_wp2
          refine bodyPost_ret (results_none rfl _ _ _) rfl ?_
          exact ⟨⟨_, rfl⟩, .inl ⟨_, fun _ => by rw [catB_snoc, sumU_snoc, HA.out.2.2.1]; exact G4.out rfl, HJ3.out⟩⟩
        · have HJ3 := Num.hide hJx3
          clear hJx3
          gi_wp2
          refine bodyPost_ret (results_none rfl _ _ _) rfl ?_
          exact ⟨⟨_, rfl⟩, .inr ⟨_, fun init x he hx => by obtain ⟨rfl, rfl⟩ := snoc_inj he; exact absurd rfl hx, HJ3.out⟩⟩
      · have hne := Sign.empty_false t (by omega)
        have HYx := Num.hide (fun W => HY.out pre ⟨(t, u, 0), hp⟩ W)
        gi_wp2_with (refine ⟨trivial, ?_⟩; gi_at_call 133; refine (callsIn_wide.2 HC.out).mono ?_; rintro e w1 ⟨rfl, hb1⟩; have hb2 : Below wr.heap.size wr (w1.alloc (.cells #[.string t, .int .i64 (u : Int)] 117)) := hb1.alloc hb1.size _; have hbx := World.alloc_heap_new w1 (.cells #[.string t, .int .i64 (u : Int)] 117); obtain ⟨fn, tmps, assign, body, hy, hR⟩ := HYx.out _ (HJ.out pre wr _ none HJp.out (grown_of_below hb2) (fun r e => by cases e)) hpn; simp only [errV] at hy; have HR := Num.hide hR; have hws := hb2.size; have HB2 := Num.hide (HB.out.trans (hb2.mono (Nat.le_trans hn0 HB.out.size))); clear hR hb1 hb2 HC)
        refine HR.out.mono ?_
        rintro e W3 (⟨rfl, hJ3, hk3⟩ | ⟨rfl, hJx3⟩)
        · have hbx3 := hk3.2 _ _ _ hbx
          have c0 : W3.cell? ⟨w1.heap.size, 0, none⟩ = some (.string t) := by simp [World.cell?, hbx3]
          have c1 : W3.cell? ⟨w1.heap.size, 1, none⟩ = some (.int .i64 (u : Int)) := by simp [World.cell?, hbx3]
          have HJ3 := Num.hide hJ3
          have HB3 := Num.hide (HB2.out.trans hk3.1)
          have hz3 := hk3.1.size
          clear hk3 hJ3
          have hsl : (s.extract a s.size).extract u (s.size - a) = s.extract (a + u) s.size := by
            rw [ByteArray.extract_extract]
            congr 1
            omega
          have hmx : Tryz.prog.follows .mixedOrders = true := by kernel_rfl
          gi_wp2
          gi_region_o
          all_goals gi_wp2
          have HJd : Hid (J (pre ++ [⟨(t, u, 0), hp⟩]) W3.drew) := HJ.out _ W3 _ none HJ3.out (grown_of_below ((Below.refl _ W3).drew)) (fun r e => by cases e)
          have hlast : Hid (room - t.size + (catB (pre ++ [⟨(t, u, 0), hp⟩])).size = 60 ∧ UnAt s (a + u) (catB (pre ++ [⟨(t, u, 0), hp⟩])) ∧ sumU (pre ++ [⟨(t, u, 0), hp⟩]) = a + u ∧ ∀ x ∈ (pre ++ [⟨(t, u, 0), hp⟩]), x.1.2.2 = 0) := by
            have g := HA.out
            refine ⟨by rw [catB_snoc, ByteArray.size_append]; have := g.1; show room - t.size + ((catB pre).size + t.size) = 60; omega, by rw [catB_snoc]; exact G5.out ht, by rw [sumU_snoc, g.2.2.1], fun x hx => ?_⟩
            rcases List.mem_append.1 hx with hx | hx
            · exact g.2.2.2 x hx
            · obtain rfl := List.mem_singleton.1 hx
              rfl
          go_roundw
          case rel => exact ⟨a + u, room - t.size, _, rfl, by congr 1; omega, g2, by omega, by rw [List.length_append, List.length_singleton]; omega, hlast, HJd, HB3.out.drew, by show W.heap.size ≤ W3.heap.size; omega⟩
          case measure => simp only [ByteArray.size_extract]; omega
        · have HJ3 := Num.hide hJx3
          clear hJx3
          gi_wp2
          refine bodyPost_ret (results_none rfl _ _ _) rfl ?_
          exact ⟨⟨_, rfl⟩, .inr ⟨_, fun init x he hx => by obtain ⟨rfl, rfl⟩ := snoc_inj he; exact absurd rfl hx, HJ3.out⟩⟩
    · obtain ⟨g1, rfl, rfl⟩ := HT.out hc
      have G1 := Num.hide g1
      have hp : (⟨#[]⟩ : ByteArray).size ≤ 60 ∧ 0 ≤ 4194304 ∧ c ≤ 2 := ⟨by decide, by omega, hcd⟩
      obtain ⟨ad, had⟩ : ∃ ad, errV m b c = .iface 199 (.pointer (some ad)) := by
        match c, hc, hcd with
        | 1, _, _ => exact ⟨m, rfl⟩
        | 2, _, _ => exact ⟨b, rfl⟩
      have HYx := Num.hide (fun W => HY.out pre ⟨(⟨#[]⟩, 0, c), hp⟩ W)
      simp only [had] at HYx
      rw [had, show ((0 : Nat) : Int) = 0 from rfl] at HC
      clear g1 HT HRt
      gi_wp2_with (refine ⟨trivial, ?_⟩; gi_at_call 133; refine (callsIn_wide.2 HC.out).mono ?_; rintro e w1 ⟨rfl, hb1⟩; have hb2 : Below wr.heap.size wr (w1.alloc (.cells #[.string ⟨#[]⟩, .int .i64 0] 117)) := hb1.alloc hb1.size _; have hbx := World.alloc_heap_new w1 (.cells #[.string ⟨#[]⟩, .int .i64 0] 117); obtain ⟨fn, tmps, assign, body, hy, hR⟩ := HYx.out _ (HJ.out pre wr _ none HJp.out (grown_of_below hb2) (fun r e => by cases e)) hpn; rw [show ((0 : Nat) : Int) = 0 from rfl] at hy; have HR := Num.hide hR; have hws := hb2.size; have HB2 := Num.hide (HB.out.trans (hb2.mono (Nat.le_trans hn0 HB.out.size))); clear hR hb1 hb2 HC)
      refine HR.out.mono ?_
      rintro e W3 (⟨rfl, hJ3, hk3⟩ | ⟨rfl, hJx3⟩)
      · have HJ3 := Num.hide hJ3
        clear hk3 hJ3
        gi_wp2
        refine bodyPost_ret (results_none rfl _ _ _) rfl ?_
        exact ⟨⟨_, rfl⟩, .inl ⟨_, fun h => absurd (h _ (List.mem_append.2 (.inr (List.mem_singleton.2 rfl)))) hc, HJ3.out⟩⟩
      · have HJ3 := Num.hide hJx3
        clear hJx3
        gi_wp2
        refine bodyPost_ret (results_none rfl _ _ _) rfl ?_
        exact ⟨⟨_, rfl⟩, .inr ⟨_, fun init x he hx => by obtain ⟨rfl, rfl⟩ := snoc_inj he; exact G1.out, HJ3.out⟩⟩
end Body
end Go.Proofs.YtkenmilglfnmbaaGreatDoor
