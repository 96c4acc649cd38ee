/-
  BuildK: WriteString and String of a strings.Builder at this program, with what else of the call's own they leave as it lay; a builder in a range over a function.
  ChunkIter: partsOfSize of the program: a text in parts of at most so many bytes, handed on one by one; and how one part is shown.
-/
import Derived.Test.YtkenmilglfnmbaaGreatDoorQan
import Derived.Shelf.Strings.BuilderK
import Derived.RangeFuncNested
import Derived.Test.YtkenmilglfnmbaaGreatDoorQam
import Derived.Test.YtkenmilglfnmbaaGreatDoorSignNum
import Derived.RangeFuncBound
import Derived.RangeFuncCalls
import Derived.RangeFuncLeaves
import Derived.Shelf.Abstract
import Derived.Shelf.RegionOpen
import Derived.WalkKit
import Derived.OwnWalkIn
import Derived.TacticsInMore
import Derived.LoopNIn
import Derived.LoopIn
namespace Go.Proofs.YtkenmilglfnmbaaGreatDoor
open Go.Shelf Go.RowKit
set_option linter.unusedVariables false
theorem Shelf.writeStringK (B b : Nat) (bs : List Value) (s : ByteArray) (w : World) (h : Lib.IsBuilderF 66 5 B b bs w) (hlen : bs.length + s.size ≤ 140737488355328) (hBw : B ≤ w.heap.size) :
    Calls Tryz.prog 40 #[.pointer (some ⟨b, 0, none⟩), .string s] w fun e w' => e = .returned (.tuple #[.int .i64 s.size, .nilIface]) ∧ (Lib.BuilderAtF 66 5 B b (.pointer (some ⟨b, 0, none⟩)) (bs ++ Lib.strCells s) w' ∧ Below B w w' ∧ Lib.OthersKept 5 (some b) w w') :=
  Any.Builder_WriteString_k Shelf.lays166 Shelf.build_extra B b bs s w h hlen hBw
theorem Shelf.builderStringK (B b : Nat) (l : List UInt8) (w : World) (h : Lib.IsBuilderF 66 5 B b (Lib.byteCells l) w) (hBw : B ≤ w.heap.size) :
    Calls Tryz.prog 42 #[.pointer (some ⟨b, 0, none⟩)] w fun e w' => e = .returned (.string ⟨l.toArray⟩) ∧ (Lib.IsBuilderF 66 5 B b (Lib.byteCells l) w' ∧ Below B w w' ∧ Lib.OthersKept 5 (some b) w w') :=
  Any.Builder_String_any_k Shelf.lays169 Shelf.build_extra B b l w h hBw
namespace Body
/-- rows of cells that are there stay -/
def RowsStay (W W' : World) : Prop := ∀ (k : Nat) (c : Array Value) (t : TypeId) (fz : Nat × Nat), W.heap[k]? = some (Obj.cells c t fz) → W'.heap[k]? = some (Obj.cells c t fz)
theorem rows_below {W W' : World} (h : Below W.heap.size W W') : RowsStay W W' := fun k c t fz hk => (h.block k (Array.getElem?_eq_some_iff.1 hk).1).trans hk
theorem isb_rows {T e : TypeId} {B b : Nat} {bs : List Value} {W W' : World} (h : Lib.IsBuilderF T e B b bs W) (hr : RowsStay W W') : Lib.IsBuilderF T e B b bs W' := by
  have key : ∀ p, Lib.BuilderAtF T e B b p bs W → Lib.BuilderAtF T e B b p bs W' := by
    rintro p ⟨hB, v, hb, ⟨h1, h2⟩, hne⟩
    refine ⟨hB, v, hr _ _ _ _ hb, ⟨h1, ?_⟩, hne⟩
    rcases h2 with h2 | ⟨g, cap, cur, fz, e1, e2, e3, e4⟩
    · exact .inl h2
    · exact .inr ⟨g, cap, cur, fz, e1, e2, hr _ _ _ _ e3, e4⟩
  exact h.elim (fun x => .inl (key _ x)) (fun x => .inr (key _ x))
theorem rows_turn {W W' : World} {row : Option Nat} (hg : W.grownBy W' row) (hr : ∀ r, row = some r → ∃ o : Obj, W.heap[r]? = some o ∧ o.isCells = false) : RowsStay W W' := fun k c t fz hk =>
  (hg.block k (Array.getElem?_eq_some_iff.1 hk).1 (fun e => by
    obtain ⟨o, ho, hc⟩ := hr k e.symm
    rw [hk] at ho
    cases ho
    cases hc)).trans hk
theorem isb_own {β : Type} (n : Nat) (T e : TypeId) (B b : Nat) (f : β → List Value) : OwnFrom n (fun s W => Lib.IsBuilderF T e B b (f s) W) := fun s W W' row hs hg hr => isb_rows hs (rows_turn hg (fun r e => (hr r e).2))
/-- a block that is there stays as it is -/
def KeepB (k : Nat) (W W' : World) : Prop := ∀ o, W.heap[k]? = some o → W'.heap[k]? = some o
theorem keepB_t {k : Nat} {A B C : World} (h : KeepB k A B) (g : KeepB k B C) : KeepB k A C := fun o ho => g o (h o ho)
theorem keepB_b {k : Nat} {w : World} (hk : k < w.heap.size) (W : World) (l : Nat) (o o' : Obj) (hl : w.heap.size ≤ l) (h : W.heap[l]? = some o) (_ : o.isCells = false) (_ : o.isWalk = false) : KeepB k W (W.putObj l o') := fun x hx => (World.putObj_heap_other (by omega)).trans hx
theorem keepB_below {k : Nat} {W W' : World} (h : Below W.heap.size W W') : KeepB k W W' := fun o ho => (h.block k (Array.getElem?_eq_some_iff.1 ho).1).trans ho
theorem keepB_others {k b : Nat} {e : TypeId} {W W' : World} (h : Lib.OthersKept e (some b) W W') (hk : k ≠ b) {c : Array Value} {t : TypeId} {fz : Nat × Nat} (hc : W.heap[k]? = some (.cells c t fz)) (ht : t ≠ e) : KeepB k W W' := fun o ho => by
  rw [hc] at ho
  cases ho
  exact h k _ hc (fun e => hk (by cases e; rfl)) (fun c' fz' e => by cases e; exact ht rfl)
theorem from_others {b n : Nat} {e : TypeId} {W W' : World} (h : Lib.OthersKept e (some b) W W') (hs : W.heap.size ≤ W'.heap.size) (hn : b < n) : KeepsFrom n W W' :=
  ⟨hs, fun k o hk ho hc => h k o ho (fun e => by cases e; omega) (fun c fz e => by subst e; cases hc)⟩
theorem from_below {n : Nat} {W W' : World} (h : Below W.heap.size W W') : KeepsFrom n W W' := ⟨h.size, fun k o _ ho _ => (h.block k (Array.getElem?_eq_some_iff.1 ho).1).trans ho⟩
end Body
end Go.Proofs.YtkenmilglfnmbaaGreatDoor
namespace Go.Proofs.YtkenmilglfnmbaaGreatDoor
open Go.RowKit Go.Shelf
attribute [local go_sem] Oper.semAt_some
set_option linter.unusedVariables false
namespace Body

/-- how one part is shown -/
def pieceL (b : ByteArray) : List UInt8 := hexL (b.size : Int) ++ [13, 10] ++ b.data.toList ++ [13, 10]
def piece (b : ByteArray) : ByteArray := ⟨(pieceL b).toArray⟩
theorem piece_eq (b : ByteArray) : hexNum (b.size : Int) ++ ⟨#[13, 10]⟩ ++ b ++ ⟨#[13, 10]⟩ = piece b := by
  apply ByteArray.ext
  apply Array.ext'
  simp only [ByteArray.data_append, Array.toList_append]
  unfold piece pieceL hexNum
  simp
theorem pieceL_len (b : ByteArray) : (pieceL b).length ≤ b.size + 20 := by
  have := hexL_len (b.size : Int)
  unfold pieceL
  simp only [List.length_append, List.length_cons, List.length_nil, Array.length_toList]
  have e : b.data.size = b.size := rfl
  omega
theorem piece_size (b : ByteArray) : (piece b).size ≤ b.size + 20 := by
  have := pieceL_len b
  show (pieceL b).toArray.size ≤ _
  rw [List.size_toArray]
  exact this
set_option maxRecDepth 100000 in
set_option maxHeartbeats 2000000 in
theorem show_piece (b : ByteArray) (w : World) (hb : b.size ≤ 1048576) (h : Tz w) :
    Calls Tryz.prog 41 #[.string b] w fun e w' => e = .returned (.string (piece b)) ∧ Below w.heap.size w w' := by
  have HC := Num.hide (hexNum_impl (b.size : Int) w (by omega) h)
  have HE := Num.hide (piece_eq b)
  have hxs := hexNum_size (b.size : Int)
  generalize hexNum (b.size : Int) = hx at HC HE hxs
  generalize piece b = r at HE
  clear h
  go_enter Tryz.func41, Tryz.ntmps41
  go_wp2_with fail
  refine HC.out.mono ?_
  rintro e w1 ⟨rfl, hb1⟩
  have HB := Num.hide hb1
  clear hb1
  go_wp2
  go_ret
  exact ⟨by rw [← HE.out]; rfl, HB.out⟩
/-- a part of a text -/
abbrev Pt := { b : ByteArray // b.size ≤ 1048576 }
def shownL (pre : List Pt) : List UInt8 := pre.flatMap (fun x => pieceL x.1)
theorem shownL_snoc (pre : List Pt) (x : Pt) : shownL (pre ++ [x]) = shownL pre ++ pieceL x.1 := by unfold shownL; simp
theorem shownL_len (pre : List Pt) : (shownL pre).length ≤ pre.length * 1048596 := by
  induction pre with
  | nil => exact Nat.zero_le _
  | cons x r ih =>
    have h1 := pieceL_len x.1
    have h2 := x.2
    have e : shownL (x :: r) = pieceL x.1 ++ shownL r := rfl
    rw [e, List.length_append, List.length_cons]
    omega
set_option maxRecDepth 100000 in
set_option maxHeartbeats 2000000 in
theorem parts_stops (n Z k1 k2 : Nat) (s : ByteArray) (w : World) (hn : 1 ≤ n) (hs : s.size ≤ 1048576) (hz : 1 ≤ Z) (hz2 : (Z : Int) ≤ 9223372036854775807)
    (h1 : w.heap[k1]? = some (.cells #[.string s] 9 (0, 0))) (h2 : w.heap[k2]? = some (.cells #[.int .i64 (Z : Int)] 3 (0, 0))) :
    SeqStopsK Fence.wide n Tryz.prog 83 #[.pointer (some ⟨k1, 0, none⟩), .pointer (some ⟨k2, 0, none⟩)] (fun x : Pt => #[Value.string x.1]) (KeepB k2) (fun xs => shownL xs = chunkL Z s.data.toList) (fun _ => True) s.size w := fun l J Jx W hW hJ hJx hY h0 => by
  have hW1 := (hW.block k1 (Array.getElem?_eq_some_iff.1 h1).1).trans h1
  have hW2 := (hW.block k2 (Array.getElem?_eq_some_iff.1 h2).1).trans h2
  have hc1 : W.cell? ⟨k1, 0, none⟩ = some (.string s) := by simp [World.cell?, hW1]
  have HW2 := Num.hide hW2
  have HY := Num.hide hY
  have H0 := Num.hide h0
  clear hW hJ hJx hY h0 hW1 hW2 h1 h2
  refine callsIn_of_wp Tryz.func83 rfl trivial ?_ rfl
  simp only [Tryz.ntmps83, List.size_toArray, List.length_cons, List.length_nil, Nat.reduceAdd, Nat.reduceSub, Array.replicate_succ, Array.replicate_zero, List.push_toArray, List.append_toArray, List.nil_append, List.cons_append]
  gi_wp2
  gi_loopw [4] (fun rv wr => ∃ (t : ByteArray) (pre : List Pt), rv = .string t ∧ t.size + pre.length ≤ s.size ∧ Hid (shownL pre ++ chunkL Z t.data.toList = chunkL Z s.data.toList) ∧ Hid (J pre wr) ∧ Hid (wr.heap[k2]? = some (.cells #[.int .i64 (Z : Int)] 3 (0, 0)))) (fun rv _ => match rv with | .string t => t.size | _ => 0)
  case atStart => exact ⟨s, [], rfl, by simp, by show _ = _; rfl, H0, HW2⟩
  case round =>
    obtain ⟨t, pre, rfl, hts, HE, HJ, HK⟩ := hrel
    by_cases ht : t.size = 0
    · obtain rfl : t = ⟨#[]⟩ := Sign.empty_true _ ht
      have he := HE.out
      rw [show (⟨#[]⟩ : ByteArray).data.toList = [] from rfl, chunkL_nil, List.append_nil] at he
      have HE2 := Num.hide he
      clear he
      gi_wp2
      go_end0
      exact ⟨⟨_, rfl⟩, .inl ⟨pre, HE2.out, HJ.out⟩⟩
    · have hne := Sign.empty_false t (by omega)
      have hc2 : wr.cell? ⟨k2, 0, none⟩ = some (.int .i64 (Z : Int)) := by have := HK.out; simp [World.cell?, this]
      obtain ⟨m, hm, hmn⟩ : ∃ m : Nat, min (Z : Int) (t.size : Int) = (m : Int) ∧ Hid (min Z t.size = m) := ⟨min Z t.size, by omega, rfl⟩
      have hmt : m ≤ t.size := by have := hmn.out; omega
      have hm1 : 1 ≤ m := by have := hmn.out; omega
      obtain ⟨fn, tmps, assign, body, hy, hR⟩ := HY.out pre ⟨t.extract 0 m, by rw [ByteArray.size_extract]; omega⟩ wr HJ.out (by omega)
      dsimp only at hy
      have HR := Num.hide hR
      clear hR
      have hE2 : shownL (pre ++ [⟨t.extract 0 m, by rw [ByteArray.size_extract]; omega⟩]) ++ chunkL Z (t.extract m t.size).data.toList = chunkL Z s.data.toList := by
        rw [← HE.out, shownL_snoc]
        have e3 : t.data.toList.length = t.size := by rw [Array.length_toList]; rfl
        have hne : t.data.toList ≠ [] := fun h => by rw [h] at e3; simp at e3; omega
        have e1 : (t.extract 0 m).data.toList = t.data.toList.take m := by
          rw [ByteArray.data_extract, Array.toList_extract, List.extract_eq_drop_take', List.drop_zero]
        have e2 : (t.extract m t.size).data.toList = t.data.toList.drop m := by
          rw [ByteArray.data_extract, Array.toList_extract, List.extract_eq_drop_take', List.take_of_length_le (by omega)]
        have e4 : (t.extract 0 m).size = m := by rw [ByteArray.size_extract]; omega
        rw [chunkL_step Z (by omega) t.data.toList hne, e3, hmn.out]
        unfold pieceL
        simp only [e1, e2, e4, List.append_assoc]
      have HE2 := Num.hide hE2
      clear hE2
      gi_wp2
      refine HR.out.mono ?_
      rintro e W3 (⟨rfl, hJ3, hk3⟩ | ⟨rfl, hJx3⟩)
      · have HJ3 := Num.hide hJ3
        have HK3 : Hid (W3.heap[k2]? = some (.cells #[.int .i64 (Z : Int)] 3 (0, 0))) := hk3 _ HK.out
        clear hJ3 hk3
        gi_wp2
        go_roundw
        case rel => exact ⟨_, _, rfl, by rw [ByteArray.size_extract, List.length_append, List.length_singleton]; omega, HE2, HJ3, HK3⟩
        case measure => simp only [ByteArray.size_extract]; omega
      · have HJ3 := Num.hide hJx3
        clear hJx3
        gi_wp2
        refine bodyPost_ret (results_none rfl _ _ _) rfl ?_
        exact ⟨⟨_, rfl⟩, .inr ⟨_, trivial, HJ3.out⟩⟩
end Body
end Go.Proofs.YtkenmilglfnmbaaGreatDoor
