/-
  MsgNum: Messages, plain: requests and answers, their texts, and what is read of a text.
  HeurNum: The numbers by which an answer may be stored, plain.
  PolStore: What may be, plain: what is stored; with no-store nothing is.
  FldSz: szField and szFieldS of the laws: how large a list of fields is.
  RespVal: A response as a value.
  ReqVal: A request as a value.
  Boxes: Boxes of a call's own: what a store into one leaves of what lies below and of the rows behind.
-/
import Derived.Test.YtjeokackmkfooaaGreatDoorPae
import Derived.Test.YtjeokackmkfooaaGreatDoorPaf
import Derived.Test.YtjeokackmkfooaaGreatDoorPac
import Derived.WalkKit
import Derived.Test.YtjeokackmkfooaaGreatDoorPad
import Derived.Test.YtjeokackmkfooaaGreatDoorFlds
import Derived.Test.YtjeokackmkfooaaGreatDoorRecs
namespace Go.Proofs.YtjeokackmkfooaaGreatDoor
open Go.RowKit
set_option linter.unusedVariables false
namespace Msg
open Line (byteAt byteAt_eq eol)
open Flds (Fld)

def decB (n : Int) : ByteArray := ⟨(Lib.itoa n).toArray⟩
/-- fields without those that say how long a body is -/
def bare (l : List Fld) : List Fld := Flds.drop (Flds.drop l Body.teName) Body.clName
def framed (l : List Fld) (b : ByteArray) : List Fld := bare l ++ [(Body.clName, decB b.size)]
def plain (l : List Fld) : Bool := !(Flds.get l Body.teName).2 && !(Flds.get l Body.clName).2 && decide (l.length < 12) && Flds.ok l
def reqOk (m u : ByteArray) (l : List Fld) (b : ByteArray) : Bool := Sign.isTok m && decide (m.size ≤ 10) && uriOk u && plain l && decide (b.size ≤ 60)
def ver : ByteArray := ⟨#[72, 84, 84, 80, 47, 49, 46, 49]⟩
/-- the text of a request -/
def reqText (m u : ByteArray) (l : List Fld) (b : ByteArray) : ByteArray := m ++ ⟨#[32]⟩ ++ u ++ ⟨#[32, 72, 84, 84, 80, 47, 49, 46, 49, 13, 10]⟩ ++ Flds.shown (framed l b) ++ b
def showReq (m u : ByteArray) (l : List Fld) (b : ByteArray) : ByteArray := if reqOk m u l b = true then reqText m u l b else ⟨#[]⟩
/-- a body's code as a message's -/
def codeOf (c : Int) : Int := if c = 0 then 0 else if c = 1 then 1 else 2
abbrev Rq := (ByteArray × ByteArray × List Fld × ByteArray) × Int × Int
def noRq (c : Int) : Rq := ((⟨#[]⟩, ⟨#[]⟩, [], ⟨#[]⟩), 0, c)
def readReq (s : ByteArray) : Rq :=
  if whole s = false then noRq (if 1500 < s.size then 2 else 1)
  else match eol s 0 with
    | none => noRq 2
    | some k => match Flds.read (s.extract (k + 2) s.size) with
      | none => noRq 2
      | some (l, n) =>
        if (words (s.extract 0 k)).2.2 = ver ∧ reqOk (words (s.extract 0 k)).1 (words (s.extract 0 k)).2.1 (bare l) ⟨#[]⟩ = true then
          (if (Body.bodyOf l (s.extract (k + 2 + n) s.size) false).2.2 = 0 then (((words (s.extract 0 k)).1, (words (s.extract 0 k)).2.1, bare l, (Body.bodyOf l (s.extract (k + 2 + n) s.size) false).1), ((k + 2 + n : Nat) : Int) + (Body.bodyOf l (s.extract (k + 2 + n) s.size) false).2.1, 0)
           else noRq (codeOf (Body.bodyOf l (s.extract (k + 2 + n) s.size) false).2.2))
        else noRq 2
/-- is a response right? -/
def respOk (st : Int) (l : List Fld) (b : ByteArray) : Bool := decide (200 ≤ st ∧ st ≤ 599) && plain l && decide (b.size ≤ 60) && (decide (st ≠ 204 ∧ st ≠ 304) || decide (b = ⟨#[]⟩))
def respFields (st : Int) (l : List Fld) (b : ByteArray) : List Fld := if st ≠ 204 ∧ st ≠ 304 then framed l b else l
def respText (st : Int) (l : List Fld) (b : ByteArray) : ByteArray := ⟨#[72, 84, 84, 80, 47, 49, 46, 49, 32]⟩ ++ decB st ++ ⟨#[32]⟩ ++ reason st ++ ⟨#[13, 10]⟩ ++ Flds.shown (respFields st l b) ++ b
def showResp (st : Int) (l : List Fld) (b : ByteArray) : ByteArray := if respOk st l b = true then respText st l b else ⟨#[]⟩
end Msg
end Go.Proofs.YtjeokackmkfooaaGreatDoor
namespace Go.Proofs.YtjeokackmkfooaaGreatDoor
open Go.RowKit
namespace Pol

def heurList : List Int := [200, 203, 204, 300, 301, 404, 410]
def heuristic (st : Int) : Bool := decide (st ∈ heurList)
end Pol
end Go.Proofs.YtjeokackmkfooaaGreatDoor
namespace Go.Proofs.YtjeokackmkfooaaGreatDoor
open Go.RowKit
set_option linter.unusedVariables false
namespace Pol
open Flds (Fld)
open Age (sMaxAge maxAge expiresName)

/-- does it hang on all? -/
def starred (L : List ByteArray) : Bool := L.any fun t => decide (t = star)
/-- what forbids that it is stored -/
def barred (lq lr : List Fld) : Bool := said lq noStore || said lr noStore || said lr priv
/-- is it for one alone who asked? -/
def alone (lq lr : List Fld) : Bool := (Flds.get lq authName).2 && !said lr publ && !said lr sMaxAge && !said lr mustRe
/-- is anything said that lets it be stored? -/
def letsBe (st : Int) (lr : List Fld) : Bool := said lr publ || said lr maxAge || said lr sMaxAge || (Flds.get lr expiresName).2 || heuristic st
def storable (m : ByteArray) (lq : List Fld) (st : Int) (lr : List Fld) (br : ByteArray) : Bool :=
  decide (m = getM) && decide (st ≠ 304) && Msg.respOk st lr br && !barred lq lr && !starred (Sign.split (Flds.get lr varyName).1) && !alone lq lr && letsBe st lr
theorem not_q (m : ByteArray) (lq : List Fld) (st : Int) (lr : List Fld) (br : ByteArray) (h : said lq noStore = true) : storable m lq st lr br = false := by
  unfold storable barred; rw [h]; simp
theorem not_r (m : ByteArray) (lq : List Fld) (st : Int) (lr : List Fld) (br : ByteArray) (h : said lr noStore = true) : storable m lq st lr br = false := by
  unfold storable barred; rw [h]; simp
theorem stored_is (m : ByteArray) (lq : List Fld) (st : Int) (lr : List Fld) (br : ByteArray) (h : storable m lq st lr br = true) : m = getM ∧ st ≠ 304 ∧ said lr priv = false := by
  unfold storable barred at h
  simp only [Bool.and_eq_true, decide_eq_true_iff, Bool.not_eq_true', Bool.or_eq_false_iff] at h
  obtain ⟨⟨⟨⟨⟨⟨h1, h2⟩, _⟩, h3⟩, _⟩, _⟩, _⟩ := h
  exact ⟨h1, h2, h3.2⟩
end Pol
end Go.Proofs.YtjeokackmkfooaaGreatDoor
namespace Go.Proofs.YtjeokackmkfooaaGreatDoor
open Go.RowKit
set_option linter.unusedVariables false
namespace Flds

theorem ret_int {k : IntKind} {a b : Int} (h : a = b) : Ending.returned (.int k a) = .returned (.int k b) := by rw [h]
set_option maxRecDepth 100000 in
set_option maxHeartbeats 1000000 in
theorem szField_any (f : Fld) (n : Int) (w : World) (h0 : 0 ≤ n) (h1 : n ≤ 1048576) (hf : f.1.size ≤ 9223372036854775807 ∧ f.2.size ≤ 9223372036854775807) :
    Calls Tryz.prog 77 #[.agg #[.string f.1, .string f.2], .int .i64 n] w fun e w' => e = .returned (.int .i64 (left n (f.1.size + f.2.size))) ∧ Below w.heap.size w w' := by
  obtain ⟨x, y⟩ := f
  simp only at hf ⊢
  obtain ⟨r, hr⟩ : ∃ r, left n (x.size + y.size) = r := ⟨_, rfl⟩
  rw [hr]
  unfold left at hr
  by_cases hx : n - x.size < 0
  · rw [if_pos (by omega)] at hr
    subst hr
    go_enter Tryz.func77, Tryz.ntmps77
    go_wp2
    go_ret
    exact ⟨rfl, (Below.refl _ _).alloc (Nat.le_refl _) _⟩
  · by_cases hy : n - x.size - y.size < 0
    · rw [if_pos (by omega)] at hr
      subst hr
      go_enter Tryz.func77, Tryz.ntmps77
      go_wp2
      go_ret
      exact ⟨rfl, (Below.refl _ _).alloc (Nat.le_refl _) _⟩
    · rw [if_neg (by omega)] at hr
      have HR := Num.hide hr
      clear hr
      go_enter Tryz.func77, Tryz.ntmps77
      go_wp2
      go_ret
      exact ⟨ret_int (by rw [← HR.out]; omega), (Below.refl _ _).alloc (Nat.le_refl _) _⟩

set_option maxRecDepth 100000 in
set_option maxHeartbeats 1000000 in
theorem szFieldS_any (v : Value) (l : List Fld) (n : Int) (w : World) (h : Is w v l) (hz : ∀ f ∈ l, f.1.size ≤ maxLen ∧ f.2.size ≤ maxLen) (h0 : 0 ≤ n) (h1 : n ≤ 1048576) :
    Calls Tryz.prog 31 #[v, .int .i64 n] w fun e w' => e = .returned (.int .i64 (left n (bulk l))) ∧ Below w.heap.size w w' := by
  obtain ⟨a, c, rfl, h2⟩ := is_form h
  have HA := Num.hide h2
  have HZ := Num.hide hz
  have hlen : l.length ≤ 9223372036854775807 := by
    by_cases h0 : 0 < l.length
    · obtain ⟨b, o, _, h3, h4, _⟩ := h2 h0
      unfold maxLen at h4; omega
    · omega
  clear h h2 hz
  obtain ⟨r, hr⟩ : ∃ r, left n (bulk l) = r := ⟨_, rfl⟩
  rw [hr]
  have HR := Num.hide hr
  clear hr
  by_cases hneg : n - l.length < 0
  · have hr : r = -1 := by
      rw [← HR.out]; unfold left bulk; rw [if_pos (by omega)]
    subst hr
    go_enter Tryz.func31, Tryz.ntmps31
    go_wp2
    go_ret
    exact ⟨rfl, Below.refl _ _⟩
  · go_enter Tryz.func31, Tryz.ntmps31
    go_wp2
    go_loopw [1, 5] (fun nv iv wr => ∃ i : Nat, i ≤ l.length ∧ iv = .int .i64 (i : Int) ∧ (∃ m : Int, nv = .int .i64 m ∧ 0 ≤ m ∧ m ≤ 1048576 ∧ Hid (m = n - l.length - (((l.take i).map fun f => f.1.size + f.2.size).sum : Nat))) ∧ Hid (Below w.heap.size w wr)) (fun _ iv _ => l.length - (intOf iv).toNat)
    case atStart => exact ⟨0, by omega, rfl, ⟨_, rfl, by omega, by omega, by simp [Hid]⟩, Below.refl _ _⟩
    case round =>
      obtain ⟨i, hi, rfl, ⟨m, rfl, hm0, hm1, HM⟩, HB⟩ := hrel
      by_cases hlt : i < l.length
      · obtain ⟨b, o, rfl, hc, hmx, hblt, hcell⟩ := Num.unhide HA (by omega)
        obtain ⟨hc1, hc2⟩ := hcell i hlt
        have hz := Num.unhide HZ l[i] (List.getElem_mem hlt)
        have c1 : wr.cell? ⟨b, o + i * 2, none⟩ = some (.string l[i].1) := by rw [HB.out.cell (p := ⟨b, o + i * 2, none⟩) hblt]; exact hc1
        have c2 : wr.cell? ⟨b, o + i * 2 + 1, none⟩ = some (.string l[i].2) := by rw [HB.out.cell (p := ⟨b, o + i * 2 + 1, none⟩) hblt]; exact hc2
        have HT := Num.hide (bulk_take l i hlt)
        have HL := Num.hide (bulk_le l (i + 1))
        clear hcell hc1 hc2
        generalize l[i] = f at c1 c2 hz HT
        obtain ⟨x, y⟩ := f
        simp only at c1 c2 hz
        unfold maxLen at hz
        have hsum : Hid (((l.take (i + 1)).map fun f => f.1.size + f.2.size).sum = ((l.take i).map fun f => f.1.size + f.2.size).sum + (x.size + y.size)) := HT.out
        by_cases hn : m - (x.size + y.size : Nat) < 0
        · have hl : left m (x.size + y.size) = -1 := by unfold left; rw [if_pos hn]
          have hr : r = -1 := by
            have e1 := HM.out; have e2 := HL.out; have e3 := hsum.out
            rw [← HR.out]; unfold left bulk; rw [if_pos (by omega)]
          subst hr
          have HL2 := Num.hide hl
          clear hl
          go_wp2_with fail
          refine (szField_any (x, y) m _ hm0 hm1 hz).mono ?_
          rintro e w1 ⟨rfl, hb1⟩
          rw [show left m (((x, y) : Fld).1.size + ((x, y) : Fld).2.size) = -1 from HL2.out]
          go_wp2
          go_ret
          exact ⟨rfl, HB.out.trans (hb1.mono HB.out.size)⟩
        · have hl : left m (x.size + y.size) = m - (x.size + y.size : Nat) := by unfold left; rw [if_neg hn]
          have HL2 := Num.hide hl
          have hmm : Hid (m - (x.size + y.size : Nat) = n - l.length - (((l.take (i + 1)).map fun f => f.1.size + f.2.size).sum : Nat)) := by
            have e1 := HM.out; have e3 := hsum.out
            show _ = _
            omega
          clear hl
          go_wp2_with fail
          refine (szField_any (x, y) m _ hm0 hm1 hz).mono ?_
          rintro e w1 ⟨rfl, hb1⟩
          rw [show left m (((x, y) : Fld).1.size + ((x, y) : Fld).2.size) = m - (x.size + y.size : Nat) from HL2.out]
          have HB1 := Num.hide (HB.out.trans (hb1.mono HB.out.size))
          clear hb1
          go_wp2
          go_roundw
          case rel => exact ⟨i + 1, by omega, by go_num, ⟨_, rfl, by omega, by omega, hmm⟩, HB1⟩
          case measure => simp [intOf]; omega
      · obtain rfl : i = l.length := by omega
        have hr : r = m := by
          have e1 := HM.out
          rw [List.take_of_length_le (Nat.le_refl _)] at e1
          rw [← HR.out]; unfold left bulk; rw [if_neg (by omega)]; omega
        subst hr
        go_wp2
        go_ret
        exact ⟨rfl, HB.out⟩
end Flds
end Go.Proofs.YtjeokackmkfooaaGreatDoor
namespace Go.Proofs.YtjeokackmkfooaaGreatDoor
open Go.RowKit
set_option linter.unusedVariables false
namespace Resp

/-- a response: its status, its fields, its body -/
abbrev R := Int × List Flds.Fld × ByteArray
/-- the value of a response whose fields lie at v -/
def val (s : Int) (v : Value) (b : ByteArray) : Value := .agg #[.int .i64 s, v, .string b]
/-- how much a response holds -/
def bulk (l : List Flds.Fld) (b : ByteArray) : Nat := Flds.bulk l + b.size
end Resp
end Go.Proofs.YtjeokackmkfooaaGreatDoor
namespace Go.Proofs.YtjeokackmkfooaaGreatDoor
open Go.RowKit
set_option linter.unusedVariables false
namespace Req

/-- the value of a request whose fields lie at v -/
def val (m u : ByteArray) (v : Value) (b : ByteArray) : Value := .agg #[.string m, .string u, v, .string b]
/-- how much a request holds -/
def bulk (m u : ByteArray) (l : List Flds.Fld) (b : ByteArray) : Nat := m.size + u.size + Flds.bulk l + b.size
end Req
end Go.Proofs.YtjeokackmkfooaaGreatDoor
namespace Go.Proofs.YtjeokackmkfooaaGreatDoor
open Go.RowKit
set_option linter.unusedVariables false
namespace Recs

/-- what lies below B, and the rows from n on that were there, are as they were -/
structure Past (B n : Nat) (W W' : World) : Prop where
  below : Below B W W'
  rows : ∀ j, n ≤ j → j < W.heap.size → W'.heap[j]? = W.heap[j]?
theorem Past.refl (B n : Nat) (W : World) : Past B n W W := ⟨Below.refl _ _, fun _ _ _ => rfl⟩
theorem Past.set {B n : Nat} {W W' : World} (h : Past B n W W') (g i : Nat) (u : Value) (hB : B ≤ g) (hn : g < n) : Past B n W (W'.setCell ⟨g, i, none⟩ u) :=
  ⟨h.below.setCell (p := ⟨g, i, none⟩) hB u, fun j hj hl => (heap_setCell_other W' ⟨g, i, none⟩ j u (fun e => by have e2 : j = g := e; omega)).trans (h.rows j hj hl)⟩
theorem Past.drew {B n : Nat} {W W' : World} (h : Past B n W W') : Past B n W W'.drew := ⟨h.below.drew, h.rows⟩
theorem own_past {α : Type} {e : TypeId} {sz : Nat} {enc : α → List Value} {B n : Nat} {W W' : World} {v : Value} {l : List α} (h : Own e sz enc n W v l) (hf : Past B n W W') : Own e sz enc n W' v l := by
  refine ⟨h.1, ?_⟩
  have hlt := own_lt h
  rcases h.2 with h1 | ⟨g, cap, cur, h1, hB, hg, rest⟩
  · exact .inl h1
  · subst h1
    exact .inr ⟨g, cap, cur, rfl, hB, by rw [hf.rows g hB (hlt g rfl).2]; exact hg, rest⟩
/-- the cells of a box that is known whole -/
theorem box_cell {w : World} {g : Nat} {cs : Array Value} {T : TypeId} (h : w.heap[g]? = some (.cells cs T (0, 0))) (i : Nat) : w.cell? ⟨g, i, none⟩ = cs[i]? := cell_of_row w g _ _ _ _ h
theorem box_thaw {w : World} {g : Nat} {cs : Array Value} {T : TypeId} (h : w.heap[g]? = some (.cells cs T (0, 0))) (i : Nat) : w.frozen? ⟨g, i, none⟩ = false := frozen_of_row w g i _ _ h
theorem box_set {w : World} {g : Nat} {cs : Array Value} {T : TypeId} (h : w.heap[g]? = some (.cells cs T (0, 0))) (i : Nat) (u : Value) : (w.setCell ⟨g, i, none⟩ u).heap[g]? = some (.cells (cs.setIfInBounds i u) T (0, 0)) := heap_setCell_same w g i cs _ u h
theorem box_far {w : World} {g k i : Nat} {o : Option Obj} (h : w.heap[k]? = o) (u : Value) (hne : k ≠ g) : (w.setCell ⟨g, i, none⟩ u).heap[k]? = o := (heap_setCell_other w ⟨g, i, none⟩ k u (fun e => hne e)).trans h
/-- three boxes that were just laid, behind whatever was laid since -/
theorem three_rows (w W : World) (p r o : Obj) (hb : Below (((w.alloc p).alloc r).alloc o).heap.size (((w.alloc p).alloc r).alloc o) W) : W.heap[w.heap.size]? = some p ∧ W.heap[w.heap.size + 1]? = some r ∧ W.heap[w.heap.size + 1 + 1]? = some o := by
  have e1 : (w.alloc p).heap.size = w.heap.size + 1 := by rw [World.size_alloc]
  have e2 : ((w.alloc p).alloc r).heap.size = w.heap.size + 1 + 1 := by rw [World.size_alloc, World.size_alloc]
  have e3 : (((w.alloc p).alloc r).alloc o).heap.size = w.heap.size + 1 + 1 + 1 := by rw [World.size_alloc, World.size_alloc, World.size_alloc]
  refine ⟨?_, ?_, ?_⟩
  · rw [hb.block _ (by omega), heap_alloc_old _ _ (by omega), heap_alloc_old _ _ (by omega), heap_alloc_new]
  · rw [hb.block _ (by omega), heap_alloc_old _ _ (by omega), ← e1, heap_alloc_new]
  · rw [hb.block _ (by omega), ← e2, heap_alloc_new]
/-- a row of one's own is as it was behind a store into another block -/
theorem own_set {α : Type} {e : TypeId} {sz : Nat} {enc : α → List Value} {B : Nat} {W : World} {v : Value} {l : List α} (h : Own e sz enc B W v l) (g i : Nat) (u : Value) (hne : ∀ k, v.ownBlock = some k → k ≠ g) : Own e sz enc B (W.setCell ⟨g, i, none⟩ u) v l := by
  have hg : W.grownBy (W.setCell ⟨g, i, none⟩ u) (some g) := ⟨rfl, rfl, rfl, by simp, fun j hj hr => heap_setCell_other W ⟨g, i, none⟩ j u (fun e => hr (by rw [show j = g from e]))⟩
  refine own_kept h hg ?_
  cases hv : v.ownBlock with
  | none => exact .inl rfl
  | some k => exact .inr (fun e => hne k hv (Option.some.inj e))
end Recs
end Go.Proofs.YtjeokackmkfooaaGreatDoor
