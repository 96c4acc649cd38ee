/-
  PickNum: What is picked of a request for what an answer hangs on, plain.
  NormSpec: Normal of the specification.
  ReqVal: A request as a value.
  PickSpec: Picked of the specification.
-/
import Derived.Test.YtkogcbnbmdeolaaDoorPab
import Derived.Test.YtkogcbnbmdeolaaDoorPal
import Derived.Test.YtkogcbnbmdeolaaDoorPac
import Derived.Test.YtkogcbnbmdeolaaDoorStrs
import Derived.Test.YtkogcbnbmdeolaaDoorFlds
import Derived.Test.YtkogcbnbmdeolaaDoorPad
import Derived.Test.YtkogcbnbmdeolaaDoorPaf
namespace Go.Proofs.YtkogcbnbmdeolaaDoor
open Go.RowKit
set_option linter.unusedVariables false
namespace Vary
open Flds (Fld)

/-- a name's value in the request, with its parts put together anew -/
def pickAt (lq : List Fld) (n : ByteArray) : Option Fld := if (Flds.get lq n).2 = true then some (n, Norm.normal (Flds.get lq n).1) else none
def pickL (lq : List Fld) (N : List ByteArray) : List Fld := N.filterMap (pickAt lq)
def picked (lq lr : List Fld) : List Fld := pickL lq (varyNames lr)
theorem pick_take (lq : List Fld) (N : List ByteArray) (i : Nat) (h : i < N.length) : pickL lq (N.take (i + 1)) = pickL lq (N.take i) ++ (if (Flds.get lq N[i]).2 = true then [(N[i], Norm.normal (Flds.get lq N[i]).1)] else []) := by
  unfold pickL
  rw [List.take_succ_eq_append_getElem h, List.filterMap_append]
  congr 1
  simp only [List.filterMap_cons, List.filterMap_nil]
  unfold pickAt
  by_cases hb : (Flds.get lq N[i]).2 = true
  · rw [if_pos hb, if_pos hb]
  · rw [if_neg hb, if_neg hb]
theorem vary_pos (l : List Fld) : ∀ n ∈ varyNames l, 0 < n.size := by
  intro n hn
  obtain ⟨t, ht, rfl⟩ := names_of _ n hn
  have := (Norm.parts_ok _ t ht).1
  rw [Sign.size_lower]
  omega
theorem pick_len (lq : List Fld) (N : List ByteArray) : (pickL lq N).length ≤ N.length := List.length_filterMap_le _ _
end Vary
end Go.Proofs.YtkogcbnbmdeolaaDoor
namespace Go.Proofs.YtkogcbnbmdeolaaDoor
open Go.RowKit
set_option linter.unusedVariables false
namespace Norm
open Sign (split)

theorem joined_take (L : List ByteArray) (i : Nat) (h : i < L.length) : joined (L.take (i + 1)) = if i = 0 then L[i] else joined (L.take i) ++ ⟨#[44, 32]⟩ ++ L[i] := by
  rw [List.take_succ_eq_append_getElem h, joined_snoc]
  by_cases hi : i = 0
  · rw [if_pos hi, if_pos (by rw [hi]; rfl)]
  · rw [if_neg hi, if_neg]
    intro e
    have h2 := congrArg List.length e
    rw [List.length_take, List.length_nil] at h2
    omega
theorem take_sum (L : List ByteArray) (k : Nat) : ((L.take k).map fun p => p.size + 2).sum ≤ (L.map fun p => p.size + 2).sum := by
  conv => rhs; rw [← List.take_append_drop k L, List.map_append, List.sum_append]
  omega
set_option maxRecDepth 100000 in
set_option maxHeartbeats 2000000 in
theorem normal_spec (s : ByteArray) (w : World) (hs : s.size ≤ 1048576) : Calls Tryd.prog 32 #[.string s] w fun e w' => e = .returned (.string (normal s)) ∧ Below w.heap.size w w' := by
  have HS := Num.hide (Sign.split_spec s w hs)
  obtain ⟨r, hr⟩ : ∃ r, normal s = r := ⟨_, rfl⟩
  rw [hr]
  unfold normal at hr
  have hsum : ((split s).map fun p => p.size + 2).sum ≤ 3 * s.size + 2 := by
    have h2 := parts_sum s s.size 0 false (Nat.zero_le _) (by omega)
    unfold Sign.split; simpa using h2
  have hlen := Cc.split_len s
  generalize split s = L at HS hr hsum hlen
  have HR := Num.hide hr
  have HT := Num.hide (joined_take L)
  have HZ := Num.hide (fun k => Nat.le_trans (joined_size (L.take k)) (take_sum L k))
  clear hr
  go_enter Tryd.func32, Tryd.ntmps32
  go_wp2_with fail
  refine HS.out.mono ?_
  rintro e w1 ⟨pv, rfl, ho, hb⟩
  obtain ⟨pa, pc, rfl⟩ := Strs.own_len ho
  have HI := Num.hide (Strs.own_is ho)
  have HB := Num.hide hb
  clear ho hb HS
  go_wp2
  go_loop [4, 5] (fun ov iv => ∃ i : Nat, i ≤ L.length ∧ iv = .int .i64 (i : Int) ∧ ov = .string (joined (L.take i))) (fun _ iv => L.length - (intOf iv).toNat)
  case atStart => exact ⟨0, by omega, rfl, rfl⟩
  case round =>
  obtain ⟨i, hi, rfl, rfl⟩ := hrel
  by_cases hlt : i < L.length
  · obtain ⟨b, po, rfl, hc1, hc2, hcell⟩ : ∃ b po, pa = some ⟨b, po, none⟩ ∧ L.length ≤ pc ∧ pc ≤ maxLen ∧ w1.cell? ⟨b, po + i, none⟩ = some (.string L[i]) := by
      rcases HI.out with ⟨h1, _⟩ | ⟨b, o, c, h1, h2, h3, h4⟩
      · rw [h1] at hlt; exact absurd hlt (Nat.not_lt_zero _)
      · cases h1; exact ⟨b, o, rfl, h2, h3, h4 i hlt⟩
    have hz0 := HZ.out i
    have hz1 := HZ.out (i + 1)
    have ht := HT.out i hlt
    clear HI HR HT HZ
    by_cases h0 : i = 0
    · rw [if_pos h0] at ht
      subst h0
      rw [Nat.add_zero] at hcell
      have e0 : joined (L.take 0) = ⟨#[]⟩ := rfl
      rw [e0]
      generalize L[0] = t at hcell ht
      have HTk := Num.hide ht
      have hsz : t.size ≤ 9223372036854775807 := by rw [ht] at hz1; omega
      clear ht hz0 hz1 e0
      have et : (⟨#[]⟩ : ByteArray) ++ t = t := by apply ByteArray.ext; simp [ByteArray.data_append]
      have hno : ¬ 9223372036854775807 < (⟨#[]⟩ : ByteArray).size + t.size := by show ¬ 9223372036854775807 < 0 + t.size; omega
      go_wp2
      go_round
      case rel => exact ⟨0 + 1, by omega, by go_num, by rw [HTk.out]⟩
      case measure => simp [intOf]; omega
    · rw [if_neg h0] at ht
      rw [ht, ByteArray.size_append, ByteArray.size_append] at hz1
      have h2 : (⟨#[44, 32]⟩ : ByteArray).size = 2 := rfl
      generalize joined (L.take i) = o at ht hz0 hz1
      generalize L[i] = t at hcell ht hz1
      have HTk := Num.hide ht
      have hno1 : ¬ 9223372036854775807 < o.size + 2 := by omega
      have hno2 : ¬ 9223372036854775807 < o.size + 2 + t.size := by omega
      have hpos : (0 : Int) < (i : Int) := by omega
      clear ht h2
      go_wp2
      go_round
      case rel => exact ⟨i + 1, by omega, by go_num, by rw [HTk.out]⟩
      case measure => simp [intOf]; omega
  · obtain rfl : i = L.length := by omega
    have hR := HR.out
    rw [List.take_length]
    rw [hR]
    clear hR HR HT HZ HI
    go_wp2
    go_ret
    exact ⟨rfl, HB.out⟩
end Norm
end Go.Proofs.YtkogcbnbmdeolaaDoor
namespace Go.Proofs.YtkogcbnbmdeolaaDoor
open Go.RowKit
set_option linter.unusedVariables false
namespace Req

/-- the value of a request whose fields lie at v -/
def val (m u : ByteArray) (v : Value) (b : ByteArray) : Value := .agg #[.string m, .string u, v, .string b]
/-- how much a request holds -/
def bulk (m u : ByteArray) (l : List Flds.Fld) (b : ByteArray) : Nat := m.size + u.size + Flds.bulk l + b.size
end Req
end Go.Proofs.YtkogcbnbmdeolaaDoor
namespace Go.Proofs.YtkogcbnbmdeolaaDoor
open Go.RowKit
set_option linter.unusedVariables false
set_option linter.unusedSimpArgs false
namespace Vary
open Flds (Fld)

/-- the memory within: what has been put lies in its first block or behind all that was there -/
structure PMid (w w2 : World) (o : List Fld) (ov : Value) (wr : World) : Prop where
  own : Flds.Own w.heap.size wr ov o
  apart : ∀ k, ov.ownBlock = some k → k = w.heap.size + 1 + 1 ∨ w2.heap.size ≤ k
  rows : ∀ j, j < w2.heap.size → ¬ j = w.heap.size + 1 + 1 → wr.heap[j]? = w2.heap[j]?
  below : Below w.heap.size w wr
  size : w2.heap.size ≤ wr.heap.size
theorem PMid.step {w w2 : World} {o : List Fld} {ov : Value} {wr : World} (m : PMid w w2 o ov wr) (hw : w.heap.size ≤ w2.heap.size) {w' : World} (h : Below wr.heap.size wr w') : PMid w w2 o ov w' where
  own := Recs.own_below m.own h
  apart := m.apart
  rows := fun j hj hn => (h.block j (Nat.lt_of_lt_of_le hj m.size)).trans (m.rows j hj hn)
  below := m.below.trans (h.mono (Nat.le_trans hw m.size))
  size := Nat.le_trans m.size h.size
theorem PMid.put {w w2 : World} {o : List Fld} {ov : Value} {wr : World} (m : PMid w w2 o ov wr) (hw : w.heap.size ≤ w2.heap.size) {x y : ByteArray} {v' : Value} {w3 : World}
    (ho : w3.ownsRow w.heap.size 40 2 v' (o.length + 1) (o.flatMap Flds.cells ++ [.string x, .string y])) (hg : (wr.alloc (.cells #[.string x, .string y] 40)).grownBy w3 ov.ownBlock)
    (hat : v'.ownBlock = ov.ownBlock ∨ v'.ownBlock = some (wr.heap.size + 1)) : PMid w w2 (o ++ [(x, y)]) v' w3 where
  own := Recs.own_snoc ho
  apart := by
    intro k hk
    rcases hat with e | e
    · exact m.apart k (e ▸ hk)
    · rw [e] at hk
      cases hk
      right
      have := m.size
      omega
  rows := by
    intro j hj hn
    have hlt : j < wr.heap.size := Nat.lt_of_lt_of_le hj m.size
    rw [hg.block j (by simp; omega) (by intro e; have := m.apart j e.symm; omega), heap_alloc_old wr _ hlt]
    exact m.rows j hj hn
  below := (m.below.alloc (by have := m.size; omega) _).grown hg (by have := m.size; simp; omega) (fun j hj => (Recs.own_lt m.own j hj).1)
  size := by have h1 := m.size; have h2 := hg.size; simp at h2; omega
/-- an append on a row of one's own, alone, and where it lies behind it -/
theorem wp_append_at {P : Program} {w : World} {o : Oper} {a : Act} {K : Act → World → Prop} {Q : Exit → Act → World → Prop} (s x : Operand) (t : TypeId)
    (ho : o.op = .call { callee := .builtin .append, args := #[s, x], argTypes := #[t, t] })
    (base : Nat) (e : TypeId) (i : TypeInfo) (z : Value) (size bytes : Nat) (ht : P.underlying t = some (.slice e)) (hi : P.info? e = some i) (hz : i.zero = some z)
    (hsize : i.size = size) (hby : i.bytes = bytes) (hzs : z.cells.size = size) (hsz : 0 < size)
    (v : Value) (n : Nat) (xs : List Value) (hs : a.eval s = v) (hown : w.ownsRow base e size v n xs)
    (ad : Addr) (m c : Nat) (news : List Value) (hx : a.eval x = .slice (some ad) m c) (hl : news.length = m * size) (hnews : ∀ j u, news[j]? = some u → w.cell? (ad.add j) = some u) (h1 : ∀ u ∈ news, u.oneCell' = true)
    (h63 : n + m ≤ maxLen) (hbytes : (n + m) * bytes ≤ 140737488355328) (hbase : base ≤ w.heap.size)
    (h : ∀ v' w', w'.ownsRow base e size v' (n + m) (xs ++ news) → w.grownBy w' v.ownBlock → (v'.ownBlock = v.ownBlock ∨ v'.ownBlock = some w.heap.size) → K (a.put o.dst v') w') : o.wp P a w K Q := by
  obtain ⟨v', w', hr, h2, h3, h4, h5⟩ := run_append_own_at (P := P) w base t o.type e i z size bytes ht hi hz hsize hby hzs hsz v n xs hown ad m c news hl hnews h1 h63 hbytes hbase
  unfold Oper.wp execOp
  simp only [ho, resolve, invoke, builtin, Sem.run_bind, Sem.run_pure, Result.andThen_ok, List.map_toArray, List.map_cons, List.map_nil, hs, hx, hr]
  exact h v' w' h2 h3 h5
/-- what a round reads: the request's list, and the name -/
structure PS (wq nb no : Nat) (n : ByteArray) (av : Option Addr) (cv : Nat) (l : List Fld) (W : World) : Prop where
  cellq : W.cell? ⟨wq, 2, none⟩ = some (.slice av l.length cv)
  celln : W.cell? ⟨nb, no, none⟩ = some (.string n)
  isq : Flds.Is W (.slice av l.length cv) l
theorem PS.step {wq nb no : Nat} {n : ByteArray} {av : Option Addr} {cv : Nat} {l : List Fld} {W W' : World} (h : PS wq nb no n av cv l W) (hb : Below W.heap.size W W') : PS wq nb no n av cv l W' :=
  ⟨(hb.cell (p := ⟨wq, 2, none⟩) (Recs.lt_of_cell h.cellq)).trans h.cellq, (hb.cell (p := ⟨nb, no, none⟩) (Recs.lt_of_cell h.celln)).trans h.celln, Recs.is_below h.isq hb⟩
theorem PMid.sees {w w2 : World} {o : List Fld} {ov : Value} {wr : World} (m : PMid w w2 o ov wr) {nb no : Nat} {n : ByteArray} {av : Option Addr} {cv : Nat} {l : List Fld} (h : Flds.Is w (.slice av l.length cv) l ∧ PS w.heap.size nb no n av cv l w2) (hnb : ¬ nb = w.heap.size + 1 + 1) : PS w.heap.size nb no n av cv l wr := by
  have row : ∀ j, j < w2.heap.size → ¬ j = w.heap.size + 1 + 1 → ∀ i, wr.cell? ⟨j, i, none⟩ = w2.cell? ⟨j, i, none⟩ := fun j hj hn i => by
    unfold World.cell?
    simp only [m.rows j hj hn]
  exact ⟨(row _ (Recs.lt_of_cell h.2.cellq) (by omega) 2).trans h.2.cellq, (row _ (Recs.lt_of_cell h.2.celln) hnb no).trans h.2.celln, Recs.is_below h.1 m.below⟩
set_option maxRecDepth 100000 in
set_option maxHeartbeats 8000000 in
theorem picked_spec (m u : ByteArray) (st : Int) (v1 v2 : Value) (l1 l2 : List Fld) (b1 b2 : ByteArray) (w : World) (h1 : Flds.Is w v1 l1) (h2 : Flds.Is w v2 l2) (hl1 : Flds.bulk l1 ≤ 1048576) (hl2 : Flds.bulk l2 ≤ 1048576) :
    Calls Tryd.prog 34 #[Req.val m u v1 b1, Resp.val st v2 b2] w fun e w' => ∃ v', e = .returned v' ∧ Flds.Own w.heap.size w' v' (picked l1 l2) ∧ Below w.heap.size w w' := by
  obtain ⟨i0, hi0, hz0, hz1, hz2⟩ := info_parts Flds.infoF
  obtain ⟨av1, cv1, rfl, _⟩ := Flds.is_form h1
  obtain ⟨av2, cv2, rfl, _⟩ := Flds.is_form h2
  have e1 : (w.alloc (.cells #[.string m, .string u, .slice av1 l1.length cv1, .string b1] 32)).heap.size = w.heap.size + 1 := by rw [World.size_alloc]
  have e2 : ((w.alloc (.cells #[.string m, .string u, .slice av1 l1.length cv1, .string b1] 32)).alloc (.cells #[.int .i64 st, .slice av2 l2.length cv2, .string b2] 34)).heap.size = w.heap.size + 1 + 1 := by rw [World.size_alloc, e1]
  have e3 : (((w.alloc (.cells #[.string m, .string u, .slice av1 l1.length cv1, .string b1] 32)).alloc (.cells #[.int .i64 st, .slice av2 l2.length cv2, .string b2] 34)).alloc (.cells #[] 40)).heap.size = w.heap.size + 1 + 1 + 1 := by rw [World.size_alloc, e2]
  have hb0 : Below w.heap.size w (((w.alloc (.cells #[.string m, .string u, .slice av1 l1.length cv1, .string b1] 32)).alloc (.cells #[.int .i64 st, .slice av2 l2.length cv2, .string b2] 34)).alloc (.cells #[] 40)) := (((Below.refl _ _).alloc (Nat.le_refl _) _).alloc (by omega) _).alloc (by omega) _
  have HQ0 : Hid ((((w.alloc (.cells #[.string m, .string u, .slice av1 l1.length cv1, .string b1] 32)).alloc (.cells #[.int .i64 st, .slice av2 l2.length cv2, .string b2] 34)).alloc (.cells #[] 40)).heap[w.heap.size]? = some (.cells #[.string m, .string u, .slice av1 l1.length cv1, .string b1] 32)) := by
    show _ = _
    rw [heap_alloc_old _ _ (by omega), heap_alloc_old _ _ (by omega), heap_alloc_new]
  have HR0 : Hid ((((w.alloc (.cells #[.string m, .string u, .slice av1 l1.length cv1, .string b1] 32)).alloc (.cells #[.int .i64 st, .slice av2 l2.length cv2, .string b2] 34)).alloc (.cells #[] 40)).heap[w.heap.size + 1]? = some (.cells #[.int .i64 st, .slice av2 l2.length cv2, .string b2] 34)) := by
    show _ = _
    rw [heap_alloc_old _ _ (by omega), ← e1, heap_alloc_new]
  have HO0 : Hid (Flds.Own w.heap.size (((w.alloc (.cells #[.string m, .string u, .slice av1 l1.length cv1, .string b1] 32)).alloc (.cells #[.int .i64 st, .slice av2 l2.length cv2, .string b2] 34)).alloc (.cells #[] 40)) (.slice (some ⟨w.heap.size + 1 + 1, 0, none⟩) 0 0) []) := by
    have h := Recs.own_mono (Flds.made_nil ((w.alloc (.cells #[.string m, .string u, .slice av1 l1.length cv1, .string b1] 32)).alloc (.cells #[.int .i64 st, .slice av2 l2.length cv2, .string b2] 34))) (by omega : w.heap.size ≤ ((w.alloc (.cells #[.string m, .string u, .slice av1 l1.length cv1, .string b1] 32)).alloc (.cells #[.int .i64 st, .slice av2 l2.length cv2, .string b2] 34)).heap.size)
    rw [e2] at h
    exact h
  have HI1 := Num.hide h1
  have HI2 := Num.hide (Recs.is_below h2 hb0)
  have HB0 := Num.hide hb0
  have hE3 := Num.hide e3
  have HVn := Num.hide (fun W h => names_spec st (.slice av2 l2.length cv2) l2 b2 W h hl2)
  have hnb0 : (varyNames l2).length ≤ 1048577 := by
    have h1 := names_len (Sign.split (Flds.get l2 varyName).1)
    have h2 := Cc.split_len (Flds.get l2 varyName).1
    have h3 := Cc.get_bulk l2 varyName (by decide)
    unfold varyNames
    omega
  have hpos := Num.hide (vary_pos l2)
  obtain ⟨R, hR⟩ : ∃ R, picked l1 l2 = R := ⟨_, rfl⟩
  rw [hR]
  unfold picked at hR
  generalize varyNames l2 = N at HVn hR hnb0 hpos
  have HR := Num.hide hR
  have HT := Num.hide (pick_take l1 N)
  have HK := Num.hide (fun i => pick_len l1 (N.take i))
  have HGet := Num.hide (fun n W h => Flds.get_spec_b (.slice av1 l1.length cv1) l1 n W h (by omega))
  have HSz := Num.hide (fun n hn => Cc.get_bulk l1 n hn)
  unfold Resp.val at HVn
  unfold Req.val Resp.val
  clear h1 h2 hb0 e1 e2 e3 hR
  go_enter Tryd.func34, Tryd.ntmps34
  go_upto_region 2 with fail
  generalize ((w.alloc (.cells #[.string m, .string u, .slice av1 l1.length cv1, .string b1] 32)).alloc (.cells #[.int .i64 st, .slice av2 l2.length cv2, .string b2] 34)).alloc (.cells #[] 40) = w0 at HQ0 HR0 HO0 HI2 HB0 hE3 ⊢
  obtain ⟨d0, d1, d2⟩ := (⟨Recs.box_cell HR0.out 0, Recs.box_cell HR0.out 1, Recs.box_cell HR0.out 2⟩ : w0.cell? ⟨w.heap.size + 1, 0, none⟩ = some (.int .i64 st) ∧ w0.cell? ⟨w.heap.size + 1, 1, none⟩ = some (.slice av2 l2.length cv2) ∧ w0.cell? ⟨w.heap.size + 1, 2, none⟩ = some (.string b2))
  go_wp2_with fail
  refine (HVn.out _ HI2.out).mono ?_
  rintro e w2 ⟨nvv, rfl, hn, hb⟩
  obtain ⟨na, nc, rfl⟩ := Strs.own_len hn
  have hs2 := hb.size
  rw [hE3.out] at hs2
  have hw2 : w.heap.size ≤ w2.heap.size := by omega
  have hww := hw2
  have HM0 : Hid (PMid w w2 (pickL l1 (N.take 0)) (.slice (some ⟨w.heap.size + 1 + 1, 0, none⟩) 0 0) w2) :=
    ⟨Recs.own_below HO0.out hb, fun k hk => by cases hk; exact .inl rfl, fun _ _ _ => rfl, HB0.out.trans (hb.mono HB0.out.size), Nat.le_refl _⟩
  have HQ2 : Hid (w2.cell? ⟨w.heap.size, 2, none⟩ = some (.slice av1 l1.length cv1)) := (hb.cell (p := ⟨w.heap.size, 2, none⟩) (by show w.heap.size < _; have := hE3.out; omega)).trans (Recs.box_cell HQ0.out 2)
  have HIw2 := Num.hide (Recs.is_below (Recs.is_below HI1.out HB0.out) (hb.mono (Nat.le_refl _)))
  have HNm := Num.hide (Strs.own_is hn)
  have HNb : Hid (∀ nb no, na = some ⟨nb, no, none⟩ → ¬ nb = w.heap.size + 1 + 1) := fun nb no e => by
    have := (Strs.own_lt hn nb (by rw [e]; rfl)).1
    have := hE3.out
    omega
  clear hn hb d0 d1 d2 HQ0 HR0 HO0 HI2 HB0 hE3 HVn
  go_wp2
  go_loopw [5, 7] (fun ov iv wr => ∃ i : Nat, i ≤ N.length ∧ iv = .int .i64 (i : Int) ∧ Hid (PMid w w2 (pickL l1 (N.take i)) ov wr)) (fun _ iv _ => N.length - (intOf iv).toNat)
  case atStart => exact ⟨0, by omega, rfl, HM0⟩
  case round =>
  clear HM0
  obtain ⟨i, hi, rfl, HM⟩ := hrel
  obtain ⟨oa, oc, hov⟩ := Recs.own_len HM.out.own
  have hol := HK.out i
  rw [List.length_take] at hol
  by_cases hlt : i < N.length
  · obtain ⟨nb, po, rfl, hc1, hc2, hcell⟩ := row_is HNm.out rfl i hlt
    have hnb := HNb.out nb po rfl
    have hnt := HT.out i hlt
    have hsz := HSz.out N[i] (hpos.out N[i] (List.getElem_mem hlt))
    have HGt := Num.hide (HGet.out N[i])
    generalize N[i] = n at hcell hnt HGt hsz
    have HSw : Hid (Flds.Is w (.slice av1 l1.length cv1) l1 ∧ PS w.heap.size nb (po + i) n av1 cv1 l1 w2) := ⟨HI1.out, HQ2.out, hcell, HIw2.out⟩
    have HS := Num.hide (HM.out.sees HSw.out hnb)
    clear hcell
    generalize hgg : Flds.get l1 n = g at HGt hnt hsz
    obtain ⟨s, sb⟩ := g
    simp only at HGt hnt hsz
    have HNt := Num.hide hnt
    clear hnt hgg
    subst hov
    generalize pickL l1 (N.take i) = o at HM HNt hol ⊢
    have HMd := Num.hide (HM.out.step hww (Below.refl wr.heap.size wr).drew)
    have HSd := Num.hide (HS.out.step (Below.refl wr.heap.size wr).drew)
    clear HM HS
    have HM := HMd
    have HS := HSd
    clear HMd HSd
    go_wp2
    refine wp_region_held_drew (S := PS w.heap.size nb (po + i) n av1 cv1 l1) (by kernel_rfl) HS.out (fun hHeld => ?_)
    clear hHeld
    generalize wr.drew = wd at HM HS ⊢
    refine Reg.take (i := 0) (d := 20) (v := ?_) rfl rfl (by kernel_rfl) (by kernel_rfl) (by kernel_rfl) (fun _ _ _ h => h) (by rfl) ?_ HS.out ?_
    rotate_left
    · rintro X hX
      first | (go_simp; done) | (go_simp; with_reducible rfl)
    simp only [Act.put, List.setIfInBounds_toArray, List.set_cons_zero, List.set_cons_succ]
    refine Reg.take (i := 1) (d := 21) (v := ?_) rfl rfl (by kernel_rfl) (by kernel_rfl) (by kernel_rfl) (fun _ _ _ h => h) (by rfl) ?_ HS.out ?_
    rotate_left
    · rintro X hX
      have c1 := hX.cellq
      first | (go_simp; done) | (go_simp; with_reducible rfl)
    simp only [Act.put, List.setIfInBounds_toArray, List.set_cons_zero, List.set_cons_succ]
    refine Reg.take (i := 2) (d := 22) (v := ?_) rfl rfl (by kernel_rfl) (by kernel_rfl) (by kernel_rfl) (fun _ _ _ h => h) (by rfl) ?_ HS.out ?_
    rotate_left
    · rintro X hX
      first | (go_simp; done) | (go_simp; with_reducible rfl)
    simp only [Act.put, List.setIfInBounds_toArray, List.set_cons_zero, List.set_cons_succ]
    refine Reg.take (i := 3) (d := 23) (v := ?_) rfl rfl (by kernel_rfl) (by kernel_rfl) (by kernel_rfl) (fun _ _ _ h => h) (by rfl) ?_ HS.out ?_
    rotate_left
    · rintro X hX
      first | (go_simp; done) | (go_simp; with_reducible rfl)
    simp only [Act.put, List.setIfInBounds_toArray, List.set_cons_zero, List.set_cons_succ]
    refine Reg.take (i := 4) (d := 24) (v := ?_) rfl rfl (by kernel_rfl) (by kernel_rfl) (by kernel_rfl) (fun _ _ _ h => h) (by rfl) ?_ HS.out ?_
    rotate_left
    · rintro X hX
      first | (go_simp; done) | (go_simp; with_reducible rfl)
    simp only [Act.put, List.setIfInBounds_toArray, List.set_cons_zero, List.set_cons_succ]
    refine Reg.take (i := 5) (d := 25) (v := ?_) rfl rfl (by kernel_rfl) (by kernel_rfl) (by kernel_rfl) (fun _ _ _ h => h) (by rfl) ?_ HS.out ?_
    rotate_left
    · rintro X hX
      have c2 := hX.celln
      first | (go_simp; done) | (go_simp; with_reducible rfl)
    simp only [Act.put, List.setIfInBounds_toArray, List.set_cons_zero, List.set_cons_succ]
    refine Reg.call (i := 6) rfl (by kernel_rfl) (by rfl) (fun K hK => ?_)
    go_wp2_with (first | (go_at_call 22; refine (HGt.out _ HS.out.isq).mono ?_; rintro e wy ⟨rfl, hb⟩))
    have HM2 := Num.hide (HM.out.step hww hb)
    have HS2 := Num.hide (HS.out.step hb)
    clear hb HM HS
    refine hK.out _ _ HS2.out (fun _ => ?_)
    clear hK K
    refine Reg.take (i := 7) (d := 19) (v := ?_) rfl rfl (by kernel_rfl) (by kernel_rfl) (by kernel_rfl) (fun _ _ _ h => h) (by rfl) ?_ HS2.out ?_
    rotate_left
    · rintro X hX
      first | (go_simp; done) | (go_simp; with_reducible rfl)
    simp only [Act.put, List.setIfInBounds_toArray, List.set_cons_zero, List.set_cons_succ]
    refine Reg.take (i := 8) (d := 27) (v := ?_) rfl rfl (by kernel_rfl) (by kernel_rfl) (by kernel_rfl) (fun _ _ _ h => h) (by rfl) ?_ HS2.out ?_
    rotate_left
    · rintro X hX
      first | (go_simp; done) | (go_simp; with_reducible rfl)
    simp only [Act.put, List.setIfInBounds_toArray, List.set_cons_zero, List.set_cons_succ]
    refine Reg.take (i := 9) (d := 28) (v := ?_) rfl rfl (by kernel_rfl) (by kernel_rfl) (by kernel_rfl) (fun _ _ _ h => h) (by rfl) ?_ HS2.out ?_
    rotate_left
    · rintro X hX
      first | (go_simp; done) | (go_simp; with_reducible rfl)
    simp only [Act.put, List.setIfInBounds_toArray, List.set_cons_zero, List.set_cons_succ]
    refine Reg.take (i := 10) (d := 8) (v := ?_) rfl rfl (by kernel_rfl) (by kernel_rfl) (by kernel_rfl) (fun _ _ _ h => h) (by rfl) ?_ HS2.out ?_
    rotate_left
    · rintro X hX
      first | (go_simp; done) | (go_simp; with_reducible rfl)
    simp only [Act.put, List.setIfInBounds_toArray, List.set_cons_zero, List.set_cons_succ]
    refine Reg.take (i := 11) (d := 9) (v := ?_) rfl rfl (by kernel_rfl) (by kernel_rfl) (by kernel_rfl) (fun _ _ _ h => h) (by rfl) ?_ HS2.out ?_
    rotate_left
    · rintro X hX
      first | (go_simp; done) | (go_simp; with_reducible rfl)
    simp only [Act.put, List.setIfInBounds_toArray, List.set_cons_zero, List.set_cons_succ]
    refine wpAnyH_done (by kernel_rfl) ?_ _
    cases sb with
    | false =>
      have hnt := HNt.out
      rw [if_neg (by simp), List.append_nil] at hnt
      have HNt2 := Num.hide hnt
      clear hnt HNt HS2
      go_wp2
      go_roundw
      case rel => exact ⟨i + 1, by omega, by go_num, HNt2.out ▸ HM2⟩
      case measure => simp [intOf]; omega
    | true =>
      have hnt := HNt.out
      rw [if_pos rfl] at hnt
      have HNo := Num.hide (fun W => Norm.normal_spec s W (by omega))
      generalize Norm.normal s = nv at hnt HNo
      have HNt2 := Num.hide hnt
      have HM3 := Num.hide (HM2.out.step hww (Below.refl wy.heap.size wy).drew)
      have HS3 := Num.hide (HS2.out.step (Below.refl wy.heap.size wy).drew)
      clear hnt HNt HM2 HS2
      go_wp2
      refine wp_region_held_drew (S := PS w.heap.size nb (po + i) n av1 cv1 l1) (by kernel_rfl) HS3.out (fun hHeld => ?_)
      clear hHeld
      generalize wy.drew = wy2 at HM3 HS3 ⊢
      refine Reg.take (i := 0) (d := 30) (v := ?_) rfl rfl (by kernel_rfl) (by kernel_rfl) (by kernel_rfl) (fun _ _ _ h => h) (by rfl) ?_ HS3.out ?_
      rotate_left
      · rintro X hX
        first | (go_simp; done) | (go_simp; with_reducible rfl)
      simp only [Act.put, List.setIfInBounds_toArray, List.set_cons_zero, List.set_cons_succ]
      refine Reg.take (i := 1) (d := 31) (v := ?_) rfl rfl (by kernel_rfl) (by kernel_rfl) (by kernel_rfl) (fun _ _ _ h => h) (by rfl) ?_ HS3.out ?_
      rotate_left
      · rintro X hX
        first | (go_simp; done) | (go_simp; with_reducible rfl)
      simp only [Act.put, List.setIfInBounds_toArray, List.set_cons_zero, List.set_cons_succ]
      refine Reg.take (i := 2) (d := 32) (v := ?_) rfl rfl (by kernel_rfl) (by kernel_rfl) (by kernel_rfl) (fun _ _ _ h => h) (by rfl) ?_ HS3.out ?_
      rotate_left
      · rintro X hX
        first | (go_simp; done) | (go_simp; with_reducible rfl)
      simp only [Act.put, List.setIfInBounds_toArray, List.set_cons_zero, List.set_cons_succ]
      refine Reg.take (i := 3) (d := 33) (v := ?_) rfl rfl (by kernel_rfl) (by kernel_rfl) (by kernel_rfl) (fun _ _ _ h => h) (by rfl) ?_ HS3.out ?_
      rotate_left
      · rintro X hX
        first | (go_simp; done) | (go_simp; with_reducible rfl)
      simp only [Act.put, List.setIfInBounds_toArray, List.set_cons_zero, List.set_cons_succ]
      refine Reg.take (i := 4) (d := 34) (v := ?_) rfl rfl (by kernel_rfl) (by kernel_rfl) (by kernel_rfl) (fun _ _ _ h => h) (by rfl) ?_ HS3.out ?_
      rotate_left
      · rintro X hX
        have c2 := hX.celln
        first | (go_simp; done) | (go_simp; with_reducible rfl)
      simp only [Act.put, List.setIfInBounds_toArray, List.set_cons_zero, List.set_cons_succ]
      refine Reg.take (i := 5) (d := 35) (v := ?_) rfl rfl (by kernel_rfl) (by kernel_rfl) (by kernel_rfl) (fun _ _ _ h => h) (by rfl) ?_ HS3.out ?_
      rotate_left
      · rintro X hX
        first | (go_simp; done) | (go_simp; with_reducible rfl)
      simp only [Act.put, List.setIfInBounds_toArray, List.set_cons_zero, List.set_cons_succ]
      refine Reg.call (i := 6) rfl (by kernel_rfl) (by rfl) (fun K hK => ?_)
      go_wp2_with (first | (go_at_call 32; refine (HNo.out _).mono ?_; rintro e wz ⟨rfl, hb⟩))
      have HM4 := Num.hide (HM3.out.step hww hb)
      have HS4 := Num.hide (HS3.out.step hb)
      clear hb HM3 HS3
      refine hK.out _ _ HS4.out (fun _ => ?_)
      clear hK K
      refine Reg.take (i := 7) (d := 37) (v := ?_) rfl rfl (by kernel_rfl) (by kernel_rfl) (by kernel_rfl) (fun _ _ _ h => h) (by rfl) ?_ HS4.out ?_
      rotate_left
      · rintro X hX
        first | (go_simp; done) | (go_simp; with_reducible rfl)
      simp only [Act.put, List.setIfInBounds_toArray, List.set_cons_zero, List.set_cons_succ]
      refine Reg.call (i := 8) rfl (by kernel_rfl) (by rfl) (fun K hK => ?_)
      have hal := (Below.refl wz.heap.size wz).alloc (Nat.le_refl _) (.cells #[.string n, .string nv] 40)
      have HS5 := Num.hide (HS4.out.step hal)
      clear hal
      go_wp2
      refine hK.out _ _ HS5.out (fun _ => ?_)
      clear hK K
      refine Reg.call (i := 9) rfl (by kernel_rfl) (by rfl) (fun K hK => ?_)
      refine wp_append_at _ _ 30 rfl w.heap.size 40 i0 _ 2 32 Tryd.underlying30 hi0 hz0 hz1 hz2 rfl (by decide) _ _ _ rfl (World.ownsRow.alloc HM4.out.own _) ⟨wz.heap.size, 0, none⟩ 1 1 [.string n, .string nv] rfl rfl (Flds.cells_two wz n nv) (Flds.two_ok n nv) (by unfold maxLen; omega) (by omega) ?c5 ?_
      case c5 => have := HM4.out.size; first | omega | (simp; omega)
      intro v' w4 ho4 hg4 hat4
      have HM5 := Num.hide (HM4.out.put hw2 ho4 hg4 (by rw [World.size_alloc] at hat4; exact hat4))
      have HS6 : Hid (PS w.heap.size nb (po + i) n av1 cv1 l1 w4) := HM5.out.sees HSw.out hnb
      clear ho4 hg4 hat4 HM4 HS4 HS5
      refine hK.out _ _ HS6.out (fun _ => ?_)
      clear hK K
      refine Reg.take (i := 10) (d := 5) (v := ?_) rfl rfl (by kernel_rfl) (by kernel_rfl) (by kernel_rfl) (fun _ _ _ h => h) (by rfl) ?_ HS6.out ?_
      rotate_left
      · rintro X hX
        first | (go_simp; done) | (go_simp; with_reducible rfl)
      simp only [Act.put, List.setIfInBounds_toArray, List.set_cons_zero, List.set_cons_succ]
      refine wpAnyH_done (by kernel_rfl) ?_ _
      go_wp2
      go_roundw
      case rel => exact ⟨i + 1, by omega, by go_num, HNt2.out ▸ HM5⟩
      case measure => simp [intOf]; omega
  · obtain rfl : i = N.length := by omega
    have HE : Hid (Flds.Own w.heap.size wr u5 R ∧ Below w.heap.size w wr) := ⟨by have h1 := HM.out.own; rw [List.take_length, HR.out] at h1; exact h1, HM.out.below⟩
    clear HM HT HR HK HGet HSz hov
    go_wp2
    go_ret
    exact ⟨_, rfl, HE.out.1, HE.out.2⟩
end Vary
end Go.Proofs.YtkogcbnbmdeolaaDoor
