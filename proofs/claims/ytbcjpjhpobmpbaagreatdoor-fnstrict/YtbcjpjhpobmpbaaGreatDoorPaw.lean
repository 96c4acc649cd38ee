/-
  LayRow: A row of the call's own into which bytes are laid one behind the other, and the text that is made of it; likewise of a slice that grows.
  DrawString: The specification's draws of texts: what each call returns is settled by the bytes of the draw alone; and how long it is.
  DrawTextLive: l1Text of the draws, of a cursor in whatever state.
  DrawResp: The specification's draws of an answer, of a cursor in whatever state: bounds alone.
  DrawOnce: l1Once of the draws.
  DrawOnceL: l1Once of the draws, of a cursor in whatever state.
-/
import Derived.Test.YtbcjpjhpobmpbaaGreatDoorPab
import Derived.Test.YtbcjpjhpobmpbaaGreatDoorPat
import Derived.Test.YtbcjpjhpobmpbaaGreatDoorPau
import Derived.Test.YtbcjpjhpobmpbaaGreatDoorPav
import Derived.Test.YtbcjpjhpobmpbaaGreatDoorPah
import Derived.Deep.Cut
namespace Go.Proofs.YtbcjpjhpobmpbaaGreatDoor
open Go.RowKit
set_option linter.unusedVariables false
namespace Put


def cell (b : UInt8) : Value := Value.int .u8 (b.toNat : Int)
/-- a row of N cells of which the first hold the bytes 'out', the rest zero -/
def lay (N : Nat) (out : List UInt8) : List Value := out.map cell ++ List.replicate (N - out.length) (Value.int .u8 0)
theorem length_lay (N : Nat) (out : List UInt8) (h : out.length ≤ N) : (lay N out).length = N := by simp [lay]; omega
theorem lay_nil (N : Nat) : lay N [] = List.replicate N (Value.int .u8 0) := by simp [lay]
theorem lay_put (N : Nat) (out more : List UInt8) (h : out.length + more.length ≤ N) : splice (lay N out) out.length (more.map cell) = lay N (out ++ more) := by
  have e1 : (lay N out).take out.length = out.map cell := by
    unfold lay
    rw [List.take_append_of_le_length (by simp)]
    exact List.take_of_length_le (by simp)
  have e2 : (lay N out).drop (out.length + (more.map cell).length) = List.replicate (N - (out ++ more).length) (Value.int .u8 0) := by
    unfold lay
    rw [List.drop_append, List.drop_eq_nil_of_le (by simp), List.nil_append, List.drop_replicate]
    congr 1
    simp; omega
  unfold splice
  rw [e1, e2, ← List.append_assoc, ← List.map_append]
  rfl
theorem cells_lay {w : World} {g N : Nat} {l : List UInt8} (h : w.heap[g]? = some (.cells (lay N l).toArray 5 (0, 0))) :
    ∀ j (hj : j < l.length), w.cell? ((⟨g, 0, none⟩ : Addr).add j) = some (.int .u8 (l[j].toNat : Int)) := by
  intro j hj
  have hadd : (⟨g, 0, none⟩ : Addr).add j = ⟨g, j, none⟩ := by unfold Addr.add; split <;> simp_all
  rw [hadd, cell_of_row w g j _ 5 (0, 0) h]
  simp only [lay, List.getElem?_toArray]
  rw [List.getElem?_append_left (by simpa using hj)]
  simp [hj, cell]
theorem conv_lay {w : World} {g N : Nat} {l : List UInt8} (h : w.heap[g]? = some (.cells (lay N l).toArray 5 (0, 0))) (n c : Nat) (hn : l.length = n) :
    (convert 42 9 (.slice (some ⟨g, 0, none⟩) n c)).run Tryz.prog w = .ok (.string ⟨l.toArray⟩) w := by
  subst hn
  exact run_convert_bytes_back (P := Tryz.prog) w 42 9 5 ⟨g, 0, none⟩ c l Tryz.underlying42 Tryz.underlying5 Tryz.underlying9 (cells_lay h)
theorem conv_own {w : World} {base : Nat} {v : Value} {l : List UInt8} (h : w.ownsRow base 5 1 v l.length (l.map cell)) (h0 : 0 < l.length) :
    (convert 42 9 v).run Tryz.prog w = .ok (.string ⟨l.toArray⟩) w := by
  rcases h.2 with ⟨_, h'⟩ | ⟨g, cap, cur, rfl, _, hg, hc, _, hcs, htake⟩
  · omega
  · refine run_convert_bytes_back (P := Tryz.prog) w 42 9 5 ⟨g, 0, none⟩ cap l Tryz.underlying42 Tryz.underlying5 Tryz.underlying9 ?_
    intro j hj
    have hadd : (⟨g, 0, none⟩ : Addr).add j = ⟨g, j, none⟩ := by unfold Addr.add; split <;> simp_all
    rw [hadd, cell_of_row w g j _ 5 (0, 0) hg]
    have h2 : (cur.toList.take (l.length * 1))[j]? = (l.map cell)[j]? := by rw [htake]
    rw [List.getElem?_take, if_pos (by omega)] at h2
    rw [← Array.getElem?_toList, h2]
    simp [hj, cell]
theorem cells_one (w : World) (v : Value) (t : TypeId) : ∀ j u, [v][j]? = some u → (w.alloc (.cells #[v] t)).cell? ((⟨w.heap.size, 0, none⟩ : Addr).add j) = some u := Mem.one_cell w v t
theorem cells_two (w : World) (v u : Value) (t : TypeId) : ∀ j x, [v, u][j]? = some x → (w.alloc (.cells #[v, u] t)).cell? ((⟨w.heap.size, 0, none⟩ : Addr).add j) = some x := by
  intro j x hj
  match j, hj with
  | 0, hj => simp at hj; subst hj; simp [Addr.add]
  | 1, hj => simp at hj; subst hj; simp [Addr.add]
theorem conv_nil (w : World) : (convert 42 9 (.slice none 0 0)).run Tryz.prog w = .ok (.string ⟨#[]⟩) w := by kernel_rfl
theorem conv_owned {w : World} {base : Nat} {v : Value} {l : List UInt8} (h : w.ownsRow base 5 1 v l.length (l.map Put.cell)) : (convert 42 9 v).run Tryz.prog w = .ok (.string ⟨l.toArray⟩) w := by
  by_cases h0 : 0 < l.length
  · exact Put.conv_own h h0
  · obtain rfl : l = [] := List.eq_nil_of_length_eq_zero (by omega)
    rcases h.2 with ⟨rfl, _⟩ | ⟨g, cap, cur, rfl, _⟩
    · exact conv_nil w
    · exact run_convert_bytes_back (P := Tryz.prog) w 42 9 5 ⟨g, 0, none⟩ cap [] Tryz.underlying42 Tryz.underlying5 Tryz.underlying9 (fun j hj => by simp at hj)
theorem two_ok (x y : UInt8) : ∀ u ∈ [x, y].map Put.cell, u.oneCell' = true := by
  intro v hv
  simp only [List.map_cons, List.map_nil, List.mem_cons, List.not_mem_nil, or_false] at hv
  rcases hv with rfl | rfl <;> rfl
theorem one_ok (x : Int) : ∀ u ∈ [Value.int .u8 x], u.oneCell' = true := by intro u hu; simp at hu; subst hu; rfl
theorem map_snoc (out : List UInt8) (x : Int) (h0 : 0 ≤ x) (h1 : x < 256) : out.map Put.cell ++ [Value.int .u8 x] = (out ++ [Num.byte x]).map Put.cell := by
  have e : ((Num.byte x).toNat : Int) = x := by rw [Num.byte_val]; omega
  simp [Put.cell, e]

/-- an append onto a row of the call's own, as one step of a region that draws its order -/
theorem step_append_own {P : Program} {ops : Array Oper} {o : Oper} {a : Act} {w : World} {K : Act → World → Prop} {Q : Exit → Act → World → Prop} {E : Prop} (hgd : o.guard = none) (s x : Operand) (t : TypeId)
    (ho : o.op = .call { callee := .builtin .append, args := #[s, x], argTypes := #[t, t] })
    (base : Nat) (e : TypeId) (i : TypeInfo) (z : Value) (size bytes : Nat) (ht : P.underlying t = some (.slice e)) (hi : P.info? e = some i) (hz : i.zero = some z)
    (hsize : i.size = size) (hby : i.bytes = bytes) (hzs : z.cells.size = size) (hsz : 0 < size)
    (v : Value) (n : Nat) (xs : List Value) (hs : a.eval s = v) (hown : w.ownsRow base e size v n xs)
    (ad : Addr) (m c : Nat) (news : List Value) (hx : a.eval x = .slice (some ad) m c) (hl : news.length = m * size) (hnews : ∀ j u, news[j]? = some u → w.cell? (ad.add j) = some u) (h1 : ∀ u ∈ news, u.oneCell' = true)
    (h63 : n + m ≤ maxLen) (hbytes : (n + m) * bytes ≤ 140737488355328) (hbase : base ≤ w.heap.size)
    (h : ∀ v' w', w'.ownsRow base e size v' (n + m) (xs ++ news) → w.grownBy w' v.ownBlock → K (a.put o.dst v') w') :
    if Region.wanted o (yielded ops a.tmps) = true then Oper.wp P o a w K Q else E := by
  have hw : Region.wanted o (yielded ops a.tmps) = true := by simp [Region.wanted, hgd]
  rw [if_pos hw]
  exact wp_append_own w s x t ho base e i z size bytes ht hi hz hsize hby hzs hsz v n xs hs hown ad m c news hx hl hnews h1 h63 hbytes hbase fun v' w' h2 h3 _ => h v' w' h2 h3
end Put
end Go.Proofs.YtbcjpjhpobmpbaaGreatDoor
namespace Go.Proofs.YtbcjpjhpobmpbaaGreatDoor
open Go.RowKit
set_option linter.unusedVariables false
namespace Draw

/-- a byte of a text of that style -/
def sb (style b : Int) : Int := if style = 1 then b % 2 else if style = 2 then 97 + b % 4 else b
theorem sb_bd (style b : Int) (h0 : 0 ≤ b) (h1 : b ≤ 255) : 0 ≤ sb style b ∧ sb style b < 256 := by
  unfold sb
  split
  · omega
  · split <;> omega
def txl (l : List Int) (style : Int) : Nat → Nat × Int → List UInt8
  | 0, _ => []
  | j + 1, s => Num.byte (sb style (bv l s)) :: txl l style j (ns l s)
def txs (l : List Int) : Nat → Nat × Int → Nat × Int
  | 0, s => s
  | j + 1, s => txs l j (ns l s)
theorem length_txl (l : List Int) (style : Int) (j : Nat) (s : Nat × Int) : (txl l style j s).length = j := by
  induction j generalizing s with
  | zero => rfl
  | succ j ih => simp [txl, ih]
/-- a text of at most so many bytes, and the state behind it -/
def txt (l : List Int) (most : Int) (s : Nat × Int) : List UInt8 := txl l (blv l 4 s) (blv l (most + 1) (bls l 4 s)).toNat (bls l (most + 1) (bls l 4 s))
def txts (l : List Int) (most : Int) (s : Nat × Int) : Nat × Int := txs l (blv l (most + 1) (bls l 4 s)).toNat (bls l (most + 1) (bls l 4 s))
theorem length_txt (l : List Int) (most : Int) (s : Nat × Int) (h0 : 0 ≤ most) : (txt l most s).length ≤ most.toNat := by
  unfold txt
  rw [length_txl]
  have := blv_bd l (most + 1) (bls l 4 s) (by omega)
  omega
set_option maxRecDepth 100000 in
set_option maxHeartbeats 1000000 in
theorem text_at (B C cap : Nat) (a : Option Addr) (l : List Int) (most : Int) (w : World) (s : Nat × Int) (h : At B C cap a l w s) (hm0 : 0 ≤ most) (hm1 : most ≤ 1000000) :
    Calls Tryz.prog 78 #[.pointer (some ⟨C, 0, none⟩), .int .i64 most] w fun e w' => e = .returned (.string ⟨(txt l most s).toArray⟩) ∧ At B C cap a l w' (txts l most s) ∧ Only C w w' := by
  have hlt := h.lt
  obtain ⟨i0, hi, hz0, hz1, hz2⟩ := info_parts Mem.info5
  go_enter Tryz.func78, Tryz.ntmps78
  go_wp2_with fail
  refine (below_at B C cap a l 4 _ s (h.alloc _) (by omega)).mono ?_
  rintro e w1 ⟨rfl, h1, o1⟩
  go_wp2_with fail
  refine (below_at B C cap a l (most + 1) _ _ h1 (by omega)).mono ?_
  rintro e w2 ⟨rfl, h2, o2⟩
  have hown0 : w2.ownsRow w.heap.size 5 1 (.slice (some ⟨w.heap.size, 0, none⟩) 0 0) 0 [] :=
    o2.owns hlt (o1.owns hlt (World.ownsRow_lit (base := w.heap.size) (e := 5) (size := 1) w #[] 0 (Nat.le_refl _) (by unfold maxLen; omega) rfl))
  have hb := blv_bd l (most + 1) (bls l 4 s) (by omega)
  have hO : Only C w w2 := ((Only.refl C w).alloc _).trans (o1.trans o2)
  have htx : Hid (txt l most s = txl l (blv l 4 s) (blv l (most + 1) (bls l 4 s)).toNat (bls l (most + 1) (bls l 4 s))) := rfl
  have hts : Hid (txts l most s = txs l (blv l (most + 1) (bls l 4 s)).toNat (bls l (most + 1) (bls l 4 s))) := rfl
  generalize blv l 4 s = style at *
  generalize blv l (most + 1) (bls l 4 s) = n at *
  generalize bls l (most + 1) (bls l 4 s) = s2 at *
  clear o1 o2 h1
  go_wp2
  go_loopw [5, 7] (fun v q wr => ∃ (j : Nat) (st : Nat × Int) (out : List UInt8), j + out.length ≤ 1000000 ∧ q = .int .i64 j ∧ Hid (txt l most s = out ++ txl l style j st) ∧ Hid (txts l most s = txs l j st) ∧ At B C cap a l wr st ∧
      wr.ownsRow w.heap.size 5 1 v out.length (out.map Put.cell) ∧ Only C w wr) (fun _ q _ => (intOf q).toNat)
  case atStart => exact ⟨n.toNat, s2, [], by simp; omega, by rw [Int.toNat_of_nonneg hb.1], htx, hts, h2, hown0, hO⟩
  case round =>
    obtain ⟨j, st, out, hj, rfl, hx, hs, hA, hown, hOn⟩ := hrel
    clear h2 hown0 hO htx hts
    cases j with
    | zero =>
      have hx2 : Hid (txt l most s = out) := by show txt l most s = out; have := hx.out; simpa [txl] using this
      have hconv := Put.conv_owned hown
      clear hown
      go_wp2
      go_ret
      exact ⟨by rw [hx2.out]; rfl, by rw [hs.out]; exact hA, hOn⟩
    | succ j =>
      have bb := bv_bd l st
      have b1 := sb_bd style (bv l st) bb.1 bb.2
      have hsb : Hid (sb style (bv l st) = if style = 1 then bv l st % 2 else if style = 2 then 97 + bv l st % 4 else bv l st) := rfl
      have hj0 : (0 : Int) < ((j + 1 : Nat) : Int) := by omega
      go_wp2_with fail
      refine (byte_at B C cap a l _ st hA).mono ?_
      rintro e w3 ⟨rfl, h3, o3⟩
      have hown3 := o3.owns hlt hown
      have hsz := Nat.le_trans hOn.size o3.size
      have fin : ∀ x v' w4, x = sb style (bv l st) → w4.ownsRow w.heap.size 5 1 v' (out.length + 1) (out.map Put.cell ++ [Value.int .u8 x]) → (w3.alloc (.cells #[.int .u8 x] 5)).grownBy w4 u5.ownBlock →
          ∃ st' out', j + out'.length ≤ 1000000 ∧ Hid (txt l most s = out' ++ txl l style j st') ∧ Hid (txts l most s = txs l j st') ∧ At B C cap a l w4 st' ∧ w4.ownsRow w.heap.size 5 1 v' out'.length (out'.map Put.cell) ∧ Only C w w4 := by
        intro x v' w4 hxe hown4 hg
        have hb4 : Below w.heap.size w3 w4 := ((Below.refl _ _).alloc hsz _).grown hg (by simp; omega) (fun k hk => (hown3.lt k hk).1)
        refine ⟨ns l st, out ++ [Num.byte x], by simp; omega, ?_, hs.out, h3.under hb4 hlt, ?_, (hOn.trans o3).of_below hb4⟩
        · show txt l most s = _
          rw [hx.out, hxe, List.append_assoc]; rfl
        · rw [← Put.map_snoc out x (by rw [hxe]; exact b1.1) (by rw [hxe]; exact b1.2)]
          simpa using hown4
      by_cases s1 : style = 1
      · have c1 : (style == 1) = true := beq_iff_eq.2 s1
        have c2 : (style == 2) = false := beq_eq_false_iff_ne.2 (by omega)
        have hxe : bv l st % 2 = sb style (bv l st) := by rw [hsb.out, if_pos s1]
        have HX := Num.hide hxe
        clear s1
        have HF := Num.hide fin
        clear hxe fin hown
        go_wp2_with (at_builtin; refine wpList_append_own _ rfl _ _ 42 rfl w.heap.size 5 i0 (.int .u8 0) 1 1 Tryz.underlying42 hi hz0 hz1 hz2 rfl (by decide) _ _ _ rfl (hown3.alloc _) ⟨w3.heap.size, 0, none⟩ 1 1 [.int .u8 (bv l st % 2)] rfl rfl (Put.cells_one w3 _ 5) (Put.one_ok _) (by unfold maxLen; omega) (by omega) ?q1 ?_)
        case q1 => simp; omega
        intro v' w4 hown4 hgrow _
        obtain ⟨st', out', f1, f2, f3, f4, f5, f6⟩ := Num.unhide HF _ v' w4 (Num.unhide HX) hown4 hgrow
        clear hown4 hgrow hown3 HF
        go_wp2
        go_roundw
        case rel => exact ⟨j, st', out', f1, by go_num, f2, f3, f4, f5, f6⟩
        case measure => simp [intOf]
      · have c1 : (style == 1) = false := beq_eq_false_iff_ne.2 s1
        by_cases s2' : style = 2
        · have c2 : (style == 2) = true := beq_iff_eq.2 s2'
          have hxe : 97 + bv l st % 4 = sb style (bv l st) := by rw [hsb.out, if_neg s1, if_pos s2']
          have HX := Num.hide hxe
          clear s1 s2'
          have HF := Num.hide fin
          clear hxe fin hown
          go_wp2_with (at_builtin; refine wpList_append_own _ rfl _ _ 42 rfl w.heap.size 5 i0 (.int .u8 0) 1 1 Tryz.underlying42 hi hz0 hz1 hz2 rfl (by decide) _ _ _ rfl (hown3.alloc _) ⟨w3.heap.size, 0, none⟩ 1 1 [.int .u8 (97 + bv l st % 4)] rfl rfl (Put.cells_one w3 _ 5) (Put.one_ok _) (by unfold maxLen; omega) (by omega) ?q2 ?_)
          case q2 => simp; omega
          intro v' w4 hown4 hgrow _
          obtain ⟨st', out', f1, f2, f3, f4, f5, f6⟩ := Num.unhide HF _ v' w4 (Num.unhide HX) hown4 hgrow
          clear hown4 hgrow hown3 HF
          go_wp2
          go_roundw
          case rel => exact ⟨j, st', out', f1, by go_num, f2, f3, f4, f5, f6⟩
          case measure => simp [intOf]
        · have c2 : (style == 2) = false := beq_eq_false_iff_ne.2 s2'
          have hxe : bv l st = sb style (bv l st) := by rw [hsb.out, if_neg s1, if_neg s2']
          have HX := Num.hide hxe
          clear s1 s2'
          have HF := Num.hide fin
          clear hxe fin hown
          go_wp2_with (at_builtin; refine wpList_append_own _ rfl _ _ 42 rfl w.heap.size 5 i0 (.int .u8 0) 1 1 Tryz.underlying42 hi hz0 hz1 hz2 rfl (by decide) _ _ _ rfl (hown3.alloc _) ⟨w3.heap.size, 0, none⟩ 1 1 [.int .u8 (bv l st)] rfl rfl (Put.cells_one w3 _ 5) (Put.one_ok _) (by unfold maxLen; omega) (by omega) ?q3 ?_)
          case q3 => simp; omega
          intro v' w4 hown4 hgrow _
          obtain ⟨st', out', f1, f2, f3, f4, f5, f6⟩ := Num.unhide HF _ v' w4 (Num.unhide HX) hown4 hgrow
          clear hown4 hgrow hown3 HF
          go_wp2
          go_roundw
          case rel => exact ⟨j, st', out', f1, by go_num, f2, f3, f4, f5, f6⟩
          case measure => simp [intOf]
end Draw
end Go.Proofs.YtbcjpjhpobmpbaaGreatDoor
namespace Go.Proofs.YtbcjpjhpobmpbaaGreatDoor
open Go.RowKit
set_option linter.unusedVariables false
namespace Draw

theorem text_live (B C : Nat) (most : Nat) (w : World) (h : Live B C w) (hm : most ≤ 1000000) :
    Calls Tryz.prog 78 #[.pointer (some ⟨C, 0, none⟩), .int .i64 (most : Int)] w fun e w' => ∃ t, e = .returned (.string t) ∧ t.size ≤ most ∧ Live B C w' ∧ Only C w w' := by
  obtain ⟨cap, a, l, s, h⟩ := h
  refine (text_at B C cap a l (most : Int) w s h (by omega) (by omega)).mono ?_
  rintro e w' ⟨rfl, h2, ho⟩
  have := length_txt l (most : Int) s (by omega)
  exact ⟨_, rfl, by show (txt l (most : Int) s).toArray.size ≤ most; rw [List.size_toArray]; exact this, ⟨_, _, _, _, h2⟩, ho⟩
end Draw
end Go.Proofs.YtbcjpjhpobmpbaaGreatDoor
namespace Go.Proofs.YtbcjpjhpobmpbaaGreatDoor
open Go.RowKit
set_option linter.unusedVariables false
set_option linter.unusedSimpArgs false
namespace Draw

def zResp : Obj := .cells #[.int .i64 0, .slice none 0 0, .string ⟨#[]⟩] 35
theorem only_set {C : Nat} {a w : World} (h : Only C a w) (g i : Nat) (u : Value) (hg : a.heap.size ≤ g) : Only C a (w.setCell ⟨g, i, none⟩ u) :=
  h.of_below ((Below.refl _ _).setCell (p := ⟨g, i, none⟩) hg u)
theorem live_set {B C : Nat} {w : World} (h : Live B C w) (g i : Nat) (u : Value) (hg : C < g) : Live B C (w.setCell ⟨g, i, none⟩ u) :=
  h.under ((Below.refl g w).setCell (p := ⟨g, i, none⟩) (Nat.le_refl _) u) hg
set_option maxRecDepth 100000 in
set_option maxHeartbeats 4000000 in
theorem resp_q (B C : Nat) (w : World) (h : Live B C w) :
    Calls Tryz.prog 79 #[.pointer (some ⟨C, 0, none⟩)] w fun e w' => ∃ st v l b, e = .returned (Resp.val st v b) ∧ 200 ≤ st ∧ st ≤ 500 ∧ Flds.Own w.heap.size w' v l ∧ Few 4 l ∧ AllSaid l ∧ b.size ≤ 64 ∧ Live B C w' ∧ Only C w w' := by
  have hC := h.lt
  have HL0 := Num.hide (h.alloc zResp)
  have HO0 := Num.hide ((Only.refl C w).alloc zResp)
  have HZ0 : Hid ((w.alloc zResp).heap[w.heap.size]? = some zResp) := heap_alloc_new w _
  have hz0 : (w.alloc zResp).heap.size = w.heap.size + 1 := by rw [World.size_alloc]
  clear h
  go_enter Tryz.func79, Tryz.ntmps79
  go_wp2_with fail
  refine (pickInt_live B C (w.heap.size + 1) 200 500 _ 10 _ (HL0.out.alloc _) (by omega) (hz0 ▸ heap_alloc_new (w.alloc zResp) _) rfl (by omega) (by omega) (by simp only [IntsIn, and_true]; omega)).mono ?_
  rintro e w1 ⟨st, rfl, hs0, hs1, hl, ho⟩
  have HL1 := Num.hide hl
  have HO1 := Num.hide ((HO0.out.alloc _).trans ho)
  have HZ1 : Hid (w1.heap[w.heap.size]? = some zResp) := (ho.block _ (by rw [World.size_alloc]; omega) (by omega)).trans ((heap_alloc_old _ _ (by omega)).trans HZ0.out)
  have hz1 : w.heap.size + 1 < w1.heap.size := by have := ho.size; rw [World.size_alloc] at this; omega
  clear hl ho HL0 HO0 HZ0
  go_wp2_with fail
  refine (fields_q B C _ HL1.out).mono ?_
  rintro e w2 ⟨v, l, rfl, hv, hf, hsd, -, hl, ho⟩
  have HF := Num.hide hf
  have HSa := Num.hide hsd
  clear hsd
  have hz2 := ho.size
  obtain ⟨av, cv, hvv⟩ := Recs.own_len hv
  subst hvv
  have hal : Below w2.heap.size w2 (w2.alloc (.cells #[.int .i64 st, .slice av l.length cv, .string ⟨#[]⟩] 35)) := (Below.refl _ _).alloc (Nat.le_refl _) _
  have HL2 := Num.hide (hl.below hal)
  have HO2 := Num.hide ((HO1.out.trans ho).alloc (.cells #[.int .i64 st, .slice av l.length cv, .string ⟨#[]⟩] 35))
  have HZ2 : Hid ((w2.alloc (.cells #[.int .i64 st, .slice av l.length cv, .string ⟨#[]⟩] 35)).heap[w.heap.size]? = some zResp) := (heap_alloc_old _ _ (by omega)).trans ((ho.block _ (by omega) (by omega)).trans HZ1.out)
  have HQ2 : Hid ((w2.alloc (.cells #[.int .i64 st, .slice av l.length cv, .string ⟨#[]⟩] 35)).heap[w2.heap.size]? = some (.cells #[.int .i64 st, .slice av l.length cv, .string ⟨#[]⟩] 35)) := heap_alloc_new w2 _
  have HV2 := Num.hide (Recs.own_below hv hal)
  have hvb : ∀ j, (Value.slice av l.length cv).ownBlock = some j → w.heap.size < j ∧ j < w2.heap.size := fun j hj => by have := Recs.own_lt hv j hj; omega
  have hz3 : (w2.alloc (.cells #[.int .i64 st, .slice av l.length cv, .string ⟨#[]⟩] 35)).heap.size = w2.heap.size + 1 := by rw [World.size_alloc]
  clear hl ho hv hf hal HL1 HO1 HZ1
  go_upto_region 2 with fail
  generalize w2.alloc (.cells #[.int .i64 st, .slice av l.length cv, .string ⟨#[]⟩] 35) = w3 at HL2 HO2 HZ2 HQ2 HV2 hz3 ⊢
  obtain ⟨gq, hgq⟩ : ∃ gq, w2.heap.size = gq := ⟨_, rfl⟩
  rw [hgq] at HQ2 hz2 hvb hz3 ⊢
  have n0 : ∀ j, (Value.slice av l.length cv).ownBlock = some j → j ≠ w.heap.size := fun j hj => by have := hvb j hj; omega
  have n1 : ∀ j, (Value.slice av l.length cv).ownBlock = some j → j ≠ gq := fun j hj => by have := hvb j hj; omega
  have k0 := Recs.box_cell HQ2.out 0
  have k1 := Recs.box_cell HQ2.out 1
  have k2 := Recs.box_cell HQ2.out 2
  simp only [List.getElem?_toArray, List.getElem?_cons_succ, List.getElem?_cons_zero] at k0 k1 k2
  have hq1 : ¬ gq = w.heap.size := by omega
  have hq2 : ¬ w.heap.size = gq := by omega
  by_cases h24 : st ≠ 204 ∧ st ≠ 304
  · have d1 : (st != 204) = true := by rw [bne_iff_ne]; exact h24.1
    have d2 : (st != 304) = true := by rw [bne_iff_ne]; exact h24.2
    clear hvb
    go_wp2_with fail
    refine (text_live B C 8 _ HL2.out (by omega)).mono ?_
    rintro e w4 ⟨t, rfl, ht, hl, ho⟩
    have HQ4 : Hid (w4.heap[gq]? = some (.cells #[.int .i64 st, .slice av l.length cv, .string ⟨#[]⟩] 35)) := (ho.block _ (by omega) (by omega)).trans HQ2.out
    have HZ4 : Hid (w4.heap[w.heap.size]? = some zResp) := (ho.block _ (by omega) (by omega)).trans HZ2.out
    have HE : Hid (Flds.Own w.heap.size ((((w4.setCell ⟨gq, 2, none⟩ (.string t)).setCell ⟨w.heap.size, 0, none⟩ (.int .i64 st)).setCell ⟨w.heap.size, 1, none⟩ (.slice av l.length cv)).setCell ⟨w.heap.size, 2, none⟩ (.string t)) (.slice av l.length cv) l ∧ Live B C ((((w4.setCell ⟨gq, 2, none⟩ (.string t)).setCell ⟨w.heap.size, 0, none⟩ (.int .i64 st)).setCell ⟨w.heap.size, 1, none⟩ (.slice av l.length cv)).setCell ⟨w.heap.size, 2, none⟩ (.string t)) ∧ Only C w ((((w4.setCell ⟨gq, 2, none⟩ (.string t)).setCell ⟨w.heap.size, 0, none⟩ (.int .i64 st)).setCell ⟨w.heap.size, 1, none⟩ (.slice av l.length cv)).setCell ⟨w.heap.size, 2, none⟩ (.string t))) := by
      have o0 := own_only HV2.out ho (by omega)
      have o1 := Recs.own_set o0 gq 2 (.string t) n1
      have o2 := Recs.own_set o1 w.heap.size 0 (.int .i64 st) n0
      have o3 := Recs.own_set o2 w.heap.size 1 (.slice av l.length cv) n0
      have o4 := Recs.own_set o3 w.heap.size 2 (.string t) n0
      refine ⟨Recs.own_mono o4 (by omega), ?_, ?_⟩
      · exact live_set (live_set (live_set (live_set hl gq 2 _ (by omega)) _ 0 _ hC) _ 1 _ hC) _ 2 _ hC
      · exact only_set (only_set (only_set (only_set (HO2.out.trans ho) gq 2 _ (by omega)) _ 0 _ (Nat.le_refl _)) _ 1 _ (Nat.le_refl _)) _ 2 _ (Nat.le_refl _)
    clear hl ho k0 k1 k2
    have k0 := Recs.box_cell HQ4.out 0
    have k1 := Recs.box_cell HQ4.out 1
    have k2 := Recs.box_cell HQ4.out 2
    have z2 := Recs.box_thaw HQ4.out 2
    have o0 := Recs.box_cell HZ4.out 0
    have o1 := Recs.box_cell HZ4.out 1
    have o2 := Recs.box_cell HZ4.out 2
    have y0 := Recs.box_thaw HZ4.out 0
    have y1 := Recs.box_thaw HZ4.out 1
    have y2 := Recs.box_thaw HZ4.out 2
    simp only [List.getElem?_toArray, List.getElem?_cons_succ, List.getElem?_cons_zero] at k0 k1 k2 o0 o1 o2
    clear HL2 HO2 HZ2 HQ2 HV2 HQ4 HZ4 n0 n1
    obtain ⟨r, hr⟩ : ∃ r, w.heap.size = r := ⟨_, rfl⟩
    rw [hr] at HE o0 o1 o2 y0 y1 y2 hq1 hq2 ⊢
    go_wp2
    exact bodyPost_ret (v := .agg #[.int .i64 st, .slice av l.length cv, .string t]) (by simp [results, Tryz.results79, go_sem, *]) rfl ⟨st, _, l, t, rfl, hs0, hs1, hr ▸ HE.out.1, HF.out, HSa.out, by omega, HE.out.2.1, HE.out.2.2⟩
  · have h24b : st = 204 ∨ st = 304 := by omega
    clear hvb h24
    have HE : Hid (Flds.Own w.heap.size (((w3.setCell ⟨w.heap.size, 0, none⟩ (.int .i64 st)).setCell ⟨w.heap.size, 1, none⟩ (.slice av l.length cv)).setCell ⟨w.heap.size, 2, none⟩ (.string ⟨#[]⟩)) (.slice av l.length cv) l ∧ Live B C (((w3.setCell ⟨w.heap.size, 0, none⟩ (.int .i64 st)).setCell ⟨w.heap.size, 1, none⟩ (.slice av l.length cv)).setCell ⟨w.heap.size, 2, none⟩ (.string ⟨#[]⟩)) ∧ Only C w (((w3.setCell ⟨w.heap.size, 0, none⟩ (.int .i64 st)).setCell ⟨w.heap.size, 1, none⟩ (.slice av l.length cv)).setCell ⟨w.heap.size, 2, none⟩ (.string ⟨#[]⟩))) := by
      have o2 := Recs.own_set HV2.out w.heap.size 0 (.int .i64 st) n0
      have o3 := Recs.own_set o2 w.heap.size 1 (.slice av l.length cv) n0
      have o4 := Recs.own_set o3 w.heap.size 2 (.string ⟨#[]⟩) n0
      refine ⟨Recs.own_mono o4 (by omega), ?_, ?_⟩
      · exact live_set (live_set (live_set HL2.out _ 0 _ hC) _ 1 _ hC) _ 2 _ hC
      · exact only_set (only_set (only_set HO2.out _ 0 _ (Nat.le_refl _)) _ 1 _ (Nat.le_refl _)) _ 2 _ (Nat.le_refl _)
    have o0 := Recs.box_cell HZ2.out 0
    have o1 := Recs.box_cell HZ2.out 1
    have o2 := Recs.box_cell HZ2.out 2
    have y0 := Recs.box_thaw HZ2.out 0
    have y1 := Recs.box_thaw HZ2.out 1
    have y2 := Recs.box_thaw HZ2.out 2
    simp only [List.getElem?_toArray, List.getElem?_cons_succ, List.getElem?_cons_zero] at o0 o1 o2
    clear HL2 HO2 HZ2 HQ2 HV2 n0 n1
    obtain ⟨r, hr⟩ : ∃ r, w.heap.size = r := ⟨_, rfl⟩
    rw [hr] at HE o0 o1 o2 y0 y1 y2 hq1 hq2 ⊢
    rcases h24b with rfl | rfl
    · go_wp2
      exact bodyPost_ret (v := .agg #[.int .i64 204, .slice av l.length cv, .string ⟨#[]⟩]) (by simp [results, Tryz.results79, go_sem, *]) rfl ⟨204, _, l, ⟨#[]⟩, rfl, hs0, hs1, hr ▸ HE.out.1, HF.out, HSa.out, by decide, HE.out.2.1, HE.out.2.2⟩
    · go_wp2
      exact bodyPost_ret (v := .agg #[.int .i64 304, .slice av l.length cv, .string ⟨#[]⟩]) (by simp [results, Tryz.results79, go_sem, *]) rfl ⟨304, _, l, ⟨#[]⟩, rfl, hs0, hs1, hr ▸ HE.out.1, HF.out, HSa.out, by decide, HE.out.2.1, HE.out.2.2⟩
theorem resp_live (B C : Nat) (w : World) (h : Live B C w) :
    Calls Tryz.prog 79 #[.pointer (some ⟨C, 0, none⟩)] w fun e w' => ∃ st v l b, e = .returned (Resp.val st v b) ∧ 200 ≤ st ∧ st ≤ 500 ∧ Flds.Own w.heap.size w' v l ∧ Few 4 l ∧ b.size ≤ 64 ∧ Live B C w' ∧ Only C w w' :=
  (resp_q B C w h).mono fun e w' ⟨st, v, l, b, h1, h2, h3, h4, h5, _, h6, h7, h8⟩ => ⟨st, v, l, b, h1, h2, h3, h4, h5, h6, h7, h8⟩
end Draw
end Go.Proofs.YtbcjpjhpobmpbaaGreatDoor
namespace Go.Proofs.YtbcjpjhpobmpbaaGreatDoor
open Go.RowKit
set_option linter.unusedVariables false
namespace Draw

theorem once_at (B C cap : Nat) (a : Option Addr) (l : List Int) (n : Int) (w : World) (s : Nat × Int) (h : At B C cap a l w s) (hn : n ≤ 4294967296) :
    Calls Tryz.prog 80 #[.pointer (some ⟨C, 0, none⟩), .int .i64 n] w fun e w' => e = .returned (.bool (blv l n s == 0)) ∧ At B C cap a l w' (bls l n s) ∧ Only C w w' := by
  go_enter Tryz.func80, Tryz.ntmps80
  go_wp2_with fail
  refine (below_at B C cap a l n _ s h hn).mono ?_
  rintro e w1 ⟨rfl, h1, ho⟩
  go_wp2
  go_ret
  exact ⟨rfl, h1, ho⟩
end Draw
end Go.Proofs.YtbcjpjhpobmpbaaGreatDoor
namespace Go.Proofs.YtbcjpjhpobmpbaaGreatDoor
open Go.RowKit
set_option linter.unusedVariables false
namespace Draw

theorem once_live (B C : Nat) (n : Int) (w : World) (h : Live B C w) (hn : n ≤ 4294967296) :
    Calls Tryz.prog 80 #[.pointer (some ⟨C, 0, none⟩), .int .i64 n] w fun e w' => ∃ b, e = .returned (.bool b) ∧ Live B C w' ∧ Only C w w' := by
  obtain ⟨cap, a, l, s, h⟩ := h
  refine (once_at B C cap a l n w s h hn).mono ?_
  rintro e w' ⟨rfl, h2, ho⟩
  exact ⟨_, rfl, ⟨_, _, _, _, h2⟩, ho⟩
end Draw
end Go.Proofs.YtbcjpjhpobmpbaaGreatDoor
