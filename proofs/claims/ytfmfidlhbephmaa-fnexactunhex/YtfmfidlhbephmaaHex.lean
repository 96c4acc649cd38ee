/-
  Hex, of the program and of the specification: what each call returns, for every text of at most 2^20 bytes; old memory stays as it was.
-/
import Derived.Test.YtfmfidlhbephmaaVar
import Derived.Deep.RegionWith
import Derived.Deep.RegionLaw
import Derived.Deep.QuietTactic
import Derived.BigQuiet
import Derived.Lib.Strings
namespace Go.Proofs.Ytfmfidlhbephmaa
open Go.RowKit
set_option linter.unusedVariables false
namespace Hex

/-- an append onto a row of the call's own, as one step of a region that draws its order -/
theorem step_append_own {P : Program} {ops : Array Oper} {o : Oper} {a : Act} {w : World} {K : Act → World → Prop} {Q : Exit → Act → World → Prop} {E : Prop} (hgd : o.guard = none) (s x : Operand) (t : TypeId)
    (ho : o.op = .call { callee := .builtin .append, args := #[s, x], argTypes := #[t, t] })
    (base : Nat) (e : TypeId) (i : TypeInfo) (z : Value) (size bytes : Nat) (ht : P.underlying t = some (.slice e)) (hi : P.info? e = some i) (hz : i.zero = some z)
    (hsize : i.size = size) (hby : i.bytes = bytes) (hzs : z.cells.size = size) (hsz : 0 < size)
    (v : Value) (n : Nat) (xs : List Value) (hs : a.eval s = v) (hown : w.ownsRow base e size v n xs)
    (ad : Addr) (m c : Nat) (news : List Value) (hx : a.eval x = .slice (some ad) m c) (hl : news.length = m * size) (hnews : ∀ j u, news[j]? = some u → w.cell? (ad.add j) = some u) (h1 : ∀ u ∈ news, u.oneCell' = true)
    (h63 : n + m ≤ maxLen) (hbytes : (n + m) * bytes ≤ 140737488355328) (hbase : base ≤ w.heap.size)
    (h : ∀ v' w', w'.ownsRow base e size v' (n + m) (xs ++ news) → w.grownBy w' v.ownBlock → K (a.put o.dst v') w') :
    if Region.wanted o (yielded ops a.tmps) = true then Oper.wp P o a w K Q else E := by
  have hw : Region.wanted o (yielded ops a.tmps) = true := by simp [Region.wanted, hgd]
  rw [if_pos hw]
  exact wp_append_own w s x t ho base e i z size bytes ht hi hz hsize hby hzs hsz v n xs hs hown ad m c news hx hl hnews h1 h63 hbytes hbase fun v' w' h2 h3 _ => h v' w' h2 h3

/-- the sixteen digits -/
def digits : ByteArray := ⟨#[48, 49, 50, 51, 52, 53, 54, 55, 56, 57, 97, 98, 99, 100, 101, 102]⟩
def hx (k : Nat) : UInt8 := digits.data.toList.getD k 0
theorem digit_at (k : Nat) (h : k < 16) : (⟨#[48, 49, 50, 51, 52, 53, 54, 55, 56, 57, 97, 98, 99, 100, 101, 102]⟩ : ByteArray)[k]'h = hx k := by
  have hs : k < digits.data.toList.length := h
  simp only [hx, List.getD_eq_getElem?_getD, List.getElem?_eq_getElem hs, Option.getD_some, Array.getElem_toList]
  rfl
set_option maxRecDepth 100000 in
theorem digit_any (k : Nat) (w : World) (h : k < 16) : Calls Try.prog 23 #[.int .i64 k] w fun e w' => e = .returned (.int .u8 ((hx k).toNat : Int)) ∧ w = w' := by
  have hd := Num.hide (digit_at k h)
  go_enter Try.func23, Try.ntmps23
  go_wp2
  go_ret
  exact ⟨by rw [← Num.unhide hd]; rfl, rfl⟩
/-- two digits for each byte -/
def hex : List UInt8 → List UInt8
  | [] => []
  | c :: l => hx (c.toNat / 16) :: hx (c.toNat % 16) :: hex l
theorem hex_append (a b : List UInt8) : hex (a ++ b) = hex a ++ hex b := by
  induction a with
  | nil => rfl
  | cons c a ih => simp [hex, ih]
theorem length_hex (l : List UInt8) : (hex l).length = 2 * l.length := by
  induction l with
  | nil => rfl
  | cons c l ih => simp [hex, ih]; omega
theorem hex_take (s : ByteArray) (k : Nat) (h : k < s.size) : hex (s.data.toList.take (k + 1)) = hex (s.data.toList.take k) ++ [hx (s[k].toNat / 16), hx (s[k].toNat % 16)] := by
  rw [Num.take_snoc s k h, hex_append]; rfl
theorem length_hex_take (s : ByteArray) (k : Nat) (h : k ≤ s.size) : (hex (s.data.toList.take k)).length = 2 * k := by
  rw [length_hex, List.length_take, Array.length_toList]; have : s.data.size = s.size := rfl; omega
theorem put_two (N : Nat) (out : List UInt8) (x y : UInt8) (k : Int) (w wr : World) (g : Nat) (hg : w.heap.size ≤ g) (hk : k = (out.length : Int)) (h : out.length + 2 ≤ N) (hN : N ≤ maxLen)
    (hrow : wr.heap[g]? = some (.cells (Put.lay N out).toArray 5 (0, 0))) (hbel : Below w.heap.size w wr) :
    Calls Try.prog 22 #[.slice (some ⟨g, 0, none⟩) N N, .int .i64 k, .slice (some ⟨wr.heap.size, 0, none⟩) 2 2] (wr.alloc (.cells #[.int .u8 (x.toNat : Int), .int .u8 (y.toNat : Int)] 5)).drew fun e w' =>
      e = .returned (.int .i64 (k + 2)) ∧ Hid (w'.heap[g]? = some (.cells (Put.lay N (out ++ [x, y])).toArray 5 (0, 0))) ∧ Below w.heap.size w w' := by
  subst hk
  have hgs := Fixed.lt_of_row hrow
  refine (Put.put_any g N out.length 2 (Put.lay N out) ([x, y].map Put.cell) ⟨wr.heap.size, 0, none⟩ 2 w.heap.size w _ ?a1 ?a2 rfl (by omega) h hN ?a4 ?a3 (hbel.alloc (by omega) _).drew hg).mono ?_
  case a1 => exact (Below.heap_alloc wr _ _ hgs).trans hrow
  case a2 => exact Put.length_lay N out (by omega)
  case a4 => exact Put.cells_two wr _ _ 5
  case a3 =>
    intro v hv
    simp only [List.map_cons, List.map_nil, List.mem_cons, List.not_mem_nil, or_false] at hv
    rcases hv with rfl | rfl <;> rfl
  rintro e w2 ⟨rfl, hr2, hb2⟩
  rw [Put.lay_put N out [x, y] (by simpa using h)] at hr2
  exact ⟨by simp, hr2, hb2⟩

set_option maxRecDepth 100000 in
set_option maxHeartbeats 1000000 in
theorem impl_any (s : ByteArray) (w : World) (hm : s.size ≤ 1048576) :
    Calls Try.prog 18 #[.string s] w fun e w' => e = .returned (.string ⟨(hex s.data.toList).toArray⟩) ∧ Below w.heap.size w w' := by
  obtain ⟨i0, hi, hz0, hz1, hz2⟩ := info_parts Fixed.info5
  go_enter Try.func18, Try.ntmps18
  go_wp2_with (at_make; refine wpList_make_full _ rfl (.tmp 8) (.tmp 8) 36 rfl w.heap.size 5 i0 (.int .u8 0) 1 Try.underlying36 hi hz0 hz1 .i64 .i64 (2 * (s.size : Int)) (2 * (s.size : Int)) (2 * s.size) rfl rfl (by omega) (by omega) ?c1 ?c2 ?c3 ?_)
  case c1 => rw [hz2]; omega
  case c2 => unfold maxLen; omega
  case c3 => exact Nat.le_refl _
  intro w1 hown hgrow
  have hrow : Hid (w1.heap[w.heap.size]? = some (.cells (Put.lay (2 * s.size) []).toArray 5 (0, 0))) := by
    rw [Put.lay_nil]; exact Fixed.made_row (by simpa [Value.cells] using hown)
  have hbel : Below w.heap.size w w1 := (Below.refl _ _).grown hgrow (Nat.le_refl _) (fun k h => by cases h)
  clear hown hgrow
  go_wp2
  go_loopw [4, 12] (fun a i wr => ∃ k : Nat, k ≤ s.size ∧ i = .int .i64 k ∧ a = .int .i64 (2 * k : Nat) ∧ Hid (wr.heap[w.heap.size]? = some (.cells (Put.lay (2 * s.size) (hex (s.data.toList.take k))).toArray 5 (0, 0))) ∧ Below w.heap.size w wr) (fun _ i _ => s.size - (intOf i).toNat)
  case atStart => exact ⟨0, by omega, rfl, rfl, hrow, hbel⟩
  case round =>
    obtain ⟨k, hk, rfl, rfl, hrow', hbel'⟩ := hrel
    clear hrow hbel
    by_cases hlt : k < s.size
    · have hand := u8_and15 (s[k].toNat : Int) (by omega) (by have := s[k].toNat_lt; omega)
      have hq : (s[k].toNat : Int) / 16 < 16 := by have := s[k].toNat_lt; omega
      have hr : (s[k].toNat : Int) % 16 < 16 := by omega
      have hl := Num.hide (length_hex_take s k (by omega))
      have hd1 := Num.hide (digit_at ((s[k].toNat : Int) / 16).toNat (by omega))
      have hd2 := Num.hide (digit_at ((s[k].toNat : Int) % 16).toNat (by omega))
      have ht := Num.hide (hex_take s k hlt)
      go_wp2
      go_region_with (go_at_call 22; refine (put_two (2 * s.size) (hex (s.data.toList.take k)) _ _ _ w wr w.heap.size (Nat.le_refl _) ?_ ?_ ?_ hrow'.out hbel').mono ?_; rw [Num.unhide hl]; omega; rw [Num.unhide hl]; omega; unfold maxLen; omega; rintro e w2 ⟨rfl, hr2, hb2⟩)
      all_goals
        have hr3 : Hid (w2.heap[w.heap.size]? = some (.cells (Put.lay (2 * s.size) (hex (s.data.toList.take (k + 1)))).toArray 5 (0, 0))) := by
          have h3 := hr2.out
          rw [Num.unhide hd1, Num.unhide hd2, show ((s[k].toNat : Int) / 16).toNat = s[k].toNat / 16 by omega, show ((s[k].toNat : Int) % 16).toNat = s[k].toNat % 16 by omega, ← Num.unhide ht] at h3
          exact h3
        clear hr2 hrow' hbel'
        go_wp2
        go_roundw
        case rel => exact ⟨k + 1, by omega, by go_num, by go_num, hr3, hb2⟩
        case measure => simp [intOf]; omega
    · obtain rfl : k = s.size := by omega
      have hall : s.data.toList.take s.size = s.data.toList := List.take_of_length_le (by rw [Array.length_toList]; exact Nat.le_refl _)
      have hrow2 := hrow'.out
      rw [hall] at hrow2
      have hconv := Put.conv_lay hrow2 (2 * s.size) (2 * s.size) (by rw [length_hex, Array.length_toList]; rfl)
      clear hrow' hrow2 hall
      go_wp2
      go_ret
      exact ⟨rfl, hbel'⟩
end Hex
end Go.Proofs.Ytfmfidlhbephmaa
