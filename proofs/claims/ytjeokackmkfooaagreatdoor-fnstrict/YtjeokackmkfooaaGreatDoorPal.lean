/-
  StoreLaw: FnExactStorable, whatever the program's Storable keeps to: it answers as the specification's and leaves its arguments as they were.
  ShelfCut: Library contracts at this program: strings_Cut, strings_Cut_shaped.
  CcCut: Cut at the first '=': what the library's call tells of a part.
  UnqImpl: withoutQuotes of the program: a value without quotes around it; the world stays.
  LowerImpl: isUpper and Lower of the program: what the calls return, for every byte and every text; what was there stays.
  ReadDirImpl: readDirective of the program: the directive of a part, and whether it is one.
-/
import Derived.Test.YtjeokackmkfooaaGreatDoorPaj
import Derived.Test.YtjeokackmkfooaaGreatDoorPak
import Derived.Test.YtjeokackmkfooaaGreatDoorRegLaw
import Derived.Deep.Cut
import Derived.Shelf.Strings.Builder1
import Derived.Shelf.Strings.Builder2
import Derived.Shelf.Strings.OnBuilder
import Derived.Shelf.Strings.Trim
import Derived.Shelf.Small.Utf8
import Derived.Shelf.Small.Strs
import Derived.Shelf.Strings.BuilderF
import Derived.Shelf.Strings.BuilderK
import Derived.Shelf.Strconv.Itoa0
import Derived.Shelf.Strconv.Itoa1
import Derived.Shelf.LaysM
import Derived.Shelf.Strconv.Itoa2
import Derived.Shelf.Strconv.Itoa3
import Derived.Shelf.Strconv.Clone
import Derived.Shelf.Strings.Search1
import Derived.Shelf.Strings.Search2
import Derived.Shelf.Strings.Search3
import Derived.Shelf.Strings.Cut
import Derived.Shelf.Strings.Shaped
import Derived.Shelf.Unicode.Decode
import Derived.Shelf.Strings.Runes
import Derived.Shelf.Strings.AsciiSet
import Derived.Shelf.Unicode.DecodeSlow
import Derived.Shelf.Unicode.DecodeAny
import Derived.Shelf.Unicode.DecodeLast
import Derived.Test.YtjeokackmkfooaaGreatDoorRows
import Derived.Test.YtjeokackmkfooaaGreatDoorPaa
import Derived.Test.YtjeokackmkfooaaGreatDoorPad
import Derived.Test.YtjeokackmkfooaaGreatDoorPah
import Derived.Laws.Strings
import Derived.WalkKit
import Derived.Test.YtjeokackmkfooaaGreatDoorLowerNum
import Derived.Test.YtjeokackmkfooaaGreatDoorUpperImpl
import Derived.Test.YtjeokackmkfooaaGreatDoorTokenImpl
import Derived.Test.YtjeokackmkfooaaGreatDoorPai
namespace Go.Proofs.YtjeokackmkfooaaGreatDoor
open Go.RowKit
set_option linter.unusedVariables false
set_option linter.unusedSimpArgs false
namespace Pol

/-- the boxes that the law loads, and what they lead to -/
abbrev storable2 (w : World) (ga : Nat) (gb : Nat) (m1 u1 : ByteArray) (s2 : Int) (va : Value) (vb : Value) (l1 l2 : List Flds.Fld) (b1 b2 : ByteArray) (W : World) : Prop :=
  W.cell? ⟨ga, 0, none⟩ = some (.string m1) ∧ W.cell? ⟨ga, 1, none⟩ = some (.string u1) ∧ W.cell? ⟨ga, 2, none⟩ = some va ∧ W.cell? ⟨ga, 3, none⟩ = some (.string b1) ∧ W.cell? ⟨gb, 0, none⟩ = some (.int .i64 s2) ∧ W.cell? ⟨gb, 1, none⟩ = some vb ∧ W.cell? ⟨gb, 2, none⟩ = some (.string b2) ∧ Flds.Arg W va l1 ∧ Flds.Arg W vb l2 ∧ Below w.heap.size w W
theorem storable2.step {w : World} {ga : Nat} {gb : Nat} {m1 u1 : ByteArray} {s2 : Int} {va : Value} {vb : Value} {l1 l2 : List Flds.Fld} {b1 b2 : ByteArray} {W W' : World} (h : storable2 w ga gb m1 u1 s2 va vb l1 l2 b1 b2 W) (hb : Below W.heap.size W W') : storable2 w ga gb m1 u1 s2 va vb l1 l2 b1 b2 W' := by
  obtain ⟨h0, h1, h2, h3, h4, h5, h6, h7, h8, h9⟩ := h
  have q0 : ga < W.heap.size := Recs.lt_of_cell h0
  have q1 : gb < W.heap.size := Recs.lt_of_cell h4
  exact ⟨(hb.cell (p := ⟨ga, 0, none⟩) q0).trans h0, (hb.cell (p := ⟨ga, 1, none⟩) q0).trans h1, (hb.cell (p := ⟨ga, 2, none⟩) q0).trans h2, (hb.cell (p := ⟨ga, 3, none⟩) q0).trans h3, (hb.cell (p := ⟨gb, 0, none⟩) q1).trans h4, (hb.cell (p := ⟨gb, 1, none⟩) q1).trans h5, (hb.cell (p := ⟨gb, 2, none⟩) q1).trans h6, Flds.arg_stay h7 (Nat.le_refl _) hb, Flds.arg_stay h8 (Nat.le_refl _) hb, h9.trans (hb.mono h9.size)⟩
abbrev storable4 (w : World) (ga : Nat) (gb : Nat) (gx : Nat) (gy : Nat) (m1 u1 : ByteArray) (s2 : Int) (va : Value) (vb : Value) (vx : Value) (vy : Value) (l1 l2 : List Flds.Fld) (b1 b2 : ByteArray) (W : World) : Prop :=
  W.cell? ⟨ga, 0, none⟩ = some (.string m1) ∧ W.cell? ⟨ga, 1, none⟩ = some (.string u1) ∧ W.cell? ⟨ga, 2, none⟩ = some va ∧ W.cell? ⟨ga, 3, none⟩ = some (.string b1) ∧ W.cell? ⟨gb, 0, none⟩ = some (.int .i64 s2) ∧ W.cell? ⟨gb, 1, none⟩ = some vb ∧ W.cell? ⟨gb, 2, none⟩ = some (.string b2) ∧ W.cell? ⟨gx, 0, none⟩ = some (.string m1) ∧ W.cell? ⟨gx, 1, none⟩ = some (.string u1) ∧ W.cell? ⟨gx, 2, none⟩ = some vx ∧ W.cell? ⟨gx, 3, none⟩ = some (.string b1) ∧ W.cell? ⟨gy, 0, none⟩ = some (.int .i64 s2) ∧ W.cell? ⟨gy, 1, none⟩ = some vy ∧ W.cell? ⟨gy, 2, none⟩ = some (.string b2) ∧ Flds.Arg W va l1 ∧ Flds.Arg W vb l2 ∧ Flds.Is W vx l1 ∧ Flds.Is W vy l2 ∧ Below w.heap.size w W
theorem storable4.step {w : World} {ga : Nat} {gb : Nat} {gx : Nat} {gy : Nat} {m1 u1 : ByteArray} {s2 : Int} {va : Value} {vb : Value} {vx : Value} {vy : Value} {l1 l2 : List Flds.Fld} {b1 b2 : ByteArray} {W W' : World} (h : storable4 w ga gb gx gy m1 u1 s2 va vb vx vy l1 l2 b1 b2 W) (hb : Below W.heap.size W W') : storable4 w ga gb gx gy m1 u1 s2 va vb vx vy l1 l2 b1 b2 W' := by
  obtain ⟨h0, h1, h2, h3, h4, h5, h6, h7, h8, h9, h10, h11, h12, h13, h14, h15, h16, h17, h18⟩ := h
  have q0 : ga < W.heap.size := Recs.lt_of_cell h0
  have q1 : gb < W.heap.size := Recs.lt_of_cell h4
  have q2 : gx < W.heap.size := Recs.lt_of_cell h7
  have q3 : gy < W.heap.size := Recs.lt_of_cell h11
  exact ⟨(hb.cell (p := ⟨ga, 0, none⟩) q0).trans h0, (hb.cell (p := ⟨ga, 1, none⟩) q0).trans h1, (hb.cell (p := ⟨ga, 2, none⟩) q0).trans h2, (hb.cell (p := ⟨ga, 3, none⟩) q0).trans h3, (hb.cell (p := ⟨gb, 0, none⟩) q1).trans h4, (hb.cell (p := ⟨gb, 1, none⟩) q1).trans h5, (hb.cell (p := ⟨gb, 2, none⟩) q1).trans h6, (hb.cell (p := ⟨gx, 0, none⟩) q2).trans h7, (hb.cell (p := ⟨gx, 1, none⟩) q2).trans h8, (hb.cell (p := ⟨gx, 2, none⟩) q2).trans h9, (hb.cell (p := ⟨gx, 3, none⟩) q2).trans h10, (hb.cell (p := ⟨gy, 0, none⟩) q3).trans h11, (hb.cell (p := ⟨gy, 1, none⟩) q3).trans h12, (hb.cell (p := ⟨gy, 2, none⟩) q3).trans h13, Flds.arg_stay h14 (Nat.le_refl _) hb, Flds.arg_stay h15 (Nat.le_refl _) hb, Recs.is_below h16 hb, Recs.is_below h17 hb, h18.trans (hb.mono h18.size)⟩
set_option maxRecDepth 100000 in
set_option maxHeartbeats 8000000 in
theorem storable_law (G : World → Prop) (hG : ∀ W W', G W → Below W.heap.size W W' → G W')
    (hi : ∀ (m1 u1 : ByteArray) (s2 : Int) (v1 v2 : Value) (l1 l2 : List Flds.Fld) (b1 b2 : ByteArray) W, Flds.Is W v1 l1 → Flds.Is W v2 l2 → m1.size + u1.size + Flds.bulk l1 + b1.size ≤ 1048576 → Flds.bulk l2 + b2.size ≤ 1048576 → G W → Calls Tryz.prog 8 #[Req.val m1 u1 v1 b1, Resp.val s2 v2 b2] W fun e w' => e = .returned (.bool (storable m1 l1 s2 l2 b2)) ∧ Below W.heap.size W w')
    (m1 u1 : ByteArray) (s2 : Int) (a1 a2 : Value) (l1 l2 : List Flds.Fld) (b1 b2 : ByteArray) (w : World) (ha1 : Flds.Arg w a1 l1) (ha2 : Flds.Arg w a2 l2) (hm1 : m1.size ≤ maxLen) (hu1 : u1.size ≤ maxLen) (hb1 : b1.size ≤ maxLen) (hb2 : b2.size ≤ maxLen) (hg : G w) :
    Calls Tryz.prog 4 #[Req.val m1 u1 a1 b1, Resp.val s2 a2 b2] w fun e w' => e = .returned (.bool true) ∧ Below w.heap.size w w' := by
  have HZ1 := Num.hide (fun W h => Req.sz_any m1 u1 a1 l1 b1 1048576 W h hm1 hu1 hb1 (by omega) (by omega))
  have H1 := Num.hide ha1
  have H2 := Num.hide ha2
  obtain ⟨aa, ca, rfl, _⟩ := Flds.is_form ha1.1
  obtain ⟨ab, cb, rfl, _⟩ := Flds.is_form ha2.1
  have hb0 : Below w.heap.size w ((w.alloc (.cells #[.string m1, .string u1, (.slice aa l1.length ca), .string b1] 40)).alloc (.cells #[.int .i64 s2, (.slice ab l2.length cb), .string b2] 42)) := ((Below.refl _ w).alloc (Nat.le_refl _) _).alloc (by simp) _
  have e0 : (w.alloc (.cells #[.string m1, .string u1, (.slice aa l1.length ca), .string b1] 40)).heap.size = w.heap.size + 1 := by rw [World.size_alloc]
  have x0 : ((w.alloc (.cells #[.string m1, .string u1, (.slice aa l1.length ca), .string b1] 40)).alloc (.cells #[.int .i64 s2, (.slice ab l2.length cb), .string b2] 42)).heap[w.heap.size]? = some (.cells #[.string m1, .string u1, (.slice aa l1.length ca), .string b1] 40) := (heap_alloc_old _ _ (by omega)).trans (heap_alloc_new w _)
  have y0 : ((w.alloc (.cells #[.string m1, .string u1, (.slice aa l1.length ca), .string b1] 40)).alloc (.cells #[.int .i64 s2, (.slice ab l2.length cb), .string b2] 42)).heap[w.heap.size + 1]? = some (.cells #[.int .i64 s2, (.slice ab l2.length cb), .string b2] 42) := by
    have := heap_alloc_new (w.alloc (.cells #[.string m1, .string u1, (.slice aa l1.length ca), .string b1] 40)) (.cells #[.int .i64 s2, (.slice ab l2.length cb), .string b2] 42)
    rw [e0] at this
    exact this
  have K0 : Hid (storable2 w w.heap.size (w.heap.size + 1) m1 u1 s2 (.slice aa l1.length ca) (.slice ab l2.length cb) l1 l2 b1 b2 ((w.alloc (.cells #[.string m1, .string u1, (.slice aa l1.length ca), .string b1] 40)).alloc (.cells #[.int .i64 s2, (.slice ab l2.length cb), .string b2] 42))) := ⟨Recs.box_cell x0 0, Recs.box_cell x0 1, Recs.box_cell x0 2, Recs.box_cell x0 3, Recs.box_cell y0 0, Recs.box_cell y0 1, Recs.box_cell y0 2, Flds.arg_stay H1.out (Nat.le_refl _) hb0, Flds.arg_stay H2.out (Nat.le_refl _) hb0, hb0⟩
  clear ha1 ha2 hb0 x0 y0 e0
  unfold Req.val at HZ1
  unfold Req.val Resp.val
  by_cases hbk1 : ¬ (Req.bulk m1 u1 l1 b1 : Int) ≤ 1048576
  · rw [Flds.left_no hbk1] at HZ1
    clear hi hG hg
    go_enter Tryz.func4, Tryz.ntmps4
    go_wp2_with fail
    refine (HZ1.out _ K0.out.2.2.2.2.2.2.2.1).mono ?_
    rintro e W1 ⟨rfl, hb⟩
    have K1 := Num.hide (storable2.step K0.out hb)
    clear hb K0
    go_wp2
    go_ret
    exact ⟨rfl, K1.out.2.2.2.2.2.2.2.2.2⟩
  have hbb1 := Decidable.not_not.1 hbk1
  rw [Flds.left_yes hbb1] at HZ1
  have HZ2 := Num.hide (fun W h => Resp.sz_any s2 (.slice ab l2.length cb) l2 b2 (1048576 - (Req.bulk m1 u1 l1 b1 : Int)) W h hb2 (by omega) (by omega))
  unfold Resp.val at HZ2
  have dz1 : decide ((1048576 : Int) - (Req.bulk m1 u1 l1 b1 : Int) < 0) = false := by simp; omega
  by_cases hbk2 : ¬ (Resp.bulk l2 b2 : Int) ≤ 1048576 - (Req.bulk m1 u1 l1 b1 : Int)
  · rw [Flds.left_no hbk2] at HZ2
    clear hi hG hg
    go_enter Tryz.func4, Tryz.ntmps4
    go_wp2_with fail
    refine (HZ1.out _ K0.out.2.2.2.2.2.2.2.1).mono ?_
    rintro e W1 ⟨rfl, hb⟩
    have K1 := Num.hide (storable2.step K0.out hb)
    clear hb K0
    obtain ⟨k0, k1, k2, k3, k4, k5, k6, _⟩ := K1.out
    go_wp2_with fail
    refine (HZ2.out _ K1.out.2.2.2.2.2.2.2.2.1).mono ?_
    rintro e W2 ⟨rfl, hb⟩
    have K2 := Num.hide (storable2.step K1.out hb)
    clear hb K1
    go_wp2
    go_ret
    exact ⟨rfl, K2.out.2.2.2.2.2.2.2.2.2⟩
  · have hbb2 := Decidable.not_not.1 hbk2
    rw [Flds.left_yes hbb2] at HZ2
    have dz2 : decide ((1048576 : Int) - (Req.bulk m1 u1 l1 b1 : Int) - (Resp.bulk l2 b2 : Int) < 0) = false := by simp; omega
    have hc1 : m1.size + u1.size + Flds.bulk l1 + b1.size ≤ 1048576 := by unfold Req.bulk at hbb1; omega
    have hc2 : Flds.bulk l2 + b2.size ≤ 1048576 := by unfold Req.bulk at hbb1 hbb2; unfold Resp.bulk at hbb2; omega
    have hlen1 : l1.length ≤ 1048576 := by have := Flds.len_le l1; omega
    have hlen2 : l2.length ≤ 1048576 := by have := Flds.len_le l2; omega
    have HTa := Num.hide (fun W h => Req.to_any m1 u1 (.slice aa l1.length ca) l1 b1 W h hlen1)
    have HTb := Num.hide (fun W h => Resp.to_any s2 (.slice ab l2.length cb) l2 b2 W h hlen2)
    have HS := Num.hide (fun v1 v2 W h1 h2 => storable_spec m1 u1 s2 v1 v2 l1 l2 b1 b2 W h1 h2 (by omega) (by omega))
    have HI := Num.hide (fun v1 v2 W h1 h2 (hb : Below w.heap.size w W) => hi m1 u1 s2 v1 v2 l1 l2 b1 b2 W h1 h2 hc1 hc2 (hG w W hg hb))
    have HE1 := Num.hide (fun v1 v2 W h1 h2 => Req.eq_any m1 m1 u1 u1 v1 v2 l1 l1 b1 b1 W h1 h2 (by omega))
    have HE2 := Num.hide (fun v1 v2 W h1 h2 => Resp.eq_any s2 s2 v1 v2 l2 l2 b2 b2 W h1 h2 (by omega))
    rw [decide_eq_true ⟨rfl, rfl, rfl, rfl⟩] at HE1
    rw [decide_eq_true ⟨rfl, rfl, rfl⟩] at HE2
    unfold Req.val at HTa HE1
    unfold Resp.val at HTb HE2
    unfold Req.val Resp.val at HS HI
    generalize storable m1 l1 s2 l2 b2 = r at HS HI
    generalize Req.bulk m1 u1 l1 b1 = n1 at HZ1 HZ2 dz1 dz2 hbb1 hbb2
    generalize Resp.bulk l2 b2 = n2 at HZ2 dz2 hbb2
    clear hi hG hg hbk1 hbk2
    go_enter Tryz.func4, Tryz.ntmps4
    go_wp2_with fail
    refine (HZ1.out _ K0.out.2.2.2.2.2.2.2.1).mono ?_
    rintro e W1 ⟨rfl, hb⟩
    have K1 := Num.hide (storable2.step K0.out hb)
    clear hb K0 HZ1
    obtain ⟨k0, k1, k2, k3, k4, k5, k6, _⟩ := K1.out
    go_wp2_with fail
    refine (HZ2.out _ K1.out.2.2.2.2.2.2.2.2.1).mono ?_
    rintro e W2 ⟨rfl, hb⟩
    have K2 := Num.hide (storable2.step K1.out hb)
    clear hb K1 HZ2 k0 k1 k2 k3 k4 k5 k6
    go_wp2_with fail
    refine wp_region_held_drew (S := storable2 w w.heap.size (w.heap.size + 1) m1 u1 s2 (.slice aa l1.length ca) (.slice ab l2.length cb) l1 l2 b1 b2) (by kernel_rfl) (storable2.step K2.out (Below.refl _ _).drew) (fun hHeld => ?_)
    refine Reg.take (i := 0) (d := 20) (v := ?_) rfl rfl (by kernel_rfl) (by kernel_rfl) (by kernel_rfl) (fun _ _ _ h => h) (by rfl) ?_ hHeld ?_
    rotate_left
    · rintro W ⟨k0, k1, k2, k3, k4, k5, k6, k7, k8, k9⟩
      first | (go_simp; done) | (go_simp; with_reducible rfl)
    simp only [Act.put, List.setIfInBounds_toArray, List.set_cons_zero, List.set_cons_succ]
    refine Reg.take (i := 2) (d := 22) (v := ?_) rfl rfl (by kernel_rfl) (by kernel_rfl) (by kernel_rfl) (fun _ _ _ h => h) (by rfl) ?_ hHeld ?_
    rotate_left
    · rintro W ⟨k0, k1, k2, k3, k4, k5, k6, k7, k8, k9⟩
      first | (go_simp; done) | (go_simp; with_reducible rfl)
    simp only [Act.put, List.setIfInBounds_toArray, List.set_cons_zero, List.set_cons_succ]
    refine Reg.call (i := 1) rfl (by kernel_rfl) (by rfl) (fun K hK => ?_)
    go_wp2_with (first | (go_at_call 16; refine (HTa.out _ hHeld.2.2.2.2.2.2.2.1.1).mono ?_; rintro e Wa ⟨va1, rfl, ho, hb⟩))
    obtain ⟨ava1, cva1, hvva1⟩ := Recs.own_len ho
    subst hvva1
    have Iva1 := Num.hide (Recs.own_is Flds.cells_len ho)
    have HBva1 := Num.hide hb
    clear ho hb
    refine hK.out _ _ ?_ (fun hHeld2 => ?_)
    · exact storable2.step hHeld HBva1.out
    clear hK K
    replace hHeld := hHeld2
    clear hHeld2
    refine Reg.call (i := 3) rfl (by kernel_rfl) (by rfl) (fun K hK => ?_)
    go_wp2_with (first | (go_at_call 17; refine (HTb.out _ hHeld.2.2.2.2.2.2.2.2.1.1).mono ?_; rintro e Wb ⟨vb1, rfl, ho, hb⟩))
    obtain ⟨avb1, cvb1, hvvb1⟩ := Recs.own_len ho
    subst hvvb1
    have Ivb1 := Num.hide (Recs.own_is Flds.cells_len ho)
    have HBvb1 := Num.hide hb
    clear ho hb
    have Iva2 := Num.hide (Recs.is_below Iva1.out HBvb1.out)
    refine hK.out _ _ ?_ (fun hHeld2 => ?_)
    · exact storable2.step hHeld HBvb1.out
    clear hK K
    replace hHeld := hHeld2
    clear hHeld2
    refine Reg.call (i := 4) rfl (by kernel_rfl) (by rfl) (fun K hK => ?_)
    go_wp2_with (first | (go_at_call 15; refine (HS.out _ _ _ Iva2.out Ivb1.out).mono ?_; rintro e Wc ⟨rfl, hb⟩))
    have HBc := Num.hide hb
    clear hb
    refine hK.out _ _ ?_ (fun hHeld2 => ?_)
    · exact storable2.step hHeld HBc.out
    clear hK K
    replace hHeld := hHeld2
    clear hHeld2
    refine Reg.take (i := 5) (d := 6) (v := ?_) rfl rfl (by kernel_rfl) (by kernel_rfl) (by kernel_rfl) (fun _ _ _ h => h) (by rfl) ?_ hHeld ?_
    rotate_left
    · rintro W ⟨k0, k1, k2, k3, k4, k5, k6, k7, k8, k9⟩
      first | (go_simp; done) | (go_simp; with_reducible rfl)
    simp only [Act.put, List.setIfInBounds_toArray, List.set_cons_zero, List.set_cons_succ]
    refine wpAnyH_done (by kernel_rfl) ?_ _
    have K3 := Num.hide hHeld
    clear hHeld K2 HS Iva1 Iva2 Ivb1 HBva1 HBvb1 HBc
    obtain ⟨k0, k1, k2, k3, k4, k5, k6, _⟩ := K3.out
    go_wp2_with fail
    refine (HTa.out _ K3.out.2.2.2.2.2.2.2.1.1).mono ?_
    rintro e W4 ⟨v4, rfl, ho, hb⟩
    obtain ⟨ax, cx, hv4⟩ := Recs.own_len ho
    subst hv4
    have hal := (Below.refl W4.heap.size W4).alloc (Nat.le_refl _) (.cells #[.string m1, .string u1, (.slice ax l1.length cx), .string b1] 26)
    have K4 := Num.hide (storable2.step (storable2.step K3.out hb) hal)
    have Ix4 := Num.hide (Recs.is_below (Recs.own_is Flds.cells_len ho) hal)
    have X4 := Num.hide (heap_alloc_new W4 (.cells #[.string m1, .string u1, (.slice ax l1.length cx), .string b1] 26))
    clear ho hb hal K3 k0 k1 k2 k3 k4 k5 k6
    go_upto_region 10 with fail
    generalize W4.alloc (.cells #[.string m1, .string u1, (.slice ax l1.length cx), .string b1] 26) = V4 at K4 Ix4 X4 ⊢
    generalize W4.heap.size = g3 at X4 ⊢
    obtain ⟨k0, k1, k2, k3, k4, k5, k6, _⟩ := K4.out
    go_wp2_with fail
    refine (HTb.out _ K4.out.2.2.2.2.2.2.2.2.1.1).mono ?_
    rintro e W5 ⟨v5, rfl, ho, hb⟩
    obtain ⟨ay, cy, hv5⟩ := Recs.own_len ho
    subst hv5
    have hal := (Below.refl W5.heap.size W5).alloc (Nat.le_refl _) (.cells #[.int .i64 s2, (.slice ay l2.length cy), .string b2] 28)
    have K5 := Num.hide (storable2.step (storable2.step K4.out hb) hal)
    have Ix5 := Num.hide (Recs.is_below (Recs.is_below Ix4.out hb) hal)
    have Iy5 := Num.hide (Recs.is_below (Recs.own_is Flds.cells_len ho) hal)
    have hlt := (Array.getElem?_eq_some_iff.1 X4.out).1
    have X5 := Num.hide ((hal.block g3 (Nat.lt_of_lt_of_le hlt hb.size)).trans ((hb.block g3 hlt).trans X4.out))
    have Y5 := Num.hide (heap_alloc_new W5 (.cells #[.int .i64 s2, (.slice ay l2.length cy), .string b2] 28))
    clear ho hb hal hlt K4 Ix4 X4 k0 k1 k2 k3 k4 k5 k6
    go_upto_region 11 with fail
    generalize W5.alloc (.cells #[.int .i64 s2, (.slice ay l2.length cy), .string b2] 28) = V5 at K5 Ix5 Iy5 X5 Y5 ⊢
    generalize W5.heap.size = g4 at Y5 ⊢
    have K6 : Hid (storable4 w w.heap.size (w.heap.size + 1) g3 g4 m1 u1 s2 (.slice aa l1.length ca) (.slice ab l2.length cb) (.slice ax l1.length cx) (.slice ay l2.length cy) l1 l2 b1 b2 V5) := by
      obtain ⟨k0, k1, k2, k3, k4, k5, k6, k7, k8, k9⟩ := K5.out
      exact ⟨k0, k1, k2, k3, k4, k5, k6, Recs.box_cell X5.out 0, Recs.box_cell X5.out 1, Recs.box_cell X5.out 2, Recs.box_cell X5.out 3, Recs.box_cell Y5.out 0, Recs.box_cell Y5.out 1, Recs.box_cell Y5.out 2, k7, k8, Ix5.out, Iy5.out, k9⟩
    clear K5 X5 Y5
    obtain ⟨_, _, _, _, _, _, _, k0, k1, k2, k3, k4, k5, k6, _⟩ := K6.out
    go_wp2_with fail
    refine (HI.out _ _ _ Ix5.out Iy5.out K6.out.2.2.2.2.2.2.2.2.2.2.2.2.2.2.2.2.2.2).mono ?_
    rintro e W6 ⟨rfl, hb⟩
    have K7 := Num.hide (storable4.step K6.out hb)
    clear hb K6 Ix5 Iy5 HI k0 k1 k2 k3 k4 k5 k6
    go_wp2_with fail
    refine wp_region_held_drew (S := storable4 w w.heap.size (w.heap.size + 1) g3 g4 m1 u1 s2 (.slice aa l1.length ca) (.slice ab l2.length cb) (.slice ax l1.length cx) (.slice ay l2.length cy) l1 l2 b1 b2) (by kernel_rfl) (storable4.step K7.out (Below.refl _ _).drew) (fun hHeld => ?_)
    refine Reg.take (i := 0) (d := 35) (v := ?_) rfl rfl (by kernel_rfl) (by kernel_rfl) (by kernel_rfl) (fun _ _ _ h => h) (by rfl) ?_ hHeld ?_
    rotate_left
    · rintro W ⟨k0, k1, k2, k3, k4, k5, k6, k7, k8, k9, k10, k11, k12, k13, k14, k15, k16, k17, k18⟩
      first | (go_simp; done) | (go_simp; with_reducible rfl)
    simp only [Act.put, List.setIfInBounds_toArray, List.set_cons_zero, List.set_cons_succ]
    refine Reg.take (i := 1) (d := 36) (v := ?_) rfl rfl (by kernel_rfl) (by kernel_rfl) (by kernel_rfl) (fun _ _ _ h => h) (by rfl) ?_ hHeld ?_
    rotate_left
    · rintro W ⟨k0, k1, k2, k3, k4, k5, k6, k7, k8, k9, k10, k11, k12, k13, k14, k15, k16, k17, k18⟩
      first | (go_simp; done) | (go_simp; with_reducible rfl)
    simp only [Act.put, List.setIfInBounds_toArray, List.set_cons_zero, List.set_cons_succ]
    refine Reg.call (i := 2) rfl (by kernel_rfl) (by rfl) (fun K hK => ?_)
    go_wp2_with (first | (go_at_call 16; refine (HTa.out _ hHeld.2.2.2.2.2.2.2.2.2.2.2.2.2.2.1.1).mono ?_; rintro e Wp ⟨vp, rfl, ho, hb⟩))
    obtain ⟨avp, cvp, hvvp⟩ := Recs.own_len ho
    subst hvvp
    have Ivp := Num.hide (Recs.own_is Flds.cells_len ho)
    have HBvp := Num.hide hb
    clear ho hb
    refine hK.out _ _ ?_ (fun hHeld2 => ?_)
    · exact storable4.step hHeld HBvp.out
    clear hK K
    replace hHeld := hHeld2
    clear hHeld2
    refine Reg.call (i := 3) rfl (by kernel_rfl) (by rfl) (fun K hK => ?_)
    go_wp2_with (first | (go_at_call 18; refine (HE1.out _ _ _ hHeld.2.2.2.2.2.2.2.2.2.2.2.2.2.2.2.2.1 Ivp.out).mono ?_; rintro e Wp2 ⟨rfl, hb⟩))
    have HBp2 := Num.hide hb
    clear hb
    refine hK.out _ _ ?_ (fun hHeld2 => ?_)
    · exact storable4.step hHeld HBp2.out
    clear hK K
    replace hHeld := hHeld2
    clear hHeld2
    refine Reg.take (i := 4) (d := 39) (v := ?_) rfl rfl (by kernel_rfl) (by kernel_rfl) (by kernel_rfl) (fun _ _ _ h => h) (by rfl) ?_ hHeld ?_
    rotate_left
    · rintro W ⟨k0, k1, k2, k3, k4, k5, k6, k7, k8, k9, k10, k11, k12, k13, k14, k15, k16, k17, k18⟩
      first | (go_simp; done) | (go_simp; with_reducible rfl)
    simp only [Act.put, List.setIfInBounds_toArray, List.set_cons_zero, List.set_cons_succ]
    refine wpAnyH_done (by kernel_rfl) ?_ _
    have K8 := Num.hide hHeld
    clear hHeld K7
    go_wp2_with fail
    refine wp_region_held_drew (S := storable4 w w.heap.size (w.heap.size + 1) g3 g4 m1 u1 s2 (.slice aa l1.length ca) (.slice ab l2.length cb) (.slice ax l1.length cx) (.slice ay l2.length cy) l1 l2 b1 b2) (by kernel_rfl) (storable4.step K8.out (Below.refl _ _).drew) (fun hHeld => ?_)
    refine Reg.take (i := 0) (d := 40) (v := ?_) rfl rfl (by kernel_rfl) (by kernel_rfl) (by kernel_rfl) (fun _ _ _ h => h) (by rfl) ?_ hHeld ?_
    rotate_left
    · rintro W ⟨k0, k1, k2, k3, k4, k5, k6, k7, k8, k9, k10, k11, k12, k13, k14, k15, k16, k17, k18⟩
      first | (go_simp; done) | (go_simp; with_reducible rfl)
    simp only [Act.put, List.setIfInBounds_toArray, List.set_cons_zero, List.set_cons_succ]
    refine Reg.take (i := 1) (d := 41) (v := ?_) rfl rfl (by kernel_rfl) (by kernel_rfl) (by kernel_rfl) (fun _ _ _ h => h) (by rfl) ?_ hHeld ?_
    rotate_left
    · rintro W ⟨k0, k1, k2, k3, k4, k5, k6, k7, k8, k9, k10, k11, k12, k13, k14, k15, k16, k17, k18⟩
      first | (go_simp; done) | (go_simp; with_reducible rfl)
    simp only [Act.put, List.setIfInBounds_toArray, List.set_cons_zero, List.set_cons_succ]
    refine Reg.call (i := 2) rfl (by kernel_rfl) (by rfl) (fun K hK => ?_)
    go_wp2_with (first | (go_at_call 17; refine (HTb.out _ hHeld.2.2.2.2.2.2.2.2.2.2.2.2.2.2.2.1.1).mono ?_; rintro e Wq ⟨vq, rfl, ho, hb⟩))
    obtain ⟨avq, cvq, hvvq⟩ := Recs.own_len ho
    subst hvvq
    have Ivq := Num.hide (Recs.own_is Flds.cells_len ho)
    have HBvq := Num.hide hb
    clear ho hb
    refine hK.out _ _ ?_ (fun hHeld2 => ?_)
    · exact storable4.step hHeld HBvq.out
    clear hK K
    replace hHeld := hHeld2
    clear hHeld2
    refine Reg.call (i := 3) rfl (by kernel_rfl) (by rfl) (fun K hK => ?_)
    go_wp2_with (first | (go_at_call 19; refine (HE2.out _ _ _ hHeld.2.2.2.2.2.2.2.2.2.2.2.2.2.2.2.2.2.1 Ivq.out).mono ?_; rintro e Wq2 ⟨rfl, hb⟩))
    have HBq2 := Num.hide hb
    clear hb
    refine hK.out _ _ ?_ (fun hHeld2 => ?_)
    · exact storable4.step hHeld HBq2.out
    clear hK K
    replace hHeld := hHeld2
    clear hHeld2
    refine Reg.take (i := 4) (d := 44) (v := ?_) rfl rfl (by kernel_rfl) (by kernel_rfl) (by kernel_rfl) (fun _ _ _ h => h) (by rfl) ?_ hHeld ?_
    rotate_left
    · rintro W ⟨k0, k1, k2, k3, k4, k5, k6, k7, k8, k9, k10, k11, k12, k13, k14, k15, k16, k17, k18⟩
      first | (go_simp; done) | (go_simp; with_reducible rfl)
    simp only [Act.put, List.setIfInBounds_toArray, List.set_cons_zero, List.set_cons_succ]
    refine wpAnyH_done (by kernel_rfl) ?_ _
    have K9 := Num.hide hHeld.2.2.2.2.2.2.2.2.2.2.2.2.2.2.2.2.2.2
    clear hHeld K8
    go_wp2
    go_ret
    exact ⟨rfl, K9.out⟩
end Pol
end Go.Proofs.YtjeokackmkfooaaGreatDoor
namespace Go.Proofs.YtjeokackmkfooaaGreatDoor
open Go.Shelf
def Shelf.lays145_ren : Go.Shelf.Ren := ⟨fun | 145 => 150 | 220 => 161 | 219 => 173 | 217 => 186 | 225 => 187 | 224 => 188 | 267 => 189 | 266 => 195 | 314 => 196 | n => n, fun | 9 => 9 | 4 => 4 | 59 => 146 | 3 => 3 | 5 => 5 | 46 => 109 | 146 => 174 | 51 => 173 | n => n, fun | 1 => 1 | n => n⟩
theorem Shelf.lays145 : Go.Proofs.Lays.n145 Tryz.prog Shelf.lays145_ren := {
  mixed := by kernel_rfl
  f145 := Tryz.func150.trans (congrArg some (by kernel_rfl))
  f217 := Tryz.func186.trans (congrArg some (by kernel_rfl))
  f219 := Tryz.func173.trans (congrArg some (by kernel_rfl))
  f220 := Tryz.func161.trans (congrArg some (by kernel_rfl))
  f224 := Tryz.func188.trans (congrArg some (by kernel_rfl))
  f225 := Tryz.func187.trans (congrArg some (by kernel_rfl))
  f266 := Tryz.func195.trans (congrArg some (by kernel_rfl))
  f267 := Tryz.func189.trans (congrArg some (by kernel_rfl))
  f314 := Tryz.func196.trans (congrArg some (by kernel_rfl))
  t3 := Tryz.underlying3
  a3 := Tryz.isAgg3
  z3 := Tryz.sizeOf3
  v3 := Tryz.zeroValue3
  t4 := Tryz.underlying4
  a4 := Tryz.isAgg4
  z4 := Tryz.sizeOf4
  v4 := Tryz.zeroValue4
  t5 := Tryz.underlying5
  a5 := Tryz.isAgg5
  z5 := Tryz.sizeOf5
  v5 := Tryz.zeroValue5
  t9 := Tryz.underlying9
  a9 := Tryz.isAgg9
  z9 := Tryz.sizeOf9
  v9 := Tryz.zeroValue9
  t46 := Tryz.underlying109
  a46 := Tryz.isAgg109
  z46 := Tryz.sizeOf109
  v46 := Tryz.zeroValue109
  t51 := Tryz.underlying173
  a51 := Tryz.isAgg173
  z51 := Tryz.sizeOf173
  v51 := Tryz.zeroValue173
  t59 := Tryz.underlying146
  a59 := Tryz.isAgg146
  z59 := Tryz.sizeOf146
  v59 := Tryz.zeroValue146
  t146 := Tryz.underlying174
  a146 := Tryz.isAgg174
  z146 := Tryz.sizeOf174
  v146 := Tryz.zeroValue174
  g1 := by kernel_rfl }
open Go.RowKit Go.Lib in
theorem Shelf.strings_Cut (s sep : ByteArray) (m : Int) (w : World) (hs : s.size < 4294967281) (hm : w.cell? ⟨1, 0, none⟩ = some (.int .i64 m)) :
    Calls Tryz.prog 150 #[.string s, .string sep] w fun e w' => e = .returned (.tuple #[.string ⟨(Lib.cut s.data.toList sep.data.toList).1.toArray⟩, .string ⟨(Lib.cut s.data.toList sep.data.toList).2.1.toArray⟩, .bool (Lib.cut s.data.toList sep.data.toList).2.2]) ∧ ∃ n, w' = w.drewN n := Any.strings_Cut Shelf.lays145 s sep m w hs hm
def Shelf.laysM145_ren : Go.Shelf.Ren := ⟨fun | 145 => 150 | 220 => 161 | 219 => 173 | 217 => 186 | 225 => 187 | 224 => 188 | 267 => 189 | 266 => 195 | 314 => 196 | n => n, fun | 9 => 9 | 4 => 4 | 59 => 146 | 3 => 3 | 5 => 5 | 46 => 109 | 146 => 174 | 51 => 173 | n => n, fun | 1 => 1 | n => n⟩
theorem Shelf.laysM145 : Go.Proofs.LaysM.n145 Tryz.prog Shelf.laysM145_ren := {
  mixed := by kernel_rfl
  f145 := Tryz.func150.trans (congrArg some (by kernel_rfl))
  f217 := Tryz.func186.trans (congrArg some (by kernel_rfl))
  f219 := Tryz.func173.trans (congrArg some (by kernel_rfl))
  f220 := Tryz.func161.trans (congrArg some (by kernel_rfl))
  f224 := Tryz.func188.trans (congrArg some (by kernel_rfl))
  f225 := Tryz.func187.trans (congrArg some (by kernel_rfl))
  f266 := Tryz.func195.trans (congrArg some (by kernel_rfl))
  f267 := Tryz.func189.trans (congrArg some (by kernel_rfl))
  f314 := Tryz.func196.trans (congrArg some (by kernel_rfl))
  t3 := Tryz.underlying3
  a3 := Tryz.isAgg3
  z3 := Tryz.sizeOf3
  v3 := Tryz.zeroValue3
  t4 := Tryz.underlying4
  a4 := Tryz.isAgg4
  z4 := Tryz.sizeOf4
  v4 := Tryz.zeroValue4
  t5 := Tryz.underlying5
  a5 := Tryz.isAgg5
  z5 := Tryz.sizeOf5
  v5 := Tryz.zeroValue5
  t9 := Tryz.underlying9
  a9 := Tryz.isAgg9
  z9 := Tryz.sizeOf9
  v9 := Tryz.zeroValue9
  t46 := Tryz.underlying109
  a46 := Tryz.isAgg109
  z46 := Tryz.sizeOf109
  v46 := Tryz.zeroValue109
  t51 := Tryz.underlying173
  a51 := Tryz.isAgg173
  z51 := Tryz.sizeOf173
  v51 := Tryz.zeroValue173
  t59 := Tryz.underlying146
  a59 := Tryz.isAgg146
  z59 := Tryz.sizeOf146
  v59 := Tryz.zeroValue146
  t146 := Tryz.underlying174
  a146 := Tryz.isAgg174
  z146 := Tryz.sizeOf174
  v146 := Tryz.zeroValue174
  g1 := by kernel_rfl
  i3 := by kernel_rfl
  i4 := by kernel_rfl
  i5 := by kernel_rfl
  i9 := by kernel_rfl
  i46 := by kernel_rfl
  i51 := by kernel_rfl
  i59 := by kernel_rfl
  i146 := by kernel_rfl
  m1 := by kernel_rfl
  s1_3 := fun w h => Go.Proofs.cell_of_shapedOpen_int (zero := #[.int .i64 0]) (t := 3) h (of_decide_eq_true (by kernel_rfl)) (by kernel_rfl) rfl (by kernel_rfl) (by kernel_rfl) Tryz.underlying3 }
open Go.RowKit Go.Lib in
theorem Shelf.strings_Cut_shaped (s sep : ByteArray) (w : World) (h : w.ShapedOpen Tryz.prog) (hs : s.size < 4294967281) :
    Calls Tryz.prog 150 #[.string s, .string sep] w fun e w' => e = .returned (.tuple #[.string ⟨(Lib.cut s.data.toList sep.data.toList).1.toArray⟩, .string ⟨(Lib.cut s.data.toList sep.data.toList).2.1.toArray⟩, .bool (Lib.cut s.data.toList sep.data.toList).2.2]) ∧ ∃ n, w' = w.drewN n := Any.strings_Cut_shaped Shelf.laysM145 s sep w h hs
end Go.Proofs.YtjeokackmkfooaaGreatDoor
namespace Go.Proofs.YtjeokackmkfooaaGreatDoor
open Go.RowKit
set_option linter.unusedVariables false
namespace Cc
open Line (byteAt byteAt_eq byteAt_list drop_end)

/-- the library's variable holds some number -/
def Lim (w : World) : Prop := ∃ m, w.cell? ⟨1, 0, none⟩ = some (.int .i64 m)
theorem lim_lt {w : World} (h : Lim w) : 1 < w.heap.size := by obtain ⟨m, hm⟩ := h; exact Recs.lt_of_cell hm
theorem lim_of {w : World} (h : w.ShapedOpen Tryz.prog) : Lim w := Shelf.laysM145.s1_3 w h
theorem lim_below {w w' : World} {B : Nat} (h : Lim w) (hb : Below B w w') (hB : 1 < B) : Lim w' := by
  obtain ⟨m, hm⟩ := h
  exact ⟨m, (hb.cell (p := ⟨1, 0, none⟩) hB).trans hm⟩
def eqI (r : Option Nat) (i : Nat) : Int := match r with | some k => (k : Int) - (i : Int) | none => -1
theorem index_eqGo (s : ByteArray) : ∀ (n i : Nat), n = s.size - i → Lib.index (s.data.toList.drop i) [61] = eqI (eqGo s n i) i := by
  intro n
  induction n with
  | zero => intro i h; rw [drop_end s i (by omega)]; rfl
  | succ n ih =>
    intro i h
    obtain ⟨b, e, hb⟩ := byteAt_list s i (by omega)
    have ih2 := ih (i + 1) (by omega)
    rw [e]
    unfold Lib.index eqGo
    rw [ih2]
    by_cases hc : byteAt s i = 61
    · rw [if_pos hc, if_pos]
      · show (0 : Int) = (i : Int) - (i : Int); omega
      · have h61 : b = 61 := by rw [← UInt8.toNat_inj, ← hb]; exact hc
        rw [h61]; rfl
    · rw [if_neg hc, if_neg]
      · cases hg : eqGo s n (i + 1) with
        | none => rfl
        | some k =>
          have := eqGo_in s _ _ _ hg
          show (if ((k : Int) - ((i + 1 : Nat) : Int) == -1) = true then (-1 : Int) else (k : Int) - ((i + 1 : Nat) : Int) + 1) = (k : Int) - (i : Int)
          rw [if_neg (by rw [beq_iff_eq]; omega)]; omega
      · intro hp
        apply hc
        simp only [List.isPrefixOf, Bool.and_eq_true, beq_iff_eq, and_true] at hp
        rw [hb, ← hp]; rfl
theorem index_eq (s : ByteArray) : Lib.indexB s ⟨#[61]⟩ = eqI (eqAt s) 0 := by
  show Lib.index s.data.toList [61] = _
  have := index_eqGo s s.size 0 rfl
  rw [List.drop_zero] at this
  exact this
theorem cut_eq (s : ByteArray) (w : World) (hs : s.size ≤ 1048576) (hm : Lim w) :
    Calls Tryz.prog 150 #[.string s, .string ⟨#[61]⟩] w fun e w' => ∃ b, e = .returned (.tuple #[.string (nameOf s), .string (behind s), .bool b]) ∧ ∃ n, w.drewN n = w' := by
  obtain ⟨m, hm⟩ := hm
  refine (Shelf.strings_Cut s ⟨#[61]⟩ m w (by omega) hm).mono ?_
  rintro e w' ⟨rfl, n, rfl⟩
  cases he : eqAt s with
  | none =>
    obtain ⟨e1, e2, e3⟩ := Lib.cutB_miss s ⟨#[61]⟩ (by rw [index_eq, he]; rfl)
    obtain ⟨n1, n2⟩ := name_none he
    exact ⟨_, by rw [e1, e2, e3, n1, n2]; rfl, n, rfl⟩
  | some k =>
    obtain ⟨e1, e2, e3⟩ := Lib.cutB_hit s ⟨#[61]⟩ k (by rw [index_eq, he]; show (k : Int) - ((0 : Nat) : Int) = (k : Int); omega)
    obtain ⟨n1, n2⟩ := name_some he
    exact ⟨_, by rw [e1, e2, e3, n1, n2]; rfl, n, rfl⟩
end Cc
end Go.Proofs.YtjeokackmkfooaaGreatDoor
namespace Go.Proofs.YtjeokackmkfooaaGreatDoor
open Go.RowKit
set_option linter.unusedVariables false
namespace Cc
open Line (byteAt byteAt_eq)

set_option maxRecDepth 100000 in
set_option maxHeartbeats 1000000 in
theorem unq_impl (s : ByteArray) (w : World) (hs : s.size ≤ maxLen) : Calls Tryz.prog 152 #[.string s] w fun e w' => e = .returned (.string (unq s)) ∧ w = w' := by
  unfold maxLen at hs
  obtain ⟨r, hr⟩ : ∃ r, unq s = r := ⟨_, rfl⟩
  rw [hr]
  by_cases h2 : 2 ≤ s.size
  · obtain ⟨n, hn⟩ : ∃ n, s.size = n + 1 := ⟨s.size - 1, by omega⟩
    have h0 : 0 < s.size := by omega
    have hnl : n < s.size := by omega
    have i0 : ((n : Int) + 1 - 1) = n := by omega
    have hn1 : (1 : Int) ≤ (n : Int) := by omega
    have hn2 : (n : Int) ≤ (n : Int) + 1 := by omega
    by_cases ha : (s[0]).toNat = 34
    · have da : (((s[0]).toNat : Int) != 34) = false := by rw [bne_eq_false_iff_eq]; omega
      by_cases hb : (s[n]).toNat = 34
      · have db : (((s[n]).toNat : Int) != 34) = false := by rw [bne_eq_false_iff_eq]; omega
        rw [unq_both hn h2 ha hb] at hr
        have HR := Num.hide hr
        have d2 : decide ((n : Int) + 1 < 2) = false := by simp; omega
        clear hr ha hb
        go_enter Tryz.func152, Tryz.ntmps152
        go_wp2
        all_goals go_ret
        all_goals exact ⟨by rw [← HR.out]; rfl, rfl⟩
      · have db : (((s[n]).toNat : Int) != 34) = true := by rw [bne_iff_ne]; omega
        rw [unq_back hn hb] at hr
        subst hr
        have d2 : decide ((n : Int) + 1 < 2) = false := by simp; omega
        clear ha hb
        go_enter Tryz.func152, Tryz.ntmps152
        go_wp2
        all_goals go_ret
        all_goals exact ⟨rfl, rfl⟩
    · have da : (((s[0]).toNat : Int) != 34) = true := by rw [bne_iff_ne]; omega
      rw [unq_front h0 ha] at hr
      subst hr
      have d2 : decide ((n : Int) + 1 < 2) = false := by simp; omega
      clear ha
      go_enter Tryz.func152, Tryz.ntmps152
      go_wp2
      all_goals go_ret
      all_goals exact ⟨rfl, rfl⟩
  · rw [unq_short (by omega)] at hr
    subst hr
    have d2 : decide ((s.size : Int) < 2) = true := by simp; omega
    go_enter Tryz.func152, Tryz.ntmps152
    go_wp2
    all_goals go_ret
    all_goals exact ⟨rfl, rfl⟩
end Cc
end Go.Proofs.YtjeokackmkfooaaGreatDoor
namespace Go.Proofs.YtjeokackmkfooaaGreatDoor
open Go.RowKit
set_option linter.unusedVariables false
namespace Sign

theorem u8_add (c : Int) (h0 : 65 ≤ c) (h1 : c ≤ 90) : IntKind.u8.wrap (c + 32) = c + 32 := by
  rw [IntKind.wrap_u8]; omega

set_option maxRecDepth 100000 in
set_option maxHeartbeats 1000000 in
theorem lower_impl (s : ByteArray) (w : World) (hs : s.size ≤ maxLen) : Calls Tryz.prog 151 #[.string s] w fun e w' => e = .returned (.string (lower s)) ∧ Below w.heap.size w w' := by
  unfold maxLen at hs
  have hconv := Lib.run_convert_string_bytes (P := Tryz.prog) w 9 22 5 s (u := .string) Tryz.underlying9 Tryz.underlying22 Tryz.underlying5
  have hP := Num.hide (bytes_part w 5 s)
  have hB := Num.hide (bytes_below w 5 s)
  generalize Lib.bytesWorld w 5 s = W0 at hconv hP hB
  generalize grownCap w s.size 0 5 = cap at hconv
  go_enter Tryz.func151, Tryz.ntmps151
  go_wp2
  clear hconv
  go_loopw [10] (fun i W => ∃ k : Nat, k ≤ s.size ∧ i = .int .i64 k ∧ Hid (Part w.heap.size s k W) ∧ Hid (Below w.heap.size w W)) (fun i _ => s.size - (intOf i).toNat)
  case atStart => exact ⟨0, by omega, rfl, hP, hB⟩
  case round =>
    clear hP hB
    obtain ⟨k, hk, rfl, hP, hB⟩ := hrel
    by_cases hlt : k < s.size
    · have hcell := hP.out.todo k hlt (Nat.le_refl _)
      have hfree := hP.out.free k hlt
      by_cases hu : up (s[k].toNat : Int)
      · have hut := Num.hide (decide_eq_true hu)
        have hP2 := Num.hide (part_up hP.out hlt hu)
        have hw := u8_add _ hu.1 hu.2
        clear hu
        go_wp2_with (go_at_call 162; refine (isUpper_any _ _).mono ?_; rintro e w' ⟨rfl, rfl⟩; rw [Num.unhide hut])
        go_roundw
        case rel => exact ⟨k + 1, by omega, by go_num, hP2, Num.hide (hB.out.setCell (Nat.le_refl _) _)⟩
        case measure => simp [intOf]; omega
      · have hut := Num.hide (decide_eq_false hu)
        have hP2 := Num.hide (part_no hP.out hlt hu)
        clear hu
        go_wp2_with (go_at_call 162; refine (isUpper_any _ _).mono ?_; rintro e w' ⟨rfl, rfl⟩; rw [Num.unhide hut])
        go_roundw
        case rel => exact ⟨k + 1, by omega, by go_num, hP2, hB⟩
        case measure => simp [intOf]; omega
    · obtain rfl : k = s.size := by omega
      have hback := part_back hP.out cap
      go_wp2
      go_ret
      exact ⟨rfl, hB.out⟩
end Sign
end Go.Proofs.YtjeokackmkfooaaGreatDoor
namespace Go.Proofs.YtjeokackmkfooaaGreatDoor
open Go.RowKit
set_option linter.unusedVariables false
namespace Cc
open Flds (Fld two_cells box_first box_second)

theorem signs_lt {w : World} (h : Sign.Signs w) : 0 < w.heap.size := Recs.lt_of_cell (h 0 (by decide))
theorem signs_below {w w' : World} {B : Nat} (h : Sign.Signs w) (hb : Below B w w') (hB : 0 < B) : Sign.Signs w' :=
  fun i hi => (hb.cell (p := ⟨0, i, none⟩) hB).trans (h i hi)
set_option maxRecDepth 100000 in
set_option maxHeartbeats 2000000 in
theorem readDir_impl (s : ByteArray) (w : World) (hs : s.size ≤ 1048576) (hm : Lim w) (hS : Sign.Signs w) :
    Calls Tryz.prog 135 #[.string s] w fun e w' => e = .returned (.tuple #[.agg #[.string (dirOf s).1, .string (dirOf s).2], .bool (isDir s)]) ∧ Below w.heap.size w w' := by
  have c0 : (w.alloc (.cells #[.string ⟨#[]⟩, .string ⟨#[]⟩] 65)).heap[w.heap.size]? = some (.cells #[.string ⟨#[]⟩, .string ⟨#[]⟩] 65) := heap_alloc_new w _
  have HC := Num.hide c0
  have hb0 := (Below.refl w.heap.size w).alloc (Nat.le_refl _) (.cells #[.string ⟨#[]⟩, .string ⟨#[]⟩] 65)
  have HB0 := Num.hide hb0
  have hz0 : w.heap.size + 1 = (w.alloc (.cells #[.string ⟨#[]⟩, .string ⟨#[]⟩] 65)).heap.size := by simp
  have HM := Num.hide (cut_eq s _ hs (lim_below hm hb0 (lim_lt hm)))
  have hsl := signs_lt hS
  have HS := Num.hide hS
  have hn := name_size s
  have hv := behind_size s
  unfold dirOf isDir
  generalize nameOf s = nm at HM hn ⊢
  generalize behind s = bh at HM hv ⊢
  obtain ⟨tb, htb⟩ : ∃ tb, Sign.isTok nm = tb := ⟨_, rfl⟩
  obtain ⟨lw, hlw⟩ : ∃ lw, Sign.lower nm = lw := ⟨_, rfl⟩
  obtain ⟨uq, huq⟩ : ∃ uq, unq bh = uq := ⟨_, rfl⟩
  have HT := Num.hide (fun W hW => htb ▸ Sign.isTok_impl nm W (by unfold maxLen; omega) hW)
  have HL := Num.hide (fun W => hlw ▸ Sign.lower_impl nm W (by unfold maxLen; omega))
  have HU := Num.hide (fun W => huq ▸ unq_impl bh W (by unfold maxLen; omega))
  simp only [htb, hlw, huq]
  clear c0 hb0 hm htb hlw huq hS
  go_enter Tryz.func135, Tryz.ntmps135
  go_wp2_with fail
  refine HM.out.mono ?_
  rintro e w0 ⟨b, rfl, n, rfl⟩
  go_wp2_with fail
  refine (HL.out _).mono ?_
  rintro e w1 ⟨rfl, hb1⟩
  have hb2 := (Strs.below_drewN HB0.out n).trans (hb1.mono (by show _ ≤ (w.alloc _).heap.size; omega : w.heap.size ≤ _))
  have HB := Num.hide hb2
  have HW := Num.hide (signs_below HS.out hb2 hsl)
  have hbox : w1.heap[w.heap.size]? = some (.cells #[.string ⟨#[]⟩, .string ⟨#[]⟩] 65) := by rw [hb1.block _ (by show _ < (w.alloc _).heap.size; omega)]; exact HC.out
  have HX := Num.hide hbox
  clear hb1 hb2 hbox HC HB0 HL HM hz0
  go_wp2_with fail
  refine (HU.out _).mono ?_
  rintro e w2 ⟨rfl, rfl⟩
  go_wp2_with fail
  refine (HT.out _ HW.out).mono ?_
  rintro e w3 ⟨rfl, rfl⟩
  obtain ⟨k0, k1, g0, g1⟩ := two_cells HX.out
  have r0 := Num.hide (box_first (x := lw) (y := uq) k0)
  have r1 := Num.hide (box_second (x := lw) (y := uq) k1)
  have HB1 := Num.hide ((HB.out.setCell (p := ⟨w.heap.size, 0, none⟩) (Nat.le_refl _) (.string lw)).setCell (p := ⟨w.heap.size, 1, none⟩) (Nat.le_refl _) (.string uq))
  go_wp2
  generalize ((w1.setCell ⟨w.heap.size, 0, none⟩ (.string lw)).setCell ⟨w.heap.size, 1, none⟩ (.string uq)) = w4 at r0 r1 HB1 ⊢
  have r0 := r0.out
  have r1 := r1.out
  exact bodyPost_ret (v := .tuple #[.agg #[.string lw, .string uq], .bool tb]) (by simp [results, Tryz.results135, go_sem, r0, r1]) rfl ⟨rfl, HB1.out⟩
end Cc
end Go.Proofs.YtjeokackmkfooaaGreatDoor
