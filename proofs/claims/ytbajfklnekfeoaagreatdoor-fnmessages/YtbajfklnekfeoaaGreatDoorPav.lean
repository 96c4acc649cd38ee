/-
  ReqReadLaw: FnExactReadRequest, whatever the program's ReadRequest keeps to: it answers as the specification's, in memory of its own, again and again.
  TakeSt: How a request's reader stands between its steps: its box, the box of its answer, and all else as it lay; plain facts of readReq.
  ReqLineImpl: request of the program's reader, where its line or its fields are not right: the steps of a request, one after the other; what is not right is thrown.
  ReqTakeImpl: request of the program's reader: the steps of a request, one after the other; what is not right is thrown.
  CatchImpl: messageCode of the program, and the closures that catch what a reader has thrown.
-/
import Derived.Test.YtbajfklnekfeoaaGreatDoorPau
import Derived.Test.YtbajfklnekfeoaaGreatDoorPap
import Derived.Test.YtbajfklnekfeoaaGreatDoorPat
import Derived.Test.YtbajfklnekfeoaaGreatDoorPam
import Derived.Test.YtbajfklnekfeoaaGreatDoorPal
import Derived.Test.YtbajfklnekfeoaaGreatDoorPad
import Derived.Deep.Cut
namespace Go.Proofs.YtbajfklnekfeoaaGreatDoor
open Go.RowKit
set_option linter.unusedVariables false
namespace Msg

theorem drop_len (l : List Flds.Fld) : (bare l).length ≤ l.length := Nat.le_trans (Flds.drop_length _ _) (Flds.drop_length _ _)
theorem readReq_len (s : ByteArray) : (readReq s).1.2.2.1.length ≤ 13 := by
  have hn : ∀ c, (noRq c).1.2.2.1.length ≤ 13 := fun c => Nat.zero_le _
  unfold readReq
  split
  · exact hn _
  · cases Line.eol s 0 with
    | none => exact hn _
    | some k =>
      simp only
      cases hq : Flds.read (s.extract (k + 2) s.size) with
      | none => exact hn _
      | some q =>
        obtain ⟨l, n⟩ := q
        simp only
        have h1 : l.length ≤ 13 := by
          have := Flds.readL_length (s.extract (k + 2) s.size)
          rw [(Flds.told_some hq).1] at this
          exact this
        split
        · split
          · have := drop_len l
            show (bare l).length ≤ 13
            omega
          · exact hn _
        · exact hn _
/-- a box of a request -/
def RBox (g : Nat) (m u : ByteArray) (v : Value) (b : ByteArray) (W : World) : Prop := W.heap[g]? = some (.cells #[.string m, .string u, v, .string b] 39)
theorem RBox.step {g : Nat} {m u b : ByteArray} {v : Value} {W W' : World} (h : RBox g m u v b W) (hb : Below W.heap.size W W') : RBox g m u v b W' := (hb.block g (Array.getElem?_eq_some_iff.1 h).1).trans h
theorem RBox.lt {g : Nat} {m u b : ByteArray} {v : Value} {W : World} (h : RBox g m u v b W) : g < W.heap.size := (Array.getElem?_eq_some_iff.1 h).1
theorem RBox.cells {g : Nat} {m u b : ByteArray} {v : Value} {W : World} (h : RBox g m u v b W) : W.cell? ⟨g, 0, none⟩ = some (.string m) ∧ W.cell? ⟨g, 1, none⟩ = some (.string u) ∧ W.cell? ⟨g, 2, none⟩ = some v ∧ W.cell? ⟨g, 3, none⟩ = some (.string b) :=
  ⟨Recs.box_cell h 0, Recs.box_cell h 1, Recs.box_cell h 2, Recs.box_cell h 3⟩
theorem RBox.mark {g : Nat} {m u b : ByteArray} {v : Value} {W W' : World} {row : Option Nat} (h : RBox g m u v b W) (hg : W.grownBy W' row) (hne : ∀ k, row = some k → k ≠ g) : RBox g m u v b W' :=
  (hg.block g h.lt (fun e => hne g e.symm rfl)).trans h
set_option maxRecDepth 100000 in
set_option maxHeartbeats 8000000 in
theorem readReq_law (G : World → Prop) (hG : ∀ W W', G W → Below W.heap.size W W' → G W')
    (hi : ∀ (s : ByteArray) W, s.size ≤ 1048576 → G W → Calls Tryz.prog 19 #[.string s] W fun e w' => ∃ v', e = .returned (.tuple #[Req.val (readReq s).1.1 (readReq s).1.2.1 v' (readReq s).1.2.2.2, .int .i64 (readReq s).2.1, .int .i64 (readReq s).2.2]) ∧ Flds.Own W.heap.size w' v' (readReq s).1.2.2.1 ∧ Below W.heap.size W w')
    (s : ByteArray) (w : World) (hs : s.size ≤ maxLen) (hg : G w) :
    Calls Tryz.prog 5 #[.string s] w fun e w' => e = .returned (.bool true) ∧ Below w.heap.size w w' := by
  unfold maxLen at hs
  by_cases hbig : 1048576 < s.size
  · have db : decide ((1048576 : Int) < (s.size : Int)) = true := by simp; omega
    clear hi hG hg
    go_enter Tryz.func5, Tryz.ntmps5
    go_wp2
    go_ret
    exact ⟨rfl, Below.refl _ _⟩
  · have db : decide ((1048576 : Int) < (s.size : Int)) = false := by simp; omega
    have HS := Num.hide (fun W => readReq_spec s W (by omega))
    have HI := Num.hide (fun W (hb : Below w.heap.size w W) => hi s W (by omega) (hG w W hg hb))
    have hL := readReq_len s
    clear hi hG hg
    generalize readReq s = R at HS HI hL
    obtain ⟨⟨m, u, L, b⟩, N, C⟩ := R
    simp only at HS HI hL
    unfold Req.val at HS HI
    have HEq := Num.hide (fun v1 v2 W h1 h2 => Req.eq_any m m u u v1 v2 L L b b W h1 h2 (by omega))
    have HMk := Num.hide (fun B v W h => Req.mark_any m u b B v L 1 W h (by omega) (by omega) (by omega))
    have HHd := Num.hide (fun v W h => Req.held_any m u b v L.length 1 W h (by omega) (by omega) (by omega))
    rw [decide_eq_true ⟨rfl, rfl, rfl, rfl⟩] at HEq
    unfold Req.val at HEq HMk HHd
    go_enter Tryz.func5, Tryz.ntmps5
    go_wp2_with fail
    refine (HS.out _).mono ?_
    rintro e W1 ⟨vw, rfl, ho1, hb1⟩
    obtain ⟨aw, cw, hvw⟩ := Recs.own_len ho1
    subst hvw
    have O1 := Num.hide (World.ownsRow.alloc ho1 (.cells #[.string m, .string u, .slice aw L.length cw, .string b] 39))
    have B1 := Num.hide (hb1.alloc hb1.size (.cells #[.string m, .string u, .slice aw L.length cw, .string b] 39))
    have X1 : Hid (RBox W1.heap.size m u (.slice aw L.length cw) b (W1.alloc (.cells #[.string m, .string u, .slice aw L.length cw, .string b] 39))) := heap_alloc_new W1 _
    have z1 : (W1.alloc (.cells #[.string m, .string u, .slice aw L.length cw, .string b] 39)).heap.size = W1.heap.size + 1 := by simp
    have D1 : Hid (∀ k, (Value.slice aw L.length cw).ownBlock = some k → k < W1.heap.size) := fun k hk => (Recs.own_lt ho1 k hk).2
    have s1 := hb1.size
    clear ho1 hb1
    go_upto_region 4 with fail
    generalize W1.alloc (.cells #[.string m, .string u, .slice aw L.length cw, .string b] 39) = V1 at O1 B1 X1 z1 ⊢
    generalize W1.heap.size = g1 at X1 z1 D1 s1 ⊢
    go_wp2_with fail
    refine (HI.out _ B1.out).mono ?_
    rintro e W2 ⟨vg, rfl, ho2, hb2⟩
    obtain ⟨ag, cg, hvg⟩ := Recs.own_len ho2
    subst hvg
    have O1b := Num.hide (World.ownsRow.alloc (Recs.own_below O1.out hb2) (.cells #[.string m, .string u, .slice ag L.length cg, .string b] 39))
    have O2 := Num.hide (World.ownsRow.alloc ho2 (.cells #[.string m, .string u, .slice ag L.length cg, .string b] 39))
    have B2 := Num.hide ((B1.out.trans (hb2.mono B1.out.size)).alloc (Nat.le_trans B1.out.size hb2.size) (.cells #[.string m, .string u, .slice ag L.length cg, .string b] 39))
    have X1b := Num.hide ((X1.out.step hb2).step ((Below.refl W2.heap.size W2).alloc (Nat.le_refl _) (.cells #[.string m, .string u, .slice ag L.length cg, .string b] 39)))
    have X2 : Hid (RBox W2.heap.size m u (.slice ag L.length cg) b (W2.alloc (.cells #[.string m, .string u, .slice ag L.length cg, .string b] 39))) := heap_alloc_new W2 _
    have z2 : (W2.alloc (.cells #[.string m, .string u, .slice ag L.length cg, .string b] 39)).heap.size = W2.heap.size + 1 := by simp
    have D2 : Hid (∀ k, (Value.slice ag L.length cg).ownBlock = some k → V1.heap.size ≤ k ∧ k < W2.heap.size) := fun k hk => Recs.own_lt ho2 k hk
    clear ho2 hb2 O1 B1 X1
    go_upto_region 5 with fail
    generalize W2.alloc (.cells #[.string m, .string u, .slice ag L.length cg, .string b] 39) = V2 at O1b O2 B2 X1b X2 z2 ⊢
    generalize W2.heap.size = g2 at X2 z2 D2 ⊢
    obtain ⟨p0, p1, p2, p3⟩ := X1b.out.cells
    obtain ⟨q0, q1, q2, q3⟩ := X2.out.cells
    go_wp2_with fail
    refine (HEq.out _ _ _ (Recs.own_is Flds.cells_len O2.out) (Recs.own_is Flds.cells_len O1b.out)).mono ?_
    rintro e W3 ⟨rfl, hb3⟩
    have O1c := Num.hide (Recs.own_below O1b.out hb3)
    have O3 := Num.hide (Recs.own_below O2.out hb3)
    have B3 := Num.hide (B2.out.trans (hb3.mono B2.out.size))
    have X1c := Num.hide (X1b.out.step hb3)
    have X3 := Num.hide (X2.out.step hb3)
    have s3 := hb3.size
    clear hb3 O1b O2 B2 X1b X2 p0 p1 p2 p3 q0 q1 q2 q3
    obtain ⟨q0, q1, q2, q3⟩ := X3.out.cells
    go_wp2_with fail
    refine (HMk.out _ _ _ O3.out).mono ?_
    rintro e W4 ⟨rfl, ho4, hg4⟩
    have B4 := Num.hide (B3.out.trans (Recs.below_mark O3.out (by omega) (by have := B3.out.size; omega) hg4))
    have O4 := Num.hide ho4
    have O1d := Num.hide (Recs.own_kept O1c.out hg4 (by
      cases hv : (Value.slice aw L.length cw).ownBlock with
      | none => exact .inl rfl
      | some k =>
        right
        intro e
        have h1 := D1.out k hv
        have h2 := D2.out k e.symm
        omega))
    have X1d := Num.hide (X1c.out.mark hg4 (fun k hk => by have := D2.out k hk; omega))
    have X4 := Num.hide (X3.out.mark hg4 (fun k hk => by have := D2.out k hk; omega))
    have s4 := hg4.size
    clear ho4 hg4 O1c O3 B3 X1c X3 q0 q1 q2 q3
    obtain ⟨q0, q1, q2, q3⟩ := X4.out.cells
    have dm : decide ((1 : Int) + 2 * (L.length : Int) < 0) = false := by simp; omega
    go_wp2_with fail
    refine (HHd.out _ _ (Recs.own_is Flds.cells_len O4.out)).mono ?_
    rintro e W5 ⟨rfl, hb5⟩
    have O5 := Num.hide (Recs.own_below O4.out hb5)
    have O1e := Num.hide (Recs.own_below O1d.out hb5)
    have B5 := Num.hide (B4.out.trans (hb5.mono B4.out.size))
    have X1e := Num.hide (X1d.out.step hb5)
    have X5 := Num.hide (X4.out.step hb5)
    clear hb5 O4 O1d B4 X1d X4 q0 q1 q2 q3
    go_wp2_with fail
    refine (HI.out _ B5.out).mono ?_
    rintro e W6 ⟨vh, rfl, ho6, hb6⟩
    obtain ⟨ah, ch, hvh⟩ := Recs.own_len ho6
    subst hvh
    have O5b := Num.hide (World.ownsRow.alloc (Recs.own_below O5.out hb6) (.cells #[.string m, .string u, .slice ah L.length ch, .string b] 39))
    have O1f := Num.hide (World.ownsRow.alloc (Recs.own_below O1e.out hb6) (.cells #[.string m, .string u, .slice ah L.length ch, .string b] 39))
    have O6 := Num.hide (World.ownsRow.alloc ho6 (.cells #[.string m, .string u, .slice ah L.length ch, .string b] 39))
    have B6 := Num.hide ((B5.out.trans (hb6.mono B5.out.size)).alloc (Nat.le_trans B5.out.size hb6.size) (.cells #[.string m, .string u, .slice ah L.length ch, .string b] 39))
    have hal := (Below.refl W6.heap.size W6).alloc (Nat.le_refl _) (.cells #[.string m, .string u, .slice ah L.length ch, .string b] 39)
    have X1f := Num.hide ((X1e.out.step hb6).step hal)
    have X5b := Num.hide ((X5.out.step hb6).step hal)
    have X6 : Hid (RBox W6.heap.size m u (.slice ah L.length ch) b (W6.alloc (.cells #[.string m, .string u, .slice ah L.length ch, .string b] 39))) := heap_alloc_new W6 _
    clear ho6 hb6 hal O5 O1e B5 X1e X5
    go_upto_region 16 with fail
    generalize W6.alloc (.cells #[.string m, .string u, .slice ah L.length ch, .string b] 39) = V6 at O5b O1f O6 B6 X1f X5b X6 ⊢
    generalize W6.heap.size = g6 at X6 ⊢
    obtain ⟨p0, p1, p2, p3⟩ := X1f.out.cells
    obtain ⟨q0, q1, q2, q3⟩ := X6.out.cells
    go_wp2_with fail
    refine (HEq.out _ _ _ (Recs.own_is Flds.cells_len O6.out) (Recs.own_is Flds.cells_len O1f.out)).mono ?_
    rintro e W7 ⟨rfl, hb7⟩
    have O7 := Num.hide (Recs.own_below O5b.out hb7)
    have B7 := Num.hide (B6.out.trans (hb7.mono B6.out.size))
    have X7 := Num.hide (X5b.out.step hb7)
    clear hb7 O5b O1f O6 B6 X1f X5b X6 p0 p1 p2 p3 q0 q1 q2 q3
    obtain ⟨q0, q1, q2, q3⟩ := X7.out.cells
    go_wp2_with fail
    refine (HHd.out _ _ (Recs.own_is Flds.cells_len O7.out)).mono ?_
    rintro e W8 ⟨rfl, hb8⟩
    have B8 := Num.hide (B7.out.trans (hb8.mono B7.out.size))
    clear hb8
    go_wp2
    go_ret
    exact ⟨rfl, B8.out⟩
end Msg
end Go.Proofs.YtbajfklnekfeoaaGreatDoor
namespace Go.Proofs.YtbajfklnekfeoaaGreatDoor
open Go.RowKit
set_option linter.unusedVariables false
namespace Msg
open Line (eol)

/-- the box of an answer that is not yet told -/
abbrev zBox (r : Nat) (X : World) : Prop := RBox r ⟨#[]⟩ ⟨#[]⟩ (.slice none 0 0) ⟨#[]⟩ X
theorem RBox.thaw {r : Nat} {a b c : ByteArray} {v : Value} {X : World} (h : RBox r a b v c X) : X.frozen? ⟨r, 0, none⟩ = false ∧ X.frozen? ⟨r, 1, none⟩ = false ∧ X.frozen? ⟨r, 2, none⟩ = false ∧ X.frozen? ⟨r, 3, none⟩ = false :=
  ⟨Recs.box_thaw h 0, Recs.box_thaw h 1, Recs.box_thaw h 2, Recs.box_thaw h 3⟩
theorem RBox.fill {r : Nat} {a b c : ByteArray} {v : Value} {X : World} (h : RBox r a b v c X) (a' b' : ByteArray) (v' : Value) : RBox r a' b' v' ⟨#[]⟩ ((((X.setCell ⟨r, 0, none⟩ (.string a')).setCell ⟨r, 1, none⟩ (.string b')).setCell ⟨r, 2, none⟩ v').setCell ⟨r, 3, none⟩ (.string ⟨#[]⟩)) :=
  Recs.box_set (Recs.box_set (Recs.box_set (Recs.box_set h 0 _) 1 _) 2 _) 3 _
structure St (w : World) (g : Nat) (s : ByteArray) (n : Nat) (v : Value) (X : World) : Prop where
  grown : w.grownBy X (some g)
  box : zBox w.heap.size X
  rd : Rd g s n v X
theorem grown_far {w X : World} {o : Option Nat} (h : w.grownBy X o) (r i : Nat) (u : Value) (hr : w.heap.size ≤ r) : w.grownBy (X.setCell ⟨r, i, none⟩ u) o :=
  ⟨h.os, h.tape, h.output, by rw [show (X.setCell ⟨r, i, none⟩ u).heap.size = X.heap.size by simp]; exact h.size, fun j hj hne => (heap_setCell_other X ⟨r, i, none⟩ j u (fun e => by have e2 : j = r := e; omega)).trans (h.block j hj hne)⟩
theorem grown_alloc {w X : World} {o : Option Nat} (h : w.grownBy X o) (b : Obj) : w.grownBy (X.alloc b) o := Recs.grown_trans h (World.grownBy_alloc X b o)
theorem St.step {w X X' : World} {g : Nat} {s : ByteArray} {n : Nat} {v : Value} (h : St w g s n v X) (hb : Below X.heap.size X X') : St w g s n v X' :=
  ⟨Recs.grown_trans h.grown (Recs.grown_of_below hb _), h.box.step hb, h.rd.step hb⟩
theorem St.grow {w X X' : World} {g : Nat} {s : ByteArray} {n n' : Nat} {v v' : Value} (h : St w g s n v X) (hg : X.grownBy X' (some g)) (hl : g < w.heap.size) (hr : Rd g s n' v' X') : St w g s n' v' X' :=
  ⟨Recs.grown_trans h.grown hg, h.box.mark hg (fun k hk => by have := Option.some.inj hk; omega), hr⟩
theorem St.first {w : World} {g : Nat} {s : ByteArray} {n : Nat} {v : Value} (h : Rd g s n v w) : St w g s n v (w.alloc (.cells #[.string ⟨#[]⟩, .string ⟨#[]⟩, .slice none 0 0, .string ⟨#[]⟩] 39)) :=
  ⟨World.grownBy_alloc w _ _, heap_alloc_new w _, h.step ((Below.refl w.heap.size w).alloc (Nat.le_refl _) _)⟩
/-- how the reading of a request ends -/
def reqEnd (g : Nat) (s : ByteArray) (m b : Addr) (w : World) (R : Rq) (e : Ending) (X : World) : Prop :=
  w.grownBy X (some g) ∧ if R.2.2 = 0 then ∃ v, e = .returned (Req.val R.1.1 R.1.2.1 v R.1.2.2.2) ∧ Flds.Own w.heap.size X v R.1.2.2.1 ∧ ∃ (f : Value) (n : Nat), R.2.1 = (n : Int) ∧ Rd g s n f X else e = thrown m b R.2.2.toNat
theorem ended (g : Nat) (s : ByteArray) (m b : Addr) (w X : World) (c : Nat) (hc : c = 1 ∨ c = 2) (h : w.grownBy X (some g)) : reqEnd g s m b w (noRq (c : Int)) (thrown m b c) X := by
  refine ⟨h, ?_⟩
  rcases hc with rfl | rfl
  · rw [if_neg (by decide)]; rfl
  · rw [if_neg (by decide)]; rfl
theorem rq_line {s : ByteArray} {k : Nat} (hw : whole s = true) (hk : eol s 0 = some k) (hv : ¬ (words (s.extract 0 k)).2.2 = ver) : readReq s = noRq 2 := by
  unfold readReq
  rw [hw, if_neg (by decide), hk]
  simp only
  cases Flds.read (s.extract (k + 2) s.size) with
  | none => rfl
  | some q => obtain ⟨l, n⟩ := q; simp only; rw [if_neg (fun h => hv h.1)]
theorem rq_fields {s : ByteArray} {k : Nat} (hw : whole s = true) (hk : eol s 0 = some k) (hf : Flds.read (s.extract (k + 2) s.size) = none) : readReq s = noRq 2 := by
  unfold readReq
  rw [hw, if_neg (by decide), hk]
  simp only
  rw [hf]
theorem rq_wrong {s : ByteArray} {k : Nat} {l : List Flds.Fld} {n : Nat} (hw : whole s = true) (hk : eol s 0 = some k) (hf : Flds.read (s.extract (k + 2) s.size) = some (l, n)) (hr : reqOk (words (s.extract 0 k)).1 (words (s.extract 0 k)).2.1 (bare l) ⟨#[]⟩ = false) : readReq s = noRq 2 := by
  unfold readReq
  rw [hw, if_neg (by decide), hk]
  simp only
  rw [hf]
  simp only
  rw [if_neg (fun h => by rw [hr] at h; exact absurd h.2 (by decide))]
theorem rq_body {s : ByteArray} {k : Nat} {l : List Flds.Fld} {n : Nat} (hw : whole s = true) (hk : eol s 0 = some k) (hf : Flds.read (s.extract (k + 2) s.size) = some (l, n)) (hv : (words (s.extract 0 k)).2.2 = ver) (hr : reqOk (words (s.extract 0 k)).1 (words (s.extract 0 k)).2.1 (bare l) ⟨#[]⟩ = true) :
    readReq s = if (Body.bodyOf l (s.extract (k + 2 + n) s.size) false).2.2 = 0 then (((words (s.extract 0 k)).1, (words (s.extract 0 k)).2.1, bare l, (Body.bodyOf l (s.extract (k + 2 + n) s.size) false).1), ((k + 2 + n : Nat) : Int) + (Body.bodyOf l (s.extract (k + 2 + n) s.size) false).2.1, 0) else noRq (codeOf (Body.bodyOf l (s.extract (k + 2 + n) s.size) false).2.2) := by
  unfold readReq
  rw [hw, if_neg (by decide), hk]
  simp only
  rw [hf]
  simp only
  rw [if_pos ⟨hv, hr⟩]
theorem ver_yes {x : ByteArray} (h : x = ver) : (x.toList == [72, 84, 84, 80, 47, 49, 46, 49]) = true := by rw [h, ByteArray.toList_eq]; rfl
theorem ver_no {x : ByteArray} (h : ¬ x = ver) : (x.toList == [72, 84, 84, 80, 47, 49, 46, 49]) = false := by
  rw [beq_eq_false_iff_ne, ByteArray.toList_eq]
  intro e; exact h (ByteArray.ext (Array.toList_inj.1 (by rw [e]; rfl)))
theorem unparted_ver {s : ByteArray} (h : parted s = false) : ¬ (words s).2.2 = ver := by rw [parted_no h]; decide
/-- a body's code is 0, 1 or 2 -/
theorem body_code {m b : Addr} {g : Nat} {s : ByteArray} {n : Nat} {v : Value} {w X : World} {T : Body.Told} {e : Ending} (h : bodyEnd g s n v m b w T e X) : w.grownBy X (some g) := h.1
end Msg
end Go.Proofs.YtbajfklnekfeoaaGreatDoor
namespace Go.Proofs.YtbajfklnekfeoaaGreatDoor
open Go.RowKit
set_option linter.unusedVariables false
set_option linter.unusedSimpArgs false
namespace Msg
open Line (eol)

set_option maxRecDepth 100000 in
set_option maxHeartbeats 4000000 in
theorem request_line (g : Nat) (s : ByteArray) (v0 : Value) (m b : Addr) (W : World) (k : Nat) (h : Rd g s 0 v0 W) (hs : s.size ≤ 1048576) (hw : whole s = true) (hk : eol s 0 = some k) (hp : parted (s.extract 0 k) = false) (hG : ∀ X, W.grownBy X (some g) → Ground m b X) :
    Calls Tryz.prog 54 #[.pointer (some ⟨g, 0, none⟩)] W fun e w' => reqEnd g s m b W (readReq s) e w' := by
  have hkb := Line.eol_in hk
  have hgl := h.lt
  have S0 := Num.hide (St.first h)
  have HG := Num.hide hG
  rw [rq_line hw hk (unparted_ver hp)]
  have HF := Num.hide (fun W h (hG : Ground m b W) => first_no g s k v0 m b W h hs hk (by omega) hp hG.lim hG.errs)
  clear h hG hw hk hp hkb
  go_enter Tryz.func54, Tryz.ntmps54
  go_wp2_with fail
  refine (HF.out _ S0.out.rd (HG.out _ S0.out.grown)).mono ?_
  rintro e w1 ⟨rfl, hb1⟩
  have HE := Num.hide (ended g s m b W w1 2 (.inr rfl) (S0.out.step hb1).grown)
  unfold thrown at HE ⊢
  exact ⟨rfl, HE.out⟩
set_option maxRecDepth 100000 in
set_option maxHeartbeats 4000000 in
theorem request_ver (g : Nat) (s : ByteArray) (v0 : Value) (m b : Addr) (W : World) (k : Nat) (h : Rd g s 0 v0 W) (hs : s.size ≤ 1048576) (hw : whole s = true) (hk : eol s 0 = some k) (hp : parted (s.extract 0 k) = true) (hv : ¬ (words (s.extract 0 k)).2.2 = ver) (hG : ∀ X, W.grownBy X (some g) → Ground m b X) :
    Calls Tryz.prog 54 #[.pointer (some ⟨g, 0, none⟩)] W fun e w' => reqEnd g s m b W (readReq s) e w' := by
  have hkb := Line.eol_in hk
  have hgl := h.lt
  have S0 := Num.hide (St.first h)
  have HG := Num.hide hG
  rw [rq_line hw hk hv]
  have HF := Num.hide (fun W h (hG : Ground m b W) => first_yes g s k v0 m b W h hs hk (by omega) hp hG.lim hG.errs)
  have hws := words_size (s.extract 0 k)
  rw [ByteArray.size_extract] at hws
  have dv := ver_no hv
  clear h hG hw hk hp hkb hv
  generalize words (s.extract 0 k) = wd at HF hws dv
  obtain ⟨mm, uu, vv⟩ := wd
  simp only at HF hws dv
  go_enter Tryz.func54, Tryz.ntmps54
  go_wp2_with fail
  refine (HF.out _ S0.out.rd (HG.out _ S0.out.grown)).mono ?_
  rintro e w1 ⟨rfl, hr1, hg1⟩
  have S1 := Num.hide (S0.out.grow hg1 hgl hr1)
  clear hr1 hg1 S0 HF
  go_wp2_with fail
  refine (demand_no m b _ (HG.out _ S1.out.grown).errs).mono ?_
  rintro e w2 ⟨rfl, rfl⟩
  have HE := Num.hide (ended g s m b W w1 2 (.inr rfl) S1.out.grown)
  unfold thrown at HE ⊢
  exact ⟨rfl, HE.out⟩
set_option maxRecDepth 100000 in
set_option maxHeartbeats 4000000 in
theorem request_fields (g : Nat) (s : ByteArray) (v0 : Value) (m b : Addr) (W : World) (k : Nat) (h : Rd g s 0 v0 W) (hs : s.size ≤ 1048576) (hw : whole s = true) (hk : eol s 0 = some k) (hp : parted (s.extract 0 k) = true) (hv : (words (s.extract 0 k)).2.2 = ver) (hf : Flds.read (s.extract (k + 2) s.size) = none) (hG : ∀ X, W.grownBy X (some g) → Ground m b X) :
    Calls Tryz.prog 54 #[.pointer (some ⟨g, 0, none⟩)] W fun e w' => reqEnd g s m b W (readReq s) e w' := by
  have hkb := Line.eol_in hk
  have hgl := h.lt
  have S0 := Num.hide (St.first h)
  have HG := Num.hide hG
  rw [rq_fields hw hk hf]
  have HF := Num.hide (fun W h (hG : Ground m b W) => first_yes g s k v0 m b W h hs hk (by omega) hp hG.lim hG.errs)
  have hws := words_size (s.extract 0 k)
  rw [ByteArray.size_extract] at hws
  have HFl := Num.hide (fun v W h hG => fields_no g s (k + 2) v m b W h hs (by omega) hf hG)
  have dv := ver_yes hv
  clear h hG hw hk hp hkb hv hf
  generalize words (s.extract 0 k) = wd at HF hws dv
  obtain ⟨mm, uu, vv⟩ := wd
  simp only at HF hws dv
  go_enter Tryz.func54, Tryz.ntmps54
  go_wp2_with fail
  refine (HF.out _ S0.out.rd (HG.out _ S0.out.grown)).mono ?_
  rintro e w1 ⟨rfl, hr1, hg1⟩
  have S1 := Num.hide (S0.out.grow hg1 hgl hr1)
  clear hr1 hg1 S0 HF
  go_wp2_with fail
  refine (demand_yes _).mono ?_
  rintro e w2 ⟨rfl, rfl⟩
  go_wp2_with fail
  refine (HFl.out _ _ S1.out.rd (HG.out _ S1.out.grown)).mono ?_
  rintro e w3 ⟨rfl, hb3⟩
  have HE := Num.hide (ended g s m b W w3 2 (.inr rfl) (S1.out.step hb3).grown)
  unfold thrown at HE ⊢
  exact ⟨rfl, HE.out⟩
end Msg
end Go.Proofs.YtbajfklnekfeoaaGreatDoor
namespace Go.Proofs.YtbajfklnekfeoaaGreatDoor
open Go.RowKit
set_option linter.unusedVariables false
set_option linter.unusedSimpArgs false
namespace Msg
open Line (eol)

set_option maxRecDepth 100000 in
set_option maxHeartbeats 4000000 in
theorem request_put (g : Nat) (s : ByteArray) (v0 : Value) (m b : Addr) (W : World) (k : Nat) (h : Rd g s 0 v0 W) (hs : s.size ≤ 1048576) (hw : whole s = true) (hk : eol s 0 = some k) (hp : parted (s.extract 0 k) = true) (hv : (words (s.extract 0 k)).2.2 = ver) (l : List Flds.Fld) (n : Nat) (hf : Flds.read (s.extract (k + 2) s.size) = some (l, n)) (hG : ∀ X, W.grownBy X (some g) → Ground m b X) :
    Calls Tryz.prog 54 #[.pointer (some ⟨g, 0, none⟩)] W fun e w' => reqEnd g s m b W (readReq s) e w' := by
  have hkb := Line.eol_in hk
  have hgl := h.lt
  have S0 := Num.hide (St.first h)
  have HG := Num.hide hG
  have HF := Num.hide (fun W h (hG : Ground m b W) => first_yes g s k v0 m b W h hs hk (by omega) hp hG.lim hG.errs)
  have hws := words_size (s.extract 0 k)
  rw [ByteArray.size_extract] at hws
  have hnz : n ≤ (s.extract (k + 2) s.size).size := readGo_in _ _ _ _ _ (show Flds.readGo (s.extract (k + 2) s.size) 13 0 [] = some (l, n) from hf)
  rw [ByteArray.size_extract] at hnz
  have HFl := Num.hide (fun v W h hG => fields_yes g s (k + 2) v l n m b W h hs (by omega) hf (by omega) hG)
  have dv := ver_yes hv
  have hlb : Flds.bulk l ≤ 2000 := by have := readL_bulk (s.extract (k + 2) s.size); rw [(Flds.told_some hf).1] at this; exact this
  have hbb := bare_bulk l
  have HBr := Num.hide (fun v W h => bare_impl v l W h (by omega))
  have HR := Num.hide (fun h => rq_wrong hw hk hf h)
  have HR2 := Num.hide (fun h => rq_body hw hk hf hv h)
  have HB := Num.hide (fun v W h hI hG => takeBody_impl g s (k + 2 + n) v l false m b W h hs (by omega) hI (by omega) hG)
  have hbin := body_in l (s.extract (k + 2 + n) s.size) false
  clear h hG hw hk hp hv hf
  generalize readReq s = R at HR HR2 ⊢
  generalize Body.bodyOf l (s.extract (k + 2 + n) s.size) false = T at HR2 hbin HB
  generalize words (s.extract 0 k) = wd at HF hws dv HR HR2
  obtain ⟨mm, uu, vv⟩ := wd
  simp only at HF hws dv HR HR2
  have HOk := Num.hide (fun v W h hS => reqOk_impl mm uu v (bare l) ⟨#[]⟩ W h (by omega) (by omega) (by omega) (by decide) hS)
  have HCm := Num.hide (fun W => Shelf.clone mm W (by omega))
  have HCu := Num.hide (fun W => Shelf.clone uu W (by omega))
  unfold Req.val at HOk
  go_enter Tryz.func54, Tryz.ntmps54
  go_wp2_with fail
  refine (HF.out _ S0.out.rd (HG.out _ S0.out.grown)).mono ?_
  rintro e w1 ⟨rfl, hr1, hg1⟩
  have S1 := Num.hide (S0.out.grow hg1 hgl hr1)
  clear hr1 hg1 S0 HF
  go_wp2_with fail
  refine (demand_yes _).mono ?_
  rintro e w2 ⟨rfl, rfl⟩
  go_wp2_with fail
  refine (HFl.out _ _ S1.out.rd (HG.out _ S1.out.grown)).mono ?_
  rintro e w3 ⟨rfl, v3, hr3, ho3, hg3⟩
  have S3 := Num.hide (S1.out.grow hg3 hgl hr3)
  obtain ⟨a3, q3, hv3⟩ := Recs.own_len ho3
  subst hv3
  have O3 := Num.hide ho3
  clear hr3 hg3 ho3 S1 HFl
  obtain ⟨c0, c1, c2⟩ := S3.out.rd.cells
  go_upto_region 4 with fail
  go_cut [6] from 18 (fun qv wx => ∃ (gq : Nat) (vq : Value), qv = .pointer (some ⟨gq, 0, none⟩) ∧ w3.heap.size ≤ gq ∧ Hid (RBox gq mm uu vq ⟨#[]⟩ wx) ∧ Hid (Flds.Own w3.heap.size wx vq (bare l)) ∧ Hid (∀ j, vq.ownBlock = some j → j ≠ gq) ∧ Hid (Below w3.heap.size w3 wx))
  case first =>
    refine wp_region_held_drew (S := fun X => Below w3.heap.size w3 X) (by kernel_rfl) (Below.refl _ _).drew (fun hHeld => ?_)
    clear c0 c1 c2
    refine Reg.take (i := 0) (d := 18) (v := ?_) rfl rfl (by kernel_rfl) (by kernel_rfl) (by kernel_rfl) (fun _ _ _ h => h) (by rfl) ?_ hHeld ?_
    rotate_left
    · rintro X hX
      obtain ⟨g0, g1, g2⟩ := (S3.out.rd.step hX).cells
      first | (go_simp; done) | (go_simp; with_reducible rfl)
    simp only [Act.put, List.setIfInBounds_toArray, List.set_cons_zero, List.set_cons_succ]
    refine Reg.take (i := 2) (d := 20) (v := ?_) rfl rfl (by kernel_rfl) (by kernel_rfl) (by kernel_rfl) (fun _ _ _ h => h) (by rfl) ?_ hHeld ?_
    rotate_left
    · rintro X hX
      obtain ⟨g0, g1, g2⟩ := (S3.out.rd.step hX).cells
      first | (go_simp; done) | (go_simp; with_reducible rfl)
    simp only [Act.put, List.setIfInBounds_toArray, List.set_cons_zero, List.set_cons_succ]
    refine Reg.take (i := 4) (d := 22) (v := ?_) rfl rfl (by kernel_rfl) (by kernel_rfl) (by kernel_rfl) (fun _ _ _ h => h) (by rfl) ?_ hHeld ?_
    rotate_left
    · rintro X hX
      obtain ⟨g0, g1, g2⟩ := (S3.out.rd.step hX).cells
      first | (go_simp; done) | (go_simp; with_reducible rfl)
    simp only [Act.put, List.setIfInBounds_toArray, List.set_cons_zero, List.set_cons_succ]
    refine Reg.take (i := 5) (d := 23) (v := ?_) rfl rfl (by kernel_rfl) (by kernel_rfl) (by kernel_rfl) (fun _ _ _ h => h) (by rfl) ?_ hHeld ?_
    rotate_left
    · rintro X hX
      obtain ⟨g0, g1, g2⟩ := (S3.out.rd.step hX).cells
      first | (go_simp; done) | (go_simp; with_reducible rfl)
    simp only [Act.put, List.setIfInBounds_toArray, List.set_cons_zero, List.set_cons_succ]
    refine Reg.take (i := 6) (d := 24) (v := ?_) rfl rfl (by kernel_rfl) (by kernel_rfl) (by kernel_rfl) (fun _ _ _ h => h) (by rfl) ?_ hHeld ?_
    rotate_left
    · rintro X hX
      obtain ⟨g0, g1, g2⟩ := (S3.out.rd.step hX).cells
      first | (go_simp; done) | (go_simp; with_reducible rfl)
    simp only [Act.put, List.setIfInBounds_toArray, List.set_cons_zero, List.set_cons_succ]
    refine Reg.take (i := 7) (d := 25) (v := ?_) rfl rfl (by kernel_rfl) (by kernel_rfl) (by kernel_rfl) (fun _ _ _ h => h) (by rfl) ?_ hHeld ?_
    rotate_left
    · rintro X hX
      obtain ⟨g0, g1, g2⟩ := (S3.out.rd.step hX).cells
      first | (go_simp; done) | (go_simp; with_reducible rfl)
    simp only [Act.put, List.setIfInBounds_toArray, List.set_cons_zero, List.set_cons_succ]
    have hHw := hHeld
    generalize w3.drew = Y0 at hHeld ⊢
    clear hHw
    refine Reg.two (i := 1) (j := 10) rfl rfl (by kernel_rfl) (by rfl) (by rfl) (fun K hK => ?_) (fun K hK => ?_)
    · go_wp2_with (first | (go_at_call 106; refine (HCm.out _).mono ?_; rintro e Y1 ⟨rfl, hb1⟩))
      refine hK.out _ _ ?_ (fun hHeld2 => ?_)
      · exact hHeld.trans (hb1.mono hHeld.size)
      clear hK K hHeld hb1
      replace hHeld := hHeld2
      clear hHeld2
      refine Reg.two (i := 3) (j := 10) rfl rfl (by kernel_rfl) (by rfl) (by rfl) (fun K hK => ?_) (fun K hK => ?_)
      · go_wp2_with (first | (go_at_call 106; refine (HCu.out _).mono ?_; rintro e Y2 ⟨rfl, hb2⟩))
        refine hK.out _ _ ?_ (fun hHeld2 => ?_)
        · exact hHeld.trans (hb2.mono hHeld.size)
        clear hK K hHeld hb2
        replace hHeld := hHeld2
        clear hHeld2
        refine Reg.two (i := 8) (j := 10) rfl rfl (by kernel_rfl) (by rfl) (by rfl) (fun K hK => ?_) (fun K hK => ?_)
        · go_wp2_with (first | (go_at_call 107; refine (HBr.out _ _ (Recs.is_below (Recs.own_is Flds.cells_len O3.out) hHeld)).mono ?_; rintro e Y3 ⟨vq, rfl, ho3, hb3⟩; obtain ⟨aq, cq, hvq⟩ := Recs.own_len ho3; subst hvq))
          have OQ3 := Num.hide (Recs.own_mono ho3 hHeld.size)
          refine hK.out _ _ ?_ (fun hHeld2 => ?_)
          · exact hHeld.trans (hb3.mono hHeld.size)
          clear hK K hHeld hb3
          replace hHeld := hHeld2
          clear hHeld2
          refine Reg.take (i := 9) (d := 27) (v := ?_) rfl rfl (by kernel_rfl) (by kernel_rfl) (by kernel_rfl) (fun _ _ _ h => h) (by rfl) ?_ hHeld ?_
          rotate_left
          · rintro X hX
            obtain ⟨g0, g1, g2⟩ := (S3.out.rd.step hX).cells
            first | (go_simp; done) | (go_simp; with_reducible rfl)
          simp only [Act.put, List.setIfInBounds_toArray, List.set_cons_zero, List.set_cons_succ]
          refine Reg.call (i := 10) rfl (by kernel_rfl) (by rfl) (fun K hK => ?_)
          go_wp2
          have AL4 : Hid (zBox Y3.heap.size (Y3.alloc (.cells #[.string ⟨#[]⟩, .string ⟨#[]⟩, .slice none 0 0, .string ⟨#[]⟩] 39))) := heap_alloc_new Y3 _
          have hb4 : Below Y3.heap.size Y3 (Y3.alloc (.cells #[.string ⟨#[]⟩, .string ⟨#[]⟩, .slice none 0 0, .string ⟨#[]⟩] 39)) := (Below.refl _ _).alloc (Nat.le_refl _) _
          have hgq : w3.heap.size ≤ Y3.heap.size := hHeld.size
          have NQ : Hid (∀ j, (Value.slice aq (bare l).length cq).ownBlock = some j → j ≠ Y3.heap.size) := fun j hj => by have := (Recs.own_lt OQ3.out j hj).2; omega
          have OQ4 := Num.hide (Recs.own_below OQ3.out hb4)
          refine hK.out _ _ ?_ (fun hHeld2 => ?_)
          · exact hHeld.trans (hb4.mono hHeld.size)
          clear hK K hHeld hb4
          generalize Y3.alloc (.cells #[.string ⟨#[]⟩, .string ⟨#[]⟩, .slice none 0 0, .string ⟨#[]⟩] 39) = Y4 at *
          generalize Y3.heap.size = gq at *
          replace hHeld := hHeld2
          clear hHeld2
          refine Reg.call (i := 11) rfl (by kernel_rfl) (by rfl) (fun K hK => ?_)
          obtain ⟨z0, z1, z2, z3⟩ := RBox.thaw AL4.out
          obtain ⟨k0, k1, k2, k3⟩ := RBox.cells AL4.out
          have FB := Num.hide (RBox.fill AL4.out mm uu (Value.slice aq (bare l).length cq))
          have FS := Num.hide ((((hHeld.setCell (p := ⟨gq, 0, none⟩) hgq (.string mm)).setCell (p := ⟨gq, 1, none⟩) hgq (.string uu)).setCell (p := ⟨gq, 2, none⟩) hgq (Value.slice aq (bare l).length cq)).setCell (p := ⟨gq, 3, none⟩) hgq (.string ⟨#[]⟩))
          have FO := Num.hide (Recs.own_set (Recs.own_set (Recs.own_set (Recs.own_set OQ4.out gq 0 (.string mm) NQ.out) gq 1 (.string uu) NQ.out) gq 2 (Value.slice aq (bare l).length cq) NQ.out) gq 3 (.string ⟨#[]⟩) NQ.out)
          go_wp2
          refine hK.out _ _ ?_ (fun hHeld2 => ?_)
          · exact FS.out
          clear hK K hHeld2
          refine wpAnyH_done (by kernel_rfl) ?_ _
          go_wp2
          go_meet
          case rel => exact ⟨gq, _, rfl, hgq, FB, FO, NQ, FS⟩
        · go_wp2
          have AL3 : Hid (zBox Y2.heap.size (Y2.alloc (.cells #[.string ⟨#[]⟩, .string ⟨#[]⟩, .slice none 0 0, .string ⟨#[]⟩] 39))) := heap_alloc_new Y2 _
          have hb3 : Below Y2.heap.size Y2 (Y2.alloc (.cells #[.string ⟨#[]⟩, .string ⟨#[]⟩, .slice none 0 0, .string ⟨#[]⟩] 39)) := (Below.refl _ _).alloc (Nat.le_refl _) _
          have hgq : w3.heap.size ≤ Y2.heap.size := hHeld.size
          refine hK.out _ _ ?_ (fun hHeld2 => ?_)
          · exact hHeld.trans (hb3.mono hHeld.size)
          clear hK K hHeld hb3
          generalize Y2.alloc (.cells #[.string ⟨#[]⟩, .string ⟨#[]⟩, .slice none 0 0, .string ⟨#[]⟩] 39) = Y3 at *
          generalize Y2.heap.size = gq at *
          replace hHeld := hHeld2
          clear hHeld2
          refine Reg.call (i := 8) rfl (by kernel_rfl) (by rfl) (fun K hK => ?_)
          go_wp2_with (first | (go_at_call 107; refine (HBr.out _ _ (Recs.is_below (Recs.own_is Flds.cells_len O3.out) hHeld)).mono ?_; rintro e Y4 ⟨vq, rfl, ho4, hb4⟩; obtain ⟨aq, cq, hvq⟩ := Recs.own_len ho4; subst hvq))
          have OQ4 := Num.hide (Recs.own_mono ho4 hHeld.size)
          have NQ : Hid (∀ j, (Value.slice aq (bare l).length cq).ownBlock = some j → j ≠ gq) := fun j hj => by have := (Recs.own_lt ho4 j hj).1; have := AL3.out.lt; omega
          have AL4 := Num.hide (AL3.out.step hb4)
          refine hK.out _ _ ?_ (fun hHeld2 => ?_)
          · exact hHeld.trans (hb4.mono hHeld.size)
          clear hK K hHeld hb4
          replace hHeld := hHeld2
          clear hHeld2
          refine Reg.take (i := 9) (d := 27) (v := ?_) rfl rfl (by kernel_rfl) (by kernel_rfl) (by kernel_rfl) (fun _ _ _ h => h) (by rfl) ?_ hHeld ?_
          rotate_left
          · rintro X hX
            obtain ⟨g0, g1, g2⟩ := (S3.out.rd.step hX).cells
            first | (go_simp; done) | (go_simp; with_reducible rfl)
          simp only [Act.put, List.setIfInBounds_toArray, List.set_cons_zero, List.set_cons_succ]
          refine Reg.call (i := 11) rfl (by kernel_rfl) (by rfl) (fun K hK => ?_)
          obtain ⟨z0, z1, z2, z3⟩ := RBox.thaw AL4.out
          obtain ⟨k0, k1, k2, k3⟩ := RBox.cells AL4.out
          have FB := Num.hide (RBox.fill AL4.out mm uu (Value.slice aq (bare l).length cq))
          have FS := Num.hide ((((hHeld.setCell (p := ⟨gq, 0, none⟩) hgq (.string mm)).setCell (p := ⟨gq, 1, none⟩) hgq (.string uu)).setCell (p := ⟨gq, 2, none⟩) hgq (Value.slice aq (bare l).length cq)).setCell (p := ⟨gq, 3, none⟩) hgq (.string ⟨#[]⟩))
          have FO := Num.hide (Recs.own_set (Recs.own_set (Recs.own_set (Recs.own_set OQ4.out gq 0 (.string mm) NQ.out) gq 1 (.string uu) NQ.out) gq 2 (Value.slice aq (bare l).length cq) NQ.out) gq 3 (.string ⟨#[]⟩) NQ.out)
          go_wp2
          refine hK.out _ _ ?_ (fun hHeld2 => ?_)
          · exact FS.out
          clear hK K hHeld2
          refine wpAnyH_done (by kernel_rfl) ?_ _
          go_wp2
          go_meet
          case rel => exact ⟨gq, _, rfl, hgq, FB, FO, NQ, FS⟩
      · go_wp2
        have AL2 : Hid (zBox Y1.heap.size (Y1.alloc (.cells #[.string ⟨#[]⟩, .string ⟨#[]⟩, .slice none 0 0, .string ⟨#[]⟩] 39))) := heap_alloc_new Y1 _
        have hb2 : Below Y1.heap.size Y1 (Y1.alloc (.cells #[.string ⟨#[]⟩, .string ⟨#[]⟩, .slice none 0 0, .string ⟨#[]⟩] 39)) := (Below.refl _ _).alloc (Nat.le_refl _) _
        have hgq : w3.heap.size ≤ Y1.heap.size := hHeld.size
        refine hK.out _ _ ?_ (fun hHeld2 => ?_)
        · exact hHeld.trans (hb2.mono hHeld.size)
        clear hK K hHeld hb2
        generalize Y1.alloc (.cells #[.string ⟨#[]⟩, .string ⟨#[]⟩, .slice none 0 0, .string ⟨#[]⟩] 39) = Y2 at *
        generalize Y1.heap.size = gq at *
        replace hHeld := hHeld2
        clear hHeld2
        refine Reg.call (i := 3) rfl (by kernel_rfl) (by rfl) (fun K hK => ?_)
        go_wp2_with (first | (go_at_call 106; refine (HCu.out _).mono ?_; rintro e Y3 ⟨rfl, hb3⟩))
        have AL3 := Num.hide (AL2.out.step hb3)
        refine hK.out _ _ ?_ (fun hHeld2 => ?_)
        · exact hHeld.trans (hb3.mono hHeld.size)
        clear hK K hHeld hb3
        replace hHeld := hHeld2
        clear hHeld2
        refine Reg.call (i := 8) rfl (by kernel_rfl) (by rfl) (fun K hK => ?_)
        go_wp2_with (first | (go_at_call 107; refine (HBr.out _ _ (Recs.is_below (Recs.own_is Flds.cells_len O3.out) hHeld)).mono ?_; rintro e Y4 ⟨vq, rfl, ho4, hb4⟩; obtain ⟨aq, cq, hvq⟩ := Recs.own_len ho4; subst hvq))
        have OQ4 := Num.hide (Recs.own_mono ho4 hHeld.size)
        have NQ : Hid (∀ j, (Value.slice aq (bare l).length cq).ownBlock = some j → j ≠ gq) := fun j hj => by have := (Recs.own_lt ho4 j hj).1; have := AL3.out.lt; omega
        have AL4 := Num.hide (AL3.out.step hb4)
        refine hK.out _ _ ?_ (fun hHeld2 => ?_)
        · exact hHeld.trans (hb4.mono hHeld.size)
        clear hK K hHeld hb4
        replace hHeld := hHeld2
        clear hHeld2
        refine Reg.take (i := 9) (d := 27) (v := ?_) rfl rfl (by kernel_rfl) (by kernel_rfl) (by kernel_rfl) (fun _ _ _ h => h) (by rfl) ?_ hHeld ?_
        rotate_left
        · rintro X hX
          obtain ⟨g0, g1, g2⟩ := (S3.out.rd.step hX).cells
          first | (go_simp; done) | (go_simp; with_reducible rfl)
        simp only [Act.put, List.setIfInBounds_toArray, List.set_cons_zero, List.set_cons_succ]
        refine Reg.call (i := 11) rfl (by kernel_rfl) (by rfl) (fun K hK => ?_)
        obtain ⟨z0, z1, z2, z3⟩ := RBox.thaw AL4.out
        obtain ⟨k0, k1, k2, k3⟩ := RBox.cells AL4.out
        have FB := Num.hide (RBox.fill AL4.out mm uu (Value.slice aq (bare l).length cq))
        have FS := Num.hide ((((hHeld.setCell (p := ⟨gq, 0, none⟩) hgq (.string mm)).setCell (p := ⟨gq, 1, none⟩) hgq (.string uu)).setCell (p := ⟨gq, 2, none⟩) hgq (Value.slice aq (bare l).length cq)).setCell (p := ⟨gq, 3, none⟩) hgq (.string ⟨#[]⟩))
        have FO := Num.hide (Recs.own_set (Recs.own_set (Recs.own_set (Recs.own_set OQ4.out gq 0 (.string mm) NQ.out) gq 1 (.string uu) NQ.out) gq 2 (Value.slice aq (bare l).length cq) NQ.out) gq 3 (.string ⟨#[]⟩) NQ.out)
        go_wp2
        refine hK.out _ _ ?_ (fun hHeld2 => ?_)
        · exact FS.out
        clear hK K hHeld2
        refine wpAnyH_done (by kernel_rfl) ?_ _
        go_wp2
        go_meet
        case rel => exact ⟨gq, _, rfl, hgq, FB, FO, NQ, FS⟩
    · go_wp2
      have AL1 : Hid (zBox Y0.heap.size (Y0.alloc (.cells #[.string ⟨#[]⟩, .string ⟨#[]⟩, .slice none 0 0, .string ⟨#[]⟩] 39))) := heap_alloc_new Y0 _
      have hb1 : Below Y0.heap.size Y0 (Y0.alloc (.cells #[.string ⟨#[]⟩, .string ⟨#[]⟩, .slice none 0 0, .string ⟨#[]⟩] 39)) := (Below.refl _ _).alloc (Nat.le_refl _) _
      have hgq : w3.heap.size ≤ Y0.heap.size := hHeld.size
      refine hK.out _ _ ?_ (fun hHeld2 => ?_)
      · exact hHeld.trans (hb1.mono hHeld.size)
      clear hK K hHeld hb1
      generalize Y0.alloc (.cells #[.string ⟨#[]⟩, .string ⟨#[]⟩, .slice none 0 0, .string ⟨#[]⟩] 39) = Y1 at *
      generalize Y0.heap.size = gq at *
      replace hHeld := hHeld2
      clear hHeld2
      refine Reg.call (i := 1) rfl (by kernel_rfl) (by rfl) (fun K hK => ?_)
      go_wp2_with (first | (go_at_call 106; refine (HCm.out _).mono ?_; rintro e Y2 ⟨rfl, hb2⟩))
      have AL2 := Num.hide (AL1.out.step hb2)
      refine hK.out _ _ ?_ (fun hHeld2 => ?_)
      · exact hHeld.trans (hb2.mono hHeld.size)
      clear hK K hHeld hb2
      replace hHeld := hHeld2
      clear hHeld2
      refine Reg.call (i := 3) rfl (by kernel_rfl) (by rfl) (fun K hK => ?_)
      go_wp2_with (first | (go_at_call 106; refine (HCu.out _).mono ?_; rintro e Y3 ⟨rfl, hb3⟩))
      have AL3 := Num.hide (AL2.out.step hb3)
      refine hK.out _ _ ?_ (fun hHeld2 => ?_)
      · exact hHeld.trans (hb3.mono hHeld.size)
      clear hK K hHeld hb3
      replace hHeld := hHeld2
      clear hHeld2
      refine Reg.call (i := 8) rfl (by kernel_rfl) (by rfl) (fun K hK => ?_)
      go_wp2_with (first | (go_at_call 107; refine (HBr.out _ _ (Recs.is_below (Recs.own_is Flds.cells_len O3.out) hHeld)).mono ?_; rintro e Y4 ⟨vq, rfl, ho4, hb4⟩; obtain ⟨aq, cq, hvq⟩ := Recs.own_len ho4; subst hvq))
      have OQ4 := Num.hide (Recs.own_mono ho4 hHeld.size)
      have NQ : Hid (∀ j, (Value.slice aq (bare l).length cq).ownBlock = some j → j ≠ gq) := fun j hj => by have := (Recs.own_lt ho4 j hj).1; have := AL3.out.lt; omega
      have AL4 := Num.hide (AL3.out.step hb4)
      refine hK.out _ _ ?_ (fun hHeld2 => ?_)
      · exact hHeld.trans (hb4.mono hHeld.size)
      clear hK K hHeld hb4
      replace hHeld := hHeld2
      clear hHeld2
      refine Reg.take (i := 9) (d := 27) (v := ?_) rfl rfl (by kernel_rfl) (by kernel_rfl) (by kernel_rfl) (fun _ _ _ h => h) (by rfl) ?_ hHeld ?_
      rotate_left
      · rintro X hX
        obtain ⟨g0, g1, g2⟩ := (S3.out.rd.step hX).cells
        first | (go_simp; done) | (go_simp; with_reducible rfl)
      simp only [Act.put, List.setIfInBounds_toArray, List.set_cons_zero, List.set_cons_succ]
      refine Reg.call (i := 11) rfl (by kernel_rfl) (by rfl) (fun K hK => ?_)
      obtain ⟨z0, z1, z2, z3⟩ := RBox.thaw AL4.out
      obtain ⟨k0, k1, k2, k3⟩ := RBox.cells AL4.out
      have FB := Num.hide (RBox.fill AL4.out mm uu (Value.slice aq (bare l).length cq))
      have FS := Num.hide ((((hHeld.setCell (p := ⟨gq, 0, none⟩) hgq (.string mm)).setCell (p := ⟨gq, 1, none⟩) hgq (.string uu)).setCell (p := ⟨gq, 2, none⟩) hgq (Value.slice aq (bare l).length cq)).setCell (p := ⟨gq, 3, none⟩) hgq (.string ⟨#[]⟩))
      have FO := Num.hide (Recs.own_set (Recs.own_set (Recs.own_set (Recs.own_set OQ4.out gq 0 (.string mm) NQ.out) gq 1 (.string uu) NQ.out) gq 2 (Value.slice aq (bare l).length cq) NQ.out) gq 3 (.string ⟨#[]⟩) NQ.out)
      go_wp2
      refine hK.out _ _ ?_ (fun hHeld2 => ?_)
      · exact FS.out
      clear hK K hHeld2
      refine wpAnyH_done (by kernel_rfl) ?_ _
      go_wp2
      go_meet
      case rel => exact ⟨gq, _, rfl, hgq, FB, FO, NQ, FS⟩
  case rest =>
    obtain ⟨gq, vq, rfl, hgq, FB, FO, NQ, FS⟩ := hcut
    have S4 := Num.hide (S3.out.step FS.out)
    have O4 := Num.hide (Recs.own_below O3.out FS.out)
    have hg3 := S3.out.grown.size
    have hb3 := S3.out.box.lt
    have hwl := S4.out.grown.size
    clear c0 c1 c2 HBr HCm HCu dv
    obtain ⟨aq, cq, hvq⟩ := Recs.own_len FO.out
    subst hvq
    obtain ⟨k0, k1, k2, k3⟩ := RBox.cells FB.out
    go_wp2_with fail
    refine (HOk.out _ _ (Recs.own_is Flds.cells_len FO.out) (HG.out _ S4.out.grown).signs).mono ?_
    rintro e w5 ⟨rfl, hb5⟩
    have S5 := Num.hide (S4.out.step hb5)
    have O5 := Num.hide (Recs.own_below O4.out hb5)
    have FO5 := Num.hide (Recs.own_below FO.out hb5)
    have FB5 := Num.hide (RBox.step FB.out hb5)
    have hz5 := hb5.size
    clear hb5 k0 k1 k2 k3 S4 O4 FO FB HOk S3 O3
    cases hok : reqOk mm uu (bare l) ⟨#[]⟩ with
    | false =>
      have hR := HR.out hok
      subst hR
      clear HR2 HB hok
      go_wp2_with fail
      refine (demand_no m b _ (HG.out _ S5.out.grown).errs).mono ?_
      rintro e w6 ⟨rfl, rfl⟩
      have HE := Num.hide (ended g s m b W w5 2 (.inr rfl) S5.out.grown)
      unfold thrown at HE ⊢
      exact ⟨rfl, HE.out⟩
    | true =>
      have hR := HR2.out hok
      clear HR HR2 hok
      go_wp2_with fail
      refine (demand_yes _).mono ?_
      rintro e w6 ⟨rfl, rfl⟩
      go_wp2_with fail
      refine (HB.out _ _ S5.out.rd (Recs.own_is Flds.cells_len O5.out) (HG.out _ S5.out.grown)).mono ?_
      rintro e w6 hbe
      clear HB
      unfold bodyEnd at hbe
      obtain ⟨hg6, hif⟩ := hbe
      by_cases h0 : T.2.2 = 0
      · rw [if_pos h0] at hif hR
        obtain ⟨rfl, hr6⟩ := hif
        obtain ⟨_, hu0, _⟩ := hbin h0
        subst hR
        have S6 := Num.hide (S5.out.grow hg6 hgl hr6)
        have FO6 := Num.hide (Recs.own_kept FO5.out hg6 (by
          cases hv : (Value.slice aq (bare l).length cq).ownBlock with
          | none => exact .inl rfl
          | some j => exact .inr (fun e => by have := (Recs.own_lt FO5.out j hv).1; have e2 := Option.some.inj e; omega)))
        have FB6 := Num.hide (RBox.mark FB5.out hg6 (fun j hj => by have := Option.some.inj hj; omega))
        have hwr : W.heap.size < w3.heap.size := hb3
        have hnr : ∀ j, (Value.slice aq (bare l).length cq).ownBlock = some j → j ≠ W.heap.size := fun j hj => by have := (Recs.own_lt FO6.out j hj).1; omega
        have HE : Hid (reqEnd g s m b W ((mm, uu, bare l, T.1), ((k + 2 + n : Nat) : Int) + T.2.1, 0) (.returned (.agg #[.string mm, .string uu, .slice aq (bare l).length cq, .string T.1])) (((((w6.setCell ⟨gq, 3, none⟩ (.string T.1)).setCell ⟨W.heap.size, 0, none⟩ (.string mm)).setCell ⟨W.heap.size, 1, none⟩ (.string uu)).setCell ⟨W.heap.size, 2, none⟩ (.slice aq (bare l).length cq)).setCell ⟨W.heap.size, 3, none⟩ (.string T.1))) := by
          refine ⟨grown_far (grown_far (grown_far (grown_far (grown_far S6.out.grown gq 3 _ (by omega)) _ 0 _ (Nat.le_refl _)) _ 1 _ (Nat.le_refl _)) _ 2 _ (Nat.le_refl _)) _ 3 _ (Nat.le_refl _), ?_⟩
          rw [if_pos rfl]
          refine ⟨_, rfl, Recs.own_mono (Recs.own_set (Recs.own_set (Recs.own_set (Recs.own_set (Recs.own_set FO6.out gq 3 _ NQ.out) _ 0 _ hnr) _ 1 _ hnr) _ 2 _ hnr) _ 3 _ hnr) (by omega), .slice a3 l.length q3, k + 2 + n + T.2.1.toNat, by show ((k + 2 + n : Nat) : Int) + T.2.1 = ((k + 2 + n + T.2.1.toNat : Nat) : Int); omega, ?_⟩
          exact Recs.box_far (Recs.box_far (Recs.box_far (Recs.box_far (Recs.box_far hr6 _ (by omega)) _ (by omega)) _ (by omega)) _ (by omega)) _ (by omega)
        obtain ⟨k0, k1, k2, k3⟩ := RBox.cells FB6.out
        have z3 := (RBox.thaw FB6.out).2.2.2
        obtain ⟨o0, o1, o2, o3⟩ := RBox.cells S6.out.box
        obtain ⟨y0, y1, y2, y3⟩ := RBox.thaw S6.out.box
        obtain ⟨r, hr⟩ : ∃ r, W.heap.size = r := ⟨_, rfl⟩
        rw [hr] at HE o0 o1 o2 o3 y0 y1 y2 y3 ⊢
        have n1 : ¬ gq = r := by omega
        have n2 : ¬ r = gq := by omega
        clear hg6 hr6 S6 FO6 FB6 S5 O5 FO5 FB5 hnr hbin h0
        go_wp2
        exact bodyPost_ret (v := .agg #[.string mm, .string uu, .slice aq (bare l).length cq, .string T.1]) (by simp [results, Tryz.results54, go_sem, *]) rfl HE.out
      · rw [if_neg h0] at hif hR
        obtain ⟨hc, rfl⟩ := hif
        have hgr := Recs.grown_trans S5.out.grown hg6
        have HE : Hid (reqEnd g s m b W R (thrown m b T.2.2.toNat) w6) := by
          rw [hR]
          rcases hc with h1 | h1
          · rw [h1]; exact ended g s m b W w6 1 (.inl rfl) hgr
          · rw [h1]; exact ended g s m b W w6 2 (.inr rfl) hgr
        clear hR hc hgr hbin
        unfold thrown at HE ⊢
        exact ⟨rfl, HE.out⟩
end Msg
end Go.Proofs.YtbajfklnekfeoaaGreatDoor
namespace Go.Proofs.YtbajfklnekfeoaaGreatDoor
open Go.RowKit Go.Extern.Stop Go.Stop
set_option linter.unusedVariables false
namespace Msg

set_option maxRecDepth 100000 in
set_option maxHeartbeats 2000000 in
theorem code_more (m b : Addr) (w : World) (hE : Body.Errs m b w) : Calls Tryz.prog 101 #[Body.errV m b 1] w fun e w' => e = .returned (.int .i64 1) ∧ w = w' := by
  have hm := hE.cm
  have HI := Num.hide (IsErr.is_same m w)
  clear hE
  show Calls _ _ #[.iface 199 (.pointer (some m))] _ _
  go_enter Tryz.func101, Tryz.ntmps101
  go_wp2_with fail
  refine HI.out.mono ?_
  rintro e w1 ⟨rfl, rfl⟩
  go_wp2
  go_ret
  exact ⟨rfl, rfl⟩
set_option maxRecDepth 100000 in
set_option maxHeartbeats 2000000 in
theorem code_bad (m b : Addr) (w : World) (hE : Body.Errs m b w) : Calls Tryz.prog 101 #[Body.errV m b 2] w fun e w' => e = .returned (.int .i64 2) ∧ w = w' := by
  have hm := hE.cm
  obtain ⟨ca, ta, ha⟩ := hE.rm
  obtain ⟨cb, tb, hb⟩ := hE.rb
  have HI := Num.hide (IsErr.is_other b m _ _ _ _ w (fun e => hE.ne e.symm) hb ha)
  clear hE ha hb
  show Calls _ _ #[.iface 199 (.pointer (some b))] _ _
  go_enter Tryz.func101, Tryz.ntmps101
  go_wp2_with fail
  refine HI.out.mono ?_
  rintro e w1 ⟨rfl, rfl⟩
  go_wp2
  go_ret
  exact ⟨rfl, rfl⟩
theorem code_impl (m b : Addr) (c : Nat) (hc : c = 1 ∨ c = 2) (w : World) (hE : Body.Errs m b w) : Calls Tryz.prog 101 #[Body.errV m b c] w fun e w' => e = .returned (.int .i64 (c : Int)) ∧ w = w' := by
  rcases hc with rfl | rfl
  · exact code_more m b w hE
  · exact code_bad m b w hE
theorem asserts (m b : Addr) (c : Nat) (hc : c = 1 ∨ c = 2) (xT : TypeId) (w : World) : (Instr.typeAssert (Body.errV m b c) xT 71 true).run Tryz.prog w = .ok (.tuple #[Body.errV m b c, .bool true]) w := by
  rcases hc with rfl | rfl
  · exact run_typeAssert_hasB Tryz.underlying71 (by kernel_rfl) (.pointer (some m)) xT w
  · exact run_typeAssert_hasB Tryz.underlying71 (by kernel_rfl) (.pointer (some b)) xT w
theorem asserts_nil (xT : TypeId) (w : World) : (Instr.typeAssert .nilIface xT 71 true).run Tryz.prog w = .ok (.tuple #[.nilIface, .bool false]) w := by kernel_rfl
set_option maxRecDepth 100000 in
set_option maxHeartbeats 400000 in
theorem catch_throw (p : Addr) (c : Nat) (hc : c = 1 ∨ c = 2) (x : Int) (m b : Addr) (w : World) (hE : Body.Errs m b w) (hp : w.cell? p = some (.int .i64 x)) (hz : w.frozen? p = false) :
    CallsD Tryz.prog 100 #[.pointer (some p)] (.panicking [{ v := Body.errV m b c, recovered := false }]) w fun e u' w' => e = .returned (.tuple #[]) ∧ u' = .panicking [{ v := Body.errV m b c, recovered := true }] ∧ w' = w.setCell p (.int .i64 (c : Int)) := by
  have hA := asserts m b c hc
  have HC := Num.hide (code_impl m b c hc w hE)
  clear hE
  generalize Body.errV m b c = ev at hA HC ⊢
  refine callsD_of_wpS Tryz.func100 rfl fun c₀ cs hu => ?_
  apply wpS_seq
  apply wpS_region
  simp [wpOpsS, go_sem, recoverD, hu, Tryz.ntmps100, Exit.thenS, hA]
  apply wpS_seq
  apply wpS_region
  simp [wpOpsS, go_sem, Exit.thenS]
  refine wpS_cond (t := true) (by simp [Act.eval, Array.replicate]) ?_
  simp only [if_true]
  apply wpS_region
  simp [wpOpsS, go_sem, Array.replicate]
  refine HC.out.mono ?_
  rintro e w1 ⟨rfl, rfl⟩
  simp [go_sem, hp, hz, bodyPostS, results, Tryz.results100]
set_option maxRecDepth 100000 in
set_option maxHeartbeats 2000000 in
theorem catch_idle (p : Addr) (w : World) :
    CallsD Tryz.prog 100 #[.pointer (some p)] .returning w fun e u' w' => e = .returned (.tuple #[]) ∧ u' = .returning ∧ w' = w := by
  have hA := asserts_nil
  refine callsD_of_wpS Tryz.func100 rfl fun c₀ cs hu => ?_
  apply wpS_seq
  apply wpS_region
  simp [wpOpsS, go_sem, recoverD, hu, Tryz.ntmps100, Exit.thenS, hA]
  apply wpS_seq
  apply wpS_region
  simp [wpOpsS, go_sem, Exit.thenS]
  refine wpS_cond (t := false) (by simp [Act.eval, Array.replicate]) ?_
  simp only [Bool.false_eq_true, if_false]
  refine wpS_of_wp (wp_skip ?_)
  cases c₀
  simp_all [bodyPostS, results, Tryz.results100]
set_option maxRecDepth 100000 in
set_option maxHeartbeats 400000 in
theorem catch_throw3 (p : Addr) (c : Nat) (hc : c = 1 ∨ c = 2) (x : Int) (m b : Addr) (w : World) (hE : Body.Errs m b w) (hp : w.cell? p = some (.int .i64 x)) (hz : w.frozen? p = false) :
    CallsD Tryz.prog 114 #[.pointer (some p)] (.panicking [{ v := Body.errV m b c, recovered := false }]) w fun e u' w' => e = .returned (.tuple #[]) ∧ u' = .panicking [{ v := Body.errV m b c, recovered := true }] ∧ w' = w.setCell p (.int .i64 (c : Int)) := by
  have hA := asserts m b c hc
  have HC := Num.hide (code_impl m b c hc w hE)
  clear hE
  generalize Body.errV m b c = ev at hA HC ⊢
  refine callsD_of_wpS Tryz.func114 rfl fun c₀ cs hu => ?_
  apply wpS_seq
  apply wpS_region
  simp [wpOpsS, go_sem, recoverD, hu, Tryz.ntmps114, Exit.thenS, hA]
  apply wpS_seq
  apply wpS_region
  simp [wpOpsS, go_sem, Exit.thenS]
  refine wpS_cond (t := true) (by simp [Act.eval, Array.replicate]) ?_
  simp only [if_true]
  apply wpS_region
  simp [wpOpsS, go_sem, Array.replicate]
  refine HC.out.mono ?_
  rintro e w1 ⟨rfl, rfl⟩
  simp [go_sem, hp, hz, bodyPostS, results, Tryz.results114]
set_option maxRecDepth 100000 in
set_option maxHeartbeats 2000000 in
theorem catch_idle3 (p : Addr) (w : World) :
    CallsD Tryz.prog 114 #[.pointer (some p)] .returning w fun e u' w' => e = .returned (.tuple #[]) ∧ u' = .returning ∧ w' = w := by
  have hA := asserts_nil
  refine callsD_of_wpS Tryz.func114 rfl fun c₀ cs hu => ?_
  apply wpS_seq
  apply wpS_region
  simp [wpOpsS, go_sem, recoverD, hu, Tryz.ntmps114, Exit.thenS, hA]
  apply wpS_seq
  apply wpS_region
  simp [wpOpsS, go_sem, Exit.thenS]
  refine wpS_cond (t := false) (by simp [Act.eval, Array.replicate]) ?_
  simp only [Bool.false_eq_true, if_false]
  refine wpS_of_wp (wp_skip ?_)
  cases c₀
  simp_all [bodyPostS, results, Tryz.results114]
end Msg
end Go.Proofs.YtbajfklnekfeoaaGreatDoor
