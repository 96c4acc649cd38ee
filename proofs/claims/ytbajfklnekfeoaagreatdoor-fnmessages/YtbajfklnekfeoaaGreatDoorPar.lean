/-
  JoinInv: joinPieces of the program: what its boxes hold between two pieces, and that it stays.
  TellBody: tellBody of the program: what is told of a body and an error.
  JoinImpl: joinPieces of the program: the pieces of a body put together, or the error of the first at fault; what was there stays.
  UnchunkImpl: Unchunk of the program: what the call returns, for every text; what was there stays.
  ChsStr: putChosen of the program from fields to texts: what a choice makes of those of a list that it takes, behind each other in a row of the call's own.
  ShelfJoin: Library contracts at this program: strings_Join_none, strings_Join.
  FldGetImpl: FieldGet of the program: all values of a name, joined; what was there stays.
-/
import Derived.Test.YtbajfklnekfeoaaGreatDoorPaq
import Derived.Test.YtbajfklnekfeoaaGreatDoorPap
import Derived.Test.YtbajfklnekfeoaaGreatDoorPal
import Derived.Shelf.Strings.Builder1
import Derived.Shelf.Strings.Builder2
import Derived.Shelf.Strings.OnBuilder
import Derived.Shelf.Strings.Trim
import Derived.Shelf.Small.Utf8
import Derived.Shelf.Small.Strs
import Derived.Shelf.Strings.BuilderF
import Derived.Shelf.Strings.BuilderK
import Derived.Shelf.Strconv.Atoi
import Derived.Shelf.Strconv.Itoa0
import Derived.Shelf.Strconv.Itoa1
import Derived.Shelf.LaysM
import Derived.Shelf.Strconv.Itoa2
import Derived.Shelf.Strconv.Itoa3
import Derived.Shelf.Strconv.AtoiErrFast
import Derived.Shelf.Strconv.ParseIntEmpty
import Derived.Shelf.Strconv.AtoiFail
import Derived.Shelf.Strconv.Clone
import Derived.Shelf.Strconv.SyntaxError
import Derived.Shelf.LaysC
import Derived.Shelf.Strconv.ToError
import Derived.Shelf.Strconv.AtoiErr
import Derived.Shelf.Strconv.ErrVar
import Derived.Shelf.Strings.Search1
import Derived.Shelf.Strings.Search2
import Derived.Shelf.Strings.Search3
import Derived.Shelf.Strings.Cut
import Derived.Shelf.Strings.Shaped
import Derived.Shelf.Strings.Prefix
import Derived.Shelf.Unicode.Decode
import Derived.Shelf.Strings.Runes
import Derived.Shelf.Strings.AsciiSet
import Derived.Shelf.Unicode.DecodeSlow
import Derived.Shelf.Unicode.DecodeAny
import Derived.Shelf.Unicode.DecodeLast
import Derived.Test.YtbajfklnekfeoaaGreatDoorRows
import Derived.Test.YtbajfklnekfeoaaGreatDoorPaf
namespace Go.Proofs.YtbajfklnekfeoaaGreatDoor
open Go.RowKit Go.Shelf
set_option linter.unusedVariables false
namespace Body

theorem catB_le (l : List Pc) : (catB l).size ≤ 60 * l.length := by
  refine Num.snoc_ind (P := fun l => (catB l).size ≤ 60 * l.length) (by decide) ?_ l
  intro l x ih
  have := x.2.1
  rw [catB_snoc, ByteArray.size_append, List.length_append, List.length_singleton]
  omega
theorem sumU_le (l : List Pc) : sumU l ≤ 4194304 * l.length := by
  refine Num.snoc_ind (P := fun l => sumU l ≤ 4194304 * l.length) (by decide) ?_ l
  intro l x ih
  have := x.2.2.1
  rw [sumU_snoc, List.length_append, List.length_singleton]
  omega
theorem boxed_rows {W W' : World} {k : Nat} {t : TypeId} {v : Value} (h : Boxed W k t v) (hr : RowsStay W W') : Boxed W' k t v := hr _ _ _ _ h
/-- all rows but one stay -/
theorem isb_set {T e : TypeId} {B b q : Nat} {bs : List Value} {W : World} {t : TypeId} {v : Value} (h : Lib.IsBuilderF T e B b bs W) (hq : Boxed W q t v) (ht : t ≠ e) (hb : q ≠ b) (u : Value) : Lib.IsBuilderF T e B b bs (W.setCell ⟨q, 0, none⟩ u) := by
  have hk : ∀ k, k ≠ q → (W.setCell ⟨q, 0, none⟩ u).heap[k]? = W.heap[k]? := fun k hk => Below.heap_setCell _ _ _ _ (fun e => hk e)
  have key : ∀ p, Lib.BuilderAtF T e B b p bs W → Lib.BuilderAtF T e B b p bs (W.setCell ⟨q, 0, none⟩ u) := by
    rintro p ⟨hB, v', hb', ⟨h1, h2⟩, hne⟩
    refine ⟨hB, v', (hk b (fun e => hb e.symm)).trans hb', ⟨h1, ?_⟩, hne⟩
    rcases h2 with h2 | ⟨g, cap, cur, fz, e1, e2, e3, e4⟩
    · exact .inl h2
    · refine .inr ⟨g, cap, cur, fz, e1, e2, (hk g ?_).trans e3, e4⟩
      rintro rfl
      rw [show W.heap[g]? = _ from hq] at e3
      cases e3
      exact ht rfl
  exact h.elim (fun x => .inl (key _ x)) (fun x => .inr (key _ x))
/-- between two pieces -/
structure JInv (w : World) (q1 q2 q3 q4 : Nat) (pre : List Pc) (W : World) : Prop where
  r0 : Boxed W w.heap.size 9 (.string ⟨#[]⟩)
  r1 : Boxed W q1 3 (.int .i64 0)
  r2 : Boxed W q2 71 .nilIface
  bd : Lib.IsBuilderF 66 5 q3 q3 (Lib.byteCells (catB pre).data.toList) W
  us : Boxed W q4 3 (.int .i64 (sumU pre : Int))
  be : Below w.heap.size w W
  ok : ∀ x ∈ pre, x.1.2.2 = 0
theorem jinv_rows {w : World} {q1 q2 q3 q4 : Nat} {pre : List Pc} {W W' : World} (h : JInv w q1 q2 q3 q4 pre W) (hr : RowsStay W W') (hb : Below w.heap.size w W') : JInv w q1 q2 q3 q4 pre W' :=
  ⟨boxed_rows h.r0 hr, boxed_rows h.r1 hr, boxed_rows h.r2 hr, isb_rows h.bd hr, boxed_rows h.us hr, hb, h.ok⟩
theorem jinv_own {n : Nat} (w : World) (q1 q2 q3 q4 : Nat) (hn : w.heap.size ≤ n) : OwnFrom n (fun pre W => JInv w q1 q2 q3 q4 pre W) := fun s W W' row hs hg hr =>
  jinv_rows hs (rows_turn hg (fun r e => (hr r e).2)) ((ownFrom_below (β := Unit) (Nat.le_refl _) hn) () W W' row hs.be hg hr)
/-- where a piece at fault has been told -/
structure JOut (w : World) (q1 q2 : Nat) (m b : Addr) (c : Code) (pre : List Pc) (W : World) : Prop where
  cr : c = .ret
  last : ∃ init x, pre = init ++ [x] ∧ x.1.2.2 ≠ 0 ∧ Boxed W q2 71 (errV m b x.1.2.2)
  r0 : Boxed W w.heap.size 9 (.string ⟨#[]⟩)
  r1 : Boxed W q1 3 (.int .i64 0)
  be : Below w.heap.size w W
theorem jout_own {n : Nat} (w : World) (q1 q2 : Nat) (m b : Addr) (c : Code) (hn : w.heap.size ≤ n) : OwnFrom n (fun pre W => JOut w q1 q2 m b c pre W) := fun s W W' row hs hg hr => by
  have hrs := rows_turn hg (fun r e => (hr r e).2)
  obtain ⟨init, x, h1, h2, h3⟩ := hs.last
  exact ⟨hs.cr, ⟨init, x, h1, h2, boxed_rows h3 hrs⟩, boxed_rows hs.r0 hrs, boxed_rows hs.r1 hrs, (ownFrom_below (β := Unit) (Nat.le_refl _) hn) () W W' row hs.be hg hr⟩
/-- the piece in its box -/
def JBox (Bx : Nat) (x : Pc) (W : World) : Prop := W.heap[Bx]? = some (.cells #[.string x.1.1, .int .i64 (x.1.2.1 : Int)] 117 (0, 0))
theorem rows_alloc (W : World) (o : Obj) : RowsStay W (W.alloc o) := fun k c t fz hk => (Below.heap_alloc W o k (Array.getElem?_eq_some_iff.1 hk).1).trans hk
end Body
end Go.Proofs.YtbajfklnekfeoaaGreatDoor
namespace Go.Proofs.YtbajfklnekfeoaaGreatDoor
open Go.RowKit
set_option linter.unusedVariables false
namespace Body

/-- what is told -/
def tell (t : ByteArray) (u : Int) (c : Nat) : Told := if c = 0 then (t, u, 0) else (⟨#[]⟩, 0, (c : Int))
set_option maxRecDepth 100000 in
set_option maxHeartbeats 2000000 in
theorem tell_impl (t : ByteArray) (u : Int) (c : Nat) (m b : Addr) (w : World) (hc : c ≤ 2) (hE : Errs m b w) :
    Calls Tryz.prog 43 #[.string t, .int .i64 u, errV m b c] w fun e w' => e = .returned (.tuple #[.string (tell t u c).1, .int .i64 (tell t u c).2.1, .int .i64 (tell t u c).2.2]) ∧ w = w' := by
  have hm := hE.cm
  obtain ⟨ca, ta, ha⟩ := hE.rm
  obtain ⟨cb, tb, hb⟩ := hE.rb
  match c, hc with
  | 0, _ =>
    have HI := Num.hide (IsErr.is_nil m w)
    clear hE ha hb
    show Calls _ _ #[.string t, .int .i64 u, .nilIface] _ _
    go_enter Tryz.func43, Tryz.ntmps43
    go_wp2_with fail
    refine HI.out.mono ?_
    rintro e w1 ⟨rfl, rfl⟩
    go_wp2
    go_ret3
    exact ⟨rfl, rfl⟩
  | 1, _ =>
    have HI := Num.hide (IsErr.is_same m w)
    clear hE ha hb
    show Calls _ _ #[.string t, .int .i64 u, .iface 199 (.pointer (some m))] _ _
    go_enter Tryz.func43, Tryz.ntmps43
    go_wp2_with fail
    refine HI.out.mono ?_
    rintro e w1 ⟨rfl, rfl⟩
    go_wp2
    go_ret3
    exact ⟨rfl, rfl⟩
  | 2, _ =>
    have HI := Num.hide (IsErr.is_other b m cb ca tb ta w (fun h => hE.ne h.symm) hb ha)
    clear hE ha hb
    show Calls _ _ #[.string t, .int .i64 u, .iface 199 (.pointer (some b))] _ _
    go_enter Tryz.func43, Tryz.ntmps43
    go_wp2_with fail
    refine HI.out.mono ?_
    rintro e w1 ⟨rfl, rfl⟩
    go_wp2
    go_ret3
    exact ⟨rfl, rfl⟩
end Body
end Go.Proofs.YtbajfklnekfeoaaGreatDoor
namespace Go.Proofs.YtbajfklnekfeoaaGreatDoor
open Go.RowKit Go.Shelf
attribute [local go_sem] Oper.semAt_some
set_option linter.unusedVariables false
namespace Body

set_option maxRecDepth 100000 in
theorem pieces_call (s : ByteArray) (w : World) : Calls Tryz.prog 86 #[.string s] w fun e w' => e = .returned (.func (.func 132) #[] #[.pointer (some ⟨w.heap.size, 0, none⟩)]) ∧ w' = w.alloc (.cells #[.string s] 9) := by
  go_enter Tryz.func86, Tryz.ntmps86
  go_wp2
  go_ret
  exact ⟨rfl, rfl⟩
set_option maxRecDepth 100000 in
set_option maxHeartbeats 4000000 in
theorem join_impl (s : ByteArray) (m b : Addr) (w : World) (hs : s.size ≤ 1048576) (hm : Lim w) (hS : Syn w) (hE : Errs m b w) :
    Calls Tryz.prog 44 #[.string s] w fun e w' => ∃ t u c, e = .returned (.tuple #[.string t, .int .i64 u, errV m b c]) ∧ c ≤ 2 ∧ tell t u c = unchunk s ∧ Below w.heap.size w w' := by
  have HG : Hid (∀ W, Below w.heap.size w W → Lim W ∧ Syn W ∧ Errs m b W) := fun W h => ⟨hm.below h, hS.below h, hE.below h⟩
  clear hm hS hE
  refine (callsIn_wide (n := 3)).1 ?_
  refine callsIn_of_wp_marks Tryz.func44 rfl trivial ?_ rfl
  simp only [Tryz.ntmps44, List.size_toArray, List.length_cons, List.length_nil, Nat.reduceAdd, Nat.reduceSub, Array.replicate_succ, Array.replicate_zero, List.push_toArray, List.append_toArray, List.nil_append, List.cons_append]
  gi_wp2_with (refine ⟨trivial, ?_⟩; gi_at_call 86; refine (callsIn_wide.2 (pieces_call _ _)).mono ?_; rintro e w' ⟨rfl, rfl⟩)
  have hsz : (((((w.alloc (.cells #[.string ⟨#[]⟩] 9)).alloc (.cells #[.int .i64 0] 3)).alloc (.cells #[.nilIface] 71)).alloc (.cells #[.pointer none, .slice none 0 0] 66)).alloc (.cells #[.int .i64 0] 3)).heap.size = w.heap.size + 1 + 1 + 1 + 1 + 1 := by simp
  obtain ⟨W0, hW0⟩ : ∃ W0, (((((w.alloc (.cells #[.string ⟨#[]⟩] 9)).alloc (.cells #[.int .i64 0] 3)).alloc (.cells #[.nilIface] 71)).alloc (.cells #[.pointer none, .slice none 0 0] 66)).alloc (.cells #[.int .i64 0] 3)).alloc (.cells #[.string s] 9) = W0 := ⟨_, rfl⟩
  rw [hW0]
  have hsz0 : W0.heap.size = w.heap.size + 1 + 1 + 1 + 1 + 1 + 1 := by rw [← hW0]; simp
  have hB0 : Below w.heap.size w W0 := by
    rw [← hW0]
    exact ((((((Below.refl _ w).alloc (Nat.le_refl _) _).alloc (by simp) _).alloc (by simp; omega) _).alloc (by simp; omega) _).alloc (by simp; omega) _).alloc (by simp; omega) _
  have k0 : Boxed W0 w.heap.size 9 (.string ⟨#[]⟩) := by
    rw [← hW0]
    exact (((((Boxed.new w 9 (.string ⟨#[]⟩)).alloc _).alloc _).alloc _).alloc _).alloc _
  have k1 : Boxed W0 (w.heap.size + 1) 3 (.int .i64 0) := by
    rw [← hW0]
    have := ((((Boxed.new (w.alloc (.cells #[.string ⟨#[]⟩] 9)) 3 (.int .i64 0)).alloc (.cells #[.nilIface] 71)).alloc (.cells #[.pointer none, .slice none 0 0] 66)).alloc (.cells #[.int .i64 0] 3)).alloc (.cells #[.string s] 9)
    rw [World.size_alloc] at this
    exact this
  have k2 : Boxed W0 (w.heap.size + 1 + 1) 71 .nilIface := by
    rw [← hW0]
    have := (((Boxed.new ((w.alloc (.cells #[.string ⟨#[]⟩] 9)).alloc (.cells #[.int .i64 0] 3)) 71 .nilIface).alloc (.cells #[.pointer none, .slice none 0 0] 66)).alloc (.cells #[.int .i64 0] 3)).alloc (.cells #[.string s] 9)
    rw [World.size_alloc, World.size_alloc] at this
    exact this
  have k3 : Lib.IsBuilderF 66 5 (w.heap.size + 1 + 1 + 1) (w.heap.size + 1 + 1 + 1) (Lib.byteCells (catB []).data.toList) W0 := by
    rw [← hW0]
    have := ((Lib.IsBuilderF.of (Lib.fresh_isBuilder 66 5 (((w.alloc (.cells #[.string ⟨#[]⟩] 9)).alloc (.cells #[.int .i64 0] 3)).alloc (.cells #[.nilIface] 71)))).alloc (.cells #[.int .i64 0] 3)).alloc (.cells #[.string s] 9)
    rw [World.size_alloc, World.size_alloc, World.size_alloc] at this
    exact this
  have k4 : Boxed W0 (w.heap.size + 1 + 1 + 1 + 1) 3 (.int .i64 0) := by
    rw [← hW0]
    have := (Boxed.new ((((w.alloc (.cells #[.string ⟨#[]⟩] 9)).alloc (.cells #[.int .i64 0] 3)).alloc (.cells #[.nilIface] 71)).alloc (.cells #[.pointer none, .slice none 0 0] 66)) 3 (.int .i64 0)).alloc (.cells #[.string s] 9)
    rw [World.size_alloc, World.size_alloc, World.size_alloc, World.size_alloc] at this
    exact this
  have k5 : Boxed W0 (w.heap.size + 1 + 1 + 1 + 1 + 1) 9 (.string s) := by
    rw [← hW0]
    have := Boxed.new (((((w.alloc (.cells #[.string ⟨#[]⟩] 9)).alloc (.cells #[.int .i64 0] 3)).alloc (.cells #[.nilIface] 71)).alloc (.cells #[.pointer none, .slice none 0 0] 66)).alloc (.cells #[.int .i64 0] 3)) 9 (.string s)
    rw [hsz] at this
    exact this
  clear hW0 hsz
  generalize h1 : w.heap.size + 1 = q1 at *
  generalize h2 : q1 + 1 = q2 at *
  generalize h3 : q2 + 1 = q3 at *
  generalize h4 : q3 + 1 = q4 at *
  generalize h5 : q4 + 1 = q5 at *
  have hINV : JInv w q1 q2 q3 q4 [] W0 := ⟨k0, k1, k2, k3, k4, hB0, fun x hx => by cases hx⟩
  refine wpIn_rangeFunc_ownH rfl (by omega) (gf := 132) (lb := #[.pointer (some ⟨q5, 0, none⟩)]) rfl trivial (enters_of Tryz.func132 (by kernel_rfl) rfl)
    (pieces_stops 2 w.heap.size q5 s m b W0 (by omega) hs (by omega) (fun W h => HG.out W (hB0.trans h)) k5) (fun h k => keepP_t h k) (keepP_b (by omega)) (Below.refl _ _) (fun _ => rfl)
    (fun pre W => JInv w q1 q2 q3 q4 pre W)
    (fun c pre W => JOut w q1 q2 m b c pre W)
    (jinv_own w q1 q2 q3 q4 (by omega)) (fun c => jout_own w q1 q2 m b c (by omega))
    hINV
    (fun x a' W => ∃ Bx, q4 < Bx ∧ JBox Bx x W ∧ a' = { tmps := #[.string s, undef, .pointer (some ⟨w.heap.size, 0, none⟩), .pointer (some ⟨q1, 0, none⟩), .pointer (some ⟨q2, 0, none⟩), .pointer (some ⟨q3, 0, none⟩), .pointer (some ⟨q4, 0, none⟩), .pointer (some ⟨Bx, 0, none⟩), errV m b x.1.2.2, .string s, .func (.func 132) #[] #[.pointer (some ⟨q5, 0, none⟩)], .agg #[.string x.1.1, .int .i64 (x.1.2.1 : Int)], errV m b x.1.2.2, undef, undef, undef, undef, undef, undef, undef, undef, undef, undef, undef, undef], defers := [] })
    (fun x a' => fun _ W W' row hs hg hr => by
      obtain ⟨Bx, h1, h2, h3⟩ := hs
      exact ⟨Bx, h1, rows_turn hg (fun r e => (hr r e).2) _ _ _ _ h2, h3⟩)
    ?assign ?body ?done ?stop
  case assign =>
    rintro l pre x W K hi hK
    have HK := Num.hide hK
    clear hK
    gi_wp2
    refine HK.out _ _ ((KeepsOthers.alloc _ _).from _) ⟨(Below.refl _ W).alloc hi.be.size _, fun k c fz hk => rows_alloc W _ _ _ _ _ hk⟩ (jinv_rows hi (rows_alloc W _) (hi.be.alloc hi.be.size _)) ⟨W.heap.size, hi.us.lt, World.alloc_heap_new W _, rfl⟩
  case body =>
    rintro l pre ⟨⟨t, u, c⟩, hp⟩ a' W hl _ hi ⟨Bx, hBx, hbx, rfl⟩ hlen
    have hq4 := hi.us.lt
    by_cases hc : c = 0
    · subst hc
      have hsum := sumU_le pre
      have hcat := catB_le pre
      have hcl : (Lib.byteCells (catB pre).data.toList).length = (catB pre).size := by unfold Lib.byteCells; simp
      have ht1 : t.size ≤ 60 := hp.1
      have hu1 : u ≤ 4194304 := hp.2.1
      have HW := Num.hide (Shelf.writeStringK q3 q3 _ t W hi.bd (by rw [hcl]; omega) (by omega))
      have c0 : W.cell? ⟨Bx, 0, none⟩ = some (.string t) := by simp [World.cell?, show W.heap[Bx]? = _ from hbx]
      have hsu : sumU pre ≤ 4398050705408 := by omega
      have HI := Num.hide hi
      have HX := Num.hide hbx
      clear hi hbx hINV k0 k1 k2 k3 k4 k5 hsum hcat hcl
      simp only [errV]
      gi_wp2_with fail
      refine ⟨trivial, ?_⟩
      refine (CallsIn.inRound l (callsIn_wide.2 HW.out)).mono ?_
      rintro e w2 ⟨rfl, hI2, hb2, hk2⟩
      have u4 : Boxed w2 q4 3 (.int .i64 (sumU pre : Int)) := hk2 q4 _ HI.out.us (fun e => by cases e; omega) (fun c fz e => by cases e)
      have x2 : JBox Bx ⟨(t, u, 0), hp⟩ w2 := hk2 Bx _ HX.out (fun e => by cases e; omega) (fun c fz e => by cases e)
      have cu := u4.cell
      have fu := u4.frozen
      have c1 : w2.cell? ⟨Bx, 1, none⟩ = some (.int .i64 (u : Int)) := by simp [World.cell?, show w2.heap[Bx]? = _ from x2]
      have HI2 := Num.hide hI2
      have HB2 := Num.hide hb2
      have HK2 := Num.hide hk2
      have U4 := Num.hide u4
      clear hI2 hb2 hk2 x2 u4
      gi_wp2
      have hb3 : Below w.heap.size W w2 := HB2.out.mono (by omega)
      have hs2 := HB2.out.size
      have hR : ∀ k t v, Boxed W k t v → k < q3 → Boxed w2 k t v := fun k t v h hk => (HB2.out.block k hk).trans h
      have hcells : Lib.byteCells (catB pre).data.toList ++ Lib.strCells t = Lib.byteCells (catB (pre ++ [⟨(t, u, 0), hp⟩])).data.toList := by
        rw [catB_snoc, ByteArray.data_append, Array.toList_append, Lib.byteCells_append]
        rfl
      have hI3 := HI2.out
      rw [hcells] at hI3
      refine ⟨(from_others HK2.out hs2 (by omega)).trans ((KeepsOthers.setCell _ _ _).from _), ⟨hb3.setCell (p := ⟨q4, 0, none⟩) (by show w.heap.size ≤ q4; omega) _, fun k c fz hk => ?_⟩, ?_⟩
      · have hkq3 : k ≠ q3 := by
          rintro rfl
          rcases HI.out.bd with ⟨_, v, hb, _⟩ | ⟨_, v, hb, _⟩ <;> (rw [hb] at hk; cases hk)
        have hkq4 : k ≠ q4 := by
          rintro rfl
          rw [show W.heap[k]? = _ from HI.out.us] at hk
          cases hk
        rw [Below.heap_setCell _ _ _ _ (fun e => hkq4 e)]
        exact HK2.out k _ hk (fun e => by cases e; exact hkq3 rfl) (fun c fz e => by cases e)
      · refine ⟨(hR _ _ _ HI.out.r0 (by omega)).other (by omega) _, (hR _ _ _ HI.out.r1 (by omega)).other (by omega) _, (hR _ _ _ HI.out.r2 (by omega)).other (by omega) _, isb_set (.inr hI3) U4.out (by decide) (by omega) _, ?_, (HI.out.be.trans hb3).setCell (p := ⟨q4, 0, none⟩) (by show w.heap.size ≤ q4; omega) _, ?_⟩
        · have := U4.out.set (.int .i64 ((sumU pre : Int) + (u : Int)))
          rw [sumU_snoc]
          exact this
        · intro x hx
          rcases List.mem_append.1 hx with hx | hx
          · exact HI.out.ok x hx
          · obtain rfl := List.mem_singleton.1 hx
            rfl
    · have hcd : c ≤ 2 := hp.2.2
      obtain ⟨ad, had⟩ : ∃ ad, errV m b c = .iface 199 (.pointer (some ad)) := by
        match c, hc, hcd with
        | 1, _, _ => exact ⟨m, rfl⟩
        | 2, _, _ => exact ⟨b, rfl⟩
      have HD := Num.hide had
      have z0 := hi.r0
      have z1 := hi.r1.other (B' := w.heap.size) (by omega) (.string ⟨#[]⟩)
      have z2 := (hi.r2.other (B' := w.heap.size) (by omega) (.string ⟨#[]⟩)).other (B' := q1) (by omega) (.int .i64 0)
      have y0 := (((z0.set (.string ⟨#[]⟩)).other (B' := q1) (by omega) (.int .i64 0)).other (B' := q2) (by omega) (.iface 199 (.pointer (some ad))))
      have y1 := ((z1.set (.int .i64 0)).other (B' := q2) (by omega) (.iface 199 (.pointer (some ad))))
      have y2 := z2.set (.iface 199 (.pointer (some ad)))
      have d0 := z0.cell
      have f0 := z0.frozen
      have d1 := z1.cell
      have f1 := z1.frozen
      have d2 := z2.cell
      have f2 := z2.frozen
      have HI := Num.hide hi
      have Y0 := Num.hide y0
      have Y1 := Num.hide y1
      have Y2 := Num.hide y2
      clear hi hbx hINV k0 k1 k2 k3 k4 k5 z0 z1 z2 y0 y1 y2
      simp only [had]
      clear had
      gi_wp2
      refine ⟨((KeepsOthers.setCell _ _ _).trans ((KeepsOthers.setCell _ _ _).trans (KeepsOthers.setCell _ _ _))).from _, rfl, ⟨pre, _, rfl, hc, by rw [HD.out]; exact Y2.out⟩, Y0.out, Y1.out, ?_⟩
      exact ((HI.out.be.setCell (p := ⟨w.heap.size, 0, none⟩) (Nat.le_refl _) _).setCell (p := ⟨q1, 0, none⟩) (by show w.heap.size ≤ q1; omega) _).setCell (p := ⟨q2, 0, none⟩) (by show w.heap.size ≤ q2; omega) _
  case done =>
    rintro D xs W hD hEnd hi hK
    have hq4 := hi.us.lt
    have HT := Num.hide (fun W' h => Shelf.builderStringK q3 q3 (catB xs).data.toList W' h)
    have hmx : Tryz.prog.follows .mixedOrders = true := by kernel_rfl
    have HE : Hid (unchunk s = (catB xs, (sumU xs : Int), 0)) := hEnd hi.ok
    have cu := hi.us.cell
    have HI := Num.hide hi
    have HK := Num.hide hK
    clear hi hK hEnd hINV k0 k1 k2 k3 k4 k5
    have hTe : (⟨(catB xs).data.toList.toArray⟩ : ByteArray) = catB xs := rfl
    rw [hTe] at HT
    clear hTe
    obtain ⟨T, hT⟩ : ∃ T, catB xs = T := ⟨_, rfl⟩
    rw [hT] at HE HT
    obtain ⟨U, hU⟩ : ∃ U : Int, (sumU xs : Int) = U := ⟨_, rfl⟩
    rw [hU] at HE cu
    gi_wp2
    gi_region_with_o (refine ⟨trivial, ?_⟩; refine (callsIn_wide.2 (HT.out _ (by rw [← hT]; exact HI.out.bd) (by show q3 ≤ W.heap.size; omega))).mono ?_; rintro e w3 ⟨rfl, hI3, hb3, hk3⟩; have u4 : Boxed w3 q4 3 (.int .i64 U) := (by rw [← hU]; exact hk3 q4 _ HI.out.us (fun e => by cases e; omega) (fun c fz e => by cases e)); have z0 : Boxed w3 w.heap.size 9 (.string ⟨#[]⟩) := (hb3.block _ (by omega)).trans HI.out.r0; have z1 := Boxed.other (show Boxed w3 q1 3 (.int .i64 0) from (hb3.block _ (by omega)).trans HI.out.r1) (B' := w.heap.size) (by omega) (.string T); have z2 := (Boxed.other (show Boxed w3 q2 71 .nilIface from (hb3.block _ (by omega)).trans HI.out.r2) (B' := w.heap.size) (by omega) (.string T)).other (B' := q1) (by omega) (.int .i64 U); have v4 := u4.cell; have d0 := z0.cell; have f0 := z0.frozen; have d1 := z1.cell; have f1 := z1.frozen; have d2 := z2.cell; have f2 := z2.frozen; have HB3 := Num.hide hb3; have HK3 := Num.hide hk3; have Z0 := Num.hide z0; have Z1 := Num.hide z1; have Z2 := Num.hide z2; clear hI3 hb3 hk3 u4 z0 z1 z2)
    all_goals
      gi_wp2
      have hK3 : w3.heap[D]? = some (.deferred (some [])) := HK3.out D _ HK.out (fun e => by cases e; omega) (fun c fz e => by cases e)
      have hKf := (KeepsOthers.setCell _ ⟨q2, 0, none⟩ .nilIface).same D _ ((KeepsOthers.setCell _ ⟨q1, 0, none⟩ (.int .i64 U)).same D _ ((KeepsOthers.setCell w3 ⟨w.heap.size, 0, none⟩ (.string T)).same D _ hK3 rfl) rfl) rfl
      have y0 := ((Z0.out.set (.string T)).other (B' := q1) (by omega) (.int .i64 U)).other (B' := q2) (by omega) .nilIface
      have y1 := (Z1.out.set (.int .i64 U)).other (B' := q2) (by omega) .nilIface
      have y2 := Z2.out.set .nilIface
      have hbf : Below w.heap.size w (((w3.setCell ⟨w.heap.size, 0, none⟩ (.string T)).setCell ⟨q1, 0, none⟩ (.int .i64 U)).setCell ⟨q2, 0, none⟩ .nilIface) :=
        (((HI.out.be.drew.trans (HB3.out.mono (by omega))).setCell (p := ⟨w.heap.size, 0, none⟩) (Nat.le_refl _) _).setCell (p := ⟨q1, 0, none⟩) (by show w.heap.size ≤ q1; omega) _).setCell (p := ⟨q2, 0, none⟩) (by show w.heap.size ≤ q2; omega) _
      generalize ((w3.setCell ⟨w.heap.size, 0, none⟩ (.string T)).setCell ⟨q1, 0, none⟩ (.int .i64 U)).setCell ⟨q2, 0, none⟩ .nilIface = wf at hKf y0 y1 y2 hbf ⊢
      have c0 := cell_kept y0.cell (grownBy_putObj' wf D (.deferred none)) (fun r e => by cases e; exact ⟨_, hKf, rfl⟩)
      have c1 := cell_kept y1.cell (grownBy_putObj' wf D (.deferred none)) (fun r e => by cases e; exact ⟨_, hKf, rfl⟩)
      have c2 := cell_kept y2.cell (grownBy_putObj' wf D (.deferred none)) (fun r e => by cases e; exact ⟨_, hKf, rfl⟩)
      refine ⟨by simp, .inl ⟨_, _, rfl, run_takeDeferred hKf, ?_⟩⟩
      refine ⟨.tuple #[.string T, .int .i64 U, .nilIface], ?_, T, U, 0, rfl, by omega, ?_, hbf.trans (belowK_b (w := w) (Nat.le_refl _) wf D _ _ (by omega) hKf rfl rfl)⟩
      · simp [results, Tryz.f44, go_sem, c0, c1, c2]
      · rw [HE.out]
        rfl
  case stop =>
    rintro D c pre W hD hLeft ho hK
    obtain rfl := ho.cr
    obtain ⟨init, x, rfl, hx, hb2⟩ := ho.last
    have hun := hLeft init x rfl hx
    gi_wp2
    have c0 := cell_kept ho.r0.cell (grownBy_putObj' W D (.deferred none)) (fun r e => by cases e; exact ⟨_, hK, rfl⟩)
    have c1 := cell_kept ho.r1.cell (grownBy_putObj' W D (.deferred none)) (fun r e => by cases e; exact ⟨_, hK, rfl⟩)
    have c2 := cell_kept hb2.cell (grownBy_putObj' W D (.deferred none)) (fun r e => by cases e; exact ⟨_, hK, rfl⟩)
    refine ⟨by simp, .inl ⟨_, _, rfl, run_takeDeferred hK, ?_⟩⟩
    refine ⟨.tuple #[.string ⟨#[]⟩, .int .i64 0, errV m b x.1.2.2], ?_, ⟨#[]⟩, 0, x.1.2.2, rfl, x.2.2.2, ?_, ho.be.trans (belowK_b (w := w) (Nat.le_refl _) W D _ _ (by omega) hK rfl rfl)⟩
    · simp [results, Tryz.f44, go_sem, c0, c1, c2]
    · rw [hun]
      unfold tell
      rw [if_neg hx]
end Body
end Go.Proofs.YtbajfklnekfeoaaGreatDoor
namespace Go.Proofs.YtbajfklnekfeoaaGreatDoor
open Go.RowKit
set_option linter.unusedVariables false
namespace Body

set_option maxRecDepth 100000 in
set_option maxHeartbeats 2000000 in
theorem unchunk_impl (s : ByteArray) (m b : Addr) (w : World) (hs : s.size ≤ 1048576) (hm : Lim w) (hS : Syn w) (hE : Errs m b w) :
    Calls Tryz.prog 10 #[.string s] w fun e w' => e = .returned (.tuple #[.string (unchunk s).1, .int .i64 (unchunk s).2.1, .int .i64 (unchunk s).2.2]) ∧ Below w.heap.size w w' := by
  have HJ := Num.hide (join_impl s m b w hs hm hS hE)
  have HE := Num.hide (fun W h => hE.below (w' := W) h)
  obtain ⟨⟨x, y, z⟩, hR⟩ : ∃ R, unchunk s = R := ⟨_, rfl⟩
  rw [hR] at HJ ⊢
  clear hm hS hE hR
  go_enter Tryz.func10, Tryz.ntmps10
  go_wp2_with fail
  refine HJ.out.mono ?_
  rintro e w1 ⟨t, u, c, rfl, hc, ht, hb⟩
  have HT := Num.hide (tell_impl t u c m b w1 hc (HE.out _ hb))
  rw [ht] at HT
  have HB := Num.hide hb
  clear hb ht HJ
  go_wp2_with fail
  refine HT.out.mono ?_
  rintro e w2 ⟨rfl, rfl⟩
  go_wp2
  go_ret3
  exact ⟨rfl, HB.out⟩
end Body
end Go.Proofs.YtbajfklnekfeoaaGreatDoor
namespace Go.Proofs.YtbajfklnekfeoaaGreatDoor
open Go.RowKit
set_option linter.unusedVariables false
namespace Flds

theorem strs_far {B n : Nat} {W W' : World} {v : Value} {l : List ByteArray} (h : Strs.OwnS n W v l) (hf : Far B n W W') : Strs.OwnS n W' v l := by
  have hlt := Strs.own_lt h
  refine ⟨h.1, ?_⟩
  rcases h.2 with h1 | ⟨g, cap, cur, h1, hB, hg, rest⟩
  · exact .inl h1
  · subst h1
    exact .inr ⟨g, cap, cur, rfl, hB, by rw [hf.rows g hB (hlt g rfl).2]; exact hg, rest⟩
/-- what a choice does at each element: what it makes of it, and whether it takes it -/
def ChoiceS (g : Nat) (cap : Array Value) (B n : Nat) (w : World) (l : List Fld) (A : Nat → List ByteArray) (Q : Nat → World → Prop) : Prop :=
  ∀ k (hk : k < l.length) (W : World), Below B w W → n ≤ W.heap.size → Q k W →
    Calls Tryz.prog g (#[.agg #[.string l[k].1, .string l[k].2]] ++ cap) W fun e W' => ∃ (m : ByteArray) (t : Bool), e = .returned (.tuple #[.string m, .bool t]) ∧ A (k + 1) = A k ++ (if t = true then [m] else []) ∧ Q (k + 1) W' ∧ Far B n W W'
set_option maxRecDepth 100000 in
set_option maxHeartbeats 1000000 in
theorem chosenS_any (g : Nat) (cap : Array Value) (B : Nat) (w0 w : World) (v : Value) (l : List Fld) (A : Nat → List ByteArray) (Q : Nat → World → Prop)
    (h : Is w0 v l) (hB : B = w0.heap.size) (hb : Below B w0 w) (hBn : B ≤ w.heap.size) (hA0 : A 0 = []) (hA : ∀ k, k ≤ l.length → (A k).length ≤ 1073741824) (hl : l.length ≤ 1073741824)
    (hQ0 : Q 0 w) (hQ : ∀ k W W', Q k W → Below w.heap.size W W' → Q k W') (HC : ChoiceS g cap B w.heap.size w0 l A Q) (hent : ∀ args W, (callFunc g args).run Tryz.prog W = .ok (.enter g args) W) :
    Calls Tryz.prog 144 #[v, .func (.func g) #[] cap] w fun e w' => ∃ v', e = .returned v' ∧ Strs.OwnS w.heap.size w' v' (A l.length) ∧ Below B w0 w' ∧ Q l.length w' := by
  obtain ⟨a, c, rfl, h2⟩ := is_form h
  have HA := Num.hide h2
  clear h h2
  have HCh := Num.hide HC
  have HQ := Num.hide hQ
  have HAl := Num.hide hA
  have HQ0 := Num.hide hQ0
  have HB0 := Num.hide hb
  have HA0 : Hid (Strs.OwnS w.heap.size w (.slice none 0 0) (A 0)) := by rw [hA0]; exact Strs.own_nil _ _
  clear HC hQ hA hQ0 hb hA0
  obtain ⟨i0, hi0, hz0, hz1, hz2⟩ := info_parts Strs.infoS
  go_enter Tryz.func144, Tryz.ntmps144
  go_wp2
  go_loopw [5, 12] (fun ov iv wr => ∃ i : Nat, i ≤ l.length ∧ iv = .int .i64 (i : Int) ∧ Hid (Strs.OwnS w.heap.size wr ov (A i)) ∧ Hid (Below B w0 wr) ∧ Hid (Q i wr) ∧ w.heap.size ≤ wr.heap.size) (fun _ iv _ => l.length - (intOf iv).toNat)
  case atStart => exact ⟨0, by omega, rfl, HA0, HB0, HQ0, Nat.le_refl _⟩
  case round =>
    clear HA0 HB0 HQ0
    obtain ⟨i, hi, rfl, HO, HB, HQi, hsz⟩ := hrel
    by_cases hlt : i < l.length
    · obtain ⟨bk, o, rfl, hc, hmx, hblt, hcell⟩ := Num.unhide HA (by omega)
      obtain ⟨g1, g2⟩ := hcell i hlt
      have c1 : wr.cell? ⟨bk, o + i * 2, none⟩ = some (.string l[i].1) := by rw [HB.out.cell (p := ⟨bk, o + i * 2, none⟩) (by show bk < B; omega)]; exact g1
      have c2 : wr.cell? ⟨bk, o + i * 2 + 1, none⟩ = some (.string l[i].2) := by rw [HB.out.cell (p := ⟨bk, o + i * 2 + 1, none⟩) (by show bk < B; omega)]; exact g2
      have HCi := Num.hide (HCh.out i hlt)
      have hdl := HAl.out i (by omega)
      clear hcell g1 g2
      generalize l[i] = f at c1 c2 HCi
      obtain ⟨x, y⟩ := f
      simp only at c1 c2
      have hsz1 : w.heap.size ≤ (wr.alloc (.cells #[.string x, .string y] 36)).heap.size := by simp; omega
      have HB1 := Num.hide (HB.out.alloc (by omega) (.cells #[.string x, .string y] 36))
      have HQ1 := Num.hide (HQ.out i _ _ HQi.out ((Below.refl w.heap.size wr).alloc hsz (.cells #[.string x, .string y] 36)))
      have HO1 := Num.hide (World.ownsRow.alloc HO.out (.cells #[.string x, .string y] 36))
      go_wp2_with fail
      refine (HCi.out _ HB1.out hsz1 HQ1.out).mono ?_
      rintro e w1 ⟨m, t, rfl, hAk, hQk, hF⟩
      have HO2 := Num.hide (strs_far HO1.out hF)
      have HB2 := Num.hide (HB1.out.trans hF.below)
      have HQ2 := Num.hide hQk
      have HAk := Num.hide hAk
      have hsz2 := Nat.le_trans hsz1 hF.below.size
      clear hF hQk hAk HO HB HQi HB1 HQ1 HO1 hsz1 c1 c2
      cases t with
      | false =>
        have HO4 : Hid (Strs.OwnS w.heap.size w1 u5 (A (i + 1))) := by
          rw [HAk.out, if_neg (by simp), List.append_nil]; exact HO2
        clear HO2
        go_wp2
        go_roundw
        case rel => exact ⟨i + 1, by omega, by go_num, HO4, HB2, HQ2, hsz2⟩
        case measure => simp [intOf]; omega
      | true =>
        have HAk2 : Hid (A (i + 1) = A i ++ [m]) := by show _ = _; rw [HAk.out, if_pos rfl]
        clear HAk
        go_wp2_with (at_builtin; refine wpList_append_own _ rfl _ _ 100 rfl w.heap.size 9 i0 (.string ⟨#[]⟩) 1 16 Tryz.underlying100 hi0 hz0 hz1 hz2 rfl (by decide) _ _ _ rfl (World.ownsRow.alloc HO2.out _) ⟨w1.heap.size, 0, none⟩ 1 1 [.string m] rfl rfl (Strs.cells_one w1 m) (Strs.one_ok m) (by unfold maxLen; omega) (by omega) ?c5 ?_)
        case c5 => simp; omega
        intro v' w2 ho2 hg2 _
        have hp2 := Strs.below_grown ((Below.refl w.heap.size w1).alloc hsz2 (.cells #[.string m] 9)) hg2 (fun j hj => (Strs.own_lt HO2.out j hj).1) (by simp; omega)
        have HP1 : Hid (Strs.OwnS w.heap.size w2 v' (A (i + 1))) := by rw [HAk2.out]; exact Strs.own_snoc ho2
        have HP2 := Num.hide (HB2.out.trans (hp2.mono (by omega)))
        have HP3 := Num.hide (HQ.out (i + 1) _ _ HQ2.out hp2)
        have hsz4 := Nat.le_trans hsz2 hp2.size
        clear ho2 hg2 hp2
        go_wp2
        go_roundw
        case rel => exact ⟨i + 1, by omega, by go_num, HP1, HP2, HP3, hsz4⟩
        case measure => simp [intOf]; omega
    · obtain rfl : i = l.length := by omega
      go_wp2
      go_ret
      exact ⟨_, rfl, HO.out, HB.out, HQi.out⟩
end Flds
end Go.Proofs.YtbajfklnekfeoaaGreatDoor
namespace Go.Proofs.YtbajfklnekfeoaaGreatDoor
open Go.Shelf
def Shelf.lays156_ren : Go.Shelf.Ren := ⟨fun | 156 => 146 | 165 => 176 | 166 => 40 | 169 => 42 | 240 => 84 | 241 => 194 | 276 => 129 | 277 => 201 | n => n, fun | 31 => 100 | 9 => 9 | 3 => 3 | 4 => 4 | 0 => 0 | 20 => 20 | 72 => 66 | 76 => 72 | 70 => 64 | 37 => 22 | 75 => 71 | 127 => 111 | 164 => 142 | 5 => 5 | 80 => 75 | n => n, fun | n => n⟩
theorem Shelf.lays156 : Go.Proofs.Lays.n156 Tryz.prog Shelf.lays156_ren := {
  mixed := by kernel_rfl
  f156 := Tryz.func146.trans (congrArg some (by kernel_rfl))
  f165 := Tryz.func176.trans (congrArg some (by kernel_rfl))
  f166 := Tryz.func40.trans (congrArg some (by kernel_rfl))
  f169 := Tryz.func42.trans (congrArg some (by kernel_rfl))
  f240 := Tryz.func84.trans (congrArg some (by kernel_rfl))
  f241 := Tryz.func194.trans (congrArg some (by kernel_rfl))
  f276 := Tryz.func129.trans (congrArg some (by kernel_rfl))
  f277 := Tryz.func201.trans (congrArg some (by kernel_rfl))
  t0 := Tryz.underlying0
  a0 := Tryz.isAgg0
  z0 := Tryz.sizeOf0
  v0 := Tryz.zeroValue0
  t3 := Tryz.underlying3
  a3 := Tryz.isAgg3
  z3 := Tryz.sizeOf3
  v3 := Tryz.zeroValue3
  t4 := Tryz.underlying4
  a4 := Tryz.isAgg4
  z4 := Tryz.sizeOf4
  v4 := Tryz.zeroValue4
  t9 := Tryz.underlying9
  a9 := Tryz.isAgg9
  z9 := Tryz.sizeOf9
  v9 := Tryz.zeroValue9
  t20 := Tryz.underlying20
  a20 := Tryz.isAgg20
  z20 := Tryz.sizeOf20
  v20 := Tryz.zeroValue20
  t31 := Tryz.underlying100
  a31 := Tryz.isAgg100
  z31 := Tryz.sizeOf100
  v31 := Tryz.zeroValue100
  t37 := Tryz.underlying22
  a37 := Tryz.isAgg22
  z37 := Tryz.sizeOf22
  v37 := Tryz.zeroValue22
  t70 := Tryz.underlying64
  a70 := Tryz.isAgg64
  z70 := Tryz.sizeOf64
  v70 := Tryz.zeroValue64
  t72 := Tryz.underlying66
  a72 := Tryz.isAgg66
  z72 := Tryz.sizeOf66
  v72 := Tryz.zeroValue66
  t75 := Tryz.underlying71
  a75 := Tryz.isAgg71
  z75 := Tryz.sizeOf71
  v75 := Tryz.zeroValue71
  t76 := Tryz.underlying72
  a76 := Tryz.isAgg72
  z76 := Tryz.sizeOf72
  v76 := Tryz.zeroValue72
  t127 := Tryz.underlying111
  a127 := Tryz.isAgg111
  z127 := Tryz.sizeOf111
  v127 := Tryz.zeroValue111
  t164 := Tryz.underlying142
  a164 := Tryz.isAgg142
  z164 := Tryz.sizeOf142
  v164 := Tryz.zeroValue142 }
theorem Shelf.Builder_Extra_156 : Builder.Extra Tryz.prog Shelf.lays156_ren := {
  sizeBuilder := by kernel_rfl
  liesBuilder := by kernel_rfl
  t5 := Tryz.underlying5
  a5 := Tryz.isAgg5
  z5 := Tryz.sizeOf5
  v5 := Tryz.zeroValue5
  infoByte := by kernel_rfl
  cellsByte := by kernel_rfl
  sizeByte := by kernel_rfl
  neB5 := by decide }
open Go.RowKit in
theorem Shelf.strings_Join_none (a : Option Addr) (c : Nat) (sep : ByteArray) (w : World) :
    Calls Tryz.prog 146 #[.slice a 0 c, .string sep] w fun e w' => e = .returned (.string ⟨#[]⟩) ∧ w' = w := Any.strings_Join_none Shelf.lays156 Shelf.Builder_Extra_156 a c sep w
open Go.RowKit in
theorem Shelf.strings_Join (bk o c : Nat) (xs : List ByteArray) (sep : ByteArray) (w : World) (hcells : ∀ (j : Nat) x, xs[j]? = some x → w.cell? ⟨bk, o + j, none⟩ = some (.string x)) (hbk : bk < w.heap.size) (hN : xs.length ≤ 140737488355328) (hcap : xs.length ≤ c) (hlen : (Lib.join (xs.map (·.data.toList)) sep.data.toList).length ≤ 140737488355328) :
    Calls Tryz.prog 146 #[.slice (some ⟨bk, o, none⟩) xs.length c, .string sep] w fun e w' => e = .returned (.string ⟨(Lib.join (xs.map (·.data.toList)) sep.data.toList).toArray⟩) ∧ Below w.heap.size w w' := Any.strings_Join Shelf.lays156 Shelf.Builder_Extra_156 bk o c xs sep w hcells hbk hN hcap hlen
end Go.Proofs.YtbajfklnekfeoaaGreatDoor
namespace Go.Proofs.YtbajfklnekfeoaaGreatDoor
open Go.RowKit
set_option linter.unusedVariables false
namespace Flds

/-- the values of a name -/
def vals (l : List Fld) (name : ByteArray) : List ByteArray := l.foldl (fun r f => r ++ (if f.1 = name then [f.2] else [])) []
theorem vals_take (l : List Fld) (name : ByteArray) (k : Nat) (h : k < l.length) : vals (l.take (k + 1)) name = vals (l.take k) name ++ (if l[k].1 = name then [l[k].2] else []) := by
  unfold vals
  rw [List.take_succ_eq_append_getElem h, List.foldl_append]; rfl
theorem vals_snoc (l : List Fld) (f : Fld) (name : ByteArray) : vals (l ++ [f]) name = vals l name ++ (if f.1 = name then [f.2] else []) := by
  unfold vals
  rw [List.foldl_append]; rfl
theorem vals_length (l : List Fld) (name : ByteArray) : (vals l name).length ≤ l.length := by
  refine Num.snoc_ind (P := fun l => (vals l name).length ≤ l.length) (Nat.le_refl _) ?_ l
  intro l f ih
  rw [vals_snoc, List.length_append, List.length_append]
  split <;> simp <;> omega
theorem join_snoc (xs : List (List UInt8)) (x sep : List UInt8) : Lib.join (xs ++ [x]) sep = if xs = [] then x else Lib.join xs sep ++ sep ++ x := by
  cases xs with
  | nil => simp [Lib.join_one]
  | cons a t => rw [List.cons_append, Lib.join_cons, Lib.join_cons]; simp [Lib.joinTail]
/-- what is joined of the values is what is got -/
theorem get_join (l : List Fld) (name : ByteArray) : get l name = (⟨(Lib.join ((vals l name).map (·.data.toList)) [44, 32]).toArray⟩, decide (0 < (vals l name).length)) := by
  refine Num.snoc_ind (P := fun l => get l name = (⟨(Lib.join ((vals l name).map (·.data.toList)) [44, 32]).toArray⟩, decide (0 < (vals l name).length))) rfl ?_ l
  intro l f ih
  have e : get (l ++ [f]) name = getStep name (get l name) f := by unfold get; rw [List.foldl_append]; rfl
  rw [e, ih, vals_snoc]
  unfold getStep
  by_cases h : f.1 = name
  · rw [if_pos h, if_pos h, List.map_append, List.map_cons, List.map_nil, join_snoc]
    generalize vals l name = V
    cases V with
    | nil =>
      simp only [List.map_nil, Lib.join_nil, List.length_nil, Nat.lt_irrefl, decide_false, Bool.false_eq_true, if_false, List.nil_append, List.length_cons, Nat.lt_add_one, decide_true, if_true, Prod.mk.injEq, and_true]
      apply ByteArray.ext; simp
    | cons a t =>
      simp only [List.length_cons, Nat.zero_lt_succ, decide_true, if_true, List.length_append, List.map_cons, reduceCtorEq, if_false, Prod.mk.injEq, Nat.add_pos_left, and_true]
      apply ByteArray.ext; simp
  · rw [if_neg h, if_neg h, List.append_nil]
set_option maxRecDepth 100000 in
set_option maxHeartbeats 1000000 in
theorem getF_other (x y name : ByteArray) (nb : Nat) (w : World) (hn : w.cell? ⟨nb, 0, none⟩ = some (.string name)) (hne : ¬ x = name) :
    Calls Tryz.prog 145 #[.agg #[.string x, .string y], .pointer (some ⟨nb, 0, none⟩)] w fun e w' => e = .returned (.tuple #[.string ⟨#[]⟩, .bool false]) ∧ Below w.heap.size w w' := by
  have d := text_ne' hne
  have d' : (x.toList != name.toList) = true := by rw [bne, d]; rfl
  have hlt := Recs.lt_of_cell hn
  clear hne
  go_enter Tryz.func145, Tryz.ntmps145
  go_wp2
  go_ret2
  exact ⟨rfl, (Below.refl _ _).alloc (Nat.le_refl _) _⟩
set_option maxRecDepth 100000 in
set_option maxHeartbeats 1000000 in
theorem getF_same (y name : ByteArray) (nb : Nat) (w : World) (hn : w.cell? ⟨nb, 0, none⟩ = some (.string name)) (hy : y.size ≤ 281474976710656) :
    Calls Tryz.prog 145 #[.agg #[.string name, .string y], .pointer (some ⟨nb, 0, none⟩)] w fun e w' => e = .returned (.tuple #[.string y, .bool true]) ∧ Below w.heap.size w w' := by
  have hlt := Recs.lt_of_cell hn
  have HB := Num.hide ((Below.refl w.heap.size w).alloc (Nat.le_refl _) (.cells #[.string name, .string y] 36))
  go_enter Tryz.func145, Tryz.ntmps145
  go_wp2_with fail
  refine (Shelf.clone y _ hy).mono ?_
  rintro e w1 ⟨rfl, hb⟩
  have HB1 := Num.hide (HB.out.trans (hb.mono (by simp)))
  clear hb HB
  go_wp2
  go_ret2
  exact ⟨rfl, HB1.out⟩
theorem get_choice (w0 w : World) (l : List Fld) (name : ByteArray) (nb : Nat) (hz : ∀ f ∈ l, f.1.size ≤ 281474976710656 ∧ f.2.size ≤ 281474976710656) :
    ChoiceS 145 #[.pointer (some ⟨nb, 0, none⟩)] w0.heap.size w.heap.size w0 l (fun k => vals (l.take k) name) (fun _ W => W.cell? ⟨nb, 0, none⟩ = some (.string name)) := by
  intro k hk W hB hn hQ
  have hzk := hz l[k] (List.getElem_mem hk)
  have hT := vals_take l name k hk
  simp only
  rw [hT]
  generalize l[k] = f at hzk
  obtain ⟨x, y⟩ := f
  simp only at hzk
  by_cases e : x = name
  · subst e
    refine (getF_same y x nb W hQ hzk.2).mono ?_
    rintro e W' ⟨rfl, hb2⟩
    exact ⟨y, true, rfl, by simp, (hb2.cell (p := ⟨nb, 0, none⟩) (Recs.lt_of_cell hQ)).trans hQ, Far.of_below hb2 hB.size⟩
  · refine (getF_other x y name nb W hQ e).mono ?_
    rintro e2 W' ⟨rfl, hb2⟩
    exact ⟨⟨#[]⟩, false, rfl, by simp [e], (hb2.cell (p := ⟨nb, 0, none⟩) (Recs.lt_of_cell hQ)).trans hQ, Far.of_below hb2 hB.size⟩
theorem sizes_get {l : List Fld} (h : bulk l ≤ 1099511627776) : ∀ f ∈ l, f.1.size ≤ 281474976710656 ∧ f.2.size ≤ 281474976710656 := by
  intro f hf
  obtain ⟨i, hi, rfl⟩ := List.getElem_of_mem hf
  have h1 := bulk_take l i hi
  have h2 := bulk_le l (i + 1)
  unfold bulk at h
  omega
/-- strings.Join at a list of texts, however it lies -/
theorem join_any (v : Value) (xs : List ByteArray) (sep : ByteArray) (B : Nat) (w : World) (ho : Strs.OwnS B w v xs) (hN : xs.length ≤ 1073741824) (hlen : (Lib.join (xs.map (·.data.toList)) sep.data.toList).length ≤ 140737488355328) :
    Calls Tryz.prog 146 #[v, .string sep] w fun e w' => e = .returned (.string ⟨(Lib.join (xs.map (·.data.toList)) sep.data.toList).toArray⟩) ∧ Below w.heap.size w w' := by
  by_cases h0 : xs.length = 0
  · obtain ⟨a, c, rfl⟩ := Strs.own_len ho
    obtain rfl : xs = [] := List.eq_nil_of_length_eq_zero h0
    exact (Shelf.strings_Join_none a c sep w).mono fun e w' ⟨h1, h2⟩ => ⟨h1, h2 ▸ Below.refl _ _⟩
  · rcases Strs.own_is ho with ⟨h1, _⟩ | ⟨b, o, c, rfl, hc, hm, hcell⟩
    · exact absurd (by rw [h1]; rfl) h0
    · exact Shelf.strings_Join b o c xs sep w (fun j x hj => by obtain ⟨hj2, rfl⟩ := List.getElem?_eq_some_iff.1 hj; exact hcell j hj2) (Recs.lt_of_cell (hcell 0 (by omega))) (by omega) hc hlen
set_option maxRecDepth 100000 in
set_option maxHeartbeats 1000000 in
theorem get_impl (v : Value) (l : List Fld) (name : ByteArray) (w : World) (h : Is w v l) (hl : bulk l ≤ 1073741824) :
    Calls Tryz.prog 90 #[v, .string name] w fun e w' => e = .returned (.tuple #[.string (get l name).1, .bool (get l name).2]) ∧ Below w.heap.size w w' := by
  have hlen : l.length ≤ 1073741824 := by unfold bulk at hl; omega
  have hb := (Below.refl w.heap.size w).alloc (Nat.le_refl _) (.cells #[.string name] 9)
  have HC := Num.hide (chosenS_any 145 #[.pointer (some ⟨w.heap.size, 0, none⟩)] w.heap.size w (w.alloc (.cells #[.string name] 9)) v l (fun k => vals (l.take k) name) (fun _ W => W.cell? ⟨w.heap.size, 0, none⟩ = some (.string name)) h rfl hb (by simp) rfl
    (fun k hk => by have := vals_length (l.take k) name; rw [List.length_take] at this; omega) hlen (by simp)
    (fun k W W' hQ hb2 => (hb2.cell (p := ⟨w.heap.size, 0, none⟩) (by simp)).trans hQ) (get_choice w _ l name w.heap.size (sizes_get (by omega))) (enters_of Tryz.func145 (by kernel_rfl) rfl))
  simp only [List.take_length] at HC
  have hgs := get_size l name
  have hvl := vals_length l name
  have hg := get_join l name
  generalize vals l name = V at HC hg hvl
  generalize get l name = r at hg hgs
  obtain ⟨g, t⟩ := r
  simp only [Prod.mk.injEq] at hg hgs ⊢
  obtain ⟨hg1, hg2⟩ := hg
  have HJ := Num.hide (fun vv B W ho => join_any vv V ⟨#[44, 32]⟩ B W ho (by omega) (by
    have e : (Lib.join (V.map (·.data.toList)) [44, 32]).length = g.size := by rw [hg1]; show _ = Array.size _; simp
    show (Lib.join (V.map (·.data.toList)) [44, 32]).length ≤ _
    rw [e]; unfold bulk at hl; omega))
  have HJ2 : Hid (∀ vv B W, Strs.OwnS B W vv V → Calls Tryz.prog 146 #[vv, .string ⟨#[44, 32]⟩] W fun e w' => e = .returned (.string g) ∧ Below W.heap.size W w') := fun vv B W ho => by rw [hg1]; exact HJ.out vv B W ho
  have HT := Num.hide hg2
  clear h hb HJ hg1 hg2 hgs
  go_enter Tryz.func90, Tryz.ntmps90
  go_wp2_with fail
  refine HC.out.mono ?_
  rintro e w1 ⟨v', rfl, ho, hb1, _⟩
  obtain ⟨va, vc, rfl⟩ := Strs.own_len ho
  have HO := Num.hide ho
  have HB := Num.hide hb1
  clear ho hb1
  go_wp2_with fail
  refine (HJ2.out _ _ _ HO.out).mono ?_
  rintro e w2 ⟨rfl, hb2⟩
  have HB2 := Num.hide (HB.out.trans (hb2.mono HB.out.size))
  clear hb2 HB HO
  go_wp2
  go_ret2
  exact ⟨by rw [HT.out]; rfl, HB2.out⟩
end Flds
end Go.Proofs.YtbajfklnekfeoaaGreatDoor
