/-
  ReqRdImpl: ReadRequest of the program: a request is read off a text; what was thrown is caught and told as a code.
  RespOkImpl: hasBody and ResponseOk of the program: is an answer right?
  ReasonImpl: Reason of the program: the words of a status.
  RespShowImpl: ShowResponse of the program: the text of an answer.
  ReadDecSpec: ReadDec of the specification: what the call returns, for every text; old memory stays as it was.
-/
import Derived.Test.YtbajfklnekfeoaaGreatDoorPav
import Derived.Tactics2
import Derived.Defers
import Derived.RegionTactic
import Derived.BigRegion
import Derived.ChangeAlike
import Derived.Test.YtbajfklnekfeoaaGreatDoorPam
import Derived.Test.YtbajfklnekfeoaaGreatDoorPac
import Derived.Test.YtbajfklnekfeoaaGreatDoorPag
import Derived.Test.YtbajfklnekfeoaaGreatDoorNum
import Derived.Test.YtbajfklnekfeoaaGreatDoorRows
import Derived.WalkKit
import Derived.WalkLawsBesides
import Derived.Below
import Derived.Test.YtbajfklnekfeoaaGreatDoorPan
import Derived.Test.YtbajfklnekfeoaaGreatDoorPai
import Derived.Test.YtbajfklnekfeoaaGreatDoorRegLaw
import Derived.Test.YtbajfklnekfeoaaGreatDoorPaj
import Derived.Deep.Cut
import Derived.Test.YtbajfklnekfeoaaGreatDoorPah
import Derived.Test.YtbajfklnekfeoaaGreatDoorPab
import Derived.Laws.Strings
namespace Go.Proofs.YtbajfklnekfeoaaGreatDoor
open Go.RowKit
set_option linter.unusedVariables false
set_option linter.unusedSimpArgs false
namespace Msg
open Line (eol)

theorem request_impl (g : Nat) (s : ByteArray) (v0 : Value) (m b : Addr) (W : World) (h : Rd g s 0 v0 W) (hs : s.size ≤ 1048576) (hw : whole s = true) (hG : ∀ X, W.grownBy X (some g) → Ground m b X) :
    Calls Tryz.prog 54 #[.pointer (some ⟨g, 0, none⟩)] W fun e w' => reqEnd g s m b W (readReq s) e w' := by
  obtain ⟨k, hk⟩ := whole_line hw
  cases hp : parted (s.extract 0 k) with
  | false => exact request_line g s v0 m b W k h hs hw hk hp hG
  | true =>
    by_cases hv : (words (s.extract 0 k)).2.2 = ver
    · cases hf : Flds.read (s.extract (k + 2) s.size) with
      | none => exact request_fields g s v0 m b W k h hs hw hk hp hv hf hG
      | some q => exact request_put g s v0 m b W k h hs hw hk hp hv q.1 q.2 hf hG
    · exact request_ver g s v0 m b W k h hs hw hk hp hv hG
/-- the three boxes of a call of readMessage: the answer, the code, the reader -/
def Z4 : Obj := .cells #[.string ⟨#[]⟩, .string ⟨#[]⟩, .slice none 0 0, .string ⟨#[]⟩] 39
def Zc : Obj := .cells #[.int .i64 0] 3
def Zr (s : ByteArray) : Obj := .cells #[.string s, .int .i64 0, .slice none 0 0] 129
/-- the boxes of the answer and of the code, as they were laid -/
structure Told4 (w X : World) : Prop where
  ans : X.heap[w.heap.size]? = some Z4
  cd : X.heap[w.heap.size + 1]? = some Zc
theorem Told4.code {w X : World} (h : Told4 w X) : X.cell? ⟨w.heap.size + 1, 0, none⟩ = some (.int .i64 0) := Recs.box_cell h.cd 0
theorem Told4.thaw {w X : World} (h : Told4 w X) : X.frozen? ⟨w.heap.size + 1, 0, none⟩ = false := Recs.box_thaw h.cd 0
theorem Told4.rows {w X : World} (h : Told4 w X) : X.cell? ⟨w.heap.size, 0, none⟩ = some (.string ⟨#[]⟩) ∧ X.cell? ⟨w.heap.size, 1, none⟩ = some (.string ⟨#[]⟩) ∧ X.cell? ⟨w.heap.size, 2, none⟩ = some (.slice none 0 0) ∧ X.cell? ⟨w.heap.size, 3, none⟩ = some (.string ⟨#[]⟩) := ⟨Recs.box_cell h.ans 0, Recs.box_cell h.ans 1, Recs.box_cell h.ans 2, Recs.box_cell h.ans 3⟩
theorem Told4.thaws {w X : World} (h : Told4 w X) : X.frozen? ⟨w.heap.size, 0, none⟩ = false ∧ X.frozen? ⟨w.heap.size, 1, none⟩ = false ∧ X.frozen? ⟨w.heap.size, 2, none⟩ = false ∧ X.frozen? ⟨w.heap.size, 3, none⟩ = false := ⟨Recs.box_thaw h.ans 0, Recs.box_thaw h.ans 1, Recs.box_thaw h.ans 2, Recs.box_thaw h.ans 3⟩
theorem Told4.coded {w X : World} (h : Told4 w X) (c : Nat) : (X.setCell ⟨w.heap.size + 1, 0, none⟩ (.int .i64 (c : Int))).cell? ⟨w.heap.size + 1, 0, none⟩ = some (.int .i64 (c : Int)) := Recs.box_cell (Recs.box_set h.cd 0 _) 0
theorem Told4.cells {w X : World} (h : Told4 w X) (c : Nat) : (X.setCell ⟨w.heap.size + 1, 0, none⟩ (.int .i64 (c : Int))).cell? ⟨w.heap.size, 0, none⟩ = some (.string ⟨#[]⟩) ∧ (X.setCell ⟨w.heap.size + 1, 0, none⟩ (.int .i64 (c : Int))).cell? ⟨w.heap.size, 1, none⟩ = some (.string ⟨#[]⟩) ∧ (X.setCell ⟨w.heap.size + 1, 0, none⟩ (.int .i64 (c : Int))).cell? ⟨w.heap.size, 2, none⟩ = some (.slice none 0 0) ∧ (X.setCell ⟨w.heap.size + 1, 0, none⟩ (.int .i64 (c : Int))).cell? ⟨w.heap.size, 3, none⟩ = some (.string ⟨#[]⟩) := by
  have e : (X.setCell ⟨w.heap.size + 1, 0, none⟩ (.int .i64 (c : Int))).heap[w.heap.size]? = some Z4 := Recs.box_far h.ans _ (by omega)
  exact ⟨Recs.box_cell e 0, Recs.box_cell e 1, Recs.box_cell e 2, Recs.box_cell e 3⟩
/-- an answer told into its box -/
def fill (r : Nat) (a b : ByteArray) (v : Value) (c : ByteArray) (X : World) : World := (((X.setCell ⟨r, 0, none⟩ (.string a)).setCell ⟨r, 1, none⟩ (.string b)).setCell ⟨r, 2, none⟩ v).setCell ⟨r, 3, none⟩ (.string c)
theorem fill_row {r : Nat} {a b c : ByteArray} {v : Value} {X : World} (h : RBox r a b v c X) (a' b' : ByteArray) (v' : Value) (c' : ByteArray) : RBox r a' b' v' c' (fill r a' b' v' c' X) := by
  unfold fill
  exact Recs.box_set (Recs.box_set (Recs.box_set (Recs.box_set h 0 _) 1 _) 2 _) 3 _
theorem fill_far {r k : Nat} {X : World} {o : Option Obj} (h : X.heap[k]? = o) (hne : k ≠ r) (a b c : ByteArray) (v : Value) : (fill r a b v c X).heap[k]? = o := by
  unfold fill
  exact Recs.box_far (Recs.box_far (Recs.box_far (Recs.box_far h _ hne) _ hne) _ hne) _ hne
theorem fill_own {r B : Nat} {X : World} {x : Value} {L : List Flds.Fld} (h : Flds.Own B X x L) (hne : ∀ j, x.ownBlock = some j → j ≠ r) (a b c : ByteArray) (v : Value) : Flds.Own B (fill r a b v c X) x L := by
  unfold fill
  exact Recs.own_set (Recs.own_set (Recs.own_set (Recs.own_set h r 0 _ hne) r 1 _ hne) r 2 _ hne) r 3 _ hne
theorem fill_below {r B : Nat} {w X : World} (h : Below B w X) (hB : B ≤ r) (a b c : ByteArray) (v : Value) : Below B w (fill r a b v c X) := by
  unfold fill
  exact (((h.setCell (p := ⟨r, 0, none⟩) hB _).setCell (p := ⟨r, 1, none⟩) hB _).setCell (p := ⟨r, 2, none⟩) hB _).setCell (p := ⟨r, 3, none⟩) hB _
/-- the world in which an answer has been told -/
def told4 (r : Nat) (mm uu : ByteArray) (v : Value) (bb : ByteArray) (X : World) : World := ((fill r mm uu v bb (fill r mm uu v bb X)).setCell ⟨r + 1, 0, none⟩ (.int .i64 0)).drew
theorem done4 (w X : World) (ht : Told4 w X) (hb : Below w.heap.size w X) (mm uu bb : ByteArray) (v : Value) (L : List Flds.Fld) (B : Nat) (ho : Flds.Own B X v L) (hB : w.heap.size + 1 < B) :
    (told4 w.heap.size mm uu v bb X).cell? ⟨w.heap.size, 0, none⟩ = some (.string mm) ∧ (told4 w.heap.size mm uu v bb X).cell? ⟨w.heap.size, 1, none⟩ = some (.string uu) ∧ (told4 w.heap.size mm uu v bb X).cell? ⟨w.heap.size, 2, none⟩ = some v ∧ (told4 w.heap.size mm uu v bb X).cell? ⟨w.heap.size, 3, none⟩ = some (.string bb) ∧ (told4 w.heap.size mm uu v bb X).cell? ⟨w.heap.size + 1, 0, none⟩ = some (.int .i64 0) ∧ Flds.Own w.heap.size (told4 w.heap.size mm uu v bb X) v L ∧ Below w.heap.size w (told4 w.heap.size mm uu v bb X) := by
  have n0 : ∀ j, v.ownBlock = some j → j ≠ w.heap.size := fun j hj => by have := (Recs.own_lt ho j hj).1; omega
  have n1 : ∀ j, v.ownBlock = some j → j ≠ w.heap.size + 1 := fun j hj => by have := (Recs.own_lt ho j hj).1; omega
  have a8 := fill_row (fill_row ht.ans mm uu v bb) mm uu v bb
  have b8 := fill_far (fill_far ht.cd (by omega : w.heap.size + 1 ≠ w.heap.size) mm uu bb v) (by omega : w.heap.size + 1 ≠ w.heap.size) mm uu bb v
  have o8 := fill_own (fill_own ho n0 mm uu bb v) n0 mm uu bb v
  have w8 := fill_below (fill_below hb (Nat.le_refl _) mm uu bb v) (Nat.le_refl _) mm uu bb v
  unfold told4
  generalize fill w.heap.size mm uu v bb (fill w.heap.size mm uu v bb X) = Y at a8 b8 o8 w8 ⊢
  have h1 := Recs.box_far (g := w.heap.size + 1) (i := 0) a8 (.int .i64 0) (by omega)
  have h2 := Recs.box_set b8 0 (.int .i64 0)
  have o9 := Recs.own_set o8 (w.heap.size + 1) 0 (.int .i64 0) n1
  have w9 := w8.setCell (p := ⟨w.heap.size + 1, 0, none⟩) (Nat.le_succ _) (.int .i64 0)
  generalize Y.setCell ⟨w.heap.size + 1, 0, none⟩ (.int .i64 0) = Z at h1 h2 o9 w9 ⊢
  exact ⟨Recs.box_cell h1 0, Recs.box_cell h1 1, Recs.box_cell h1 2, Recs.box_cell h1 3, Recs.box_cell h2 0, Recs.own_mono (Recs.own_drew o9) (by omega), w9.drew⟩
theorem told_no (w X : World) (c : Nat) (ht : Told4 w X) (hb : Below w.heap.size w X) : Flds.Own w.heap.size (X.setCell ⟨w.heap.size + 1, 0, none⟩ (.int .i64 (c : Int))) (.slice none 0 0) [] ∧ Below w.heap.size w (X.setCell ⟨w.heap.size + 1, 0, none⟩ (.int .i64 (c : Int))) :=
  ⟨Recs.own_nil _ _, hb.setCell (p := ⟨w.heap.size + 1, 0, none⟩) (by show w.heap.size ≤ w.heap.size + 1; omega) _⟩
/-- what is not read tells nothing but its code -/
theorem read_no (s : ByteArray) (R : Rq) (h : readReq s = R) (h0 : ¬ R.2.2 = 0) : R = noRq R.2.2 := by
  have key : ∀ c : Int, noRq c = noRq (noRq c).2.2 := fun _ => rfl
  subst h
  revert h0
  unfold readReq
  split
  · intro _; exact key _
  · cases eol s 0 with
    | none => intro _; exact key _
    | some k =>
      simp only
      cases Flds.read (s.extract (k + 2) s.size) with
      | none => intro _; exact key _
      | some q =>
        obtain ⟨l, n⟩ := q
        simp only
        split
        · split
          · intro h; exact absurd rfl h
          · intro _; exact key _
        · intro _; exact key _
theorem read_code (s : ByteArray) (R : Rq) (h : readReq s = R) (h0 : ¬ R.2.2 = 0) : R.2.2 = 1 ∨ R.2.2 = 2 := by
  have key : ∀ c : Int, c = 0 ∨ c = 1 ∨ c = 2 → ¬ (noRq c).2.2 = 0 → (noRq c).2.2 = 1 ∨ (noRq c).2.2 = 2 := fun c h h0 => h.resolve_left h0
  have kc : ∀ c : Int, codeOf c = 0 ∨ codeOf c = 1 ∨ codeOf c = 2 := fun c => by unfold codeOf; (repeat' split) <;> simp
  subst h
  revert h0
  unfold readReq
  split
  · exact key _ (by split <;> simp)
  · cases eol s 0 with
    | none => exact key _ (.inr (.inr rfl))
    | some k =>
      simp only
      cases Flds.read (s.extract (k + 2) s.size) with
      | none => exact key _ (.inr (.inr rfl))
      | some q =>
        obtain ⟨l, n⟩ := q
        simp only
        split
        · split
          · intro h; exact absurd rfl h
          · exact key _ (kc _)
        · exact key _ (.inr (.inr rfl))
theorem ground_grown {m b : Addr} {w W X : World} {g : Nat} (hG : Ground m b w) (hb : Below w.heap.size w W) (hg : w.heap.size ≤ g) (h : W.grownBy X (some g)) : Ground m b X :=
  hG.below (hb.grown h hb.size (fun k hk => by have := Option.some.inj hk; omega))
set_option maxRecDepth 100000 in
set_option maxHeartbeats 2000000 in
theorem readMsg_impl (s : ByteArray) (m b : Addr) (w : World) (hs : s.size ≤ 1048576) (hG : Ground m b w) :
    Calls Tryz.prog 53 #[.string s, .func (.func 54) #[] #[]] w fun e w' => ∃ v', e = .returned (.tuple #[Req.val (readReq s).1.1 (readReq s).1.2.1 v' (readReq s).1.2.2.2, .int .i64 (readReq s).2.1, .int .i64 (readReq s).2.2]) ∧ Flds.Own w.heap.size w' v' (readReq s).1.2.2.1 ∧ Below w.heap.size w w' := by
  have hmf : ∀ (fn : Fn) (first cap : Array Value) (w : World), (Instr.makeFunc fn first cap).run Tryz.prog w = .ok (.func fn first cap) w := fun _ _ _ _ => rfl
  obtain ⟨R, hR⟩ : ∃ R, readReq s = R := ⟨_, rfl⟩
  rw [hR]
  obtain ⟨c, hcc⟩ : ∃ c, (if 1500 < s.size then 2 else 1 : Nat) = c := ⟨_, rfl⟩
  have hc : c = 1 ∨ c = 2 := by rw [← hcc]; split <;> simp
  have hno : whole s = false → R = noRq (c : Int) := fun hw => by rw [← hR, ← hcc]; unfold readReq; rw [if_pos hw]; split <;> rfl
  go_enter_defers Tryz.func53, Tryz.ntmps53
  go_upto_region 3 with fail
  have hb0 : Below w.heap.size w (((w.alloc Z4).alloc Zc).alloc (Zr s)) := (((Below.refl w.heap.size w).alloc (Nat.le_refl _) Z4).alloc (by simp) Zc).alloc (by simp; omega) (Zr s)
  have hz0 : (((w.alloc Z4).alloc Zc).alloc (Zr s)).heap.size = w.heap.size + 1 + 1 + 1 := by rw [World.size_alloc, World.size_alloc, World.size_alloc]
  obtain ⟨r0, r1, r2⟩ := Recs.three_rows w _ Z4 Zc (Zr s) (Below.refl _ _)
  change Code.wp _ _ _ _ (((w.alloc Z4).alloc Zc).alloc (Zr s))
  generalize (((w.alloc Z4).alloc Zc).alloc (Zr s)) = W at hb0 hz0 r0 r1 r2 ⊢
  have hrd : Rd (w.heap.size + 1 + 1) s 0 (.slice none 0 0) W := r2
  have HDn : Hid (∀ X, W.grownBy X (some (w.heap.size + 1 + 1)) → Told4 w X ∧ Below w.heap.size w X ∧ Ground m b X) := fun X hX =>
    ⟨⟨(hX.block _ (by omega) (by simp; omega)).trans r0, (hX.block _ (by omega) (by simp)).trans r1⟩, hb0.grown hX hb0.size (fun k hk => by have := Option.some.inj hk; omega), ground_grown hG hb0 (by omega) hX⟩
  have HAw := Num.hide (await_impl (w.heap.size + 1 + 1) s (.slice none 0 0) m b W hrd hs (hG.below hb0).lim (hG.below hb0).errs)
  have HRq := Num.hide (fun X h hw hG => request_impl (w.heap.size + 1 + 1) s (.slice none 0 0) m b X h hs hw hG)
  have HRd := Num.hide hrd
  rw [hR] at HRq
  clear r0 r1 r2 hrd hG hb0
  cases hw : whole s with
  | false =>
    rw [hw, if_neg (by decide), hcc] at HAw
    have hR2 := hno hw
    clear hw hR HRq hno hcc
    subst hR2
    go_wp2_with fail
    refine HAw.out.mono ?_
    rintro e w1 ⟨rfl, hb1⟩
    obtain ⟨ht, hb, hg⟩ := HDn.out w1 (Recs.grown_of_below hb1 _)
    unfold thrown
    refine leaves_cons (f := 100) (args := #[.pointer (some ⟨w.heap.size + 1, 0, none⟩)]) (by simp) (by simp [go_sem]) ?_
    refine (catch_throw ⟨w.heap.size + 1, 0, none⟩ c hc 0 m b w1 hg.errs ht.code ht.thaw).mono ?_
    rintro e u' w'' ⟨rfl, rfl, rfl⟩
    have HF := Num.hide (told_no w w1 c ht hb)
    obtain ⟨k0, k1, k2, k3⟩ := ht.cells c
    have kc := ht.coded c
    simp [Leaves, settle, results, Tryz.results53, go_sem, k0, k1, k2, k3, kc]
    exact ⟨.slice none 0 0, ⟨rfl, rfl, rfl⟩, HF.out.1, HF.out.2⟩
  | true =>
    rw [hw, if_pos rfl] at HAw
    clear hno hcc hc
    go_wp2_with fail
    refine HAw.out.mono ?_
    rintro e w1 ⟨rfl, hb1⟩
    have G1 := Num.hide (Recs.grown_of_below hb1 (some (w.heap.size + 1 + 1)))
    have R1 := Num.hide (HRd.out.step hb1)
    have hz1 := hb1.size
    clear hb1 HAw HRd
    go_wp2_with fail
    refine (HRq.out w1 R1.out hw (fun X hX => (HDn.out X (Recs.grown_trans G1.out hX)).2.2)).mono ?_
    rintro e w2 hre
    obtain ⟨hg2, hif⟩ := hre
    obtain ⟨ht, hb, hg⟩ := HDn.out w2 (Recs.grown_trans G1.out hg2)
    have hz2 := hg2.size
    clear hg2 HRq HDn
    by_cases h0 : R.2.2 = 0
    · rw [if_pos h0] at hif
      obtain ⟨v, rfl, ho, f, n, hn, hrd⟩ := hif
      obtain ⟨⟨mm, uu, L, bb⟩, N, C⟩ := R
      simp only at h0 hrd ho hn
      subst h0
      subst hn
      obtain ⟨a2, q2, hv⟩ := Recs.own_len ho
      subst hv
      obtain ⟨k0, k1, k2, k3⟩ := ht.rows
      obtain ⟨z0, z1, z2, z3⟩ := ht.thaws
      have kc := ht.code
      have zc := ht.thaw
      obtain ⟨c0, c1, c2⟩ := hrd.cells
      have HD := Num.hide (done4 w w2 ht hb mm uu bb _ L _ ho (by omega))
      unfold Req.val
      clear ho hb hg hrd ht hw
      go_upto_region 5 with fail
      go_region
      go_wp2
      refine leaves_cons (f := 100) (args := #[.pointer (some ⟨w.heap.size + 1, 0, none⟩)]) (by simp) (by simp [go_sem]) ?_
      refine (catch_idle ⟨w.heap.size + 1, 0, none⟩ _).mono ?_
      rintro e u' w'' ⟨rfl, rfl, rfl⟩
      change Leaves _ _ _ _ _ _ (told4 w.heap.size mm uu (.slice a2 L.length q2) bb w2)
      obtain ⟨j0, j1, j2, j3, jc, jo, jb⟩ := HD.out
      generalize told4 w.heap.size mm uu (.slice a2 L.length q2) bb w2 = Y at j0 j1 j2 j3 jc jo jb ⊢
      simp [Leaves, settle, results, Tryz.results53, go_sem, j0, j1, j2, j3, jc]
      exact ⟨_, rfl, jo, jb⟩
    · rw [if_neg h0] at hif
      have hc : R.2.2 = 1 ∨ R.2.2 = 2 := read_code s R hR h0
      obtain ⟨d, hd, hdc⟩ : ∃ d : Nat, (d = 1 ∨ d = 2) ∧ R = noRq (d : Int) := by
        rcases hc with h1 | h1
        · exact ⟨1, .inl rfl, by rw [read_no s R hR h0, h1]; rfl⟩
        · exact ⟨2, .inr rfl, by rw [read_no s R hR h0, h1]; rfl⟩
      clear hc hR h0 hw
      subst hdc
      obtain rfl : e = thrown m b d := hif
      unfold thrown
      refine leaves_cons (f := 100) (args := #[.pointer (some ⟨w.heap.size + 1, 0, none⟩)]) (by simp) (by simp [go_sem]) ?_
      refine (catch_throw ⟨w.heap.size + 1, 0, none⟩ d hd 0 m b w2 hg.errs ht.code ht.thaw).mono ?_
      rintro e u' w'' ⟨rfl, rfl, rfl⟩
      have HF := Num.hide (told_no w w2 d ht hb)
      obtain ⟨k0, k1, k2, k3⟩ := ht.cells d
      have kc := ht.coded d
      simp [Leaves, settle, results, Tryz.results53, go_sem, k0, k1, k2, k3, kc]
      exact ⟨.slice none 0 0, ⟨rfl, rfl, rfl⟩, HF.out.1, HF.out.2⟩
set_option maxRecDepth 100000 in
set_option maxHeartbeats 2000000 in
theorem readReq_impl (s : ByteArray) (m b : Addr) (w : World) (hs : s.size ≤ 1048576) (hG : Ground m b w) :
    Calls Tryz.prog 19 #[.string s] w fun e w' => ∃ v', e = .returned (.tuple #[Req.val (readReq s).1.1 (readReq s).1.2.1 v' (readReq s).1.2.2.2, .int .i64 (readReq s).2.1, .int .i64 (readReq s).2.2]) ∧ Flds.Own w.heap.size w' v' (readReq s).1.2.2.1 ∧ Below w.heap.size w w' := by
  have hb0 := (Below.refl w.heap.size w).alloc (Nat.le_refl _) Z4
  have HM := Num.hide (readMsg_impl s m b (w.alloc Z4) hs (hG.below hb0))
  clear hG hb0
  generalize readReq s = R at HM ⊢
  obtain ⟨⟨mm, uu, L, bb⟩, N, C⟩ := R
  unfold Req.val at HM ⊢
  simp only at HM ⊢
  go_enter Tryz.func19, Tryz.ntmps19
  go_wp2_with fail
  refine HM.out.mono ?_
  rintro e w1 ⟨v, rfl, ho, hb⟩
  have hz : (w.alloc Z4).heap.size = w.heap.size + 1 := by rw [World.size_alloc]
  have hrow : w1.heap[w.heap.size]? = some Z4 := (hb.block _ (by omega)).trans (heap_alloc_new w Z4)
  have hB0 := (Below.refl w.heap.size w).alloc (Nat.le_refl _) Z4
  have hB1 := hB0.trans (hb.mono hB0.size)
  have n0 : ∀ j, v.ownBlock = some j → j ≠ w.heap.size := fun j hj => by have := (Recs.own_lt ho j hj).1; omega
  have o1 := Recs.own_set ho w.heap.size 0 (.string mm) n0
  have o2 := Recs.own_set o1 w.heap.size 1 (.string uu) n0
  have o3 := Recs.own_set o2 w.heap.size 2 v n0
  have HO := Num.hide (Recs.own_mono (Recs.own_set o3 w.heap.size 3 (.string bb) n0) (by omega : w.heap.size ≤ (w.alloc Z4).heap.size))
  have HB := Num.hide ((((hB1.setCell (p := ⟨w.heap.size, 0, none⟩) (Nat.le_refl _) (.string mm)).setCell (p := ⟨w.heap.size, 1, none⟩) (Nat.le_refl _) (.string uu)).setCell (p := ⟨w.heap.size, 2, none⟩) (Nat.le_refl _) v).setCell (p := ⟨w.heap.size, 3, none⟩) (Nat.le_refl _) (.string bb))
  have k0 := Recs.box_cell hrow 0
  have k1 := Recs.box_cell hrow 1
  have k2 := Recs.box_cell hrow 2
  have k3 := Recs.box_cell hrow 3
  have z0 := Recs.box_thaw hrow 0
  have z1 := Recs.box_thaw hrow 1
  have z2 := Recs.box_thaw hrow 2
  have z3 := Recs.box_thaw hrow 3
  simp only [List.getElem?_toArray, List.getElem?_cons_succ, List.getElem?_cons_zero] at k0 k1 k2 k3
  obtain ⟨a2, q2, hv⟩ := Recs.own_len ho
  subst hv
  clear ho hb hrow hB0 hB1 n0 o1 o2 o3 hz HM
  go_wp2
  exact bodyPost_ret (v := .tuple #[.agg #[.string mm, .string uu, .slice a2 L.length q2, .string bb], .int .i64 N, .int .i64 C]) (by simp [results, Tryz.results19, go_sem, *]) rfl ⟨_, rfl, HO.out, HB.out⟩
end Msg
end Go.Proofs.YtbajfklnekfeoaaGreatDoor
namespace Go.Proofs.YtbajfklnekfeoaaGreatDoor
open Go.RowKit
set_option linter.unusedVariables false
namespace Msg

set_option maxRecDepth 100000 in
theorem hasBody_impl (s : Int) (w : World) : Calls Tryz.prog 62 #[.int .i64 s] w fun e w' => e = .returned (.bool (decide (s ≠ 204 ∧ s ≠ 304))) ∧ w = w' := by
  by_cases h1 : s = 204
  · subst h1
    go_enter Tryz.func62, Tryz.ntmps62
    go_wp2
    go_ret
    exact ⟨rfl, rfl⟩
  · have d1 : (s != 204) = true := by rw [bne_iff_ne]; exact h1
    by_cases h2 : s = 304
    · subst h2
      go_enter Tryz.func62, Tryz.ntmps62
      go_wp2
      go_ret
      exact ⟨rfl, rfl⟩
    · have d2 : (s != 304) = true := by rw [bne_iff_ne]; exact h2
      rw [decide_eq_true ⟨h1, h2⟩]
      clear h1 h2
      go_enter Tryz.func62, Tryz.ntmps62
      go_wp2
      go_ret
      exact ⟨rfl, rfl⟩
theorem signs_alloc3 {w : World} (h : Sign.Signs w) (o : Obj) : Sign.Signs (w.alloc o) := Flds.signs_below h ((Below.refl w.heap.size w).alloc (Nat.le_refl _) o) (Flds.signs_lt h)
set_option maxRecDepth 100000 in
set_option maxHeartbeats 2000000 in
theorem respOk_impl (s : Int) (v : Value) (l : List Flds.Fld) (b : ByteArray) (w : World) (h : Flds.Is w v l) (hl : Flds.bulk l ≤ 1048576) (hb : b.size ≤ 1048576) (hS : Sign.Signs w) :
    Calls Tryz.prog 59 #[Resp.val s v b] w fun e w' => e = .returned (.bool (respOk s l b)) ∧ Below w.heap.size w w' := by
  unfold Resp.val
  have HHb := Num.hide (fun W => hasBody_impl s W)
  obtain ⟨a, c, rfl, _⟩ := Flds.is_form h
  have hb0 := (Below.refl w.heap.size w).alloc (Nat.le_refl _) (.cells #[.int .i64 s, .slice a l.length c, .string b] 47)
  have HB0 := Num.hide hb0
  have HP := Num.hide (own_impl (.slice a l.length c) l _ (Recs.is_stay h (Nat.le_refl _) hb0) hl (signs_alloc3 hS _))
  clear h hb0 hl hS
  obtain ⟨r, hr⟩ : ∃ r, respOk s l b = r := ⟨_, rfl⟩
  rw [hr]
  unfold respOk at hr
  generalize plain l = t3 at HP hr
  have fin : ∀ W, Below (w.alloc (.cells #[.int .i64 s, .slice a l.length c, .string b] 47)).heap.size (w.alloc (.cells #[.int .i64 s, .slice a l.length c, .string b] 47)) W → W.cell? ⟨w.heap.size, 0, none⟩ = some (.int .i64 s) ∧ W.cell? ⟨w.heap.size, 2, none⟩ = some (.string b) := fun W hb2 => by
    have k0 := (hb2.cell (p := ⟨w.heap.size, 0, none⟩) (by show w.heap.size < _; rw [World.size_alloc]; omega)).trans (cell_of_row _ _ _ _ _ _ (heap_alloc_new w _))
    have k3 := (hb2.cell (p := ⟨w.heap.size, 2, none⟩) (by show w.heap.size < _; rw [World.size_alloc]; omega)).trans (cell_of_row _ _ _ _ _ _ (heap_alloc_new w _))
    simp only [List.getElem?_toArray, List.getElem?_cons_succ, List.getElem?_cons_zero] at k0 k3
    exact ⟨k0, k3⟩
  have FIN := Num.hide fin
  clear fin
  by_cases h2 : s < 200
  · have d2 : decide (s < 200) = true := decide_eq_true h2
    obtain rfl : false = r := by rw [← hr, decide_eq_false (by omega : ¬ (200 ≤ s ∧ s ≤ 599))]; rfl
    clear hr HP
    go_enter Tryz.func59, Tryz.ntmps59
    go_wp2
    go_ret
    exact ⟨rfl, HB0.out⟩
  · have d2 : decide (s < 200) = false := decide_eq_false h2
    by_cases h5 : 599 < s
    · have d5 : decide (599 < s) = true := decide_eq_true h5
      obtain rfl : false = r := by rw [← hr, decide_eq_false (by omega : ¬ (200 ≤ s ∧ s ≤ 599))]; rfl
      clear hr HP
      go_enter Tryz.func59, Tryz.ntmps59
      go_wp2
      go_ret
      exact ⟨rfl, HB0.out⟩
    · have d5 : decide (599 < s) = false := decide_eq_false h5
      rw [decide_eq_true (by omega : 200 ≤ s ∧ s ≤ 599), Bool.true_and] at hr
      cases t3 with
      | false =>
        obtain rfl : false = r := by rw [← hr]; rfl
        clear hr
        go_enter Tryz.func59, Tryz.ntmps59
        go_wp2_with fail
        refine HP.out.mono ?_
        rintro e w2 ⟨rfl, hb2⟩
        have HB2 := Num.hide (HB0.out.trans (hb2.mono HB0.out.size))
        clear hb2 HP
        go_wp2
        go_ret
        exact ⟨rfl, HB2.out⟩
      | true =>
        rw [Bool.true_and] at hr
        by_cases he : b = ⟨#[]⟩
        · have db : b.toList.isEmpty = true := by rw [he, ByteArray.toList_eq]; rfl
          obtain rfl : true = r := by rw [← hr, decide_eq_true he, Bool.or_true, he]; rfl
          clear hr he
          go_enter Tryz.func59, Tryz.ntmps59
          go_wp2_with fail
          refine HP.out.mono ?_
          rintro e w2 ⟨rfl, hb2⟩
          have HB2 := Num.hide (HB0.out.trans (hb2.mono HB0.out.size))
          obtain ⟨k0, k2⟩ := FIN.out _ hb2
          clear hb2 HP
          go_wp2
          go_ret
          exact ⟨rfl, HB2.out⟩
        · have db : b.toList.isEmpty = false := Sign.empty_false b (by
            rcases Nat.eq_zero_or_pos b.size with h0 | h0
            · exact absurd (ByteArray.ext (Array.eq_empty_of_size_eq_zero h0)) he
            · exact h0)
          rw [decide_eq_false he, Bool.or_false] at hr
          generalize decide (s ≠ 204 ∧ s ≠ 304) = t at HHb hr
          cases t with
          | false =>
            obtain rfl : false = r := by rw [← hr, Bool.and_false]
            clear hr
            go_enter Tryz.func59, Tryz.ntmps59
            go_wp2_with fail
            refine HP.out.mono ?_
            rintro e w2 ⟨rfl, hb2⟩
            have HB2 := Num.hide (HB0.out.trans (hb2.mono HB0.out.size))
            obtain ⟨k0, k2⟩ := FIN.out _ hb2
            clear hb2 HP he
            go_wp2_with fail
            refine (HHb.out _).mono ?_
            rintro e w3 ⟨rfl, rfl⟩
            go_wp2
            go_ret
            exact ⟨rfl, HB2.out⟩
          | true =>
            rw [Bool.and_true] at hr
            have d60 : decide ((b.size : Int) ≤ 60) = r := by rw [← hr, decide_eq_decide]; omega
            clear hr
            go_enter Tryz.func59, Tryz.ntmps59
            go_wp2_with fail
            refine HP.out.mono ?_
            rintro e w2 ⟨rfl, hb2⟩
            have HB2 := Num.hide (HB0.out.trans (hb2.mono HB0.out.size))
            obtain ⟨k0, k2⟩ := FIN.out _ hb2
            clear hb2 HP he
            go_wp2_with fail
            refine (HHb.out _).mono ?_
            rintro e w3 ⟨rfl, rfl⟩
            go_wp2
            go_ret
            exact ⟨rfl, HB2.out⟩
end Msg
end Go.Proofs.YtbajfklnekfeoaaGreatDoor
namespace Go.Proofs.YtbajfklnekfeoaaGreatDoor
open Go.RowKit
set_option linter.unusedVariables false
namespace Msg

theorem reasonF_other (st : Int) (h : ∀ i, i < 11 → ¬ known.getD i 0 = st) : ∀ (n i : Nat), i + n = 11 → reasonF st n i = ⟨#[83, 116, 97, 116, 117, 115]⟩ := by
  intro n
  induction n with
  | zero => intro i _; rfl
  | succ n ih =>
    intro i hi
    unfold reasonF
    rw [if_neg (h i (by omega)), ih (i + 1) (by omega)]
set_option maxRecDepth 100000 in
set_option maxHeartbeats 2000000 in
theorem reason_impl (st : Int) (w : World) : Calls Tryz.prog 61 #[.int .i64 st] w fun e w' => e = .returned (.string (reason st)) ∧ w = w' := by
  by_cases h200 : st = 200
  · subst h200
    have hr : reason 200 = texts.getD 0 ⟨#[]⟩ := by decide +kernel
    rw [hr]
    clear hr
    go_enter Tryz.func61, Tryz.ntmps61
    go_wp2
    go_ret
    exact ⟨rfl, rfl⟩
  by_cases h203 : st = 203
  · subst h203
    have hr : reason 203 = texts.getD 1 ⟨#[]⟩ := by decide +kernel
    rw [hr]
    clear hr
    go_enter Tryz.func61, Tryz.ntmps61
    go_wp2
    go_ret
    exact ⟨rfl, rfl⟩
  by_cases h204 : st = 204
  · subst h204
    have hr : reason 204 = texts.getD 2 ⟨#[]⟩ := by decide +kernel
    rw [hr]
    clear hr
    go_enter Tryz.func61, Tryz.ntmps61
    go_wp2
    go_ret
    exact ⟨rfl, rfl⟩
  by_cases h300 : st = 300
  · subst h300
    have hr : reason 300 = texts.getD 3 ⟨#[]⟩ := by decide +kernel
    rw [hr]
    clear hr
    go_enter Tryz.func61, Tryz.ntmps61
    go_wp2
    go_ret
    exact ⟨rfl, rfl⟩
  by_cases h301 : st = 301
  · subst h301
    have hr : reason 301 = texts.getD 4 ⟨#[]⟩ := by decide +kernel
    rw [hr]
    clear hr
    go_enter Tryz.func61, Tryz.ntmps61
    go_wp2
    go_ret
    exact ⟨rfl, rfl⟩
  by_cases h304 : st = 304
  · subst h304
    have hr : reason 304 = texts.getD 5 ⟨#[]⟩ := by decide +kernel
    rw [hr]
    clear hr
    go_enter Tryz.func61, Tryz.ntmps61
    go_wp2
    go_ret
    exact ⟨rfl, rfl⟩
  by_cases h400 : st = 400
  · subst h400
    have hr : reason 400 = texts.getD 6 ⟨#[]⟩ := by decide +kernel
    rw [hr]
    clear hr
    go_enter Tryz.func61, Tryz.ntmps61
    go_wp2
    go_ret
    exact ⟨rfl, rfl⟩
  by_cases h404 : st = 404
  · subst h404
    have hr : reason 404 = texts.getD 7 ⟨#[]⟩ := by decide +kernel
    rw [hr]
    clear hr
    go_enter Tryz.func61, Tryz.ntmps61
    go_wp2
    go_ret
    exact ⟨rfl, rfl⟩
  by_cases h410 : st = 410
  · subst h410
    have hr : reason 410 = texts.getD 8 ⟨#[]⟩ := by decide +kernel
    rw [hr]
    clear hr
    go_enter Tryz.func61, Tryz.ntmps61
    go_wp2
    go_ret
    exact ⟨rfl, rfl⟩
  by_cases h502 : st = 502
  · subst h502
    have hr : reason 502 = texts.getD 9 ⟨#[]⟩ := by decide +kernel
    rw [hr]
    clear hr
    go_enter Tryz.func61, Tryz.ntmps61
    go_wp2
    go_ret
    exact ⟨rfl, rfl⟩
  by_cases h504 : st = 504
  · subst h504
    have hr : reason 504 = texts.getD 10 ⟨#[]⟩ := by decide +kernel
    rw [hr]
    clear hr
    go_enter Tryz.func61, Tryz.ntmps61
    go_wp2
    go_ret
    exact ⟨rfl, rfl⟩
  · obtain ⟨r, hr⟩ : ∃ r, reason st = r := ⟨_, rfl⟩
    obtain rfl : ⟨#[83, 116, 97, 116, 117, 115]⟩ = r := by
      rw [← hr]
      unfold reason
      rw [reasonF_other st ?_ 11 0 rfl]
      intro i hi
      match i, hi with
      | 0, _ => exact fun h => h200 h.symm
      | 1, _ => exact fun h => h203 h.symm
      | 2, _ => exact fun h => h204 h.symm
      | 3, _ => exact fun h => h300 h.symm
      | 4, _ => exact fun h => h301 h.symm
      | 5, _ => exact fun h => h304 h.symm
      | 6, _ => exact fun h => h400 h.symm
      | 7, _ => exact fun h => h404 h.symm
      | 8, _ => exact fun h => h410 h.symm
      | 9, _ => exact fun h => h502 h.symm
      | 10, _ => exact fun h => h504 h.symm
    rw [hr]
    clear hr
    have d200 : (st == 200) = false := by rw [beq_eq_false_iff_ne]; exact h200
    have d203 : (st == 203) = false := by rw [beq_eq_false_iff_ne]; exact h203
    have d204 : (st == 204) = false := by rw [beq_eq_false_iff_ne]; exact h204
    have d300 : (st == 300) = false := by rw [beq_eq_false_iff_ne]; exact h300
    have d301 : (st == 301) = false := by rw [beq_eq_false_iff_ne]; exact h301
    have d304 : (st == 304) = false := by rw [beq_eq_false_iff_ne]; exact h304
    have d400 : (st == 400) = false := by rw [beq_eq_false_iff_ne]; exact h400
    have d404 : (st == 404) = false := by rw [beq_eq_false_iff_ne]; exact h404
    have d410 : (st == 410) = false := by rw [beq_eq_false_iff_ne]; exact h410
    have d502 : (st == 502) = false := by rw [beq_eq_false_iff_ne]; exact h502
    have d504 : (st == 504) = false := by rw [beq_eq_false_iff_ne]; exact h504
    go_enter Tryz.func61, Tryz.ntmps61
    go_wp2
    go_ret
    exact ⟨rfl, rfl⟩
theorem reason_impl_b (st : Int) (w : World) : Calls Tryz.prog 61 #[.int .i64 st] w fun e w' => e = .returned (.string (reason st)) ∧ Below w.heap.size w w' :=
  (reason_impl st w).mono (fun _ _ h => ⟨h.1, h.2 ▸ Below.refl _ _⟩)
end Msg
end Go.Proofs.YtbajfklnekfeoaaGreatDoor
namespace Go.Proofs.YtbajfklnekfeoaaGreatDoor
open Go.RowKit
set_option linter.unusedVariables false
set_option linter.unusedSimpArgs false
namespace Msg

set_option maxRecDepth 100000 in
set_option maxHeartbeats 4000000 in
theorem showResp_impl (st : Int) (v : Value) (l : List Flds.Fld) (b : ByteArray) (w : World) (h : Flds.Is w v l) (hl : Flds.bulk l ≤ 1048576) (hb : b.size ≤ 1048576) (hS : Sign.Signs w) (hT : Dec.Tab w) :
    Calls Tryz.prog 23 #[Resp.val st v b] w fun e w' => e = .returned (.string (showResp st l b)) ∧ Below w.heap.size w w' := by
  have HOk := Num.hide (fun v W h hS => respOk_impl st v l b W h hl hb hS)
  have HSg := Num.hide hS
  have hsg := Flds.signs_lt hS
  have HI := Num.hide h
  unfold Resp.val at HOk ⊢
  obtain ⟨a, c, rfl, _⟩ := Flds.is_form h
  have HB0 := Num.hide ((Below.refl w.heap.size w).alloc (Nat.le_refl _) (.cells #[.int .i64 st, .slice a l.length c, .string b] 47))
  clear h hS
  cases hok : respOk st l b with
  | false =>
    have hsr : showResp st l b = ⟨#[]⟩ := by unfold showResp; rw [if_neg (by rw [hok]; decide)]
    rw [hsr]
    rw [hok] at HOk
    clear hsr hok
    go_enter Tryz.func23, Tryz.ntmps23
    go_wp2_with fail
    refine (HOk.out _ _ (Recs.is_stay HI.out (Nat.le_refl _) HB0.out) (Flds.signs_below HSg.out HB0.out hsg)).mono ?_
    rintro e W2 ⟨rfl, hb2⟩
    have HB2 := Num.hide (HB0.out.trans (hb2.mono HB0.out.size))
    clear hb2 HOk
    go_wp2
    go_ret
    exact ⟨rfl, HB2.out⟩
  | true =>
    obtain ⟨⟨h1, h1'⟩, h2, h3, h4⟩ := resp_parts hok
    have HDc := Num.hide (fun W hT => Dec.impl_any st W (by omega) (by omega) hT)
    have HRs := Num.hide (fun W => reason_impl_b st W)
    have HHb := Num.hide (fun W => hasBody_impl st W)
    have HTb := Num.hide hT
    have hsr : showResp st l b = respText st l b := by unfold showResp; rw [if_pos hok]
    rw [hsr]
    obtain ⟨r, hr⟩ : ∃ r, respText st l b = r := ⟨_, rfl⟩
    rw [hr]
    unfold respText at hr
    rw [hok] at HOk
    have hdz : (decB st).size ≤ 20 := by rw [(dec_status st h1 h1').1]; omega
    have hrz : (reason st).size ≤ 40 := (reason_none st).2
    have hdd : (⟨(Lib.itoa st).toArray⟩ : ByteArray) = decB st := rfl
    rw [hdd] at HDc
    clear hdd hT
    generalize decB st = D at HDc hr hdz
    generalize reason st = R at HRs hr hrz
    have f1 : ¬ 9223372036854775807 < 9 + D.size := by omega
    have f2 : ¬ 9223372036854775807 < 9 + D.size + 1 := by omega
    have f3 : ¬ 9223372036854775807 < 9 + D.size + 1 + R.size := by omega
    have f4 : ¬ 9223372036854775807 < 9 + D.size + 1 + R.size + 2 := by omega
    by_cases h24 : st ≠ 204 ∧ st ≠ 304
    · have hrf : respFields st l b = framed l b := if_pos h24
      rw [hrf] at hr
      have hfo := ok_framed h2 b h3
      have hsm := shown_small hfo
      have HSh := Num.hide (fun v W h hS => Flds.show_impl v (framed l b) W h (ok_bulk hfo) hS)
      have HF := Num.hide (fun W h (hT : Dec.Tab W) => length_impl (.slice a l.length c) l b W h hl h3 hT)
      rw [set_plain h2] at HF
      generalize Flds.shown (framed l b) = S at HSh hr hsm
      have HR := Num.hide hr
      rw [decide_eq_true h24] at HHb
      have f5 : ¬ 9223372036854775807 < 9 + D.size + 1 + R.size + 2 + S.size := by omega
      have f6 : ¬ 9223372036854775807 < 9 + D.size + 1 + R.size + 2 + S.size + b.size := by omega
      clear hr hok h2 h4 hfo hsr hrf h24
      go_enter Tryz.func23, Tryz.ntmps23
      go_wp2_with fail
      refine (HOk.out _ _ (Recs.is_stay HI.out (Nat.le_refl _) HB0.out) (Flds.signs_below HSg.out HB0.out hsg)).mono ?_
      rintro e W2 ⟨rfl, hb2⟩
      have HK := Num.hide (Tri.first w _ _ _ _ hb2)
      obtain ⟨g0, g1, g2, _⟩ := HK.out
      clear hb2 HOk
      go_upto_region 3 with fail
      refine wp_region_held_drew (S := Tri w (.int .i64 st) (.slice a l.length c) (.string b)) (by kernel_rfl) HK.out.drew (fun hHeld => ?_)
      clear g0 g1 g2
      refine Reg.take (i := 0) (d := 7) (v := ?_) rfl rfl (by kernel_rfl) (by kernel_rfl) (by kernel_rfl) (fun _ _ _ h => h) (by rfl) ?_ hHeld ?_
      rotate_left
      · rintro W ⟨g0, g1, g2, g3⟩
        first | (go_simp; done) | (go_simp; with_reducible rfl)
      simp only [Act.put, List.setIfInBounds_toArray, List.set_cons_zero, List.set_cons_succ]
      refine Reg.take (i := 1) (d := 8) (v := ?_) rfl rfl (by kernel_rfl) (by kernel_rfl) (by kernel_rfl) (fun _ _ _ h => h) (by rfl) ?_ hHeld ?_
      rotate_left
      · rintro W ⟨g0, g1, g2, g3⟩
        first | (go_simp; done) | (go_simp; with_reducible rfl)
      simp only [Act.put, List.setIfInBounds_toArray, List.set_cons_zero, List.set_cons_succ]
      refine Reg.take (i := 5) (d := 12) (v := ?_) rfl rfl (by kernel_rfl) (by kernel_rfl) (by kernel_rfl) (fun _ _ _ h => h) (by rfl) ?_ hHeld ?_
      rotate_left
      · rintro W ⟨g0, g1, g2, g3⟩
        first | (go_simp; done) | (go_simp; with_reducible rfl)
      simp only [Act.put, List.setIfInBounds_toArray, List.set_cons_zero, List.set_cons_succ]
      refine Reg.take (i := 6) (d := 13) (v := ?_) rfl rfl (by kernel_rfl) (by kernel_rfl) (by kernel_rfl) (fun _ _ _ h => h) (by rfl) ?_ hHeld ?_
      rotate_left
      · rintro W ⟨g0, g1, g2, g3⟩
        first | (go_simp; done) | (go_simp; with_reducible rfl)
      simp only [Act.put, List.setIfInBounds_toArray, List.set_cons_zero, List.set_cons_succ]
      refine Reg.call (i := 2) rfl (by kernel_rfl) (by rfl) (fun K hK => ?_)
      go_wp2_with (first | (go_at_call 60; refine (HDc.out _ (HTb.out.below hHeld.2.2.2)).mono ?_; rintro e W3 ⟨rfl, hb3⟩))
      have HB3 := Num.hide hb3
      clear hb3
      refine hK.out _ _ ?_ (fun hHeld2 => ?_)
      · exact Tri.step hHeld HB3.out
      clear hK K
      replace hHeld := hHeld2
      clear hHeld2
      refine Reg.take (i := 3) (d := 10) (v := ?_) rfl rfl (by kernel_rfl) (by kernel_rfl) (by kernel_rfl) (fun _ _ _ h => h) (by rfl) ?_ hHeld ?_
      rotate_left
      · rintro W ⟨g0, g1, g2, g3⟩
        first | (go_simp; done) | (go_simp; with_reducible rfl)
      simp only [Act.put, List.setIfInBounds_toArray, List.set_cons_zero, List.set_cons_succ]
      refine Reg.take (i := 4) (d := 11) (v := ?_) rfl rfl (by kernel_rfl) (by kernel_rfl) (by kernel_rfl) (fun _ _ _ h => h) (by rfl) ?_ hHeld ?_
      rotate_left
      · rintro W ⟨g0, g1, g2, g3⟩
        first | (go_simp; done) | (go_simp; with_reducible rfl)
      simp only [Act.put, List.setIfInBounds_toArray, List.set_cons_zero, List.set_cons_succ]
      refine Reg.call (i := 7) rfl (by kernel_rfl) (by rfl) (fun K hK => ?_)
      go_wp2_with (first | (go_at_call 61; refine (HRs.out _).mono ?_; rintro e W4 ⟨rfl, hb4⟩))
      have HB4 := Num.hide hb4
      clear hb4
      refine hK.out _ _ ?_ (fun hHeld2 => ?_)
      · exact Tri.step hHeld HB4.out
      clear hK K
      replace hHeld := hHeld2
      clear hHeld2
      refine Reg.take (i := 8) (d := 15) (v := ?_) rfl rfl (by kernel_rfl) (by kernel_rfl) (by kernel_rfl) (fun _ _ _ h => h) (by rfl) ?_ hHeld ?_
      rotate_left
      · rintro W ⟨g0, g1, g2, g3⟩
        first | (go_simp; done) | (go_simp; with_reducible rfl)
      simp only [Act.put, List.setIfInBounds_toArray, List.set_cons_zero, List.set_cons_succ]
      refine Reg.take (i := 9) (d := 16) (v := ?_) rfl rfl (by kernel_rfl) (by kernel_rfl) (by kernel_rfl) (fun _ _ _ h => h) (by rfl) ?_ hHeld ?_
      rotate_left
      · rintro W ⟨g0, g1, g2, g3⟩
        first | (go_simp; done) | (go_simp; with_reducible rfl)
      simp only [Act.put, List.setIfInBounds_toArray, List.set_cons_zero, List.set_cons_succ]
      refine Reg.take (i := 10) (d := 3) (v := ?_) rfl rfl (by kernel_rfl) (by kernel_rfl) (by kernel_rfl) (fun _ _ _ h => h) (by rfl) ?_ hHeld ?_
      rotate_left
      · rintro W ⟨g0, g1, g2, g3⟩
        first | (go_simp; done) | (go_simp; with_reducible rfl)
      simp only [Act.put, List.setIfInBounds_toArray, List.set_cons_zero, List.set_cons_succ]
      refine wpAnyH_done (by kernel_rfl) ?_ _
      have HK2 := Num.hide hHeld
      obtain ⟨g0, g1, g2, _⟩ := HK2.out
      clear hHeld HK
      go_wp2_with fail
      refine (HHb.out _).mono ?_
      rintro e W6 ⟨rfl, rfl⟩
      go_upto_region 6 with fail
      refine wp_region_held_drew (S := Tri w (.int .i64 st) (.slice a l.length c) (.string b)) (by kernel_rfl) HK2.out.drew (fun hHeld => ?_)
      clear g0 g1 g2
      refine Reg.take (i := 0) (d := 26) (v := ?_) rfl rfl (by kernel_rfl) (by kernel_rfl) (by kernel_rfl) (fun _ _ _ h => h) (by rfl) ?_ hHeld ?_
      rotate_left
      · rintro W ⟨g0, g1, g2, g3⟩
        first | (go_simp; done) | (go_simp; with_reducible rfl)
      simp only [Act.put, List.setIfInBounds_toArray, List.set_cons_zero, List.set_cons_succ]
      refine Reg.take (i := 1) (d := 27) (v := ?_) rfl rfl (by kernel_rfl) (by kernel_rfl) (by kernel_rfl) (fun _ _ _ h => h) (by rfl) ?_ hHeld ?_
      rotate_left
      · rintro W ⟨g0, g1, g2, g3⟩
        first | (go_simp; done) | (go_simp; with_reducible rfl)
      simp only [Act.put, List.setIfInBounds_toArray, List.set_cons_zero, List.set_cons_succ]
      refine Reg.take (i := 2) (d := 28) (v := ?_) rfl rfl (by kernel_rfl) (by kernel_rfl) (by kernel_rfl) (fun _ _ _ h => h) (by rfl) ?_ hHeld ?_
      rotate_left
      · rintro W ⟨g0, g1, g2, g3⟩
        first | (go_simp; done) | (go_simp; with_reducible rfl)
      simp only [Act.put, List.setIfInBounds_toArray, List.set_cons_zero, List.set_cons_succ]
      refine Reg.take (i := 3) (d := 29) (v := ?_) rfl rfl (by kernel_rfl) (by kernel_rfl) (by kernel_rfl) (fun _ _ _ h => h) (by rfl) ?_ hHeld ?_
      rotate_left
      · rintro W ⟨g0, g1, g2, g3⟩
        first | (go_simp; done) | (go_simp; with_reducible rfl)
      simp only [Act.put, List.setIfInBounds_toArray, List.set_cons_zero, List.set_cons_succ]
      refine Reg.take (i := 4) (d := 30) (v := ?_) rfl rfl (by kernel_rfl) (by kernel_rfl) (by kernel_rfl) (fun _ _ _ h => h) (by rfl) ?_ hHeld ?_
      rotate_left
      · rintro W ⟨g0, g1, g2, g3⟩
        first | (go_simp; done) | (go_simp; with_reducible rfl)
      simp only [Act.put, List.setIfInBounds_toArray, List.set_cons_zero, List.set_cons_succ]
      refine Reg.take (i := 8) (d := 34) (v := ?_) rfl rfl (by kernel_rfl) (by kernel_rfl) (by kernel_rfl) (fun _ _ _ h => h) (by rfl) ?_ hHeld ?_
      rotate_left
      · rintro W ⟨g0, g1, g2, g3⟩
        first | (go_simp; done) | (go_simp; with_reducible rfl)
      simp only [Act.put, List.setIfInBounds_toArray, List.set_cons_zero, List.set_cons_succ]
      refine Reg.take (i := 9) (d := 35) (v := ?_) rfl rfl (by kernel_rfl) (by kernel_rfl) (by kernel_rfl) (fun _ _ _ h => h) (by rfl) ?_ hHeld ?_
      rotate_left
      · rintro W ⟨g0, g1, g2, g3⟩
        first | (go_simp; done) | (go_simp; with_reducible rfl)
      simp only [Act.put, List.setIfInBounds_toArray, List.set_cons_zero, List.set_cons_succ]
      refine Reg.call (i := 5) rfl (by kernel_rfl) (by rfl) (fun K hK => ?_)
      go_wp2_with (first | (go_at_call 52; refine (HF.out _ (Recs.is_stay HI.out (Nat.le_refl _) hHeld.2.2.2) (HTb.out.below hHeld.2.2.2)).mono ?_; rintro e W7 ⟨v7, rfl, ho7, hb7⟩))
      have HO7 := Num.hide ho7
      have HB7 := Num.hide hb7
      clear hb7 ho7
      refine hK.out _ _ ?_ (fun hHeld2 => ?_)
      · exact Tri.step hHeld HB7.out
      clear hK K
      replace hHeld := hHeld2
      clear hHeld2
      refine Reg.call (i := 6) rfl (by kernel_rfl) (by rfl) (fun K hK => ?_)
      go_wp2_with (first | (go_at_call 51; refine (HSh.out v7 _ (Recs.own_is Flds.cells_len HO7.out) (Flds.signs_below HSg.out hHeld.2.2.2 hsg)).mono ?_; rintro e W8 ⟨rfl, hb8⟩))
      have HB8 := Num.hide hb8
      clear hb8
      refine hK.out _ _ ?_ (fun hHeld2 => ?_)
      · exact Tri.step hHeld HB8.out
      clear hK K
      replace hHeld := hHeld2
      clear hHeld2
      refine Reg.take (i := 7) (d := 33) (v := ?_) rfl rfl (by kernel_rfl) (by kernel_rfl) (by kernel_rfl) (fun _ _ _ h => h) (by rfl) ?_ hHeld ?_
      rotate_left
      · rintro W ⟨g0, g1, g2, g3⟩
        first | (go_simp; done) | (go_simp; with_reducible rfl)
      simp only [Act.put, List.setIfInBounds_toArray, List.set_cons_zero, List.set_cons_succ]
      refine Reg.take (i := 10) (d := 36) (v := ?_) rfl rfl (by kernel_rfl) (by kernel_rfl) (by kernel_rfl) (fun _ _ _ h => h) (by rfl) ?_ hHeld ?_
      rotate_left
      · rintro W ⟨g0, g1, g2, g3⟩
        first | (go_simp; done) | (go_simp; with_reducible rfl)
      simp only [Act.put, List.setIfInBounds_toArray, List.set_cons_zero, List.set_cons_succ]
      refine Reg.take (i := 11) (d := 2) (v := ?_) rfl rfl (by kernel_rfl) (by kernel_rfl) (by kernel_rfl) (fun _ _ _ h => h) (by rfl) ?_ hHeld ?_
      rotate_left
      · rintro W ⟨g0, g1, g2, g3⟩
        first | (go_simp; done) | (go_simp; with_reducible rfl)
      simp only [Act.put, List.setIfInBounds_toArray, List.set_cons_zero, List.set_cons_succ]
      refine wpAnyH_done (by kernel_rfl) ?_ _
      have HH := Num.hide hHeld.2.2.2
      have hr := HR.out
      subst hr
      go_wp2
      go_ret
      exact ⟨rfl, HH.out⟩
    · have hrf : respFields st l b = l := if_neg h24
      rw [hrf] at hr
      have hb0 : b = ⟨#[]⟩ := h4.resolve_left h24
      have hlo : Flds.ok l = true := (plain_parts h2).2.2.2
      have hsm := shown_small hlo
      have HSh := Num.hide (fun v W h hS => Flds.show_impl v l W h hl hS)
      generalize Flds.shown l = S at HSh hr hsm
      have hr2 : ⟨#[72, 84, 84, 80, 47, 49, 46, 49, 32]⟩ ++ D ++ ⟨#[32]⟩ ++ R ++ ⟨#[13, 10]⟩ ++ S = r := by rw [← hr, hb0]; exact (ByteArray.append_empty).symm
      have HR := Num.hide hr2
      rw [decide_eq_false h24] at HHb
      have f5 : ¬ 9223372036854775807 < 9 + D.size + 1 + R.size + 2 + S.size := by omega
      clear hr hr2 hok h2 h4 hlo hsr hrf h24 hb0
      go_enter Tryz.func23, Tryz.ntmps23
      go_wp2_with fail
      refine (HOk.out _ _ (Recs.is_stay HI.out (Nat.le_refl _) HB0.out) (Flds.signs_below HSg.out HB0.out hsg)).mono ?_
      rintro e W2 ⟨rfl, hb2⟩
      have HK := Num.hide (Tri.first w _ _ _ _ hb2)
      obtain ⟨g0, g1, g2, _⟩ := HK.out
      clear hb2 HOk
      go_upto_region 3 with fail
      refine wp_region_held_drew (S := Tri w (.int .i64 st) (.slice a l.length c) (.string b)) (by kernel_rfl) HK.out.drew (fun hHeld => ?_)
      clear g0 g1 g2
      refine Reg.take (i := 0) (d := 7) (v := ?_) rfl rfl (by kernel_rfl) (by kernel_rfl) (by kernel_rfl) (fun _ _ _ h => h) (by rfl) ?_ hHeld ?_
      rotate_left
      · rintro W ⟨g0, g1, g2, g3⟩
        first | (go_simp; done) | (go_simp; with_reducible rfl)
      simp only [Act.put, List.setIfInBounds_toArray, List.set_cons_zero, List.set_cons_succ]
      refine Reg.take (i := 1) (d := 8) (v := ?_) rfl rfl (by kernel_rfl) (by kernel_rfl) (by kernel_rfl) (fun _ _ _ h => h) (by rfl) ?_ hHeld ?_
      rotate_left
      · rintro W ⟨g0, g1, g2, g3⟩
        first | (go_simp; done) | (go_simp; with_reducible rfl)
      simp only [Act.put, List.setIfInBounds_toArray, List.set_cons_zero, List.set_cons_succ]
      refine Reg.take (i := 5) (d := 12) (v := ?_) rfl rfl (by kernel_rfl) (by kernel_rfl) (by kernel_rfl) (fun _ _ _ h => h) (by rfl) ?_ hHeld ?_
      rotate_left
      · rintro W ⟨g0, g1, g2, g3⟩
        first | (go_simp; done) | (go_simp; with_reducible rfl)
      simp only [Act.put, List.setIfInBounds_toArray, List.set_cons_zero, List.set_cons_succ]
      refine Reg.take (i := 6) (d := 13) (v := ?_) rfl rfl (by kernel_rfl) (by kernel_rfl) (by kernel_rfl) (fun _ _ _ h => h) (by rfl) ?_ hHeld ?_
      rotate_left
      · rintro W ⟨g0, g1, g2, g3⟩
        first | (go_simp; done) | (go_simp; with_reducible rfl)
      simp only [Act.put, List.setIfInBounds_toArray, List.set_cons_zero, List.set_cons_succ]
      refine Reg.call (i := 2) rfl (by kernel_rfl) (by rfl) (fun K hK => ?_)
      go_wp2_with (first | (go_at_call 60; refine (HDc.out _ (HTb.out.below hHeld.2.2.2)).mono ?_; rintro e W3 ⟨rfl, hb3⟩))
      have HB3 := Num.hide hb3
      clear hb3
      refine hK.out _ _ ?_ (fun hHeld2 => ?_)
      · exact Tri.step hHeld HB3.out
      clear hK K
      replace hHeld := hHeld2
      clear hHeld2
      refine Reg.take (i := 3) (d := 10) (v := ?_) rfl rfl (by kernel_rfl) (by kernel_rfl) (by kernel_rfl) (fun _ _ _ h => h) (by rfl) ?_ hHeld ?_
      rotate_left
      · rintro W ⟨g0, g1, g2, g3⟩
        first | (go_simp; done) | (go_simp; with_reducible rfl)
      simp only [Act.put, List.setIfInBounds_toArray, List.set_cons_zero, List.set_cons_succ]
      refine Reg.take (i := 4) (d := 11) (v := ?_) rfl rfl (by kernel_rfl) (by kernel_rfl) (by kernel_rfl) (fun _ _ _ h => h) (by rfl) ?_ hHeld ?_
      rotate_left
      · rintro W ⟨g0, g1, g2, g3⟩
        first | (go_simp; done) | (go_simp; with_reducible rfl)
      simp only [Act.put, List.setIfInBounds_toArray, List.set_cons_zero, List.set_cons_succ]
      refine Reg.call (i := 7) rfl (by kernel_rfl) (by rfl) (fun K hK => ?_)
      go_wp2_with (first | (go_at_call 61; refine (HRs.out _).mono ?_; rintro e W4 ⟨rfl, hb4⟩))
      have HB4 := Num.hide hb4
      clear hb4
      refine hK.out _ _ ?_ (fun hHeld2 => ?_)
      · exact Tri.step hHeld HB4.out
      clear hK K
      replace hHeld := hHeld2
      clear hHeld2
      refine Reg.take (i := 8) (d := 15) (v := ?_) rfl rfl (by kernel_rfl) (by kernel_rfl) (by kernel_rfl) (fun _ _ _ h => h) (by rfl) ?_ hHeld ?_
      rotate_left
      · rintro W ⟨g0, g1, g2, g3⟩
        first | (go_simp; done) | (go_simp; with_reducible rfl)
      simp only [Act.put, List.setIfInBounds_toArray, List.set_cons_zero, List.set_cons_succ]
      refine Reg.take (i := 9) (d := 16) (v := ?_) rfl rfl (by kernel_rfl) (by kernel_rfl) (by kernel_rfl) (fun _ _ _ h => h) (by rfl) ?_ hHeld ?_
      rotate_left
      · rintro W ⟨g0, g1, g2, g3⟩
        first | (go_simp; done) | (go_simp; with_reducible rfl)
      simp only [Act.put, List.setIfInBounds_toArray, List.set_cons_zero, List.set_cons_succ]
      refine Reg.take (i := 10) (d := 3) (v := ?_) rfl rfl (by kernel_rfl) (by kernel_rfl) (by kernel_rfl) (fun _ _ _ h => h) (by rfl) ?_ hHeld ?_
      rotate_left
      · rintro W ⟨g0, g1, g2, g3⟩
        first | (go_simp; done) | (go_simp; with_reducible rfl)
      simp only [Act.put, List.setIfInBounds_toArray, List.set_cons_zero, List.set_cons_succ]
      refine wpAnyH_done (by kernel_rfl) ?_ _
      have HK2 := Num.hide hHeld
      obtain ⟨g0, g1, g2, _⟩ := HK2.out
      clear hHeld HK
      go_wp2_with fail
      refine (HHb.out _).mono ?_
      rintro e W6 ⟨rfl, rfl⟩
      go_wp2_with fail
      refine (HSh.out _ _ (Recs.is_stay HI.out (Nat.le_refl _) HK2.out.2.2.2) (Flds.signs_below HSg.out HK2.out.2.2.2 hsg)).mono ?_
      rintro e W7 ⟨rfl, hb7⟩
      have HH := Num.hide (HK2.out.2.2.2.trans (hb7.mono HK2.out.2.2.2.size))
      have hr := HR.out
      subst hr
      clear hb7
      go_wp2
      go_ret
      exact ⟨rfl, HH.out⟩
end Msg
end Go.Proofs.YtbajfklnekfeoaaGreatDoor
namespace Go.Proofs.YtbajfklnekfeoaaGreatDoor
open Go.RowKit
set_option linter.unusedVariables false
namespace ReadDec

theorem dval_take (s : ByteArray) (k : Nat) (h : k < s.size) : dval 0 (s.data.toList.take (k + 1)) = if 48 ≤ (s[k]'h).toNat ∧ (s[k]'h).toNat ≤ 57 then dval 0 (s.data.toList.take k) * 10 + (((s[k]'h).toNat : Int) - 48) else dval 0 (s.data.toList.take k) := by
  rw [Num.take_snoc s k h, dval_append]; simp only [dval]
theorem dcnt_take (s : ByteArray) (k : Nat) (h : k < s.size) : dcnt (s.data.toList.take (k + 1)) = dcnt (s.data.toList.take k) + if 48 ≤ (s[k]'h).toNat ∧ (s[k]'h).toNat ≤ 57 then 1 else 0 := by
  rw [Num.take_snoc s k h, dcnt_append]; simp only [dcnt, Nat.add_zero]
theorem dval_take_bd (s : ByteArray) (k : Nat) (hk : k ≤ 11) : 0 ≤ dval 0 (s.data.toList.take k) ∧ dval 0 (s.data.toList.take k) ≤ 100000000000 := by
  have h := dval_bd (s.data.toList.take k) 0 (by omega)
  have hp := Num.pow_up 10 (s.data.toList.take k).length 11 (by decide) (Nat.le_trans (List.length_take_le _ _) hk)
  have h11 : ((10 : Nat) : Int) ^ 11 = 100000000000 := by decide
  have e10 : ((10 : Nat) : Int) = 10 := rfl
  rw [h11, e10] at hp
  omega
/-- what the call comes to -/
def Told (s : ByteArray) (w : World) (e : Ending) (w' : World) : Prop := ∃ a t, e = .returned (.tuple #[.int .i64 a, .bool t]) ∧ Good s a t ∧ Below w.heap.size w w'
theorem long_no (s : ByteArray) (h : 10 < s.size) : Good s 0 false := .inr ⟨rfl, rfl, fun m h0 h1 he => by
  have h2 := length_itoa m h0 h1
  rw [he, Array.length_toList] at h2
  have : s.data.size = s.size := rfl
  omega⟩
theorem many_no (s : ByteArray) (h : 9 < dcnt s.data.toList) : Good s 0 false := .inr ⟨rfl, rfl, fun m h0 h1 he => by
  have h2 := (itoa_parts m).2
  have h3 := nDigits_le9 m.natAbs (by omega)
  rw [he] at h2
  omega⟩
theorem here_yes (s : ByteArray) (n : Int) (hc : dcnt s.data.toList ≤ 9) (he : Lib.itoa n = s.data.toList) : Good s n true := by
  have h2 := (itoa_parts n).2
  rw [he] at h2
  have h3 := le9_nDigits n.natAbs (by omega)
  exact .inl ⟨rfl, by omega, by omega, he⟩
theorem here_no (s : ByteArray) (n : Int) (hn : n = sval s.data.toList) (he : Lib.itoa n ≠ s.data.toList) : Good s 0 false := .inr ⟨rfl, rfl, fun m h0 h1 hm => by
  have h2 := (itoa_parts m).1
  rw [hm, ← hn] at h2
  subst h2
  exact he hm⟩
theorem head_of (s : ByteArray) (h : 0 < s.size) : s.data.toList.head? = some s[0] := by
  rw [List.head?_eq_getElem?, Array.getElem?_toList, Array.getElem?_eq_getElem h]
  rfl
theorem sval_zero (s : ByteArray) (h : s.size = 0) : sval s.data.toList = dval 0 s.data.toList := by
  have : s.data.toList = [] := List.eq_nil_of_length_eq_zero (by rw [Array.length_toList]; exact h)
  rw [this]; rfl
theorem sval_neg (s : ByteArray) (h : 0 < s.size) (hm : s[0].toNat = 45) : sval s.data.toList = -dval 0 s.data.toList := by
  unfold sval
  rw [if_pos]
  rw [head_of s h, UInt8.toNat_inj.1 (show s[0].toNat = (45 : UInt8).toNat from hm)]
theorem sval_pos (s : ByteArray) (h : 0 < s.size) (hm : ¬ s[0].toNat = 45) : sval s.data.toList = dval 0 s.data.toList := by
  unfold sval
  rw [if_neg]
  rw [head_of s h]
  intro hc
  simp only [Option.some.injEq] at hc
  exact hm (by rw [hc]; rfl)
set_option maxRecDepth 100000 in
set_option maxHeartbeats 1000000 in
theorem spec_told (s : ByteArray) (w : World) (hs : s.size ≤ maxLen) : Calls Tryz.prog 81 #[.string s] w (Told s w) := by
  unfold maxLen at hs
  go_enter Tryz.func81, Tryz.ntmps81
  go_wp2
  go_loop [4, 5, 6] (fun n c i => ∃ k : Nat, k ≤ s.size ∧ k ≤ 11 ∧ i = .int .i64 k ∧ n = .int .i64 (dval 0 (s.data.toList.take k)) ∧ c = .int .i64 (dcnt (s.data.toList.take k) : Nat)) (fun _ _ i => 11 - (intOf i).toNat)
  case atStart => exact ⟨0, by omega, by omega, rfl, rfl, rfl⟩
  case round =>
    obtain ⟨k, hk, hk11, rfl, rfl, rfl⟩ := hrel
    have hb := dval_take_bd s k hk11
    have hc := Nat.le_trans (dcnt_le (s.data.toList.take k)) (List.length_take_le _ _)
    by_cases hks : k < s.size
    · by_cases h11 : k < 11
      · have hd := Num.hide (dval_take s k hks)
        have he := Num.hide (dcnt_take s k hks)
        go_wp2
        · have h1 : (48 : Int) ≤ (s[k].toNat : Int) := by assumption
          have h2 : (s[k].toNat : Int) ≤ 57 := by assumption
          go_round
          case rel => exact ⟨k + 1, by omega, by omega, by go_num, by rw [Num.unhide hd, if_pos (by omega)], by rw [Num.unhide he, if_pos (by omega)]; go_num⟩
          case measure => simp [intOf]; omega
        · have h2 : (57 : Int) < (s[k].toNat : Int) := by assumption
          go_round
          case rel => exact ⟨k + 1, by omega, by omega, by go_num, by rw [Num.unhide hd, if_neg (by omega)], by rw [Num.unhide he, if_neg (by omega)]; rfl⟩
          case measure => simp [intOf]; omega
        · have h2 : ¬ (48 : Int) ≤ (s[k].toNat : Int) := by assumption
          go_round
          case rel => exact ⟨k + 1, by omega, by omega, by go_num, by rw [Num.unhide hd, if_neg (by omega)], by rw [Num.unhide he, if_neg (by omega)]; rfl⟩
          case measure => simp [intOf]; omega
      · have hg := Num.hide (long_no s (by omega))
        have hlong : (10 : Int) < (s.size : Int) := by omega
        generalize dval 0 (s.data.toList.take k) = X at *
        generalize dcnt (s.data.toList.take k) = C at *
        go_wp2
        all_goals go_ret2
        all_goals exact ⟨0, false, rfl, Num.unhide hg, Below.refl _ _⟩
    · obtain rfl : k = s.size := by omega
      have hall : s.data.toList.take s.size = s.data.toList := List.take_of_length_le (by rw [Array.length_toList]; exact Nat.le_refl _)
      rw [hall] at hb hc
      generalize hX : dval 0 (s.data.toList.take s.size) = X at *
      generalize hC : dcnt (s.data.toList.take s.size) = C at *
      rw [hall] at hX hC
      rw [hX] at hb
      rw [hC] at hc
      have HX := Num.hide hX
      have HC := Num.hide hC
      clear hall hX hC
      by_cases hlong : 10 < s.size
      · have hg := Num.hide (long_no s hlong)
        have hlong' : (10 : Int) < (s.size : Int) := by omega
        go_wp2
        all_goals go_ret2
        all_goals exact ⟨0, false, rfl, Num.unhide hg, Below.refl _ _⟩
      · have hshort : (s.size : Int) ≤ 10 := by omega
        by_cases hC9 : 9 < C
        · have hg := Num.hide (many_no s (by rw [Num.unhide HC]; exact hC9))
          have hC9' : (9 : Int) < (C : Int) := by omega
          go_wp2
          all_goals go_ret2
          all_goals exact ⟨0, false, rfl, Num.unhide hg, Below.refl _ _⟩
        · have hC9' : (C : Int) ≤ 9 := by omega
          by_cases h0 : s.size = 0
          · have hsv := Num.hide (sval_zero s h0)
            have h0' : ¬ (0 : Int) < (s.size : Int) := by omega
            clear h0
            go_wp2_with fail
            refine (Dec.spec_any (X) _ (by omega) (by omega)).mono ?_
            rintro e w1 ⟨rfl, hb1⟩
            by_cases he : Lib.itoa (X) = s.data.toList
            · have hg := Num.hide (here_yes s (X) (by rw [Num.unhide HC]; omega) he)
              have ht : (Lib.itoa (X) == s.toList) = true := by rw [beq_iff_eq, ByteArray.toList_eq]; exact he
              clear he
              go_wp2
              go_ret2
              exact ⟨_, true, rfl, Num.unhide hg, hb1⟩
            · have hg := Num.hide (here_no s (X) (by rw [Num.unhide hsv, Num.unhide HX]) he)
              have ht : (Lib.itoa (X) == s.toList) = false := by rw [beq_eq_false_iff_ne, ByteArray.toList_eq]; exact he
              clear he
              go_wp2
              go_ret2
              exact ⟨0, false, rfl, Num.unhide hg, hb1⟩
          · have h0' : (0 : Int) < (s.size : Int) := by omega
            have h0n : 0 < s.size := by omega
            by_cases hm : s[0].toNat = 45
            · have hsv := Num.hide (sval_neg s h0n hm)
              have hm' : ((s[0].toNat : Int) == 45) = true := by rw [beq_iff_eq]; omega
              clear hm h0
              go_wp2_with fail
              refine (Dec.spec_any (-X) _ (by omega) (by omega)).mono ?_
              rintro e w1 ⟨rfl, hb1⟩
              by_cases he : Lib.itoa (-X) = s.data.toList
              · have hg := Num.hide (here_yes s (-X) (by rw [Num.unhide HC]; omega) he)
                have ht : (Lib.itoa (-X) == s.toList) = true := by rw [beq_iff_eq, ByteArray.toList_eq]; exact he
                clear he
                go_wp2
                go_ret2
                exact ⟨_, true, rfl, Num.unhide hg, hb1⟩
              · have hg := Num.hide (here_no s (-X) (by rw [Num.unhide hsv, Num.unhide HX]) he)
                have ht : (Lib.itoa (-X) == s.toList) = false := by rw [beq_eq_false_iff_ne, ByteArray.toList_eq]; exact he
                clear he
                go_wp2
                go_ret2
                exact ⟨0, false, rfl, Num.unhide hg, hb1⟩
            · have hsv := Num.hide (sval_pos s h0n hm)
              have hm' : ((s[0].toNat : Int) == 45) = false := by rw [beq_eq_false_iff_ne]; omega
              clear hm h0
              go_wp2_with fail
              refine (Dec.spec_any (X) _ (by omega) (by omega)).mono ?_
              rintro e w1 ⟨rfl, hb1⟩
              by_cases he : Lib.itoa (X) = s.data.toList
              · have hg := Num.hide (here_yes s (X) (by rw [Num.unhide HC]; omega) he)
                have ht : (Lib.itoa (X) == s.toList) = true := by rw [beq_iff_eq, ByteArray.toList_eq]; exact he
                clear he
                go_wp2
                go_ret2
                exact ⟨_, true, rfl, Num.unhide hg, hb1⟩
              · have hg := Num.hide (here_no s (X) (by rw [Num.unhide hsv, Num.unhide HX]) he)
                have ht : (Lib.itoa (X) == s.toList) = false := by rw [beq_eq_false_iff_ne, ByteArray.toList_eq]; exact he
                clear he
                go_wp2
                go_ret2
                exact ⟨0, false, rfl, Num.unhide hg, hb1⟩
end ReadDec
end Go.Proofs.YtbajfklnekfeoaaGreatDoor
