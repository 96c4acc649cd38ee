/-
  ReadDecImpl: ReadDec of the program: what the call returns, for every text, where the library's variables lie as they are laid; old memory stays as it was.
  TakeSt3: How an answer's reader stands between its steps: its box, the box of its answer, and all else as it lay; plain facts of readResp; ReadDec's contract.
  RespLineImpl: response of the program's reader, where its line or its fields are not right: the steps of a request, one after the other; what is not right is thrown.
  RespTakeImpl: response of the program's reader, the steps of a request, one after the other; what is not right is thrown.
  RespRdImpl: ReadResponse of the program: an answer is read off a text; what was thrown is caught and told as a code.
-/
import Derived.Test.YtbajfklnekfeoaaGreatDoorPax
import Derived.Test.YtbajfklnekfeoaaGreatDoorPah
import Derived.Test.YtbajfklnekfeoaaGreatDoorPan
import Derived.Laws.Strings
import Derived.Test.YtbajfklnekfeoaaGreatDoorPav
import Derived.WalkSmall
import Derived.Test.YtbajfklnekfeoaaGreatDoorPaw
import Derived.Test.YtbajfklnekfeoaaGreatDoorPam
import Derived.Deep.Cut
import Derived.Tactics2
import Derived.Defers
import Derived.RegionTactic
import Derived.BigRegion
import Derived.ChangeAlike
namespace Go.Proofs.YtbajfklnekfeoaaGreatDoor
open Go.RowKit
set_option linter.unusedVariables false
namespace ReadDec

theorem below_bytes (w : World) (e : TypeId) (t : ByteArray) : Below w.heap.size w (Lib.bytesWorld w e t) :=
  ⟨rfl, rfl, rfl, by rw [Lib.bytesWorld_size]; omega, fun j hj => Lib.bytesWorld_at_old w e t j hj⟩
set_option maxRecDepth 100000 in
set_option maxHeartbeats 1000000 in
theorem impl_any (s : ByteArray) (w : World) (g : Nat) (hs : s.size ≤ maxLen) (tp : TypeId) (p : Value) (hvar : w.var? Tryz.prog "strconv.ErrSyntax" = some #[.iface tp p])
    (hg : Tryz.prog.globalNamed "internal/strconv.uint64pow10" = some g) (hgs : g < w.heap.size) (htab : Lib.TabIs Tryz.prog w "internal/strconv.uint64pow10" .u64 Lib.pow10Tab) :
    Calls Tryz.prog 115 #[.string s] w fun e w' => ∃ a t, e = .returned (.tuple #[.int .i64 a, .bool t]) ∧ Good s a t ∧ Below w.heap.size w w' := by
  unfold maxLen at hs
  have hlen : s.data.toList.length = s.size := by rw [Array.length_toList]; rfl
  by_cases hl : 10 < s.size
  · have hgood := Num.hide (show Good s 0 false from .inr ⟨rfl, rfl, fun m h0 h1 he => by
      have := length_itoa m h0 h1
      rw [he, hlen] at this
      omega⟩)
    clear htab hvar hlen hg
    go_enter Tryz.func115, Tryz.ntmps115
    go_wp2
    go_ret2
    exact ⟨0, false, rfl, Num.unhide hgood, Below.refl _ _⟩
  · cases ha : Lib.atoi s.data.toList with
    | none =>
      have hgood := Num.hide (show Good s 0 false from .inr ⟨rfl, rfl, fun m h0 h1 he => by
        have := atoi_itoa m
        rw [he, ha] at this
        cases this⟩)
      have hA := Num.hide (Shelf.strconv_Atoi_err_var s (by omega) ha tp p w hvar)
      clear htab hvar hlen ha hg
      go_enter Tryz.func115, Tryz.ntmps115
      go_wp2_with fail
      refine (Num.unhide hA).mono ?_
      rintro e w1 ⟨N, rfl, hN, _, hb⟩
      go_wp2
      go_ret2
      exact ⟨0, false, rfl, Num.unhide hgood, hb⟩
    | some n =>
      have hbd := Lib.atoi_bound ha (by rw [hlen]; omega)
      have hA := Num.hide (Shelf.strconv_Atoi s n (by omega) ha w)
      by_cases hr : -999999999 ≤ n ∧ n ≤ 999999999
      · obtain ⟨hr0, hr1⟩ := hr
        have HT := Num.hide htab
        have HG := Num.hide hg
        have HA := Num.hide ha
        clear htab hvar ha hg
        go_enter Tryz.func115, Tryz.ntmps115
        go_wp2_with fail
        refine (Num.unhide hA).mono ?_
        rintro e w1 ⟨rfl, t, hw1⟩
        have hb1 : Below w.heap.size w w1 := by rw [hw1]; exact below_bytes w _ t
        have HI := Num.hide (Dec.impl_any n w1 (by omega) (by omega) (var?_below hb1 (Num.unhide HG) hgs (Num.unhide HT)))
        clear hw1
        go_wp2_with fail
        refine (Num.unhide HI).mono ?_
        rintro e w2 ⟨rfl, hb2⟩
        have hb3 := hb1.trans (hb2.mono hb1.size)
        by_cases he : Lib.itoa n = s.data.toList
        · have hgood := Num.hide (show Good s n true from .inl ⟨rfl, hr0, hr1, he⟩)
          have ht : (Lib.itoa n == s.toList) = true := by rw [beq_iff_eq, ByteArray.toList_eq]; exact he
          clear he
          go_wp2
          go_ret2
          exact ⟨n, true, rfl, Num.unhide hgood, hb3⟩
        · have hgood := Num.hide (show Good s 0 false from .inr ⟨rfl, rfl, fun m h0 h1 hm => by
            have h3 := atoi_itoa m
            rw [hm, Num.unhide HA] at h3
            have h4 := Option.some.inj h3
            subst h4
            exact he hm⟩)
          have ht : (Lib.itoa n == s.toList) = false := by rw [beq_eq_false_iff_ne, ByteArray.toList_eq]; exact he
          clear he
          go_wp2
          go_ret2
          exact ⟨0, false, rfl, Num.unhide hgood, hb3⟩
      · have hgood := Num.hide (show Good s 0 false from .inr ⟨rfl, rfl, fun m h0 h1 he => by
          have := atoi_itoa m
          rw [he, ha] at this
          have := Option.some.inj this
          omega⟩)
        clear htab hvar ha hlen hg
        by_cases hlo : n < -999999999
        · go_enter Tryz.func115, Tryz.ntmps115
          go_wp2_with fail
          refine (Num.unhide hA).mono ?_
          rintro e w1 ⟨rfl, t, hw1⟩
          have hb1 : Below w.heap.size w w1 := by rw [hw1]; exact below_bytes w _ t
          clear hw1
          go_wp2
          go_ret2
          exact ⟨0, false, rfl, Num.unhide hgood, hb1⟩
        · have hhi : 999999999 < n := by omega
          go_enter Tryz.func115, Tryz.ntmps115
          go_wp2_with fail
          refine (Num.unhide hA).mono ?_
          rintro e w1 ⟨rfl, t, hw1⟩
          have hb1 : Below w.heap.size w w1 := by rw [hw1]; exact below_bytes w _ t
          clear hw1
          go_wp2
          go_ret2
          exact ⟨0, false, rfl, Num.unhide hgood, hb1⟩
end ReadDec
end Go.Proofs.YtbajfklnekfeoaaGreatDoor
namespace Go.Proofs.YtbajfklnekfeoaaGreatDoor
open Go.RowKit
set_option linter.unusedVariables false
namespace Msg
open Line (eol)

/-- strconv's error on its syntax lies in its variable -/
def SynV (W : World) : Prop := ∃ tp p, W.var? Tryz.prog "strconv.ErrSyntax" = some #[.iface tp p]
structure Ground3 (m b : Addr) (W : World) : Prop where
  ground : Ground m b W
  tab : Dec.Tab W
  synv : SynV W
theorem g_synv : Tryz.prog.globalNamed "strconv.ErrSyntax" = some 2 := by kernel_rfl
theorem Ground3.below {m b : Addr} {W W' : World} (h : Ground3 m b W) (hb : Below W.heap.size W W') : Ground3 m b W' := by
  have hl : 2 < W.heap.size := by obtain ⟨_, _, hc⟩ := h.ground.syn; exact Recs.lt_of_cell hc
  obtain ⟨tp, p, hv⟩ := h.synv
  exact ⟨h.ground.below hb, h.tab.below hb, tp, p, var?_below hb g_synv hl hv⟩
theorem dec_impl (s : ByteArray) (m b : Addr) (W : World) (hs : s.size ≤ maxLen) (h : Ground3 m b W) :
    Calls Tryz.prog 115 #[.string s] W fun e w' => e = .returned (.tuple #[.int .i64 ((decR s).getD 0), .bool (decR s).isSome]) ∧ Below W.heap.size W w' := by
  obtain ⟨tp, p, hv⟩ := h.synv
  refine (ReadDec.impl_any s W 4 hs tp p hv Dec.g_tab h.tab.lt h.tab).mono ?_
  rintro e w' ⟨a, t, rfl, hg, hb⟩
  obtain ⟨rfl, rfl⟩ := good_dec hg
  exact ⟨rfl, hb⟩
theorem SBox.thaw {r : Nat} {st : Int} {c : ByteArray} {v : Value} {X : World} (h : SBox r st v c X) : X.frozen? ⟨r, 0, none⟩ = false ∧ X.frozen? ⟨r, 1, none⟩ = false ∧ X.frozen? ⟨r, 2, none⟩ = false :=
  ⟨Recs.box_thaw h 0, Recs.box_thaw h 1, Recs.box_thaw h 2⟩
abbrev zBox3 (r : Nat) (X : World) : Prop := SBox r 0 (.slice none 0 0) ⟨#[]⟩ X
structure St3 (w : World) (g : Nat) (s : ByteArray) (n : Nat) (v : Value) (X : World) : Prop where
  grown : w.grownBy X (some g)
  box : zBox3 w.heap.size X
  rd : Rd g s n v X
theorem St3.step {w X X' : World} {g : Nat} {s : ByteArray} {n : Nat} {v : Value} (h : St3 w g s n v X) (hb : Below X.heap.size X X') : St3 w g s n v X' :=
  ⟨Recs.grown_trans h.grown (Recs.grown_of_below hb _), h.box.step hb, h.rd.step hb⟩
theorem St3.grow {w X X' : World} {g : Nat} {s : ByteArray} {n n' : Nat} {v v' : Value} (h : St3 w g s n v X) (hg : X.grownBy X' (some g)) (hl : g < w.heap.size) (hr : Rd g s n' v' X') : St3 w g s n' v' X' :=
  ⟨Recs.grown_trans h.grown hg, h.box.mark hg (fun k hk => by have := Option.some.inj hk; omega), hr⟩
theorem St3.first {w : World} {g : Nat} {s : ByteArray} {n : Nat} {v : Value} (h : Rd g s n v w) : St3 w g s n v (w.alloc (.cells #[.int .i64 0, .slice none 0 0, .string ⟨#[]⟩] 47)) :=
  ⟨World.grownBy_alloc w _ _, heap_alloc_new w _, h.step ((Below.refl w.heap.size w).alloc (Nat.le_refl _) _)⟩
/-- how the reading of an answer ends -/
def respEnd (g : Nat) (s : ByteArray) (m b : Addr) (w : World) (R : Rs) (e : Ending) (X : World) : Prop :=
  w.grownBy X (some g) ∧ if R.2.2 = 0 then ∃ v, e = .returned (Resp.val R.1.1 v R.1.2.2) ∧ Flds.Own w.heap.size X v R.1.2.1 ∧ ∃ (f : Value) (n : Nat), R.2.1 = (n : Int) ∧ Rd g s n f X else e = thrown m b R.2.2.toNat
theorem ended3 (g : Nat) (s : ByteArray) (m b : Addr) (w X : World) (c : Nat) (hc : c = 1 ∨ c = 2) (h : w.grownBy X (some g)) : respEnd g s m b w (noRs (c : Int)) (thrown m b c) X := by
  refine ⟨h, ?_⟩
  rcases hc with rfl | rfl
  · rw [if_neg (by decide)]; rfl
  · rw [if_neg (by decide)]; rfl
theorem rs_line {s : ByteArray} {k : Nat} (hw : whole s = true) (hk : eol s 0 = some k) (hv : ¬ (words (s.extract 0 k)).1 = ver) : readResp s = noRs 2 := by
  unfold readResp
  rw [hw, if_neg (by decide), hk]
  simp only
  cases Flds.read (s.extract (k + 2) s.size) with
  | none => rfl
  | some q =>
    obtain ⟨l, n⟩ := q
    simp only
    cases decR (words (s.extract 0 k)).2.1 with
    | none => rfl
    | some st => simp only; rw [if_neg (fun h => hv h.1)]
theorem rs_fields {s : ByteArray} {k : Nat} (hw : whole s = true) (hk : eol s 0 = some k) (hf : Flds.read (s.extract (k + 2) s.size) = none) : readResp s = noRs 2 := by
  unfold readResp
  rw [hw, if_neg (by decide), hk]
  simp only
  rw [hf]
theorem rs_wrong {s : ByteArray} {k : Nat} {l : List Flds.Fld} {n : Nat} (hw : whole s = true) (hk : eol s 0 = some k) (hf : Flds.read (s.extract (k + 2) s.size) = some (l, n)) (hr : respOk ((decR (words (s.extract 0 k)).2.1).getD 0) (bare l) ⟨#[]⟩ = false) : readResp s = noRs 2 := by
  unfold readResp
  rw [hw, if_neg (by decide), hk]
  simp only
  rw [hf]
  simp only
  cases hd : decR (words (s.extract 0 k)).2.1 with
  | none => rfl
  | some st =>
    rw [hd] at hr
    simp only
    rw [if_neg (fun h => by have h3 := h.2.2; rw [show respOk st (bare l) ⟨#[]⟩ = false from hr] at h3; exact absurd h3 (by decide))]
theorem decR_size {s : ByteArray} {st : Int} (h : decR s = some st) (h1 : 200 ≤ st) (h2 : st ≤ 599) : s.size = 3 := by
  unfold decR at h
  split at h
  · next hc =>
    have e := Option.some.inj h
    rw [e] at hc
    have hz := (dec_status st h1 h2).1
    unfold decB at hz
    rw [← hz]
    show s.data.size = (Lib.itoa st).toArray.size
    rw [hc.2]
  · cases h
theorem rs_body {s : ByteArray} {k : Nat} {l : List Flds.Fld} {n : Nat} (hw : whole s = true) (hk : eol s 0 = some k) (hf : Flds.read (s.extract (k + 2) s.size) = some (l, n)) (hv : (words (s.extract 0 k)).1 = ver) (hr : respOk ((decR (words (s.extract 0 k)).2.1).getD 0) (bare l) ⟨#[]⟩ = true) :
    readResp s = if (decR (words (s.extract 0 k)).2.1).getD 0 = 204 ∨ (decR (words (s.extract 0 k)).2.1).getD 0 = 304 then (((decR (words (s.extract 0 k)).2.1).getD 0, bare l, ⟨#[]⟩), ((k + 2 + n : Nat) : Int), 0)
      else if (Body.bodyOf l (s.extract (k + 2 + n) s.size) true).2.2 = 0 then (((decR (words (s.extract 0 k)).2.1).getD 0, bare l, (Body.bodyOf l (s.extract (k + 2 + n) s.size) true).1), ((k + 2 + n : Nat) : Int) + (Body.bodyOf l (s.extract (k + 2 + n) s.size) true).2.1, 0)
      else noRs (codeOf (Body.bodyOf l (s.extract (k + 2 + n) s.size) true).2.2) := by
  have hp := (resp_parts hr).1
  unfold readResp
  rw [hw, if_neg (by decide), hk]
  simp only
  rw [hf]
  simp only
  cases hd : decR (words (s.extract 0 k)).2.1 with
  | none => rw [hd] at hp; exact absurd hp.1 (by decide)
  | some st =>
    rw [hd] at hr hp
    simp only [Option.getD_some] at hr hp ⊢
    rw [if_pos ⟨hv, decR_size hd hp.1 hp.2, hr⟩]
theorem unparted_ver3 {s : ByteArray} (h : parted s = false) : ¬ (words s).1 = ver := by rw [parted_no h]; decide
end Msg
end Go.Proofs.YtbajfklnekfeoaaGreatDoor
namespace Go.Proofs.YtbajfklnekfeoaaGreatDoor
open Go.RowKit
set_option linter.unusedVariables false
set_option linter.unusedSimpArgs false
namespace Msg
open Line (eol)

set_option maxRecDepth 100000 in
set_option maxHeartbeats 4000000 in
theorem response_line (g : Nat) (s : ByteArray) (v0 : Value) (m b : Addr) (W : World) (k : Nat) (h : Rd g s 0 v0 W) (hs : s.size ≤ 1048576) (hw : whole s = true) (hk : eol s 0 = some k) (hp : parted (s.extract 0 k) = false) (hG : ∀ X, W.grownBy X (some g) → Ground3 m b X) :
    Calls Tryz.prog 64 #[.pointer (some ⟨g, 0, none⟩)] W fun e w' => respEnd g s m b W (readResp s) e w' := by
  have hkb := Line.eol_in hk
  have hgl := h.lt
  have S0 := Num.hide (St3.first h)
  have HG := Num.hide hG
  rw [rs_line hw hk (unparted_ver3 hp)]
  have HF := Num.hide (fun W h (hG : Ground3 m b W) => first_no g s k v0 m b W h hs hk (by omega) hp hG.ground.lim hG.ground.errs)
  clear h hG hw hk hp hkb
  go_enter Tryz.func64, Tryz.ntmps64
  go_wp2_with fail
  refine (HF.out _ S0.out.rd (HG.out _ S0.out.grown)).mono ?_
  rintro e w1 ⟨rfl, hb1⟩
  have HE := Num.hide (ended3 g s m b W w1 2 (.inr rfl) (S0.out.step hb1).grown)
  unfold thrown at HE ⊢
  exact ⟨rfl, HE.out⟩
set_option maxRecDepth 100000 in
set_option maxHeartbeats 4000000 in
theorem response_ver (g : Nat) (s : ByteArray) (v0 : Value) (m b : Addr) (W : World) (k : Nat) (h : Rd g s 0 v0 W) (hs : s.size ≤ 1048576) (hw : whole s = true) (hk : eol s 0 = some k) (hp : parted (s.extract 0 k) = true) (hv : ¬ (words (s.extract 0 k)).1 = ver) (hG : ∀ X, W.grownBy X (some g) → Ground3 m b X) :
    Calls Tryz.prog 64 #[.pointer (some ⟨g, 0, none⟩)] W fun e w' => respEnd g s m b W (readResp s) e w' := by
  have hkb := Line.eol_in hk
  have hgl := h.lt
  have S0 := Num.hide (St3.first h)
  have HG := Num.hide hG
  rw [rs_line hw hk hv]
  have HF := Num.hide (fun W h (hG : Ground3 m b W) => first_yes g s k v0 m b W h hs hk (by omega) hp hG.ground.lim hG.ground.errs)
  have hws := words_size (s.extract 0 k)
  rw [ByteArray.size_extract] at hws
  have dv := ver_no hv
  clear h hG hw hk hp hkb hv
  generalize words (s.extract 0 k) = wd at HF hws dv
  obtain ⟨mm, uu, vv⟩ := wd
  simp only at HF hws dv
  go_enter Tryz.func64, Tryz.ntmps64
  go_wp2_with fail
  refine (HF.out _ S0.out.rd (HG.out _ S0.out.grown)).mono ?_
  rintro e w1 ⟨rfl, hr1, hg1⟩
  have S1 := Num.hide (S0.out.grow hg1 hgl hr1)
  clear hr1 hg1 S0 HF
  go_wp2_with fail
  refine (demand_no m b _ (HG.out _ S1.out.grown).ground.errs).mono ?_
  rintro e w2 ⟨rfl, rfl⟩
  have HE := Num.hide (ended3 g s m b W w1 2 (.inr rfl) S1.out.grown)
  unfold thrown at HE ⊢
  exact ⟨rfl, HE.out⟩
set_option maxRecDepth 100000 in
set_option maxHeartbeats 4000000 in
theorem response_fields (g : Nat) (s : ByteArray) (v0 : Value) (m b : Addr) (W : World) (k : Nat) (h : Rd g s 0 v0 W) (hs : s.size ≤ 1048576) (hw : whole s = true) (hk : eol s 0 = some k) (hp : parted (s.extract 0 k) = true) (hv : (words (s.extract 0 k)).1 = ver) (hf : Flds.read (s.extract (k + 2) s.size) = none) (hG : ∀ X, W.grownBy X (some g) → Ground3 m b X) :
    Calls Tryz.prog 64 #[.pointer (some ⟨g, 0, none⟩)] W fun e w' => respEnd g s m b W (readResp s) e w' := by
  have hkb := Line.eol_in hk
  have hgl := h.lt
  have S0 := Num.hide (St3.first h)
  have HG := Num.hide hG
  rw [rs_fields hw hk hf]
  have HF := Num.hide (fun W h (hG : Ground3 m b W) => first_yes g s k v0 m b W h hs hk (by omega) hp hG.ground.lim hG.ground.errs)
  have hws := words_size (s.extract 0 k)
  rw [ByteArray.size_extract] at hws
  have HFl := Num.hide (fun v W h (hG : Ground3 m b W) => fields_no g s (k + 2) v m b W h hs (by omega) hf (Ground3.ground hG))
  have dv := ver_yes hv
  clear h hG hw hk hp hkb hv hf
  generalize words (s.extract 0 k) = wd at HF hws dv
  obtain ⟨mm, uu, vv⟩ := wd
  simp only at HF hws dv
  go_enter Tryz.func64, Tryz.ntmps64
  go_wp2_with fail
  refine (HF.out _ S0.out.rd (HG.out _ S0.out.grown)).mono ?_
  rintro e w1 ⟨rfl, hr1, hg1⟩
  have S1 := Num.hide (S0.out.grow hg1 hgl hr1)
  clear hr1 hg1 S0 HF
  go_wp2_with fail
  refine (demand_yes _).mono ?_
  rintro e w2 ⟨rfl, rfl⟩
  go_wp2_with fail
  refine (HFl.out _ _ S1.out.rd (HG.out _ S1.out.grown)).mono ?_
  rintro e w3 ⟨rfl, hb3⟩
  have HE := Num.hide (ended3 g s m b W w3 2 (.inr rfl) (S1.out.step hb3).grown)
  unfold thrown at HE ⊢
  exact ⟨rfl, HE.out⟩
end Msg
end Go.Proofs.YtbajfklnekfeoaaGreatDoor
namespace Go.Proofs.YtbajfklnekfeoaaGreatDoor
open Go.RowKit
set_option linter.unusedVariables false
set_option linter.unusedSimpArgs false
namespace Msg
open Line (eol)

set_option maxRecDepth 100000 in
set_option maxHeartbeats 4000000 in
theorem response_put (g : Nat) (s : ByteArray) (v0 : Value) (m b : Addr) (W : World) (k : Nat) (h : Rd g s 0 v0 W) (hs : s.size ≤ 1048576) (hw : whole s = true) (hk : eol s 0 = some k) (hp : parted (s.extract 0 k) = true) (hv : (words (s.extract 0 k)).1 = ver) (l : List Flds.Fld) (n : Nat) (hf : Flds.read (s.extract (k + 2) s.size) = some (l, n)) (hG : ∀ X, W.grownBy X (some g) → Ground3 m b X) :
    Calls Tryz.prog 64 #[.pointer (some ⟨g, 0, none⟩)] W fun e w' => respEnd g s m b W (readResp s) e w' := by
  have hkb := Line.eol_in hk
  have hgl := h.lt
  have S0 := Num.hide (St3.first h)
  have HG := Num.hide hG
  have HF := Num.hide (fun W h (hG : Ground3 m b W) => first_yes g s k v0 m b W h hs hk (by omega) hp hG.ground.lim hG.ground.errs)
  have hws := words_size (s.extract 0 k)
  rw [ByteArray.size_extract] at hws
  have hnz : n ≤ (s.extract (k + 2) s.size).size := readGo_in _ _ _ _ _ (show Flds.readGo (s.extract (k + 2) s.size) 13 0 [] = some (l, n) from hf)
  rw [ByteArray.size_extract] at hnz
  have HFl := Num.hide (fun v W h (hG : Ground3 m b W) => fields_yes g s (k + 2) v l n m b W h hs (by omega) hf (by omega) hG.ground)
  have dv := ver_yes hv
  have hlb : Flds.bulk l ≤ 2000 := by have := readL_bulk (s.extract (k + 2) s.size); rw [(Flds.told_some hf).1] at this; exact this
  have hbb := bare_bulk l
  have HBr := Num.hide (fun v W h => bare_impl v l W h (by omega))
  have HR := Num.hide (fun h => rs_wrong hw hk hf h)
  have HR2 := Num.hide (fun h => rs_body hw hk hf hv h)
  have HB := Num.hide (fun v W h hI (hG : Ground3 m b W) => takeBody_impl g s (k + 2 + n) v l true m b W h hs (by omega) hI (by omega) hG.ground)
  have hbin := body_in l (s.extract (k + 2 + n) s.size) true
  clear h hG hw hk hp hv hf
  generalize readResp s = R at HR HR2 ⊢
  generalize Body.bodyOf l (s.extract (k + 2 + n) s.size) true = T at HR2 hbin HB
  generalize words (s.extract 0 k) = wd at HF hws dv HR HR2
  obtain ⟨mm, uu, vv⟩ := wd
  simp only at HF hws dv HR HR2
  have HDc := Num.hide (fun W h => dec_impl uu m b W (by unfold maxLen; omega) h)
  generalize (decR uu).getD 0 = st at HR HR2 HDc
  generalize (decR uu).isSome = si at HDc
  have HOk := Num.hide (fun v W h hS => respOk_impl st v (bare l) ⟨#[]⟩ W h (by omega) (by decide) hS)
  have HHb := Num.hide (fun W => hasBody_impl st W)
  unfold Resp.val at HOk
  go_enter Tryz.func64, Tryz.ntmps64
  go_wp2_with fail
  refine (HF.out _ S0.out.rd (HG.out _ S0.out.grown)).mono ?_
  rintro e w1 ⟨rfl, hr1, hg1⟩
  have S1 := Num.hide (S0.out.grow hg1 hgl hr1)
  clear hr1 hg1 S0 HF
  go_wp2_with fail
  refine (demand_yes _).mono ?_
  rintro e w2 ⟨rfl, rfl⟩
  go_wp2_with fail
  refine (HFl.out _ _ S1.out.rd (HG.out _ S1.out.grown)).mono ?_
  rintro e w3 ⟨rfl, v3, hr3, ho3, hg3⟩
  have S3 := Num.hide (S1.out.grow hg3 hgl hr3)
  obtain ⟨a3, q3, hv3⟩ := Recs.own_len ho3
  subst hv3
  have O3 := Num.hide ho3
  clear hr3 hg3 ho3 S1 HFl
  go_wp2_with fail
  refine (HDc.out _ (HG.out _ S3.out.grown)).mono ?_
  rintro e w4 ⟨rfl, hb4⟩
  have S4 := Num.hide (S3.out.step hb4)
  have O4 := Num.hide (Recs.own_below O3.out hb4)
  clear hb4 S3 O3 HDc
  obtain ⟨c0, c1, c2⟩ := S4.out.rd.cells
  go_wp2_with fail
  refine (HBr.out _ _ (Recs.own_is Flds.cells_len O4.out)).mono ?_
  rintro e w5 ⟨vq, rfl, ho5, hb5⟩
  obtain ⟨aq, cq, hvq⟩ := Recs.own_len ho5
  subst hvq
  have hal := (Below.refl w5.heap.size w5).alloc (Nat.le_refl _) (.cells #[.int .i64 st, .slice aq (bare l).length cq, .string ⟨#[]⟩] 47)
  have S6 := Num.hide ((S4.out.step hb5).step hal)
  have O6 := Num.hide (Recs.own_below (Recs.own_below O4.out hb5) hal)
  have FO6 := Num.hide (Recs.own_below ho5 hal)
  have FB6 : Hid (SBox w5.heap.size st (.slice aq (bare l).length cq) ⟨#[]⟩ (w5.alloc (.cells #[.int .i64 st, .slice aq (bare l).length cq, .string ⟨#[]⟩] 47))) := heap_alloc_new w5 _
  have NQ : Hid (∀ j, (Value.slice aq (bare l).length cq).ownBlock = some j → j ≠ w5.heap.size) := fun j hj => by have := (Recs.own_lt ho5 j hj).2; omega
  have hg5 : W.heap.size < w5.heap.size := (S4.out.step hb5).box.lt
  have hwb : W.heap.size < w4.heap.size := S4.out.box.lt
  clear c0 c1 c2 ho5 hb5 S4 O4 HBr dv hal
  go_upto_region 6 with fail
  generalize w5.alloc (.cells #[.int .i64 st, .slice aq (bare l).length cq, .string ⟨#[]⟩] 47) = w6 at S6 O6 FO6 FB6 ⊢
  generalize w5.heap.size = gq at FB6 NQ hg5 ⊢
  obtain ⟨k0, k1, k2⟩ := SBox.cells FB6.out
  go_wp2_with fail
  refine (HOk.out _ _ (Recs.own_is Flds.cells_len FO6.out) (HG.out _ S6.out.grown).ground.signs).mono ?_
  rintro e w7 ⟨rfl, hb7⟩
  have S7 := Num.hide (S6.out.step hb7)
  have O7 := Num.hide (Recs.own_below O6.out hb7)
  have FO7 := Num.hide (Recs.own_below FO6.out hb7)
  have FB7 := Num.hide (SBox.step FB6.out hb7)
  clear hb7 k0 k1 k2 S6 O6 FO6 FB6 HOk
  have hnr : ∀ j, (Value.slice aq (bare l).length cq).ownBlock = some j → j ≠ W.heap.size := fun j hj => by have := (Recs.own_lt FO7.out j hj).1; omega
  cases hok : respOk st (bare l) ⟨#[]⟩ with
  | false =>
    have hR := HR.out hok
    subst hR
    clear HR2 HB hok
    go_wp2_with fail
    refine (demand_no m b _ (HG.out _ S7.out.grown).ground.errs).mono ?_
    rintro e w8 ⟨rfl, rfl⟩
    have HE := Num.hide (ended3 g s m b W w7 2 (.inr rfl) S7.out.grown)
    unfold thrown at HE ⊢
    exact ⟨rfl, HE.out⟩
  | true =>
    have hR := HR2.out hok
    clear HR HR2 hok
    go_wp2_with fail
    refine (demand_yes _).mono ?_
    rintro e w8 ⟨rfl, rfl⟩
    by_cases h24 : st = 204 ∨ st = 304
    · rw [if_pos h24] at hR
      rw [decide_eq_false (by omega : ¬ (st ≠ 204 ∧ st ≠ 304))] at HHb
      subst hR
      have HE : Hid (respEnd g s m b W ((st, bare l, ⟨#[]⟩), ((k + 2 + n : Nat) : Int), 0) (.returned (.agg #[.int .i64 st, .slice aq (bare l).length cq, .string ⟨#[]⟩])) (((w7.setCell ⟨W.heap.size, 0, none⟩ (.int .i64 st)).setCell ⟨W.heap.size, 1, none⟩ (.slice aq (bare l).length cq)).setCell ⟨W.heap.size, 2, none⟩ (.string ⟨#[]⟩))) := by
        refine ⟨grown_far (grown_far (grown_far S7.out.grown _ 0 _ (Nat.le_refl _)) _ 1 _ (Nat.le_refl _)) _ 2 _ (Nat.le_refl _), ?_⟩
        rw [if_pos rfl]
        refine ⟨_, rfl, Recs.own_mono (Recs.own_set (Recs.own_set (Recs.own_set FO7.out _ 0 _ hnr) _ 1 _ hnr) _ 2 _ hnr) (by omega), .slice a3 l.length q3, k + 2 + n, rfl, ?_⟩
        exact Recs.box_far (Recs.box_far (Recs.box_far S7.out.rd _ (by omega)) _ (by omega)) _ (by omega)
      obtain ⟨k0, k1, k2⟩ := SBox.cells FB7.out
      obtain ⟨o0, o1, o2⟩ := SBox.cells S7.out.box
      obtain ⟨y0, y1, y2⟩ := SBox.thaw S7.out.box
      go_wp2_with fail
      refine (HHb.out _).mono ?_
      rintro e w9 ⟨rfl, rfl⟩
      clear S7 O7 FO7 FB7 hnr hbin HB HHb h24
      go_wp2
      exact bodyPost_ret (v := .agg #[.int .i64 st, .slice aq (bare l).length cq, .string ⟨#[]⟩]) (by simp [results, Tryz.results64, go_sem, *]) rfl HE.out
    · rw [if_neg h24] at hR
      rw [decide_eq_true (by omega : st ≠ 204 ∧ st ≠ 304)] at HHb
      go_wp2_with fail
      refine (HHb.out _).mono ?_
      rintro e w9 ⟨rfl, rfl⟩
      go_wp2_with fail
      refine (HB.out _ _ S7.out.rd (Recs.own_is Flds.cells_len O7.out) (HG.out _ S7.out.grown)).mono ?_
      rintro e w10 hbe
      clear HB
      unfold bodyEnd at hbe
      obtain ⟨hg6, hif⟩ := hbe
      by_cases h0 : T.2.2 = 0
      · rw [if_pos h0] at hif hR
        obtain ⟨rfl, hr6⟩ := hif
        obtain ⟨_, hu0, _⟩ := hbin h0
        subst hR
        have S8 := Num.hide (S7.out.grow hg6 hgl hr6)
        have FO8 := Num.hide (Recs.own_kept FO7.out hg6 (by
          cases hv : (Value.slice aq (bare l).length cq).ownBlock with
          | none => exact .inl rfl
          | some j => exact .inr (fun e => by have := (Recs.own_lt FO7.out j hv).1; have e2 := Option.some.inj e; omega)))
        have FB8 := Num.hide (SBox.mark FB7.out hg6 (fun j hj => by have := Option.some.inj hj; omega))
        have HE : Hid (respEnd g s m b W ((st, bare l, T.1), ((k + 2 + n : Nat) : Int) + T.2.1, 0) (.returned (.agg #[.int .i64 st, .slice aq (bare l).length cq, .string T.1])) ((((w10.setCell ⟨gq, 2, none⟩ (.string T.1)).setCell ⟨W.heap.size, 0, none⟩ (.int .i64 st)).setCell ⟨W.heap.size, 1, none⟩ (.slice aq (bare l).length cq)).setCell ⟨W.heap.size, 2, none⟩ (.string T.1))) := by
          refine ⟨grown_far (grown_far (grown_far (grown_far S8.out.grown gq 2 _ (by omega)) _ 0 _ (Nat.le_refl _)) _ 1 _ (Nat.le_refl _)) _ 2 _ (Nat.le_refl _), ?_⟩
          rw [if_pos rfl]
          refine ⟨_, rfl, Recs.own_mono (Recs.own_set (Recs.own_set (Recs.own_set (Recs.own_set FO8.out gq 2 _ NQ.out) _ 0 _ hnr) _ 1 _ hnr) _ 2 _ hnr) (by omega), .slice a3 l.length q3, k + 2 + n + T.2.1.toNat, by show ((k + 2 + n : Nat) : Int) + T.2.1 = ((k + 2 + n + T.2.1.toNat : Nat) : Int); omega, ?_⟩
          exact Recs.box_far (Recs.box_far (Recs.box_far (Recs.box_far hr6 _ (by omega)) _ (by omega)) _ (by omega)) _ (by omega)
        obtain ⟨k0, k1, k2⟩ := SBox.cells FB8.out
        have z2 := (SBox.thaw FB8.out).2.2
        obtain ⟨o0, o1, o2⟩ := SBox.cells S8.out.box
        obtain ⟨y0, y1, y2⟩ := SBox.thaw S8.out.box
        obtain ⟨r, hr⟩ : ∃ r, W.heap.size = r := ⟨_, rfl⟩
        rw [hr] at HE o0 o1 o2 y0 y1 y2 ⊢
        have n1 : ¬ gq = r := by omega
        have n2 : ¬ r = gq := by omega
        clear hg6 hr6 S8 FO8 FB8 S7 O7 FO7 FB7 hnr hbin h0 HHb h24
        go_wp2
        exact bodyPost_ret (v := .agg #[.int .i64 st, .slice aq (bare l).length cq, .string T.1]) (by simp [results, Tryz.results64, go_sem, *]) rfl HE.out
      · rw [if_neg h0] at hif hR
        obtain ⟨hc, rfl⟩ := hif
        have hgr := Recs.grown_trans S7.out.grown hg6
        have HE : Hid (respEnd g s m b W R (thrown m b T.2.2.toNat) w10) := by
          rw [hR]
          rcases hc with h1 | h1
          · rw [h1]; exact ended3 g s m b W w10 1 (.inl rfl) hgr
          · rw [h1]; exact ended3 g s m b W w10 2 (.inr rfl) hgr
        clear hR hc hgr hbin
        unfold thrown at HE ⊢
        exact ⟨rfl, HE.out⟩
end Msg
end Go.Proofs.YtbajfklnekfeoaaGreatDoor
namespace Go.Proofs.YtbajfklnekfeoaaGreatDoor
open Go.RowKit
set_option linter.unusedVariables false
set_option linter.unusedSimpArgs false
namespace Msg
open Line (eol)

theorem response_impl (g : Nat) (s : ByteArray) (v0 : Value) (m b : Addr) (W : World) (h : Rd g s 0 v0 W) (hs : s.size ≤ 1048576) (hw : whole s = true) (hG : ∀ X, W.grownBy X (some g) → Ground3 m b X) :
    Calls Tryz.prog 64 #[.pointer (some ⟨g, 0, none⟩)] W fun e w' => respEnd g s m b W (readResp s) e w' := by
  obtain ⟨k, hk⟩ := whole_line hw
  cases hp : parted (s.extract 0 k) with
  | false => exact response_line g s v0 m b W k h hs hw hk hp hG
  | true =>
    by_cases hv : (words (s.extract 0 k)).1 = ver
    · cases hf : Flds.read (s.extract (k + 2) s.size) with
      | none => exact response_fields g s v0 m b W k h hs hw hk hp hv hf hG
      | some q => exact response_put g s v0 m b W k h hs hw hk hp hv q.1 q.2 hf hG
    · exact response_ver g s v0 m b W k h hs hw hk hp hv hG
/-- the box of a call's answer -/
def Zs : Obj := .cells #[.int .i64 0, .slice none 0 0, .string ⟨#[]⟩] 47
/-- the boxes of the answer and of the code, as they were laid -/
structure Told3 (w X : World) : Prop where
  ans : X.heap[w.heap.size]? = some Zs
  cd : X.heap[w.heap.size + 1]? = some Zc
theorem Told3.code {w X : World} (h : Told3 w X) : X.cell? ⟨w.heap.size + 1, 0, none⟩ = some (.int .i64 0) := Recs.box_cell h.cd 0
theorem Told3.thaw {w X : World} (h : Told3 w X) : X.frozen? ⟨w.heap.size + 1, 0, none⟩ = false := Recs.box_thaw h.cd 0
theorem Told3.rows {w X : World} (h : Told3 w X) : X.cell? ⟨w.heap.size, 0, none⟩ = some (.int .i64 0) ∧ X.cell? ⟨w.heap.size, 1, none⟩ = some (.slice none 0 0) ∧ X.cell? ⟨w.heap.size, 2, none⟩ = some (.string ⟨#[]⟩) := ⟨Recs.box_cell h.ans 0, Recs.box_cell h.ans 1, Recs.box_cell h.ans 2⟩
theorem Told3.thaws {w X : World} (h : Told3 w X) : X.frozen? ⟨w.heap.size, 0, none⟩ = false ∧ X.frozen? ⟨w.heap.size, 1, none⟩ = false ∧ X.frozen? ⟨w.heap.size, 2, none⟩ = false := ⟨Recs.box_thaw h.ans 0, Recs.box_thaw h.ans 1, Recs.box_thaw h.ans 2⟩
theorem Told3.coded {w X : World} (h : Told3 w X) (c : Nat) : (X.setCell ⟨w.heap.size + 1, 0, none⟩ (.int .i64 (c : Int))).cell? ⟨w.heap.size + 1, 0, none⟩ = some (.int .i64 (c : Int)) := Recs.box_cell (Recs.box_set h.cd 0 _) 0
theorem Told3.cells {w X : World} (h : Told3 w X) (c : Nat) : (X.setCell ⟨w.heap.size + 1, 0, none⟩ (.int .i64 (c : Int))).cell? ⟨w.heap.size, 0, none⟩ = some (.int .i64 0) ∧ (X.setCell ⟨w.heap.size + 1, 0, none⟩ (.int .i64 (c : Int))).cell? ⟨w.heap.size, 1, none⟩ = some (.slice none 0 0) ∧ (X.setCell ⟨w.heap.size + 1, 0, none⟩ (.int .i64 (c : Int))).cell? ⟨w.heap.size, 2, none⟩ = some (.string ⟨#[]⟩) := by
  have e : (X.setCell ⟨w.heap.size + 1, 0, none⟩ (.int .i64 (c : Int))).heap[w.heap.size]? = some Zs := Recs.box_far h.ans _ (by omega)
  exact ⟨Recs.box_cell e 0, Recs.box_cell e 1, Recs.box_cell e 2⟩
/-- an answer told into its box -/
def fillS (r : Nat) (st : Int) (v : Value) (c : ByteArray) (X : World) : World := ((X.setCell ⟨r, 0, none⟩ (.int .i64 st)).setCell ⟨r, 1, none⟩ v).setCell ⟨r, 2, none⟩ (.string c)
theorem fillS_row {r : Nat} {st : Int} {c : ByteArray} {v : Value} {X : World} (h : SBox r st v c X) (st' : Int) (v' : Value) (c' : ByteArray) : SBox r st' v' c' (fillS r st' v' c' X) := by
  unfold fillS
  exact Recs.box_set (Recs.box_set (Recs.box_set h 0 _) 1 _) 2 _
theorem fillS_far {r k : Nat} {X : World} {o : Option Obj} (h : X.heap[k]? = o) (hne : k ≠ r) (st : Int) (c : ByteArray) (v : Value) : (fillS r st v c X).heap[k]? = o := by
  unfold fillS
  exact Recs.box_far (Recs.box_far (Recs.box_far h _ hne) _ hne) _ hne
theorem fillS_own {r B : Nat} {X : World} {x : Value} {L : List Flds.Fld} (h : Flds.Own B X x L) (hne : ∀ j, x.ownBlock = some j → j ≠ r) (st : Int) (c : ByteArray) (v : Value) : Flds.Own B (fillS r st v c X) x L := by
  unfold fillS
  exact Recs.own_set (Recs.own_set (Recs.own_set h r 0 _ hne) r 1 _ hne) r 2 _ hne
theorem fillS_below {r B : Nat} {w X : World} (h : Below B w X) (hB : B ≤ r) (st : Int) (c : ByteArray) (v : Value) : Below B w (fillS r st v c X) := by
  unfold fillS
  exact ((h.setCell (p := ⟨r, 0, none⟩) hB _).setCell (p := ⟨r, 1, none⟩) hB _).setCell (p := ⟨r, 2, none⟩) hB _
/-- the world in which an answer has been told -/
def told3 (r : Nat) (st : Int) (v : Value) (bb : ByteArray) (X : World) : World := ((fillS r st v bb (fillS r st v bb X)).setCell ⟨r + 1, 0, none⟩ (.int .i64 0)).drew
theorem done3 (w X : World) (ht : Told3 w X) (hb : Below w.heap.size w X) (st : Int) (bb : ByteArray) (v : Value) (L : List Flds.Fld) (B : Nat) (ho : Flds.Own B X v L) (hB : w.heap.size + 1 < B) :
    (told3 w.heap.size st v bb X).cell? ⟨w.heap.size, 0, none⟩ = some (.int .i64 st) ∧ (told3 w.heap.size st v bb X).cell? ⟨w.heap.size, 1, none⟩ = some v ∧ (told3 w.heap.size st v bb X).cell? ⟨w.heap.size, 2, none⟩ = some (.string bb) ∧ (told3 w.heap.size st v bb X).cell? ⟨w.heap.size + 1, 0, none⟩ = some (.int .i64 0) ∧ Flds.Own w.heap.size (told3 w.heap.size st v bb X) v L ∧ Below w.heap.size w (told3 w.heap.size st v bb X) := by
  have n0 : ∀ j, v.ownBlock = some j → j ≠ w.heap.size := fun j hj => by have := (Recs.own_lt ho j hj).1; omega
  have n1 : ∀ j, v.ownBlock = some j → j ≠ w.heap.size + 1 := fun j hj => by have := (Recs.own_lt ho j hj).1; omega
  have a8 := fillS_row (fillS_row ht.ans st v bb) st v bb
  have b8 := fillS_far (fillS_far ht.cd (by omega : w.heap.size + 1 ≠ w.heap.size) st bb v) (by omega : w.heap.size + 1 ≠ w.heap.size) st bb v
  have o8 := fillS_own (fillS_own ho n0 st bb v) n0 st bb v
  have w8 := fillS_below (fillS_below hb (Nat.le_refl _) st bb v) (Nat.le_refl _) st bb v
  unfold told3
  generalize fillS w.heap.size st v bb (fillS w.heap.size st v bb X) = Y at a8 b8 o8 w8 ⊢
  have h1 := Recs.box_far (g := w.heap.size + 1) (i := 0) a8 (.int .i64 0) (by omega)
  have h2 := Recs.box_set b8 0 (.int .i64 0)
  have o9 := Recs.own_set o8 (w.heap.size + 1) 0 (.int .i64 0) n1
  have w9 := w8.setCell (p := ⟨w.heap.size + 1, 0, none⟩) (Nat.le_succ _) (.int .i64 0)
  generalize Y.setCell ⟨w.heap.size + 1, 0, none⟩ (.int .i64 0) = Z at h1 h2 o9 w9 ⊢
  exact ⟨Recs.box_cell h1 0, Recs.box_cell h1 1, Recs.box_cell h1 2, Recs.box_cell h2 0, Recs.own_mono (Recs.own_drew o9) (by omega), w9.drew⟩
theorem told_no3 (w X : World) (c : Nat) (ht : Told3 w X) (hb : Below w.heap.size w X) : Flds.Own w.heap.size (X.setCell ⟨w.heap.size + 1, 0, none⟩ (.int .i64 (c : Int))) (.slice none 0 0) [] ∧ Below w.heap.size w (X.setCell ⟨w.heap.size + 1, 0, none⟩ (.int .i64 (c : Int))) :=
  ⟨Recs.own_nil _ _, hb.setCell (p := ⟨w.heap.size + 1, 0, none⟩) (by show w.heap.size ≤ w.heap.size + 1; omega) _⟩
/-- what is not read tells nothing but its code -/
theorem readS_no (s : ByteArray) (R : Rs) (h : readResp s = R) (h0 : ¬ R.2.2 = 0) : R = noRs R.2.2 ∧ (R.2.2 = 1 ∨ R.2.2 = 2) := by
  have key : ∀ c : Int, c = 0 ∨ c = 1 ∨ c = 2 → ¬ (noRs c).2.2 = 0 → noRs c = noRs (noRs c).2.2 ∧ ((noRs c).2.2 = 1 ∨ (noRs c).2.2 = 2) := fun c h h0 => ⟨rfl, h.resolve_left h0⟩
  have kc : ∀ c : Int, codeOf c = 0 ∨ codeOf c = 1 ∨ codeOf c = 2 := fun c => by unfold codeOf; (repeat' split) <;> simp
  subst h
  revert h0
  unfold readResp
  split
  · exact key _ (by split <;> simp)
  · cases eol s 0 with
    | none => exact key _ (.inr (.inr rfl))
    | some k =>
      simp only
      cases Flds.read (s.extract (k + 2) s.size) with
      | none => exact key _ (.inr (.inr rfl))
      | some q =>
        obtain ⟨l, n⟩ := q
        simp only
        cases decR (words (s.extract 0 k)).2.1 with
        | none => exact key _ (.inr (.inr rfl))
        | some st =>
          simp only
          split
          · split
            · intro h; exact absurd rfl h
            · split
              · intro h; exact absurd rfl h
              · exact key _ (kc _)
          · exact key _ (.inr (.inr rfl))
theorem ground_grown3 {m b : Addr} {w W X : World} {g : Nat} (hG : Ground3 m b w) (hb : Below w.heap.size w W) (hg : w.heap.size ≤ g) (h : W.grownBy X (some g)) : Ground3 m b X :=
  hG.below (hb.grown h hb.size (fun k hk => by have := Option.some.inj hk; omega))
set_option maxRecDepth 100000 in
set_option maxHeartbeats 2000000 in
theorem readMsgS_impl (s : ByteArray) (m b : Addr) (w : World) (hs : s.size ≤ 1048576) (hG : Ground3 m b w) :
    Calls Tryz.prog 63 #[.string s, .func (.func 64) #[] #[]] w fun e w' => ∃ v', e = .returned (.tuple #[Resp.val (readResp s).1.1 v' (readResp s).1.2.2, .int .i64 (readResp s).2.1, .int .i64 (readResp s).2.2]) ∧ Flds.Own w.heap.size w' v' (readResp s).1.2.1 ∧ Below w.heap.size w w' := by
  have hmf : ∀ (fn : Fn) (first cap : Array Value) (w : World), (Instr.makeFunc fn first cap).run Tryz.prog w = .ok (.func fn first cap) w := fun _ _ _ _ => rfl
  obtain ⟨R, hR⟩ : ∃ R, readResp s = R := ⟨_, rfl⟩
  rw [hR]
  obtain ⟨c, hcc⟩ : ∃ c, (if 1500 < s.size then 2 else 1 : Nat) = c := ⟨_, rfl⟩
  have hc : c = 1 ∨ c = 2 := by rw [← hcc]; split <;> simp
  have hno : whole s = false → R = noRs (c : Int) := fun hw => by rw [← hR, ← hcc]; unfold readResp; rw [if_pos hw]; split <;> rfl
  go_enter_defers Tryz.func63, Tryz.ntmps63
  go_upto_region 3 with fail
  have hb0 : Below w.heap.size w (((w.alloc Zs).alloc Zc).alloc (Zr s)) := (((Below.refl w.heap.size w).alloc (Nat.le_refl _) Zs).alloc (by simp) Zc).alloc (by simp; omega) (Zr s)
  have hz0 : (((w.alloc Zs).alloc Zc).alloc (Zr s)).heap.size = w.heap.size + 1 + 1 + 1 := by rw [World.size_alloc, World.size_alloc, World.size_alloc]
  obtain ⟨r0, r1, r2⟩ := Recs.three_rows w _ Zs Zc (Zr s) (Below.refl _ _)
  change Code.wp _ _ _ _ (((w.alloc Zs).alloc Zc).alloc (Zr s))
  generalize (((w.alloc Zs).alloc Zc).alloc (Zr s)) = W at hb0 hz0 r0 r1 r2 ⊢
  have hrd : Rd (w.heap.size + 1 + 1) s 0 (.slice none 0 0) W := r2
  have HDn : Hid (∀ X, W.grownBy X (some (w.heap.size + 1 + 1)) → Told3 w X ∧ Below w.heap.size w X ∧ Ground3 m b X) := fun X hX =>
    ⟨⟨(hX.block _ (by omega) (by simp; omega)).trans r0, (hX.block _ (by omega) (by simp)).trans r1⟩, hb0.grown hX hb0.size (fun k hk => by have := Option.some.inj hk; omega), ground_grown3 hG hb0 (by omega) hX⟩
  have HAw := Num.hide (await_impl (w.heap.size + 1 + 1) s (.slice none 0 0) m b W hrd hs (hG.below hb0).ground.lim (hG.below hb0).ground.errs)
  have HRq := Num.hide (fun X h hw hG => response_impl (w.heap.size + 1 + 1) s (.slice none 0 0) m b X h hs hw hG)
  have HRd := Num.hide hrd
  rw [hR] at HRq
  clear r0 r1 r2 hrd hG hb0
  cases hw : whole s with
  | false =>
    rw [hw, if_neg (by decide), hcc] at HAw
    have hR2 := hno hw
    clear hw hR HRq hno hcc
    subst hR2
    go_wp2_with fail
    refine HAw.out.mono ?_
    rintro e w1 ⟨rfl, hb1⟩
    obtain ⟨ht, hb, hg⟩ := HDn.out w1 (Recs.grown_of_below hb1 _)
    unfold thrown
    refine leaves_cons (f := 114) (args := #[.pointer (some ⟨w.heap.size + 1, 0, none⟩)]) (by simp) (by simp [go_sem]) ?_
    refine (catch_throw3 ⟨w.heap.size + 1, 0, none⟩ c hc 0 m b w1 hg.ground.errs ht.code ht.thaw).mono ?_
    rintro e u' w'' ⟨rfl, rfl, rfl⟩
    have HF := Num.hide (told_no3 w w1 c ht hb)
    obtain ⟨k0, k1, k2⟩ := ht.cells c
    have kc := ht.coded c
    simp [Leaves, settle, results, Tryz.results63, go_sem, k0, k1, k2, kc]
    exact ⟨.slice none 0 0, ⟨rfl, rfl, rfl⟩, HF.out.1, HF.out.2⟩
  | true =>
    rw [hw, if_pos rfl] at HAw
    clear hno hcc hc
    go_wp2_with fail
    refine HAw.out.mono ?_
    rintro e w1 ⟨rfl, hb1⟩
    have G1 := Num.hide (Recs.grown_of_below hb1 (some (w.heap.size + 1 + 1)))
    have R1 := Num.hide (HRd.out.step hb1)
    have hz1 := hb1.size
    clear hb1 HAw HRd
    go_wp2_with fail
    refine (HRq.out w1 R1.out hw (fun X hX => (HDn.out X (Recs.grown_trans G1.out hX)).2.2)).mono ?_
    rintro e w2 hre
    obtain ⟨hg2, hif⟩ := hre
    obtain ⟨ht, hb, hg⟩ := HDn.out w2 (Recs.grown_trans G1.out hg2)
    have hz2 := hg2.size
    clear hg2 HRq HDn
    by_cases h0 : R.2.2 = 0
    · rw [if_pos h0] at hif
      obtain ⟨v, rfl, ho, f, n, hn, hrd⟩ := hif
      obtain ⟨⟨st, L, bb⟩, N, C⟩ := R
      simp only at h0 hrd ho hn
      subst h0
      subst hn
      obtain ⟨a2, q2, hv⟩ := Recs.own_len ho
      subst hv
      obtain ⟨k0, k1, k2⟩ := ht.rows
      obtain ⟨z0, z1, z2⟩ := ht.thaws
      have kc := ht.code
      have zc := ht.thaw
      obtain ⟨c0, c1, c2⟩ := hrd.cells
      have HD := Num.hide (done3 w w2 ht hb st bb _ L _ ho (by omega))
      unfold Resp.val
      clear ho hb hg hrd ht hw
      go_upto_region 5 with fail
      go_region
      go_wp2
      refine leaves_cons (f := 114) (args := #[.pointer (some ⟨w.heap.size + 1, 0, none⟩)]) (by simp) (by simp [go_sem]) ?_
      refine (catch_idle3 ⟨w.heap.size + 1, 0, none⟩ _).mono ?_
      rintro e u' w'' ⟨rfl, rfl, rfl⟩
      change Leaves _ _ _ _ _ _ (told3 w.heap.size st (.slice a2 L.length q2) bb w2)
      obtain ⟨j0, j1, j2, jc, jo, jb⟩ := HD.out
      generalize told3 w.heap.size st (.slice a2 L.length q2) bb w2 = Y at j0 j1 j2 jc jo jb ⊢
      simp [Leaves, settle, results, Tryz.results63, go_sem, j0, j1, j2, jc]
      exact ⟨_, rfl, jo, jb⟩
    · rw [if_neg h0] at hif
      obtain ⟨hno2, hc⟩ := readS_no s R hR h0
      obtain ⟨d, hd, hdc⟩ : ∃ d : Nat, (d = 1 ∨ d = 2) ∧ R = noRs (d : Int) := by
        rcases hc with h1 | h1
        · exact ⟨1, .inl rfl, by rw [hno2, h1]; rfl⟩
        · exact ⟨2, .inr rfl, by rw [hno2, h1]; rfl⟩
      clear hc hno2 hR h0 hw
      subst hdc
      obtain rfl : e = thrown m b d := hif
      unfold thrown
      refine leaves_cons (f := 114) (args := #[.pointer (some ⟨w.heap.size + 1, 0, none⟩)]) (by simp) (by simp [go_sem]) ?_
      refine (catch_throw3 ⟨w.heap.size + 1, 0, none⟩ d hd 0 m b w2 hg.ground.errs ht.code ht.thaw).mono ?_
      rintro e u' w'' ⟨rfl, rfl, rfl⟩
      have HF := Num.hide (told_no3 w w2 d ht hb)
      obtain ⟨k0, k1, k2⟩ := ht.cells d
      have kc := ht.coded d
      simp [Leaves, settle, results, Tryz.results63, go_sem, k0, k1, k2, kc]
      exact ⟨.slice none 0 0, ⟨rfl, rfl, rfl⟩, HF.out.1, HF.out.2⟩
set_option maxRecDepth 100000 in
set_option maxHeartbeats 2000000 in
theorem readResp_impl (s : ByteArray) (m b : Addr) (w : World) (hs : s.size ≤ 1048576) (hG : Ground3 m b w) :
    Calls Tryz.prog 24 #[.string s] w fun e w' => ∃ v', e = .returned (.tuple #[Resp.val (readResp s).1.1 v' (readResp s).1.2.2, .int .i64 (readResp s).2.1, .int .i64 (readResp s).2.2]) ∧ Flds.Own w.heap.size w' v' (readResp s).1.2.1 ∧ Below w.heap.size w w' := by
  have hb0 := (Below.refl w.heap.size w).alloc (Nat.le_refl _) Zs
  have HM := Num.hide (readMsgS_impl s m b (w.alloc Zs) hs (hG.below hb0))
  clear hG hb0
  generalize readResp s = R at HM ⊢
  obtain ⟨⟨st, L, bb⟩, N, C⟩ := R
  unfold Resp.val at HM ⊢
  simp only at HM ⊢
  go_enter Tryz.func24, Tryz.ntmps24
  go_wp2_with fail
  refine HM.out.mono ?_
  rintro e w1 ⟨v, rfl, ho, hb⟩
  have hz : (w.alloc Zs).heap.size = w.heap.size + 1 := by rw [World.size_alloc]
  have hrow : w1.heap[w.heap.size]? = some Zs := (hb.block _ (by omega)).trans (heap_alloc_new w Zs)
  have hB0 := (Below.refl w.heap.size w).alloc (Nat.le_refl _) Zs
  have hB1 := hB0.trans (hb.mono hB0.size)
  have n0 : ∀ j, v.ownBlock = some j → j ≠ w.heap.size := fun j hj => by have := (Recs.own_lt ho j hj).1; omega
  have o1 := Recs.own_set ho w.heap.size 0 (.int .i64 st) n0
  have o2 := Recs.own_set o1 w.heap.size 1 v n0
  have HO := Num.hide (Recs.own_mono (Recs.own_set o2 w.heap.size 2 (.string bb) n0) (by omega : w.heap.size ≤ (w.alloc Zs).heap.size))
  have HB := Num.hide (((hB1.setCell (p := ⟨w.heap.size, 0, none⟩) (Nat.le_refl _) (.int .i64 st)).setCell (p := ⟨w.heap.size, 1, none⟩) (Nat.le_refl _) v).setCell (p := ⟨w.heap.size, 2, none⟩) (Nat.le_refl _) (.string bb))
  have k0 := Recs.box_cell hrow 0
  have k1 := Recs.box_cell hrow 1
  have k2 := Recs.box_cell hrow 2
  have z0 := Recs.box_thaw hrow 0
  have z1 := Recs.box_thaw hrow 1
  have z2 := Recs.box_thaw hrow 2
  simp only [List.getElem?_toArray, List.getElem?_cons_succ, List.getElem?_cons_zero] at k0 k1 k2
  obtain ⟨a2, q2, hv⟩ := Recs.own_len ho
  subst hv
  clear ho hb hrow hB0 hB1 n0 o1 o2 hz HM
  go_wp2
  exact bodyPost_ret (v := .tuple #[.agg #[.int .i64 st, .slice a2 L.length q2, .string bb], .int .i64 N, .int .i64 C]) (by simp [results, Tryz.results24, go_sem, *]) rfl ⟨_, rfl, HO.out, HB.out⟩
end Msg
end Go.Proofs.YtbajfklnekfeoaaGreatDoor
