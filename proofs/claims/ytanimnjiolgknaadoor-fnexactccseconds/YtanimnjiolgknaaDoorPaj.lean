/-
  CcSpec: CcHas and CcSeconds of the specification.
  CcMap: A map of numbers by texts, as far as it is asked: what it holds of each text.
-/
import Derived.Test.YtanimnjiolgknaaDoorPad
import Derived.Test.YtanimnjiolgknaaDoorSecondsSpec
import Derived.Test.YtanimnjiolgknaaDoorPaa
import Derived.Test.YtanimnjiolgknaaDoorRows
import Derived.WalkKit
import Derived.Maps.OwnSet
import Derived.Maps.OwnOps
import Derived.Maps.Views
namespace Go.Proofs.YtanimnjiolgknaaDoor
open Go.RowKit
set_option linter.unusedVariables false
namespace Cc
open Flds (Fld text_ne')

theorem has_take (d : List Fld) (name : ByteArray) (k : Nat) (h : k < d.length) : has (d.take (k + 1)) name = (has (d.take k) name || decide (d[k].1 = name)) := by
  unfold has
  rw [List.take_succ_eq_append_getElem h, List.any_append]
  simp
theorem has_hit (d : List Fld) (name : ByteArray) (k : Nat) (h : k < d.length) (he : d[k].1 = name) : has d name = true := by
  unfold has
  rw [List.any_eq_true]
  exact ⟨d[k], List.getElem_mem h, by simp [he]⟩

set_option maxRecDepth 100000 in
set_option maxHeartbeats 2000000 in
theorem has_spec (v : Value) (l : List Fld) (name : ByteArray) (w : World) (h : Flds.Is w v l) (hl : Flds.bulk l ≤ 1048576) :
    Calls Tryd.prog 23 #[v, .string name] w fun e w' => e = .returned (.bool (has (dirs l) name)) ∧ Below w.heap.size w w' := by
  have hlen := dirs_len l
  have HDi := Num.hide (dirs_spec v l w h hl)
  obtain ⟨d, hd⟩ : ∃ d, dirs l = d := ⟨_, rfl⟩
  rw [hd] at hlen HDi ⊢
  obtain ⟨r, hr⟩ : ∃ r, has d name = r := ⟨_, rfl⟩
  rw [hr]
  have HR := Num.hide hr
  clear h hd hr
  go_enter Tryd.func23, Tryd.ntmps23
  go_wp2_with fail
  refine HDi.out.mono ?_
  rintro e w1 ⟨dv, rfl, ho, hb⟩
  obtain ⟨da, dc, rfl, h2⟩ := Flds.is_form (Recs.own_is Flds.cells_len ho)
  have HA := Num.hide h2
  have HB := Num.hide hb
  clear ho hb h2 HDi
  go_wp2
  go_loop [6] (fun iv => ∃ i : Nat, i ≤ d.length ∧ iv = .int .i64 (i : Int) ∧ Hid (has (d.take i) name = false)) (fun iv => d.length - (intOf iv).toNat)
  case atStart => exact ⟨0, by omega, rfl, rfl⟩
  case round =>
    obtain ⟨i, hi, rfl, HF⟩ := hrel
    by_cases hlt : i < d.length
    · obtain ⟨bk, o, rfl, hc, hmx, hblt, hcell⟩ := HA.out (by omega)
      obtain ⟨c1, c2⟩ := hcell i hlt
      have HT := Num.hide (has_take d name i hlt)
      have HH := Num.hide (has_hit d name i hlt)
      clear hcell
      generalize d[i] = f at c1 c2 HT HH
      obtain ⟨x, y⟩ := f
      simp only at c1 c2
      by_cases he : x = name
      · subst he
        obtain rfl : r = true := by rw [← HR.out]; exact HH.out rfl
        go_wp2
        go_ret
        exact ⟨rfl, HB.out⟩
      · have d' := text_ne' he
        have HF2 : Hid (has (d.take (i + 1)) name = false) := by
          show _ = _
          rw [HT.out, HF.out, Bool.false_or]; exact decide_eq_false he
        clear he
        go_wp2
        go_round
        case rel => exact ⟨i + 1, by omega, by go_num, HF2⟩
        case measure => simp [intOf]; omega
    · obtain rfl : i = d.length := by omega
      have hf := HF.out
      rw [List.take_length, HR.out] at hf
      subst hf
      go_wp2
      go_ret
      exact ⟨rfl, HB.out⟩

set_option maxRecDepth 100000 in
set_option maxHeartbeats 2000000 in
theorem sec_spec (v : Value) (l : List Fld) (name : ByteArray) (w : World) (h : Flds.Is w v l) (hl : Flds.bulk l ≤ 1048576) :
    Calls Tryd.prog 14 #[v, .string name] w fun e w' => e = .returned (.tuple #[.int .i64 (sec (dirs l) name).1, .bool (sec (dirs l) name).2]) ∧ Below w.heap.size w w' := by
  have hlen := dirs_len l
  have hsm := dirs_small l
  have HDi := Num.hide (dirs_spec v l w h hl)
  obtain ⟨d, hd⟩ : ∃ d, dirs l = d := ⟨_, rfl⟩
  rw [hd] at hlen hsm HDi ⊢
  obtain ⟨r, hr⟩ : ∃ r, sec d name = r := ⟨_, rfl⟩
  rw [hr]
  rw [sec_best] at hr
  have HR := Num.hide hr
  have HZ := Num.hide hsm
  clear h hd hr hsm
  go_enter Tryd.func14, Tryd.ntmps14
  go_wp2_with fail
  refine HDi.out.mono ?_
  rintro e w1 ⟨dv, rfl, ho, hb⟩
  obtain ⟨da, dc, rfl, h2⟩ := Flds.is_form (Recs.own_is Flds.cells_len ho)
  have HA := Num.hide h2
  have HB := Num.hide hb
  clear ho hb h2 HDi
  go_wp2
  go_loop [7, 8, 9] (fun bv ov iv => ∃ i : Nat, i ≤ d.length ∧ iv = .int .i64 (i : Int) ∧ ∃ (b : Int) (o : Bool), bv = .int .i64 b ∧ ov = .bool o ∧ Hid (best (d.take i) name = (b, o))) (fun _ _ iv => d.length - (intOf iv).toNat)
  case atStart => exact ⟨0, by omega, rfl, _, _, rfl, rfl, rfl⟩
  case round =>
    obtain ⟨i, hi, rfl, b, o, rfl, rfl, HF⟩ := hrel
    by_cases hlt : i < d.length
    · obtain ⟨bk, ob, rfl, hc, hmx, hblt, hcell⟩ := HA.out (by omega)
      obtain ⟨c1, c2⟩ := hcell i hlt
      have HT := Num.hide (best_take d name i hlt)
      have hz := HZ.out d[i] (List.getElem_mem hlt)
      clear hcell
      generalize d[i] = f at c1 c2 HT hz
      obtain ⟨x, y⟩ := f
      simp only at c1 c2 hz
      by_cases he : x = name
      · subst he
        have HS := Num.hide (fun W => Sign.seconds_spec y W (by unfold maxLen; omega))
        have HF2 : Hid (best (d.take (i + 1)) x = (min b (Sign.secs y).1, true)) := by
          show _ = _
          rw [HT.out, HF.out, if_pos rfl]
        clear HT HF
        generalize Sign.secs y = sc at HS HF2
        obtain ⟨n, bn⟩ := sc
        simp only at HS HF2
        have HF3 : Hid (best (d.take (i + 1)) x = (if n < b then n else b, true)) := by
          show _ = _
          rw [HF2.out, show min b n = if n < b then n else b by split <;> omega]
        clear HF2
        go_wp2_with fail
        refine (HS.out _).mono ?_
        rintro e w2 ⟨rfl, rfl⟩
        go_wp2
        go_round
        case rel => exact ⟨i + 1, by omega, by go_num, _, _, rfl, rfl, HF3⟩
        case measure => simp [intOf]; omega
      · have d' := text_ne' he
        have HF2 : Hid (best (d.take (i + 1)) name = (b, o)) := by
          show _ = _
          rw [HT.out, if_neg he]; exact HF.out
        clear he
        go_wp2
        go_round
        case rel => exact ⟨i + 1, by omega, by go_num, _, _, rfl, rfl, HF2⟩
        case measure => simp [intOf]; omega
    · obtain rfl : i = d.length := by omega
      have hf := HF.out
      rw [List.take_length] at hf
      have hr := HR.out
      rw [hf] at hr
      clear hf HF
      cases o with
      | false =>
        subst hr
        go_wp2
        go_ret2
        exact ⟨rfl, HB.out⟩
      | true =>
        subst hr
        go_wp2
        go_ret2
        exact ⟨rfl, HB.out⟩
end Cc
end Go.Proofs.YtanimnjiolgknaaDoor
namespace Go.Proofs.YtanimnjiolgknaaDoor
open Go.RowKit Go.WideMaps Go.Maps
set_option linter.unusedVariables false
namespace Cc

theorem law : Keyed Tryd.prog 9 := string_keyed Tryd.underlying9
theorem zeroI (w : World) : (zeroValue 3).run Tryd.prog w = .ok (.int .i64 0) w := by kernel_rfl
/-- what a text reads as -/
abbrev key (s : ByteArray) : Lit := .string s.data.toList
theorem key_of (s : ByteArray) (hs : s.size ≤ maxLen) : keyOf Tryd.prog 9 (.string s) = some (key s) := keyOf_string_mk Tryd.underlying9 hs
/-- the map at block b reads as D, of at most n entries -/
abbrev MapIs (w : World) (b n : Nat) (D : DataW Unit) : Prop := w.ownsMap Tryd.prog 9 (plainElem Tryd.prog 3) b n D
/-- D holds of each text what m tells -/
def Tells (D : DataW Unit) (m : ByteArray → Option Int) : Prop :=
  ∀ s, Go.Maps.has D (key s) = (m s).isSome ∧ ∀ c, m s = some c → D.atKey (key s) (.lit (.int .i64 0)) = .lit (.int .i64 c)
theorem tells_start : Tells (.map []) (fun _ => none) := fun s => ⟨rfl, fun c h => by cases h⟩
theorem key_inj {s t : ByteArray} (h : key s = key t) : s = t := by
  injection h with h
  exact ByteArray.ext (Array.toList_inj.1 h)
theorem tells_put {D : DataW Unit} {m : ByteArray → Option Int} (h : Tells D m) (hD : IsMap D) (s : ByteArray) (c : Int) {m' : ByteArray → Option Int} (h1 : m' s = some c) (h2 : ∀ t, ¬ t = s → m' t = m t) : Tells (D.put (key s) (.lit (.int .i64 c))) m' := by
  intro t
  have hk : WideAt.IsKeyLit (key s) := by trivial
  by_cases e : t = s
  · subst e
    rw [h1, has_put_same hD hk]
    refine ⟨rfl, fun c' hc => ?_⟩
    cases hc
    exact atKey_put_same hD hk _ _
  · have ne : key t ≠ key s := fun h => e (key_inj h)
    rw [h2 t e, has_put_other ne]
    refine ⟨(h t).1, fun c' hc => ?_⟩
    rw [atKey_put_other ne]
    exact (h t).2 c' hc
/-- what is looked up -/
theorem tells_at {D : DataW Unit} {m : ByteArray → Option Int} (h : Tells D m) (s : ByteArray) {c : Int} (hc : D.atKey (key s) (.lit (.int .i64 0)) = .lit (.int .i64 c)) : (m s = none ∧ Go.Maps.has D (key s) = false ∧ c = 0) ∨ (m s = some c ∧ Go.Maps.has D (key s) = true) := by
  obtain ⟨h1, h2⟩ := h s
  cases e : m s with
  | none =>
    left
    rw [e] at h1
    refine ⟨rfl, h1, ?_⟩
    rw [atKey_of_not_has h1] at hc
    injection hc with hc; injection hc with _ hc; exact hc.symm
  | some c' =>
    right
    rw [e] at h1
    have := h2 c' e
    rw [hc] at this
    injection this with this; injection this with _ this
    exact ⟨by rw [this], h1⟩
end Cc
end Go.Proofs.YtanimnjiolgknaaDoor
