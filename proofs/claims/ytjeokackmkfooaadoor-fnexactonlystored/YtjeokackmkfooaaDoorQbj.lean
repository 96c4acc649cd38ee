/-
  CcMap: A map of numbers by texts, as far as it is asked: what it holds of each text.
-/
import Derived.Test.YtjeokackmkfooaaDoorQad
import Derived.Test.YtjeokackmkfooaaDoorRows
import Derived.WalkKit
import Derived.Maps.OwnSet
import Derived.Maps.OwnOps
import Derived.Maps.Views
namespace Go.Proofs.YtjeokackmkfooaaDoor
open Go.RowKit Go.WideMaps Go.Maps
set_option linter.unusedVariables false
namespace Cc

theorem law : Keyed Tryd.prog 9 := string_keyed Tryd.underlying9
theorem zeroI (w : World) : (zeroValue 3).run Tryd.prog w = .ok (.int .i64 0) w := by kernel_rfl
/-- what a text reads as -/
abbrev key (s : ByteArray) : Lit := .string s.data.toList
theorem key_of (s : ByteArray) (hs : s.size ≤ maxLen) : keyOf Tryd.prog 9 (.string s) = some (key s) := keyOf_string_mk Tryd.underlying9 hs
/-- the map at block b reads as D, of at most n entries -/
abbrev MapIs (w : World) (b n : Nat) (D : DataW Unit) : Prop := w.ownsMap Tryd.prog 9 (plainElem Tryd.prog 3) b n D
/-- D holds of each text what m tells -/
def Tells (D : DataW Unit) (m : ByteArray → Option Int) : Prop :=
  ∀ s, Go.Maps.has D (key s) = (m s).isSome ∧ ∀ c, m s = some c → D.atKey (key s) (.lit (.int .i64 0)) = .lit (.int .i64 c)
theorem tells_start : Tells (.map []) (fun _ => none) := fun s => ⟨rfl, fun c h => by cases h⟩
theorem key_inj {s t : ByteArray} (h : key s = key t) : s = t := by
  injection h with h
  exact ByteArray.ext (Array.toList_inj.1 h)
theorem tells_put {D : DataW Unit} {m : ByteArray → Option Int} (h : Tells D m) (hD : IsMap D) (s : ByteArray) (c : Int) {m' : ByteArray → Option Int} (h1 : m' s = some c) (h2 : ∀ t, ¬ t = s → m' t = m t) : Tells (D.put (key s) (.lit (.int .i64 c))) m' := by
  intro t
  have hk : WideAt.IsKeyLit (key s) := by trivial
  by_cases e : t = s
  · subst e
    rw [h1, has_put_same hD hk]
    refine ⟨rfl, fun c' hc => ?_⟩
    cases hc
    exact atKey_put_same hD hk _ _
  · have ne : key t ≠ key s := fun h => e (key_inj h)
    rw [h2 t e, has_put_other ne]
    refine ⟨(h t).1, fun c' hc => ?_⟩
    rw [atKey_put_other ne]
    exact (h t).2 c' hc
/-- what is looked up -/
theorem tells_at {D : DataW Unit} {m : ByteArray → Option Int} (h : Tells D m) (s : ByteArray) {c : Int} (hc : D.atKey (key s) (.lit (.int .i64 0)) = .lit (.int .i64 c)) : (m s = none ∧ Go.Maps.has D (key s) = false ∧ c = 0) ∨ (m s = some c ∧ Go.Maps.has D (key s) = true) := by
  obtain ⟨h1, h2⟩ := h s
  cases e : m s with
  | none =>
    left
    rw [e] at h1
    refine ⟨rfl, h1, ?_⟩
    rw [atKey_of_not_has h1] at hc
    injection hc with hc; injection hc with _ hc; exact hc.symm
  | some c' =>
    right
    rw [e] at h1
    have := h2 c' e
    rw [hc] at this
    injection this with this; injection this with _ this
    exact ⟨by rw [this], h1⟩
end Cc
end Go.Proofs.YtjeokackmkfooaaDoor
