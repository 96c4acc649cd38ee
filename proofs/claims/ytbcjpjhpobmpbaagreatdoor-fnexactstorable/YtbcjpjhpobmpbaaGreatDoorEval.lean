/-
  A call whose run the kernel works out: it looks at nothing of the world, and draws nothing.
-/
import Derived.Test.YtbcjpjhpobmpbaaGreatDoorRows
import Derived.Calls
import Derived.KernelRfl
namespace Go.Proofs.YtbcjpjhpobmpbaaGreatDoor
namespace Eval

/-- the frame of a machine of one goroutine that goes back to its caller -/
def goesBack (m : Machine) : Option Frame :=
  match m.gs[0]? with
  | some g => match g.frame.mode with | .returning => some g.frame | _ => none
  | none => none
/-- so many steps at most, up to where the call goes back -/
def toRet (P : Program) : Nat → Machine → Option Machine
  | 0, _ => none
  | n + 1, m => match goesBack m with
    | some _ => some m
    | none => match step P m with | .next m' => toRet P n m' | _ => none
theorem steps_of_toRet (P : Program) : ∀ (n : Nat) (m m' : Machine), toRet P n m = some m' → Steps P m m'
  | 0, m, m', h => by cases h
  | n + 1, m, m', h => by
    unfold toRet at h
    split at h
    · cases h; exact Steps.refl _ _
    · split at h
      · next m1 h1 => exact Steps.head h1 (steps_of_toRet P n m1 m' h)
      · cases h
def blank : Frame := { fn := 0, tmps := #[], todo := [], defers := [], mode := .run, kind := .normal }
/-- the frame that goes back -/
def fin (P : Program) (n : Nat) (f : FuncId) (args : Array Value) (cs : List Frame) (w : World) : Frame :=
  ((toRet P n (lone (Frame.enter P f args .normal) cs w)).bind goesBack).getD blank
/-- what else is looked at of it: the deferred calls' number, its kind, its function, what it returns -/
def seen (P : Program) (fn : Func) (fr : Frame) (w : World) : Bool × CallKind × FuncId × Result Value := (fr.defers.isEmpty, fr.kind, fr.fn, (results fn fr.tmps).run P w)
/-- what the kernel works out -/
structure Told (P : Program) (n : Nat) (f : FuncId) (fn : Func) (args : Array Value) (v : Value) (cs : List Frame) (w : World) : Prop where
  run : toRet P n (lone (Frame.enter P f args .normal) cs w) = some (lone (fin P n f args cs w) cs w)
  look : seen P fn (fin P n f args cs w) w = (true, .normal, f, .ok v w)
theorem mode_of_toRet (P : Program) : ∀ (n : Nat) (m m' : Machine), toRet P n m = some m' → ∃ fr, goesBack m' = some fr ∧ fr.mode = .returning
  | 0, m, m', h => by cases h
  | n + 1, m, m', h => by
    unfold toRet at h
    split at h
    · next fr h1 =>
      cases h
      refine ⟨fr, h1, ?_⟩
      unfold goesBack at h1
      split at h1
      · split at h1
        · next hm => cases h1; exact hm
        · cases h1
      · cases h1
    · split at h
      · next m1 h1 => exact mode_of_toRet P n m1 m' h
      · cases h
theorem Told.mode {P : Program} {n : Nat} {f : FuncId} {fn : Func} {args : Array Value} {v : Value} {cs : List Frame} {w : World} (h : Told P n f fn args v cs w) : (fin P n f args cs w).mode = .returning := by
  obtain ⟨fr, h1, h2⟩ := mode_of_toRet P n _ _ h.run
  have e : fin P n f args cs w = fr := by
    have h3 : fin P n f args cs w = ((some (lone (fin P n f args cs w) cs w)).bind goesBack).getD blank := by rw [← h.run]; rfl
    rw [h3, Option.bind_some, h1, Option.getD_some]
  rw [e]; exact h2
theorem calls {P : Program} {f : FuncId} {args : Array Value} {w : World} {v : Value} (n : Nat) (fn : Func) (hf : P.funcs[f]? = some fn) (h : ∀ cs, Told P n f fn args v cs w) :
    Calls P f args w fun e w' => e = .returned v ∧ w = w' := fun cs => by
  have hl := (h cs).look
  unfold seen at hl
  simp only [Prod.mk.injEq, List.isEmpty_iff] at hl
  obtain ⟨hd, hk, hn, hr⟩ := hl
  exact ⟨.returned v, w, _, ⟨rfl, rfl⟩, steps_of_toRet P n _ _ (h cs).run, hn, (h cs).mode, hd, hk, fn, by rw [hn]; exact hf, hr⟩
/-- the same at every number below a bound: two rows of facts -/
theorem told_all {P : Program} {f : FuncId} {fn : Func} {N n : Nat} (g : Nat → Array Value) (v : Nat → Value) (cs : List Frame) (w : World)
    (h1 : (List.range N).map (fun c => toRet P n (lone (Frame.enter P f (g c) .normal) cs w)) = (List.range N).map (fun c => some (lone (fin P n f (g c) cs w) cs w)))
    (h2 : (List.range N).map (fun c => seen P fn (fin P n f (g c) cs w) w) = (List.range N).map (fun c => (true, .normal, f, .ok (v c) w)))
    (c : Nat) (hc : c < N) : Told P n f fn (g c) (v c) cs w :=
  have m := List.mem_range.2 hc
  ⟨List.map_inj_left.1 h1 c m, List.map_inj_left.1 h2 c m⟩
end Eval
end Go.Proofs.YtbcjpjhpobmpbaaGreatDoor
