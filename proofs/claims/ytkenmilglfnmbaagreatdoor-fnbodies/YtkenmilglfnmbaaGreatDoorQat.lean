/-
  TellBody: tellBody of the program: what is told of a body and an error.
-/
import Derived.Test.YtkenmilglfnmbaaGreatDoorPieceImpl
import Derived.Test.YtkenmilglfnmbaaGreatDoorQas
namespace Go.Proofs.YtkenmilglfnmbaaGreatDoor
open Go.RowKit
set_option linter.unusedVariables false
namespace Body

/-- what is told -/
def tell (t : ByteArray) (u : Int) (c : Nat) : Told := if c = 0 then (t, u, 0) else (⟨#[]⟩, 0, (c : Int))
set_option maxRecDepth 100000 in
set_option maxHeartbeats 2000000 in
theorem tell_impl (t : ByteArray) (u : Int) (c : Nat) (m b : Addr) (w : World) (hc : c ≤ 2) (hE : Errs m b w) :
    Calls Tryz.prog 43 #[.string t, .int .i64 u, errV m b c] w fun e w' => e = .returned (.tuple #[.string (tell t u c).1, .int .i64 (tell t u c).2.1, .int .i64 (tell t u c).2.2]) ∧ w = w' := by
  have hm := hE.cm
  obtain ⟨ca, ta, ha⟩ := hE.rm
  obtain ⟨cb, tb, hb⟩ := hE.rb
  match c, hc with
  | 0, _ =>
    have HI := Num.hide (IsErr.is_nil m w)
    clear hE ha hb
    show Calls _ _ #[.string t, .int .i64 u, .nilIface] _ _
    go_enter Tryz.func43, Tryz.ntmps43
    go_wp2_with fail
    refine HI.out.mono ?_
    rintro e w1 ⟨rfl, rfl⟩
    go_wp2
    go_ret3
    exact ⟨rfl, rfl⟩
  | 1, _ =>
    have HI := Num.hide (IsErr.is_same m w)
    clear hE ha hb
    show Calls _ _ #[.string t, .int .i64 u, .iface 199 (.pointer (some m))] _ _
    go_enter Tryz.func43, Tryz.ntmps43
    go_wp2_with fail
    refine HI.out.mono ?_
    rintro e w1 ⟨rfl, rfl⟩
    go_wp2
    go_ret3
    exact ⟨rfl, rfl⟩
  | 2, _ =>
    have HI := Num.hide (IsErr.is_other b m cb ca tb ta w (fun h => hE.ne h.symm) hb ha)
    clear hE ha hb
    show Calls _ _ #[.string t, .int .i64 u, .iface 199 (.pointer (some b))] _ _
    go_enter Tryz.func43, Tryz.ntmps43
    go_wp2_with fail
    refine HI.out.mono ?_
    rintro e w1 ⟨rfl, rfl⟩
    go_wp2
    go_ret3
    exact ⟨rfl, rfl⟩
end Body
end Go.Proofs.YtkenmilglfnmbaaGreatDoor
