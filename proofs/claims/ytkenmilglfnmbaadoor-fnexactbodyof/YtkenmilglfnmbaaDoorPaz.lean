/-
  UnchunkImpl: Unchunk of the program: what the call returns, for every text; what was there stays.
-/
import Derived.Test.YtkenmilglfnmbaaDoorPay
namespace Go.Proofs.YtkenmilglfnmbaaDoor
open Go.RowKit
set_option linter.unusedVariables false
namespace Body

set_option maxRecDepth 100000 in
set_option maxHeartbeats 2000000 in
theorem unchunk_impl (s : ByteArray) (m b : Addr) (w : World) (hs : s.size ≤ 1048576) (hm : Lim w) (hS : Syn w) (hE : Errs m b w) :
    Calls Tryd.prog 6 #[.string s] w fun e w' => e = .returned (.tuple #[.string (unchunk s).1, .int .i64 (unchunk s).2.1, .int .i64 (unchunk s).2.2]) ∧ Below w.heap.size w w' := by
  have HJ := Num.hide (join_impl s m b w hs hm hS hE)
  have HE := Num.hide (fun W h => hE.below (w' := W) h)
  obtain ⟨⟨x, y, z⟩, hR⟩ : ∃ R, unchunk s = R := ⟨_, rfl⟩
  rw [hR] at HJ ⊢
  clear hm hS hE hR
  go_enter Tryd.func6, Tryd.ntmps6
  go_wp2_with fail
  refine HJ.out.mono ?_
  rintro e w1 ⟨t, u, c, rfl, hc, ht, hb⟩
  have HT := Num.hide (tell_impl t u c m b w1 hc (HE.out _ hb))
  rw [ht] at HT
  have HB := Num.hide hb
  clear hb ht HJ
  go_wp2_with fail
  refine HT.out.mono ?_
  rintro e w2 ⟨rfl, rfl⟩
  go_wp2
  go_ret3
  exact ⟨rfl, HB.out⟩
end Body
end Go.Proofs.YtkenmilglfnmbaaDoor
