/-
  CcHasImpl: CcHas of the program.
  OnlyImpl: OnlyStored of the program.
-/
import Derived.Test.YtjeokackmkfooaaDoorQbk
import Derived.Test.YtjeokackmkfooaaDoorQae
import Derived.Test.YtjeokackmkfooaaDoorQan
import Derived.Deep.Cut
namespace Go.Proofs.YtjeokackmkfooaaDoor
open Go.RowKit Go.WideMaps Go.Maps
set_option linter.unusedVariables false
namespace Cc
open Flds (Fld)
set_option maxRecDepth 100000 in
set_option maxHeartbeats 1000000 in
theorem has_impl (v : Value) (l : List Fld) (name : ByteArray) (w : World) (h : Flds.Is w v l) (hl : Flds.bulk l ≤ 1048576) (hn : name.size ≤ 1048576) (hm : Lim w) (hS : Sign.Signs w) :
    Calls Tryd.prog 12 #[v, .string name] w fun e w' => e = .returned (.bool (has (dirs l) name)) ∧ Below w.heap.size w w' := by
  have HL := Num.hide (least_impl v l w h hl hm hS)
  have h2 := sec_two (dirs l) name
  obtain ⟨r, hr⟩ : ∃ r, has (dirs l) name = r := ⟨_, rfl⟩
  rw [hr]
  unfold sec at h2
  generalize dirs l = d at HL hr h2
  have HK := Num.hide (key_of name (by unfold maxLen; omega))
  clear h hm hS
  cases hc : least d name with
  | none =>
    rw [hc] at h2
    obtain rfl : r = false := by rw [← hr, ← h2]
    have hcc := Num.hide hc
    clear hc hr h2
    go_enter Tryd.func12, Tryd.ntmps12
    go_wp2_with fail
    refine HL.out.mono ?_
    rintro e w1 ⟨rfl, ⟨D, hown, hT⟩, hb⟩
    have hbf : Go.Maps.has D (key name) = false := by (rw [(hT name).1, hcc.out]; rfl)
    have HC : Hid (∀ c, D.atKey (key name) (.lit (.int .i64 0)) = .lit (.int .i64 c) → c = 0) := (by intro c hc; rw [atKey_of_not_has hbf] at hc; injection hc with hc; injection hc with _ hc; exact hc.symm)
    have HO := Num.hide hown
    have HB := Num.hide hb
    clear hown hT hb
    go_wp2_with (at_lookup; refine wpList_lookup_own_ok_int _ rfl _ _ 46 rfl 9 3 .i64 law Tryd.underlying46 Tryd.underlying3 (zeroI _) w.heap.size _ D rfl HO.out _ _ rfl HK.out ?_; intro c0 hat hwc; obtain rfl := HC.out c0 hat; clear hat hwc)
    go_ret
    exact ⟨rfl, HB.out⟩
  | some c =>
    rw [hc] at h2
    obtain rfl : r = true := by rw [← hr, ← h2]
    have hcc := Num.hide hc
    clear hc hr h2
    go_enter Tryd.func12, Tryd.ntmps12
    go_wp2_with fail
    refine HL.out.mono ?_
    rintro e w1 ⟨rfl, ⟨D, hown, hT⟩, hb⟩
    have hbt : Go.Maps.has D (key name) = true := by (rw [(hT name).1, hcc.out]; rfl)
    have HC : Hid (∀ c', D.atKey (key name) (.lit (.int .i64 0)) = .lit (.int .i64 c') → c' = c) := (by intro c' hc'; rw [(hT name).2 c hcc.out] at hc'; injection hc' with hc'; injection hc' with _ hc'; exact hc'.symm)
    have HO := Num.hide hown
    have HB := Num.hide hb
    clear hown hT hb
    go_wp2_with (at_lookup; refine wpList_lookup_own_ok_int _ rfl _ _ 46 rfl 9 3 .i64 law Tryd.underlying46 Tryd.underlying3 (zeroI _) w.heap.size _ D rfl HO.out _ _ rfl HK.out ?_; intro c0 hat hwc; obtain rfl := HC.out c0 hat; clear hat hwc)
    go_ret
    exact ⟨rfl, HB.out⟩
end Cc
end Go.Proofs.YtjeokackmkfooaaDoor
namespace Go.Proofs.YtjeokackmkfooaaDoor
open Go.RowKit
set_option linter.unusedVariables false
namespace Pol
open Flds (Fld)

/-- the library's variables and the program's table of signs lie as they are laid -/
def LimS (w : World) : Prop := Cc.Lim w ∧ Sign.Signs w
theorem LimS.below {w w' : World} (h : LimS w) (hb : Below w.heap.size w w') : LimS w' := ⟨Cc.lim_below h.1 hb (Cc.lim_lt h.1), Cc.signs_below h.2 hb (Cc.signs_lt h.2)⟩
set_option maxRecDepth 100000 in
set_option maxHeartbeats 1000000 in
theorem onlyStored_impl (m u : ByteArray) (v : Value) (l : List Fld) (b : ByteArray) (w : World) (h : Flds.Is w v l) (hl : Flds.bulk l ≤ 1048576) (hE : LimS w) :
    Calls Tryd.prog 7 #[Req.val m u v b] w fun e w' => e = .returned (.bool (onlyStored l)) ∧ Below w.heap.size w w' := by
  have hb0 : Below w.heap.size w (w.alloc (.cells #[.string m, .string u, v, .string b] 29)) := (Below.refl _ _).alloc (Nat.le_refl _) _
  have HI := Num.hide (Recs.is_below h hb0)
  have HB := Num.hide hb0
  have HE := Num.hide (hE.below hb0)
  have HH := Num.hide (fun W h (hE : LimS W) => Cc.has_impl v l onlyIf W h hl (by decide) hE.1 hE.2)
  obtain ⟨av, cv, rfl, _⟩ := Flds.is_form h
  have X0 := Num.hide (heap_alloc_new w (.cells #[.string m, .string u, .slice av l.length cv, .string b] 29))
  unfold onlyStored said Req.val
  generalize Cc.has (Cc.dirs l) onlyIf = r at HH ⊢
  clear h hb0 hE
  go_enter Tryd.func7, Tryd.ntmps7
  go_upto_region 1 with fail
  generalize w.alloc (.cells #[.string m, .string u, .slice av l.length cv, .string b] 29) = w0 at HI HB HE X0 ⊢
  have c2 : w0.cell? ⟨w.heap.size, 2, none⟩ = some (.slice av l.length cv) := Recs.box_cell X0.out 2
  go_wp2_with fail
  refine (HH.out _ HI.out HE.out).mono ?_
  rintro e w1 ⟨rfl, hb⟩
  have HB1 := Num.hide (HB.out.trans (hb.mono HB.out.size))
  clear hb HB HI
  go_wp2
  go_ret
  exact ⟨rfl, HB1.out⟩
end Pol
end Go.Proofs.YtjeokackmkfooaaDoor
