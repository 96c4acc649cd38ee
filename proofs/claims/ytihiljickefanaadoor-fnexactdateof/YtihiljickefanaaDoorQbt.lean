/-
  AgeImpl: SatAdd, DateOf and the parts of FirstAge of the program.
-/
import Derived.Test.YtihiljickefanaaDoorQao
import Derived.Test.YtihiljickefanaaDoorQay
import Derived.Test.YtihiljickefanaaDoorQaa
import Derived.Test.YtihiljickefanaaDoorQbe
import Derived.Test.YtihiljickefanaaDoorQbs
import Derived.Test.YtihiljickefanaaDoorQbq
import Derived.Test.YtihiljickefanaaDoorQav
import Derived.Test.YtihiljickefanaaDoorQaw
import Derived.Deep.Cut
import Derived.Test.YtihiljickefanaaDoorRows
import Derived.WalkKit
namespace Go.Proofs.YtihiljickefanaaDoor
open Go.RowKit
set_option linter.unusedVariables false
namespace Age
open Flds (Fld ret_int)

/-- how much later the second is than the first; nothing where it is not, or the first is below nothing -/
def later (x y : Int) : Int := if x < 0 ∨ y < x then 0 else y - x
theorem later_bd (x y : Int) (hy : y ≤ 9223372036854775807) : 0 ≤ later x y ∧ later x y ≤ 9223372036854775807 := by unfold later; split <;> omega
theorem later_delay (x y : Int) : later x y = delay x y := by unfold later delay; split <;> split <;> omega
theorem later_here (x y : Int) : later x y = here x y := by unfold later here; split <;> split <;> omega
set_option maxRecDepth 100000 in
set_option maxHeartbeats 1000000 in
theorem later_impl (x y : Int) (w : World) (hy : y ≤ 9223372036854775807) : Calls Tryd.prog 30 #[.int .i64 x, .int .i64 y] w fun e w' => e = .returned (.int .i64 (later x y)) ∧ w = w' := by
  obtain ⟨r, hr⟩ : ∃ r, later x y = r := ⟨_, rfl⟩
  rw [hr]
  unfold later at hr
  by_cases h1 : x < 0
  · have d1 : decide (x < 0) = true := decide_eq_true h1
    obtain rfl : r = 0 := by rw [← hr, if_pos (.inl h1)]
    clear hr h1
    go_enter Tryd.func30, Tryd.ntmps30
    go_wp2
    go_ret
    exact ⟨rfl, rfl⟩
  · have d1 : decide (x < 0) = false := decide_eq_false h1
    by_cases h2 : y < x
    · have d2 : decide (y < x) = true := decide_eq_true h2
      obtain rfl : r = 0 := by rw [← hr, if_pos (.inr h2)]
      clear hr h1 h2
      go_enter Tryd.func30, Tryd.ntmps30
      go_wp2
      go_ret
      exact ⟨rfl, rfl⟩
    · have d2 : decide (y < x) = false := decide_eq_false h2
      obtain rfl : r = y - x := by rw [← hr, if_neg (by omega)]
      clear hr
      go_enter Tryd.func30, Tryd.ntmps30
      go_wp2
      all_goals go_ret
      all_goals exact ⟨ret_int (by omega), rfl⟩
theorem get_fits (l : List Fld) (name : ByteArray) (hl : Flds.bulk l ≤ 1048576) : (Flds.get l name).1.size ≤ 4194304 := by
  have h := Flds.get_size l name
  unfold Flds.bulk at hl
  omega
theorem get_none (l : List Fld) (name : ByteArray) : (Flds.get l name).2 = false → (Flds.get l name).1 = ⟨#[]⟩ := by
  refine Num.snoc_ind (P := fun l => (Flds.get l name).2 = false → (Flds.get l name).1 = ⟨#[]⟩) (fun _ => rfl) ?_ l
  intro l f ih
  have e : Flds.get (l ++ [f]) name = Flds.getStep name (Flds.get l name) f := by unfold Flds.get; rw [List.foldl_append]; rfl
  rw [e]
  unfold Flds.getStep
  split
  · intro h; simp at h
  · exact ih
theorem dateOf_read (l : List Fld) (name : ByteArray) : dateOf l name = (Date.readN (Flds.get l name).1, Date.readB (Flds.get l name).1) := by
  unfold dateOf
  split
  · rfl
  · next h =>
    have hr : Date.read ⟨#[]⟩ = none := by unfold Date.read; rw [if_neg (by decide)]
    rw [get_none l name (by simpa using h)]
    unfold Date.readN Date.readB
    rw [hr]; rfl
/-- the library's variables lie as they are laid -/
def Env (w : World) : Prop := Dec.Tab w ∧ Date.Lim w
theorem Env.below {w w' : World} (h : Env w) (hb : Below w.heap.size w w') : Env w' := ⟨h.1.below hb, h.2.below hb⟩
set_option maxRecDepth 100000 in
set_option maxHeartbeats 1000000 in
theorem dateOf_impl (v : Value) (l : List Fld) (name : ByteArray) (w : World) (h : Flds.Is w v l) (hl : Flds.bulk l ≤ 1048576) (hE : Env w) :
    Calls Tryd.prog 9 #[v, .string name] w fun e w' => e = .returned (.tuple #[.int .i64 (dateOf l name).1, .bool (dateOf l name).2]) ∧ Below w.heap.size w w' := by
  have HG := Num.hide (Flds.get_impl v l name w h (by omega))
  have HD := Num.hide (fun W hE => Date.read_impl (Flds.get l name).1 W (get_fits l name hl) (And.left hE) (And.right hE))
  rw [dateOf_read]
  generalize (Flds.get l name).1 = s at HG HD ⊢
  generalize Date.readN s = n at HD
  generalize Date.readB s = f at HD
  have HE := Num.hide hE
  clear h hE
  go_enter Tryd.func9, Tryd.ntmps9
  go_wp2_with fail
  refine HG.out.mono ?_
  rintro e w1 ⟨rfl, hb1⟩
  have HE1 := Num.hide (HE.out.below hb1)
  have HB := Num.hide hb1
  clear hb1
  go_wp2_with fail
  refine (HD.out _ HE1.out).mono ?_
  rintro e w2 ⟨rfl, hb2⟩
  have HB2 := Num.hide (HB.out.trans (hb2.mono HB.out.size))
  clear hb2
  go_wp2
  go_ret2
  exact ⟨rfl, HB2.out⟩
theorem apparent_later (l : List Fld) (came : Int) : apparent l came = if (dateOf l dateName).2 = true then clamp (later (dateOf l dateName).1 came) else 0 := by
  have h := dateOf_bd l dateName
  unfold apparent clamp later
  generalize dateOf l dateName = d at h ⊢
  obtain ⟨D, db⟩ := d
  simp only at h ⊢
  by_cases h1 : db = true
  · rw [if_pos h1]
    by_cases h2 : D < came
    · rw [if_pos ⟨h1, h2⟩, if_neg (by omega)]; omega
    · rw [if_neg (fun h => h2 h.2)]
      by_cases h3 : D < 0 ∨ came < D
      · rw [if_pos h3]; omega
      · rw [if_neg h3]; omega
  · rw [if_neg h1, if_neg (fun h => h1 h.1)]
set_option maxRecDepth 100000 in
set_option maxHeartbeats 1000000 in
theorem byDate_impl (v : Value) (l : List Fld) (came : Int) (w : World) (h : Flds.Is w v l) (hl : Flds.bulk l ≤ 1048576) (hcm : came ≤ 9223372036854775807) (hE : Env w) :
    Calls Tryd.prog 27 #[v, .int .i64 came] w fun e w' => e = .returned (.int .i64 (apparent l came)) ∧ Below w.heap.size w w' := by
  have HD := Num.hide (dateOf_impl v l dateName w h hl hE)
  rw [apparent_later]
  generalize dateOf l dateName = d at HD ⊢
  obtain ⟨D, db⟩ := d
  simp only at HD ⊢
  clear h hE
  cases db with
  | false =>
    rw [if_neg (by simp)]
    go_enter Tryd.func27, Tryd.ntmps27
    go_wp2_with fail
    refine HD.out.mono ?_
    rintro e w1 ⟨rfl, hb1⟩
    have HB := Num.hide hb1
    clear hb1
    go_wp2
    go_ret
    exact ⟨rfl, HB.out⟩
  | true =>
    rw [if_pos rfl]
    have HL := Num.hide (fun W => later_impl D came W hcm)
    have HS := Num.hide (fun W => satSec_impl (later D came) W)
    generalize later D came = L at HL HS ⊢
    generalize clamp L = C at HS ⊢
    go_enter Tryd.func27, Tryd.ntmps27
    go_wp2_with fail
    refine HD.out.mono ?_
    rintro e w1 ⟨rfl, hb1⟩
    have HB := Num.hide hb1
    clear hb1
    go_wp2_with fail
    refine (HL.out _).mono ?_
    rintro e w2 ⟨rfl, rfl⟩
    go_wp2_with fail
    refine (HS.out _).mono ?_
    rintro e w3 ⟨rfl, rfl⟩
    go_wp2
    go_ret
    exact ⟨rfl, HB.out⟩
set_option maxRecDepth 100000 in
set_option maxHeartbeats 1000000 in
theorem byField_impl (v : Value) (l : List Fld) (asked came : Int) (w : World) (h : Flds.Is w v l) (hl : Flds.bulk l ≤ 1048576) (hcm : came ≤ 9223372036854775807) :
    Calls Tryd.prog 28 #[v, .int .i64 asked, .int .i64 came] w fun e w' => e = .returned (.int .i64 (satAdd (told l) (delay asked came))) ∧ Below w.heap.size w w' := by
  have HG := Num.hide (Flds.get_impl v l ageName w h (by omega))
  have HS := Num.hide (fun W => Sign.seconds_impl (Flds.get l ageName).1 W (by have := get_fits l ageName hl; unfold maxLen; omega))
  unfold told
  generalize Flds.get l ageName = g at HG HS ⊢
  obtain ⟨s, bs⟩ := g
  simp only at HG HS ⊢
  generalize Sign.secs s = sc at HS ⊢
  obtain ⟨T, tb⟩ := sc
  simp only at HS ⊢
  rw [← later_delay]
  have HL := Num.hide (fun W => later_impl asked came W hcm)
  generalize later asked came = L at HL ⊢
  have HA := Num.hide (fun W => satAdd_impl T L W)
  generalize satAdd T L = r at HA ⊢
  clear h
  go_enter Tryd.func28, Tryd.ntmps28
  go_wp2_with fail
  refine HG.out.mono ?_
  rintro e w1 ⟨rfl, hb1⟩
  have HB := Num.hide hb1
  clear hb1
  go_wp2_with fail
  refine (HS.out _).mono ?_
  rintro e w2 ⟨rfl, rfl⟩
  go_wp2_with fail
  refine (HL.out _).mono ?_
  rintro e w3 ⟨rfl, rfl⟩
  go_wp2_with fail
  refine (HA.out _).mono ?_
  rintro e w4 ⟨rfl, rfl⟩
  go_wp2
  go_ret
  exact ⟨rfl, HB.out⟩
end Age
end Go.Proofs.YtihiljickefanaaDoor
