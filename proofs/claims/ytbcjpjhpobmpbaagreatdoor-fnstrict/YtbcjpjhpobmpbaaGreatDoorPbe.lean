/-
  AgeImpl: SatAdd, DateOf and the parts of FirstAge of the program.
  CcSecImpl: CcSeconds of the program.
  LifeImpl: The sources of a lifetime of the program: closures in a list, and what each tells.
  LifeSrcs: The list of the sources of a lifetime of the program.
  LifeRun: Lifetime of the program: the first source that says anything counts.
-/
import Derived.Test.YtbcjpjhpobmpbaaGreatDoorPac
import Derived.Test.YtbcjpjhpobmpbaaGreatDoorPbb
import Derived.Test.YtbcjpjhpobmpbaaGreatDoorPag
import Derived.Test.YtbcjpjhpobmpbaaGreatDoorPan
import Derived.Test.YtbcjpjhpobmpbaaGreatDoorPbd
import Derived.Test.YtbcjpjhpobmpbaaGreatDoorPao
import Derived.Test.YtbcjpjhpobmpbaaGreatDoorPah
import Derived.Deep.Cut
import Derived.Test.YtbcjpjhpobmpbaaGreatDoorRows
import Derived.WalkKit
import Derived.Test.YtbcjpjhpobmpbaaGreatDoorPap
import Derived.FnLit
import Derived.LoopN
namespace Go.Proofs.YtbcjpjhpobmpbaaGreatDoor
open Go.RowKit
set_option linter.unusedVariables false
namespace Age
open Flds (Fld ret_int)

/-- how much later the second is than the first; nothing where it is not, or the first is below nothing -/
def later (x y : Int) : Int := if x < 0 ∨ y < x then 0 else y - x
theorem later_bd (x y : Int) (hy : y ≤ 9223372036854775807) : 0 ≤ later x y ∧ later x y ≤ 9223372036854775807 := by unfold later; split <;> omega
theorem later_delay (x y : Int) : later x y = delay x y := by unfold later delay; split <;> split <;> omega
theorem later_here (x y : Int) : later x y = here x y := by unfold later here; split <;> split <;> omega
set_option maxRecDepth 100000 in
set_option maxHeartbeats 1000000 in
theorem later_impl (x y : Int) (w : World) (hy : y ≤ 9223372036854775807) : Calls Tryz.prog 74 #[.int .i64 x, .int .i64 y] w fun e w' => e = .returned (.int .i64 (later x y)) ∧ w = w' := by
  obtain ⟨r, hr⟩ : ∃ r, later x y = r := ⟨_, rfl⟩
  rw [hr]
  unfold later at hr
  by_cases h1 : x < 0
  · have d1 : decide (x < 0) = true := decide_eq_true h1
    obtain rfl : r = 0 := by rw [← hr, if_pos (.inl h1)]
    clear hr h1
    go_enter Tryz.func74, Tryz.ntmps74
    go_wp2
    go_ret
    exact ⟨rfl, rfl⟩
  · have d1 : decide (x < 0) = false := decide_eq_false h1
    by_cases h2 : y < x
    · have d2 : decide (y < x) = true := decide_eq_true h2
      obtain rfl : r = 0 := by rw [← hr, if_pos (.inr h2)]
      clear hr h1 h2
      go_enter Tryz.func74, Tryz.ntmps74
      go_wp2
      go_ret
      exact ⟨rfl, rfl⟩
    · have d2 : decide (y < x) = false := decide_eq_false h2
      obtain rfl : r = y - x := by rw [← hr, if_neg (by omega)]
      clear hr
      go_enter Tryz.func74, Tryz.ntmps74
      go_wp2
      all_goals go_ret
      all_goals exact ⟨ret_int (by omega), rfl⟩
theorem get_fits (l : List Fld) (name : ByteArray) (hl : Flds.bulk l ≤ 1048576) : (Flds.get l name).1.size ≤ 4194304 := by
  have h := Flds.get_size l name
  unfold Flds.bulk at hl
  omega
theorem get_none (l : List Fld) (name : ByteArray) : (Flds.get l name).2 = false → (Flds.get l name).1 = ⟨#[]⟩ := by
  refine Num.snoc_ind (P := fun l => (Flds.get l name).2 = false → (Flds.get l name).1 = ⟨#[]⟩) (fun _ => rfl) ?_ l
  intro l f ih
  have e : Flds.get (l ++ [f]) name = Flds.getStep name (Flds.get l name) f := by unfold Flds.get; rw [List.foldl_append]; rfl
  rw [e]
  unfold Flds.getStep
  split
  · intro h; simp at h
  · exact ih
theorem dateOf_read (l : List Fld) (name : ByteArray) : dateOf l name = (Date.readN (Flds.get l name).1, Date.readB (Flds.get l name).1) := by
  unfold dateOf
  split
  · rfl
  · next h =>
    have hr : Date.read ⟨#[]⟩ = none := by unfold Date.read; rw [if_neg (by decide)]
    rw [get_none l name (by simpa using h)]
    unfold Date.readN Date.readB
    rw [hr]; rfl
/-- the library's variables lie as they are laid -/
def Env (w : World) : Prop := Dec.Tab w ∧ Date.Lim w
theorem Env.below {w w' : World} (h : Env w) (hb : Below w.heap.size w w') : Env w' := ⟨h.1.below hb, h.2.below hb⟩
set_option maxRecDepth 100000 in
set_option maxHeartbeats 1000000 in
theorem dateOf_impl (v : Value) (l : List Fld) (name : ByteArray) (w : World) (h : Flds.Is w v l) (hl : Flds.bulk l ≤ 1048576) (hE : Env w) :
    Calls Tryz.prog 128 #[v, .string name] w fun e w' => e = .returned (.tuple #[.int .i64 (dateOf l name).1, .bool (dateOf l name).2]) ∧ Below w.heap.size w w' := by
  have HG := Num.hide (Flds.get_impl v l name w h (by omega))
  have HD := Num.hide (fun W hE => Date.read_impl (Flds.get l name).1 W (get_fits l name hl) (And.left hE) (And.right hE))
  rw [dateOf_read]
  generalize (Flds.get l name).1 = s at HG HD ⊢
  generalize Date.readN s = n at HD
  generalize Date.readB s = f at HD
  have HE := Num.hide hE
  clear h hE
  go_enter Tryz.func128, Tryz.ntmps128
  go_wp2_with fail
  refine HG.out.mono ?_
  rintro e w1 ⟨rfl, hb1⟩
  have HE1 := Num.hide (HE.out.below hb1)
  have HB := Num.hide hb1
  clear hb1
  go_wp2_with fail
  refine (HD.out _ HE1.out).mono ?_
  rintro e w2 ⟨rfl, hb2⟩
  have HB2 := Num.hide (HB.out.trans (hb2.mono HB.out.size))
  clear hb2
  go_wp2
  go_ret2
  exact ⟨rfl, HB2.out⟩
theorem apparent_later (l : List Fld) (came : Int) : apparent l came = if (dateOf l dateName).2 = true then clamp (later (dateOf l dateName).1 came) else 0 := by
  have h := dateOf_bd l dateName
  unfold apparent clamp later
  generalize dateOf l dateName = d at h ⊢
  obtain ⟨D, db⟩ := d
  simp only at h ⊢
  by_cases h1 : db = true
  · rw [if_pos h1]
    by_cases h2 : D < came
    · rw [if_pos ⟨h1, h2⟩, if_neg (by omega)]; omega
    · rw [if_neg (fun h => h2 h.2)]
      by_cases h3 : D < 0 ∨ came < D
      · rw [if_pos h3]; omega
      · rw [if_neg h3]; omega
  · rw [if_neg h1, if_neg (fun h => h1 h.1)]
set_option maxRecDepth 100000 in
set_option maxHeartbeats 1000000 in
theorem byDate_impl (v : Value) (l : List Fld) (came : Int) (w : World) (h : Flds.Is w v l) (hl : Flds.bulk l ≤ 1048576) (hcm : came ≤ 9223372036854775807) (hE : Env w) :
    Calls Tryz.prog 99 #[v, .int .i64 came] w fun e w' => e = .returned (.int .i64 (apparent l came)) ∧ Below w.heap.size w w' := by
  have HD := Num.hide (dateOf_impl v l dateName w h hl hE)
  rw [apparent_later]
  generalize dateOf l dateName = d at HD ⊢
  obtain ⟨D, db⟩ := d
  simp only at HD ⊢
  clear h hE
  cases db with
  | false =>
    rw [if_neg (by simp)]
    go_enter Tryz.func99, Tryz.ntmps99
    go_wp2_with fail
    refine HD.out.mono ?_
    rintro e w1 ⟨rfl, hb1⟩
    have HB := Num.hide hb1
    clear hb1
    go_wp2
    go_ret
    exact ⟨rfl, HB.out⟩
  | true =>
    rw [if_pos rfl]
    have HL := Num.hide (fun W => later_impl D came W hcm)
    have HS := Num.hide (fun W => satSec_impl (later D came) W)
    generalize later D came = L at HL HS ⊢
    generalize clamp L = C at HS ⊢
    go_enter Tryz.func99, Tryz.ntmps99
    go_wp2_with fail
    refine HD.out.mono ?_
    rintro e w1 ⟨rfl, hb1⟩
    have HB := Num.hide hb1
    clear hb1
    go_wp2_with fail
    refine (HL.out _).mono ?_
    rintro e w2 ⟨rfl, rfl⟩
    go_wp2_with fail
    refine (HS.out _).mono ?_
    rintro e w3 ⟨rfl, rfl⟩
    go_wp2
    go_ret
    exact ⟨rfl, HB.out⟩
set_option maxRecDepth 100000 in
set_option maxHeartbeats 1000000 in
theorem byField_impl (v : Value) (l : List Fld) (asked came : Int) (w : World) (h : Flds.Is w v l) (hl : Flds.bulk l ≤ 1048576) (hcm : came ≤ 9223372036854775807) :
    Calls Tryz.prog 100 #[v, .int .i64 asked, .int .i64 came] w fun e w' => e = .returned (.int .i64 (satAdd (told l) (delay asked came))) ∧ Below w.heap.size w w' := by
  have HG := Num.hide (Flds.get_impl v l ageName w h (by omega))
  have HS := Num.hide (fun W => Sign.seconds_impl (Flds.get l ageName).1 W (by have := get_fits l ageName hl; unfold maxLen; omega))
  unfold told
  generalize Flds.get l ageName = g at HG HS ⊢
  obtain ⟨s, bs⟩ := g
  simp only at HG HS ⊢
  generalize Sign.secs s = sc at HS ⊢
  obtain ⟨T, tb⟩ := sc
  simp only at HS ⊢
  rw [← later_delay]
  have HL := Num.hide (fun W => later_impl asked came W hcm)
  generalize later asked came = L at HL ⊢
  have HA := Num.hide (fun W => satAdd_impl T L W)
  generalize satAdd T L = r at HA ⊢
  clear h
  go_enter Tryz.func100, Tryz.ntmps100
  go_wp2_with fail
  refine HG.out.mono ?_
  rintro e w1 ⟨rfl, hb1⟩
  have HB := Num.hide hb1
  clear hb1
  go_wp2_with fail
  refine (HS.out _).mono ?_
  rintro e w2 ⟨rfl, rfl⟩
  go_wp2_with fail
  refine (HL.out _).mono ?_
  rintro e w3 ⟨rfl, rfl⟩
  go_wp2_with fail
  refine (HA.out _).mono ?_
  rintro e w4 ⟨rfl, rfl⟩
  go_wp2
  go_ret
  exact ⟨rfl, HB.out⟩
end Age
end Go.Proofs.YtbcjpjhpobmpbaaGreatDoor
namespace Go.Proofs.YtbcjpjhpobmpbaaGreatDoor
open Go.RowKit Go.WideMaps Go.Maps
set_option linter.unusedVariables false
namespace Cc
open Flds (Fld)
set_option maxRecDepth 100000 in
set_option maxHeartbeats 1000000 in
theorem sec_impl (v : Value) (l : List Fld) (name : ByteArray) (w : World) (h : Flds.Is w v l) (hl : Flds.bulk l ≤ 1048576) (hn : name.size ≤ 1048576) (hm : Lim w) (hS : Sign.Signs w) :
    Calls Tryz.prog 97 #[v, .string name] w fun e w' => e = .returned (.tuple #[.int .i64 (sec (dirs l) name).1, .bool (sec (dirs l) name).2]) ∧ Below w.heap.size w w' := by
  have HL := Num.hide (least_impl v l w h hl hm hS)
  obtain ⟨r, hr⟩ : ∃ r, sec (dirs l) name = r := ⟨_, rfl⟩
  rw [hr]
  unfold sec at hr
  generalize dirs l = d at HL hr
  have HK := Num.hide (key_of name (by unfold maxLen; omega))
  clear h hm hS
  cases hc : least d name with
  | none =>
    rw [hc] at hr
    subst hr
    have hcc := Num.hide hc
    clear hc
    go_enter Tryz.func97, Tryz.ntmps97
    go_wp2_with fail
    refine HL.out.mono ?_
    rintro e w1 ⟨rfl, ⟨D, hown, hT⟩, hb⟩
    have hbf : Go.Maps.has D (key name) = false := by (rw [(hT name).1, hcc.out]; rfl)
    have HC : Hid (∀ c, D.atKey (key name) (.lit (.int .i64 0)) = .lit (.int .i64 c) → c = 0) := (by intro c hc; rw [atKey_of_not_has hbf] at hc; injection hc with hc; injection hc with _ hc; exact hc.symm)
    have HO := Num.hide hown
    have HB := Num.hide hb
    clear hown hT hb
    go_wp2_with (at_lookup; refine wpList_lookup_own_ok_int _ rfl _ _ 107 rfl 9 3 .i64 law Tryz.underlying107 Tryz.underlying3 (zeroI _) w.heap.size _ D rfl HO.out _ _ rfl HK.out ?_; intro c0 hat hwc; obtain rfl := HC.out c0 hat; clear hat hwc)
    go_ret2
    exact ⟨rfl, HB.out⟩
  | some c =>
    rw [hc] at hr
    subst hr
    have hcc := Num.hide hc
    clear hc
    go_enter Tryz.func97, Tryz.ntmps97
    go_wp2_with fail
    refine HL.out.mono ?_
    rintro e w1 ⟨rfl, ⟨D, hown, hT⟩, hb⟩
    have hbt : Go.Maps.has D (key name) = true := by (rw [(hT name).1, hcc.out]; rfl)
    have HC : Hid (∀ c', D.atKey (key name) (.lit (.int .i64 0)) = .lit (.int .i64 c') → c' = c) := (by intro c' hc'; rw [(hT name).2 c hcc.out] at hc'; injection hc' with hc'; injection hc' with _ hc'; exact hc'.symm)
    have HO := Num.hide hown
    have HB := Num.hide hb
    clear hown hT hb
    go_wp2_with (at_lookup; refine wpList_lookup_own_ok_int _ rfl _ _ 107 rfl 9 3 .i64 law Tryz.underlying107 Tryz.underlying3 (zeroI _) w.heap.size _ D rfl HO.out _ _ rfl HK.out ?_; intro c0 hat hwc; obtain rfl := HC.out c0 hat; clear hat hwc)
    go_ret2
    exact ⟨rfl, HB.out⟩
end Cc
end Go.Proofs.YtbcjpjhpobmpbaaGreatDoor
namespace Go.Proofs.YtbcjpjhpobmpbaaGreatDoor
open Go.RowKit
set_option linter.unusedVariables false
set_option linter.unusedSimpArgs false
namespace Age
open Flds (Fld ret_int)

/-- the library's variables, and the program's table of signs, lie as they are laid -/
def EnvS (w : World) : Prop := Env w ∧ Sign.Signs w
theorem EnvS.below {w w' : World} (h : EnvS w) (hb : Below w.heap.size w w') : EnvS w' := ⟨h.1.below hb, Cc.signs_below h.2 hb (Cc.signs_lt h.2)⟩
/-- what expires says -/
def untilE (l : List Fld) : Int × Bool := (if (dateOf l expiresName).2 = true ∧ (dateOf l dateName).2 = true then later (dateOf l dateName).1 (dateOf l expiresName).1 else 0, (Flds.get l expiresName).2)
/-- what last-modified says -/
def partL (l : List Fld) : Int × Bool := (later (dateOf l lastName).1 (dateOf l dateName).1 / 10, (dateOf l lastName).2 && (dateOf l dateName).2)
theorem lifetime_src (l : List Fld) : lifetime l = if (Cc.sec (Cc.dirs l) sMaxAge).2 = true then (Cc.sec (Cc.dirs l) sMaxAge).1 else if (Cc.sec (Cc.dirs l) maxAge).2 = true then (Cc.sec (Cc.dirs l) maxAge).1 else if (untilE l).2 = true then (untilE l).1 else if (partL l).2 = true then (partL l).1 else 0 := by
  have h1 := dateOf_bd l expiresName
  have h2 := dateOf_bd l dateName
  have h3 := dateOf_bd l lastName
  have e1 : max 0 ((dateOf l expiresName).1 - (dateOf l dateName).1) = later (dateOf l dateName).1 (dateOf l expiresName).1 := by unfold later; split <;> omega
  have e2 : max 0 ((dateOf l dateName).1 - (dateOf l lastName).1) = later (dateOf l lastName).1 (dateOf l dateName).1 := by unfold later; split <;> omega
  unfold lifetime untilE partL
  rw [e1, e2]
  cases (Cc.sec (Cc.dirs l) sMaxAge).2 <;> cases (Cc.sec (Cc.dirs l) maxAge).2 <;> cases (Flds.get l expiresName).2 <;> cases (dateOf l lastName).2 <;> cases (dateOf l dateName).2 <;> simp
set_option maxRecDepth 100000 in
set_option maxHeartbeats 1000000 in
theorem until_impl (v : Value) (l : List Fld) (w : World) (h : Flds.Is w v l) (hl : Flds.bulk l ≤ 1048576) (hE : Env w) :
    Calls Tryz.prog 110 #[v] w fun e w' => e = .returned (.tuple #[.int .i64 (untilE l).1, .bool (untilE l).2]) ∧ Below w.heap.size w w' := by
  have HG := Num.hide (Flds.get_impl v l expiresName w h (by omega))
  have HX := Num.hide (fun W h hE => dateOf_impl v l expiresName W h hl hE)
  have HD := Num.hide (fun W h hE => dateOf_impl v l dateName W h hl hE)
  have HI := Num.hide h
  have HE := Num.hide hE
  have b1 := dateOf_bd l expiresName
  unfold untilE
  generalize dateOf l expiresName = X at HX b1 ⊢
  generalize dateOf l dateName = D at HD ⊢
  generalize Flds.get l expiresName = E at HG ⊢
  obtain ⟨X1, X2⟩ := X
  obtain ⟨D1, D2⟩ := D
  obtain ⟨E1, E2⟩ := E
  simp only at HG HX HD b1 ⊢
  clear h hE
  have HL := Num.hide (fun W => later_impl D1 X1 W (by omega))
  generalize later D1 X1 = L at HL ⊢
  obtain ⟨R, hR⟩ : ∃ R, (if X2 = true ∧ D2 = true then L else 0) = R := ⟨_, rfl⟩
  rw [hR]
  have HR := Num.hide hR
  clear hR
  go_enter Tryz.func110, Tryz.ntmps110
  go_wp2_with fail
  refine HG.out.mono ?_
  rintro e w1 ⟨rfl, hb⟩
  have HI1 := Num.hide (Recs.is_below HI.out hb)
  have HE1 := Num.hide (HE.out.below hb)
  have HB1 := Num.hide hb
  clear hb HI HE HG
  go_wp2_with fail
  refine (HX.out _ HI1.out HE1.out).mono ?_
  rintro e w2 ⟨rfl, hb⟩
  have HI2 := Num.hide (Recs.is_below HI1.out hb)
  have HE2 := Num.hide (HE1.out.below hb)
  have HB2 := Num.hide (HB1.out.trans (hb.mono HB1.out.size))
  clear hb HI1 HE1 HB1 HX
  go_wp2_with fail
  refine (HD.out _ HI2.out HE2.out).mono ?_
  rintro e w3 ⟨rfl, hb⟩
  have HB3 := Num.hide (HB2.out.trans (hb.mono HB2.out.size))
  clear hb HI2 HE2 HB2 HD
  cases X2 with
  | false =>
    obtain rfl : R = 0 := by rw [← HR.out, if_neg (by simp)]
    go_wp2
    go_ret2
    exact ⟨rfl, HB3.out⟩
  | true =>
    cases D2 with
    | false =>
      obtain rfl : R = 0 := by rw [← HR.out, if_neg (by simp)]
      go_wp2
      go_ret2
      exact ⟨rfl, HB3.out⟩
    | true =>
      obtain rfl : L = R := by rw [← HR.out, if_pos ⟨rfl, rfl⟩]
      clear HR
      go_wp2_with fail
      refine (HL.out _).mono ?_
      rintro e w4 ⟨rfl, rfl⟩
      go_wp2
      go_ret2
      exact ⟨rfl, HB3.out⟩
set_option maxRecDepth 100000 in
set_option maxHeartbeats 1000000 in
theorem part_impl (v : Value) (l : List Fld) (w : World) (h : Flds.Is w v l) (hl : Flds.bulk l ≤ 1048576) (hE : Env w) :
    Calls Tryz.prog 112 #[v] w fun e w' => e = .returned (.tuple #[.int .i64 (partL l).1, .bool (partL l).2]) ∧ Below w.heap.size w w' := by
  have HX := Num.hide (dateOf_impl v l lastName w h hl hE)
  have HD := Num.hide (fun W h hE => dateOf_impl v l dateName W h hl hE)
  have HI := Num.hide h
  have HE := Num.hide hE
  have b1 := dateOf_bd l dateName
  unfold partL
  generalize dateOf l lastName = X at HX ⊢
  generalize dateOf l dateName = D at HD b1 ⊢
  obtain ⟨X1, X2⟩ := X
  obtain ⟨D1, D2⟩ := D
  simp only at HX HD b1 ⊢
  clear h hE
  have HL := Num.hide (fun W => later_impl X1 D1 W (by omega))
  have b2 := later_bd X1 D1 (by omega)
  generalize later X1 D1 = L at HL b2 ⊢
  go_enter Tryz.func112, Tryz.ntmps112
  go_wp2_with fail
  refine HX.out.mono ?_
  rintro e w1 ⟨rfl, hb⟩
  have HI1 := Num.hide (Recs.is_below HI.out hb)
  have HE1 := Num.hide (HE.out.below hb)
  have HB1 := Num.hide hb
  clear hb HI HE HX
  go_wp2_with fail
  refine (HD.out _ HI1.out HE1.out).mono ?_
  rintro e w2 ⟨rfl, hb⟩
  have HB2 := Num.hide (HB1.out.trans (hb.mono HB1.out.size))
  clear hb HI1 HE1 HB1 HD
  go_wp2_with fail
  refine (HL.out _).mono ?_
  rintro e w4 ⟨rfl, rfl⟩
  cases X2 with
  | false =>
    go_wp2
    go_ret2
    exact ⟨rfl, HB2.out⟩
  | true =>
    go_wp2
    go_ret2
    exact ⟨rfl, HB2.out⟩
set_option maxRecDepth 100000 in
set_option maxHeartbeats 1000000 in
theorem src1_impl (p : Addr) (v : Value) (l : List Fld) (w : World) (hp : w.cell? p = some v) (h : Flds.Is w v l) (hl : Flds.bulk l ≤ 1048576) (hE : EnvS w) :
    Calls Tryz.prog 107 #[.pointer (some p)] w fun e w' => e = .returned (.tuple #[.int .i64 (Cc.sec (Cc.dirs l) sMaxAge).1, .bool (Cc.sec (Cc.dirs l) sMaxAge).2]) ∧ Below w.heap.size w w' := by
  have HS := Num.hide (Cc.sec_impl v l sMaxAge w h hl (by decide) hE.1.2 hE.2)
  generalize Cc.sec (Cc.dirs l) sMaxAge = S at HS ⊢
  obtain ⟨S1, S2⟩ := S
  clear h hE
  go_enter Tryz.func107, Tryz.ntmps107
  go_wp2_with fail
  refine HS.out.mono ?_
  rintro e w1 ⟨rfl, hb⟩
  have HB := Num.hide hb
  clear hb
  go_wp2
  go_ret2
  exact ⟨rfl, HB.out⟩
set_option maxRecDepth 100000 in
set_option maxHeartbeats 1000000 in
theorem src2_impl (p : Addr) (v : Value) (l : List Fld) (w : World) (hp : w.cell? p = some v) (h : Flds.Is w v l) (hl : Flds.bulk l ≤ 1048576) (hE : EnvS w) :
    Calls Tryz.prog 108 #[.pointer (some p)] w fun e w' => e = .returned (.tuple #[.int .i64 (Cc.sec (Cc.dirs l) maxAge).1, .bool (Cc.sec (Cc.dirs l) maxAge).2]) ∧ Below w.heap.size w w' := by
  have HS := Num.hide (Cc.sec_impl v l maxAge w h hl (by decide) hE.1.2 hE.2)
  generalize Cc.sec (Cc.dirs l) maxAge = S at HS ⊢
  obtain ⟨S1, S2⟩ := S
  clear h hE
  go_enter Tryz.func108, Tryz.ntmps108
  go_wp2_with fail
  refine HS.out.mono ?_
  rintro e w1 ⟨rfl, hb⟩
  have HB := Num.hide hb
  clear hb
  go_wp2
  go_ret2
  exact ⟨rfl, HB.out⟩
set_option maxRecDepth 100000 in
set_option maxHeartbeats 1000000 in
theorem src3_impl (p : Addr) (v : Value) (l : List Fld) (w : World) (hp : w.cell? p = some v) (h : Flds.Is w v l) (hl : Flds.bulk l ≤ 1048576) (hE : EnvS w) :
    Calls Tryz.prog 109 #[.pointer (some p)] w fun e w' => e = .returned (.tuple #[.int .i64 (untilE l).1, .bool (untilE l).2]) ∧ Below w.heap.size w w' := by
  have HS := Num.hide (until_impl v l w h hl hE.1)
  generalize untilE l = S at HS ⊢
  obtain ⟨S1, S2⟩ := S
  clear h hE
  go_enter Tryz.func109, Tryz.ntmps109
  go_wp2_with fail
  refine HS.out.mono ?_
  rintro e w1 ⟨rfl, hb⟩
  have HB := Num.hide hb
  clear hb
  go_wp2
  go_ret2
  exact ⟨rfl, HB.out⟩
set_option maxRecDepth 100000 in
set_option maxHeartbeats 1000000 in
theorem src4_impl (p : Addr) (v : Value) (l : List Fld) (w : World) (hp : w.cell? p = some v) (h : Flds.Is w v l) (hl : Flds.bulk l ≤ 1048576) (hE : EnvS w) :
    Calls Tryz.prog 111 #[.pointer (some p)] w fun e w' => e = .returned (.tuple #[.int .i64 (partL l).1, .bool (partL l).2]) ∧ Below w.heap.size w w' := by
  have HS := Num.hide (part_impl v l w h hl hE.1)
  generalize partL l = S at HS ⊢
  obtain ⟨S1, S2⟩ := S
  clear h hE
  go_enter Tryz.func111, Tryz.ntmps111
  go_wp2_with fail
  refine HS.out.mono ?_
  rintro e w1 ⟨rfl, hb⟩
  have HB := Num.hide hb
  clear hb
  go_wp2
  go_ret2
  exact ⟨rfl, HB.out⟩
end Age
end Go.Proofs.YtbcjpjhpobmpbaaGreatDoor
namespace Go.Proofs.YtbcjpjhpobmpbaaGreatDoor
open Go.RowKit
set_option linter.unusedVariables false
set_option linter.unusedSimpArgs false
namespace Age
open Flds (Fld ret_int)

/-- a source, over what lies at g -/
abbrev srcV (f g : Nat) : Value := .func (.func f) #[] #[.pointer (some ⟨g, 0, none⟩)]
set_option maxRecDepth 100000 in
set_option maxHeartbeats 1000000 in
theorem sources_impl (a : Option Addr) (n c : Nat) (w : World) :
    Calls Tryz.prog 86 #[.slice a n c] w fun e w' => e = .returned (.slice (some ⟨w.heap.size + 1, 0, none⟩) 4 4) ∧ (∃ T, w'.heap[w.heap.size]? = some (.cells #[.slice a n c] T (0, 0))) ∧ (∃ T, w'.heap[w.heap.size + 1]? = some (.cells #[srcV 107 w.heap.size, srcV 108 w.heap.size, srcV 109 w.heap.size, srcV 111 w.heap.size] T (0, 0))) ∧ Below w.heap.size w w' := by
  have hmf : ∀ (fn : Fn) (first cap : Array Value) (w : World), (Instr.makeFunc fn first cap).run Tryz.prog w = .ok (.func fn first cap) w := fun _ _ _ _ => rfl
  go_enter Tryz.func86, Tryz.ntmps86
  go_wp2
  go_ret
  have e1 : ∀ o : Obj, (w.alloc o).heap.size = w.heap.size + 1 := fun o => by rw [World.size_alloc]
  refine ⟨rfl, ⟨30, ?_⟩, ⟨105, ?_⟩, ((Below.refl _ _).alloc (Nat.le_refl _) _).alloc (by rw [e1]; omega) _⟩
  · rw [heap_alloc_old _ _ (by rw [e1]; omega), heap_alloc_new]
  · rw [← e1 (.cells #[.slice a n c] 30), heap_alloc_new]
/-- the sources lie in a row, and what they are over in a box -/
abbrev SrcAt (w : World) (g : Nat) (v : Value) (l : List Fld) (W : World) : Prop :=
  W.cell? ⟨g, 0, none⟩ = some v ∧ W.cell? ⟨g + 1, 0, none⟩ = some (srcV 107 g) ∧ W.cell? ⟨g + 1, 1, none⟩ = some (srcV 108 g) ∧ W.cell? ⟨g + 1, 2, none⟩ = some (srcV 109 g) ∧ W.cell? ⟨g + 1, 3, none⟩ = some (srcV 111 g) ∧ Flds.Is W v l ∧ EnvS W ∧ Below w.heap.size w W
theorem SrcAt.step {w : World} {g : Nat} {v : Value} {l : List Fld} {W W' : World} (h : SrcAt w g v l W) (hb : Below W.heap.size W W') : SrcAt w g v l W' := by
  obtain ⟨h0, h1, h2, h3, h4, h5, h6, h7⟩ := h
  have l0 : g < W.heap.size := Recs.lt_of_cell h0
  have l1 : g + 1 < W.heap.size := Recs.lt_of_cell h1
  exact ⟨(hb.cell (p := ⟨g, 0, none⟩) l0).trans h0, (hb.cell (p := ⟨g + 1, 0, none⟩) l1).trans h1, (hb.cell (p := ⟨g + 1, 1, none⟩) l1).trans h2, (hb.cell (p := ⟨g + 1, 2, none⟩) l1).trans h3, (hb.cell (p := ⟨g + 1, 3, none⟩) l1).trans h4, Recs.is_below h5 hb, h6.below hb, h7.trans (hb.mono h7.size)⟩
end Age
end Go.Proofs.YtbcjpjhpobmpbaaGreatDoor
namespace Go.Proofs.YtbcjpjhpobmpbaaGreatDoor
open Go.RowKit
set_option linter.unusedVariables false
set_option linter.unusedSimpArgs false
namespace Age
open Flds (Fld ret_int)

set_option maxRecDepth 100000 in
set_option maxHeartbeats 4000000 in
theorem lifetime_impl (st : Int) (v : Value) (l : List Fld) (b : ByteArray) (w : World) (h : Flds.Is w v l) (hl : Flds.bulk l ≤ 1048576) (hE : EnvS w) :
    Calls Tryz.prog 41 #[Resp.val st v b] w fun e w' => e = .returned (.int .i64 (lifetime l)) ∧ Below w.heap.size w w' := by
  have hb0 : Below w.heap.size w (w.alloc (.cells #[.int .i64 st, v, .string b] 35)) := (Below.refl _ _).alloc (Nat.le_refl _) _
  have HI0 := Num.hide (Recs.is_below h hb0)
  have HE0 := Num.hide (hE.below hb0)
  have HB0 := Num.hide hb0
  obtain ⟨av, cv, rfl, _⟩ := Flds.is_form h
  have X0 := Num.hide (heap_alloc_new w (.cells #[.int .i64 st, .slice av l.length cv, .string b] 35))
  have H1 := Num.hide (fun p W hp h hE => src1_impl p (.slice av l.length cv) l W hp h hl hE)
  have H2 := Num.hide (fun p W hp h hE => src2_impl p (.slice av l.length cv) l W hp h hl hE)
  have H3 := Num.hide (fun p W hp h hE => src3_impl p (.slice av l.length cv) l W hp h hl hE)
  have H4 := Num.hide (fun p W hp h hE => src4_impl p (.slice av l.length cv) l W hp h hl hE)
  obtain ⟨r, hr⟩ : ∃ r, lifetime l = r := ⟨_, rfl⟩
  rw [hr]
  rw [lifetime_src] at hr
  generalize Cc.sec (Cc.dirs l) sMaxAge = S at H1 hr
  generalize Cc.sec (Cc.dirs l) maxAge = M at H2 hr
  generalize untilE l = U at H3 hr
  generalize partL l = P at H4 hr
  obtain ⟨S1, S2⟩ := S
  obtain ⟨M1, M2⟩ := M
  obtain ⟨U1, U2⟩ := U
  obtain ⟨P1, P2⟩ := P
  simp only at H1 H2 H3 H4 hr
  have HR := Num.hide hr
  have hent1 : ∀ args W, (callFunc 107 args).run Tryz.prog W = .ok (.enter 107 args) W := enters_of Tryz.func107 (by kernel_rfl) rfl
  have hent2 : ∀ args W, (callFunc 108 args).run Tryz.prog W = .ok (.enter 108 args) W := enters_of Tryz.func108 (by kernel_rfl) rfl
  have hent3 : ∀ args W, (callFunc 109 args).run Tryz.prog W = .ok (.enter 109 args) W := enters_of Tryz.func109 (by kernel_rfl) rfl
  have hent4 : ∀ args W, (callFunc 111 args).run Tryz.prog W = .ok (.enter 111 args) W := enters_of Tryz.func111 (by kernel_rfl) rfl
  unfold Resp.val
  clear h hb0 hr hE
  go_enter Tryz.func41, Tryz.ntmps41
  go_upto_region 1 with fail
  generalize w.alloc (.cells #[.int .i64 st, .slice av l.length cv, .string b] 35) = w0 at HI0 HE0 HB0 X0 ⊢
  have c1 : w0.cell? ⟨w.heap.size, 1, none⟩ = some (.slice av l.length cv) := Recs.box_cell X0.out 1
  go_wp2_with fail
  refine (sources_impl av l.length cv w0).mono ?_
  rintro e w1 ⟨rfl, ⟨T, hx⟩, ⟨T2, hy⟩, hb⟩
  have HS1 : Hid (SrcAt w w0.heap.size (.slice av l.length cv) l w1) := ⟨Recs.box_cell hx 0, Recs.box_cell hy 0, Recs.box_cell hy 1, Recs.box_cell hy 2, Recs.box_cell hy 3, Recs.is_below HI0.out hb, HE0.out.below hb, HB0.out.trans (hb.mono HB0.out.size)⟩
  clear hx hy hb X0 HI0 HE0 HB0 c1
  generalize w0.heap.size = g at HS1 ⊢
  clear w0
  obtain ⟨k0, k1, k2, k3, k4, -, -, -⟩ := HS1.out
  go_wp2_with fail
  refine wp_loop_rounds 5 ?_
  rw [rounds_succ]
  go_wp2_with fail
  refine (H1.out _ _ k0 HS1.out.2.2.2.2.2.1 HS1.out.2.2.2.2.2.2.1).mono ?_
  rintro e w2 ⟨rfl, hb⟩
  have HS2 := Num.hide (SrcAt.step HS1.out hb)
  clear hb k0 k1 k2 k3 k4 HS1 H1 hent1
  cases S2 with
  | true =>
    obtain rfl : S1 = r := by have := HR.out; simpa using this
    have HB := Num.hide HS2.out.2.2.2.2.2.2.2
    clear HS2 HR
    go_wp2
    go_ret
    exact ⟨rfl, HB.out⟩
  | false =>
  obtain ⟨k0, k1, k2, k3, k4, -, -, -⟩ := HS2.out
  have hr := HR.out
  rw [if_neg (by simp)] at hr
  clear HR
  have HR := Num.hide hr
  clear hr
  go_wp2_with fail
  rw [rounds_succ]
  go_wp2_with fail
  refine (H2.out _ _ k0 HS2.out.2.2.2.2.2.1 HS2.out.2.2.2.2.2.2.1).mono ?_
  rintro e w3 ⟨rfl, hb⟩
  have HS3 := Num.hide (SrcAt.step HS2.out hb)
  clear hb k0 k1 k2 k3 k4 HS2 H2 hent2
  cases M2 with
  | true =>
    obtain rfl : M1 = r := by have := HR.out; simpa using this
    have HB := Num.hide HS3.out.2.2.2.2.2.2.2
    clear HS3 HR
    go_wp2
    go_ret
    exact ⟨rfl, HB.out⟩
  | false =>
  obtain ⟨k0, k1, k2, k3, k4, -, -, -⟩ := HS3.out
  have hr := HR.out
  rw [if_neg (by simp)] at hr
  clear HR
  have HR := Num.hide hr
  clear hr
  go_wp2_with fail
  rw [rounds_succ]
  go_wp2_with fail
  refine (H3.out _ _ k0 HS3.out.2.2.2.2.2.1 HS3.out.2.2.2.2.2.2.1).mono ?_
  rintro e w4 ⟨rfl, hb⟩
  have HS4 := Num.hide (SrcAt.step HS3.out hb)
  clear hb k0 k1 k2 k3 k4 HS3 H3 hent3
  cases U2 with
  | true =>
    obtain rfl : U1 = r := by have := HR.out; simpa using this
    have HB := Num.hide HS4.out.2.2.2.2.2.2.2
    clear HS4 HR
    go_wp2
    go_ret
    exact ⟨rfl, HB.out⟩
  | false =>
  obtain ⟨k0, k1, k2, k3, k4, -, -, -⟩ := HS4.out
  have hr := HR.out
  rw [if_neg (by simp)] at hr
  clear HR
  have HR := Num.hide hr
  clear hr
  go_wp2_with fail
  rw [rounds_succ]
  go_wp2_with fail
  refine (H4.out _ _ k0 HS4.out.2.2.2.2.2.1 HS4.out.2.2.2.2.2.2.1).mono ?_
  rintro e w5 ⟨rfl, hb⟩
  have HS5 := Num.hide (SrcAt.step HS4.out hb)
  clear hb k0 k1 k2 k3 k4 HS4 H4 hent4
  cases P2 with
  | true =>
    obtain rfl : P1 = r := by have := HR.out; simpa using this
    have HB := Num.hide HS5.out.2.2.2.2.2.2.2
    clear HS5 HR
    go_wp2
    go_ret
    exact ⟨rfl, HB.out⟩
  | false =>
  obtain ⟨k0, k1, k2, k3, k4, -, -, -⟩ := HS5.out
  have hr := HR.out
  rw [if_neg (by simp)] at hr
  clear HR
  have HR := Num.hide hr
  clear hr
  go_wp2_with fail
  rw [rounds_succ]
  obtain rfl := HR.out
  have HB := Num.hide HS5.out.2.2.2.2.2.2.2
  clear HS5 HR k0 k1 k2 k3 k4
  go_wp2
  go_ret
  exact ⟨rfl, HB.out⟩
end Age
end Go.Proofs.YtbcjpjhpobmpbaaGreatDoor
