/-
  AgeImpl: SatAdd, DateOf and the parts of FirstAge of the program.
  LineDef: The line at a place, and the first colon, plain.
  LineNum: Lines and colons, plain: where Cut finds a line's end, a colon; the line of a text that is put together.
-/
import Derived.Test.YtihiljickefanaaGreatDoorPad
import Derived.Test.YtihiljickefanaaGreatDoorPao
import Derived.Test.YtihiljickefanaaGreatDoorPae
import Derived.Test.YtihiljickefanaaGreatDoorPaq
import Derived.Test.YtihiljickefanaaGreatDoorPau
import Derived.Test.YtihiljickefanaaGreatDoorPat
import Derived.Test.YtihiljickefanaaGreatDoorPag
import Derived.Deep.Cut
import Derived.Test.YtihiljickefanaaGreatDoorRows
import Derived.WalkKit
import Derived.Lib.CutLaws
import Derived.Lib.Strings
namespace Go.Proofs.YtihiljickefanaaGreatDoor
open Go.RowKit
set_option linter.unusedVariables false
namespace Age
open Flds (Fld ret_int)

/-- how much later the second is than the first; nothing where it is not, or the first is below nothing -/
def later (x y : Int) : Int := if x < 0 ∨ y < x then 0 else y - x
theorem later_bd (x y : Int) (hy : y ≤ 9223372036854775807) : 0 ≤ later x y ∧ later x y ≤ 9223372036854775807 := by unfold later; split <;> omega
theorem later_delay (x y : Int) : later x y = delay x y := by unfold later delay; split <;> split <;> omega
theorem later_here (x y : Int) : later x y = here x y := by unfold later here; split <;> split <;> omega
set_option maxRecDepth 100000 in
set_option maxHeartbeats 1000000 in
theorem later_impl (x y : Int) (w : World) (hy : y ≤ 9223372036854775807) : Calls Tryz.prog 24 #[.int .i64 x, .int .i64 y] w fun e w' => e = .returned (.int .i64 (later x y)) ∧ w = w' := by
  obtain ⟨r, hr⟩ : ∃ r, later x y = r := ⟨_, rfl⟩
  rw [hr]
  unfold later at hr
  by_cases h1 : x < 0
  · have d1 : decide (x < 0) = true := decide_eq_true h1
    obtain rfl : r = 0 := by rw [← hr, if_pos (.inl h1)]
    clear hr h1
    go_enter Tryz.func24, Tryz.ntmps24
    go_wp2
    go_ret
    exact ⟨rfl, rfl⟩
  · have d1 : decide (x < 0) = false := decide_eq_false h1
    by_cases h2 : y < x
    · have d2 : decide (y < x) = true := decide_eq_true h2
      obtain rfl : r = 0 := by rw [← hr, if_pos (.inr h2)]
      clear hr h1 h2
      go_enter Tryz.func24, Tryz.ntmps24
      go_wp2
      go_ret
      exact ⟨rfl, rfl⟩
    · have d2 : decide (y < x) = false := decide_eq_false h2
      obtain rfl : r = y - x := by rw [← hr, if_neg (by omega)]
      clear hr
      go_enter Tryz.func24, Tryz.ntmps24
      go_wp2
      all_goals go_ret
      all_goals exact ⟨ret_int (by omega), rfl⟩
theorem get_fits (l : List Fld) (name : ByteArray) (hl : Flds.bulk l ≤ 1048576) : (Flds.get l name).1.size ≤ 4194304 := by
  have h := Flds.get_size l name
  unfold Flds.bulk at hl
  omega
theorem get_none (l : List Fld) (name : ByteArray) : (Flds.get l name).2 = false → (Flds.get l name).1 = ⟨#[]⟩ := by
  refine Num.snoc_ind (P := fun l => (Flds.get l name).2 = false → (Flds.get l name).1 = ⟨#[]⟩) (fun _ => rfl) ?_ l
  intro l f ih
  have e : Flds.get (l ++ [f]) name = Flds.getStep name (Flds.get l name) f := by unfold Flds.get; rw [List.foldl_append]; rfl
  rw [e]
  unfold Flds.getStep
  split
  · intro h; simp at h
  · exact ih
theorem dateOf_read (l : List Fld) (name : ByteArray) : dateOf l name = (Date.readN (Flds.get l name).1, Date.readB (Flds.get l name).1) := by
  unfold dateOf
  split
  · rfl
  · next h =>
    have hr : Date.read ⟨#[]⟩ = none := by unfold Date.read; rw [if_neg (by decide)]
    rw [get_none l name (by simpa using h)]
    unfold Date.readN Date.readB
    rw [hr]; rfl
/-- the library's variables lie as they are laid -/
def Env (w : World) : Prop := Dec.Tab w ∧ Date.Lim w
theorem Env.below {w w' : World} (h : Env w) (hb : Below w.heap.size w w') : Env w' := ⟨h.1.below hb, h.2.below hb⟩
set_option maxRecDepth 100000 in
set_option maxHeartbeats 1000000 in
theorem dateOf_impl (v : Value) (l : List Fld) (name : ByteArray) (w : World) (h : Flds.Is w v l) (hl : Flds.bulk l ≤ 1048576) (hE : Env w) :
    Calls Tryz.prog 42 #[v, .string name] w fun e w' => e = .returned (.tuple #[.int .i64 (dateOf l name).1, .bool (dateOf l name).2]) ∧ Below w.heap.size w w' := by
  have HG := Num.hide (Flds.get_impl v l name w h (by omega))
  have HD := Num.hide (fun W hE => Date.read_impl (Flds.get l name).1 W (get_fits l name hl) (And.left hE) (And.right hE))
  rw [dateOf_read]
  generalize (Flds.get l name).1 = s at HG HD ⊢
  generalize Date.readN s = n at HD
  generalize Date.readB s = f at HD
  have HE := Num.hide hE
  clear h hE
  go_enter Tryz.func42, Tryz.ntmps42
  go_wp2_with fail
  refine HG.out.mono ?_
  rintro e w1 ⟨rfl, hb1⟩
  have HE1 := Num.hide (HE.out.below hb1)
  have HB := Num.hide hb1
  clear hb1
  go_wp2_with fail
  refine (HD.out _ HE1.out).mono ?_
  rintro e w2 ⟨rfl, hb2⟩
  have HB2 := Num.hide (HB.out.trans (hb2.mono HB.out.size))
  clear hb2
  go_wp2
  go_ret2
  exact ⟨rfl, HB2.out⟩
theorem apparent_later (l : List Fld) (came : Int) : apparent l came = if (dateOf l dateName).2 = true then clamp (later (dateOf l dateName).1 came) else 0 := by
  have h := dateOf_bd l dateName
  unfold apparent clamp later
  generalize dateOf l dateName = d at h ⊢
  obtain ⟨D, db⟩ := d
  simp only at h ⊢
  by_cases h1 : db = true
  · rw [if_pos h1]
    by_cases h2 : D < came
    · rw [if_pos ⟨h1, h2⟩, if_neg (by omega)]; omega
    · rw [if_neg (fun h => h2 h.2)]
      by_cases h3 : D < 0 ∨ came < D
      · rw [if_pos h3]; omega
      · rw [if_neg h3]; omega
  · rw [if_neg h1, if_neg (fun h => h1 h.1)]
set_option maxRecDepth 100000 in
set_option maxHeartbeats 1000000 in
theorem byDate_impl (v : Value) (l : List Fld) (came : Int) (w : World) (h : Flds.Is w v l) (hl : Flds.bulk l ≤ 1048576) (hcm : came ≤ 9223372036854775807) (hE : Env w) :
    Calls Tryz.prog 25 #[v, .int .i64 came] w fun e w' => e = .returned (.int .i64 (apparent l came)) ∧ Below w.heap.size w w' := by
  have HD := Num.hide (dateOf_impl v l dateName w h hl hE)
  rw [apparent_later]
  generalize dateOf l dateName = d at HD ⊢
  obtain ⟨D, db⟩ := d
  simp only at HD ⊢
  clear h hE
  cases db with
  | false =>
    rw [if_neg (by simp)]
    go_enter Tryz.func25, Tryz.ntmps25
    go_wp2_with fail
    refine HD.out.mono ?_
    rintro e w1 ⟨rfl, hb1⟩
    have HB := Num.hide hb1
    clear hb1
    go_wp2
    go_ret
    exact ⟨rfl, HB.out⟩
  | true =>
    rw [if_pos rfl]
    have HL := Num.hide (fun W => later_impl D came W hcm)
    have HS := Num.hide (fun W => satSec_impl (later D came) W)
    generalize later D came = L at HL HS ⊢
    generalize clamp L = C at HS ⊢
    go_enter Tryz.func25, Tryz.ntmps25
    go_wp2_with fail
    refine HD.out.mono ?_
    rintro e w1 ⟨rfl, hb1⟩
    have HB := Num.hide hb1
    clear hb1
    go_wp2_with fail
    refine (HL.out _).mono ?_
    rintro e w2 ⟨rfl, rfl⟩
    go_wp2_with fail
    refine (HS.out _).mono ?_
    rintro e w3 ⟨rfl, rfl⟩
    go_wp2
    go_ret
    exact ⟨rfl, HB.out⟩
set_option maxRecDepth 100000 in
set_option maxHeartbeats 1000000 in
theorem byField_impl (v : Value) (l : List Fld) (asked came : Int) (w : World) (h : Flds.Is w v l) (hl : Flds.bulk l ≤ 1048576) (hcm : came ≤ 9223372036854775807) :
    Calls Tryz.prog 26 #[v, .int .i64 asked, .int .i64 came] w fun e w' => e = .returned (.int .i64 (satAdd (told l) (delay asked came))) ∧ Below w.heap.size w w' := by
  have HG := Num.hide (Flds.get_impl v l ageName w h (by omega))
  have HS := Num.hide (fun W => Sign.seconds_impl (Flds.get l ageName).1 W (by have := get_fits l ageName hl; unfold maxLen; omega))
  unfold told
  generalize Flds.get l ageName = g at HG HS ⊢
  obtain ⟨s, bs⟩ := g
  simp only at HG HS ⊢
  generalize Sign.secs s = sc at HS ⊢
  obtain ⟨T, tb⟩ := sc
  simp only at HS ⊢
  rw [← later_delay]
  have HL := Num.hide (fun W => later_impl asked came W hcm)
  generalize later asked came = L at HL ⊢
  have HA := Num.hide (fun W => satAdd_impl T L W)
  generalize satAdd T L = r at HA ⊢
  clear h
  go_enter Tryz.func26, Tryz.ntmps26
  go_wp2_with fail
  refine HG.out.mono ?_
  rintro e w1 ⟨rfl, hb1⟩
  have HB := Num.hide hb1
  clear hb1
  go_wp2_with fail
  refine (HS.out _).mono ?_
  rintro e w2 ⟨rfl, rfl⟩
  go_wp2_with fail
  refine (HL.out _).mono ?_
  rintro e w3 ⟨rfl, rfl⟩
  go_wp2_with fail
  refine (HA.out _).mono ?_
  rintro e w4 ⟨rfl, rfl⟩
  go_wp2
  go_ret
  exact ⟨rfl, HB.out⟩
end Age
end Go.Proofs.YtihiljickefanaaGreatDoor
namespace Go.Proofs.YtihiljickefanaaGreatDoor
set_option linter.unusedVariables false
namespace Line

/-- the first end of a line from i on, within n places -/
def eolGo (s : ByteArray) : Nat → Nat → Option Nat
  | 0, _ => none
  | n + 1, i => if byteAt s i = 13 ∧ byteAt s (i + 1) = 10 then some i else eolGo s n (i + 1)
/-- where the line at 'a' ends -/
def eol (s : ByteArray) (a : Nat) : Option Nat := eolGo s (s.size - a) a
theorem eolGo_in (s : ByteArray) : ∀ (n i k : Nat), eolGo s n i = some k → i ≤ k ∧ k + 1 < s.size := by
  intro n
  induction n with
  | zero => intro i k h; cases h
  | succ n ih =>
    intro i k h
    unfold eolGo at h
    split at h
    · next hc =>
      cases h
      refine ⟨Nat.le_refl _, ?_⟩
      by_cases hz : i + 1 < s.size
      · exact hz
      · exfalso; have := hc.2; unfold byteAt at this; rw [dif_neg hz] at this; omega
    · have := ih (i + 1) k h; omega
theorem eol_in {s : ByteArray} {a k : Nat} (h : eol s a = some k) : a ≤ k ∧ k + 1 < s.size := eolGo_in s _ a k h
theorem eol_hit (s : ByteArray) (i : Nat) (h : i + 1 < s.size) (h1 : (s[i]'(by omega)).toNat = 13) (h2 : (s[i + 1]).toNat = 10) : eol s i = some i := by
  unfold eol
  obtain ⟨n, hn⟩ : ∃ n, s.size - i = n + 1 := ⟨s.size - i - 1, by omega⟩
  rw [hn, eolGo, if_pos ⟨by rw [byteAt_eq s i (by omega)]; exact h1, by rw [byteAt_eq s (i + 1) h]; exact h2⟩]
theorem eol_next (s : ByteArray) (i : Nat) (h : i + 1 < s.size) (hn : ¬ ((s[i]'(by omega)).toNat = 13 ∧ (s[i + 1]).toNat = 10)) : eol s i = eol s (i + 1) := by
  unfold eol
  obtain ⟨n, e⟩ : ∃ n, s.size - i = n + 1 := ⟨s.size - i - 1, by omega⟩
  rw [e, eolGo, if_neg (by rw [byteAt_eq s i (by omega), byteAt_eq s (i + 1) h]; exact hn), show s.size - (i + 1) = n by omega]
theorem eol_end (s : ByteArray) (i : Nat) (h : s.size ≤ i + 1) : eol s i = none := by
  cases e : eol s i with
  | none => rfl
  | some k => have := eol_in e; omega
/-- what the call tells -/
def lineOf (s : ByteArray) (a : Nat) : ByteArray × Int := match eol s a with | some k => (s.extract a k, (k : Int) + 2) | none => (⟨#[]⟩, -1)
/-- the first colon from i on, within n places -/
def colonGo (s : ByteArray) : Nat → Nat → Option Nat
  | 0, _ => none
  | n + 1, i => if byteAt s i = 58 then some i else colonGo s n (i + 1)
def colon (s : ByteArray) : Option Nat := colonGo s s.size 0
theorem colonGo_in (s : ByteArray) : ∀ (n i k : Nat), colonGo s n i = some k → i ≤ k ∧ k < s.size := by
  intro n
  induction n with
  | zero => intro i k h; cases h
  | succ n ih =>
    intro i k h
    unfold colonGo at h
    split at h
    · next hc =>
      cases h
      refine ⟨Nat.le_refl _, ?_⟩
      by_cases hz : i < s.size
      · exact hz
      · exfalso; unfold byteAt at hc; rw [dif_neg hz] at hc; omega
    · have := ih (i + 1) k h; omega
theorem colon_in {s : ByteArray} {k : Nat} (h : colon s = some k) : k < s.size := (colonGo_in s _ 0 k h).2
def colonOf (s : ByteArray) : Int := match colon s with | some k => (k : Int) | none => -1
end Line
end Go.Proofs.YtihiljickefanaaGreatDoor
namespace Go.Proofs.YtihiljickefanaaGreatDoor
open Go.RowKit
set_option linter.unusedVariables false
namespace Line

theorem byteAt_list (s : ByteArray) (i : Nat) (h : i < s.size) : ∃ b, s.data.toList.drop i = b :: s.data.toList.drop (i + 1) ∧ byteAt s i = b.toNat := by
  have h2 : i < s.data.toList.length := by simpa using h
  refine ⟨s.data.toList[i], List.drop_eq_getElem_cons h2, ?_⟩
  rw [byteAt_eq s i h]; rfl
theorem drop_end (s : ByteArray) (i : Nat) (h : s.size ≤ i) : s.data.toList.drop i = [] := List.drop_eq_nil_of_le (by simpa using h)
/-- what Index tells of an end of a line -/
def eolI (r : Option Nat) (i : Nat) : Int := match r with | some k => (k : Int) - (i : Int) | none => -1
theorem index_eolGo (s : ByteArray) : ∀ (n i : Nat), n = s.size - i → Lib.index (s.data.toList.drop i) [13, 10] = eolI (eolGo s n i) i := by
  intro n
  induction n with
  | zero => intro i h; rw [drop_end s i (by omega)]; rfl
  | succ n ih =>
    intro i h
    obtain ⟨b, e, hb⟩ := byteAt_list s i (by omega)
    have ih2 := ih (i + 1) (by omega)
    rw [e]
    unfold Lib.index eolGo
    rw [ih2]
    by_cases hc : byteAt s i = 13 ∧ byteAt s (i + 1) = 10
    · rw [if_pos hc, if_pos]
      · show (0 : Int) = (i : Int) - (i : Int); omega
      · have h13 : b = 13 := by rw [← UInt8.toNat_inj, ← hb]; exact hc.1
        have hlt : i + 1 < s.size := by
          by_cases hz : i + 1 < s.size
          · exact hz
          · exfalso; have := hc.2; unfold byteAt at this; rw [dif_neg hz] at this; omega
        obtain ⟨b2, e2, hb2⟩ := byteAt_list s (i + 1) hlt
        have h10 : b2 = 10 := by rw [← UInt8.toNat_inj, ← hb2]; exact hc.2
        rw [e2, h13, h10]; rfl
    · rw [if_neg hc, if_neg]
      · cases hg : eolGo s n (i + 1) with
        | none => rfl
        | some k =>
          have := eolGo_in s _ _ _ hg
          show (if ((k : Int) - ((i + 1 : Nat) : Int) == -1) = true then (-1 : Int) else (k : Int) - ((i + 1 : Nat) : Int) + 1) = (k : Int) - (i : Int)
          rw [if_neg (by rw [beq_iff_eq]; omega)]; omega
      · intro hp
        apply hc
        by_cases hlt : i + 1 < s.size
        · obtain ⟨b2, e2, hb2⟩ := byteAt_list s (i + 1) hlt
          rw [e2] at hp
          simp only [List.isPrefixOf, Bool.and_eq_true, beq_iff_eq, and_true] at hp
          exact ⟨by rw [hb, ← hp.1]; rfl, by rw [hb2, ← hp.2]; rfl⟩
        · rw [drop_end s (i + 1) (by omega)] at hp
          simp [List.isPrefixOf] at hp
theorem extract_list (s : ByteArray) (a : Nat) : (s.extract a s.size).data.toList = s.data.toList.drop a := by
  rw [Lib.extract_data]
  exact List.take_of_length_le (by rw [List.length_drop, ← Lib.size_eq]; exact Nat.le_refl _)
theorem index_eol (s : ByteArray) (a : Nat) : Lib.indexB (s.extract a s.size) ⟨#[13, 10]⟩ = eolI (eol s a) a := by
  show Lib.index (s.extract a s.size).data.toList [13, 10] = _
  rw [extract_list]
  exact index_eolGo s _ a rfl
def colonI (r : Option Nat) (i : Nat) : Int := match r with | some k => (k : Int) - (i : Int) | none => -1
theorem index_colonGo (s : ByteArray) : ∀ (n i : Nat), n = s.size - i → Lib.index (s.data.toList.drop i) [58] = colonI (colonGo s n i) i := by
  intro n
  induction n with
  | zero => intro i h; rw [drop_end s i (by omega)]; rfl
  | succ n ih =>
    intro i h
    obtain ⟨b, e, hb⟩ := byteAt_list s i (by omega)
    have ih2 := ih (i + 1) (by omega)
    rw [e]
    unfold Lib.index colonGo
    rw [ih2]
    by_cases hc : byteAt s i = 58
    · rw [if_pos hc, if_pos]
      · show (0 : Int) = (i : Int) - (i : Int); omega
      · have h58 : b = 58 := by rw [← UInt8.toNat_inj, ← hb]; exact hc
        rw [h58]; rfl
    · rw [if_neg hc, if_neg]
      · cases hg : colonGo s n (i + 1) with
        | none => rfl
        | some k =>
          have := colonGo_in s _ _ _ hg
          show (if ((k : Int) - ((i + 1 : Nat) : Int) == -1) = true then (-1 : Int) else (k : Int) - ((i + 1 : Nat) : Int) + 1) = (k : Int) - (i : Int)
          rw [if_neg (by rw [beq_iff_eq]; omega)]; omega
      · intro hp
        apply hc
        simp only [List.isPrefixOf, Bool.and_eq_true, beq_iff_eq, and_true] at hp
        rw [hb, ← hp]; rfl
theorem index_colon (s : ByteArray) : Lib.indexB s ⟨#[58]⟩ = colonI (colon s) 0 := by
  show Lib.index s.data.toList [58] = _
  have := index_colonGo s s.size 0 rfl
  rw [List.drop_zero] at this
  exact this
/-- what Cut tells at a line's end -/
theorem cut_none {s : ByteArray} {a : Nat} (h : eol s a = none) : (⟨(Lib.cut (s.extract a s.size).data.toList (⟨#[13, 10]⟩ : ByteArray).data.toList).1.toArray⟩ : ByteArray) = s.extract a s.size ∧ (⟨(Lib.cut (s.extract a s.size).data.toList (⟨#[13, 10]⟩ : ByteArray).data.toList).2.1.toArray⟩ : ByteArray) = ByteArray.empty ∧ (Lib.cut (s.extract a s.size).data.toList (⟨#[13, 10]⟩ : ByteArray).data.toList).2.2 = false :=
  Lib.cutB_miss _ _ (by rw [index_eol, h]; rfl)
theorem ext_ext (s : ByteArray) (a i : Nat) (h1 : a ≤ i) (h2 : i ≤ s.size) : (s.extract a s.size).extract 0 (i - a) = s.extract a i := by
  rw [ByteArray.extract_extract, Nat.add_zero]
  congr 1
  omega
theorem cut_some {s : ByteArray} {a i : Nat} (h : eol s a = some i) : (⟨(Lib.cut (s.extract a s.size).data.toList (⟨#[13, 10]⟩ : ByteArray).data.toList).1.toArray⟩ : ByteArray) = s.extract a i ∧ (Lib.cut (s.extract a s.size).data.toList (⟨#[13, 10]⟩ : ByteArray).data.toList).2.2 = true := by
  have hin := eol_in h
  obtain ⟨h1, _, h3⟩ := Lib.cutB_hit (s.extract a s.size) ⟨#[13, 10]⟩ (i - a) (by rw [index_eol, h]; show (i : Int) - (a : Int) = ((i - a : Nat) : Int); omega)
  exact ⟨h1.trans (ext_ext s a i hin.1 (by omega)), h3⟩
theorem cutc_none {s : ByteArray} (h : colon s = none) : (⟨(Lib.cut s.data.toList (⟨#[58]⟩ : ByteArray).data.toList).1.toArray⟩ : ByteArray) = s ∧ (⟨(Lib.cut s.data.toList (⟨#[58]⟩ : ByteArray).data.toList).2.1.toArray⟩ : ByteArray) = ByteArray.empty ∧ (Lib.cut s.data.toList (⟨#[58]⟩ : ByteArray).data.toList).2.2 = false :=
  Lib.cutB_miss _ _ (by rw [index_colon, h]; rfl)
theorem cutc_some {s : ByteArray} {k : Nat} (h : colon s = some k) : (⟨(Lib.cut s.data.toList (⟨#[58]⟩ : ByteArray).data.toList).1.toArray⟩ : ByteArray) = s.extract 0 k ∧ (⟨(Lib.cut s.data.toList (⟨#[58]⟩ : ByteArray).data.toList).2.1.toArray⟩ : ByteArray) = s.extract (k + 1) s.size ∧ (Lib.cut s.data.toList (⟨#[58]⟩ : ByteArray).data.toList).2.2 = true :=
  Lib.cutB_hit s ⟨#[58]⟩ k (by rw [index_colon, h]; show (k : Int) - ((0 : Nat) : Int) = (k : Int); omega)
theorem index_line (t q : List UInt8) (h : ∀ b ∈ t, ¬ b = 13) : Lib.index (t ++ 13 :: 10 :: q) [13, 10] = (t.length : Int) := by
  induction t with
  | nil => simp [Lib.index, List.isPrefixOf]
  | cons b t ih =>
    have hb : ¬ b = 13 := h b (List.mem_cons_self ..)
    have ih2 := ih (fun c hc => h c (List.mem_cons_of_mem _ hc))
    rw [List.cons_append, Lib.index, ih2]
    rw [if_neg, if_neg]
    · rw [List.length_cons]; omega
    · rw [beq_iff_eq]; omega
    · simp only [List.isPrefixOf, Bool.and_eq_true, beq_iff_eq]
      exact fun h => hb h.1.symm
theorem index_col (t q : List UInt8) (h : ∀ b ∈ t, ¬ b = 58) : Lib.index (t ++ 58 :: q) [58] = (t.length : Int) := by
  induction t with
  | nil => simp [Lib.index, List.isPrefixOf]
  | cons b t ih =>
    have hb : ¬ b = 58 := h b (List.mem_cons_self ..)
    have ih2 := ih (fun c hc => h c (List.mem_cons_of_mem _ hc))
    rw [List.cons_append, Lib.index, ih2]
    rw [if_neg, if_neg]
    · rw [List.length_cons]; omega
    · rw [beq_iff_eq]; omega
    · simp only [List.isPrefixOf, Bool.and_eq_true, beq_iff_eq]
      exact fun h => hb h.1.symm
theorem eol_line (T : ByteArray) (p t q : List UInt8) (hT : T.data.toList = p ++ (t ++ 13 :: 10 :: q)) (h : ∀ b ∈ t, ¬ b = 13) : eol T p.length = some (p.length + t.length) ∧ T.extract p.length (p.length + t.length) = ⟨t.toArray⟩ := by
  have hi := index_eolGo T _ p.length rfl
  rw [hT, List.drop_left, index_line t q h] at hi
  constructor
  · show eolGo T _ _ = _
    cases he : eolGo T (T.size - p.length) p.length with
    | none => rw [he] at hi; unfold eolI at hi; simp only at hi; omega
    | some k => rw [he] at hi; unfold eolI at hi; simp only at hi; congr 1; omega
  · apply ByteArray.ext
    apply Array.toList_inj.1
    rw [ByteArray.data_extract, Array.toList_extract, List.extract_eq_drop_take', hT]
    rw [List.take_append, List.drop_append]
    simp
theorem colon_line (x : ByteArray) (q : List UInt8) (h : ∀ b ∈ x.data.toList, ¬ b = 58) : colon ⟨(x.data.toList ++ 58 :: q).toArray⟩ = some x.size := by
  have hi := index_colonGo ⟨(x.data.toList ++ 58 :: q).toArray⟩ _ 0 rfl
  rw [List.drop_zero, List.toList_toArray, index_col _ q h] at hi
  show colonGo _ _ _ = _
  rw [Nat.sub_zero] at hi
  cases he : colonGo ⟨(x.data.toList ++ 58 :: q).toArray⟩ (ByteArray.size ⟨(x.data.toList ++ 58 :: q).toArray⟩) 0 with
  | none => rw [he] at hi; unfold colonI at hi; simp only at hi; omega
  | some k =>
    rw [he] at hi; unfold colonI at hi; simp only at hi
    have e : x.data.toList.length = x.size := by rw [Array.length_toList]; rfl
    congr 1; omega
end Line
end Go.Proofs.YtihiljickefanaaGreatDoor
