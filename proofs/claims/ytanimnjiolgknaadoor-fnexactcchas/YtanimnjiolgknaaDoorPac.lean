/-
  FldGetSpec: FieldGet of the specification: all values of a name, joined; the world stays.
  DirPut: A directive put behind a list of directives in a row of the call's own.
-/
import Derived.Test.YtanimnjiolgknaaDoorFldGets
import Derived.Test.YtanimnjiolgknaaDoorDirOwn
import Derived.Test.YtanimnjiolgknaaDoorFldPut
namespace Go.Proofs.YtanimnjiolgknaaDoor
open Go.RowKit
set_option linter.unusedVariables false
namespace Flds

set_option maxRecDepth 100000 in
set_option maxHeartbeats 1000000 in
theorem get_spec (v : Value) (l : List Fld) (name : ByteArray) (w : World) (h : Is w v l) (hl : bulk l ≤ 1099511627776) :
    Calls Tryd.prog 33 #[v, .string name] w fun e w' => e = .returned (.tuple #[.string (get l name).1, .bool (get l name).2]) ∧ w = w' := by
  obtain ⟨a, c, rfl, h2⟩ := is_form h
  have HA := Num.hide h2
  have hlen : l.length ≤ 1099511627776 := by unfold bulk at hl; omega
  clear h h2
  obtain ⟨r, hr⟩ : ∃ r, get l name = r := ⟨_, rfl⟩
  rw [hr]
  have HR := Num.hide hr
  clear hr
  go_enter Tryd.func33, Tryd.ntmps33
  go_wp2
  go_loop [6, 7, 8] (fun sv bv iv => ∃ i : Nat, i ≤ l.length ∧ iv = .int .i64 (i : Int) ∧ (∃ s b, sv = .string s ∧ bv = .bool b ∧ Hid (get (l.take i) name = (s, b)))) (fun _ _ iv => l.length - (intOf iv).toNat)
  case atStart => exact ⟨0, by omega, rfl, _, _, rfl, rfl, rfl⟩
  case round =>
    obtain ⟨i, hi, rfl, s, b, rfl, rfl, HG⟩ := hrel
    by_cases hlt : i < l.length
    · obtain ⟨bk, o, rfl, hc, hmx, hblt, hcell⟩ := Num.unhide HA (by omega)
      obtain ⟨c1, c2⟩ := hcell i hlt
      have HT := Num.hide (get_take l name i hlt)
      have hsz := get_size (l.take i) name
      rw [HG.out] at hsz
      have hb1 := bulk_le l i
      have hss : s.size ≤ 4398046511104 := by
        simp only at hsz
        rw [List.length_take] at hsz
        unfold bulk at hl
        omega
      have hys : (l[i]).2.size ≤ 4398046511104 := by
        have h3 := bulk_take l i hlt
        have h4 := bulk_le l (i + 1)
        unfold bulk at hl
        omega
      clear hcell hsz hb1
      generalize l[i] = f at c1 c2 HT hys
      obtain ⟨x, y⟩ := f
      simp only at c1 c2 hys
      by_cases he : x = name
      · subst he
        cases b with
        | true =>
          have HT2 : Hid (get (l.take (i + 1)) x = (s ++ ⟨#[44, 32]⟩ ++ y, true)) := by
            have := HT.out
            rw [HG.out] at this
            rw [this]; unfold getStep; rw [if_pos rfl, if_pos rfl]; rfl
          go_wp2
          go_round
          case rel => exact ⟨i + 1, by omega, by go_num, _, _, rfl, rfl, HT2⟩
          case measure => simp [intOf]; omega
        | false =>
          have HT2 : Hid (get (l.take (i + 1)) x = (s ++ y, true)) := by
            have := HT.out
            rw [HG.out] at this
            rw [this]; unfold getStep; rw [if_pos rfl, if_neg (by simp)]; rfl
          go_wp2
          go_round
          case rel => exact ⟨i + 1, by omega, by go_num, _, _, rfl, rfl, HT2⟩
          case measure => simp [intOf]; omega
      · have d := text_ne' he
        have d' : (x.toList != name.toList) = true := by rw [bne, d]; rfl
        have HT2 : Hid (get (l.take (i + 1)) name = (s, b)) := by
          have := HT.out
          rw [HG.out] at this
          rw [this]; unfold getStep; rw [if_neg he]; rfl
        clear he
        go_wp2
        go_round
        case rel => exact ⟨i + 1, by omega, by go_num, _, _, rfl, rfl, HT2⟩
        case measure => simp [intOf]; omega
    · obtain rfl : i = l.length := by omega
      have hg := HG.out
      rw [List.take_of_length_le (Nat.le_refl _), HR.out] at hg
      subst hg
      go_wp2
      go_ret2
      exact ⟨rfl, rfl⟩
theorem get_spec_b (v : Value) (l : List Fld) (name : ByteArray) (w : World) (h : Is w v l) (hl : bulk l ≤ 1099511627776) :
    Calls Tryd.prog 33 #[v, .string name] w fun e w' => e = .returned (.tuple #[.string (get l name).1, .bool (get l name).2]) ∧ Below w.heap.size w w' :=
  (get_spec v l name w h hl).mono fun e w' ⟨h1, h2⟩ => ⟨h1, by subst h2; exact Below.refl _ _⟩
end Flds
end Go.Proofs.YtanimnjiolgknaaDoor
namespace Go.Proofs.YtanimnjiolgknaaDoor
open Go.RowKit
set_option linter.unusedVariables false
namespace Dirs
open Flds (Fld cells cells_len Is is_form two_ok)

theorem cells_two (w : World) (x y : ByteArray) : ∀ j u, [Value.string x, Value.string y][j]? = some u → (w.alloc (.cells #[.string x, .string y] 32)).cell? ((⟨w.heap.size, 0, none⟩ : Addr).add j) = some u := by
  intro j u hj
  match j, hj with
  | 0, hj => simp at hj; subst hj; simp [Addr.add]
  | 1, hj => simp at hj; subst hj; simp [Addr.add]
theorem put_more {w wr w2 : World} {B : Nat} {v v' : Value} {l : List Fld} {x y : ByteArray} (hB : B ≤ wr.heap.size) (ho : Own B wr v l) (hb : Below B w wr)
    (ho2 : w2.ownsRow B 32 2 v' (l.length + 1) (l.flatMap cells ++ [.string x, .string y])) (hg : (wr.alloc (.cells #[.string x, .string y] 32)).grownBy w2 v.ownBlock) : Own B w2 v' (l ++ [(x, y)]) ∧ Below B w w2 :=
  ⟨Recs.own_snoc ho2, (hb.alloc hB _).grown hg (by simp; omega) (fun j hj => (Recs.own_lt ho j hj).1)⟩
theorem made_nil (w : World) : Own w.heap.size (w.alloc (.cells #[] 32)) (.slice (some ⟨w.heap.size, 0, none⟩) 0 0) [] := World.ownsRow_made w #[] 0 (Nat.le_refl _) (Nat.zero_le _) rfl
end Dirs
end Go.Proofs.YtanimnjiolgknaaDoor
