/-
  LowerSpec: Lower of the specification: what the call returns, for every text; what was there stays.
  DirOwn: A list of directives in a row of the call's own.
  FldPut: A field put behind a list of fields in a row of the call's own.
  DirPut: A directive put behind a list of directives in a row of the call's own.
-/
import Derived.Test.YtihiljickefanaaGreatDoorPah
import Derived.Test.YtihiljickefanaaGreatDoorFlds
import Derived.Test.YtihiljickefanaaGreatDoorFldOwn
namespace Go.Proofs.YtihiljickefanaaGreatDoor
open Go.RowKit
set_option linter.unusedVariables false
namespace Sign

theorem u8_add32 (c : Int) (h0 : 65 ≤ c) (h1 : c ≤ 90) : IntKind.u8.wrap (c + 32) = c + 32 := by
  rw [IntKind.wrap_u8]; omega

set_option maxRecDepth 100000 in
set_option maxHeartbeats 1000000 in
theorem lower_spec (s : ByteArray) (w : World) (hs : s.size ≤ maxLen) : Calls Tryz.prog 75 #[.string s] w fun e w' => e = .returned (.string (lower s)) ∧ Below w.heap.size w w' := by
  unfold maxLen at hs
  have hconv := Lib.run_convert_string_bytes (P := Tryz.prog) w 9 22 5 s (u := .string) Tryz.underlying9 Tryz.underlying22 Tryz.underlying5
  have hP := Num.hide (bytes_part w 5 s)
  have hB := Num.hide (bytes_below w 5 s)
  generalize Lib.bytesWorld w 5 s = W0 at hconv hP hB
  generalize grownCap w s.size 0 5 = cap at hconv
  go_enter Tryz.func75, Tryz.ntmps75
  go_wp2
  clear hconv
  go_loopw [4] (fun i W => ∃ k : Nat, k ≤ s.size ∧ i = .int .i64 k ∧ Hid (Part w.heap.size s k W) ∧ Hid (Below w.heap.size w W)) (fun i _ => s.size - (intOf i).toNat)
  case atStart => exact ⟨0, by omega, rfl, hP, hB⟩
  case round =>
    clear hP hB
    obtain ⟨k, hk, rfl, hP, hB⟩ := hrel
    by_cases hlt : k < s.size
    · have hcell := hP.out.todo k hlt (Nat.le_refl _)
      have hfree := hP.out.free k hlt
      by_cases h1 : 65 ≤ (s[k].toNat : Int)
      · have d1 : decide (65 ≤ (s[k].toNat : Int)) = true := decide_eq_true h1
        by_cases h2 : (s[k].toNat : Int) ≤ 90
        · have d2 : decide ((s[k].toNat : Int) ≤ 90) = true := decide_eq_true h2
          have hP2 := Num.hide (part_up hP.out hlt ⟨h1, h2⟩)
          have hw := u8_add32 _ h1 h2
          go_wp2
          go_roundw
          case rel => exact ⟨k + 1, by omega, by go_num, hP2, Num.hide (hB.out.setCell (Nat.le_refl _) _)⟩
          case measure => simp [intOf]; omega
        · have d2 : decide ((s[k].toNat : Int) ≤ 90) = false := decide_eq_false h2
          have hP2 := Num.hide (part_no hP.out hlt (fun h => h2 h.2))
          go_wp2
          go_roundw
          case rel => exact ⟨k + 1, by omega, by go_num, hP2, hB⟩
          case measure => simp [intOf]; omega
      · have d1 : decide (65 ≤ (s[k].toNat : Int)) = false := decide_eq_false h1
        have hP2 := Num.hide (part_no hP.out hlt (fun h => h1 h.1))
        go_wp2
        go_roundw
        case rel => exact ⟨k + 1, by omega, by go_num, hP2, hB⟩
        case measure => simp [intOf]; omega
    · obtain rfl : k = s.size := by omega
      have hback := part_back hP.out cap
      go_wp2
      go_ret
      exact ⟨rfl, hB.out⟩
end Sign
end Go.Proofs.YtihiljickefanaaGreatDoor
namespace Go.Proofs.YtihiljickefanaaGreatDoor
open Go.RowKit
set_option linter.unusedVariables false
namespace Dirs
open Flds (Fld cells cells_len Is is_form)

/-- a list of directives whose row the call itself made -/
def Own (B : Nat) (w : World) (v : Value) (l : List Fld) : Prop := Recs.Own 81 2 cells B w v l
theorem infoD : (Tryz.prog.info? 81).map (fun i => (i.zero, i.size, i.bytes)) = some (some (.agg #[.string ⟨#[]⟩, .string ⟨#[]⟩]), 2, 32) := by kernel_rfl
/-- a directive stored into a row of one's own -/
theorem own_put {B : Nat} {w : World} {v : Value} {l : List Fld} (h : Own B w v l) (i : Nat) (hi : i < l.length) : ∃ g c, v = .slice (some ⟨g, 0, none⟩) l.length c ∧ l.length ≤ c ∧ c ≤ maxLen ∧ B ≤ g ∧ g < w.heap.size ∧
    w.cell? ⟨g, i * 2, none⟩ = some (.string l[i].1) ∧ w.cell? ⟨g, i * 2 + 1, none⟩ = some (.string l[i].2) ∧ (∀ o, w.frozen? ⟨g, o, none⟩ = false) ∧
    (∀ x, Own B (w.setCell ⟨g, i * 2, none⟩ (.string x)) v (l.set i (x, l[i].2)) ∧ w.grownBy (w.setCell ⟨g, i * 2, none⟩ (.string x)) v.ownBlock) ∧
    (∀ y, Own B (w.setCell ⟨g, i * 2 + 1, none⟩ (.string y)) v (l.set i (l[i].1, y)) ∧ w.grownBy (w.setCell ⟨g, i * 2 + 1, none⟩ (.string y)) v.ownBlock) ∧
    ∀ x y, Own B ((w.setCell ⟨g, i * 2, none⟩ (.string x)).setCell ⟨g, i * 2 + 1, none⟩ (.string y)) v (l.set i (x, y)) ∧ w.grownBy ((w.setCell ⟨g, i * 2, none⟩ (.string x)).setCell ⟨g, i * 2 + 1, none⟩ (.string y)) v.ownBlock := by
  obtain ⟨g, c, hv, hc, hm, hB, hg, hcell, hfz, hset⟩ := Recs.own_row cells_len h (by omega)
  refine ⟨g, c, hv, hc, hm, hB, hg, hcell i hi 0 _ (by decide) rfl, hcell i hi 1 _ (by decide) rfl, hfz, fun x => hset i hi 0 (.string x) (x, l[i].2) (by decide) rfl, fun y => hset i hi 1 (.string y) (l[i].1, y) (by decide) rfl, fun x y => ?_⟩
  obtain ⟨h1, h2⟩ := hset i hi 0 (.string x) (x, l[i].2) (by decide) rfl
  obtain ⟨g', c', hv', _, _, _, _, _, _, hset'⟩ := Recs.own_row cells_len h1 (by rw [List.length_set]; omega)
  have hgg : g' = g := by rw [hv] at hv'; simp at hv'; exact hv'.1.symm
  subst hgg
  obtain ⟨h3, h4⟩ := hset' i (by rw [List.length_set]; exact hi) 1 (.string y) (x, y) (by decide) (by rw [List.getElem_set_self]; rfl)
  rw [List.set_set] at h3
  exact ⟨h3, Recs.grown_trans h2 h4⟩
end Dirs
end Go.Proofs.YtihiljickefanaaGreatDoor
namespace Go.Proofs.YtihiljickefanaaGreatDoor
open Go.RowKit
set_option linter.unusedVariables false
namespace Flds

theorem ne_text {x y : ByteArray} (h : ¬ x = y) : (x.toList == y.toList) = false := by
  rw [beq_eq_false_iff_ne, ByteArray.toList_eq, ByteArray.toList_eq]
  intro e; exact h (ByteArray.ext (Array.toList_inj.1 e))
theorem cells_two (w : World) (x y : ByteArray) : ∀ j u, [Value.string x, Value.string y][j]? = some u → (w.alloc (.cells #[.string x, .string y] 69)).cell? ((⟨w.heap.size, 0, none⟩ : Addr).add j) = some u := by
  intro j u hj
  match j, hj with
  | 0, hj => simp at hj; subst hj; simp [Addr.add]
  | 1, hj => simp at hj; subst hj; simp [Addr.add]
theorem two_ok (x y : ByteArray) : ∀ u ∈ [Value.string x, Value.string y], u.oneCell' = true := by
  intro u hu; simp at hu; rcases hu with rfl | rfl <;> rfl
theorem put_more {w wr w2 : World} {B : Nat} {v v' : Value} {l : List Fld} {x y : ByteArray} (hB : B ≤ wr.heap.size) (ho : Own B wr v l) (hb : Below B w wr)
    (ho2 : w2.ownsRow B 69 2 v' (l.length + 1) (l.flatMap cells ++ [.string x, .string y])) (hg : (wr.alloc (.cells #[.string x, .string y] 69)).grownBy w2 v.ownBlock) : Own B w2 v' (l ++ [(x, y)]) ∧ Below B w w2 :=
  ⟨Recs.own_snoc ho2, (hb.alloc hB _).grown hg (by simp; omega) (fun j hj => (Recs.own_lt ho j hj).1)⟩
theorem made_nil (w : World) : Own w.heap.size (w.alloc (.cells #[] 69)) (.slice (some ⟨w.heap.size, 0, none⟩) 0 0) [] := World.ownsRow_made w #[] 0 (Nat.le_refl _) (Nat.zero_le _) rfl
theorem two_cells {w : World} {g : Nat} {x y : Value} {T : TypeId} (h : w.heap[g]? = some (.cells #[x, y] T (0, 0))) : w.cell? ⟨g, 0, none⟩ = some x ∧ w.cell? ⟨g, 1, none⟩ = some y ∧ w.frozen? ⟨g, 0, none⟩ = false ∧ w.frozen? ⟨g, 1, none⟩ = false :=
  ⟨by rw [cell_of_row w g _ _ _ _ h]; rfl, by rw [cell_of_row w g _ _ _ _ h]; rfl, frozen_of_row w g 0 _ _ h, frozen_of_row w g 1 _ _ h⟩
theorem box_first {W : World} {g : Nat} {x y : ByteArray} {u : Value} (h : W.cell? ⟨g, 0, none⟩ = some u) : ((W.setCell ⟨g, 0, none⟩ (.string x)).setCell ⟨g, 1, none⟩ (.string y)).cell? ⟨g, 0, none⟩ = some (.string x) := by
  rw [World.cell?_setCell_other (h := by intro e; have e2 : 1 = 0 := congrArg Addr.off e; omega), World.cell?_setCell_same (h := h)]
theorem box_second {W : World} {g : Nat} {x y : ByteArray} {u : Value} (h : W.cell? ⟨g, 1, none⟩ = some u) : ((W.setCell ⟨g, 0, none⟩ (.string x)).setCell ⟨g, 1, none⟩ (.string y)).cell? ⟨g, 1, none⟩ = some (.string y) := by
  exact World.cell?_setCell_same _ _ _ (by rw [World.cell?_setCell_other (h := by intro e; have e2 : 0 = 1 := congrArg Addr.off e; omega)]; exact h)

end Flds
end Go.Proofs.YtihiljickefanaaGreatDoor
namespace Go.Proofs.YtihiljickefanaaGreatDoor
open Go.RowKit
set_option linter.unusedVariables false
namespace Dirs
open Flds (Fld cells cells_len Is is_form two_ok)

theorem cells_two (w : World) (x y : ByteArray) : ∀ j u, [Value.string x, Value.string y][j]? = some u → (w.alloc (.cells #[.string x, .string y] 81)).cell? ((⟨w.heap.size, 0, none⟩ : Addr).add j) = some u := by
  intro j u hj
  match j, hj with
  | 0, hj => simp at hj; subst hj; simp [Addr.add]
  | 1, hj => simp at hj; subst hj; simp [Addr.add]
theorem put_more {w wr w2 : World} {B : Nat} {v v' : Value} {l : List Fld} {x y : ByteArray} (hB : B ≤ wr.heap.size) (ho : Own B wr v l) (hb : Below B w wr)
    (ho2 : w2.ownsRow B 81 2 v' (l.length + 1) (l.flatMap cells ++ [.string x, .string y])) (hg : (wr.alloc (.cells #[.string x, .string y] 81)).grownBy w2 v.ownBlock) : Own B w2 v' (l ++ [(x, y)]) ∧ Below B w w2 :=
  ⟨Recs.own_snoc ho2, (hb.alloc hB _).grown hg (by simp; omega) (fun j hj => (Recs.own_lt ho j hj).1)⟩
theorem made_nil (w : World) : Own w.heap.size (w.alloc (.cells #[] 81)) (.slice (some ⟨w.heap.size, 0, none⟩) 0 0) [] := World.ownsRow_made w #[] 0 (Nat.le_refl _) (Nat.zero_le _) rfl
end Dirs
end Go.Proofs.YtihiljickefanaaGreatDoor
