/-
  ChunkImpl: Chunk of the program: a text in pieces, put together in a builder; what was there stays.
-/
import Derived.Test.YtkenmilglfnmbaaGreatDoorQao
namespace Go.Proofs.YtkenmilglfnmbaaGreatDoor
open Go.RowKit Go.Shelf
attribute [local go_sem] Oper.semAt_some
set_option linter.unusedVariables false
namespace Body

set_option maxRecDepth 100000 in
theorem parts_call (s : ByteArray) (z : Int) (w : World) : Calls Tryz.prog 39 #[.string s, .int .i64 z] w fun e w' => e = .returned (.func (.func 83) #[] #[.pointer (some ⟨w.heap.size, 0, none⟩), .pointer (some ⟨w.heap.size + 1, 0, none⟩)]) ∧ w' = (w.alloc (.cells #[.string s] 9)).alloc (.cells #[.int .i64 z] 3) := by
  go_enter Tryz.func39, Tryz.ntmps39
  go_wp2
  go_ret
  exact ⟨by simp, rfl⟩
theorem cells_bytes (l : List UInt8) : Lib.strCells ⟨l.toArray⟩ = Lib.byteCells l := by
  unfold Lib.strCells Lib.byteCells
  simp
theorem len_cells (l : List UInt8) : (Lib.byteCells l).length = l.length := by unfold Lib.byteCells; simp
set_option maxRecDepth 100000 in
set_option maxHeartbeats 2000000 in
theorem chunk_impl (s : ByteArray) (z : Int) (w : World) (hs : s.size ≤ 1048576) (hz : z ≤ 9223372036854775807) (h : Tz w) :
    Calls Tryz.prog 9 #[.string s, .int .i64 z] w fun e w' => e = .returned (.string (chunk s z)) ∧ Below w.heap.size w w' := by
  by_cases h1 : z < 1
  · have e0 : chunk s z = ⟨#[]⟩ := if_pos h1
    rw [e0]
    clear e0 h
    go_enter Tryz.func9, Tryz.ntmps9
    go_wp2
    go_ret
    exact ⟨rfl, Below.refl _ _⟩
  · have d1 : decide (z < 1) = false := by rw [decide_eq_false_iff_not]; exact h1
    obtain ⟨r, hr⟩ : ∃ r, chunk s z = r := ⟨_, rfl⟩
    rw [hr]
    have hr2 : (⟨(chunkL z.toNat s.data.toList ++ [48, 13, 10, 13, 10]).toArray⟩ : ByteArray) = r := by rw [← hr]; unfold chunk; rw [if_neg h1]
    have HR := Num.hide hr2
    obtain ⟨Z, rfl⟩ : ∃ Z : Nat, z = (Z : Int) := ⟨z.toNat, by omega⟩
    have HZ := Num.hide h
    have hlt := tz_lt h
    clear hr hr2 h
    refine (callsIn_wide (n := 3)).1 ?_
    refine callsIn_of_wp_marks Tryz.func9 rfl trivial ?_ rfl
    simp only [Tryz.ntmps9, List.size_toArray, List.length_cons, List.length_nil, Nat.reduceAdd, Nat.reduceSub, Array.replicate_succ, Array.replicate_zero, List.push_toArray, List.append_toArray, List.nil_append, List.cons_append]
    gi_wp2_with (refine ⟨trivial, ?_⟩; gi_at_call 39; refine (callsIn_wide.2 (parts_call _ _ _)).mono ?_; rintro e w' ⟨rfl, rfl⟩)
    obtain ⟨W0, hW0⟩ : ∃ W0, ((w.alloc (.cells #[.pointer none, .slice none 0 0] 66)).alloc (.cells #[.string s] 9)).alloc (.cells #[.int .i64 (Z : Int)] 3) = W0 := ⟨_, rfl⟩
    rw [hW0]
    have hsz : W0.heap.size = w.heap.size + 3 := by rw [← hW0]; simp
    have bx1 : W0.heap[w.heap.size + 1]? = some (.cells #[.string s] 9 (0, 0)) := by
      rw [← hW0]
      have := (Boxed.new (w.alloc (.cells #[.pointer none, .slice none 0 0] 66)) 9 (.string s)).alloc (.cells #[.int .i64 (Z : Int)] 3)
      rw [World.size_alloc] at this
      exact this
    have bx2 : W0.heap[w.heap.size + 1 + 1]? = some (.cells #[.int .i64 (Z : Int)] 3 (0, 0)) := by
      rw [← hW0]
      have := Boxed.new ((w.alloc (.cells #[.pointer none, .slice none 0 0] 66)).alloc (.cells #[.string s] 9)) 3 (.int .i64 (Z : Int))
      rw [World.size_alloc, World.size_alloc] at this
      exact this
    have hI0 : Lib.IsBuilderF 66 5 w.heap.size w.heap.size (Lib.byteCells (shownL [])) W0 := by
      rw [← hW0]
      exact ((Lib.IsBuilderF.of (Lib.fresh_isBuilder 66 5 w)).alloc _).alloc _
    have hB0 : Below w.heap.size w W0 := by
      rw [← hW0]
      exact (((Below.refl _ w).alloc (Nat.le_refl _) _).alloc (by simp) _).alloc (by simp; omega) _
    clear hW0
    refine wpIn_rangeFunc_ownG rfl (by omega) (gf := 83) (lb := #[.pointer (some ⟨w.heap.size + 1, 0, none⟩), .pointer (some ⟨w.heap.size + 1 + 1, 0, none⟩)]) rfl trivial (enters_of Tryz.func83 (by kernel_rfl) rfl)
      (parts_stops 2 Z (w.heap.size + 1) (w.heap.size + 1 + 1) s W0 (by omega) hs (by omega) hz bx1 bx2) (fun h k => keepB_t h k) (keepB_b (by omega)) (Below.refl _ _) (fun _ => rfl)
      (fun pre W => Lib.IsBuilderF 66 5 w.heap.size w.heap.size (Lib.byteCells (shownL pre)) W ∧ Below w.heap.size w W ∧ Boxed W (w.heap.size + 1 + 1) 3 (.int .i64 (Z : Int)))
      (fun _ _ _ => False)
      (OwnFrom.and (isb_own _ _ _ _ _ _) (OwnFrom.and (ownFrom_below (Nat.le_refl _) (by omega)) (Own.from (boxed_own _ _ (fun _ => _)) _)))
      (fun _ _ _ _ _ hs _ _ => hs)
      ⟨hI0, hB0, bx2⟩
      (fun x => { tmps := #[.string s, .int .i64 (Z : Int), undef, undef, .string ⟨#[]⟩, .pointer (some ⟨w.heap.size, 0, none⟩), .string x.1, .int .i64 (Z : Int), .bool false, .string s, .int .i64 (Z : Int), .func (.func 83) #[] #[.pointer (some ⟨w.heap.size + 1, 0, none⟩), .pointer (some ⟨w.heap.size + 1 + 1, 0, none⟩)], .string x.1, undef, undef, undef, undef, undef, undef], defers := [] }) ?assign ?body ?done ?stop
    case assign =>
      intro l x W K hK
      gi_wp2
      exact hK
    case body =>
      rintro l pre x W ⟨hI, hB, hbx⟩ hlen
      have HX := Num.hide (show_piece x.1 W x.2 (tz_below HZ.out hB hlt))
      have hps := piece_size x.1
      have hx2 := x.2
      have hln : (Lib.byteCells (shownL pre)).length ≤ 1099532599296 := by
        rw [len_cells]
        have := shownL_len pre
        omega
      have hws := hB.size
      have HI := Num.hide hI
      have HB := Num.hide hB
      have HBx := Num.hide hbx
      clear hI hB hbx hI0 hB0 bx1 bx2
      have hk : Hid (Lib.byteCells (shownL pre) ++ Lib.strCells (piece x.1) = Lib.byteCells (shownL (pre ++ [x]))) := by
        show _ = _
        rw [shownL_snoc, Lib.byteCells_append, ← cells_bytes (pieceL x.1)]
        rfl
      gi_wp2_with (refine ⟨trivial, ?_⟩; gi_at_call 41; refine (CallsIn.inRound l (callsIn_wide.2 HX.out)).mono ?_; rintro e w1 ⟨rfl, hb1⟩)
      have hs1 := hb1.size
      have HW := Num.hide (Shelf.writeStringK w.heap.size w.heap.size _ (piece x.1) w1 (isb_rows HI.out (rows_below hb1)) (by omega) (by omega))
      have HB1 := Num.hide hb1
      clear hb1
      gi_wp2_with (refine ⟨trivial, ?_⟩; gi_at_call 40; refine (CallsIn.inRound l (callsIn_wide.2 HW.out)).mono ?_; rintro e w2 ⟨rfl, hI2, hb2, hk2⟩)
      have hbx1 : w1.heap[w.heap.size + 1 + 1]? = some (.cells #[.int .i64 (Z : Int)] 3 (0, 0)) := keepB_below HB1.out _ HBx.out
      have hkb := keepB_others hk2 (k := w.heap.size + 1 + 1) (by omega) hbx1 (by decide)
      exact ⟨(from_below HB1.out).trans (from_others hk2 hb2.size (by omega)), keepB_t (keepB_below HB1.out) hkb, by rw [← hk.out]; exact .inr hI2, HB.out.trans ((HB1.out.mono hws).trans hb2), hkb _ hbx1⟩
    case done =>
      rintro D xs W hD hS ⟨hI, hB, hbx⟩ hK
      have HX := Num.hide (show_piece ⟨#[]⟩ W (by decide) (tz_below HZ.out hB hlt))
      rw [show piece ⟨#[]⟩ = ⟨#[48, 13, 10, 13, 10]⟩ by decide] at HX
      have hln : (Lib.byteCells (shownL xs)).length ≤ 22020096 := by
        rw [len_cells, hS]
        have h2 := chunkL_len Z (by omega) s.data.toList
        have e2 : s.data.toList.length = s.size := by rw [Array.length_toList]; rfl
        omega
      have hws := hB.size
      have hk : Hid (Lib.byteCells (shownL xs) ++ Lib.strCells ⟨#[48, 13, 10, 13, 10]⟩ = Lib.byteCells (chunkL Z s.data.toList ++ [48, 13, 10, 13, 10])) := by
        show _ = _
        rw [hS, Lib.byteCells_append, ← cells_bytes [48, 13, 10, 13, 10]]
      have HI := Num.hide hI
      have HB := Num.hide hB
      have HK := Num.hide hK
      clear hI hB hbx hI0 hB0 bx1 bx2 hS hK
      gi_wp2_with (refine ⟨trivial, ?_⟩; gi_at_call 41; refine (callsIn_wide.2 HX.out).mono ?_; rintro e w1 ⟨rfl, hb1⟩)
      have hs1 := hb1.size
      have HW := Num.hide (Shelf.writeStringK w.heap.size w.heap.size _ ⟨#[48, 13, 10, 13, 10]⟩ w1 (isb_rows HI.out (rows_below hb1)) (by have : (⟨#[48, 13, 10, 13, 10]⟩ : ByteArray).size = 5 := rfl; omega) (by omega))
      have HB1 := Num.hide hb1
      have HK1 : Hid (w1.heap[D]? = some (.deferred (some []))) := keepB_below hb1 _ HK.out
      clear hb1
      gi_wp2_with (refine ⟨trivial, ?_⟩; gi_at_call 40; refine (callsIn_wide.2 HW.out).mono ?_; rintro e w2 ⟨rfl, hI2, hb2, hk2⟩)
      rw [hk.out] at hI2
      have hs2 := hb2.size
      have HT := Num.hide (Shelf.builderStringK w.heap.size w.heap.size _ w2 (.inr hI2) (by omega))
      have HB2 := Num.hide (HB.out.trans ((HB1.out.mono hws).trans hb2))
      have HK2 : Hid (w2.heap[D]? = some (.deferred (some []))) := hk2 D _ HK1.out (fun e => by cases e; omega) (fun c fz e => by cases e)
      clear hI2 hb2 hk2
      gi_wp2_with (refine ⟨trivial, ?_⟩; gi_at_call 42; refine (callsIn_wide.2 HT.out).mono ?_; rintro e w3 ⟨rfl, hI3, hb3, hk3⟩)
      have hK3 : w3.heap[D]? = some (.deferred (some [])) := hk3 D _ HK2.out (fun e => by cases e; omega) (fun c fz e => by cases e)
      refine ⟨by simp, .inl ⟨_, _, rfl, run_takeDeferred hK3, ?_⟩⟩
      exact ⟨_, results_tmp rfl _ _ _, by rw [← HR.out]; rfl, (HB2.out.trans hb3).trans (belowK_b (w := w) (Nat.le_refl _) w3 D _ _ (by omega) hK3 rfl rfl)⟩
    case stop =>
      rintro D c pre W _ _ h _
      exact h.elim
end Body
end Go.Proofs.YtkenmilglfnmbaaGreatDoor
