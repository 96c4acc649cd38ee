/-
  ArrEq: Three numbers held against three numbers, as an array.
  DaysImpl: DaysOf of the program: how many days after the first of January 1970 a day is; what was there stays.
  ShelfIndex: Library contracts at this program: strings_Index, strings_Index_shaped.
  DateReadImpl: digitsOf and ReadDate of the program: a date off its text; what was there stays.
-/
import Derived.Test.YtbcjpjhpobmpbaaGreatDoorPab
import Derived.Test.YtbcjpjhpobmpbaaGreatDoorRows
import Derived.WalkKit
import Derived.WalkLawsBesides
import Derived.ChangeKeysEq
import Derived.Test.YtbcjpjhpobmpbaaGreatDoorPbc
import Derived.Shelf.Strings.Builder1
import Derived.Shelf.Strings.Builder2
import Derived.Shelf.Strings.OnBuilder
import Derived.Shelf.Strings.Trim
import Derived.Shelf.Small.Utf8
import Derived.Shelf.Small.Strs
import Derived.Shelf.Strings.BuilderF
import Derived.Shelf.Strings.BuilderK
import Derived.Shelf.Strconv.Itoa0
import Derived.Shelf.Strconv.Itoa1
import Derived.Shelf.LaysM
import Derived.Shelf.Strconv.Itoa2
import Derived.Shelf.Strconv.Itoa3
import Derived.Shelf.Strconv.Clone
import Derived.Shelf.Strings.Search1
import Derived.Shelf.Strings.Search2
import Derived.Shelf.Strings.Search3
import Derived.Shelf.Strings.Cut
import Derived.Shelf.Strings.Shaped
import Derived.Shelf.Unicode.Decode
import Derived.Shelf.Strings.Runes
import Derived.Shelf.Strings.AsciiSet
import Derived.Shelf.Unicode.DecodeSlow
import Derived.Shelf.Unicode.DecodeAny
import Derived.Shelf.Unicode.DecodeLast
import Derived.Test.YtbcjpjhpobmpbaaGreatDoorPao
import Derived.Lib.IndexBytes
import Derived.Lib.IndexMore
import Derived.Laws.Strings2
namespace Go.Proofs.YtbcjpjhpobmpbaaGreatDoor
open Go.RowKit
set_option linter.unusedVariables false
namespace Date

set_option maxRecDepth 100000 in
theorem eq_arr (a b c a' b' c' : Int) (w : World) : (Op.equalIn 10000 158 (.agg #[.int .i64 a, .int .i64 b, .int .i64 c]) (.agg #[.int .i64 a', .int .i64 b', .int .i64 c'])).run Tryz.prog w = .ok (decide (a = a' ∧ b = b' ∧ c = c')) w := by
  obtain ⟨i, hi⟩ : ∃ i, Tryz.prog.info? 3 = some i := ⟨_, rfl⟩
  have hc : Tryz.prog.cellsOf 3 = 1 := by kernel_rfl
  rw [show (10000 : Nat) = 9999 + 1 from rfl, run_equalIn_array w 9999 _ _ Tryz.underlying158 hi, hc]
  have hr : List.range 3 = [0, 1, 2] := rfl
  rw [hr]
  by_cases e1 : a = a'
  · by_cases e2 : b = b'
    · by_cases e3 : c = c'
      · simp [Op.eqItems, go_sem, e1, e2, e3]
      · simp [Op.eqItems, go_sem, e1, e2, e3]
    · simp [Op.eqItems, go_sem, e1, e2]
  · simp [Op.eqItems, go_sem, e1]
end Date
end Go.Proofs.YtbcjpjhpobmpbaaGreatDoor
namespace Go.Proofs.YtbcjpjhpobmpbaaGreatDoor
open Go.RowKit
set_option linter.unusedVariables false
namespace Date

abbrev near (y m d : Int) : Prop := (1970 ≤ y ∧ y ≤ 2037) ∧ (1 ≤ m ∧ m ≤ 12) ∧ (1 ≤ d ∧ d ≤ 31)
theorem inside_near {y m d : Int} (h : inside y m d) : near y m d := by
  have h3 := mlen_bd y (m - 1).toNat (by have := h.2.1; omega)
  have h4 := h.2.2
  exact ⟨h.1, h.2.1, by omega⟩
set_option maxRecDepth 100000 in
set_option maxHeartbeats 4000000 in
theorem days_impl (y m d : Int) (w : World) : Calls Tryz.prog 158 #[.int .i64 y, .int .i64 m, .int .i64 d] w fun e w' => e = .returned (.int .i64 (days y m d)) ∧ Below w.heap.size w w' := by
  by_cases hn : near y m d
  · obtain ⟨j, rfl⟩ : ∃ j : Nat, y = 1970 + (j : Int) := ⟨(y - 1970).toNat, by omega⟩
    obtain ⟨k, rfl⟩ : ∃ k : Nat, m = (k : Int) + 1 := ⟨(m - 1).toNat, by omega⟩
    have hk : ((k : Int) + 1 - 1).toNat = k := by omega
    have hj : (1970 + (j : Int) - 1970).toNat = j := by omega
    obtain ⟨r, hr⟩ : ∃ r, days (1970 + (j : Int)) ((k : Int) + 1) d = r := ⟨_, rfl⟩
    rw [hr]
    have HR := Num.hide hr
    clear hr
    have hj67 : j ≤ 67 := by omega
    have hk11 : k ≤ 11 := by omega
    have hd1 : 1 ≤ d ∧ d ≤ 31 := hn.2.2
    have HA := Num.hide (ahead j k (d - 1) hj67 hk11 (by omega))
    have f1 : decide (1970 + (j : Int) < 1970) = false := by rw [decide_eq_false_iff_not]; omega
    have f2 : decide (2037 < 1970 + (j : Int)) = false := by rw [decide_eq_false_iff_not]; omega
    have f3 : decide ((k : Int) + 1 < 1) = false := by rw [decide_eq_false_iff_not]; omega
    have f4 : decide (12 < (k : Int) + 1) = false := by rw [decide_eq_false_iff_not]; omega
    have f5 : decide (d < 1) = false := by rw [decide_eq_false_iff_not]; omega
    have f6 : decide (31 < d) = false := by rw [decide_eq_false_iff_not]; omega
    clear hn hk hj
    go_enter Tryz.func158, Tryz.ntmps158
    go_wp2_with fail
    clear f1 f2 f3 f4 f5 f6
    go_loop [7, 8] (fun nv yv => ∃ i : Nat, i ≤ j ∧ yv = .int .i64 (1970 + (i : Int)) ∧ nv = .int .i64 (d - 1 + ysum i)) (fun _ yv => (2038 - intOf yv).toNat)
    case atStart => exact ⟨0, by omega, by simp, by simp [ysum]⟩
    case round =>
      obtain ⟨i, hi, rfl, rfl⟩ := hrel
      have hyb := ysum_bd i
      by_cases hlt : 1970 + (i : Int) < 1970 + (j : Int)
      · have HY := Num.hide (fun W => year_impl (1970 + (i : Int)) W)
        have hl := year_len i
        have hst := ysum_step i
        generalize (365 + (if leap (1970 + (i : Int)) = true then 1 else 0) : Int) = L at HY hl
        have HL : Hid (ysum (i + 1) = ysum i + L) := by show _ = _; omega
        have hLb : 365 ≤ L ∧ L ≤ 366 := by omega
        clear hl hst
        go_wp2_with fail
        refine (HY.out _).mono ?_
        rintro e w1 ⟨rfl, rfl⟩
        go_wp2
        go_round
        case rel => exact ⟨i + 1, by omega, by go_num, by rw [HL.out]; go_num⟩
        case measure => simp [intOf]; omega
      · obtain rfl : i = j := by omega
        go_wp2_with fail
        go_loop [7, 9] (fun nv mv => ∃ i2 : Nat, i2 ≤ k ∧ mv = .int .i64 ((i2 : Int) + 1) ∧ nv = .int .i64 (d - 1 + ysum i + msum (1970 + (i : Int)) i2)) (fun _ mv => (13 - intOf mv).toNat)
        case atStart => exact ⟨0, by omega, by simp, by simp [msum]⟩
        case round =>
          obtain ⟨q, hq, rfl, rfl⟩ := hrel
          have hmb := msum_bd (1970 + (i : Int)) q (by omega)
          by_cases hlt2 : (q : Int) + 1 < (k : Int) + 1
          · have HMo := Num.hide (fun W => month_impl (1970 + (i : Int)) q W (by omega))
            have hml := mlen_bd (1970 + (i : Int)) q (by omega)
            have HS : Hid (msum (1970 + (i : Int)) (q + 1) = msum (1970 + (i : Int)) q + mlen (1970 + (i : Int)) q) := rfl
            go_wp2_with fail
            refine (HMo.out _).mono ?_
            rintro e w1 ⟨rfl, rfl⟩
            go_wp2
            go_round
            case rel => exact ⟨q + 1, by omega, by go_num, by rw [HS.out]; go_num⟩
            case measure => simp [intOf]; omega
          · obtain rfl : q = k := by omega
            have HD := Num.hide (fun W => dateOf_impl (d - 1 + ysum i + msum (1970 + (i : Int)) q) W (by omega) (by have := HA.out; omega))
            go_wp2_with fail
            refine (HD.out _).mono ?_
            rintro e w1 ⟨j', k', d', rfl, hp, hb⟩
            have HB := Num.hide hb
            have HP := Num.hide hp
            clear hb hp
            unfold arr
            clear HD HA
            have he := eq_arr (1970 + (j' : Int)) ((k' : Int) + 1) (d' + 1) (1970 + (i : Int)) ((q : Int) + 1) d w1
            by_cases hin : d ≤ mlen (1970 + (i : Int)) q
            · obtain ⟨rfl, rfl, rfl⟩ := HP.out.one (⟨hj67, hk11, by omega, by omega, by omega⟩ : Parts _ i q (d - 1))
              rw [decide_eq_true (by omega), show d - 1 + 1 = d by omega] at he
              rw [show d - 1 + 1 = d by omega]
              obtain rfl : d - 1 + ysum j' + msum (1970 + (j' : Int)) k' = r := by
                rw [← HR.out, days_in ⟨by omega, by omega, by rw [show ((k' : Int) + 1 - 1).toNat = k' by omega]; omega⟩, show ((k' : Int) + 1 - 1).toNat = k' by omega, show (1970 + (j' : Int) - 1970).toNat = j' by omega]
              clear HR HP
              go_wp2
              go_ret
              exact ⟨rfl, HB.out⟩
            · have hno : ¬ (1970 + (j' : Int) = 1970 + (i : Int) ∧ (k' : Int) + 1 = (q : Int) + 1 ∧ d' + 1 = d) := by
                rintro ⟨e1, e2, e3⟩
                obtain rfl : j' = i := by omega
                obtain rfl : k' = q := by omega
                have := HP.out.h1
                omega
              rw [decide_eq_false hno] at he
              obtain rfl : -1 = r := by
                rw [← HR.out, days_out]
                rintro ⟨_, _, _, h⟩
                rw [show ((q : Int) + 1 - 1).toNat = q by omega] at h
                exact hin h
              clear HR HP hno
              go_wp2
              go_ret
              exact ⟨rfl, HB.out⟩
  · have hout : ¬ inside y m d := fun h => hn (inside_near h)
    rw [days_out hout]
    clear hout
    by_cases h1 : y < 1970
    · have f1 : decide (y < 1970) = true := decide_eq_true h1
      clear hn
      go_enter Tryz.func158, Tryz.ntmps158
      go_wp2
      go_ret
      exact ⟨rfl, Below.refl _ _⟩
    · have f1 : decide (y < 1970) = false := decide_eq_false h1
      by_cases h2 : 2037 < y
      · have f2 : decide (2037 < y) = true := decide_eq_true h2
        clear hn
        go_enter Tryz.func158, Tryz.ntmps158
        go_wp2
        go_ret
        exact ⟨rfl, Below.refl _ _⟩
      · have f2 : decide (2037 < y) = false := decide_eq_false h2
        by_cases h3 : m < 1
        · have f3 : decide (m < 1) = true := decide_eq_true h3
          clear hn
          go_enter Tryz.func158, Tryz.ntmps158
          go_wp2
          go_ret
          exact ⟨rfl, Below.refl _ _⟩
        · have f3 : decide (m < 1) = false := decide_eq_false h3
          by_cases h4 : 12 < m
          · have f4 : decide (12 < m) = true := decide_eq_true h4
            clear hn
            go_enter Tryz.func158, Tryz.ntmps158
            go_wp2
            go_ret
            exact ⟨rfl, Below.refl _ _⟩
          · have f4 : decide (12 < m) = false := decide_eq_false h4
            by_cases h5 : d < 1
            · have f5 : decide (d < 1) = true := decide_eq_true h5
              clear hn
              go_enter Tryz.func158, Tryz.ntmps158
              go_wp2
              go_ret
              exact ⟨rfl, Below.refl _ _⟩
            · have f5 : decide (d < 1) = false := decide_eq_false h5
              have h6 : 31 < d := by omega
              have f6 : decide (31 < d) = true := decide_eq_true h6
              clear hn
              go_enter Tryz.func158, Tryz.ntmps158
              go_wp2
              go_ret
              exact ⟨rfl, Below.refl _ _⟩
end Date
end Go.Proofs.YtbcjpjhpobmpbaaGreatDoor
namespace Go.Proofs.YtbcjpjhpobmpbaaGreatDoor
open Go.Shelf
def Shelf.lays143_ren : Go.Shelf.Ren := ⟨fun | 143 => 157 | 219 => 167 | 217 => 183 | 225 => 184 | 224 => 185 | 267 => 186 | 266 => 193 | 314 => 194 | n => n, fun | 9 => 9 | 3 => 3 | 4 => 4 | 5 => 5 | 46 => 118 | 146 => 174 | 51 => 173 | n => n, fun | 1 => 1 | n => n⟩
theorem Shelf.lays143 : Go.Proofs.Lays.n143 Tryz.prog Shelf.lays143_ren := {
  mixed := by kernel_rfl
  f143 := Tryz.func157.trans (congrArg some (by kernel_rfl))
  f217 := Tryz.func183.trans (congrArg some (by kernel_rfl))
  f219 := Tryz.func167.trans (congrArg some (by kernel_rfl))
  f224 := Tryz.func185.trans (congrArg some (by kernel_rfl))
  f225 := Tryz.func184.trans (congrArg some (by kernel_rfl))
  f266 := Tryz.func193.trans (congrArg some (by kernel_rfl))
  f267 := Tryz.func186.trans (congrArg some (by kernel_rfl))
  f314 := Tryz.func194.trans (congrArg some (by kernel_rfl))
  t3 := Tryz.underlying3
  a3 := Tryz.isAgg3
  z3 := Tryz.sizeOf3
  v3 := Tryz.zeroValue3
  t4 := Tryz.underlying4
  a4 := Tryz.isAgg4
  z4 := Tryz.sizeOf4
  v4 := Tryz.zeroValue4
  t5 := Tryz.underlying5
  a5 := Tryz.isAgg5
  z5 := Tryz.sizeOf5
  v5 := Tryz.zeroValue5
  t9 := Tryz.underlying9
  a9 := Tryz.isAgg9
  z9 := Tryz.sizeOf9
  v9 := Tryz.zeroValue9
  t46 := Tryz.underlying118
  a46 := Tryz.isAgg118
  z46 := Tryz.sizeOf118
  v46 := Tryz.zeroValue118
  t51 := Tryz.underlying173
  a51 := Tryz.isAgg173
  z51 := Tryz.sizeOf173
  v51 := Tryz.zeroValue173
  t146 := Tryz.underlying174
  a146 := Tryz.isAgg174
  z146 := Tryz.sizeOf174
  v146 := Tryz.zeroValue174
  g1 := by kernel_rfl }
open Go.RowKit Go.Lib in
theorem Shelf.strings_Index (s sub : ByteArray) (m : Int) (w : World) (hs : s.size < 4294967281) (hm : w.cell? ⟨1, 0, none⟩ = some (.int .i64 m)) :
    Calls Tryz.prog 157 #[.string s, .string sub] w fun e w' => e = .returned (.int .i64 (Lib.index s.data.toList sub.data.toList)) ∧ w' = w := Any.strings_Index Shelf.lays143 s sub m w hs hm
def Shelf.laysM143_ren : Go.Shelf.Ren := ⟨fun | 143 => 157 | 219 => 167 | 217 => 183 | 225 => 184 | 224 => 185 | 267 => 186 | 266 => 193 | 314 => 194 | n => n, fun | 9 => 9 | 3 => 3 | 4 => 4 | 5 => 5 | 46 => 118 | 146 => 174 | 51 => 173 | n => n, fun | 1 => 1 | n => n⟩
theorem Shelf.laysM143 : Go.Proofs.LaysM.n143 Tryz.prog Shelf.laysM143_ren := {
  mixed := by kernel_rfl
  f143 := Tryz.func157.trans (congrArg some (by kernel_rfl))
  f217 := Tryz.func183.trans (congrArg some (by kernel_rfl))
  f219 := Tryz.func167.trans (congrArg some (by kernel_rfl))
  f224 := Tryz.func185.trans (congrArg some (by kernel_rfl))
  f225 := Tryz.func184.trans (congrArg some (by kernel_rfl))
  f266 := Tryz.func193.trans (congrArg some (by kernel_rfl))
  f267 := Tryz.func186.trans (congrArg some (by kernel_rfl))
  f314 := Tryz.func194.trans (congrArg some (by kernel_rfl))
  t3 := Tryz.underlying3
  a3 := Tryz.isAgg3
  z3 := Tryz.sizeOf3
  v3 := Tryz.zeroValue3
  t4 := Tryz.underlying4
  a4 := Tryz.isAgg4
  z4 := Tryz.sizeOf4
  v4 := Tryz.zeroValue4
  t5 := Tryz.underlying5
  a5 := Tryz.isAgg5
  z5 := Tryz.sizeOf5
  v5 := Tryz.zeroValue5
  t9 := Tryz.underlying9
  a9 := Tryz.isAgg9
  z9 := Tryz.sizeOf9
  v9 := Tryz.zeroValue9
  t46 := Tryz.underlying118
  a46 := Tryz.isAgg118
  z46 := Tryz.sizeOf118
  v46 := Tryz.zeroValue118
  t51 := Tryz.underlying173
  a51 := Tryz.isAgg173
  z51 := Tryz.sizeOf173
  v51 := Tryz.zeroValue173
  t146 := Tryz.underlying174
  a146 := Tryz.isAgg174
  z146 := Tryz.sizeOf174
  v146 := Tryz.zeroValue174
  g1 := by kernel_rfl
  i3 := by kernel_rfl
  i4 := by kernel_rfl
  i5 := by kernel_rfl
  i9 := by kernel_rfl
  i46 := by kernel_rfl
  i51 := by kernel_rfl
  i146 := by kernel_rfl
  m1 := by kernel_rfl
  s1_3 := fun w h => Go.Proofs.cell_of_shapedOpen_int (zero := #[.int .i64 0]) (t := 3) h (of_decide_eq_true (by kernel_rfl)) (by kernel_rfl) rfl (by kernel_rfl) (by kernel_rfl) Tryz.underlying3 }
open Go.RowKit Go.Lib in
theorem Shelf.strings_Index_shaped (s sub : ByteArray) (w : World) (h : w.ShapedOpen Tryz.prog) (hs : s.size < 4294967281) :
    Calls Tryz.prog 157 #[.string s, .string sub] w fun e w' => e = .returned (.int .i64 (Lib.index s.data.toList sub.data.toList)) ∧ w' = w := Any.strings_Index_shaped Shelf.laysM143 s sub w h hs
end Go.Proofs.YtbcjpjhpobmpbaaGreatDoor
namespace Go.Proofs.YtbcjpjhpobmpbaaGreatDoor
open Go.RowKit
set_option linter.unusedVariables false
namespace Date

/-- the library's variable holds some number -/
def Lim (w : World) : Prop := ∃ m, w.cell? ⟨1, 0, none⟩ = some (.int .i64 m)
theorem lim_of {w : World} (h : w.ShapedOpen Tryz.prog) : Lim w := Shelf.laysM143.s1_3 w h
theorem Lim.lt {w : World} (h : Lim w) : 1 < w.heap.size := by obtain ⟨m, hm⟩ := h; exact Dec.lt_of_cell hm
theorem Lim.below {w w' : World} (h : Lim w) (hb : Below w.heap.size w w') : Lim w' := by
  have hl := h.lt
  obtain ⟨m, hm⟩ := h
  exact ⟨m, (hb.cell (p := ⟨1, 0, none⟩) hl).trans hm⟩
theorem secs_two (x y : Int) (h0 : 0 ≤ x) (h1 : x ≤ 9) (h2 : 0 ≤ y) (h3 : y ≤ 9) : (Sign.secs ⟨#[Num.byte (48 + x), Num.byte (48 + y)]⟩).1 = 10 * x + y := by
  have e1 := dig_val x h0 h1
  have e2 := dig_val y h2 h3
  unfold Sign.secs
  rw [if_pos ⟨(by show 0 < 2; decide), by simp [Sign.dig, e1, e2]; omega⟩]
  simp only [Sign.sec, List.foldl_cons, List.foldl_nil, e1, e2]
  omega
theorem secs_four (x y z u : Int) (h0 : 0 ≤ x) (h1 : x ≤ 9) (h2 : 0 ≤ y) (h3 : y ≤ 9) (h4 : 0 ≤ z) (h5 : z ≤ 9) (h6 : 0 ≤ u) (h7 : u ≤ 9) : (Sign.secs ⟨#[Num.byte (48 + x), Num.byte (48 + y), Num.byte (48 + z), Num.byte (48 + u)]⟩).1 = 1000 * x + 100 * y + 10 * z + u := by
  have e1 := dig_val x h0 h1
  have e2 := dig_val y h2 h3
  have e3 := dig_val z h4 h5
  have e4 := dig_val u h6 h7
  unfold Sign.secs
  rw [if_pos ⟨(by show 0 < 4; decide), by simp [Sign.dig, e1, e2, e3, e4]; omega⟩]
  simp only [Sign.sec, List.foldl_cons, List.foldl_nil, e1, e2, e3, e4]
  omega
theorem secs_bd (t : ByteArray) : 0 ≤ (Sign.secs t).1 ∧ (Sign.secs t).1 ≤ 2147483648 := by
  unfold Sign.secs
  split
  · next h => exact Sign.sec_bd _ h.2
  · exact ⟨by decide, by decide⟩
/-- what the program reckons off a text -/
def dg (s : ByteArray) (a b : Nat) : Int := (Sign.secs (s.extract a b)).1
def midx (s : ByteArray) : Int := Lib.index mnames.data.toList (s.extract 8 11).data.toList
def dayI (s : ByteArray) : Int := days (dg s 12 16) ((midx s).tdiv 3 + 1) (dg s 5 7)
def secI (s : ByteArray) : Int := dayI s * 86400 + dg s 17 19 * 3600 + dg s 20 22 * 60 + dg s 23 25
theorem midx_bd (s : ByteArray) : -1 ≤ midx s ∧ midx s ≤ 36 := ⟨Lib.index_ge _ _, Lib.index_le _ _⟩
theorem index_name (k : Nat) (h : k < 12) : Lib.index mnames.data.toList (name k).data.toList = 3 * (k : Int) := by
  have key : ∀ k : Nat, k < 12 → Lib.index mnames.data.toList (name k).data.toList = 3 * (k : Int) := by decide +kernel
  exact key k h
theorem secI_text (n : Int) (h0 : 0 ≤ n) (h1 : n ≤ 2000000000) : secI (text n) = n := by
  obtain ⟨p1, p2, p3, p4, p5, p6⟩ := parts_in (n / 86400) (by omega) (by omega)
  have hml := mlen_bd (1970 + (yr (n / 86400) : Int)) (mo (n / 86400)) (by omega)
  obtain ⟨a, b, c, p, q, r, hn, ht⟩ := text_form n h0 h1
  have ed : dg (text n) 5 7 = dy (n / 86400) + 1 := by
    have e : (text n).extract 5 7 = ⟨#[Num.byte (48 + (dy (n / 86400) + 1) / 10 % 10), Num.byte (48 + (dy (n / 86400) + 1) % 10)]⟩ := by rw [ht]; rfl
    unfold dg
    rw [e, secs_two _ _ (by omega) (by omega) (by omega) (by omega)]
    omega
  have ey : dg (text n) 12 16 = 1970 + (yr (n / 86400) : Int) := by
    have e : (text n).extract 12 16 = ⟨#[Num.byte (48 + (1970 + (yr (n / 86400) : Int)) / 1000 % 10), Num.byte (48 + (1970 + (yr (n / 86400) : Int)) / 100 % 10), Num.byte (48 + (1970 + (yr (n / 86400) : Int)) / 10 % 10), Num.byte (48 + (1970 + (yr (n / 86400) : Int)) % 10)]⟩ := by rw [ht]; rfl
    unfold dg
    rw [e, secs_four _ _ _ _ (by omega) (by omega) (by omega) (by omega) (by omega) (by omega) (by omega) (by omega)]
    omega
  have eh : dg (text n) 17 19 = n / 3600 % 24 := by
    have e : (text n).extract 17 19 = ⟨#[Num.byte (48 + n / 3600 % 24 / 10 % 10), Num.byte (48 + n / 3600 % 24 % 10)]⟩ := by rw [ht]; rfl
    unfold dg
    rw [e, secs_two _ _ (by omega) (by omega) (by omega) (by omega)]
    omega
  have em : dg (text n) 20 22 = n / 60 % 60 := by
    have e : (text n).extract 20 22 = ⟨#[Num.byte (48 + n / 60 % 60 / 10 % 10), Num.byte (48 + n / 60 % 60 % 10)]⟩ := by rw [ht]; rfl
    unfold dg
    rw [e, secs_two _ _ (by omega) (by omega) (by omega) (by omega)]
    omega
  have es : dg (text n) 23 25 = n % 60 := by
    have e : (text n).extract 23 25 = ⟨#[Num.byte (48 + n % 60 / 10 % 10), Num.byte (48 + n % 60 % 10)]⟩ := by rw [ht]; rfl
    unfold dg
    rw [e, secs_two _ _ (by omega) (by omega) (by omega) (by omega)]
    omega
  have eo : midx (text n) = 3 * (mo (n / 86400) : Int) := by
    have e : (text n).extract 8 11 = name (mo (n / 86400)) := by rw [ht, hn]; rfl
    unfold midx
    rw [e, index_name _ (by omega)]
  have et : (3 * (mo (n / 86400) : Int)).tdiv 3 = (mo (n / 86400) : Int) := by
    rw [Int.tdiv_eq_ediv_of_nonneg (by omega)]; omega
  unfold secI dayI
  rw [ed, ey, eh, em, es, eo, et, days_parts _ _ _ (by omega) (by omega) p3 p4]
  unfold dy
  omega
theorem read_alt (s : ByteArray) (h : s.size = 29) : read s = if shown (secI s) = s then some (secI s) else none := by
  by_cases hs : shown (secI s) = s
  · rw [if_pos hs, read_iff]
    unfold shown at hs
    split at hs
    · next hr => exact ⟨hr, hs⟩
    · rw [← hs] at h; cases h
  · rw [if_neg hs]
    cases hr : read s with
    | none => rfl
    | some n =>
      exfalso
      obtain ⟨⟨h0, h1⟩, ht⟩ := (read_iff s n).1 hr
      apply hs
      rw [← ht, secI_text n h0 h1]
      exact if_pos ⟨h0, h1⟩
set_option maxRecDepth 100000 in
set_option maxHeartbeats 1000000 in
theorem digits_impl (t : ByteArray) (w : World) (hs : t.size ≤ 4) : Calls Tryz.prog 159 #[.string t] w fun e w' => e = .returned (.int .i64 (Sign.secs t).1) ∧ w = w' := by
  have HS := Num.hide (fun W => Sign.seconds_impl t W (by unfold maxLen; omega))
  generalize Sign.secs t = r at HS ⊢
  obtain ⟨x, b⟩ := r
  go_enter Tryz.func159, Tryz.ntmps159
  go_wp2_with fail
  refine (HS.out _).mono ?_
  rintro e w1 ⟨rfl, rfl⟩
  go_wp2
  go_ret
  exact ⟨rfl, rfl⟩
/-- what was there stays; the library's variables lie as they are laid -/
def Keep (w : World) (W : World) : Prop := Below w.heap.size w W ∧ Dec.Tab W ∧ Lim W
theorem Keep.step {w W W' : World} (h : Keep w W) (hb : Below W.heap.size W W') : Keep w W' := ⟨h.1.trans (hb.mono h.1.size), h.2.1.below hb, h.2.2.below hb⟩
theorem Keep.drew {w W : World} (h : Keep w W) : Keep w W.drew := h.step (Below.refl _ _).drew
set_option maxRecDepth 100000 in
set_option maxHeartbeats 8000000 in
theorem read_impl (s : ByteArray) (w : World) (hs : s.size ≤ 4194304) (ht : Dec.Tab w) (hm : Lim w) : Calls Tryz.prog 144 #[.string s] w fun e w' => e = .returned (.tuple #[.int .i64 (readN s), .bool (readB s)]) ∧ Below w.heap.size w w' := by
  by_cases h29 : s.size = 29
  · obtain ⟨N, hN⟩ : ∃ N, readN s = N := ⟨_, rfl⟩
    obtain ⟨b, hb⟩ : ∃ b, readB s = b := ⟨_, rfl⟩
    rw [hN, hb]
    have hra := read_alt s h29
    have HN := Num.hide hN
    have HBb := Num.hide hb
    have HK0 : Hid (Keep w w) := ⟨Below.refl _ _, ht, hm⟩
    have d29 : ((s.size : Int) != 29) = false := by rw [bne_eq_false_iff_eq]; omega
    have h8 : (11 : Int) ≤ (s.size : Int) := by omega
    have h12 : (16 : Int) ≤ (s.size : Int) := by omega
    have h5 : (7 : Int) ≤ (s.size : Int) := by omega
    have h17 : (19 : Int) ≤ (s.size : Int) := by omega
    have h20 : (22 : Int) ≤ (s.size : Int) := by omega
    have h23 : (25 : Int) ≤ (s.size : Int) := by omega
    have hex : ∀ a b : Nat, b ≤ a + 4 → (s.extract a b).size ≤ 4 := fun a b h => by rw [ByteArray.size_extract]; omega
    have HI : Hid (∀ W, Lim W → Calls Tryz.prog 157 #[.string mnames, .string (s.extract 8 11)] W fun e w' => e = .returned (.int .i64 (midx s)) ∧ W = w') := fun W h => by
      obtain ⟨m, h⟩ := h
      exact (Shelf.strings_Index mnames (s.extract 8 11) m W (by decide) h).mono fun e w' ⟨h1, h2⟩ => ⟨h1, h2.symm⟩
    have H1 : Hid (∀ W, Calls Tryz.prog 159 #[.string (s.extract 12 16)] W fun e w' => e = .returned (.int .i64 (dg s 12 16)) ∧ W = w') := fun W => digits_impl _ W (hex _ _ (by omega))
    have H2 : Hid (∀ W, Calls Tryz.prog 159 #[.string (s.extract 5 7)] W fun e w' => e = .returned (.int .i64 (dg s 5 7)) ∧ W = w') := fun W => digits_impl _ W (hex _ _ (by omega))
    have H3 : Hid (∀ W, Calls Tryz.prog 159 #[.string (s.extract 17 19)] W fun e w' => e = .returned (.int .i64 (dg s 17 19)) ∧ W = w') := fun W => digits_impl _ W (hex _ _ (by omega))
    have H4 : Hid (∀ W, Calls Tryz.prog 159 #[.string (s.extract 20 22)] W fun e w' => e = .returned (.int .i64 (dg s 20 22)) ∧ W = w') := fun W => digits_impl _ W (hex _ _ (by omega))
    have H5 : Hid (∀ W, Calls Tryz.prog 159 #[.string (s.extract 23 25)] W fun e w' => e = .returned (.int .i64 (dg s 23 25)) ∧ W = w') := fun W => digits_impl _ W (hex _ _ (by omega))
    have HD : Hid (∀ W, Calls Tryz.prog 158 #[.int .i64 (dg s 12 16), .int .i64 ((midx s).tdiv 3 + 1), .int .i64 (dg s 5 7)] W fun e w' => e = .returned (.int .i64 (dayI s)) ∧ Below W.heap.size W w') := fun W => days_impl _ _ _ W
    have bd := days_bd (dg s 12 16) ((midx s).tdiv 3 + 1) (dg s 5 7)
    change -1 ≤ dayI s ∧ dayI s ≤ 100000 at bd
    have bi := midx_bd s
    have bq : -1 ≤ (midx s).tdiv 3 ∧ (midx s).tdiv 3 ≤ 36 := by
      by_cases e : midx s = -1
      · rw [e]; decide
      · rw [Int.tdiv_eq_ediv_of_nonneg (by omega)]; omega
    have b1 := secs_bd (s.extract 17 19)
    have b2 := secs_bd (s.extract 20 22)
    have b3 := secs_bd (s.extract 23 25)
    change 0 ≤ dg s 17 19 ∧ dg s 17 19 ≤ _ at b1
    change 0 ≤ dg s 20 22 ∧ dg s 20 22 ≤ _ at b2
    change 0 ≤ dg s 23 25 ∧ dg s 23 25 ≤ _ at b3
    have hsec : secI s = dayI s * 86400 + dg s 17 19 * 3600 + dg s 20 22 * 60 + dg s 23 25 := rfl
    have HSh := Num.hide (fun W h => date_impl (secI s) W h)
    rw [hsec] at hra HSh
    clear hN hb hsec ht hm hex
    generalize dayI s = D at HD bd hra HSh
    generalize dg s 12 16 = y at H1 HD
    generalize dg s 5 7 = dd at H2 HD
    generalize dg s 17 19 = hh at H3 b1 hra HSh
    generalize dg s 20 22 = mm at H4 b2 hra HSh
    generalize dg s 23 25 = xx at H5 b3 hra HSh
    generalize midx s = mi at HI HD bi bq
    generalize shown (D * 86400 + hh * 3600 + mm * 60 + xx) = t at hra HSh
    have HRd := Num.hide hra
    clear hra
    unfold mnames at HI
    have v1 : IntKind.i64.wrap (D * 86400) = D * 86400 := by rw [IntKind.wrap_i64]; omega
    have v2 : IntKind.i64.wrap (hh * 3600) = hh * 3600 := by rw [IntKind.wrap_i64]; omega
    have v3 : IntKind.i64.wrap (D * 86400 + hh * 3600) = D * 86400 + hh * 3600 := by rw [IntKind.wrap_i64]; omega
    have v4 : IntKind.i64.wrap (mm * 60) = mm * 60 := by rw [IntKind.wrap_i64]; omega
    have v5 : IntKind.i64.wrap (D * 86400 + hh * 3600 + mm * 60) = D * 86400 + hh * 3600 + mm * 60 := by rw [IntKind.wrap_i64]; omega
    have v6 : IntKind.i64.wrap (D * 86400 + hh * 3600 + mm * 60 + xx) = D * 86400 + hh * 3600 + mm * 60 + xx := by rw [IntKind.wrap_i64]; omega
    go_enter Tryz.func144, Tryz.ntmps144
    go_wp2_with fail
    refine (HI.out _ HK0.out.2.2).mono ?_
    rintro e W1 ⟨rfl, rfl⟩
    clear HI
    go_wp2_with fail
    refine wp_region_held_drew (S := Keep w) (by kernel_rfl) HK0.out.drew (fun hHeld => ?_)
    refine Reg.take (i := 0) (d := 15) (v := ?_) rfl rfl (by kernel_rfl) (by kernel_rfl) (by kernel_rfl) (fun _ _ _ h => h) (by rfl) ?_ hHeld ?_
    rotate_left
    · rintro W ⟨g0, g1, g2⟩
      first | (go_simp; done) | (go_simp; with_reducible rfl)
    simp only [Act.put, List.setIfInBounds_toArray, List.set_cons_zero, List.set_cons_succ]
    refine Reg.take (i := 1) (d := 16) (v := ?_) rfl rfl (by kernel_rfl) (by kernel_rfl) (by kernel_rfl) (fun _ _ _ h => h) (by rfl) ?_ hHeld ?_
    rotate_left
    · rintro W ⟨g0, g1, g2⟩
      first | (go_simp; done) | (go_simp; with_reducible rfl)
    simp only [Act.put, List.setIfInBounds_toArray, List.set_cons_zero, List.set_cons_succ]
    refine Reg.take (i := 3) (d := 18) (v := ?_) rfl rfl (by kernel_rfl) (by kernel_rfl) (by kernel_rfl) (fun _ _ _ h => h) (by rfl) ?_ hHeld ?_
    rotate_left
    · rintro W ⟨g0, g1, g2⟩
      first | (go_simp; done) | (go_simp; with_reducible rfl)
    simp only [Act.put, List.setIfInBounds_toArray, List.set_cons_zero, List.set_cons_succ]
    refine Reg.take (i := 4) (d := 19) (v := ?_) rfl rfl (by kernel_rfl) (by kernel_rfl) (by kernel_rfl) (fun _ _ _ h => h) (by rfl) ?_ hHeld ?_
    rotate_left
    · rintro W ⟨g0, g1, g2⟩
      first | (go_simp; done) | (go_simp; with_reducible rfl)
    simp only [Act.put, List.setIfInBounds_toArray, List.set_cons_zero, List.set_cons_succ]
    refine Reg.take (i := 5) (d := 20) (v := ?_) rfl rfl (by kernel_rfl) (by kernel_rfl) (by kernel_rfl) (fun _ _ _ h => h) (by rfl) ?_ hHeld ?_
    rotate_left
    · rintro W ⟨g0, g1, g2⟩
      first | (go_simp; done) | (go_simp; with_reducible rfl)
    simp only [Act.put, List.setIfInBounds_toArray, List.set_cons_zero, List.set_cons_succ]
    refine Reg.call (i := 2) rfl (by kernel_rfl) (by rfl) (fun K hK => ?_)
    go_wp2_with (first | (go_at_call 159; refine (H1.out _).mono ?_; rintro e W2 ⟨rfl, rfl⟩))
    refine hK.out _ _ ?_ (fun hHeld2 => ?_)
    · exact hHeld
    clear hK K
    replace hHeld := hHeld2
    clear hHeld2
    refine Reg.call (i := 6) rfl (by kernel_rfl) (by rfl) (fun K hK => ?_)
    go_wp2_with (first | (go_at_call 159; refine (H2.out _).mono ?_; rintro e W3 ⟨rfl, rfl⟩))
    refine hK.out _ _ ?_ (fun hHeld2 => ?_)
    · exact hHeld
    clear hK K
    replace hHeld := hHeld2
    clear hHeld2
    refine Reg.call (i := 7) rfl (by kernel_rfl) (by rfl) (fun K hK => ?_)
    go_wp2_with (first | (go_at_call 158; refine (HD.out _).mono ?_; rintro e W4 ⟨rfl, hb4⟩))
    refine hK.out _ _ ?_ (fun hHeld2 => ?_)
    · exact Keep.step hHeld hb4
    clear hK K
    replace hHeld := hHeld2
    clear hHeld2
    refine Reg.take (i := 8) (d := 5) (v := ?_) rfl rfl (by kernel_rfl) (by kernel_rfl) (by kernel_rfl) (fun _ _ _ h => h) (by rfl) ?_ hHeld ?_
    rotate_left
    · rintro W ⟨g0, g1, g2⟩
      first | (go_simp; done) | (go_simp; with_reducible rfl)
    simp only [Act.put, List.setIfInBounds_toArray, List.set_cons_zero, List.set_cons_succ]
    refine wpAnyH_done (by kernel_rfl) ?_ _
    have HK1 := Num.hide hHeld
    clear hHeld H1 H2 HD
    go_wp2_with fail
    refine wp_region_held_drew (S := Keep w) (by kernel_rfl) HK1.out.drew (fun hHeld => ?_)
    refine Reg.take (i := 0) (d := 23) (v := ?_) rfl rfl (by kernel_rfl) (by kernel_rfl) (by kernel_rfl) (fun _ _ _ h => h) (by rfl) ?_ hHeld ?_
    rotate_left
    · rintro W ⟨g0, g1, g2⟩
      first | (go_simp; done) | (go_simp; with_reducible rfl)
    simp only [Act.put, List.setIfInBounds_toArray, List.set_cons_zero, List.set_cons_succ]
    refine Reg.take (i := 1) (d := 24) (v := ?_) rfl rfl (by kernel_rfl) (by kernel_rfl) (by kernel_rfl) (fun _ _ _ h => h) (by rfl) ?_ hHeld ?_
    rotate_left
    · rintro W ⟨g0, g1, g2⟩
      first | (go_simp; done) | (go_simp; with_reducible rfl)
    simp only [Act.put, List.setIfInBounds_toArray, List.set_cons_zero, List.set_cons_succ]
    refine Reg.take (i := 2) (d := 25) (v := ?_) rfl rfl (by kernel_rfl) (by kernel_rfl) (by kernel_rfl) (fun _ _ _ h => h) (by rfl) ?_ hHeld ?_
    rotate_left
    · rintro W ⟨g0, g1, g2⟩
      first | (go_simp; done) | (go_simp; with_reducible rfl)
    simp only [Act.put, List.setIfInBounds_toArray, List.set_cons_zero, List.set_cons_succ]
    refine Reg.take (i := 3) (d := 26) (v := ?_) rfl rfl (by kernel_rfl) (by kernel_rfl) (by kernel_rfl) (fun _ _ _ h => h) (by rfl) ?_ hHeld ?_
    rotate_left
    · rintro W ⟨g0, g1, g2⟩
      first | (go_simp; done) | (go_simp; with_reducible rfl)
    simp only [Act.put, List.setIfInBounds_toArray, List.set_cons_zero, List.set_cons_succ]
    refine Reg.take (i := 7) (d := 30) (v := ?_) rfl rfl (by kernel_rfl) (by kernel_rfl) (by kernel_rfl) (fun _ _ _ h => h) (by rfl) ?_ hHeld ?_
    rotate_left
    · rintro W ⟨g0, g1, g2⟩
      first | (go_simp; done) | (go_simp; with_reducible rfl)
    simp only [Act.put, List.setIfInBounds_toArray, List.set_cons_zero, List.set_cons_succ]
    refine Reg.take (i := 8) (d := 31) (v := ?_) rfl rfl (by kernel_rfl) (by kernel_rfl) (by kernel_rfl) (fun _ _ _ h => h) (by rfl) ?_ hHeld ?_
    rotate_left
    · rintro W ⟨g0, g1, g2⟩
      first | (go_simp; done) | (go_simp; with_reducible rfl)
    simp only [Act.put, List.setIfInBounds_toArray, List.set_cons_zero, List.set_cons_succ]
    refine Reg.take (i := 12) (d := 35) (v := ?_) rfl rfl (by kernel_rfl) (by kernel_rfl) (by kernel_rfl) (fun _ _ _ h => h) (by rfl) ?_ hHeld ?_
    rotate_left
    · rintro W ⟨g0, g1, g2⟩
      first | (go_simp; done) | (go_simp; with_reducible rfl)
    simp only [Act.put, List.setIfInBounds_toArray, List.set_cons_zero, List.set_cons_succ]
    refine Reg.take (i := 13) (d := 36) (v := ?_) rfl rfl (by kernel_rfl) (by kernel_rfl) (by kernel_rfl) (fun _ _ _ h => h) (by rfl) ?_ hHeld ?_
    rotate_left
    · rintro W ⟨g0, g1, g2⟩
      first | (go_simp; done) | (go_simp; with_reducible rfl)
    simp only [Act.put, List.setIfInBounds_toArray, List.set_cons_zero, List.set_cons_succ]
    refine Reg.call (i := 4) rfl (by kernel_rfl) (by rfl) (fun K hK => ?_)
    go_wp2_with (first | (go_at_call 159; refine (H3.out _).mono ?_; rintro e W5 ⟨rfl, rfl⟩))
    refine hK.out _ _ ?_ (fun hHeld2 => ?_)
    · exact hHeld
    clear hK K
    replace hHeld := hHeld2
    clear hHeld2
    refine Reg.take (i := 5) (d := 28) (v := ?_) rfl rfl (by kernel_rfl) (by kernel_rfl) (by kernel_rfl) (fun _ _ _ h => h) (by rfl) ?_ hHeld ?_
    rotate_left
    · rintro W ⟨g0, g1, g2⟩
      first | (go_simp; done) | (go_simp; with_reducible rfl)
    simp only [Act.put, List.setIfInBounds_toArray, List.set_cons_zero, List.set_cons_succ]
    refine Reg.take (i := 6) (d := 29) (v := ?_) rfl rfl (by kernel_rfl) (by kernel_rfl) (by kernel_rfl) (fun _ _ _ h => h) (by rfl) ?_ hHeld ?_
    rotate_left
    · rintro W ⟨g0, g1, g2⟩
      first | (go_simp; done) | (go_simp; with_reducible rfl)
    simp only [Act.put, List.setIfInBounds_toArray, List.set_cons_zero, List.set_cons_succ]
    refine Reg.call (i := 9) rfl (by kernel_rfl) (by rfl) (fun K hK => ?_)
    go_wp2_with (first | (go_at_call 159; refine (H4.out _).mono ?_; rintro e W6 ⟨rfl, rfl⟩))
    refine hK.out _ _ ?_ (fun hHeld2 => ?_)
    · exact hHeld
    clear hK K
    replace hHeld := hHeld2
    clear hHeld2
    refine Reg.take (i := 10) (d := 33) (v := ?_) rfl rfl (by kernel_rfl) (by kernel_rfl) (by kernel_rfl) (fun _ _ _ h => h) (by rfl) ?_ hHeld ?_
    rotate_left
    · rintro W ⟨g0, g1, g2⟩
      first | (go_simp; done) | (go_simp; with_reducible rfl)
    simp only [Act.put, List.setIfInBounds_toArray, List.set_cons_zero, List.set_cons_succ]
    refine Reg.take (i := 11) (d := 34) (v := ?_) rfl rfl (by kernel_rfl) (by kernel_rfl) (by kernel_rfl) (fun _ _ _ h => h) (by rfl) ?_ hHeld ?_
    rotate_left
    · rintro W ⟨g0, g1, g2⟩
      first | (go_simp; done) | (go_simp; with_reducible rfl)
    simp only [Act.put, List.setIfInBounds_toArray, List.set_cons_zero, List.set_cons_succ]
    refine Reg.call (i := 14) rfl (by kernel_rfl) (by rfl) (fun K hK => ?_)
    go_wp2_with (first | (go_at_call 159; refine (H5.out _).mono ?_; rintro e W7 ⟨rfl, rfl⟩))
    refine hK.out _ _ ?_ (fun hHeld2 => ?_)
    · exact hHeld
    clear hK K
    replace hHeld := hHeld2
    clear hHeld2
    refine Reg.take (i := 15) (d := 38) (v := ?_) rfl rfl (by kernel_rfl) (by kernel_rfl) (by kernel_rfl) (fun _ _ _ h => h) (by rfl) ?_ hHeld ?_
    rotate_left
    · rintro W ⟨g0, g1, g2⟩
      first | (go_simp; done) | (go_simp; with_reducible rfl)
    simp only [Act.put, List.setIfInBounds_toArray, List.set_cons_zero, List.set_cons_succ]
    refine Reg.take (i := 16) (d := 6) (v := ?_) rfl rfl (by kernel_rfl) (by kernel_rfl) (by kernel_rfl) (fun _ _ _ h => h) (by rfl) ?_ hHeld ?_
    rotate_left
    · rintro W ⟨g0, g1, g2⟩
      first | (go_simp; done) | (go_simp; with_reducible rfl)
    simp only [Act.put, List.setIfInBounds_toArray, List.set_cons_zero, List.set_cons_succ]
    refine wpAnyH_done (by kernel_rfl) ?_ _
    have HK2 := Num.hide hHeld
    clear hHeld H3 H4 H5
    by_cases g5 : t = s
    · have hr := HRd.out
      rw [if_pos g5] at hr
      subst g5
      obtain rfl : N = D * 86400 + hh * 3600 + mm * 60 + xx := by rw [← HN.out]; unfold readN; rw [hr]; rfl
      obtain rfl : b = true := by rw [← HBb.out]; unfold readB; rw [hr]; rfl
      clear hr HRd HN HBb
      go_wp2_with fail
      refine (HSh.out _ HK2.out.2.1).mono ?_
      rintro e w3 ⟨rfl, hb3⟩
      have HB3 := Num.hide (HK2.out.1.trans (hb3.mono HK2.out.1.size))
      clear hb3
      go_wp2
      go_ret2
      exact ⟨rfl, HB3.out⟩
    · have hr := HRd.out
      rw [if_neg g5] at hr
      have hq : (t.toList == s.toList) = false := by
        rw [beq_eq_false_iff_ne, ByteArray.toList_eq, ByteArray.toList_eq]
        intro e; exact g5 (ByteArray.ext (Array.toList_inj.1 e))
      have hq2 : (t.toList != s.toList) = true := by rw [bne, hq]; rfl
      obtain rfl : N = 0 := by rw [← HN.out]; unfold readN; rw [hr]; rfl
      obtain rfl : b = false := by rw [← HBb.out]; unfold readB; rw [hr]; rfl
      clear hr HRd HN HBb g5
      go_wp2_with fail
      refine (HSh.out _ HK2.out.2.1).mono ?_
      rintro e w3 ⟨rfl, hb3⟩
      have HB3 := Num.hide (HK2.out.1.trans (hb3.mono HK2.out.1.size))
      clear hb3
      go_wp2
      go_ret2
      exact ⟨rfl, HB3.out⟩
  · have hr : read s = none := by unfold read; rw [if_neg h29]
    have hN : readN s = 0 := by unfold readN; rw [hr]; rfl
    have hb : readB s = false := by unfold readB; rw [hr]; rfl
    rw [hN, hb]
    have d29 : ((s.size : Int) != 29) = true := by rw [bne_iff_ne]; omega
    clear hr hN hb h29 ht hm
    go_enter Tryz.func144, Tryz.ntmps144
    go_wp2
    go_ret2
    exact ⟨rfl, Below.refl _ _⟩
end Date
end Go.Proofs.YtbcjpjhpobmpbaaGreatDoor
