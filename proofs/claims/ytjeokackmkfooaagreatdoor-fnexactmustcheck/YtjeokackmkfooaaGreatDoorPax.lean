/-
  ShelfIndex: Library contracts at this program: strings_Index, strings_Index_shaped.
  DateReadImpl: digitsOf and ReadDate of the program: a date off its text; what was there stays.
  AgeImpl: SatAdd, DateOf and the parts of FirstAge of the program.
  CcSecImpl: CcSeconds of the program.
  LifeImpl: The sources of a lifetime of the program: closures in a list, and what each tells.
-/
import Derived.Shelf.Strings.Builder1
import Derived.Shelf.Strings.Builder2
import Derived.Shelf.Strings.OnBuilder
import Derived.Shelf.Strings.Trim
import Derived.Shelf.Small.Utf8
import Derived.Shelf.Small.Strs
import Derived.Shelf.Strings.BuilderF
import Derived.Shelf.Strings.BuilderK
import Derived.Shelf.Strconv.Itoa0
import Derived.Shelf.Strconv.Itoa1
import Derived.Shelf.LaysM
import Derived.Shelf.Strconv.Itoa2
import Derived.Shelf.Strconv.Itoa3
import Derived.Shelf.Strconv.Clone
import Derived.Shelf.Strings.Search1
import Derived.Shelf.Strings.Search2
import Derived.Shelf.Strings.Search3
import Derived.Shelf.Strings.Cut
import Derived.Shelf.Strings.Shaped
import Derived.Shelf.Unicode.Decode
import Derived.Shelf.Strings.Runes
import Derived.Shelf.Strings.AsciiSet
import Derived.Shelf.Unicode.DecodeSlow
import Derived.Shelf.Unicode.DecodeAny
import Derived.Shelf.Unicode.DecodeLast
import Derived.Test.YtjeokackmkfooaaGreatDoorRows
import Derived.Test.YtjeokackmkfooaaGreatDoorPaw
import Derived.Test.YtjeokackmkfooaaGreatDoorPao
import Derived.Lib.IndexBytes
import Derived.Lib.IndexMore
import Derived.Laws.Strings2
import Derived.Test.YtjeokackmkfooaaGreatDoorPac
import Derived.Test.YtjeokackmkfooaaGreatDoorPav
import Derived.Test.YtjeokackmkfooaaGreatDoorPag
import Derived.Test.YtjeokackmkfooaaGreatDoorPam
import Derived.Deep.Cut
import Derived.WalkKit
import Derived.FnLit
namespace Go.Proofs.YtjeokackmkfooaaGreatDoor
open Go.Shelf
def Shelf.lays143_ren : Go.Shelf.Ren := ⟨fun | 143 => 157 | 219 => 173 | 217 => 186 | 225 => 187 | 224 => 188 | 267 => 189 | 266 => 195 | 314 => 196 | n => n, fun | 9 => 9 | 3 => 3 | 4 => 4 | 5 => 5 | 46 => 109 | 146 => 174 | 51 => 173 | n => n, fun | 1 => 1 | n => n⟩
theorem Shelf.lays143 : Go.Proofs.Lays.n143 Tryz.prog Shelf.lays143_ren := {
  mixed := by kernel_rfl
  f143 := Tryz.func157.trans (congrArg some (by kernel_rfl))
  f217 := Tryz.func186.trans (congrArg some (by kernel_rfl))
  f219 := Tryz.func173.trans (congrArg some (by kernel_rfl))
  f224 := Tryz.func188.trans (congrArg some (by kernel_rfl))
  f225 := Tryz.func187.trans (congrArg some (by kernel_rfl))
  f266 := Tryz.func195.trans (congrArg some (by kernel_rfl))
  f267 := Tryz.func189.trans (congrArg some (by kernel_rfl))
  f314 := Tryz.func196.trans (congrArg some (by kernel_rfl))
  t3 := Tryz.underlying3
  a3 := Tryz.isAgg3
  z3 := Tryz.sizeOf3
  v3 := Tryz.zeroValue3
  t4 := Tryz.underlying4
  a4 := Tryz.isAgg4
  z4 := Tryz.sizeOf4
  v4 := Tryz.zeroValue4
  t5 := Tryz.underlying5
  a5 := Tryz.isAgg5
  z5 := Tryz.sizeOf5
  v5 := Tryz.zeroValue5
  t9 := Tryz.underlying9
  a9 := Tryz.isAgg9
  z9 := Tryz.sizeOf9
  v9 := Tryz.zeroValue9
  t46 := Tryz.underlying109
  a46 := Tryz.isAgg109
  z46 := Tryz.sizeOf109
  v46 := Tryz.zeroValue109
  t51 := Tryz.underlying173
  a51 := Tryz.isAgg173
  z51 := Tryz.sizeOf173
  v51 := Tryz.zeroValue173
  t146 := Tryz.underlying174
  a146 := Tryz.isAgg174
  z146 := Tryz.sizeOf174
  v146 := Tryz.zeroValue174
  g1 := by kernel_rfl }
open Go.RowKit Go.Lib in
theorem Shelf.strings_Index (s sub : ByteArray) (m : Int) (w : World) (hs : s.size < 4294967281) (hm : w.cell? ⟨1, 0, none⟩ = some (.int .i64 m)) :
    Calls Tryz.prog 157 #[.string s, .string sub] w fun e w' => e = .returned (.int .i64 (Lib.index s.data.toList sub.data.toList)) ∧ w' = w := Any.strings_Index Shelf.lays143 s sub m w hs hm
def Shelf.laysM143_ren : Go.Shelf.Ren := ⟨fun | 143 => 157 | 219 => 173 | 217 => 186 | 225 => 187 | 224 => 188 | 267 => 189 | 266 => 195 | 314 => 196 | n => n, fun | 9 => 9 | 3 => 3 | 4 => 4 | 5 => 5 | 46 => 109 | 146 => 174 | 51 => 173 | n => n, fun | 1 => 1 | n => n⟩
theorem Shelf.laysM143 : Go.Proofs.LaysM.n143 Tryz.prog Shelf.laysM143_ren := {
  mixed := by kernel_rfl
  f143 := Tryz.func157.trans (congrArg some (by kernel_rfl))
  f217 := Tryz.func186.trans (congrArg some (by kernel_rfl))
  f219 := Tryz.func173.trans (congrArg some (by kernel_rfl))
  f224 := Tryz.func188.trans (congrArg some (by kernel_rfl))
  f225 := Tryz.func187.trans (congrArg some (by kernel_rfl))
  f266 := Tryz.func195.trans (congrArg some (by kernel_rfl))
  f267 := Tryz.func189.trans (congrArg some (by kernel_rfl))
  f314 := Tryz.func196.trans (congrArg some (by kernel_rfl))
  t3 := Tryz.underlying3
  a3 := Tryz.isAgg3
  z3 := Tryz.sizeOf3
  v3 := Tryz.zeroValue3
  t4 := Tryz.underlying4
  a4 := Tryz.isAgg4
  z4 := Tryz.sizeOf4
  v4 := Tryz.zeroValue4
  t5 := Tryz.underlying5
  a5 := Tryz.isAgg5
  z5 := Tryz.sizeOf5
  v5 := Tryz.zeroValue5
  t9 := Tryz.underlying9
  a9 := Tryz.isAgg9
  z9 := Tryz.sizeOf9
  v9 := Tryz.zeroValue9
  t46 := Tryz.underlying109
  a46 := Tryz.isAgg109
  z46 := Tryz.sizeOf109
  v46 := Tryz.zeroValue109
  t51 := Tryz.underlying173
  a51 := Tryz.isAgg173
  z51 := Tryz.sizeOf173
  v51 := Tryz.zeroValue173
  t146 := Tryz.underlying174
  a146 := Tryz.isAgg174
  z146 := Tryz.sizeOf174
  v146 := Tryz.zeroValue174
  g1 := by kernel_rfl
  i3 := by kernel_rfl
  i4 := by kernel_rfl
  i5 := by kernel_rfl
  i9 := by kernel_rfl
  i46 := by kernel_rfl
  i51 := by kernel_rfl
  i146 := by kernel_rfl
  m1 := by kernel_rfl
  s1_3 := fun w h => Go.Proofs.cell_of_shapedOpen_int (zero := #[.int .i64 0]) (t := 3) h (of_decide_eq_true (by kernel_rfl)) (by kernel_rfl) rfl (by kernel_rfl) (by kernel_rfl) Tryz.underlying3 }
open Go.RowKit Go.Lib in
theorem Shelf.strings_Index_shaped (s sub : ByteArray) (w : World) (h : w.ShapedOpen Tryz.prog) (hs : s.size < 4294967281) :
    Calls Tryz.prog 157 #[.string s, .string sub] w fun e w' => e = .returned (.int .i64 (Lib.index s.data.toList sub.data.toList)) ∧ w' = w := Any.strings_Index_shaped Shelf.laysM143 s sub w h hs
end Go.Proofs.YtjeokackmkfooaaGreatDoor
namespace Go.Proofs.YtjeokackmkfooaaGreatDoor
open Go.RowKit
set_option linter.unusedVariables false
namespace Date

/-- the library's variable holds some number -/
def Lim (w : World) : Prop := ∃ m, w.cell? ⟨1, 0, none⟩ = some (.int .i64 m)
theorem lim_of {w : World} (h : w.ShapedOpen Tryz.prog) : Lim w := Shelf.laysM143.s1_3 w h
theorem Lim.lt {w : World} (h : Lim w) : 1 < w.heap.size := by obtain ⟨m, hm⟩ := h; exact Dec.lt_of_cell hm
theorem Lim.below {w w' : World} (h : Lim w) (hb : Below w.heap.size w w') : Lim w' := by
  have hl := h.lt
  obtain ⟨m, hm⟩ := h
  exact ⟨m, (hb.cell (p := ⟨1, 0, none⟩) hl).trans hm⟩
theorem secs_two (x y : Int) (h0 : 0 ≤ x) (h1 : x ≤ 9) (h2 : 0 ≤ y) (h3 : y ≤ 9) : (Sign.secs ⟨#[Num.byte (48 + x), Num.byte (48 + y)]⟩).1 = 10 * x + y := by
  have e1 := dig_val x h0 h1
  have e2 := dig_val y h2 h3
  unfold Sign.secs
  rw [if_pos ⟨(by show 0 < 2; decide), by simp [Sign.dig, e1, e2]; omega⟩]
  simp only [Sign.sec, List.foldl_cons, List.foldl_nil, e1, e2]
  omega
theorem secs_four (x y z u : Int) (h0 : 0 ≤ x) (h1 : x ≤ 9) (h2 : 0 ≤ y) (h3 : y ≤ 9) (h4 : 0 ≤ z) (h5 : z ≤ 9) (h6 : 0 ≤ u) (h7 : u ≤ 9) : (Sign.secs ⟨#[Num.byte (48 + x), Num.byte (48 + y), Num.byte (48 + z), Num.byte (48 + u)]⟩).1 = 1000 * x + 100 * y + 10 * z + u := by
  have e1 := dig_val x h0 h1
  have e2 := dig_val y h2 h3
  have e3 := dig_val z h4 h5
  have e4 := dig_val u h6 h7
  unfold Sign.secs
  rw [if_pos ⟨(by show 0 < 4; decide), by simp [Sign.dig, e1, e2, e3, e4]; omega⟩]
  simp only [Sign.sec, List.foldl_cons, List.foldl_nil, e1, e2, e3, e4]
  omega
theorem secs_bd (t : ByteArray) : 0 ≤ (Sign.secs t).1 ∧ (Sign.secs t).1 ≤ 2147483648 := by
  unfold Sign.secs
  split
  · next h => exact Sign.sec_bd _ h.2
  · exact ⟨by decide, by decide⟩
/-- what the program reckons off a text -/
def dg (s : ByteArray) (a b : Nat) : Int := (Sign.secs (s.extract a b)).1
def midx (s : ByteArray) : Int := Lib.index mnames.data.toList (s.extract 8 11).data.toList
def dayI (s : ByteArray) : Int := days (dg s 12 16) ((midx s).tdiv 3 + 1) (dg s 5 7)
def secI (s : ByteArray) : Int := dayI s * 86400 + dg s 17 19 * 3600 + dg s 20 22 * 60 + dg s 23 25
theorem midx_bd (s : ByteArray) : -1 ≤ midx s ∧ midx s ≤ 36 := ⟨Lib.index_ge _ _, Lib.index_le _ _⟩
theorem index_name (k : Nat) (h : k < 12) : Lib.index mnames.data.toList (name k).data.toList = 3 * (k : Int) := by
  have key : ∀ k : Nat, k < 12 → Lib.index mnames.data.toList (name k).data.toList = 3 * (k : Int) := by decide +kernel
  exact key k h
theorem secI_text (n : Int) (h0 : 0 ≤ n) (h1 : n ≤ 2000000000) : secI (text n) = n := by
  obtain ⟨p1, p2, p3, p4, p5, p6⟩ := parts_in (n / 86400) (by omega) (by omega)
  have hml := mlen_bd (1970 + (yr (n / 86400) : Int)) (mo (n / 86400)) (by omega)
  obtain ⟨a, b, c, p, q, r, hn, ht⟩ := text_form n h0 h1
  have ed : dg (text n) 5 7 = dy (n / 86400) + 1 := by
    have e : (text n).extract 5 7 = ⟨#[Num.byte (48 + (dy (n / 86400) + 1) / 10 % 10), Num.byte (48 + (dy (n / 86400) + 1) % 10)]⟩ := by rw [ht]; rfl
    unfold dg
    rw [e, secs_two _ _ (by omega) (by omega) (by omega) (by omega)]
    omega
  have ey : dg (text n) 12 16 = 1970 + (yr (n / 86400) : Int) := by
    have e : (text n).extract 12 16 = ⟨#[Num.byte (48 + (1970 + (yr (n / 86400) : Int)) / 1000 % 10), Num.byte (48 + (1970 + (yr (n / 86400) : Int)) / 100 % 10), Num.byte (48 + (1970 + (yr (n / 86400) : Int)) / 10 % 10), Num.byte (48 + (1970 + (yr (n / 86400) : Int)) % 10)]⟩ := by rw [ht]; rfl
    unfold dg
    rw [e, secs_four _ _ _ _ (by omega) (by omega) (by omega) (by omega) (by omega) (by omega) (by omega) (by omega)]
    omega
  have eh : dg (text n) 17 19 = n / 3600 % 24 := by
    have e : (text n).extract 17 19 = ⟨#[Num.byte (48 + n / 3600 % 24 / 10 % 10), Num.byte (48 + n / 3600 % 24 % 10)]⟩ := by rw [ht]; rfl
    unfold dg
    rw [e, secs_two _ _ (by omega) (by omega) (by omega) (by omega)]
    omega
  have em : dg (text n) 20 22 = n / 60 % 60 := by
    have e : (text n).extract 20 22 = ⟨#[Num.byte (48 + n / 60 % 60 / 10 % 10), Num.byte (48 + n / 60 % 60 % 10)]⟩ := by rw [ht]; rfl
    unfold dg
    rw [e, secs_two _ _ (by omega) (by omega) (by omega) (by omega)]
    omega
  have es : dg (text n) 23 25 = n % 60 := by
    have e : (text n).extract 23 25 = ⟨#[Num.byte (48 + n % 60 / 10 % 10), Num.byte (48 + n % 60 % 10)]⟩ := by rw [ht]; rfl
    unfold dg
    rw [e, secs_two _ _ (by omega) (by omega) (by omega) (by omega)]
    omega
  have eo : midx (text n) = 3 * (mo (n / 86400) : Int) := by
    have e : (text n).extract 8 11 = name (mo (n / 86400)) := by rw [ht, hn]; rfl
    unfold midx
    rw [e, index_name _ (by omega)]
  have et : (3 * (mo (n / 86400) : Int)).tdiv 3 = (mo (n / 86400) : Int) := by
    rw [Int.tdiv_eq_ediv_of_nonneg (by omega)]; omega
  unfold secI dayI
  rw [ed, ey, eh, em, es, eo, et, days_parts _ _ _ (by omega) (by omega) p3 p4]
  unfold dy
  omega
theorem read_alt (s : ByteArray) (h : s.size = 29) : read s = if shown (secI s) = s then some (secI s) else none := by
  by_cases hs : shown (secI s) = s
  · rw [if_pos hs, read_iff]
    unfold shown at hs
    split at hs
    · next hr => exact ⟨hr, hs⟩
    · rw [← hs] at h; cases h
  · rw [if_neg hs]
    cases hr : read s with
    | none => rfl
    | some n =>
      exfalso
      obtain ⟨⟨h0, h1⟩, ht⟩ := (read_iff s n).1 hr
      apply hs
      rw [← ht, secI_text n h0 h1]
      exact if_pos ⟨h0, h1⟩
set_option maxRecDepth 100000 in
set_option maxHeartbeats 1000000 in
theorem digits_impl (t : ByteArray) (w : World) (hs : t.size ≤ 4) : Calls Tryz.prog 159 #[.string t] w fun e w' => e = .returned (.int .i64 (Sign.secs t).1) ∧ w = w' := by
  have HS := Num.hide (fun W => Sign.seconds_impl t W (by unfold maxLen; omega))
  generalize Sign.secs t = r at HS ⊢
  obtain ⟨x, b⟩ := r
  go_enter Tryz.func159, Tryz.ntmps159
  go_wp2_with fail
  refine (HS.out _).mono ?_
  rintro e w1 ⟨rfl, rfl⟩
  go_wp2
  go_ret
  exact ⟨rfl, rfl⟩
/-- what was there stays; the library's variables lie as they are laid -/
def Keep (w : World) (W : World) : Prop := Below w.heap.size w W ∧ Dec.Tab W ∧ Lim W
theorem Keep.step {w W W' : World} (h : Keep w W) (hb : Below W.heap.size W W') : Keep w W' := ⟨h.1.trans (hb.mono h.1.size), h.2.1.below hb, h.2.2.below hb⟩
theorem Keep.drew {w W : World} (h : Keep w W) : Keep w W.drew := h.step (Below.refl _ _).drew
set_option maxRecDepth 100000 in
set_option maxHeartbeats 8000000 in
theorem read_impl (s : ByteArray) (w : World) (hs : s.size ≤ 4194304) (ht : Dec.Tab w) (hm : Lim w) : Calls Tryz.prog 143 #[.string s] w fun e w' => e = .returned (.tuple #[.int .i64 (readN s), .bool (readB s)]) ∧ Below w.heap.size w w' := by
  by_cases h29 : s.size = 29
  · obtain ⟨N, hN⟩ : ∃ N, readN s = N := ⟨_, rfl⟩
    obtain ⟨b, hb⟩ : ∃ b, readB s = b := ⟨_, rfl⟩
    rw [hN, hb]
    have hra := read_alt s h29
    have HN := Num.hide hN
    have HBb := Num.hide hb
    have HK0 : Hid (Keep w w) := ⟨Below.refl _ _, ht, hm⟩
    have d29 : ((s.size : Int) != 29) = false := by rw [bne_eq_false_iff_eq]; omega
    have h8 : (11 : Int) ≤ (s.size : Int) := by omega
    have h12 : (16 : Int) ≤ (s.size : Int) := by omega
    have h5 : (7 : Int) ≤ (s.size : Int) := by omega
    have h17 : (19 : Int) ≤ (s.size : Int) := by omega
    have h20 : (22 : Int) ≤ (s.size : Int) := by omega
    have h23 : (25 : Int) ≤ (s.size : Int) := by omega
    have hex : ∀ a b : Nat, b ≤ a + 4 → (s.extract a b).size ≤ 4 := fun a b h => by rw [ByteArray.size_extract]; omega
    have HI : Hid (∀ W, Lim W → Calls Tryz.prog 157 #[.string mnames, .string (s.extract 8 11)] W fun e w' => e = .returned (.int .i64 (midx s)) ∧ W = w') := fun W h => by
      obtain ⟨m, h⟩ := h
      exact (Shelf.strings_Index mnames (s.extract 8 11) m W (by decide) h).mono fun e w' ⟨h1, h2⟩ => ⟨h1, h2.symm⟩
    have H1 : Hid (∀ W, Calls Tryz.prog 159 #[.string (s.extract 12 16)] W fun e w' => e = .returned (.int .i64 (dg s 12 16)) ∧ W = w') := fun W => digits_impl _ W (hex _ _ (by omega))
    have H2 : Hid (∀ W, Calls Tryz.prog 159 #[.string (s.extract 5 7)] W fun e w' => e = .returned (.int .i64 (dg s 5 7)) ∧ W = w') := fun W => digits_impl _ W (hex _ _ (by omega))
    have H3 : Hid (∀ W, Calls Tryz.prog 159 #[.string (s.extract 17 19)] W fun e w' => e = .returned (.int .i64 (dg s 17 19)) ∧ W = w') := fun W => digits_impl _ W (hex _ _ (by omega))
    have H4 : Hid (∀ W, Calls Tryz.prog 159 #[.string (s.extract 20 22)] W fun e w' => e = .returned (.int .i64 (dg s 20 22)) ∧ W = w') := fun W => digits_impl _ W (hex _ _ (by omega))
    have H5 : Hid (∀ W, Calls Tryz.prog 159 #[.string (s.extract 23 25)] W fun e w' => e = .returned (.int .i64 (dg s 23 25)) ∧ W = w') := fun W => digits_impl _ W (hex _ _ (by omega))
    have HD : Hid (∀ W, Calls Tryz.prog 158 #[.int .i64 (dg s 12 16), .int .i64 ((midx s).tdiv 3 + 1), .int .i64 (dg s 5 7)] W fun e w' => e = .returned (.int .i64 (dayI s)) ∧ Below W.heap.size W w') := fun W => days_impl _ _ _ W
    have bd := days_bd (dg s 12 16) ((midx s).tdiv 3 + 1) (dg s 5 7)
    change -1 ≤ dayI s ∧ dayI s ≤ 100000 at bd
    have bi := midx_bd s
    have bq : -1 ≤ (midx s).tdiv 3 ∧ (midx s).tdiv 3 ≤ 36 := by
      by_cases e : midx s = -1
      · rw [e]; decide
      · rw [Int.tdiv_eq_ediv_of_nonneg (by omega)]; omega
    have b1 := secs_bd (s.extract 17 19)
    have b2 := secs_bd (s.extract 20 22)
    have b3 := secs_bd (s.extract 23 25)
    change 0 ≤ dg s 17 19 ∧ dg s 17 19 ≤ _ at b1
    change 0 ≤ dg s 20 22 ∧ dg s 20 22 ≤ _ at b2
    change 0 ≤ dg s 23 25 ∧ dg s 23 25 ≤ _ at b3
    have hsec : secI s = dayI s * 86400 + dg s 17 19 * 3600 + dg s 20 22 * 60 + dg s 23 25 := rfl
    have HSh := Num.hide (fun W h => date_impl (secI s) W h)
    rw [hsec] at hra HSh
    clear hN hb hsec ht hm hex
    generalize dayI s = D at HD bd hra HSh
    generalize dg s 12 16 = y at H1 HD
    generalize dg s 5 7 = dd at H2 HD
    generalize dg s 17 19 = hh at H3 b1 hra HSh
    generalize dg s 20 22 = mm at H4 b2 hra HSh
    generalize dg s 23 25 = xx at H5 b3 hra HSh
    generalize midx s = mi at HI HD bi bq
    generalize shown (D * 86400 + hh * 3600 + mm * 60 + xx) = t at hra HSh
    have HRd := Num.hide hra
    clear hra
    unfold mnames at HI
    have v1 : IntKind.i64.wrap (D * 86400) = D * 86400 := by rw [IntKind.wrap_i64]; omega
    have v2 : IntKind.i64.wrap (hh * 3600) = hh * 3600 := by rw [IntKind.wrap_i64]; omega
    have v3 : IntKind.i64.wrap (D * 86400 + hh * 3600) = D * 86400 + hh * 3600 := by rw [IntKind.wrap_i64]; omega
    have v4 : IntKind.i64.wrap (mm * 60) = mm * 60 := by rw [IntKind.wrap_i64]; omega
    have v5 : IntKind.i64.wrap (D * 86400 + hh * 3600 + mm * 60) = D * 86400 + hh * 3600 + mm * 60 := by rw [IntKind.wrap_i64]; omega
    have v6 : IntKind.i64.wrap (D * 86400 + hh * 3600 + mm * 60 + xx) = D * 86400 + hh * 3600 + mm * 60 + xx := by rw [IntKind.wrap_i64]; omega
    go_enter Tryz.func143, Tryz.ntmps143
    go_wp2_with fail
    refine (HI.out _ HK0.out.2.2).mono ?_
    rintro e W1 ⟨rfl, rfl⟩
    clear HI
    go_wp2_with fail
    refine wp_region_held_drew (S := Keep w) (by kernel_rfl) HK0.out.drew (fun hHeld => ?_)
    refine Reg.take (i := 0) (d := 15) (v := ?_) rfl rfl (by kernel_rfl) (by kernel_rfl) (by kernel_rfl) (fun _ _ _ h => h) (by rfl) ?_ hHeld ?_
    rotate_left
    · rintro W ⟨g0, g1, g2⟩
      first | (go_simp; done) | (go_simp; with_reducible rfl)
    simp only [Act.put, List.setIfInBounds_toArray, List.set_cons_zero, List.set_cons_succ]
    refine Reg.take (i := 1) (d := 16) (v := ?_) rfl rfl (by kernel_rfl) (by kernel_rfl) (by kernel_rfl) (fun _ _ _ h => h) (by rfl) ?_ hHeld ?_
    rotate_left
    · rintro W ⟨g0, g1, g2⟩
      first | (go_simp; done) | (go_simp; with_reducible rfl)
    simp only [Act.put, List.setIfInBounds_toArray, List.set_cons_zero, List.set_cons_succ]
    refine Reg.take (i := 3) (d := 18) (v := ?_) rfl rfl (by kernel_rfl) (by kernel_rfl) (by kernel_rfl) (fun _ _ _ h => h) (by rfl) ?_ hHeld ?_
    rotate_left
    · rintro W ⟨g0, g1, g2⟩
      first | (go_simp; done) | (go_simp; with_reducible rfl)
    simp only [Act.put, List.setIfInBounds_toArray, List.set_cons_zero, List.set_cons_succ]
    refine Reg.take (i := 4) (d := 19) (v := ?_) rfl rfl (by kernel_rfl) (by kernel_rfl) (by kernel_rfl) (fun _ _ _ h => h) (by rfl) ?_ hHeld ?_
    rotate_left
    · rintro W ⟨g0, g1, g2⟩
      first | (go_simp; done) | (go_simp; with_reducible rfl)
    simp only [Act.put, List.setIfInBounds_toArray, List.set_cons_zero, List.set_cons_succ]
    refine Reg.take (i := 5) (d := 20) (v := ?_) rfl rfl (by kernel_rfl) (by kernel_rfl) (by kernel_rfl) (fun _ _ _ h => h) (by rfl) ?_ hHeld ?_
    rotate_left
    · rintro W ⟨g0, g1, g2⟩
      first | (go_simp; done) | (go_simp; with_reducible rfl)
    simp only [Act.put, List.setIfInBounds_toArray, List.set_cons_zero, List.set_cons_succ]
    refine Reg.call (i := 2) rfl (by kernel_rfl) (by rfl) (fun K hK => ?_)
    go_wp2_with (first | (go_at_call 159; refine (H1.out _).mono ?_; rintro e W2 ⟨rfl, rfl⟩))
    refine hK.out _ _ ?_ (fun hHeld2 => ?_)
    · exact hHeld
    clear hK K
    replace hHeld := hHeld2
    clear hHeld2
    refine Reg.call (i := 6) rfl (by kernel_rfl) (by rfl) (fun K hK => ?_)
    go_wp2_with (first | (go_at_call 159; refine (H2.out _).mono ?_; rintro e W3 ⟨rfl, rfl⟩))
    refine hK.out _ _ ?_ (fun hHeld2 => ?_)
    · exact hHeld
    clear hK K
    replace hHeld := hHeld2
    clear hHeld2
    refine Reg.call (i := 7) rfl (by kernel_rfl) (by rfl) (fun K hK => ?_)
    go_wp2_with (first | (go_at_call 158; refine (HD.out _).mono ?_; rintro e W4 ⟨rfl, hb4⟩))
    refine hK.out _ _ ?_ (fun hHeld2 => ?_)
    · exact Keep.step hHeld hb4
    clear hK K
    replace hHeld := hHeld2
    clear hHeld2
    refine Reg.take (i := 8) (d := 5) (v := ?_) rfl rfl (by kernel_rfl) (by kernel_rfl) (by kernel_rfl) (fun _ _ _ h => h) (by rfl) ?_ hHeld ?_
    rotate_left
    · rintro W ⟨g0, g1, g2⟩
      first | (go_simp; done) | (go_simp; with_reducible rfl)
    simp only [Act.put, List.setIfInBounds_toArray, List.set_cons_zero, List.set_cons_succ]
    refine wpAnyH_done (by kernel_rfl) ?_ _
    have HK1 := Num.hide hHeld
    clear hHeld H1 H2 HD
    go_wp2_with fail
    refine wp_region_held_drew (S := Keep w) (by kernel_rfl) HK1.out.drew (fun hHeld => ?_)
    refine Reg.take (i := 0) (d := 23) (v := ?_) rfl rfl (by kernel_rfl) (by kernel_rfl) (by kernel_rfl) (fun _ _ _ h => h) (by rfl) ?_ hHeld ?_
    rotate_left
    · rintro W ⟨g0, g1, g2⟩
      first | (go_simp; done) | (go_simp; with_reducible rfl)
    simp only [Act.put, List.setIfInBounds_toArray, List.set_cons_zero, List.set_cons_succ]
    refine Reg.take (i := 1) (d := 24) (v := ?_) rfl rfl (by kernel_rfl) (by kernel_rfl) (by kernel_rfl) (fun _ _ _ h => h) (by rfl) ?_ hHeld ?_
    rotate_left
    · rintro W ⟨g0, g1, g2⟩
      first | (go_simp; done) | (go_simp; with_reducible rfl)
    simp only [Act.put, List.setIfInBounds_toArray, List.set_cons_zero, List.set_cons_succ]
    refine Reg.take (i := 2) (d := 25) (v := ?_) rfl rfl (by kernel_rfl) (by kernel_rfl) (by kernel_rfl) (fun _ _ _ h => h) (by rfl) ?_ hHeld ?_
    rotate_left
    · rintro W ⟨g0, g1, g2⟩
      first | (go_simp; done) | (go_simp; with_reducible rfl)
    simp only [Act.put, List.setIfInBounds_toArray, List.set_cons_zero, List.set_cons_succ]
    refine Reg.take (i := 3) (d := 26) (v := ?_) rfl rfl (by kernel_rfl) (by kernel_rfl) (by kernel_rfl) (fun _ _ _ h => h) (by rfl) ?_ hHeld ?_
    rotate_left
    · rintro W ⟨g0, g1, g2⟩
      first | (go_simp; done) | (go_simp; with_reducible rfl)
    simp only [Act.put, List.setIfInBounds_toArray, List.set_cons_zero, List.set_cons_succ]
    refine Reg.take (i := 7) (d := 30) (v := ?_) rfl rfl (by kernel_rfl) (by kernel_rfl) (by kernel_rfl) (fun _ _ _ h => h) (by rfl) ?_ hHeld ?_
    rotate_left
    · rintro W ⟨g0, g1, g2⟩
      first | (go_simp; done) | (go_simp; with_reducible rfl)
    simp only [Act.put, List.setIfInBounds_toArray, List.set_cons_zero, List.set_cons_succ]
    refine Reg.take (i := 8) (d := 31) (v := ?_) rfl rfl (by kernel_rfl) (by kernel_rfl) (by kernel_rfl) (fun _ _ _ h => h) (by rfl) ?_ hHeld ?_
    rotate_left
    · rintro W ⟨g0, g1, g2⟩
      first | (go_simp; done) | (go_simp; with_reducible rfl)
    simp only [Act.put, List.setIfInBounds_toArray, List.set_cons_zero, List.set_cons_succ]
    refine Reg.take (i := 12) (d := 35) (v := ?_) rfl rfl (by kernel_rfl) (by kernel_rfl) (by kernel_rfl) (fun _ _ _ h => h) (by rfl) ?_ hHeld ?_
    rotate_left
    · rintro W ⟨g0, g1, g2⟩
      first | (go_simp; done) | (go_simp; with_reducible rfl)
    simp only [Act.put, List.setIfInBounds_toArray, List.set_cons_zero, List.set_cons_succ]
    refine Reg.take (i := 13) (d := 36) (v := ?_) rfl rfl (by kernel_rfl) (by kernel_rfl) (by kernel_rfl) (fun _ _ _ h => h) (by rfl) ?_ hHeld ?_
    rotate_left
    · rintro W ⟨g0, g1, g2⟩
      first | (go_simp; done) | (go_simp; with_reducible rfl)
    simp only [Act.put, List.setIfInBounds_toArray, List.set_cons_zero, List.set_cons_succ]
    refine Reg.call (i := 4) rfl (by kernel_rfl) (by rfl) (fun K hK => ?_)
    go_wp2_with (first | (go_at_call 159; refine (H3.out _).mono ?_; rintro e W5 ⟨rfl, rfl⟩))
    refine hK.out _ _ ?_ (fun hHeld2 => ?_)
    · exact hHeld
    clear hK K
    replace hHeld := hHeld2
    clear hHeld2
    refine Reg.take (i := 5) (d := 28) (v := ?_) rfl rfl (by kernel_rfl) (by kernel_rfl) (by kernel_rfl) (fun _ _ _ h => h) (by rfl) ?_ hHeld ?_
    rotate_left
    · rintro W ⟨g0, g1, g2⟩
      first | (go_simp; done) | (go_simp; with_reducible rfl)
    simp only [Act.put, List.setIfInBounds_toArray, List.set_cons_zero, List.set_cons_succ]
    refine Reg.take (i := 6) (d := 29) (v := ?_) rfl rfl (by kernel_rfl) (by kernel_rfl) (by kernel_rfl) (fun _ _ _ h => h) (by rfl) ?_ hHeld ?_
    rotate_left
    · rintro W ⟨g0, g1, g2⟩
      first | (go_simp; done) | (go_simp; with_reducible rfl)
    simp only [Act.put, List.setIfInBounds_toArray, List.set_cons_zero, List.set_cons_succ]
    refine Reg.call (i := 9) rfl (by kernel_rfl) (by rfl) (fun K hK => ?_)
    go_wp2_with (first | (go_at_call 159; refine (H4.out _).mono ?_; rintro e W6 ⟨rfl, rfl⟩))
    refine hK.out _ _ ?_ (fun hHeld2 => ?_)
    · exact hHeld
    clear hK K
    replace hHeld := hHeld2
    clear hHeld2
    refine Reg.take (i := 10) (d := 33) (v := ?_) rfl rfl (by kernel_rfl) (by kernel_rfl) (by kernel_rfl) (fun _ _ _ h => h) (by rfl) ?_ hHeld ?_
    rotate_left
    · rintro W ⟨g0, g1, g2⟩
      first | (go_simp; done) | (go_simp; with_reducible rfl)
    simp only [Act.put, List.setIfInBounds_toArray, List.set_cons_zero, List.set_cons_succ]
    refine Reg.take (i := 11) (d := 34) (v := ?_) rfl rfl (by kernel_rfl) (by kernel_rfl) (by kernel_rfl) (fun _ _ _ h => h) (by rfl) ?_ hHeld ?_
    rotate_left
    · rintro W ⟨g0, g1, g2⟩
      first | (go_simp; done) | (go_simp; with_reducible rfl)
    simp only [Act.put, List.setIfInBounds_toArray, List.set_cons_zero, List.set_cons_succ]
    refine Reg.call (i := 14) rfl (by kernel_rfl) (by rfl) (fun K hK => ?_)
    go_wp2_with (first | (go_at_call 159; refine (H5.out _).mono ?_; rintro e W7 ⟨rfl, rfl⟩))
    refine hK.out _ _ ?_ (fun hHeld2 => ?_)
    · exact hHeld
    clear hK K
    replace hHeld := hHeld2
    clear hHeld2
    refine Reg.take (i := 15) (d := 38) (v := ?_) rfl rfl (by kernel_rfl) (by kernel_rfl) (by kernel_rfl) (fun _ _ _ h => h) (by rfl) ?_ hHeld ?_
    rotate_left
    · rintro W ⟨g0, g1, g2⟩
      first | (go_simp; done) | (go_simp; with_reducible rfl)
    simp only [Act.put, List.setIfInBounds_toArray, List.set_cons_zero, List.set_cons_succ]
    refine Reg.take (i := 16) (d := 6) (v := ?_) rfl rfl (by kernel_rfl) (by kernel_rfl) (by kernel_rfl) (fun _ _ _ h => h) (by rfl) ?_ hHeld ?_
    rotate_left
    · rintro W ⟨g0, g1, g2⟩
      first | (go_simp; done) | (go_simp; with_reducible rfl)
    simp only [Act.put, List.setIfInBounds_toArray, List.set_cons_zero, List.set_cons_succ]
    refine wpAnyH_done (by kernel_rfl) ?_ _
    have HK2 := Num.hide hHeld
    clear hHeld H3 H4 H5
    by_cases g5 : t = s
    · have hr := HRd.out
      rw [if_pos g5] at hr
      subst g5
      obtain rfl : N = D * 86400 + hh * 3600 + mm * 60 + xx := by rw [← HN.out]; unfold readN; rw [hr]; rfl
      obtain rfl : b = true := by rw [← HBb.out]; unfold readB; rw [hr]; rfl
      clear hr HRd HN HBb
      go_wp2_with fail
      refine (HSh.out _ HK2.out.2.1).mono ?_
      rintro e w3 ⟨rfl, hb3⟩
      have HB3 := Num.hide (HK2.out.1.trans (hb3.mono HK2.out.1.size))
      clear hb3
      go_wp2
      go_ret2
      exact ⟨rfl, HB3.out⟩
    · have hr := HRd.out
      rw [if_neg g5] at hr
      have hq : (t.toList == s.toList) = false := by
        rw [beq_eq_false_iff_ne, ByteArray.toList_eq, ByteArray.toList_eq]
        intro e; exact g5 (ByteArray.ext (Array.toList_inj.1 e))
      have hq2 : (t.toList != s.toList) = true := by rw [bne, hq]; rfl
      obtain rfl : N = 0 := by rw [← HN.out]; unfold readN; rw [hr]; rfl
      obtain rfl : b = false := by rw [← HBb.out]; unfold readB; rw [hr]; rfl
      clear hr HRd HN HBb g5
      go_wp2_with fail
      refine (HSh.out _ HK2.out.2.1).mono ?_
      rintro e w3 ⟨rfl, hb3⟩
      have HB3 := Num.hide (HK2.out.1.trans (hb3.mono HK2.out.1.size))
      clear hb3
      go_wp2
      go_ret2
      exact ⟨rfl, HB3.out⟩
  · have hr : read s = none := by unfold read; rw [if_neg h29]
    have hN : readN s = 0 := by unfold readN; rw [hr]; rfl
    have hb : readB s = false := by unfold readB; rw [hr]; rfl
    rw [hN, hb]
    have d29 : ((s.size : Int) != 29) = true := by rw [bne_iff_ne]; omega
    clear hr hN hb h29 ht hm
    go_enter Tryz.func143, Tryz.ntmps143
    go_wp2
    go_ret2
    exact ⟨rfl, Below.refl _ _⟩
end Date
end Go.Proofs.YtjeokackmkfooaaGreatDoor
namespace Go.Proofs.YtjeokackmkfooaaGreatDoor
open Go.RowKit
set_option linter.unusedVariables false
namespace Age
open Flds (Fld ret_int)

/-- how much later the second is than the first; nothing where it is not, or the first is below nothing -/
def later (x y : Int) : Int := if x < 0 ∨ y < x then 0 else y - x
theorem later_bd (x y : Int) (hy : y ≤ 9223372036854775807) : 0 ≤ later x y ∧ later x y ≤ 9223372036854775807 := by unfold later; split <;> omega
theorem later_delay (x y : Int) : later x y = delay x y := by unfold later delay; split <;> split <;> omega
theorem later_here (x y : Int) : later x y = here x y := by unfold later here; split <;> split <;> omega
set_option maxRecDepth 100000 in
set_option maxHeartbeats 1000000 in
theorem later_impl (x y : Int) (w : World) (hy : y ≤ 9223372036854775807) : Calls Tryz.prog 72 #[.int .i64 x, .int .i64 y] w fun e w' => e = .returned (.int .i64 (later x y)) ∧ w = w' := by
  obtain ⟨r, hr⟩ : ∃ r, later x y = r := ⟨_, rfl⟩
  rw [hr]
  unfold later at hr
  by_cases h1 : x < 0
  · have d1 : decide (x < 0) = true := decide_eq_true h1
    obtain rfl : r = 0 := by rw [← hr, if_pos (.inl h1)]
    clear hr h1
    go_enter Tryz.func72, Tryz.ntmps72
    go_wp2
    go_ret
    exact ⟨rfl, rfl⟩
  · have d1 : decide (x < 0) = false := decide_eq_false h1
    by_cases h2 : y < x
    · have d2 : decide (y < x) = true := decide_eq_true h2
      obtain rfl : r = 0 := by rw [← hr, if_pos (.inr h2)]
      clear hr h1 h2
      go_enter Tryz.func72, Tryz.ntmps72
      go_wp2
      go_ret
      exact ⟨rfl, rfl⟩
    · have d2 : decide (y < x) = false := decide_eq_false h2
      obtain rfl : r = y - x := by rw [← hr, if_neg (by omega)]
      clear hr
      go_enter Tryz.func72, Tryz.ntmps72
      go_wp2
      all_goals go_ret
      all_goals exact ⟨ret_int (by omega), rfl⟩
theorem get_fits (l : List Fld) (name : ByteArray) (hl : Flds.bulk l ≤ 1048576) : (Flds.get l name).1.size ≤ 4194304 := by
  have h := Flds.get_size l name
  unfold Flds.bulk at hl
  omega
theorem get_none (l : List Fld) (name : ByteArray) : (Flds.get l name).2 = false → (Flds.get l name).1 = ⟨#[]⟩ := by
  refine Num.snoc_ind (P := fun l => (Flds.get l name).2 = false → (Flds.get l name).1 = ⟨#[]⟩) (fun _ => rfl) ?_ l
  intro l f ih
  have e : Flds.get (l ++ [f]) name = Flds.getStep name (Flds.get l name) f := by unfold Flds.get; rw [List.foldl_append]; rfl
  rw [e]
  unfold Flds.getStep
  split
  · intro h; simp at h
  · exact ih
theorem dateOf_read (l : List Fld) (name : ByteArray) : dateOf l name = (Date.readN (Flds.get l name).1, Date.readB (Flds.get l name).1) := by
  unfold dateOf
  split
  · rfl
  · next h =>
    have hr : Date.read ⟨#[]⟩ = none := by unfold Date.read; rw [if_neg (by decide)]
    rw [get_none l name (by simpa using h)]
    unfold Date.readN Date.readB
    rw [hr]; rfl
/-- the library's variables lie as they are laid -/
def Env (w : World) : Prop := Dec.Tab w ∧ Date.Lim w
theorem Env.below {w w' : World} (h : Env w) (hb : Below w.heap.size w w') : Env w' := ⟨h.1.below hb, h.2.below hb⟩
set_option maxRecDepth 100000 in
set_option maxHeartbeats 1000000 in
theorem dateOf_impl (v : Value) (l : List Fld) (name : ByteArray) (w : World) (h : Flds.Is w v l) (hl : Flds.bulk l ≤ 1048576) (hE : Env w) :
    Calls Tryz.prog 128 #[v, .string name] w fun e w' => e = .returned (.tuple #[.int .i64 (dateOf l name).1, .bool (dateOf l name).2]) ∧ Below w.heap.size w w' := by
  have HG := Num.hide (Flds.get_impl v l name w h (by omega))
  have HD := Num.hide (fun W hE => Date.read_impl (Flds.get l name).1 W (get_fits l name hl) (And.left hE) (And.right hE))
  rw [dateOf_read]
  generalize (Flds.get l name).1 = s at HG HD ⊢
  generalize Date.readN s = n at HD
  generalize Date.readB s = f at HD
  have HE := Num.hide hE
  clear h hE
  go_enter Tryz.func128, Tryz.ntmps128
  go_wp2_with fail
  refine HG.out.mono ?_
  rintro e w1 ⟨rfl, hb1⟩
  have HE1 := Num.hide (HE.out.below hb1)
  have HB := Num.hide hb1
  clear hb1
  go_wp2_with fail
  refine (HD.out _ HE1.out).mono ?_
  rintro e w2 ⟨rfl, hb2⟩
  have HB2 := Num.hide (HB.out.trans (hb2.mono HB.out.size))
  clear hb2
  go_wp2
  go_ret2
  exact ⟨rfl, HB2.out⟩
theorem apparent_later (l : List Fld) (came : Int) : apparent l came = if (dateOf l dateName).2 = true then clamp (later (dateOf l dateName).1 came) else 0 := by
  have h := dateOf_bd l dateName
  unfold apparent clamp later
  generalize dateOf l dateName = d at h ⊢
  obtain ⟨D, db⟩ := d
  simp only at h ⊢
  by_cases h1 : db = true
  · rw [if_pos h1]
    by_cases h2 : D < came
    · rw [if_pos ⟨h1, h2⟩, if_neg (by omega)]; omega
    · rw [if_neg (fun h => h2 h.2)]
      by_cases h3 : D < 0 ∨ came < D
      · rw [if_pos h3]; omega
      · rw [if_neg h3]; omega
  · rw [if_neg h1, if_neg (fun h => h1 h.1)]
set_option maxRecDepth 100000 in
set_option maxHeartbeats 1000000 in
theorem byDate_impl (v : Value) (l : List Fld) (came : Int) (w : World) (h : Flds.Is w v l) (hl : Flds.bulk l ≤ 1048576) (hcm : came ≤ 9223372036854775807) (hE : Env w) :
    Calls Tryz.prog 101 #[v, .int .i64 came] w fun e w' => e = .returned (.int .i64 (apparent l came)) ∧ Below w.heap.size w w' := by
  have HD := Num.hide (dateOf_impl v l dateName w h hl hE)
  rw [apparent_later]
  generalize dateOf l dateName = d at HD ⊢
  obtain ⟨D, db⟩ := d
  simp only at HD ⊢
  clear h hE
  cases db with
  | false =>
    rw [if_neg (by simp)]
    go_enter Tryz.func101, Tryz.ntmps101
    go_wp2_with fail
    refine HD.out.mono ?_
    rintro e w1 ⟨rfl, hb1⟩
    have HB := Num.hide hb1
    clear hb1
    go_wp2
    go_ret
    exact ⟨rfl, HB.out⟩
  | true =>
    rw [if_pos rfl]
    have HL := Num.hide (fun W => later_impl D came W hcm)
    have HS := Num.hide (fun W => satSec_impl (later D came) W)
    generalize later D came = L at HL HS ⊢
    generalize clamp L = C at HS ⊢
    go_enter Tryz.func101, Tryz.ntmps101
    go_wp2_with fail
    refine HD.out.mono ?_
    rintro e w1 ⟨rfl, hb1⟩
    have HB := Num.hide hb1
    clear hb1
    go_wp2_with fail
    refine (HL.out _).mono ?_
    rintro e w2 ⟨rfl, rfl⟩
    go_wp2_with fail
    refine (HS.out _).mono ?_
    rintro e w3 ⟨rfl, rfl⟩
    go_wp2
    go_ret
    exact ⟨rfl, HB.out⟩
set_option maxRecDepth 100000 in
set_option maxHeartbeats 1000000 in
theorem byField_impl (v : Value) (l : List Fld) (asked came : Int) (w : World) (h : Flds.Is w v l) (hl : Flds.bulk l ≤ 1048576) (hcm : came ≤ 9223372036854775807) :
    Calls Tryz.prog 102 #[v, .int .i64 asked, .int .i64 came] w fun e w' => e = .returned (.int .i64 (satAdd (told l) (delay asked came))) ∧ Below w.heap.size w w' := by
  have HG := Num.hide (Flds.get_impl v l ageName w h (by omega))
  have HS := Num.hide (fun W => Sign.seconds_impl (Flds.get l ageName).1 W (by have := get_fits l ageName hl; unfold maxLen; omega))
  unfold told
  generalize Flds.get l ageName = g at HG HS ⊢
  obtain ⟨s, bs⟩ := g
  simp only at HG HS ⊢
  generalize Sign.secs s = sc at HS ⊢
  obtain ⟨T, tb⟩ := sc
  simp only at HS ⊢
  rw [← later_delay]
  have HL := Num.hide (fun W => later_impl asked came W hcm)
  generalize later asked came = L at HL ⊢
  have HA := Num.hide (fun W => satAdd_impl T L W)
  generalize satAdd T L = r at HA ⊢
  clear h
  go_enter Tryz.func102, Tryz.ntmps102
  go_wp2_with fail
  refine HG.out.mono ?_
  rintro e w1 ⟨rfl, hb1⟩
  have HB := Num.hide hb1
  clear hb1
  go_wp2_with fail
  refine (HS.out _).mono ?_
  rintro e w2 ⟨rfl, rfl⟩
  go_wp2_with fail
  refine (HL.out _).mono ?_
  rintro e w3 ⟨rfl, rfl⟩
  go_wp2_with fail
  refine (HA.out _).mono ?_
  rintro e w4 ⟨rfl, rfl⟩
  go_wp2
  go_ret
  exact ⟨rfl, HB.out⟩
end Age
end Go.Proofs.YtjeokackmkfooaaGreatDoor
namespace Go.Proofs.YtjeokackmkfooaaGreatDoor
open Go.RowKit Go.WideMaps Go.Maps
set_option linter.unusedVariables false
namespace Cc
open Flds (Fld)
set_option maxRecDepth 100000 in
set_option maxHeartbeats 1000000 in
theorem sec_impl (v : Value) (l : List Fld) (name : ByteArray) (w : World) (h : Flds.Is w v l) (hl : Flds.bulk l ≤ 1048576) (hn : name.size ≤ 1048576) (hm : Lim w) (hS : Sign.Signs w) :
    Calls Tryz.prog 99 #[v, .string name] w fun e w' => e = .returned (.tuple #[.int .i64 (sec (dirs l) name).1, .bool (sec (dirs l) name).2]) ∧ Below w.heap.size w w' := by
  have HL := Num.hide (least_impl v l w h hl hm hS)
  obtain ⟨r, hr⟩ : ∃ r, sec (dirs l) name = r := ⟨_, rfl⟩
  rw [hr]
  unfold sec at hr
  generalize dirs l = d at HL hr
  have HK := Num.hide (key_of name (by unfold maxLen; omega))
  clear h hm hS
  cases hc : least d name with
  | none =>
    rw [hc] at hr
    subst hr
    have hcc := Num.hide hc
    clear hc
    go_enter Tryz.func99, Tryz.ntmps99
    go_wp2_with fail
    refine HL.out.mono ?_
    rintro e w1 ⟨rfl, ⟨D, hown, hT⟩, hb⟩
    have hbf : Go.Maps.has D (key name) = false := by (rw [(hT name).1, hcc.out]; rfl)
    have HC : Hid (∀ c, D.atKey (key name) (.lit (.int .i64 0)) = .lit (.int .i64 c) → c = 0) := (by intro c hc; rw [atKey_of_not_has hbf] at hc; injection hc with hc; injection hc with _ hc; exact hc.symm)
    have HO := Num.hide hown
    have HB := Num.hide hb
    clear hown hT hb
    go_wp2_with (at_lookup; refine wpList_lookup_own_ok_int _ rfl _ _ 110 rfl 9 3 .i64 law Tryz.underlying110 Tryz.underlying3 (zeroI _) w.heap.size _ D rfl HO.out _ _ rfl HK.out ?_; intro c0 hat hwc; obtain rfl := HC.out c0 hat; clear hat hwc)
    go_ret2
    exact ⟨rfl, HB.out⟩
  | some c =>
    rw [hc] at hr
    subst hr
    have hcc := Num.hide hc
    clear hc
    go_enter Tryz.func99, Tryz.ntmps99
    go_wp2_with fail
    refine HL.out.mono ?_
    rintro e w1 ⟨rfl, ⟨D, hown, hT⟩, hb⟩
    have hbt : Go.Maps.has D (key name) = true := by (rw [(hT name).1, hcc.out]; rfl)
    have HC : Hid (∀ c', D.atKey (key name) (.lit (.int .i64 0)) = .lit (.int .i64 c') → c' = c) := (by intro c' hc'; rw [(hT name).2 c hcc.out] at hc'; injection hc' with hc'; injection hc' with _ hc'; exact hc'.symm)
    have HO := Num.hide hown
    have HB := Num.hide hb
    clear hown hT hb
    go_wp2_with (at_lookup; refine wpList_lookup_own_ok_int _ rfl _ _ 110 rfl 9 3 .i64 law Tryz.underlying110 Tryz.underlying3 (zeroI _) w.heap.size _ D rfl HO.out _ _ rfl HK.out ?_; intro c0 hat hwc; obtain rfl := HC.out c0 hat; clear hat hwc)
    go_ret2
    exact ⟨rfl, HB.out⟩
end Cc
end Go.Proofs.YtjeokackmkfooaaGreatDoor
namespace Go.Proofs.YtjeokackmkfooaaGreatDoor
open Go.RowKit
set_option linter.unusedVariables false
set_option linter.unusedSimpArgs false
namespace Age
open Flds (Fld ret_int)

/-- the library's variables, and the program's table of signs, lie as they are laid -/
def EnvS (w : World) : Prop := Env w ∧ Sign.Signs w
theorem EnvS.below {w w' : World} (h : EnvS w) (hb : Below w.heap.size w w') : EnvS w' := ⟨h.1.below hb, Cc.signs_below h.2 hb (Cc.signs_lt h.2)⟩
/-- what expires says -/
def untilE (l : List Fld) : Int × Bool := (if (dateOf l expiresName).2 = true ∧ (dateOf l dateName).2 = true then later (dateOf l dateName).1 (dateOf l expiresName).1 else 0, (Flds.get l expiresName).2)
/-- what last-modified says -/
def partL (l : List Fld) : Int × Bool := (later (dateOf l lastName).1 (dateOf l dateName).1 / 10, (dateOf l lastName).2 && (dateOf l dateName).2)
theorem lifetime_src (l : List Fld) : lifetime l = if (Cc.sec (Cc.dirs l) sMaxAge).2 = true then (Cc.sec (Cc.dirs l) sMaxAge).1 else if (Cc.sec (Cc.dirs l) maxAge).2 = true then (Cc.sec (Cc.dirs l) maxAge).1 else if (untilE l).2 = true then (untilE l).1 else if (partL l).2 = true then (partL l).1 else 0 := by
  have h1 := dateOf_bd l expiresName
  have h2 := dateOf_bd l dateName
  have h3 := dateOf_bd l lastName
  have e1 : max 0 ((dateOf l expiresName).1 - (dateOf l dateName).1) = later (dateOf l dateName).1 (dateOf l expiresName).1 := by unfold later; split <;> omega
  have e2 : max 0 ((dateOf l dateName).1 - (dateOf l lastName).1) = later (dateOf l lastName).1 (dateOf l dateName).1 := by unfold later; split <;> omega
  unfold lifetime untilE partL
  rw [e1, e2]
  cases (Cc.sec (Cc.dirs l) sMaxAge).2 <;> cases (Cc.sec (Cc.dirs l) maxAge).2 <;> cases (Flds.get l expiresName).2 <;> cases (dateOf l lastName).2 <;> cases (dateOf l dateName).2 <;> simp
set_option maxRecDepth 100000 in
set_option maxHeartbeats 1000000 in
theorem until_impl (v : Value) (l : List Fld) (w : World) (h : Flds.Is w v l) (hl : Flds.bulk l ≤ 1048576) (hE : Env w) :
    Calls Tryz.prog 107 #[v] w fun e w' => e = .returned (.tuple #[.int .i64 (untilE l).1, .bool (untilE l).2]) ∧ Below w.heap.size w w' := by
  have HG := Num.hide (Flds.get_impl v l expiresName w h (by omega))
  have HX := Num.hide (fun W h hE => dateOf_impl v l expiresName W h hl hE)
  have HD := Num.hide (fun W h hE => dateOf_impl v l dateName W h hl hE)
  have HI := Num.hide h
  have HE := Num.hide hE
  have b1 := dateOf_bd l expiresName
  unfold untilE
  generalize dateOf l expiresName = X at HX b1 ⊢
  generalize dateOf l dateName = D at HD ⊢
  generalize Flds.get l expiresName = E at HG ⊢
  obtain ⟨X1, X2⟩ := X
  obtain ⟨D1, D2⟩ := D
  obtain ⟨E1, E2⟩ := E
  simp only at HG HX HD b1 ⊢
  clear h hE
  have HL := Num.hide (fun W => later_impl D1 X1 W (by omega))
  generalize later D1 X1 = L at HL ⊢
  obtain ⟨R, hR⟩ : ∃ R, (if X2 = true ∧ D2 = true then L else 0) = R := ⟨_, rfl⟩
  rw [hR]
  have HR := Num.hide hR
  clear hR
  go_enter Tryz.func107, Tryz.ntmps107
  go_wp2_with fail
  refine HG.out.mono ?_
  rintro e w1 ⟨rfl, hb⟩
  have HI1 := Num.hide (Recs.is_below HI.out hb)
  have HE1 := Num.hide (HE.out.below hb)
  have HB1 := Num.hide hb
  clear hb HI HE HG
  go_wp2_with fail
  refine (HX.out _ HI1.out HE1.out).mono ?_
  rintro e w2 ⟨rfl, hb⟩
  have HI2 := Num.hide (Recs.is_below HI1.out hb)
  have HE2 := Num.hide (HE1.out.below hb)
  have HB2 := Num.hide (HB1.out.trans (hb.mono HB1.out.size))
  clear hb HI1 HE1 HB1 HX
  go_wp2_with fail
  refine (HD.out _ HI2.out HE2.out).mono ?_
  rintro e w3 ⟨rfl, hb⟩
  have HB3 := Num.hide (HB2.out.trans (hb.mono HB2.out.size))
  clear hb HI2 HE2 HB2 HD
  cases X2 with
  | false =>
    obtain rfl : R = 0 := by rw [← HR.out, if_neg (by simp)]
    go_wp2
    go_ret2
    exact ⟨rfl, HB3.out⟩
  | true =>
    cases D2 with
    | false =>
      obtain rfl : R = 0 := by rw [← HR.out, if_neg (by simp)]
      go_wp2
      go_ret2
      exact ⟨rfl, HB3.out⟩
    | true =>
      obtain rfl : L = R := by rw [← HR.out, if_pos ⟨rfl, rfl⟩]
      clear HR
      go_wp2_with fail
      refine (HL.out _).mono ?_
      rintro e w4 ⟨rfl, rfl⟩
      go_wp2
      go_ret2
      exact ⟨rfl, HB3.out⟩
set_option maxRecDepth 100000 in
set_option maxHeartbeats 1000000 in
theorem part_impl (v : Value) (l : List Fld) (w : World) (h : Flds.Is w v l) (hl : Flds.bulk l ≤ 1048576) (hE : Env w) :
    Calls Tryz.prog 109 #[v] w fun e w' => e = .returned (.tuple #[.int .i64 (partL l).1, .bool (partL l).2]) ∧ Below w.heap.size w w' := by
  have HX := Num.hide (dateOf_impl v l lastName w h hl hE)
  have HD := Num.hide (fun W h hE => dateOf_impl v l dateName W h hl hE)
  have HI := Num.hide h
  have HE := Num.hide hE
  have b1 := dateOf_bd l dateName
  unfold partL
  generalize dateOf l lastName = X at HX ⊢
  generalize dateOf l dateName = D at HD b1 ⊢
  obtain ⟨X1, X2⟩ := X
  obtain ⟨D1, D2⟩ := D
  simp only at HX HD b1 ⊢
  clear h hE
  have HL := Num.hide (fun W => later_impl X1 D1 W (by omega))
  have b2 := later_bd X1 D1 (by omega)
  generalize later X1 D1 = L at HL b2 ⊢
  go_enter Tryz.func109, Tryz.ntmps109
  go_wp2_with fail
  refine HX.out.mono ?_
  rintro e w1 ⟨rfl, hb⟩
  have HI1 := Num.hide (Recs.is_below HI.out hb)
  have HE1 := Num.hide (HE.out.below hb)
  have HB1 := Num.hide hb
  clear hb HI HE HX
  go_wp2_with fail
  refine (HD.out _ HI1.out HE1.out).mono ?_
  rintro e w2 ⟨rfl, hb⟩
  have HB2 := Num.hide (HB1.out.trans (hb.mono HB1.out.size))
  clear hb HI1 HE1 HB1 HD
  go_wp2_with fail
  refine (HL.out _).mono ?_
  rintro e w4 ⟨rfl, rfl⟩
  cases X2 with
  | false =>
    go_wp2
    go_ret2
    exact ⟨rfl, HB2.out⟩
  | true =>
    go_wp2
    go_ret2
    exact ⟨rfl, HB2.out⟩
set_option maxRecDepth 100000 in
set_option maxHeartbeats 1000000 in
theorem src1_impl (p : Addr) (v : Value) (l : List Fld) (w : World) (hp : w.cell? p = some v) (h : Flds.Is w v l) (hl : Flds.bulk l ≤ 1048576) (hE : EnvS w) :
    Calls Tryz.prog 104 #[.pointer (some p)] w fun e w' => e = .returned (.tuple #[.int .i64 (Cc.sec (Cc.dirs l) sMaxAge).1, .bool (Cc.sec (Cc.dirs l) sMaxAge).2]) ∧ Below w.heap.size w w' := by
  have HS := Num.hide (Cc.sec_impl v l sMaxAge w h hl (by decide) hE.1.2 hE.2)
  generalize Cc.sec (Cc.dirs l) sMaxAge = S at HS ⊢
  obtain ⟨S1, S2⟩ := S
  clear h hE
  go_enter Tryz.func104, Tryz.ntmps104
  go_wp2_with fail
  refine HS.out.mono ?_
  rintro e w1 ⟨rfl, hb⟩
  have HB := Num.hide hb
  clear hb
  go_wp2
  go_ret2
  exact ⟨rfl, HB.out⟩
set_option maxRecDepth 100000 in
set_option maxHeartbeats 1000000 in
theorem src2_impl (p : Addr) (v : Value) (l : List Fld) (w : World) (hp : w.cell? p = some v) (h : Flds.Is w v l) (hl : Flds.bulk l ≤ 1048576) (hE : EnvS w) :
    Calls Tryz.prog 105 #[.pointer (some p)] w fun e w' => e = .returned (.tuple #[.int .i64 (Cc.sec (Cc.dirs l) maxAge).1, .bool (Cc.sec (Cc.dirs l) maxAge).2]) ∧ Below w.heap.size w w' := by
  have HS := Num.hide (Cc.sec_impl v l maxAge w h hl (by decide) hE.1.2 hE.2)
  generalize Cc.sec (Cc.dirs l) maxAge = S at HS ⊢
  obtain ⟨S1, S2⟩ := S
  clear h hE
  go_enter Tryz.func105, Tryz.ntmps105
  go_wp2_with fail
  refine HS.out.mono ?_
  rintro e w1 ⟨rfl, hb⟩
  have HB := Num.hide hb
  clear hb
  go_wp2
  go_ret2
  exact ⟨rfl, HB.out⟩
set_option maxRecDepth 100000 in
set_option maxHeartbeats 1000000 in
theorem src3_impl (p : Addr) (v : Value) (l : List Fld) (w : World) (hp : w.cell? p = some v) (h : Flds.Is w v l) (hl : Flds.bulk l ≤ 1048576) (hE : EnvS w) :
    Calls Tryz.prog 106 #[.pointer (some p)] w fun e w' => e = .returned (.tuple #[.int .i64 (untilE l).1, .bool (untilE l).2]) ∧ Below w.heap.size w w' := by
  have HS := Num.hide (until_impl v l w h hl hE.1)
  generalize untilE l = S at HS ⊢
  obtain ⟨S1, S2⟩ := S
  clear h hE
  go_enter Tryz.func106, Tryz.ntmps106
  go_wp2_with fail
  refine HS.out.mono ?_
  rintro e w1 ⟨rfl, hb⟩
  have HB := Num.hide hb
  clear hb
  go_wp2
  go_ret2
  exact ⟨rfl, HB.out⟩
set_option maxRecDepth 100000 in
set_option maxHeartbeats 1000000 in
theorem src4_impl (p : Addr) (v : Value) (l : List Fld) (w : World) (hp : w.cell? p = some v) (h : Flds.Is w v l) (hl : Flds.bulk l ≤ 1048576) (hE : EnvS w) :
    Calls Tryz.prog 108 #[.pointer (some p)] w fun e w' => e = .returned (.tuple #[.int .i64 (partL l).1, .bool (partL l).2]) ∧ Below w.heap.size w w' := by
  have HS := Num.hide (part_impl v l w h hl hE.1)
  generalize partL l = S at HS ⊢
  obtain ⟨S1, S2⟩ := S
  clear h hE
  go_enter Tryz.func108, Tryz.ntmps108
  go_wp2_with fail
  refine HS.out.mono ?_
  rintro e w1 ⟨rfl, hb⟩
  have HB := Num.hide hb
  clear hb
  go_wp2
  go_ret2
  exact ⟨rfl, HB.out⟩
end Age
end Go.Proofs.YtjeokackmkfooaaGreatDoor
