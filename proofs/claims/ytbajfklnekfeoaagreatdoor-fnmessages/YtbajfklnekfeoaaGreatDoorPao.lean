/-
  PieceNum: One piece of a body, read off a text from a place on, plain.
  ParseHex: The library's ParseUint at base 16, walked, for texts of at most six bytes; what was there stays.
  ShelfErr: Library contracts at this program: strconv_syntaxError.
  ReadHexImpl: ReadHexNum of the program: what the call returns, for every text; what was there stays.
  ShelfCut: Library contracts at this program: strings_Cut, strings_Cut_shaped.
  ShelfPrefix: Library contracts at this program: strings_HasPrefix.
-/
import Derived.Test.YtbajfklnekfeoaaGreatDoorPag
import Derived.Test.YtbajfklnekfeoaaGreatDoorPaf
import Derived.Test.YtbajfklnekfeoaaGreatDoorSignNum
import Derived.Lib.Strings
import Derived.Test.YtbajfklnekfeoaaGreatDoorLowerNum
import Derived.Test.YtbajfklnekfeoaaGreatDoorRecs
import Derived.Laws.BitsLemmas
import Derived.BigCall
import Derived.BigGuard
import Derived.Shelf.Strings.Builder1
import Derived.Shelf.Strings.Builder2
import Derived.Shelf.Strings.OnBuilder
import Derived.Shelf.Strings.Trim
import Derived.Shelf.Small.Utf8
import Derived.Shelf.Small.Strs
import Derived.Shelf.Strings.BuilderF
import Derived.Shelf.Strings.BuilderK
import Derived.Shelf.Strconv.Atoi
import Derived.Shelf.Strconv.Itoa0
import Derived.Shelf.Strconv.Itoa1
import Derived.Shelf.LaysM
import Derived.Shelf.Strconv.Itoa2
import Derived.Shelf.Strconv.Itoa3
import Derived.Shelf.Strconv.AtoiErrFast
import Derived.Shelf.Strconv.ParseIntEmpty
import Derived.Shelf.Strconv.AtoiFail
import Derived.Shelf.Strconv.Clone
import Derived.Shelf.Strconv.SyntaxError
import Derived.Shelf.LaysC
import Derived.Shelf.Strconv.ToError
import Derived.Shelf.Strconv.AtoiErr
import Derived.Shelf.Strconv.ErrVar
import Derived.Shelf.Strings.Search1
import Derived.Shelf.Strings.Search2
import Derived.Shelf.Strings.Search3
import Derived.Shelf.Strings.Cut
import Derived.Shelf.Strings.Shaped
import Derived.Shelf.Strings.Prefix
import Derived.Shelf.Unicode.Decode
import Derived.Shelf.Strings.Runes
import Derived.Shelf.Strings.AsciiSet
import Derived.Shelf.Unicode.DecodeSlow
import Derived.Shelf.Unicode.DecodeAny
import Derived.Shelf.Unicode.DecodeLast
import Derived.Test.YtbajfklnekfeoaaGreatDoorRows
import Derived.Lib.IfaceEq
namespace Go.Proofs.YtbajfklnekfeoaaGreatDoor
open Go.RowKit
set_option linter.unusedVariables false
namespace Body
open Line (byteAt byteAt_eq)

/-- a piece: its bytes, how many it takes up, and the code -/
abbrev Pc0 := ByteArray × Nat × Nat
def pcBad : Pc0 := (⟨#[]⟩, 0, 2)
def pcMore : Pc0 := (⟨#[]⟩, 0, 1)
def pieceAt (s : ByteArray) (a room : Nat) : Pc0 :=
  match Line.eol s a with
  | none => if 8 < s.size - a then pcBad else pcMore
  | some i =>
    match readHex (s.extract a i) with
    | none => pcBad
    | some n =>
      if room < n.toNat then pcBad
      else if s.size < i + 2 + n.toNat + 2 then pcMore
      else if byteAt s (i + 2 + n.toNat) = 13 ∧ byteAt s (i + 2 + n.toNat + 1) = 10 then (s.extract (i + 2) (i + 2 + n.toNat), (i - a) + n.toNat + 4, 0)
      else pcBad
section
variable {s : ByteArray} {a room : Nat}
theorem pc_long (he : Line.eol s a = none) (hl : 8 < s.size - a) : pieceAt s a room = pcBad := by unfold pieceAt; rw [he]; simp only; rw [if_pos hl]
theorem pc_more (he : Line.eol s a = none) (hl : ¬ 8 < s.size - a) : pieceAt s a room = pcMore := by unfold pieceAt; rw [he]; simp only; rw [if_neg hl]
theorem pc_nohex {i : Nat} (he : Line.eol s a = some i) (hx : readHex (s.extract a i) = none) : pieceAt s a room = pcBad := by unfold pieceAt; rw [he]; simp only; rw [hx]
theorem pc_great {i : Nat} {n : Int} (he : Line.eol s a = some i) (hx : readHex (s.extract a i) = some n) (hg : room < n.toNat) : pieceAt s a room = pcBad := by unfold pieceAt; rw [he]; simp only; rw [hx]; simp only; rw [if_pos hg]
theorem pc_short {i : Nat} {n : Int} (he : Line.eol s a = some i) (hx : readHex (s.extract a i) = some n) (hg : ¬ room < n.toNat) (hs : s.size < i + 2 + n.toNat + 2) : pieceAt s a room = pcMore := by unfold pieceAt; rw [he]; simp only; rw [hx]; simp only; rw [if_neg hg, if_pos hs]
theorem pc_noend {i : Nat} {n : Int} (he : Line.eol s a = some i) (hx : readHex (s.extract a i) = some n) (hg : ¬ room < n.toNat) (hs : ¬ s.size < i + 2 + n.toNat + 2) (hb : ¬ (byteAt s (i + 2 + n.toNat) = 13 ∧ byteAt s (i + 2 + n.toNat + 1) = 10)) : pieceAt s a room = pcBad := by unfold pieceAt; rw [he]; simp only; rw [hx]; simp only; rw [if_neg hg, if_neg hs, if_neg hb]
theorem pc_ok {i : Nat} {n : Int} (he : Line.eol s a = some i) (hx : readHex (s.extract a i) = some n) (hg : ¬ room < n.toNat) (hs : ¬ s.size < i + 2 + n.toNat + 2) (hb : byteAt s (i + 2 + n.toNat) = 13 ∧ byteAt s (i + 2 + n.toNat + 1) = 10) : pieceAt s a room = (s.extract (i + 2) (i + 2 + n.toNat), (i - a) + n.toNat + 4, 0) := by unfold pieceAt; rw [he]; simp only; rw [hx]; simp only; rw [if_neg hg, if_neg hs, if_pos hb]
/-- what a piece at fault says of the whole -/
theorem pc_told {out : ByteArray} (h : UnAt s a out) (hr : room + out.size = 60) (hc : (pieceAt s a room).2.2 ≠ 0) : unchunk s = (⟨#[]⟩, 0, ((pieceAt s a room).2.2 : Int)) ∧ (pieceAt s a room).1 = ⟨#[]⟩ ∧ (pieceAt s a room).2.1 = 0 := by
  cases he : Line.eol s a with
  | none =>
    by_cases hl : 8 < s.size - a
    · rw [pc_long he hl, un_long h he hl]; exact ⟨rfl, rfl, rfl⟩
    · rw [pc_more he hl, un_more h he hl]; exact ⟨rfl, rfl, rfl⟩
  | some i =>
    cases hx : readHex (s.extract a i) with
    | none => rw [pc_nohex he hx, un_nohex h he hx]; exact ⟨rfl, rfl, rfl⟩
    | some n =>
      by_cases hg : room < n.toNat
      · rw [pc_great he hx hg, un_great h he hx (by omega)]; exact ⟨rfl, rfl, rfl⟩
      · by_cases hs : s.size < i + 2 + n.toNat + 2
        · rw [pc_short he hx hg hs, un_short h he hx (by omega) hs]; exact ⟨rfl, rfl, rfl⟩
        · by_cases hb : byteAt s (i + 2 + n.toNat) = 13 ∧ byteAt s (i + 2 + n.toNat + 1) = 10
          · rw [pc_ok he hx hg hs hb] at hc
            exact absurd rfl hc
          · rw [pc_noend he hx hg hs hb, un_noend h he hx (by omega) hs hb]; exact ⟨rfl, rfl, rfl⟩
/-- a right piece: where it stands then -/
theorem pc_right {out : ByteArray} (h : UnAt s a out) (hr : room + out.size = 60) (hc : (pieceAt s a room).2.2 = 0) :
    (pieceAt s a room).1.size ≤ room ∧ a + (pieceAt s a room).2.1 ≤ s.size ∧ 4 ≤ (pieceAt s a room).2.1 ∧
    ((pieceAt s a room).1.size = 0 → unchunk s = (out ++ (pieceAt s a room).1, ((a + (pieceAt s a room).2.1 : Nat) : Int), 0)) ∧
    ((pieceAt s a room).1.size ≠ 0 → UnAt s (a + (pieceAt s a room).2.1) (out ++ (pieceAt s a room).1)) := by
  cases he : Line.eol s a with
  | none =>
    by_cases hl : 8 < s.size - a
    · rw [pc_long he hl] at hc; cases hc
    · rw [pc_more he hl] at hc; cases hc
  | some i =>
    have hin := Line.eol_in he
    cases hx : readHex (s.extract a i) with
    | none => rw [pc_nohex he hx] at hc; cases hc
    | some n =>
      have hn := readHex_bd hx
      by_cases hg : room < n.toNat
      · rw [pc_great he hx hg] at hc; cases hc
      · by_cases hs : s.size < i + 2 + n.toNat + 2
        · rw [pc_short he hx hg hs] at hc; cases hc
        · by_cases hb : byteAt s (i + 2 + n.toNat) = 13 ∧ byteAt s (i + 2 + n.toNat + 1) = 10
          · rw [pc_ok he hx hg hs hb]
            simp only
            have hz : (s.extract (i + 2) (i + 2 + n.toNat)).size = n.toNat := by rw [ByteArray.size_extract]; omega
            have e1 : a + (i - a + n.toNat + 4) = i + 2 + n.toNat + 2 := by omega
            refine ⟨by omega, by omega, by omega, fun h0 => ?_, fun h0 => ?_⟩
            · obtain rfl : n = 0 := by omega
              rw [un_done h he hx (by omega) hs hb, e1]
            · rw [e1]
              exact un_next h he hx (by omega) hs hb (by omega)
          · rw [pc_noend he hx hg hs hb] at hc; cases hc
theorem pc_code : (pieceAt s a room).2.2 ≤ 2 := by
  unfold pieceAt
  repeat' split
  all_goals first | exact Nat.zero_le _ | (unfold pcBad; decide) | (unfold pcMore; decide)
end
/-- the rest of a text behind a line -/
theorem cut_rest {s : ByteArray} {a i : Nat} (h : Line.eol s a = some i) : (⟨(Lib.cut (s.extract a s.size).data.toList (⟨#[13, 10]⟩ : ByteArray).data.toList).2.1.toArray⟩ : ByteArray) = s.extract (i + 2) s.size := by
  have hin := Line.eol_in h
  obtain ⟨_, h2, _⟩ := Lib.cutB_hit (s.extract a s.size) ⟨#[13, 10]⟩ (i - a) (by rw [Line.index_eol, h]; show (i : Int) - (a : Int) = ((i - a : Nat) : Int); omega)
  rw [h2, ByteArray.extract_extract, ByteArray.size_extract]
  have : (⟨#[13, 10]⟩ : ByteArray).size = 2 := rfl
  congr 1 <;> omega
/-- two bytes ahead of a rest -/
theorem pre_two (s : ByteArray) (k : Nat) (h : k + 1 < s.size) : Lib.hasPrefix (s.extract k s.size).data.toList (⟨#[13, 10]⟩ : ByteArray).data.toList = decide (byteAt s k = 13 ∧ byteAt s (k + 1) = 10) := by
  have hl : s.data.toList.length = s.size := by rw [Array.length_toList]; rfl
  have e : (s.extract k s.size).data.toList = s.data.toList.drop k := by
    rw [ByteArray.data_extract, Array.toList_extract, List.extract_eq_drop_take', List.take_of_length_le (by omega)]
  have hx : ∀ (b : UInt8) (n : Nat), n < 256 → (UInt8.ofNat n == b) = decide (b.toNat = n) := by
    intro b n hn
    by_cases h : b.toNat = n
    · rw [decide_eq_true h]
      subst h
      simp
    · rw [decide_eq_false h]
      have : UInt8.ofNat n ≠ b := fun h2 => h (by rw [← h2]; simp; omega)
      exact beq_false_of_ne this
  rw [e, List.drop_eq_getElem_cons (by omega), List.drop_eq_getElem_cons (by omega), byteAt_eq s k (by omega), byteAt_eq s (k + 1) h]
  show ((13 : UInt8) == s[k] && ((10 : UInt8) == s[k + 1] && true)) = _
  rw [Bool.and_true, show (13 : UInt8) = UInt8.ofNat 13 from rfl, show (10 : UInt8) = UInt8.ofNat 10 from rfl, hx _ 13 (by decide), hx _ 10 (by decide)]
  by_cases h1 : s[k].toNat = 13 <;> by_cases h2 : s[k + 1].toNat = 10 <;> simp [h1, h2]
end Body
end Go.Proofs.YtbajfklnekfeoaaGreatDoor
namespace Go.Proofs.YtbajfklnekfeoaaGreatDoor
open Go.RowKit
set_option linter.unusedVariables false
namespace Body

theorem or_32 (c : Nat) (h : c < 256) : bits .or .u8 (c : Int) 32 = ((c ||| 32 : Nat) : Int) := by
  have h2 : c ||| 32 < 256 := Nat.or_lt_two_pow (n := 8) h (by decide)
  have := (bits_nat .u8 8 (by decide) (fun n h0 h1 => by rw [IntKind.wrap_u8]; omega) c 32 h (by decide)).2
  exact this
theorem dig_all : ∀ c : Fin 256, (48 ≤ c.1 ∧ c.1 ≤ 57 ∧ hv (c.1 : Int) = (c.1 : Int) - 48) ∨ (¬ (48 ≤ c.1 ∧ c.1 ≤ 57) ∧ 97 ≤ (c.1 ||| 32) ∧ (c.1 ||| 32) ≤ 102 ∧ c.1 ≠ 95 ∧ hv (c.1 : Int) = ((c.1 ||| 32 : Nat) : Int) - 87) ∨ (¬ (48 ≤ c.1 ∧ c.1 ≤ 57) ∧ 103 ≤ (c.1 ||| 32) ∧ (c.1 ||| 32) ≤ 122 ∧ c.1 ≠ 95 ∧ hv (c.1 : Int) = -1) ∨ (¬ (48 ≤ c.1 ∧ c.1 ≤ 57) ∧ ((c.1 ||| 32) < 97 ∨ 122 < (c.1 ||| 32)) ∧ hv (c.1 : Int) = -1) := by decide +kernel
theorem low_any (c l : Int) (h : bits .or .u8 c 32 = l) (w : World) : Calls Tryz.prog 134 #[.int .u8 c] w fun e w' => e = .returned (.int .u8 l) ∧ w = w' := by
  go_enter Tryz.func134, Tryz.ntmps134
  go_wp2
  go_ret
  exact ⟨rfl, rfl⟩
theorem dig (c : Nat) (h : c < 256) : ∃ l : Int, bits .or .u8 (c : Int) 32 = l ∧ 0 ≤ l ∧ l < 256 ∧ ((48 ≤ c ∧ c ≤ 57 ∧ hv (c : Int) = (c : Int) - 48) ∨ (¬ (48 ≤ c ∧ c ≤ 57) ∧ 97 ≤ l ∧ l ≤ 102 ∧ c ≠ 95 ∧ hv (c : Int) = l - 87) ∨ (¬ (48 ≤ c ∧ c ≤ 57) ∧ 103 ≤ l ∧ l ≤ 122 ∧ c ≠ 95 ∧ hv (c : Int) = -1) ∨ (¬ (48 ≤ c ∧ c ≤ 57) ∧ (l < 97 ∨ 122 < l) ∧ hv (c : Int) = -1)) := by
  have h2 : c ||| 32 < 256 := Nat.or_lt_two_pow (n := 8) h (by decide)
  refine ⟨_, or_32 c h, by omega, by omega, ?_⟩
  have := dig_all ⟨c, h⟩
  simp only at this
  rcases this with ⟨a, b, d⟩ | ⟨a, b, d, e, f⟩ | ⟨a, b, d, e, f⟩ | ⟨a, b, d⟩
  · exact .inl ⟨a, b, d⟩
  · exact .inr (.inl ⟨a, by omega, by omega, e, f⟩)
  · exact .inr (.inr (.inl ⟨a, by omega, by omega, e, f⟩))
  · exact .inr (.inr (.inr ⟨a, by omega, d⟩))
/-- so many bytes are read, and this is their number -/
structure RhAt (s : ByteArray) (k : Nat) (x : Int) : Prop where
  val : hexVal (s.data.toList.take k) = x
  all : (s.data.toList.take k).all isHex = true
theorem rh_at0 (s : ByteArray) : RhAt s 0 0 := ⟨rfl, rfl⟩
theorem rh_bd {s : ByteArray} {k : Nat} {x : Int} (h : RhAt s k x) (hk : k ≤ s.size) : 0 ≤ x ∧ (k ≤ 6 → x ≤ 16777215) ∧ (k ≤ 5 → x ≤ 1048575) := by
  have hb := hexVal_bd _ h.all
  have hl : (s.data.toList.take k).length = k := by rw [List.length_take, Array.length_toList]; exact Nat.min_eq_left hk
  rw [h.val, hl] at hb
  refine ⟨hb.1, fun h6 => ?_, fun h5 => ?_⟩
  · have := Num.pow_up 16 k 6 (by decide) h6
    have h2 : ((16 : Nat) : Int) ^ 6 = 16777216 := by decide
    have h3 : ((16 : Nat) : Int) = 16 := rfl
    rw [h2, h3] at this
    omega
  · have := Num.pow_up 16 k 5 (by decide) h5
    have h2 : ((16 : Nat) : Int) ^ 5 = 1048576 := by decide
    have h3 : ((16 : Nat) : Int) = 16 := rfl
    rw [h2, h3] at this
    omega
theorem rh_next {s : ByteArray} {k : Nat} {x d : Int} (h : RhAt s k x) (hk : k < s.size) (hd : hv ((s[k]).toNat : Int) = d) (h0 : 0 ≤ d) : RhAt s (k + 1) (x * 16 + d) := by
  refine ⟨by rw [hexVal_take s k hk, h.val, hd], ?_⟩
  rw [Num.take_snoc s k hk, List.all_append, h.all, Bool.true_and]
  simp only [List.all_cons, List.all_nil, Bool.and_true]
  unfold isHex
  rw [hd]
  exact decide_eq_true h0
theorem rh_done {s : ByteArray} {x : Int} (h : RhAt s s.size x) (h1 : 1 ≤ s.size) (h6 : s.size ≤ 6) : readHex s = some x := by
  have e : s.data.toList.take s.size = s.data.toList := List.take_of_length_le (by rw [Array.length_toList]; exact Nat.le_refl _)
  unfold readHex
  have h2 := h.all
  have h3 := h.val
  rw [e] at h2 h3
  rw [if_pos ⟨h2, h1, h6⟩, h3]
theorem rh_empty {s : ByteArray} (h : s.size = 0) : readHex s = none := by
  unfold readHex
  rw [if_neg (by omega)]
theorem rh_long {s : ByteArray} (h : 6 < s.size) : readHex s = none := by
  unfold readHex
  rw [if_neg (by omega)]
/-- the library's error, or none -/
def rhE (s : ByteArray) : Value := if rhB s = true then .nilIface else .iface 152 (.int .i64 2)
set_option maxRecDepth 100000 in
set_option maxHeartbeats 2000000 in
theorem parse16 (s : ByteArray) (w : World) (h6 : s.size ≤ 6) :
    Calls Tryz.prog 87 #[.string s, .int .i64 16, .int .i64 64] w fun e w' => e = .returned (.tuple #[.int .u64 (rhN s), rhE s]) ∧ Below w.heap.size w w' := by
  obtain ⟨N, hN⟩ : ∃ N, rhN s = N := ⟨_, rfl⟩
  obtain ⟨E, hE⟩ : ∃ E, rhE s = E := ⟨_, rfl⟩
  rw [hN, hE]
  have HE : Hid (readHex s = none → N = 0 ∧ E = .iface 152 (.int .i64 2)) := fun h => by
    obtain ⟨h1, h2⟩ := rh_none h
    unfold rhE at hE
    rw [h2] at hE
    exact ⟨hN.symm.trans h1, hE.symm⟩
  have HF : Hid (∀ v, readHex s = some v → N = v ∧ E = .nilIface) := fun v h => by
    have h1 : rhN s = v := by unfold rhN; rw [h]; rfl
    have h2 : rhB s = true := by unfold rhB; rw [h]; rfl
    unfold rhE at hE
    rw [h2] at hE
    exact ⟨hN.symm.trans h1, hE.symm⟩
  clear hN hE
  by_cases h0 : s.size = 0
  · obtain ⟨rfl, rfl⟩ := Num.unhide HE (rh_empty h0)
    obtain rfl : s = ⟨#[]⟩ := Sign.empty_true _ h0
    go_enter Tryz.func87, Tryz.ntmps87
    go_wp2
    go_ret2
    exact ⟨rfl, Below.refl _ _⟩
  · have hne := Sign.empty_false s (by omega)
    have hconv := Lib.run_convert_string_bytes (P := Tryz.prog) w 9 22 5 s (u := .string) Tryz.underlying9 Tryz.underlying22 Tryz.underlying5
    have hP := Num.hide (Sign.bytes_part w 5 s)
    have hB := Num.hide (Sign.bytes_below w 5 s)
    generalize Lib.bytesWorld w 5 s = W0 at hconv hP hB
    generalize grownCap w s.size 0 5 = cap at hconv
    have hM : IntKind.u64.wrap (IntKind.u64.wrap 18446744073709551616 - 1) = 18446744073709551615 := by decide
    go_enter Tryz.func87, Tryz.ntmps87
    go_wp2
    clear hconv hM
    go_loop [12, 13, 101] (fun uv nv iv => ∃ (k : Nat) (x : Int), k ≤ s.size ∧ uv = .bool false ∧ nv = .int .u64 x ∧ iv = .int .i64 (k : Int) ∧ Hid (RhAt s k x)) (fun _ _ iv => s.size - (intOf iv).toNat)
    case atStart => exact ⟨0, 0, by omega, rfl, rfl, rfl, rh_at0 s⟩
    case round =>
      obtain ⟨k, x, hk, rfl, rfl, rfl, HA⟩ := hrel
      by_cases hlt : k < s.size
      · have hcell := hP.out.todo k hlt (Nat.zero_le _)
        have hc256 : (s[k]).toNat < 256 := (s[k]).toNat_lt
        have HNx := Num.hide (fun d => rh_next (d := d) HA.out hlt)
        have HBd := Num.hide (rh_bad s k hlt)
        obtain ⟨hx0, _, hx1⟩ := rh_bd HA.out hk
        have hx5 := hx1 (by omega)
        clear hx1
        obtain ⟨l, hl, hl0, hl1, hcs⟩ := dig _ hc256
        have HL := Num.hide (low_any _ l hl)
        clear hl
        generalize (s[k]).toNat = c at hcell hc256 HNx HBd HL hcs
        have hg1 : decide ((1152921504606846976 : Int) ≤ x) = false := by simp; omega
        rcases hcs with ⟨a, b, d⟩ | ⟨a, b, d, e, f⟩ | ⟨a, b, d, e, f⟩ | ⟨a, b, d⟩
        · have q1 : ((c : Int) == 95) = false := by simp; omega
          have q2 : decide ((48 : Int) ≤ (c : Int)) = true := by simp; omega
          have q3 : decide ((c : Int) ≤ 57) = true := by simp; omega
          have q4 : decide ((18446744073709551615 : Int) < x * 16 + ((c : Int) - 48)) = false := by simp; omega
          have HA2 := Num.hide (HNx.out _ d (by omega))
          go_wp2
          go_round
          case rel => exact ⟨k + 1, _, by omega, rfl, rfl, by go_num, HA2⟩
          case measure => simp [intOf]; omega
        · have q1 : ((c : Int) == 95) = false := by simp; omega
          have q4 : decide ((18446744073709551615 : Int) < x * 16 + (l - 97 + 10)) = false := by simp; omega
          have q5 : decide ((97 : Int) ≤ l) = true := by simp; omega
          have q6 : decide (l ≤ 122) = true := by simp; omega
          have q7 : decide ((16 : Int) ≤ l - 97 + 10) = false := by simp; omega
          have HA2 : Hid (RhAt s (k + 1) (x * 16 + (l - 97 + 10))) := HNx.out _ (by rw [f]; omega) (by omega)
          by_cases q2 : decide ((48 : Int) ≤ (c : Int)) = true
          · have q3 : decide ((c : Int) ≤ 57) = false := by simp at q2 ⊢; omega
            go_wp2_with (go_at_call 134; refine (HL.out _).mono ?_; rintro e w' ⟨rfl, rfl⟩)
            go_round
            case rel => exact ⟨k + 1, _, by omega, rfl, rfl, by go_num, HA2⟩
            case measure => simp [intOf]; omega
          · have q2 : decide ((48 : Int) ≤ (c : Int)) = false := by simp at q2 ⊢; omega
            go_wp2_with (go_at_call 134; refine (HL.out _).mono ?_; rintro e w' ⟨rfl, rfl⟩)
            go_round
            case rel => exact ⟨k + 1, _, by omega, rfl, rfl, by go_num, HA2⟩
            case measure => simp [intOf]; omega
        · have q1 : ((c : Int) == 95) = false := by simp; omega
          have q5 : decide ((97 : Int) ≤ l) = true := by simp; omega
          have q6 : decide (l ≤ 122) = true := by simp; omega
          have q7 : decide ((16 : Int) ≤ l - 97 + 10) = true := by simp; omega
          obtain ⟨rfl, rfl⟩ := Num.unhide HE (HBd.out f)
          by_cases q2 : decide ((48 : Int) ≤ (c : Int)) = true
          · have q3 : decide ((c : Int) ≤ 57) = false := by simp at q2 ⊢; omega
            go_wp2_with (go_at_call 134; refine (HL.out _).mono ?_; rintro e w' ⟨rfl, rfl⟩)
            go_ret2
            exact ⟨rfl, hB.out⟩
          · have q2 : decide ((48 : Int) ≤ (c : Int)) = false := by simp at q2 ⊢; omega
            go_wp2_with (go_at_call 134; refine (HL.out _).mono ?_; rintro e w' ⟨rfl, rfl⟩)
            go_ret2
            exact ⟨rfl, hB.out⟩
        · obtain ⟨rfl, rfl⟩ := Num.unhide HE (HBd.out d)
          by_cases q1 : ((c : Int) == 95) = true
          · have q2 : decide ((48 : Int) ≤ (c : Int)) = true := by simp at q1 ⊢; omega
            have q3 : decide ((c : Int) ≤ 57) = false := by simp at q1 ⊢; omega
            rcases b with b | b
            · have q5 : decide ((97 : Int) ≤ l) = false := by simp; omega
              go_wp2_with (go_at_call 134; refine (HL.out _).mono ?_; rintro e w' ⟨rfl, rfl⟩)
              go_ret2
              exact ⟨rfl, hB.out⟩
            · have q5 : decide ((97 : Int) ≤ l) = true := by simp; omega
              have q6 : decide (l ≤ 122) = false := by simp; omega
              go_wp2_with (go_at_call 134; refine (HL.out _).mono ?_; rintro e w' ⟨rfl, rfl⟩)
              go_ret2
              exact ⟨rfl, hB.out⟩
          · have q1 : ((c : Int) == 95) = false := by simp at q1 ⊢; omega
            by_cases q2 : decide ((48 : Int) ≤ (c : Int)) = true
            · have q3 : decide ((c : Int) ≤ 57) = false := by simp at q2 ⊢; omega
              rcases b with b | b
              · have q5 : decide ((97 : Int) ≤ l) = false := by simp; omega
                go_wp2_with (go_at_call 134; refine (HL.out _).mono ?_; rintro e w' ⟨rfl, rfl⟩)
                go_ret2
                exact ⟨rfl, hB.out⟩
              · have q5 : decide ((97 : Int) ≤ l) = true := by simp; omega
                have q6 : decide (l ≤ 122) = false := by simp; omega
                go_wp2_with (go_at_call 134; refine (HL.out _).mono ?_; rintro e w' ⟨rfl, rfl⟩)
                go_ret2
                exact ⟨rfl, hB.out⟩
            · have q2 : decide ((48 : Int) ≤ (c : Int)) = false := by simp at q2 ⊢; omega
              rcases b with b | b
              · have q5 : decide ((97 : Int) ≤ l) = false := by simp; omega
                go_wp2_with (go_at_call 134; refine (HL.out _).mono ?_; rintro e w' ⟨rfl, rfl⟩)
                go_ret2
                exact ⟨rfl, hB.out⟩
              · have q5 : decide ((97 : Int) ≤ l) = true := by simp; omega
                have q6 : decide (l ≤ 122) = false := by simp; omega
                go_wp2_with (go_at_call 134; refine (HL.out _).mono ?_; rintro e w' ⟨rfl, rfl⟩)
                go_ret2
                exact ⟨rfl, hB.out⟩
      · obtain rfl : k = s.size := by omega
        obtain ⟨rfl, rfl⟩ := Num.unhide HF _ (rh_done HA.out (by omega) h6)
        go_wp2
        go_ret2
        exact ⟨rfl, hB.out⟩
end Body
end Go.Proofs.YtbajfklnekfeoaaGreatDoor
namespace Go.Proofs.YtbajfklnekfeoaaGreatDoor
open Go.Shelf
def Shelf.laysM279_ren : Go.Shelf.Ren := ⟨fun | 279 => 136 | 316 => 161 | n => n, fun | 9 => 9 | 168 => 154 | 75 => 71 | 210 => 184 | 3 => 3 | 4 => 4 | 37 => 22 | 0 => 0 | 127 => 111 | 80 => 75 | 5 => 5 | n => n, fun | 15 => 2 | n => n⟩
theorem Shelf.laysM279 : Go.Proofs.LaysM.n279 Tryz.prog Shelf.laysM279_ren := {
  mixed := by kernel_rfl
  f279 := Tryz.func136.trans (congrArg some (by kernel_rfl))
  f316 := Tryz.func161.trans (congrArg some (by kernel_rfl))
  t0 := Tryz.underlying0
  a0 := Tryz.isAgg0
  z0 := Tryz.sizeOf0
  v0 := Tryz.zeroValue0
  t3 := Tryz.underlying3
  a3 := Tryz.isAgg3
  z3 := Tryz.sizeOf3
  v3 := Tryz.zeroValue3
  t4 := Tryz.underlying4
  a4 := Tryz.isAgg4
  z4 := Tryz.sizeOf4
  v4 := Tryz.zeroValue4
  t9 := Tryz.underlying9
  a9 := Tryz.isAgg9
  z9 := Tryz.sizeOf9
  v9 := Tryz.zeroValue9
  t37 := Tryz.underlying22
  a37 := Tryz.isAgg22
  z37 := Tryz.sizeOf22
  v37 := Tryz.zeroValue22
  t75 := Tryz.underlying71
  a75 := Tryz.isAgg71
  z75 := Tryz.sizeOf71
  v75 := Tryz.zeroValue71
  t127 := Tryz.underlying111
  a127 := Tryz.isAgg111
  z127 := Tryz.sizeOf111
  v127 := Tryz.zeroValue111
  t168 := Tryz.underlying154
  a168 := Tryz.isAgg154
  z168 := Tryz.sizeOf154
  v168 := Tryz.zeroValue154
  t210 := Tryz.underlying184
  a210 := Tryz.isAgg184
  z210 := Tryz.sizeOf184
  v210 := Tryz.zeroValue184
  g15 := by kernel_rfl
  t5 := Tryz.underlying5
  a5 := Tryz.isAgg5
  z5 := Tryz.sizeOf5
  v5 := Tryz.zeroValue5
  t80 := Tryz.underlying75
  a80 := Tryz.isAgg75
  z80 := Tryz.sizeOf75
  v80 := Tryz.zeroValue75
  i0 := by kernel_rfl
  i3 := by kernel_rfl
  i4 := by kernel_rfl
  i5 := by kernel_rfl
  i9 := by kernel_rfl
  i37 := by kernel_rfl
  i75 := by kernel_rfl
  i80 := by kernel_rfl
  i127 := by kernel_rfl
  i168 := by kernel_rfl
  i210 := by kernel_rfl
  m15 := by kernel_rfl }
open Go.RowKit in
theorem Shelf.strconv_syntaxError (fn s : ByteArray) (ev : Value) (w : World) (hlim : s.size ≤ 281474976710656) (hv : w.cell? ⟨2, 0, none⟩ = some ev) (hev : ev = .nilIface ∨ ∃ te pe, ev = .iface te pe) :
    Calls Tryz.prog 136 #[.string fn, .string s] w fun e w' => ∃ N, e = .returned (.pointer (some ⟨N, 0, none⟩)) ∧ w.heap.size ≤ N ∧ w'.heap[N]? = some (.cells #[.string fn, .string s, ev] 184 (0, 0)) ∧ Below w.heap.size w w' := Any.strconv_syntaxError Shelf.laysM279 fn s ev w hlim hv hev
end Go.Proofs.YtbajfklnekfeoaaGreatDoor
namespace Go.Proofs.YtbajfklnekfeoaaGreatDoor
open Go.RowKit
set_option linter.unusedVariables false
namespace Body

/-- the library's variable holds some error -/
def Syn (w : World) : Prop := ∃ tp p, w.cell? ⟨2, 0, none⟩ = some (.iface tp p)
theorem syn_lt {w : World} (h : Syn w) : 2 < w.heap.size := by obtain ⟨_, _, h⟩ := h; exact Recs.lt_of_cell h
theorem Syn.at_ {w w' : World} {B : Nat} (h : Syn w) (hb : Below B w w') (hB : 2 < B) : Syn w' := by
  obtain ⟨tp, p, h⟩ := h
  exact ⟨tp, p, (hb.cell (p := ⟨2, 0, none⟩) hB).trans h⟩
theorem Syn.below {w w' : World} (h : Syn w) (hb : Below w.heap.size w w') : Syn w' := h.at_ hb (syn_lt h)
theorem isInt : (Tryz.prog.info? 152).map (·.comparable) = some true := by kernel_rfl
set_option maxRecDepth 100000 in
set_option maxHeartbeats 2000000 in
/-- the library's toError at the one error that is met here -/
theorem toErr (fn s : ByteArray) (ev : Value) (w : World) (hlim : s.size ≤ 281474976710656) (hv : w.cell? ⟨2, 0, none⟩ = some ev) (hev : ev = .nilIface ∨ ∃ te pe, ev = .iface te pe) :
    Calls Tryz.prog 88 #[.string fn, .string s, .int .i64 16, .int .i64 64, .iface 152 (.int .i64 2)] w fun e w' => ∃ N, e = .returned (.iface 154 (.pointer (some ⟨N, 0, none⟩))) ∧ Below w.heap.size w w' := by
  have HS := Num.hide (Shelf.strconv_syntaxError fn s ev w hlim hv hev)
  have heq : ∀ W, (binOp .eql 71 (.iface 152 (.int .i64 2)) (.iface 152 (.int .i64 2))).run Tryz.prog W = .ok (.bool true) W := fun W => Lib.run_eql_iface_int W 2 2 Tryz.underlying71 isInt Tryz.underlying152
  clear hv hev
  go_enter Tryz.func88, Tryz.ntmps88
  go_wp2_with fail
  refine HS.out.mono ?_
  rintro e w1 ⟨N, rfl, _, _, hb⟩
  have HB := Num.hide hb
  clear hb
  go_wp2
  go_ret
  exact ⟨N, rfl, HB.out⟩
/-- no error where it is right; some error else -/
def ErrIs : Bool → Value → Prop
  | true, E => E = .nilIface
  | false, E => ∃ t p, E = .iface t p
set_option maxRecDepth 100000 in
set_option maxHeartbeats 2000000 in
theorem parseU (s : ByteArray) (w : World) (h6 : s.size ≤ 6) (h : Syn w) :
    Calls Tryz.prog 46 #[.string s, .int .i64 16, .int .i64 64] w fun e w' => ∃ E, e = .returned (.tuple #[.int .u64 (rhN s), E]) ∧ ErrIs (rhB s) E ∧ Below w.heap.size w w' := by
  have HC := Num.hide (parse16 s w h6)
  obtain ⟨N, hN⟩ : ∃ N, rhN s = N := ⟨_, rfl⟩
  rw [hN] at HC ⊢
  unfold rhE at HC
  cases hb : rhB s with
  | true =>
    rw [hb, if_pos rfl] at HC
    clear h
    go_enter Tryz.func46, Tryz.ntmps46
    go_wp2_with fail
    refine HC.out.mono ?_
    rintro e w1 ⟨rfl, hb1⟩
    have HB := Num.hide hb1
    clear hb1
    go_wp2
    go_ret2
    exact ⟨_, rfl, rfl, HB.out⟩
  | false =>
    rw [hb, if_neg (by simp)] at HC
    have HS := Num.hide (fun W hb => Syn.below (w' := W) h hb)
    clear h
    go_enter Tryz.func46, Tryz.ntmps46
    go_wp2_with fail
    refine HC.out.mono ?_
    rintro e w1 ⟨rfl, hb1⟩
    have HB := Num.hide hb1
    obtain ⟨tp, p, hs⟩ := HS.out w1 hb1
    have HE := Num.hide (fun fn => toErr fn s (.iface tp p) w1 (by omega) hs (.inr ⟨_, _, rfl⟩))
    clear hb1 hs
    go_wp2_with fail
    refine (HE.out _).mono ?_
    rintro e w2 ⟨M, rfl, hb2⟩
    have HB2 := Num.hide (HB.out.trans (hb2.mono HB.out.size))
    clear hb2
    go_wp2
    go_ret2
    exact ⟨_, rfl, ⟨_, _, rfl⟩, HB2.out⟩
set_option maxRecDepth 100000 in
set_option maxHeartbeats 2000000 in
theorem readHex_impl (s : ByteArray) (w : World) (hs : s.size ≤ 1048576) (h : Syn w) :
    Calls Tryz.prog 13 #[.string s] w fun e w' => e = .returned (.tuple #[.int .i64 (rhN s), .bool (rhB s)]) ∧ Below w.heap.size w w' := by
  by_cases h6 : 6 < s.size
  · obtain ⟨e1, e2⟩ := rh_none (rh_long h6)
    rw [e1, e2]
    have hd : decide ((6 : Int) < (s.size : Int)) = true := by simp; omega
    clear h e1 e2
    go_enter Tryz.func13, Tryz.ntmps13
    go_wp2
    go_ret2
    exact ⟨rfl, Below.refl _ _⟩
  · have HC := Num.hide (parseU s w (by omega) h)
    have hd : decide ((6 : Int) < (s.size : Int)) = false := by simp; omega
    cases hr : readHex s with
    | none =>
      obtain ⟨e1, e2⟩ := rh_none hr
      rw [e1, e2] at HC ⊢
      clear h e1 e2 hr
      go_enter Tryz.func13, Tryz.ntmps13
      go_wp2_with fail
      refine HC.out.mono ?_
      rintro e w1 ⟨E, rfl, hE, hb⟩
      obtain ⟨t, p, rfl⟩ := hE
      have HB := Num.hide hb
      clear hb
      go_wp2
      go_ret2
      exact ⟨rfl, HB.out⟩
    | some x =>
      have e1 : rhN s = x := by unfold rhN; rw [hr]; rfl
      have e2 : rhB s = true := by unfold rhB; rw [hr]; rfl
      have hx : 0 ≤ x ∧ x ≤ 16777215 := by
        unfold readHex at hr
        split at hr
        · next hc => cases hr; exact hexVal_six _ hc.1 (by rw [Array.length_toList]; exact hc.2.2)
        · cases hr
      rw [e1, e2] at HC ⊢
      clear h e1 e2 hr
      go_enter Tryz.func13, Tryz.ntmps13
      go_wp2_with fail
      refine HC.out.mono ?_
      rintro e w1 ⟨E, rfl, hE, hb⟩
      obtain rfl : E = .nilIface := hE
      have HB := Num.hide hb
      clear hb
      go_wp2
      go_ret2
      exact ⟨rfl, HB.out⟩
end Body
end Go.Proofs.YtbajfklnekfeoaaGreatDoor
namespace Go.Proofs.YtbajfklnekfeoaaGreatDoor
open Go.Shelf
def Shelf.lays145_ren : Go.Shelf.Ren := ⟨fun | 145 => 158 | 220 => 183 | 219 => 197 | 217 => 203 | 225 => 204 | 224 => 205 | 267 => 206 | 266 => 214 | 314 => 215 | n => n, fun | 9 => 9 | 4 => 4 | 59 => 169 | 3 => 3 | 5 => 5 | 46 => 141 | 146 => 219 | 51 => 188 | n => n, fun | 1 => 8 | n => n⟩
theorem Shelf.lays145 : Go.Proofs.Lays.n145 Tryz.prog Shelf.lays145_ren := {
  mixed := by kernel_rfl
  f145 := Tryz.func158.trans (congrArg some (by kernel_rfl))
  f217 := Tryz.func203.trans (congrArg some (by kernel_rfl))
  f219 := Tryz.func197.trans (congrArg some (by kernel_rfl))
  f220 := Tryz.func183.trans (congrArg some (by kernel_rfl))
  f224 := Tryz.func205.trans (congrArg some (by kernel_rfl))
  f225 := Tryz.func204.trans (congrArg some (by kernel_rfl))
  f266 := Tryz.func214.trans (congrArg some (by kernel_rfl))
  f267 := Tryz.func206.trans (congrArg some (by kernel_rfl))
  f314 := Tryz.func215.trans (congrArg some (by kernel_rfl))
  t3 := Tryz.underlying3
  a3 := Tryz.isAgg3
  z3 := Tryz.sizeOf3
  v3 := Tryz.zeroValue3
  t4 := Tryz.underlying4
  a4 := Tryz.isAgg4
  z4 := Tryz.sizeOf4
  v4 := Tryz.zeroValue4
  t5 := Tryz.underlying5
  a5 := Tryz.isAgg5
  z5 := Tryz.sizeOf5
  v5 := Tryz.zeroValue5
  t9 := Tryz.underlying9
  a9 := Tryz.isAgg9
  z9 := Tryz.sizeOf9
  v9 := Tryz.zeroValue9
  t46 := Tryz.underlying141
  a46 := Tryz.isAgg141
  z46 := Tryz.sizeOf141
  v46 := Tryz.zeroValue141
  t51 := Tryz.underlying188
  a51 := Tryz.isAgg188
  z51 := Tryz.sizeOf188
  v51 := Tryz.zeroValue188
  t59 := Tryz.underlying169
  a59 := Tryz.isAgg169
  z59 := Tryz.sizeOf169
  v59 := Tryz.zeroValue169
  t146 := Tryz.underlying219
  a146 := Tryz.isAgg219
  z146 := Tryz.sizeOf219
  v146 := Tryz.zeroValue219
  g1 := by kernel_rfl }
open Go.RowKit Go.Lib in
theorem Shelf.strings_Cut (s sep : ByteArray) (m : Int) (w : World) (hs : s.size < 4294967281) (hm : w.cell? ⟨8, 0, none⟩ = some (.int .i64 m)) :
    Calls Tryz.prog 158 #[.string s, .string sep] w fun e w' => e = .returned (.tuple #[.string ⟨(Lib.cut s.data.toList sep.data.toList).1.toArray⟩, .string ⟨(Lib.cut s.data.toList sep.data.toList).2.1.toArray⟩, .bool (Lib.cut s.data.toList sep.data.toList).2.2]) ∧ ∃ n, w' = w.drewN n := Any.strings_Cut Shelf.lays145 s sep m w hs hm
def Shelf.laysM145_ren : Go.Shelf.Ren := ⟨fun | 145 => 158 | 220 => 183 | 219 => 197 | 217 => 203 | 225 => 204 | 224 => 205 | 267 => 206 | 266 => 214 | 314 => 215 | n => n, fun | 9 => 9 | 4 => 4 | 59 => 169 | 3 => 3 | 5 => 5 | 46 => 141 | 146 => 219 | 51 => 188 | n => n, fun | 1 => 8 | n => n⟩
theorem Shelf.laysM145 : Go.Proofs.LaysM.n145 Tryz.prog Shelf.laysM145_ren := {
  mixed := by kernel_rfl
  f145 := Tryz.func158.trans (congrArg some (by kernel_rfl))
  f217 := Tryz.func203.trans (congrArg some (by kernel_rfl))
  f219 := Tryz.func197.trans (congrArg some (by kernel_rfl))
  f220 := Tryz.func183.trans (congrArg some (by kernel_rfl))
  f224 := Tryz.func205.trans (congrArg some (by kernel_rfl))
  f225 := Tryz.func204.trans (congrArg some (by kernel_rfl))
  f266 := Tryz.func214.trans (congrArg some (by kernel_rfl))
  f267 := Tryz.func206.trans (congrArg some (by kernel_rfl))
  f314 := Tryz.func215.trans (congrArg some (by kernel_rfl))
  t3 := Tryz.underlying3
  a3 := Tryz.isAgg3
  z3 := Tryz.sizeOf3
  v3 := Tryz.zeroValue3
  t4 := Tryz.underlying4
  a4 := Tryz.isAgg4
  z4 := Tryz.sizeOf4
  v4 := Tryz.zeroValue4
  t5 := Tryz.underlying5
  a5 := Tryz.isAgg5
  z5 := Tryz.sizeOf5
  v5 := Tryz.zeroValue5
  t9 := Tryz.underlying9
  a9 := Tryz.isAgg9
  z9 := Tryz.sizeOf9
  v9 := Tryz.zeroValue9
  t46 := Tryz.underlying141
  a46 := Tryz.isAgg141
  z46 := Tryz.sizeOf141
  v46 := Tryz.zeroValue141
  t51 := Tryz.underlying188
  a51 := Tryz.isAgg188
  z51 := Tryz.sizeOf188
  v51 := Tryz.zeroValue188
  t59 := Tryz.underlying169
  a59 := Tryz.isAgg169
  z59 := Tryz.sizeOf169
  v59 := Tryz.zeroValue169
  t146 := Tryz.underlying219
  a146 := Tryz.isAgg219
  z146 := Tryz.sizeOf219
  v146 := Tryz.zeroValue219
  g1 := by kernel_rfl
  i3 := by kernel_rfl
  i4 := by kernel_rfl
  i5 := by kernel_rfl
  i9 := by kernel_rfl
  i46 := by kernel_rfl
  i51 := by kernel_rfl
  i59 := by kernel_rfl
  i146 := by kernel_rfl
  m1 := by kernel_rfl
  s1_3 := fun w h => Go.Proofs.cell_of_shapedOpen_int (zero := #[.int .i64 0]) (t := 3) h (of_decide_eq_true (by kernel_rfl)) (by kernel_rfl) rfl (by kernel_rfl) (by kernel_rfl) Tryz.underlying3 }
open Go.RowKit Go.Lib in
theorem Shelf.strings_Cut_shaped (s sep : ByteArray) (w : World) (h : w.ShapedOpen Tryz.prog) (hs : s.size < 4294967281) :
    Calls Tryz.prog 158 #[.string s, .string sep] w fun e w' => e = .returned (.tuple #[.string ⟨(Lib.cut s.data.toList sep.data.toList).1.toArray⟩, .string ⟨(Lib.cut s.data.toList sep.data.toList).2.1.toArray⟩, .bool (Lib.cut s.data.toList sep.data.toList).2.2]) ∧ ∃ n, w' = w.drewN n := Any.strings_Cut_shaped Shelf.laysM145 s sep w h hs
end Go.Proofs.YtbajfklnekfeoaaGreatDoor
namespace Go.Proofs.YtbajfklnekfeoaaGreatDoor
open Go.Shelf
def Shelf.lays99_ren : Go.Shelf.Ren := ⟨fun | 99 => 169 | 206 => 191 | n => n, fun | 9 => 9 | 4 => 4 | 3 => 3 | n => n, fun | n => n⟩
theorem Shelf.lays99 : Go.Proofs.Lays.n99 Tryz.prog Shelf.lays99_ren := {
  mixed := by kernel_rfl
  f99 := Tryz.func169.trans (congrArg some (by kernel_rfl))
  f206 := Tryz.func191.trans (congrArg some (by kernel_rfl))
  t3 := Tryz.underlying3
  a3 := Tryz.isAgg3
  z3 := Tryz.sizeOf3
  v3 := Tryz.zeroValue3
  t4 := Tryz.underlying4
  a4 := Tryz.isAgg4
  z4 := Tryz.sizeOf4
  v4 := Tryz.zeroValue4
  t9 := Tryz.underlying9
  a9 := Tryz.isAgg9
  z9 := Tryz.sizeOf9
  v9 := Tryz.zeroValue9 }
open Go.RowKit Go.Lib in
theorem Shelf.strings_HasPrefix (s p : ByteArray) (w : World) :
    Calls Tryz.prog 169 #[.string s, .string p] w fun e w' => e = .returned (.bool (Lib.hasPrefix s.data.toList p.data.toList)) ∧ w' = w := Any.strings_HasPrefix Shelf.lays99 s p w
end Go.Proofs.YtbajfklnekfeoaaGreatDoor
