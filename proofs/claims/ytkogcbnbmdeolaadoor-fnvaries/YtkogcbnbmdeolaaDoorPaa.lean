/-
  SignNum: Plain facts on the signs of chapter 2 (no program in sight): tokens, blanks, values, small letters, seconds.
  TrimSpec: Trim of the specification: what the call returns, for every text; the world stays.
  SplitNum: Parts of a list: what SplitList makes of a text (no program in sight), and how a range over the text meets its bytes.
  LowerNum: Lower: small letters, and the row of bytes that a text is laid in to be worked over.
-/
import Derived.Test.YtkogcbnbmdeolaaDoorNum
import Derived.Test.YtkogcbnbmdeolaaDoorRows
import Derived.Laws.Strings
import Derived.Laws.RangeAny
import Derived.Laws.RangeString
import Derived.WalkKit
import Derived.WalkLawsBesides
import Derived.Lib.ConvBytes
import Derived.Laws.IdiomStrings
namespace Go.Proofs.YtkogcbnbmdeolaaDoor
open Go.RowKit
namespace Sign

/-- a sign of a token -/
abbrev tok (c : Int) : Prop :=
  (97 ≤ c ∧ c ≤ 122) ∨ (65 ≤ c ∧ c ≤ 90) ∨ (48 ≤ c ∧ c ≤ 57) ∨ c = 33 ∨ c = 35 ∨ c = 36 ∨ c = 37 ∨ c = 38 ∨ c = 39 ∨ c = 42 ∨ c = 43 ∨ c = 45 ∨ c = 46 ∨ c = 94 ∨ c = 95 ∨ c = 96 ∨ c = 124 ∨ c = 126
def isTok (s : ByteArray) : Bool := decide (0 < s.size) && s.data.toList.all fun b => decide (tok (b.toNat : Int))
/-- a digit -/
abbrev dig (c : Int) : Prop := 48 ≤ c ∧ c ≤ 57
/-- a great letter -/
abbrev up (c : Int) : Prop := 65 ≤ c ∧ c ≤ 90
/-- a small letter -/
abbrev low (c : Int) : Prop := 97 ≤ c ∧ c ≤ 122
/-- a blank -/
abbrev blank (c : Int) : Prop := c = 32 ∨ c = 9
theorem all_take (s : ByteArray) (f : UInt8 → Bool) (k : Nat) (h : k < s.size) : (s.data.toList.take (k + 1)).all f = ((s.data.toList.take k).all f && f s[k]) := by
  rw [Num.take_snoc s k h, List.all_append]; simp
theorem all_full (s : ByteArray) (f : UInt8 → Bool) (h : (s.data.toList.take s.size).all f = true) : s.data.toList.all f = true := by
  rwa [List.take_of_length_le (by rw [Array.length_toList]; exact Nat.le_refl _)] at h
theorem not_all (s : ByteArray) (f : UInt8 → Bool) (k : Nat) (h : k < s.size) (hf : f s[k] = false) : s.data.toList.all f = false := by
  rw [List.all_eq_false]
  refine ⟨s[k], ?_, by rw [hf]; decide⟩
  rw [show s[k] = s.data.toList[k]'(by simpa using h) from rfl]
  exact List.getElem_mem _
theorem empty_false (s : ByteArray) (h : 0 < s.size) : s.toList.isEmpty = false := by
  rw [ByteArray.toList_eq]
  cases e : s.data.toList with
  | nil => exfalso; have h3 := congrArg List.length e; rw [Array.length_toList] at h3; have h2 : s.size = 0 := h3; omega
  | cons a l => rfl
theorem empty_true (s : ByteArray) (h : s.size = 0) : s = ⟨#[]⟩ := by
  apply ByteArray.ext; exact Array.eq_empty_of_size_eq_zero h
end Sign
end Go.Proofs.YtkogcbnbmdeolaaDoor
namespace Go.Proofs.YtkogcbnbmdeolaaDoor
open Go.RowKit
set_option linter.unusedVariables false
namespace Sign

set_option maxRecDepth 100000 in
set_option maxHeartbeats 1000000 in
theorem blank_any (c : Int) (w : World) : Calls Tryd.prog 99 #[.int .u8 c] w fun e w' => e = .returned (.bool (decide (blank c))) ∧ w = w' := by
  by_cases h1 : c = 32
  · subst h1
    rw [show decide (blank 32) = true from decide_eq_true (.inl rfl)]
    go_enter Tryd.func99, Tryd.ntmps99
    go_wp2
    all_goals go_ret
    all_goals exact ⟨rfl, rfl⟩
  · have d1 : (c == 32) = false := by rw [beq_eq_false_iff_ne]; exact h1
    by_cases h2 : c = 9
    · have d2 : (c == 9) = true := by rw [beq_iff_eq]; exact h2
      rw [show decide (blank c) = true from decide_eq_true (.inr h2)]
      clear h1 h2
      go_enter Tryd.func99, Tryd.ntmps99
      go_wp2
      all_goals go_ret
      all_goals exact ⟨rfl, rfl⟩
    · have d2 : (c == 9) = false := by rw [beq_eq_false_iff_ne]; exact h2
      rw [show decide (blank c) = false from decide_eq_false (fun h => h.elim h1 h2)]
      go_enter Tryd.func99, Tryd.ntmps99
      go_wp2
      all_goals go_ret
      all_goals exact ⟨rfl, rfl⟩

def bl (b : UInt8) : Bool := decide (blank (b.toNat : Int))
/-- a text without blanks ahead and behind -/
def trim (s : ByteArray) : ByteArray := ⟨((s.data.toList.dropWhile bl).reverse.dropWhile bl).reverse.toArray⟩
theorem trim_size (s : ByteArray) : (trim s).size ≤ s.size := by
  show ((s.data.toList.dropWhile bl).reverse.dropWhile bl).reverse.toArray.size ≤ s.size
  rw [List.size_toArray, List.length_reverse]
  have h1 := (List.dropWhile_sublist bl (l := (s.data.toList.dropWhile bl).reverse)).length_le
  have h2 := (List.dropWhile_sublist bl (l := s.data.toList)).length_le
  rw [List.length_reverse] at h1
  have e : s.data.toList.length = s.size := by rw [Array.length_toList]; rfl
  omega
theorem drop_all (l m : List UInt8) (h : ∀ b ∈ l, bl b = true) : (l ++ m).dropWhile bl = m.dropWhile bl := by
  induction l with
  | nil => rfl
  | cons c r ih => rw [List.cons_append, List.dropWhile_cons_of_pos (h c (by simp)), ih fun b hb => h b (by simp [hb])]
theorem trim_parts (l m r : List UInt8) (hl : ∀ b ∈ l, bl b = true) (hr : ∀ b ∈ r, bl b = true) (h0 : m = [] ∨ (∃ c t, m = c :: t ∧ bl c = false) ∧ ∃ t c, m = t ++ [c] ∧ bl c = false) :
    ((((l ++ m ++ r).dropWhile bl).reverse.dropWhile bl).reverse) = m := by
  rw [List.append_assoc, drop_all l _ hl]
  rcases h0 with rfl | ⟨⟨c, t, hm, hc⟩, t', c', hm', hc'⟩
  · have : r.dropWhile bl = [] := by have := drop_all r [] hr; rwa [List.append_nil] at this
    rw [List.nil_append, this]; rfl
  · have e : (m ++ r).dropWhile bl = m ++ r := by rw [hm, List.cons_append, List.dropWhile_cons_of_neg (by simp [hc])]
    rw [e, List.reverse_append, drop_all r.reverse _ (fun b hb => hr b (by simpa using hb)), hm', List.reverse_append]
    rw [List.reverse_singleton, List.singleton_append, List.dropWhile_cons_of_neg (by simp [hc']), List.reverse_cons, List.reverse_reverse]
theorem trim_of (s : ByteArray) (a b : Nat) (hab : a ≤ b) (hb : b ≤ s.size) (h1 : ∀ i (h : i < s.size), i < a → bl s[i] = true) (h2 : ∀ i (h : i < s.size), b ≤ i → bl s[i] = true)
    (h3 : a = b ∨ (∃ h : a < s.size, bl s[a] = false) ∧ ∃ h : b - 1 < s.size, bl s[b - 1] = false) : s.extract a b = trim s := by
  have hlen : s.data.toList.length = s.size := by rw [Array.length_toList]; rfl
  have e : s.data.toList = s.data.toList.take a ++ (s.data.toList.take b).drop a ++ s.data.toList.drop b := by
    have e1 : s.data.toList.take a = (s.data.toList.take b).take a := by rw [List.take_take, Nat.min_eq_left hab]
    rw [e1, List.take_append_drop, List.take_append_drop]
  have hm : (s.extract a b).data.toList = (s.data.toList.take b).drop a := by
    rw [ByteArray.data_extract, Array.toList_extract, List.extract_eq_drop_take', List.drop_take]
  have hh : ((s.data.toList.dropWhile bl).reverse.dropWhile bl).reverse = (s.data.toList.take b).drop a := by
    conv => lhs; rw [e]
    apply trim_parts
    · intro c hc
      obtain ⟨i, hi, rfl⟩ := List.getElem_of_mem hc
      rw [List.getElem_take]
      rw [List.length_take] at hi
      exact h1 i (by omega) (by omega)
    · intro c hc
      obtain ⟨i, hi, rfl⟩ := List.getElem_of_mem hc
      rw [List.getElem_drop]
      rw [List.length_drop] at hi
      exact h2 (b + i) (by omega) (by omega)
    · rcases h3 with rfl | ⟨⟨ha, h4⟩, hb', h5⟩
      · left; rw [List.drop_eq_nil_of_le]; rw [List.length_take]; omega
      · have hlt : a < b := by
          by_cases h : a < b
          · exact h
          · exfalso
            have := h2 a ha (by omega)
            rw [h4] at this; cases this
        right
        refine ⟨⟨s[a], (s.data.toList.take b).drop (a + 1), ?_, h4⟩, ((s.data.toList.take b).drop a).take (b - 1 - a), s[b - 1], ?_, h5⟩
        · rw [List.drop_eq_getElem_cons (by rw [List.length_take]; omega)]
          congr 1
          rw [List.getElem_take]; rfl
        · have hl2 : ((s.data.toList.take b).drop a).length = (b - 1 - a) + 1 := by rw [List.length_drop, List.length_take]; omega
          conv => lhs; rw [← List.take_of_length_le (Nat.le_of_eq hl2)]
          rw [List.take_succ_eq_append_getElem (by omega)]
          congr 2
          rw [List.getElem_drop, List.getElem_take]
          show s.data.toList[a + (b - 1 - a)]'(by omega) = s.data.toList[b - 1]'(by omega)
          congr 1; omega
  apply ByteArray.ext
  apply Array.toList_inj.1
  rw [hm, ← hh]; rfl
theorem ext_size (s : ByteArray) (a b : Nat) (hab : a ≤ b) (hb : b ≤ s.size) : (s.extract a b).size = b - a := by
  rw [ByteArray.size_extract, Nat.min_eq_left hb]
theorem ext_at (s : ByteArray) (a b i : Nat) (hab : a ≤ b) (hb : b ≤ s.size) (h : i < (s.extract a b).size) : (s.extract a b)[i] = s[a + i]'(by rw [ext_size s a b hab hb] at h; omega) := ByteArray.getElem_extract h
theorem ext_ext (s : ByteArray) (a b c d : Nat) (hb : b ≤ s.size) (hd : a + d ≤ b) : (s.extract a b).extract c d = s.extract (a + c) (a + d) := by
  rw [ByteArray.extract_extract, Nat.min_eq_left hd]
set_option maxRecDepth 100000 in
set_option maxHeartbeats 1000000 in
theorem trim_spec (s : ByteArray) (w : World) (hs : s.size ≤ maxLen) : Calls Tryd.prog 90 #[.string s] w fun e w' => e = .returned (.string (trim s)) ∧ w = w' := by
  unfold maxLen at hs
  obtain ⟨r, hr⟩ : ∃ r, trim s = r := ⟨_, rfl⟩
  rw [hr]
  have HR := Num.hide hr
  clear hr
  go_enter Tryd.func90, Tryd.ntmps90
  go_wp2
  go_loop [0] (fun v => ∃ (t : ByteArray) (k : Nat), k ≤ s.size ∧ v = .string t ∧ t = s.extract k s.size ∧ ∀ i (h : i < s.size), i < k → bl s[i] = true) (fun v => match v with | .string t => t.size | _ => 0)
  case atStart => exact ⟨s, 0, by omega, rfl, by rw [ByteArray.extract_zero_size], fun i h h' => by omega⟩
  case round =>
    obtain ⟨t, k, hk, rfl, ht, hall⟩ := hrel
    have ht0 := ht
    have hts : t.size = s.size - k := by rw [ht, ext_size s k s.size hk (Nat.le_refl _)]
    have HA := Num.hide hall
    have HT := Num.hide ht
    have HS := Num.hide hts
    clear hall ht
    by_cases h0 : 0 < t.size
    · have d0 : decide (0 < (t.size : Int)) = true := by simp; omega
      have h0' : (0 : Int) < (t.size : Int) := by omega
      have hks : k < s.size := by omega
      have hat := Num.hide (show t[0] = s[k] by subst ht0; exact (ext_at s k s.size 0 hk (Nat.le_refl _) h0).trans rfl)
      clear hts ht0
      by_cases hb : blank (t[0].toNat : Int)
      · have hd := Num.hide (decide_eq_true hb)
        have hbl := Num.hide (show bl s[k] = true by rw [← Num.unhide hat]; exact decide_eq_true hb)
        clear hb
        go_wp2_with (go_at_call 99; refine (blank_any _ _).mono ?_; rintro e w' ⟨rfl, rfl⟩; rw [Num.unhide hd])
        have hts := Num.unhide HS
        refine ⟨⟨_, k + 1, by omega, rfl, ?_, fun i h h' => ?_⟩, ?_⟩
        · rw [Num.unhide HT, ext_size s k s.size hk (Nat.le_refl _), ext_ext s k s.size 1 (s.size - k) (Nat.le_refl _) (by omega)]
          congr 1; omega
        · by_cases he : i = k
          · subst he; exact Num.unhide hbl
          · exact Num.unhide HA i h (by omega)
        · show (t.extract 1 t.size).size < t.size
          rw [ByteArray.size_extract]; omega
      · have hd := Num.hide (decide_eq_false hb)
        have hbl := Num.hide (show bl s[k] = false by rw [← Num.unhide hat]; exact decide_eq_false hb)
        clear hb
        go_wp2_with (go_at_call 99; refine (blank_any _ _).mono ?_; rintro e w' ⟨rfl, rfl⟩; rw [Num.unhide hd])
        go_loop [0] (fun v => ∃ (t : ByteArray) (b : Nat), k < b ∧ b ≤ s.size ∧ v = .string t ∧ t = s.extract k b ∧ ∀ i (h : i < s.size), b ≤ i → bl s[i] = true) (fun v => match v with | .string t => t.size | _ => 0)
        case atStart => exact ⟨t, s.size, hks, Nat.le_refl _, rfl, Num.unhide HT, fun i h h' => by omega⟩
        case round =>
          obtain ⟨t2, b, hkb, hb, rfl, ht2, hall2⟩ := hrel
          obtain ⟨n, hn⟩ : ∃ n, t2.size = n + 1 := ⟨b - k - 1, by rw [ht2, ext_size s k b (by omega) hb]; omega⟩
          have hnb : b = k + n + 1 := by rw [ht2, ext_size s k b (by omega) hb] at hn; omega
          have hat2 := Num.hide (show t2[n]'(by omega) = s[k + n]'(by omega) by subst ht2; exact ext_at s k b n (by omega) hb (by omega))
          have HA2 := Num.hide hall2
          have HT2 := Num.hide ht2
          clear hall2 ht2
          have i0 : ((n : Int) + 1 - 1) = n := by omega
          have d1 : decide (0 < (t2.size : Int)) = true := by simp; omega
          have hnlt : n < t2.size := by omega
          by_cases hb2 : blank ((t2[n]'hnlt).toNat : Int)
          · have hd2 := Num.hide (decide_eq_true hb2)
            have hbl2 := Num.hide (show bl (s[k + n]'(by omega)) = true by rw [← Num.unhide hat2]; exact decide_eq_true hb2)
            clear hb2
            go_wp2_with (go_at_call 99; refine (blank_any _ _).mono ?_; rintro e w' ⟨rfl, rfl⟩; rw [Num.unhide hd2])
            have hn0 : 0 < n := by
              by_cases hz : 0 < n
              · exact hz
              · exfalso
                obtain rfl : n = 0 := by omega
                have h1 := Num.unhide hbl
                have h2 := Num.unhide hbl2
                rw [show s[k + 0]'(by omega) = s[k] from rfl, h1] at h2
                cases h2
            refine ⟨⟨_, k + n, by omega, by omega, rfl, ?_, fun i h h' => ?_⟩, ?_⟩
            · rw [Num.unhide HT2, ext_ext s k b 0 n hb (by omega)]; rfl
            · by_cases he : i = k + n
              · subst he; exact Num.unhide hbl2
              · exact Num.unhide HA2 i h (by omega)
            · show (t2.extract 0 n).size < t2.size
              rw [ByteArray.size_extract]; omega
          · have hd2 := Num.hide (decide_eq_false hb2)
            have hbl2 := Num.hide (show bl (s[k + n]'(by omega)) = false by rw [← Num.unhide hat2]; exact decide_eq_false hb2)
            clear hb2
            go_wp2_with (go_at_call 99; refine (blank_any _ _).mono ?_; rintro e w' ⟨rfl, rfl⟩; rw [Num.unhide hd2])
            go_ret
            refine ⟨?_, rfl⟩
            rw [← Num.unhide HR, ← trim_of s k b (by omega) hb (Num.unhide HA) (Num.unhide HA2) (.inr ⟨⟨hks, Num.unhide hbl⟩, by omega, ?_⟩), ← Num.unhide HT2]
            · rfl
            · have h2 := Num.unhide hbl2
              have e : b - 1 = k + n := by omega
              simp only [e]; exact h2
    · have hz : t.size = 0 := by omega
      have hkz : k = s.size := by omega
      have hd0 : decide (0 < (t.size : Int)) = false := by rw [hz]; rfl
      have ht2 : t = trim s := by
        rw [ht0]
        exact trim_of s k s.size hk (Nat.le_refl _) (Num.unhide HA) (fun i h h' => by omega) (.inl hkz)
      rw [Num.unhide HR] at ht2
      have HT2 := Num.hide ht2
      clear hts ht0 ht2 h0
      go_wp2
      go_loop [0] (fun v => v = .string t) (fun v => 0)
      case atStart => rfl
      case round =>
        obtain rfl := hrel
        go_wp2
        go_ret
        exact ⟨by rw [← Num.unhide HT2]; rfl, rfl⟩
end Sign
end Go.Proofs.YtkogcbnbmdeolaaDoor
namespace Go.Proofs.YtkogcbnbmdeolaaDoor
open Go.RowKit
set_option linter.unusedVariables false
namespace Sign

/-- a part, trimmed; none where it is empty -/
def part (s : ByteArray) (a b : Nat) : List ByteArray := if (trim (s.extract a b)).size = 0 then [] else [trim (s.extract a b)]
/-- the byte n ahead of the end -/
def fromEnd (s : ByteArray) (n : Nat) : Nat := (s.data.toList.getD (s.size - n) 0).toNat
/-- the parts that come of the last n bytes, where a part began at 'a' -/
def rest (s : ByteArray) : Nat → Nat → Bool → List ByteArray
  | 0, a, q => part s a s.size
  | n + 1, a, q =>
    if fromEnd s (n + 1) = 34 then rest s n a (!q)
    else if q = true ∧ fromEnd s (n + 1) = 92 then (match n with | 0 => part s a s.size | m + 1 => rest s m a q)
    else if fromEnd s (n + 1) = 44 ∧ q = false then part s a (s.size - (n + 1)) ++ rest s n (s.size - (n + 1) + 1) q
    else rest s n a q
/-- the parts of a text -/
def split (s : ByteArray) : List ByteArray := rest s s.size 0 false

theorem rest_succ (s : ByteArray) (n a : Nat) (q : Bool) : rest s (n + 1) a q =
    if fromEnd s (n + 1) = 34 then rest s n a (!q)
    else if q = true ∧ fromEnd s (n + 1) = 92 then rest s (n - 1) a q
    else if fromEnd s (n + 1) = 44 ∧ q = false then part s a (s.size - (n + 1)) ++ rest s n (s.size - (n + 1) + 1) q
    else rest s n a q := by
  cases n with
  | zero => rfl
  | succ m => rfl
theorem fromEnd_at (s : ByteArray) (i : Nat) (h : i < s.size) : fromEnd s (s.size - i) = (s[i]).toNat := by
  unfold fromEnd
  rw [show s.size - (s.size - i) = i by omega, List.getD, List.getElem?_eq_getElem (show i < s.data.toList.length by rw [Array.length_toList]; exact h)]
  rfl
theorem rest_quote (s : ByteArray) (i a : Nat) (q : Bool) (h : i < s.size) (hc : (s[i]).toNat = 34) : rest s (s.size - i) a q = rest s (s.size - (i + 1)) a (!q) := by
  have e := fromEnd_at s i h
  obtain ⟨n, hn⟩ : ∃ n, s.size - i = n + 1 := ⟨s.size - i - 1, by omega⟩
  rw [hn] at e
  rw [show s.size - (i + 1) = n by omega, hn]
  rw [rest_succ, if_pos (by rw [e]; exact hc)]
theorem rest_esc (s : ByteArray) (i a : Nat) (h : i < s.size) (hc : (s[i]).toNat = 92) : rest s (s.size - i) a true = rest s (s.size - (i + 2)) a true := by
  have e := fromEnd_at s i h
  obtain ⟨n, hn⟩ : ∃ n, s.size - i = n + 1 := ⟨s.size - i - 1, by omega⟩
  rw [hn] at e
  rw [show s.size - (i + 2) = n - 1 by omega, hn]
  rw [rest_succ, if_neg (by rw [e]; omega), if_pos ⟨rfl, by rw [e]; exact hc⟩]
theorem rest_comma (s : ByteArray) (i a : Nat) (h : i < s.size) (hc : (s[i]).toNat = 44) : rest s (s.size - i) a false = part s a i ++ rest s (s.size - (i + 1)) (i + 1) false := by
  have e := fromEnd_at s i h
  obtain ⟨n, hn⟩ : ∃ n, s.size - i = n + 1 := ⟨s.size - i - 1, by omega⟩
  have e2 : s.size - (n + 1) = i := by omega
  rw [hn] at e
  rw [show s.size - (i + 1) = n by omega, hn]
  rw [rest_succ, if_neg (by rw [e]; omega), if_neg (by rintro ⟨h, _⟩; cases h), if_pos ⟨by rw [e]; exact hc, rfl⟩, e2]
theorem rest_else (s : ByteArray) (i a : Nat) (q : Bool) (h : i < s.size) (h1 : (s[i]).toNat ≠ 34) (h2 : ¬ (q = true ∧ (s[i]).toNat = 92)) (h3 : ¬ ((s[i]).toNat = 44 ∧ q = false)) : rest s (s.size - i) a q = rest s (s.size - (i + 1)) a q := by
  have e := fromEnd_at s i h
  obtain ⟨n, hn⟩ : ∃ n, s.size - i = n + 1 := ⟨s.size - i - 1, by omega⟩
  rw [hn] at e
  rw [show s.size - (i + 1) = n by omega, hn]
  rw [rest_succ, if_neg (by rw [e]; exact h1), if_neg (by rw [e]; exact h2), if_neg (by rw [e]; exact h3)]
theorem rest_end (s : ByteArray) (i a : Nat) (q : Bool) (h : s.size ≤ i) : rest s (s.size - i) a q = part s a s.size := by
  rw [show s.size - i = 0 by omega]; rfl
/-- bytes from 128 on change nothing -/
theorem rest_high (s : ByteArray) (a : Nat) (q : Bool) : ∀ (d i : Nat), i + d ≤ s.size → (∀ j (h : j < s.size), i ≤ j → j < i + d → 128 ≤ (s[j]).toNat) → rest s (s.size - i) a q = rest s (s.size - (i + d)) a q := by
  intro d
  induction d with
  | zero => intro i _ _; rfl
  | succ d ih =>
    intro i hi hh
    have h := hh i (by omega) (Nat.le_refl _) (by omega)
    rw [rest_else s i a q (by omega) (by omega) (by omega) (by omega), ih (i + 1) (by omega) (fun j hj h1 h2 => hh j hj (by omega) (by omega)), show i + 1 + d = i + (d + 1) by omega]
theorem cont_high (s : ByteArray) (i k : Nat) (h : (decide (i + k < s.size) && (s.get! (i + k)).toNat / 64 == 2) = true) : ∃ h : i + k < s.size, 128 ≤ (s[i + k]).toNat := by
  rw [Bool.and_eq_true, decide_eq_true_iff, beq_iff_eq] at h
  refine ⟨h.1, ?_⟩
  have e : s.get! (i + k) = s[i + k]'h.1 := Go.get_at s (i + k) h.1
  rw [e] at h
  omega
theorem decode_wide (s : ByteArray) (i : Nat) (h : i < s.size) (ha : 128 ≤ (s[i]).toNat) : i + (Utf8.decode s i).2 ≤ s.size ∧ ∀ j (hj : j < s.size), i ≤ j → j < i + (Utf8.decode s i).2 → 128 ≤ (s[j]).toNat := by
  have one : i + 1 ≤ s.size ∧ ∀ j (hj : j < s.size), i ≤ j → j < i + 1 → 128 ≤ (s[j]).toNat := ⟨by omega, fun j hj h1 h2 => by obtain rfl : j = i := by omega
                                                                                                                               exact ha⟩
  unfold Utf8.decode
  simp only
  split
  · exact one
  · split
    · next hc =>
      rw [Bool.and_eq_true] at hc
      obtain ⟨h1, g1⟩ := cont_high s i 1 hc.2
      split
      · refine ⟨by simp only; omega, fun j hj a b => ?_⟩
        simp only at b
        rcases (show j = i ∨ j = i + 1 by omega) with rfl | rfl
        · exact ha
        · exact g1
      · exact one
    · split
      · next hc =>
        rw [Bool.and_eq_true, Bool.and_eq_true] at hc
        obtain ⟨h1, g1⟩ := cont_high s i 1 hc.1.2
        obtain ⟨h2, g2⟩ := cont_high s i 2 hc.2
        split
        · refine ⟨by simp only; omega, fun j hj a b => ?_⟩
          simp only at b
          rcases (show j = i ∨ j = i + 1 ∨ j = i + 2 by omega) with rfl | rfl | rfl
          · exact ha
          · exact g1
          · exact g2
        · exact one
      · split
        · next hc =>
          rw [Bool.and_eq_true, Bool.and_eq_true, Bool.and_eq_true] at hc
          obtain ⟨h1, g1⟩ := cont_high s i 1 hc.1.1.2
          obtain ⟨h2, g2⟩ := cont_high s i 2 hc.1.2
          obtain ⟨h3, g3⟩ := cont_high s i 3 hc.2
          split
          · refine ⟨by simp only; omega, fun j hj a b => ?_⟩
            simp only at b
            rcases (show j = i ∨ j = i + 1 ∨ j = i + 2 ∨ j = i + 3 by omega) with rfl | rfl | rfl | rfl
            · exact ha
            · exact g1
            · exact g2
            · exact g3
          · exact one
        · exact one
theorem length_rest (s : ByteArray) : ∀ (n a : Nat) (q : Bool), (rest s n a q).length ≤ n + 1 := by
  intro n
  induction n using Nat.strongRecOn with
  | _ n ih =>
    intro a q
    have hp : ∀ x y, (part s x y).length ≤ 1 := fun x y => by unfold part; split <;> simp
    cases n with
    | zero => rw [rest]; have := hp a s.size; omega
    | succ m =>
      rw [rest_succ]
      split
      · have := ih m (by omega) a (!q); omega
      · split
        · have := ih (m - 1) (by omega) a q; omega
        · split
          · rw [List.length_append]; have := ih m (by omega) (s.size - (m + 1) + 1) q; have := hp a (s.size - (m + 1)); omega
          · have := ih m (by omega) a q; omega
end Sign
end Go.Proofs.YtkogcbnbmdeolaaDoor
namespace Go.Proofs.YtkogcbnbmdeolaaDoor
open Go.RowKit
set_option linter.unusedVariables false
namespace Sign

/-- a byte, small where it is a great letter -/
def lowB (b : UInt8) : UInt8 := if up (b.toNat : Int) then b + 32 else b
def lower (s : ByteArray) : ByteArray := ⟨(s.data.toList.map lowB).toArray⟩
theorem lowB_up (b : UInt8) (h : up (b.toNat : Int)) : ((lowB b).toNat : Int) = (b.toNat : Int) + 32 := by
  unfold lowB; rw [if_pos h]; unfold up at h; rw [UInt8.toNat_add]; simp; omega
theorem lowB_no (b : UInt8) (h : ¬ up (b.toNat : Int)) : lowB b = b := by unfold lowB; rw [if_neg h]
theorem size_lower (s : ByteArray) : (lower s).size = s.size := by
  show (s.data.toList.map lowB).toArray.size = s.size
  rw [List.size_toArray, List.length_map, Array.length_toList]; rfl

/-- the row at block g bears the bytes of the text, the first k of them small; it may be written -/
structure Part (g : Nat) (s : ByteArray) (k : Nat) (W : World) : Prop where
  done : ∀ j (h : j < s.size), j < k → W.cell? ⟨g, j, none⟩ = some (.int .u8 ((lowB s[j]).toNat : Int))
  todo : ∀ j (h : j < s.size), k ≤ j → W.cell? ⟨g, j, none⟩ = some (.int .u8 (s[j].toNat : Int))
  free : ∀ j (h : j < s.size), W.frozen? ⟨g, j, none⟩ = false

theorem bytes_below (w : World) (e : TypeId) (s : ByteArray) : Below w.heap.size w (Lib.bytesWorld w e s) :=
  ⟨rfl, rfl, rfl, by rw [Lib.bytesWorld_size]; omega, fun k hk => Lib.bytesWorld_at_old w e s k hk⟩
theorem bytes_part (w : World) (e : TypeId) (s : ByteArray) : Part w.heap.size s 0 (Lib.bytesWorld w e s) where
  done := fun j h h' => by omega
  todo := fun j h _ => by
    rw [Lib.bytesWorld_cell w e s j h]
    have hl : j < s.data.toList.length := by rw [Array.length_toList]; exact h
    rw [List.getD, List.getElem?_eq_getElem hl]; rfl
  free := fun j h => by
    have hsz : s.size ≤ (Lib.bytesCells w e s).size := by
      unfold Lib.bytesCells; rw [Array.size_append, Array.size_map]; exact Nat.le_add_right _ _
    unfold World.frozen?
    simp only [Lib.bytesWorld_at_new]
    have : decide ((Lib.bytesCells w e s).size ≤ j) = false := decide_eq_false (by omega)
    simp [this]
theorem part_up {g : Nat} {s : ByteArray} {k : Nat} {W : World} (p : Part g s k W) (hk : k < s.size) (h : up (s[k].toNat : Int)) : Part g s (k + 1) (W.setCell ⟨g, k, none⟩ (.int .u8 ((s[k].toNat : Int) + 32))) where
  done := fun j hj hjk => by
    by_cases e : j = k
    · subst e
      rw [World.cell?_setCell_same (h := p.todo j hj (Nat.le_refl _)), lowB_up _ h]
    · rw [World.cell?_setCell_other (h := by intro h; have h2 : k = j := congrArg Addr.off h; omega)]
      exact p.done j hj (by omega)
  todo := fun j hj hjk => by
    rw [World.cell?_setCell_other (h := by intro h; have h2 : k = j := congrArg Addr.off h; omega)]
    exact p.todo j hj (by omega)
  free := fun j hj => by rw [World.frozen?_setCell]; exact p.free j hj
theorem part_no {g : Nat} {s : ByteArray} {k : Nat} {W : World} (p : Part g s k W) (hk : k < s.size) (h : ¬ up (s[k].toNat : Int)) : Part g s (k + 1) W where
  done := fun j hj hjk => by
    by_cases e : j = k
    · subst e
      rw [lowB_no _ h]; exact p.todo j hj (Nat.le_refl _)
    · exact p.done j hj (by omega)
  todo := fun j hj hjk => p.todo j hj (by omega)
  free := p.free
theorem part_drew {g : Nat} {s : ByteArray} {k : Nat} {W : World} (p : Part g s k W) : Part g s k W.drew :=
  ⟨p.done, p.todo, p.free⟩
theorem part_back {g : Nat} {s : ByteArray} {W : World} (p : Part g s s.size W) (cap : Nat) :
    (convert 22 9 (.slice (some ⟨g, 0, none⟩) s.size cap)).run Tryd.prog W = .ok (.string (lower s)) W := by
  have e : s.size = (s.data.toList.map lowB).length := by rw [List.length_map, Array.length_toList]; rfl
  have h := run_convert_bytes_back (P := Tryd.prog) W 22 9 5 ⟨g, 0, none⟩ cap (s.data.toList.map lowB) Tryd.underlying22 Tryd.underlying5 Tryd.underlying9 (by
    intro j hj
    have hj' : j < s.size := by omega
    have h := p.done j hj' hj'
    have ea : (⟨g, 0, none⟩ : Addr).add j = ⟨g, j, none⟩ := by
      unfold Addr.add; by_cases e : j = 0
      · subst e; simp
      · simp [e]
    rw [ea, h, List.getElem_map]
    rfl)
  rw [← e] at h
  exact h
end Sign
end Go.Proofs.YtkogcbnbmdeolaaDoor
