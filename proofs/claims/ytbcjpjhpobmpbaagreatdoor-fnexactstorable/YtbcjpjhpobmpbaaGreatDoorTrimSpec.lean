/-
  Trim of the specification: what the call returns, for every text; the world stays.
-/
import Derived.Test.YtbcjpjhpobmpbaaGreatDoorSignNum
import Derived.Test.YtbcjpjhpobmpbaaGreatDoorRows
import Derived.Laws.Strings
namespace Go.Proofs.YtbcjpjhpobmpbaaGreatDoor
open Go.RowKit
set_option linter.unusedVariables false
namespace Sign

set_option maxRecDepth 100000 in
set_option maxHeartbeats 1000000 in
theorem blank_any (c : Int) (w : World) : Calls Tryz.prog 88 #[.int .u8 c] w fun e w' => e = .returned (.bool (decide (blank c))) ∧ w = w' := by
  by_cases h1 : c = 32
  · subst h1
    rw [show decide (blank 32) = true from decide_eq_true (.inl rfl)]
    go_enter Tryz.func88, Tryz.ntmps88
    go_wp2
    all_goals go_ret
    all_goals exact ⟨rfl, rfl⟩
  · have d1 : (c == 32) = false := by rw [beq_eq_false_iff_ne]; exact h1
    by_cases h2 : c = 9
    · have d2 : (c == 9) = true := by rw [beq_iff_eq]; exact h2
      rw [show decide (blank c) = true from decide_eq_true (.inr h2)]
      clear h1 h2
      go_enter Tryz.func88, Tryz.ntmps88
      go_wp2
      all_goals go_ret
      all_goals exact ⟨rfl, rfl⟩
    · have d2 : (c == 9) = false := by rw [beq_eq_false_iff_ne]; exact h2
      rw [show decide (blank c) = false from decide_eq_false (fun h => h.elim h1 h2)]
      go_enter Tryz.func88, Tryz.ntmps88
      go_wp2
      all_goals go_ret
      all_goals exact ⟨rfl, rfl⟩

def bl (b : UInt8) : Bool := decide (blank (b.toNat : Int))
/-- a text without blanks ahead and behind -/
def trim (s : ByteArray) : ByteArray := ⟨((s.data.toList.dropWhile bl).reverse.dropWhile bl).reverse.toArray⟩
theorem trim_size (s : ByteArray) : (trim s).size ≤ s.size := by
  show ((s.data.toList.dropWhile bl).reverse.dropWhile bl).reverse.toArray.size ≤ s.size
  rw [List.size_toArray, List.length_reverse]
  have h1 := (List.dropWhile_sublist bl (l := (s.data.toList.dropWhile bl).reverse)).length_le
  have h2 := (List.dropWhile_sublist bl (l := s.data.toList)).length_le
  rw [List.length_reverse] at h1
  have e : s.data.toList.length = s.size := by rw [Array.length_toList]; rfl
  omega
theorem drop_all (l m : List UInt8) (h : ∀ b ∈ l, bl b = true) : (l ++ m).dropWhile bl = m.dropWhile bl := by
  induction l with
  | nil => rfl
  | cons c r ih => rw [List.cons_append, List.dropWhile_cons_of_pos (h c (by simp)), ih fun b hb => h b (by simp [hb])]
theorem trim_parts (l m r : List UInt8) (hl : ∀ b ∈ l, bl b = true) (hr : ∀ b ∈ r, bl b = true) (h0 : m = [] ∨ (∃ c t, m = c :: t ∧ bl c = false) ∧ ∃ t c, m = t ++ [c] ∧ bl c = false) :
    ((((l ++ m ++ r).dropWhile bl).reverse.dropWhile bl).reverse) = m := by
  rw [List.append_assoc, drop_all l _ hl]
  rcases h0 with rfl | ⟨⟨c, t, hm, hc⟩, t', c', hm', hc'⟩
  · have : r.dropWhile bl = [] := by have := drop_all r [] hr; rwa [List.append_nil] at this
    rw [List.nil_append, this]; rfl
  · have e : (m ++ r).dropWhile bl = m ++ r := by rw [hm, List.cons_append, List.dropWhile_cons_of_neg (by simp [hc])]
    rw [e, List.reverse_append, drop_all r.reverse _ (fun b hb => hr b (by simpa using hb)), hm', List.reverse_append]
    rw [List.reverse_singleton, List.singleton_append, List.dropWhile_cons_of_neg (by simp [hc']), List.reverse_cons, List.reverse_reverse]
theorem trim_of (s : ByteArray) (a b : Nat) (hab : a ≤ b) (hb : b ≤ s.size) (h1 : ∀ i (h : i < s.size), i < a → bl s[i] = true) (h2 : ∀ i (h : i < s.size), b ≤ i → bl s[i] = true)
    (h3 : a = b ∨ (∃ h : a < s.size, bl s[a] = false) ∧ ∃ h : b - 1 < s.size, bl s[b - 1] = false) : s.extract a b = trim s := by
  have hlen : s.data.toList.length = s.size := by rw [Array.length_toList]; rfl
  have e : s.data.toList = s.data.toList.take a ++ (s.data.toList.take b).drop a ++ s.data.toList.drop b := by
    have e1 : s.data.toList.take a = (s.data.toList.take b).take a := by rw [List.take_take, Nat.min_eq_left hab]
    rw [e1, List.take_append_drop, List.take_append_drop]
  have hm : (s.extract a b).data.toList = (s.data.toList.take b).drop a := by
    rw [ByteArray.data_extract, Array.toList_extract, List.extract_eq_drop_take', List.drop_take]
  have hh : ((s.data.toList.dropWhile bl).reverse.dropWhile bl).reverse = (s.data.toList.take b).drop a := by
    conv => lhs; rw [e]
    apply trim_parts
    · intro c hc
      obtain ⟨i, hi, rfl⟩ := List.getElem_of_mem hc
      rw [List.getElem_take]
      rw [List.length_take] at hi
      exact h1 i (by omega) (by omega)
    · intro c hc
      obtain ⟨i, hi, rfl⟩ := List.getElem_of_mem hc
      rw [List.getElem_drop]
      rw [List.length_drop] at hi
      exact h2 (b + i) (by omega) (by omega)
    · rcases h3 with rfl | ⟨⟨ha, h4⟩, hb', h5⟩
      · left; rw [List.drop_eq_nil_of_le]; rw [List.length_take]; omega
      · have hlt : a < b := by
          by_cases h : a < b
          · exact h
          · exfalso
            have := h2 a ha (by omega)
            rw [h4] at this; cases this
        right
        refine ⟨⟨s[a], (s.data.toList.take b).drop (a + 1), ?_, h4⟩, ((s.data.toList.take b).drop a).take (b - 1 - a), s[b - 1], ?_, h5⟩
        · rw [List.drop_eq_getElem_cons (by rw [List.length_take]; omega)]
          congr 1
          rw [List.getElem_take]; rfl
        · have hl2 : ((s.data.toList.take b).drop a).length = (b - 1 - a) + 1 := by rw [List.length_drop, List.length_take]; omega
          conv => lhs; rw [← List.take_of_length_le (Nat.le_of_eq hl2)]
          rw [List.take_succ_eq_append_getElem (by omega)]
          congr 2
          rw [List.getElem_drop, List.getElem_take]
          show s.data.toList[a + (b - 1 - a)]'(by omega) = s.data.toList[b - 1]'(by omega)
          congr 1; omega
  apply ByteArray.ext
  apply Array.toList_inj.1
  rw [hm, ← hh]; rfl
theorem ext_size (s : ByteArray) (a b : Nat) (hab : a ≤ b) (hb : b ≤ s.size) : (s.extract a b).size = b - a := by
  rw [ByteArray.size_extract, Nat.min_eq_left hb]
theorem ext_at (s : ByteArray) (a b i : Nat) (hab : a ≤ b) (hb : b ≤ s.size) (h : i < (s.extract a b).size) : (s.extract a b)[i] = s[a + i]'(by rw [ext_size s a b hab hb] at h; omega) := ByteArray.getElem_extract h
theorem ext_ext (s : ByteArray) (a b c d : Nat) (hb : b ≤ s.size) (hd : a + d ≤ b) : (s.extract a b).extract c d = s.extract (a + c) (a + d) := by
  rw [ByteArray.extract_extract, Nat.min_eq_left hd]
set_option maxRecDepth 100000 in
set_option maxHeartbeats 1000000 in
theorem trim_spec (s : ByteArray) (w : World) (hs : s.size ≤ maxLen) : Calls Tryz.prog 45 #[.string s] w fun e w' => e = .returned (.string (trim s)) ∧ w = w' := by
  unfold maxLen at hs
  obtain ⟨r, hr⟩ : ∃ r, trim s = r := ⟨_, rfl⟩
  rw [hr]
  have HR := Num.hide hr
  clear hr
  go_enter Tryz.func45, Tryz.ntmps45
  go_wp2
  go_loop [0] (fun v => ∃ (t : ByteArray) (k : Nat), k ≤ s.size ∧ v = .string t ∧ t = s.extract k s.size ∧ ∀ i (h : i < s.size), i < k → bl s[i] = true) (fun v => match v with | .string t => t.size | _ => 0)
  case atStart => exact ⟨s, 0, by omega, rfl, by rw [ByteArray.extract_zero_size], fun i h h' => by omega⟩
  case round =>
    obtain ⟨t, k, hk, rfl, ht, hall⟩ := hrel
    have ht0 := ht
    have hts : t.size = s.size - k := by rw [ht, ext_size s k s.size hk (Nat.le_refl _)]
    have HA := Num.hide hall
    have HT := Num.hide ht
    have HS := Num.hide hts
    clear hall ht
    by_cases h0 : 0 < t.size
    · have d0 : decide (0 < (t.size : Int)) = true := by simp; omega
      have h0' : (0 : Int) < (t.size : Int) := by omega
      have hks : k < s.size := by omega
      have hat := Num.hide (show t[0] = s[k] by subst ht0; exact (ext_at s k s.size 0 hk (Nat.le_refl _) h0).trans rfl)
      clear hts ht0
      by_cases hb : blank (t[0].toNat : Int)
      · have hd := Num.hide (decide_eq_true hb)
        have hbl := Num.hide (show bl s[k] = true by rw [← Num.unhide hat]; exact decide_eq_true hb)
        clear hb
        go_wp2_with (go_at_call 88; refine (blank_any _ _).mono ?_; rintro e w' ⟨rfl, rfl⟩; rw [Num.unhide hd])
        have hts := Num.unhide HS
        refine ⟨⟨_, k + 1, by omega, rfl, ?_, fun i h h' => ?_⟩, ?_⟩
        · rw [Num.unhide HT, ext_size s k s.size hk (Nat.le_refl _), ext_ext s k s.size 1 (s.size - k) (Nat.le_refl _) (by omega)]
          congr 1; omega
        · by_cases he : i = k
          · subst he; exact Num.unhide hbl
          · exact Num.unhide HA i h (by omega)
        · show (t.extract 1 t.size).size < t.size
          rw [ByteArray.size_extract]; omega
      · have hd := Num.hide (decide_eq_false hb)
        have hbl := Num.hide (show bl s[k] = false by rw [← Num.unhide hat]; exact decide_eq_false hb)
        clear hb
        go_wp2_with (go_at_call 88; refine (blank_any _ _).mono ?_; rintro e w' ⟨rfl, rfl⟩; rw [Num.unhide hd])
        go_loop [0] (fun v => ∃ (t : ByteArray) (b : Nat), k < b ∧ b ≤ s.size ∧ v = .string t ∧ t = s.extract k b ∧ ∀ i (h : i < s.size), b ≤ i → bl s[i] = true) (fun v => match v with | .string t => t.size | _ => 0)
        case atStart => exact ⟨t, s.size, hks, Nat.le_refl _, rfl, Num.unhide HT, fun i h h' => by omega⟩
        case round =>
          obtain ⟨t2, b, hkb, hb, rfl, ht2, hall2⟩ := hrel
          obtain ⟨n, hn⟩ : ∃ n, t2.size = n + 1 := ⟨b - k - 1, by rw [ht2, ext_size s k b (by omega) hb]; omega⟩
          have hnb : b = k + n + 1 := by rw [ht2, ext_size s k b (by omega) hb] at hn; omega
          have hat2 := Num.hide (show t2[n]'(by omega) = s[k + n]'(by omega) by subst ht2; exact ext_at s k b n (by omega) hb (by omega))
          have HA2 := Num.hide hall2
          have HT2 := Num.hide ht2
          clear hall2 ht2
          have i0 : ((n : Int) + 1 - 1) = n := by omega
          have d1 : decide (0 < (t2.size : Int)) = true := by simp; omega
          have hnlt : n < t2.size := by omega
          by_cases hb2 : blank ((t2[n]'hnlt).toNat : Int)
          · have hd2 := Num.hide (decide_eq_true hb2)
            have hbl2 := Num.hide (show bl (s[k + n]'(by omega)) = true by rw [← Num.unhide hat2]; exact decide_eq_true hb2)
            clear hb2
            go_wp2_with (go_at_call 88; refine (blank_any _ _).mono ?_; rintro e w' ⟨rfl, rfl⟩; rw [Num.unhide hd2])
            have hn0 : 0 < n := by
              by_cases hz : 0 < n
              · exact hz
              · exfalso
                obtain rfl : n = 0 := by omega
                have h1 := Num.unhide hbl
                have h2 := Num.unhide hbl2
                rw [show s[k + 0]'(by omega) = s[k] from rfl, h1] at h2
                cases h2
            refine ⟨⟨_, k + n, by omega, by omega, rfl, ?_, fun i h h' => ?_⟩, ?_⟩
            · rw [Num.unhide HT2, ext_ext s k b 0 n hb (by omega)]; rfl
            · by_cases he : i = k + n
              · subst he; exact Num.unhide hbl2
              · exact Num.unhide HA2 i h (by omega)
            · show (t2.extract 0 n).size < t2.size
              rw [ByteArray.size_extract]; omega
          · have hd2 := Num.hide (decide_eq_false hb2)
            have hbl2 := Num.hide (show bl (s[k + n]'(by omega)) = false by rw [← Num.unhide hat2]; exact decide_eq_false hb2)
            clear hb2
            go_wp2_with (go_at_call 88; refine (blank_any _ _).mono ?_; rintro e w' ⟨rfl, rfl⟩; rw [Num.unhide hd2])
            go_ret
            refine ⟨?_, rfl⟩
            rw [← Num.unhide HR, ← trim_of s k b (by omega) hb (Num.unhide HA) (Num.unhide HA2) (.inr ⟨⟨hks, Num.unhide hbl⟩, by omega, ?_⟩), ← Num.unhide HT2]
            · rfl
            · have h2 := Num.unhide hbl2
              have e : b - 1 = k + n := by omega
              simp only [e]; exact h2
    · have hz : t.size = 0 := by omega
      have hkz : k = s.size := by omega
      have hd0 : decide (0 < (t.size : Int)) = false := by rw [hz]; rfl
      have ht2 : t = trim s := by
        rw [ht0]
        exact trim_of s k s.size hk (Nat.le_refl _) (Num.unhide HA) (fun i h h' => by omega) (.inl hkz)
      rw [Num.unhide HR] at ht2
      have HT2 := Num.hide ht2
      clear hts ht0 ht2 h0
      go_wp2
      go_loop [0] (fun v => v = .string t) (fun v => 0)
      case atStart => rfl
      case round =>
        obtain rfl := hrel
        go_wp2
        go_ret
        exact ⟨by rw [← Num.unhide HT2]; rfl, rfl⟩
end Sign
end Go.Proofs.YtbcjpjhpobmpbaaGreatDoor
