/-
  BodyBack: Plain facts on bodies in pieces: what is made of a text is read as it, whatever stands behind; of a beginning more is wanted.
-/
import Derived.Test.YtkenmilglfnmbaaGreatDoorUnchunkNum
import Derived.Test.YtkenmilglfnmbaaGreatDoorLineNum
namespace Go.Proofs.YtkenmilglfnmbaaGreatDoor
open Go.RowKit
set_option linter.unusedVariables false
namespace Body
open Line (byteAt byteAt_eq)

theorem hx_all : ∀ k, k < 16 → hv ((Hex.hx k).toNat : Int) = (k : Int) ∧ ¬ Hex.hx k = 13 := by decide
theorem dh_val : ∀ (f u : Nat), u < 16 ^ f → f ≤ 16 → hexVal (dh u) = (u : Int) ∧ (dh u).all isHex = true ∧ (dh u).length ≤ f ∧ ∀ b ∈ dh u, ¬ b = 13 := by
  intro f
  induction f with
  | zero =>
    intro u h _
    simp only [Nat.pow_zero] at h
    obtain rfl : u = 0 := by omega
    rw [dh_zero]
    exact ⟨rfl, rfl, Nat.le_refl _, fun b hb => by cases hb⟩
  | succ f ih =>
    intro u h hf
    by_cases h0 : u = 0
    · subst h0
      rw [dh_zero]
      exact ⟨rfl, rfl, Nat.zero_le _, fun b hb => by cases hb⟩
    · have hlt : u < 16 ^ 16 := Nat.lt_of_lt_of_le h (Nat.pow_le_pow_right (by decide) hf)
      obtain ⟨h1, h2, h3, h4⟩ := ih (u / 16) (by rw [Nat.pow_succ] at h; omega) (by omega)
      obtain ⟨k1, k2⟩ := hx_all (u % 16) (by omega)
      rw [dh_step u h0 hlt]
      refine ⟨?_, ?_, ?_, ?_⟩
      · rw [hexVal_snoc, h1, k1]; omega
      · rw [List.all_append, h2, Bool.true_and]
        simp only [List.all_cons, List.all_nil, Bool.and_true]
        unfold isHex
        rw [k1]
        exact decide_eq_true (by omega)
      · rw [List.length_append, List.length_singleton]; omega
      · intro b hb
        rcases List.mem_append.1 hb with h5 | h5
        · exact h4 b h5
        · rw [List.mem_singleton.1 h5]; exact k2
theorem dh_pos (u : Nat) (h0 : u ≠ 0) (h : u < 16 ^ 16) : 1 ≤ (dh u).length := by rw [dh_step u h0 h, List.length_append, List.length_singleton]; omega
/-- the digits of a number from 0 to 16777215 -/
theorem hexL_all (n : Nat) (h : n < 16777216) : hexVal (hexL (n : Int)) = (n : Int) ∧ (hexL (n : Int)).all isHex = true ∧ 1 ≤ (hexL (n : Int)).length ∧ (hexL (n : Int)).length ≤ 6 ∧ ∀ b ∈ hexL (n : Int), ¬ b = 13 := by
  unfold hexL
  rw [if_neg (by omega)]
  by_cases h0 : (n : Int) = 0
  · rw [if_pos h0]
    obtain rfl : n = 0 := by omega
    exact ⟨by decide, by decide, by decide, by decide, by decide⟩
  · rw [if_neg h0, Int.toNat_natCast]
    obtain ⟨h1, h2, h3, h4⟩ := dh_val 6 n (by omega) (by omega)
    exact ⟨h1, h2, dh_pos n (by omega) (by omega), h3, h4⟩
theorem readHex_hex (n : Nat) (h : n < 16777216) : readHex (hexNum (n : Int)) = some (n : Int) := by
  obtain ⟨h1, h2, h3, h4, _⟩ := hexL_all n h
  have e : (hexNum (n : Int)).data.toList = hexL (n : Int) := by unfold hexNum; rw [List.toList_toArray]
  have e2 : (hexNum (n : Int)).size = (hexL (n : Int)).length := by rw [← e, Array.length_toList]; rfl
  unfold readHex
  rw [if_pos ⟨by rw [e]; exact h2, by omega, by omega⟩, e, h1]
/-- the digits of at most 60: one or two -/
theorem hexL_two (n : Nat) (h : n ≤ 60) : (hexL (n : Int)).length ≤ 2 := by
  have : ∀ n : Nat, n ≤ 60 → (hexL (n : Int)).length ≤ 2 := by decide +kernel
  exact this n h
theorem byteAt_of (T : ByteArray) (p : List UInt8) (b : UInt8) (q : List UInt8) (h : T.data.toList = p ++ b :: q) : byteAt T p.length = b.toNat := by
  have hl : T.data.toList.length = T.size := by rw [Array.length_toList]; rfl
  have hlt : p.length < T.size := by rw [← hl, h]; simp
  rw [byteAt_eq T _ hlt]
  congr 1
  have : T.data.toList[p.length]'(by omega) = b := by simp [h]
  exact this
theorem extract_mid (T : ByteArray) (p t q : List UInt8) (h : T.data.toList = p ++ (t ++ q)) : T.extract p.length (p.length + t.length) = ⟨t.toArray⟩ := by
  apply ByteArray.ext
  apply Array.toList_inj.1
  rw [ByteArray.data_extract, Array.toList_extract, List.extract_eq_drop_take', h]
  rw [List.take_append, List.drop_append]
  simp
theorem size_list (T : ByteArray) : T.size = T.data.toList.length := by rw [Array.length_toList]; rfl
/-- one piece -/
theorem un_piece (T : ByteArray) (p t q : List UInt8) (out : ByteArray) (f : Nat) (n : Nat) (hn : t.length = n) (h60 : out.size + n ≤ 60)
    (hT : T.data.toList = p ++ (hexL (n : Int) ++ 13 :: 10 :: (t ++ 13 :: 10 :: q))) :
    unF T (f + 1) p.length out = if (n : Int) = 0 then (out ++ ⟨t.toArray⟩, ((p ++ hexL (n : Int) ++ [13, 10] ++ t ++ [13, 10]).length : Int), 0) else unF T f (p ++ hexL (n : Int) ++ [13, 10] ++ t ++ [13, 10]).length (out ++ ⟨t.toArray⟩) := by
  obtain ⟨_, _, _, _, h13⟩ := hexL_all n (by omega)
  obtain ⟨he, hx⟩ := Line.eol_line T p (hexL (n : Int)) _ hT h13
  have hr := readHex_hex n (by omega)
  have hsz := size_list T
  rw [hT] at hsz
  simp only [List.length_append, List.length_cons] at hsz
  have e1 : p.length + (hexL (n : Int)).length + 2 = (p ++ hexL (n : Int) ++ [13, 10]).length := by simp only [List.length_append, List.length_cons, List.length_nil]
  have e2 : p.length + (hexL (n : Int)).length + 2 + n = (p ++ hexL (n : Int) ++ [13, 10] ++ t).length := by simp only [List.length_append, List.length_cons, List.length_nil]; omega
  have e3 : p.length + (hexL (n : Int)).length + 2 + n + 1 = (p ++ hexL (n : Int) ++ [13, 10] ++ t ++ [13]).length := by simp only [List.length_append, List.length_cons, List.length_nil]; omega
  have e4 : p.length + (hexL (n : Int)).length + 2 + n + 2 = (p ++ hexL (n : Int) ++ [13, 10] ++ t ++ [13, 10]).length := by simp only [List.length_append, List.length_cons, List.length_nil]; omega
  have b1 : byteAt T (p.length + (hexL (n : Int)).length + 2 + n) = 13 := by rw [e2]; exact byteAt_of T _ 13 (10 :: q) (by rw [hT]; simp)
  have b2 : byteAt T (p.length + (hexL (n : Int)).length + 2 + n + 1) = 10 := by rw [e3]; exact byteAt_of T _ 10 q (by rw [hT]; simp)
  have ex : T.extract (p.length + (hexL (n : Int)).length + 2) (p.length + (hexL (n : Int)).length + 2 + n) = ⟨t.toArray⟩ := by
    have h := extract_mid T (p ++ hexL (n : Int) ++ [13, 10]) t (13 :: 10 :: q) (by rw [hT]; simp)
    rw [hn, ← e1] at h
    exact h
  rw [unF, he]
  simp only
  rw [hx, show (⟨(hexL (n : Int)).toArray⟩ : ByteArray) = hexNum (n : Int) from rfl, hr]
  simp only [Int.toNat_natCast]
  rw [if_neg (by omega), if_neg (by omega), if_pos ⟨b1, b2⟩, ex, e4]
/-- all pieces, and the end -/
theorem un_all (T : ByteArray) (z : Nat) (hz : 1 ≤ z) (q : List UInt8) : ∀ (k : Nat) (l : List UInt8) (p : List UInt8) (out : ByteArray) (f : Nat), l.length ≤ k → l.length + 1 ≤ f → out.size + l.length ≤ 60 →
    T.data.toList = p ++ (chunkL z l ++ [48, 13, 10, 13, 10] ++ q) → unF T f p.length out = (out ++ ⟨l.toArray⟩, ((p ++ chunkL z l ++ [48, 13, 10, 13, 10]).length : Int), 0) := by
  intro k
  induction k with
  | zero =>
    intro l p out f hk hf h60 hT
    obtain rfl : l = [] := List.eq_nil_of_length_eq_zero (by omega)
    obtain ⟨f, rfl⟩ : ∃ g, f = g + 1 := ⟨f - 1, by omega⟩
    rw [un_piece T p [] q out f 0 rfl (by simpa using h60) (by rw [hT, chunkL_nil]; rfl), if_pos (show ((0 : Nat) : Int) = 0 from rfl)]
    simp [chunkL_nil, hexL]
  | succ k ih =>
    intro l p out f hk hf h60 hT
    by_cases h0 : l = []
    · subst h0
      obtain ⟨f, rfl⟩ : ∃ g, f = g + 1 := ⟨f - 1, by omega⟩
      rw [un_piece T p [] q out f 0 rfl (by simpa using h60) (by rw [hT, chunkL_nil]; rfl), if_pos (show ((0 : Nat) : Int) = 0 from rfl)]
      simp [chunkL_nil, hexL]
    · have hl : 0 < l.length := List.length_pos_iff.2 h0
      obtain ⟨f, rfl⟩ : ∃ g, f = g + 1 := ⟨f - 1, by omega⟩
      have hs := chunkL_step z hz l h0
      obtain ⟨n, hn⟩ : ∃ n, min z l.length = n := ⟨_, rfl⟩
      rw [hn] at hs
      have ht : (l.take n).length = n := by rw [List.length_take]; omega
      have hd : (l.drop n).length = l.length - n := List.length_drop
      rw [hs] at hT
      rw [un_piece T p (l.take n) (chunkL z (l.drop n) ++ [48, 13, 10, 13, 10] ++ q) out f n ht (by omega) (by rw [hT]; simp), if_neg (by omega)]
      rw [ih (l.drop n) _ (out ++ ⟨(l.take n).toArray⟩) f (by omega) (by omega) (by rw [ByteArray.size_append]; have : (⟨(l.take n).toArray⟩ : ByteArray).size = n := by show (l.take n).toArray.size = n; rw [List.size_toArray]; exact ht
                                                                                    omega) (by rw [hT]; simp)]
      rw [hs]
      have e1 : out ++ ⟨(l.take n).toArray⟩ ++ ⟨(l.drop n).toArray⟩ = out ++ ⟨l.toArray⟩ := by
        rw [ByteArray.append_assoc]
        congr 1
        apply ByteArray.ext
        apply Array.toList_inj.1
        simp
      rw [e1]
      simp
theorem unchunk_chunk (s : ByteArray) (z : Int) (q : ByteArray) (hz : 1 ≤ z) (hs : s.size ≤ 60) : unchunk (chunk s z ++ q) = (s, ((chunk s z).size : Int), 0) := by
  obtain ⟨Z, rfl⟩ : ∃ Z : Nat, z = (Z : Int) := ⟨z.toNat, by omega⟩
  have hc : chunk s (Z : Int) = ⟨(chunkL Z s.data.toList ++ [48, 13, 10, 13, 10]).toArray⟩ := by unfold chunk; rw [if_neg (by omega)]; rfl
  have hsl := size_list s
  have hT : (chunk s (Z : Int) ++ q).data.toList = [] ++ (chunkL Z s.data.toList ++ [48, 13, 10, 13, 10] ++ q.data.toList) := by rw [hc]; simp
  have hlen : s.size ≤ (chunk s (Z : Int) ++ q).size := by
    have key : ∀ (f : Nat) (l : List UInt8), l.length ≤ f → l.length ≤ (chF Z f l).length := by
      intro f
      induction f with
      | zero => intro l h; omega
      | succ f ih =>
        intro l h
        rw [chF]
        split
        · next h0 => subst h0; exact Nat.le_refl _
        · next h0 =>
          have hl : 0 < l.length := List.length_pos_iff.2 h0
          have h2 := ih (l.drop (min Z l.length)) (by rw [List.length_drop]; omega)
          rw [List.length_drop] at h2
          simp only [List.length_append, List.length_take, List.length_cons, List.length_nil]
          omega
    have h1 := key _ s.data.toList (Nat.le_refl _)
    have h2 := size_list (chunk s (Z : Int) ++ q)
    rw [hT] at h2
    simp only [List.nil_append, List.length_append] at h2
    unfold chunkL at h2
    omega
  unfold unchunk
  have := un_all (chunk s (Z : Int) ++ q) Z (by omega) q.data.toList s.size s.data.toList [] ⟨#[]⟩ ((chunk s (Z : Int) ++ q).size + 1) (by omega) (by omega) (by show 0 + _ ≤ 60; omega) hT
  rw [List.length_nil] at this
  rw [this]
  have e1 : (⟨#[]⟩ : ByteArray) ++ ⟨s.data.toList.toArray⟩ = s := by apply ByteArray.ext; simp
  have e2 : (chunk s (Z : Int)).size = ([] ++ chunkL Z s.data.toList ++ [48, 13, 10, 13, 10]).length := by rw [size_list, hc]; simp
  rw [e1, e2]
theorem index_no (u : List UInt8) (h : ∀ b ∈ u, ¬ b = 13) : Lib.index u [13, 10] = -1 ∧ Lib.index (u ++ [13]) [13, 10] = -1 := by
  induction u with
  | nil => exact ⟨by decide, by decide⟩
  | cons b u ih =>
    have hb : ¬ b = 13 := h b (List.mem_cons_self ..)
    obtain ⟨h1, h2⟩ := ih (fun c hc => h c (List.mem_cons_of_mem _ hc))
    have hp : ∀ r, ¬ ([13, 10] : List UInt8).isPrefixOf (b :: r) = true := by
      intro r hr
      simp only [List.isPrefixOf, Bool.and_eq_true, beq_iff_eq] at hr
      exact hb hr.1.symm
    constructor
    · rw [Lib.index, if_neg (hp _), h1]; rfl
    · rw [List.cons_append, Lib.index, if_neg (hp _), h2]; rfl
theorem eol_no (T : ByteArray) (p u : List UInt8) (hT : T.data.toList = p ++ u) (h : Lib.index u [13, 10] = -1) : Line.eol T p.length = none := by
  have hi := Line.index_eolGo T _ p.length rfl
  rw [hT, List.drop_left, h] at hi
  show Line.eolGo T _ _ = none
  cases he : Line.eolGo T (T.size - p.length) p.length with
  | none => rfl
  | some k =>
    rw [he] at hi
    have := Line.eolGo_in T _ _ _ he
    unfold Line.eolI at hi
    simp only at hi
    omega
/-- a piece that is cut -/
theorem un_cut (T : ByteArray) (p r : List UInt8) (out : ByteArray) (f : Nat) (n : Nat) (h60 : out.size + n ≤ 60) (K : Nat) (hK : K < (hexL (n : Int)).length + 2 + n + 2)
    (hT : T.data.toList = p ++ (hexL (n : Int) ++ 13 :: 10 :: r).take K) (hr : n + 2 ≤ r.length) : unF T (f + 1) p.length out = more := by
  obtain ⟨_, _, _, _, h13⟩ := hexL_all n (by omega)
  have h2 := hexL_two n (by omega)
  have hsz := size_list T
  rw [hT] at hsz
  simp only [List.length_append, List.length_take, List.length_cons] at hsz
  by_cases hk : K ≤ (hexL (n : Int)).length + 1
  · have he : Line.eol T p.length = none := by
      apply eol_no T p _ hT
      by_cases hk2 : K ≤ (hexL (n : Int)).length
      · rw [List.take_append_of_le_length hk2]
        exact (index_no _ (fun b hb => h13 b (List.mem_of_mem_take hb))).1
      · obtain rfl : K = (hexL (n : Int)).length + 1 := by omega
        have e : (hexL (n : Int) ++ 13 :: 10 :: r).take ((hexL (n : Int)).length + 1) = hexL (n : Int) ++ [13] := by
          rw [List.take_append, List.take_of_length_le (by omega)]; simp
        rw [e]
        exact (index_no _ h13).2
    rw [unF, he]
    simp only
    rw [if_neg (by omega)]
  · have e : (hexL (n : Int) ++ 13 :: 10 :: r).take K = hexL (n : Int) ++ 13 :: 10 :: r.take (K - (hexL (n : Int)).length - 2) := by
      rw [List.take_append]
      obtain ⟨m, hm⟩ : ∃ m, K - (hexL (n : Int)).length = m + 2 := ⟨K - (hexL (n : Int)).length - 2, by omega⟩
      rw [hm, List.take_of_length_le (by omega)]
      simp
    rw [e] at hT
    obtain ⟨he, hx⟩ := Line.eol_line T p (hexL (n : Int)) _ hT h13
    have hrd := readHex_hex n (by omega)
    rw [unF, he]
    simp only
    rw [hx, show (⟨(hexL (n : Int)).toArray⟩ : ByteArray) = hexNum (n : Int) from rfl, hrd]
    simp only [Int.toNat_natCast]
    rw [if_neg (by omega), if_pos (by omega)]
/-- of a beginning more is wanted -/
theorem un_pre (T : ByteArray) (z : Nat) (hz : 1 ≤ z) : ∀ (k : Nat) (l : List UInt8) (p : List UInt8) (out : ByteArray) (f K : Nat), l.length ≤ k → K + 1 ≤ f → out.size + l.length ≤ 60 →
    K < (chunkL z l).length + 5 → T.data.toList = p ++ (chunkL z l ++ [48, 13, 10, 13, 10]).take K → unF T f p.length out = more := by
  intro k
  induction k with
  | zero =>
    intro l p out f K hk hf h60 hK hT
    obtain rfl : l = [] := List.eq_nil_of_length_eq_zero (by omega)
    obtain ⟨f, rfl⟩ : ∃ g, f = g + 1 := ⟨f - 1, by omega⟩
    rw [chunkL_nil] at hK hT
    exact un_cut T p [13, 10] out f 0 (by simpa using h60) K (by simp [hexL] at hK ⊢; omega) (by rw [hT]; rfl) (by decide)
  | succ k ih =>
    intro l p out f K hk hf h60 hK hT
    obtain ⟨f, rfl⟩ : ∃ g, f = g + 1 := ⟨f - 1, by omega⟩
    by_cases h0 : l = []
    · subst h0
      rw [chunkL_nil] at hK hT
      exact un_cut T p [13, 10] out f 0 (by simpa using h60) K (by simp [hexL] at hK ⊢; omega) (by rw [hT]; rfl) (by decide)
    · have hl : 0 < l.length := List.length_pos_iff.2 h0
      have hs := chunkL_step z hz l h0
      obtain ⟨n, hn⟩ : ∃ n, min z l.length = n := ⟨_, rfl⟩
      rw [hn] at hs
      have ht : (l.take n).length = n := by rw [List.length_take]; omega
      have hd : (l.drop n).length = l.length - n := List.length_drop
      have hfm : chunkL z l ++ [48, 13, 10, 13, 10] = hexL (n : Int) ++ 13 :: 10 :: (l.take n ++ 13 :: 10 :: (chunkL z (l.drop n) ++ [48, 13, 10, 13, 10])) := by rw [hs]; simp
      by_cases hc : K < (hexL (n : Int)).length + 2 + n + 2
      · rw [hfm] at hT
        exact un_cut T p _ out f n (by omega) K hc hT (by simp only [List.length_append, List.length_cons, ht]; omega)
      · obtain ⟨m, hm⟩ : ∃ m, K = (hexL (n : Int)).length + 2 + n + 2 + m := ⟨K - ((hexL (n : Int)).length + 2 + n + 2), by omega⟩
        have hfm2 : (chunkL z l ++ [48, 13, 10, 13, 10]).take K = hexL (n : Int) ++ 13 :: 10 :: (l.take n ++ 13 :: 10 :: (chunkL z (l.drop n) ++ [48, 13, 10, 13, 10]).take m) := by
          have hsplit : chunkL z l ++ [48, 13, 10, 13, 10] = (hexL (n : Int) ++ [13, 10] ++ l.take n ++ [13, 10]) ++ (chunkL z (l.drop n) ++ [48, 13, 10, 13, 10]) := by rw [hs]; simp
          have hlen : (hexL (n : Int) ++ [13, 10] ++ l.take n ++ [13, 10]).length = (hexL (n : Int)).length + 2 + n + 2 := by simp only [List.length_append, List.length_cons, List.length_nil, ht]
          rw [hsplit, List.take_append, List.take_of_length_le (by omega), hlen, show K - ((hexL (n : Int)).length + 2 + n + 2) = m by omega]
          simp
        rw [hfm2] at hT
        have hpl := un_piece T p (l.take n) ((chunkL z (l.drop n) ++ [48, 13, 10, 13, 10]).take m) out f n ht (by omega) hT
        rw [if_neg (by omega)] at hpl
        rw [hpl]
        have hKm : m < (chunkL z (l.drop n)).length + 5 := by
          rw [hs] at hK
          simp only [List.length_append, List.length_cons, List.length_nil, ht] at hK
          omega
        refine ih (l.drop n) (p ++ hexL (n : Int) ++ [13, 10] ++ l.take n ++ [13, 10]) (out ++ ⟨(l.take n).toArray⟩) f m (by omega) (by omega) ?_ hKm (by rw [hT]; simp only [List.append_assoc, List.cons_append, List.nil_append])
        rw [ByteArray.size_append]
        have : (⟨(l.take n).toArray⟩ : ByteArray).size = n := by show (l.take n).toArray.size = n; rw [List.size_toArray]; exact ht
        omega
theorem unchunk_pre (s : ByteArray) (z : Int) (K : Nat) (hz : 1 ≤ z) (hs : s.size ≤ 60) (hK : K < (chunk s z).size) : unchunk ((chunk s z).extract 0 K) = more := by
  obtain ⟨Z, rfl⟩ : ∃ Z : Nat, z = (Z : Int) := ⟨z.toNat, by omega⟩
  have hc : chunk s (Z : Int) = ⟨(chunkL Z s.data.toList ++ [48, 13, 10, 13, 10]).toArray⟩ := by unfold chunk; rw [if_neg (by omega)]; rfl
  have hsl := size_list s
  have hcl : (chunk s (Z : Int)).size = (chunkL Z s.data.toList).length + 5 := by rw [size_list, hc]; simp
  have hT : ((chunk s (Z : Int)).extract 0 K).data.toList = [] ++ (chunkL Z s.data.toList ++ [48, 13, 10, 13, 10]).take K := by
    rw [ByteArray.data_extract, Array.toList_extract, List.extract_eq_drop_take', hc]; simp
  have hTs : ((chunk s (Z : Int)).extract 0 K).size = K := by rw [ByteArray.size_extract]; omega
  have h := un_pre ((chunk s (Z : Int)).extract 0 K) Z (by omega) s.size s.data.toList [] ⟨#[]⟩ (K + 1) K (by omega) (by omega) (by show 0 + _ ≤ 60; omega) (by omega) hT
  unfold unchunk
  rw [hTs]
  exact h
end Body
end Go.Proofs.YtkenmilglfnmbaaGreatDoor
