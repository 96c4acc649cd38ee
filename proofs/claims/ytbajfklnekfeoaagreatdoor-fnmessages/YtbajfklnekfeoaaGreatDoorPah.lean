/-
  BodyBack: Plain facts on bodies in pieces: what is made of a text is read as it, whatever stands behind; of a beginning more is wanted.
  MsgBack: What is shown of a message is read again, whatever stands behind; of a beginning more is wanted: plain.
  MsgShow: Requests and answers are read from their texts, whatever stands behind; of a beginning of a request more is wanted: plain.
  MsgRead: A request is read from its text, whatever stands behind; of a beginning more is wanted; what is read is right: plain.
  ReadDecNum: Plain facts: a number's decimal text is read as that number, and as no other; how many digits it has.
-/
import Derived.Test.YtbajfklnekfeoaaGreatDoorPag
import Derived.Test.YtbajfklnekfeoaaGreatDoorPaf
import Derived.Test.YtbajfklnekfeoaaGreatDoorPab
import Derived.Lib.Atoi
import Derived.Lib.AtoiBound
namespace Go.Proofs.YtbajfklnekfeoaaGreatDoor
open Go.RowKit
set_option linter.unusedVariables false
namespace Body
open Line (byteAt byteAt_eq)

theorem hx_all : ∀ k, k < 16 → hv ((Hex.hx k).toNat : Int) = (k : Int) ∧ ¬ Hex.hx k = 13 := by decide
theorem dh_val : ∀ (f u : Nat), u < 16 ^ f → f ≤ 16 → hexVal (dh u) = (u : Int) ∧ (dh u).all isHex = true ∧ (dh u).length ≤ f ∧ ∀ b ∈ dh u, ¬ b = 13 := by
  intro f
  induction f with
  | zero =>
    intro u h _
    simp only [Nat.pow_zero] at h
    obtain rfl : u = 0 := by omega
    rw [dh_zero]
    exact ⟨rfl, rfl, Nat.le_refl _, fun b hb => by cases hb⟩
  | succ f ih =>
    intro u h hf
    by_cases h0 : u = 0
    · subst h0
      rw [dh_zero]
      exact ⟨rfl, rfl, Nat.zero_le _, fun b hb => by cases hb⟩
    · have hlt : u < 16 ^ 16 := Nat.lt_of_lt_of_le h (Nat.pow_le_pow_right (by decide) hf)
      obtain ⟨h1, h2, h3, h4⟩ := ih (u / 16) (by rw [Nat.pow_succ] at h; omega) (by omega)
      obtain ⟨k1, k2⟩ := hx_all (u % 16) (by omega)
      rw [dh_step u h0 hlt]
      refine ⟨?_, ?_, ?_, ?_⟩
      · rw [hexVal_snoc, h1, k1]; omega
      · rw [List.all_append, h2, Bool.true_and]
        simp only [List.all_cons, List.all_nil, Bool.and_true]
        unfold isHex
        rw [k1]
        exact decide_eq_true (by omega)
      · rw [List.length_append, List.length_singleton]; omega
      · intro b hb
        rcases List.mem_append.1 hb with h5 | h5
        · exact h4 b h5
        · rw [List.mem_singleton.1 h5]; exact k2
theorem dh_pos (u : Nat) (h0 : u ≠ 0) (h : u < 16 ^ 16) : 1 ≤ (dh u).length := by rw [dh_step u h0 h, List.length_append, List.length_singleton]; omega
/-- the digits of a number from 0 to 16777215 -/
theorem hexL_all (n : Nat) (h : n < 16777216) : hexVal (hexL (n : Int)) = (n : Int) ∧ (hexL (n : Int)).all isHex = true ∧ 1 ≤ (hexL (n : Int)).length ∧ (hexL (n : Int)).length ≤ 6 ∧ ∀ b ∈ hexL (n : Int), ¬ b = 13 := by
  unfold hexL
  rw [if_neg (by omega)]
  by_cases h0 : (n : Int) = 0
  · rw [if_pos h0]
    obtain rfl : n = 0 := by omega
    exact ⟨by decide, by decide, by decide, by decide, by decide⟩
  · rw [if_neg h0, Int.toNat_natCast]
    obtain ⟨h1, h2, h3, h4⟩ := dh_val 6 n (by omega) (by omega)
    exact ⟨h1, h2, dh_pos n (by omega) (by omega), h3, h4⟩
theorem readHex_hex (n : Nat) (h : n < 16777216) : readHex (hexNum (n : Int)) = some (n : Int) := by
  obtain ⟨h1, h2, h3, h4, _⟩ := hexL_all n h
  have e : (hexNum (n : Int)).data.toList = hexL (n : Int) := by unfold hexNum; rw [List.toList_toArray]
  have e2 : (hexNum (n : Int)).size = (hexL (n : Int)).length := by rw [← e, Array.length_toList]; rfl
  unfold readHex
  rw [if_pos ⟨by rw [e]; exact h2, by omega, by omega⟩, e, h1]
/-- the digits of at most 60: one or two -/
theorem hexL_two (n : Nat) (h : n ≤ 60) : (hexL (n : Int)).length ≤ 2 := by
  have : ∀ n : Nat, n ≤ 60 → (hexL (n : Int)).length ≤ 2 := by decide +kernel
  exact this n h
theorem byteAt_of (T : ByteArray) (p : List UInt8) (b : UInt8) (q : List UInt8) (h : T.data.toList = p ++ b :: q) : byteAt T p.length = b.toNat := by
  have hl : T.data.toList.length = T.size := by rw [Array.length_toList]; rfl
  have hlt : p.length < T.size := by rw [← hl, h]; simp
  rw [byteAt_eq T _ hlt]
  congr 1
  have : T.data.toList[p.length]'(by omega) = b := by simp [h]
  exact this
theorem extract_mid (T : ByteArray) (p t q : List UInt8) (h : T.data.toList = p ++ (t ++ q)) : T.extract p.length (p.length + t.length) = ⟨t.toArray⟩ := by
  apply ByteArray.ext
  apply Array.toList_inj.1
  rw [ByteArray.data_extract, Array.toList_extract, List.extract_eq_drop_take', h]
  rw [List.take_append, List.drop_append]
  simp
theorem size_list (T : ByteArray) : T.size = T.data.toList.length := by rw [Array.length_toList]; rfl
/-- one piece -/
theorem un_piece (T : ByteArray) (p t q : List UInt8) (out : ByteArray) (f : Nat) (n : Nat) (hn : t.length = n) (h60 : out.size + n ≤ 60)
    (hT : T.data.toList = p ++ (hexL (n : Int) ++ 13 :: 10 :: (t ++ 13 :: 10 :: q))) :
    unF T (f + 1) p.length out = if (n : Int) = 0 then (out ++ ⟨t.toArray⟩, ((p ++ hexL (n : Int) ++ [13, 10] ++ t ++ [13, 10]).length : Int), 0) else unF T f (p ++ hexL (n : Int) ++ [13, 10] ++ t ++ [13, 10]).length (out ++ ⟨t.toArray⟩) := by
  obtain ⟨_, _, _, _, h13⟩ := hexL_all n (by omega)
  obtain ⟨he, hx⟩ := Line.eol_line T p (hexL (n : Int)) _ hT h13
  have hr := readHex_hex n (by omega)
  have hsz := size_list T
  rw [hT] at hsz
  simp only [List.length_append, List.length_cons] at hsz
  have e1 : p.length + (hexL (n : Int)).length + 2 = (p ++ hexL (n : Int) ++ [13, 10]).length := by simp only [List.length_append, List.length_cons, List.length_nil]
  have e2 : p.length + (hexL (n : Int)).length + 2 + n = (p ++ hexL (n : Int) ++ [13, 10] ++ t).length := by simp only [List.length_append, List.length_cons, List.length_nil]; omega
  have e3 : p.length + (hexL (n : Int)).length + 2 + n + 1 = (p ++ hexL (n : Int) ++ [13, 10] ++ t ++ [13]).length := by simp only [List.length_append, List.length_cons, List.length_nil]; omega
  have e4 : p.length + (hexL (n : Int)).length + 2 + n + 2 = (p ++ hexL (n : Int) ++ [13, 10] ++ t ++ [13, 10]).length := by simp only [List.length_append, List.length_cons, List.length_nil]; omega
  have b1 : byteAt T (p.length + (hexL (n : Int)).length + 2 + n) = 13 := by rw [e2]; exact byteAt_of T _ 13 (10 :: q) (by rw [hT]; simp)
  have b2 : byteAt T (p.length + (hexL (n : Int)).length + 2 + n + 1) = 10 := by rw [e3]; exact byteAt_of T _ 10 q (by rw [hT]; simp)
  have ex : T.extract (p.length + (hexL (n : Int)).length + 2) (p.length + (hexL (n : Int)).length + 2 + n) = ⟨t.toArray⟩ := by
    have h := extract_mid T (p ++ hexL (n : Int) ++ [13, 10]) t (13 :: 10 :: q) (by rw [hT]; simp)
    rw [hn, ← e1] at h
    exact h
  rw [unF, he]
  simp only
  rw [hx, show (⟨(hexL (n : Int)).toArray⟩ : ByteArray) = hexNum (n : Int) from rfl, hr]
  simp only [Int.toNat_natCast]
  rw [if_neg (by omega), if_neg (by omega), if_pos ⟨b1, b2⟩, ex, e4]
/-- all pieces, and the end -/
theorem un_all (T : ByteArray) (z : Nat) (hz : 1 ≤ z) (q : List UInt8) : ∀ (k : Nat) (l : List UInt8) (p : List UInt8) (out : ByteArray) (f : Nat), l.length ≤ k → l.length + 1 ≤ f → out.size + l.length ≤ 60 →
    T.data.toList = p ++ (chunkL z l ++ [48, 13, 10, 13, 10] ++ q) → unF T f p.length out = (out ++ ⟨l.toArray⟩, ((p ++ chunkL z l ++ [48, 13, 10, 13, 10]).length : Int), 0) := by
  intro k
  induction k with
  | zero =>
    intro l p out f hk hf h60 hT
    obtain rfl : l = [] := List.eq_nil_of_length_eq_zero (by omega)
    obtain ⟨f, rfl⟩ : ∃ g, f = g + 1 := ⟨f - 1, by omega⟩
    rw [un_piece T p [] q out f 0 rfl (by simpa using h60) (by rw [hT, chunkL_nil]; rfl), if_pos (show ((0 : Nat) : Int) = 0 from rfl)]
    simp [chunkL_nil, hexL]
  | succ k ih =>
    intro l p out f hk hf h60 hT
    by_cases h0 : l = []
    · subst h0
      obtain ⟨f, rfl⟩ : ∃ g, f = g + 1 := ⟨f - 1, by omega⟩
      rw [un_piece T p [] q out f 0 rfl (by simpa using h60) (by rw [hT, chunkL_nil]; rfl), if_pos (show ((0 : Nat) : Int) = 0 from rfl)]
      simp [chunkL_nil, hexL]
    · have hl : 0 < l.length := List.length_pos_iff.2 h0
      obtain ⟨f, rfl⟩ : ∃ g, f = g + 1 := ⟨f - 1, by omega⟩
      have hs := chunkL_step z hz l h0
      obtain ⟨n, hn⟩ : ∃ n, min z l.length = n := ⟨_, rfl⟩
      rw [hn] at hs
      have ht : (l.take n).length = n := by rw [List.length_take]; omega
      have hd : (l.drop n).length = l.length - n := List.length_drop
      rw [hs] at hT
      rw [un_piece T p (l.take n) (chunkL z (l.drop n) ++ [48, 13, 10, 13, 10] ++ q) out f n ht (by omega) (by rw [hT]; simp), if_neg (by omega)]
      rw [ih (l.drop n) _ (out ++ ⟨(l.take n).toArray⟩) f (by omega) (by omega) (by rw [ByteArray.size_append]; have : (⟨(l.take n).toArray⟩ : ByteArray).size = n := by show (l.take n).toArray.size = n; rw [List.size_toArray]; exact ht
                                                                                    omega) (by rw [hT]; simp)]
      rw [hs]
      have e1 : out ++ ⟨(l.take n).toArray⟩ ++ ⟨(l.drop n).toArray⟩ = out ++ ⟨l.toArray⟩ := by
        rw [ByteArray.append_assoc]
        congr 1
        apply ByteArray.ext
        apply Array.toList_inj.1
        simp
      rw [e1]
      simp
theorem unchunk_chunk (s : ByteArray) (z : Int) (q : ByteArray) (hz : 1 ≤ z) (hs : s.size ≤ 60) : unchunk (chunk s z ++ q) = (s, ((chunk s z).size : Int), 0) := by
  obtain ⟨Z, rfl⟩ : ∃ Z : Nat, z = (Z : Int) := ⟨z.toNat, by omega⟩
  have hc : chunk s (Z : Int) = ⟨(chunkL Z s.data.toList ++ [48, 13, 10, 13, 10]).toArray⟩ := by unfold chunk; rw [if_neg (by omega)]; rfl
  have hsl := size_list s
  have hT : (chunk s (Z : Int) ++ q).data.toList = [] ++ (chunkL Z s.data.toList ++ [48, 13, 10, 13, 10] ++ q.data.toList) := by rw [hc]; simp
  have hlen : s.size ≤ (chunk s (Z : Int) ++ q).size := by
    have key : ∀ (f : Nat) (l : List UInt8), l.length ≤ f → l.length ≤ (chF Z f l).length := by
      intro f
      induction f with
      | zero => intro l h; omega
      | succ f ih =>
        intro l h
        rw [chF]
        split
        · next h0 => subst h0; exact Nat.le_refl _
        · next h0 =>
          have hl : 0 < l.length := List.length_pos_iff.2 h0
          have h2 := ih (l.drop (min Z l.length)) (by rw [List.length_drop]; omega)
          rw [List.length_drop] at h2
          simp only [List.length_append, List.length_take, List.length_cons, List.length_nil]
          omega
    have h1 := key _ s.data.toList (Nat.le_refl _)
    have h2 := size_list (chunk s (Z : Int) ++ q)
    rw [hT] at h2
    simp only [List.nil_append, List.length_append] at h2
    unfold chunkL at h2
    omega
  unfold unchunk
  have := un_all (chunk s (Z : Int) ++ q) Z (by omega) q.data.toList s.size s.data.toList [] ⟨#[]⟩ ((chunk s (Z : Int) ++ q).size + 1) (by omega) (by omega) (by show 0 + _ ≤ 60; omega) hT
  rw [List.length_nil] at this
  rw [this]
  have e1 : (⟨#[]⟩ : ByteArray) ++ ⟨s.data.toList.toArray⟩ = s := by apply ByteArray.ext; simp
  have e2 : (chunk s (Z : Int)).size = ([] ++ chunkL Z s.data.toList ++ [48, 13, 10, 13, 10]).length := by rw [size_list, hc]; simp
  rw [e1, e2]
theorem index_no (u : List UInt8) (h : ∀ b ∈ u, ¬ b = 13) : Lib.index u [13, 10] = -1 ∧ Lib.index (u ++ [13]) [13, 10] = -1 := by
  induction u with
  | nil => exact ⟨by decide, by decide⟩
  | cons b u ih =>
    have hb : ¬ b = 13 := h b (List.mem_cons_self ..)
    obtain ⟨h1, h2⟩ := ih (fun c hc => h c (List.mem_cons_of_mem _ hc))
    have hp : ∀ r, ¬ ([13, 10] : List UInt8).isPrefixOf (b :: r) = true := by
      intro r hr
      simp only [List.isPrefixOf, Bool.and_eq_true, beq_iff_eq] at hr
      exact hb hr.1.symm
    constructor
    · rw [Lib.index, if_neg (hp _), h1]; rfl
    · rw [List.cons_append, Lib.index, if_neg (hp _), h2]; rfl
theorem eol_no (T : ByteArray) (p u : List UInt8) (hT : T.data.toList = p ++ u) (h : Lib.index u [13, 10] = -1) : Line.eol T p.length = none := by
  have hi := Line.index_eolGo T _ p.length rfl
  rw [hT, List.drop_left, h] at hi
  show Line.eolGo T _ _ = none
  cases he : Line.eolGo T (T.size - p.length) p.length with
  | none => rfl
  | some k =>
    rw [he] at hi
    have := Line.eolGo_in T _ _ _ he
    unfold Line.eolI at hi
    simp only at hi
    omega
/-- a piece that is cut -/
theorem un_cut (T : ByteArray) (p r : List UInt8) (out : ByteArray) (f : Nat) (n : Nat) (h60 : out.size + n ≤ 60) (K : Nat) (hK : K < (hexL (n : Int)).length + 2 + n + 2)
    (hT : T.data.toList = p ++ (hexL (n : Int) ++ 13 :: 10 :: r).take K) (hr : n + 2 ≤ r.length) : unF T (f + 1) p.length out = more := by
  obtain ⟨_, _, _, _, h13⟩ := hexL_all n (by omega)
  have h2 := hexL_two n (by omega)
  have hsz := size_list T
  rw [hT] at hsz
  simp only [List.length_append, List.length_take, List.length_cons] at hsz
  by_cases hk : K ≤ (hexL (n : Int)).length + 1
  · have he : Line.eol T p.length = none := by
      apply eol_no T p _ hT
      by_cases hk2 : K ≤ (hexL (n : Int)).length
      · rw [List.take_append_of_le_length hk2]
        exact (index_no _ (fun b hb => h13 b (List.mem_of_mem_take hb))).1
      · obtain rfl : K = (hexL (n : Int)).length + 1 := by omega
        have e : (hexL (n : Int) ++ 13 :: 10 :: r).take ((hexL (n : Int)).length + 1) = hexL (n : Int) ++ [13] := by
          rw [List.take_append, List.take_of_length_le (by omega)]; simp
        rw [e]
        exact (index_no _ h13).2
    rw [unF, he]
    simp only
    rw [if_neg (by omega)]
  · have e : (hexL (n : Int) ++ 13 :: 10 :: r).take K = hexL (n : Int) ++ 13 :: 10 :: r.take (K - (hexL (n : Int)).length - 2) := by
      rw [List.take_append]
      obtain ⟨m, hm⟩ : ∃ m, K - (hexL (n : Int)).length = m + 2 := ⟨K - (hexL (n : Int)).length - 2, by omega⟩
      rw [hm, List.take_of_length_le (by omega)]
      simp
    rw [e] at hT
    obtain ⟨he, hx⟩ := Line.eol_line T p (hexL (n : Int)) _ hT h13
    have hrd := readHex_hex n (by omega)
    rw [unF, he]
    simp only
    rw [hx, show (⟨(hexL (n : Int)).toArray⟩ : ByteArray) = hexNum (n : Int) from rfl, hrd]
    simp only [Int.toNat_natCast]
    rw [if_neg (by omega), if_pos (by omega)]
/-- of a beginning more is wanted -/
theorem un_pre (T : ByteArray) (z : Nat) (hz : 1 ≤ z) : ∀ (k : Nat) (l : List UInt8) (p : List UInt8) (out : ByteArray) (f K : Nat), l.length ≤ k → K + 1 ≤ f → out.size + l.length ≤ 60 →
    K < (chunkL z l).length + 5 → T.data.toList = p ++ (chunkL z l ++ [48, 13, 10, 13, 10]).take K → unF T f p.length out = more := by
  intro k
  induction k with
  | zero =>
    intro l p out f K hk hf h60 hK hT
    obtain rfl : l = [] := List.eq_nil_of_length_eq_zero (by omega)
    obtain ⟨f, rfl⟩ : ∃ g, f = g + 1 := ⟨f - 1, by omega⟩
    rw [chunkL_nil] at hK hT
    exact un_cut T p [13, 10] out f 0 (by simpa using h60) K (by simp [hexL] at hK ⊢; omega) (by rw [hT]; rfl) (by decide)
  | succ k ih =>
    intro l p out f K hk hf h60 hK hT
    obtain ⟨f, rfl⟩ : ∃ g, f = g + 1 := ⟨f - 1, by omega⟩
    by_cases h0 : l = []
    · subst h0
      rw [chunkL_nil] at hK hT
      exact un_cut T p [13, 10] out f 0 (by simpa using h60) K (by simp [hexL] at hK ⊢; omega) (by rw [hT]; rfl) (by decide)
    · have hl : 0 < l.length := List.length_pos_iff.2 h0
      have hs := chunkL_step z hz l h0
      obtain ⟨n, hn⟩ : ∃ n, min z l.length = n := ⟨_, rfl⟩
      rw [hn] at hs
      have ht : (l.take n).length = n := by rw [List.length_take]; omega
      have hd : (l.drop n).length = l.length - n := List.length_drop
      have hfm : chunkL z l ++ [48, 13, 10, 13, 10] = hexL (n : Int) ++ 13 :: 10 :: (l.take n ++ 13 :: 10 :: (chunkL z (l.drop n) ++ [48, 13, 10, 13, 10])) := by rw [hs]; simp
      by_cases hc : K < (hexL (n : Int)).length + 2 + n + 2
      · rw [hfm] at hT
        exact un_cut T p _ out f n (by omega) K hc hT (by simp only [List.length_append, List.length_cons, ht]; omega)
      · obtain ⟨m, hm⟩ : ∃ m, K = (hexL (n : Int)).length + 2 + n + 2 + m := ⟨K - ((hexL (n : Int)).length + 2 + n + 2), by omega⟩
        have hfm2 : (chunkL z l ++ [48, 13, 10, 13, 10]).take K = hexL (n : Int) ++ 13 :: 10 :: (l.take n ++ 13 :: 10 :: (chunkL z (l.drop n) ++ [48, 13, 10, 13, 10]).take m) := by
          have hsplit : chunkL z l ++ [48, 13, 10, 13, 10] = (hexL (n : Int) ++ [13, 10] ++ l.take n ++ [13, 10]) ++ (chunkL z (l.drop n) ++ [48, 13, 10, 13, 10]) := by rw [hs]; simp
          have hlen : (hexL (n : Int) ++ [13, 10] ++ l.take n ++ [13, 10]).length = (hexL (n : Int)).length + 2 + n + 2 := by simp only [List.length_append, List.length_cons, List.length_nil, ht]
          rw [hsplit, List.take_append, List.take_of_length_le (by omega), hlen, show K - ((hexL (n : Int)).length + 2 + n + 2) = m by omega]
          simp
        rw [hfm2] at hT
        have hpl := un_piece T p (l.take n) ((chunkL z (l.drop n) ++ [48, 13, 10, 13, 10]).take m) out f n ht (by omega) hT
        rw [if_neg (by omega)] at hpl
        rw [hpl]
        have hKm : m < (chunkL z (l.drop n)).length + 5 := by
          rw [hs] at hK
          simp only [List.length_append, List.length_cons, List.length_nil, ht] at hK
          omega
        refine ih (l.drop n) (p ++ hexL (n : Int) ++ [13, 10] ++ l.take n ++ [13, 10]) (out ++ ⟨(l.take n).toArray⟩) f m (by omega) (by omega) ?_ hKm (by rw [hT]; simp only [List.append_assoc, List.cons_append, List.nil_append])
        rw [ByteArray.size_append]
        have : (⟨(l.take n).toArray⟩ : ByteArray).size = n := by show (l.take n).toArray.size = n; rw [List.size_toArray]; exact ht
        omega
theorem unchunk_pre (s : ByteArray) (z : Int) (K : Nat) (hz : 1 ≤ z) (hs : s.size ≤ 60) (hK : K < (chunk s z).size) : unchunk ((chunk s z).extract 0 K) = more := by
  obtain ⟨Z, rfl⟩ : ∃ Z : Nat, z = (Z : Int) := ⟨z.toNat, by omega⟩
  have hc : chunk s (Z : Int) = ⟨(chunkL Z s.data.toList ++ [48, 13, 10, 13, 10]).toArray⟩ := by unfold chunk; rw [if_neg (by omega)]; rfl
  have hsl := size_list s
  have hcl : (chunk s (Z : Int)).size = (chunkL Z s.data.toList).length + 5 := by rw [size_list, hc]; simp
  have hT : ((chunk s (Z : Int)).extract 0 K).data.toList = [] ++ (chunkL Z s.data.toList ++ [48, 13, 10, 13, 10]).take K := by
    rw [ByteArray.data_extract, Array.toList_extract, List.extract_eq_drop_take', hc]; simp
  have hTs : ((chunk s (Z : Int)).extract 0 K).size = K := by rw [ByteArray.size_extract]; omega
  have h := un_pre ((chunk s (Z : Int)).extract 0 K) Z (by omega) s.size s.data.toList [] ⟨#[]⟩ (K + 1) K (by omega) (by omega) (by show 0 + _ ≤ 60; omega) (by omega) hT
  unfold unchunk
  rw [hTs]
  exact h
end Body
end Go.Proofs.YtbajfklnekfeoaaGreatDoor
namespace Go.Proofs.YtbajfklnekfeoaaGreatDoor
open Go.RowKit
set_option linter.unusedVariables false
namespace Msg
open Line (byteAt byteAt_eq eol)
open Flds (Fld enc)

theorem byteAt_mid (T : ByteArray) (p : List UInt8) (b : UInt8) (q : List UInt8) (h : T.data.toList = p ++ b :: q) : byteAt T p.length = b.toNat := Body.byteAt_of T p b q h
theorem size_of (T : ByteArray) : T.size = T.data.toList.length := by rw [Array.length_toList]; rfl
/-- the first blank behind a stretch without any -/
theorem blF_list (T : ByteArray) : ∀ (t p q : List UInt8) (n : Nat), T.data.toList = p ++ (t ++ 32 :: q) → (∀ b ∈ t, ¬ b = 32) → t.length < n → blF T n p.length = some (p.length + t.length) := by
  intro t
  induction t with
  | nil =>
    intro p q n hT _ hn
    obtain ⟨m, rfl⟩ : ∃ m, n = m + 1 := ⟨n - 1, by simp at hn; omega⟩
    unfold blF
    rw [byteAt_mid T p 32 q (by simpa using hT), if_pos (by decide)]
    simp
  | cons b t ih =>
    intro p q n hT ha hn
    rw [List.length_cons] at hn
    obtain ⟨m, rfl⟩ : ∃ m, n = m + 1 := ⟨n - 1, by omega⟩
    unfold blF
    have hb := ha b (List.mem_cons_self ..)
    rw [byteAt_mid T p b (t ++ 32 :: q) (by simpa using hT), if_neg (fun h => hb (UInt8.toNat_inj.1 (h.trans (by decide))))]
    have := ih (p ++ [b]) q m (by rw [hT]; simp) (fun c hc => ha c (List.mem_cons_of_mem _ hc)) (by omega)
    rw [List.length_append, List.length_singleton] at this
    rw [this, List.length_cons]
    congr 1
    omega
theorem blk_list (T : ByteArray) (p t q : List UInt8) (hT : T.data.toList = p ++ (t ++ 32 :: q)) (h : ∀ b ∈ t, ¬ b = 32) : blk T p.length = some (p.length + t.length) := by
  unfold blk
  exact blF_list T t p q _ hT h (by rw [size_of, hT]; simp only [List.length_append, List.length_cons]; omega)
theorem extract_list (T : ByteArray) (p t q : List UInt8) (hT : T.data.toList = p ++ (t ++ q)) : T.extract p.length (p.length + t.length) = ⟨t.toArray⟩ := Body.extract_mid T p t q hT
theorem extract_rest (T : ByteArray) (p q : List UInt8) (hT : T.data.toList = p ++ q) : T.extract p.length T.size = ⟨q.toArray⟩ := by
  have := extract_list T p q [] (by simpa using hT)
  rw [show p.length + q.length = T.size by rw [size_of, hT, List.length_append]] at this
  exact this
theorem bytes_ext {x y : ByteArray} (h : x.data.toList = y.data.toList) : x = y := ByteArray.ext (Array.toList_inj.1 h)
theorem list_back (x : ByteArray) : (⟨x.data.toList.toArray⟩ : ByteArray) = x := bytes_ext (by simp)
/-- a line of three words -/
theorem words_list (T : ByteArray) (m u v : List UInt8) (hT : T.data.toList = m ++ 32 :: (u ++ 32 :: v)) (hm : ∀ b ∈ m, ¬ b = 32) (hu : ∀ b ∈ u, ¬ b = 32) : words T = (⟨m.toArray⟩, ⟨u.toArray⟩, ⟨v.toArray⟩) := by
  have h1 := blk_list T [] m (u ++ 32 :: v) (by simpa using hT) hm
  have h2 := blk_list T (m ++ [32]) u v (by rw [hT]; simp) hu
  simp only [List.length_nil, Nat.zero_add, List.length_append, List.length_singleton] at h1 h2
  unfold words
  rw [h1]
  simp only
  rw [h2]
  simp only
  have e1 := extract_list T [] m (32 :: (u ++ 32 :: v)) (by simpa using hT)
  have e2 := extract_list T (m ++ [32]) u (32 :: v) (by rw [hT]; simp)
  have e3 := extract_rest T (m ++ 32 :: (u ++ [32])) v (by rw [hT]; simp)
  simp only [List.length_nil, Nat.zero_add, List.length_append, List.length_cons] at e1 e2 e3
  rw [e1, e2, show m.length + 1 + u.length + 1 = m.length + (u.length + 1 + 1) by omega, e3]
/-- a gap anywhere -/
theorem wholeF_of (T : ByteArray) : ∀ (n i j : Nat), i ≤ j → j < i + n → T.extract j (j + 4) = gap → wholeF T n i = true := by
  intro n
  induction n with
  | zero => intro i j h1 h2; omega
  | succ n ih =>
    intro i j h1 h2 hg
    unfold wholeF
    by_cases e : T.extract i (i + 4) = gap
    · rw [if_pos e]
    · rw [if_neg e]
      have : i ≠ j := fun h => e (by rw [h]; exact hg)
      exact ih (i + 1) j (by omega) (by omega) hg
theorem whole_of (T : ByteArray) (p q : List UInt8) (hT : T.data.toList = p ++ (13 :: 10 :: 13 :: 10 :: q)) : whole T = true := by
  have e := extract_list T p [13, 10, 13, 10] q (by simpa using hT)
  have hz : T.size = p.length + 4 + q.length := by rw [size_of, hT]; simp only [List.length_append, List.length_cons]; omega
  unfold whole
  exact wholeF_of T _ 0 p.length (Nat.zero_le _) (by omega) e
theorem wholeF_no (T : ByteArray) : ∀ (n i : Nat), wholeF T n i = true → ∃ j, i ≤ j ∧ j < i + n ∧ T.extract j (j + 4) = gap := by
  intro n
  induction n with
  | zero => intro i h; cases h
  | succ n ih =>
    intro i h
    unfold wholeF at h
    by_cases e : T.extract i (i + 4) = gap
    · exact ⟨i, Nat.le_refl _, by omega, e⟩
    · rw [if_neg e] at h
      obtain ⟨j, h1, h2, h3⟩ := ih (i + 1) h
      exact ⟨j, by omega, by omega, h3⟩
theorem whole_at {T : ByteArray} (h : whole T = true) : ∃ p q, T.data.toList = p ++ (13 :: 10 :: 13 :: 10 :: q) := by
  obtain ⟨j, _, h2, h3⟩ := wholeF_no T _ 0 h
  refine ⟨T.data.toList.take j, T.data.toList.drop (j + 4), ?_⟩
  have e : (T.extract j (j + 4)).data.toList = [13, 10, 13, 10] := by rw [h3]; rfl
  rw [ByteArray.data_extract, Array.toList_extract, List.extract_eq_drop_take'] at e
  have e2 : (T.data.toList.drop j).take 4 = [13, 10, 13, 10] := by rw [← e, List.drop_take, Nat.add_sub_cancel_left]
  conv => lhs; rw [← List.take_append_drop j T.data.toList, ← List.take_append_drop 4 (T.data.toList.drop j), e2, List.drop_drop]
  rfl
/-- a gap lies nowhere ahead of the end of lines that are not empty -/
def lines (L : List (List UInt8)) : List UInt8 := L.flatMap (· ++ [13, 10]) ++ [13, 10]
theorem lines_cons (t : List UInt8) (L : List (List UInt8)) : lines (t :: L) = t ++ 13 :: 10 :: lines L := by unfold lines; simp
theorem no_thirteen {t p q r : List UInt8} {b : UInt8} (h : ∀ b ∈ t, ¬ b = 13) (he : p ++ 13 :: q = t ++ b :: r) : t.length ≤ p.length := by
  by_cases hc : p.length < t.length
  · exfalso
    have e1 : (p ++ 13 :: q)[p.length]? = some 13 := by simp
    rw [he, List.getElem?_append_left hc] at e1
    exact h _ (List.mem_of_getElem? e1) rfl
  · omega
theorem gap_last : ∀ (L : List (List UInt8)) (p q : List UInt8), L ≠ [] → (∀ t ∈ L, t ≠ [] ∧ ∀ b ∈ t, ¬ b = 13) → lines L = p ++ (13 :: 10 :: 13 :: 10 :: q) → q = [] := by
  intro L
  induction L with
  | nil => intro p q h; exact absurd rfl h
  | cons t L ih =>
    intro p q _ hall he
    rw [lines_cons] at he
    have ht := hall t (List.mem_cons_self ..)
    have hle := no_thirteen ht.2 he.symm
    obtain ⟨x, rfl⟩ : ∃ x, p = t ++ x := by
      refine ⟨p.drop t.length, ?_⟩
      have h1 : (p ++ 13 :: 10 :: 13 :: 10 :: q).take t.length = t := by rw [← he]; simp
      rw [List.take_append_of_le_length hle] at h1
      conv => lhs; rw [← List.take_append_drop t.length p, h1]
    rw [List.append_assoc] at he
    have he2 := List.append_cancel_left he
    match x, he2 with
    | [], he2 =>
      simp only [List.nil_append, List.cons.injEq, true_and] at he2
      cases L with
      | nil =>
        have : lines [] = [13, 10] := rfl
        rw [this] at he2
        simp only [List.cons.injEq, true_and] at he2
        exact he2.symm
      | cons t2 L2 =>
        exfalso
        have ht2 := hall t2 (by simp)
        rw [lines_cons] at he2
        cases t2 with
        | nil => exact ht2.1 rfl
        | cons b t3 =>
          simp only [List.cons_append, List.cons.injEq] at he2
          exact ht2.2 b (List.mem_cons_self ..) he2.1
    | [a], he2 =>
      exfalso
      simp only [List.cons_append, List.nil_append, List.cons.injEq] at he2
      have := he2.2.1
      revert this; decide
    | a :: c :: y, he2 =>
      simp only [List.cons_append, List.cons.injEq] at he2
      cases L with
      | nil =>
        have h1 : lines [] = [13, 10] := rfl
        rw [h1] at he2
        have := congrArg List.length he2.2.2
        simp only [List.length_cons, List.length_nil, List.length_append] at this
        omega
      | cons t2 L2 => exact ih y q (by simp) (fun t ht => hall t (List.mem_cons_of_mem _ ht)) he2.2.2
end Msg
end Go.Proofs.YtbajfklnekfeoaaGreatDoor
namespace Go.Proofs.YtbajfklnekfeoaaGreatDoor
open Go.RowKit
set_option linter.unusedVariables false
namespace Msg
open Line (byteAt byteAt_eq eol)
open Flds (Fld enc)

theorem tok_none {x : ByteArray} (h : Sign.isTok x = true) : ∀ b ∈ x.data.toList, ¬ b = 32 ∧ ¬ b = 13 := by
  intro b hb
  unfold Sign.isTok at h
  rw [Bool.and_eq_true, List.all_eq_true] at h
  have h1 := of_decide_eq_true (h.2 b hb)
  unfold Sign.tok at h1
  constructor
  · rintro rfl; revert h1; decide
  · rintro rfl; revert h1; decide
theorem uri_none {u : ByteArray} (h : uriOk u = true) : ∀ b ∈ u.data.toList, ¬ b = 32 ∧ ¬ b = 13 := by
  intro b hb
  unfold uriOk at h
  simp only [Bool.and_eq_true] at h
  have h1 := List.all_eq_true.1 h.1.1 b hb
  unfold uriB at h1
  have h2 := of_decide_eq_true h1
  constructor
  · rintro rfl; revert h2; decide
  · rintro rfl; revert h2; decide
theorem no_name {l : List Fld} {n : ByteArray} (h : (Flds.get l n).2 = false) : ∀ f ∈ l, ¬ f.1 = n := by
  intro f hf e
  obtain ⟨i, hi, rfl⟩ := List.getElem_of_mem hf
  have := Flds.get_is l i hi
  rw [e, h] at this
  cases this
theorem drop_none {l : List Fld} {n : ByteArray} (h : ∀ f ∈ l, ¬ f.1 = n) : Flds.drop l n = l := by
  unfold Flds.drop
  rw [List.filter_eq_self]
  intro f hf
  exact decide_eq_true (h f hf)
theorem plain_parts {l : List Fld} (h : plain l = true) : (∀ f ∈ l, ¬ f.1 = Body.teName) ∧ (∀ f ∈ l, ¬ f.1 = Body.clName) ∧ l.length < 12 ∧ Flds.ok l = true := by
  unfold plain at h
  simp only [Bool.and_eq_true, Bool.not_eq_true', decide_eq_true_iff] at h
  exact ⟨no_name h.1.1.1, no_name h.1.1.2, h.1.2, h.2⟩
theorem te_cl : ¬ Body.clName = Body.teName := fun h => by have := congrArg ByteArray.size h; revert this; decide
theorem bare_plain {l : List Fld} (h : plain l = true) : bare l = l := by
  obtain ⟨h1, h2, _, _⟩ := plain_parts h
  unfold bare
  rw [drop_none h1, drop_none h2]
theorem framed_plain {l : List Fld} (h : plain l = true) (b : ByteArray) : framed l b = l ++ [(Body.clName, decB b.size)] := by unfold framed; rw [bare_plain h]
theorem bare_framed {l : List Fld} (h : plain l = true) (b : ByteArray) : bare (framed l b) = l := by
  obtain ⟨h1, h2, _, _⟩ := plain_parts h
  rw [framed_plain h]
  unfold bare
  rw [Flds.drop_snoc, if_neg te_cl, Flds.drop_snoc, if_pos rfl, drop_none h1, drop_none h2, List.append_nil]
set_option maxRecDepth 100000 in
theorem dec_small (n : Nat) (h : n ≤ 60) : Flds.okF (Body.clName, decB (n : Int)) = true ∧ Sign.secs (decB (n : Int)) = ((n : Int), true) := by
  have key : ∀ n : Nat, n < 61 → Flds.okF (Body.clName, decB (n : Int)) = true ∧ Sign.secs (decB (n : Int)) = ((n : Int), true) := by decide +kernel
  exact key n (by omega)
theorem ok_framed {l : List Fld} (h : plain l = true) (b : ByteArray) (hb : b.size ≤ 60) : Flds.ok (framed l b) = true := by
  obtain ⟨_, _, h3, h4⟩ := plain_parts h
  rw [framed_plain h]
  unfold Flds.ok at h4 ⊢
  rw [Bool.and_eq_true] at h4
  rw [List.all_append, h4.1, Bool.true_and, Bool.and_eq_true]
  refine ⟨?_, decide_eq_true (by rw [List.length_append, List.length_singleton]; omega)⟩
  rw [List.all_cons, List.all_nil, Bool.and_true]
  exact (dec_small b.size hb).1
theorem get_framed {l : List Fld} (h : plain l = true) (b : ByteArray) : Flds.get (framed l b) Body.teName = (⟨#[]⟩, false) ∧ Flds.get (framed l b) Body.clName = (decB b.size, true) := by
  obtain ⟨h1, h2, _, _⟩ := plain_parts h
  rw [framed_plain h, Flds.get_snoc, Flds.get_snoc, Flds.get_none l _ h1, Flds.get_none l _ h2]
  unfold Flds.getStep
  rw [if_neg te_cl, if_pos rfl, if_neg (by simp), Flds.empty_app]
  exact ⟨rfl, rfl⟩
theorem body_framed {l : List Fld} (h : plain l = true) (b : ByteArray) (hb : b.size ≤ 60) (s : ByteArray) (c : Bool) : Body.bodyOf (framed l b) s c = if s.size < b.size then Body.more else (s.extract 0 b.size, (b.size : Int), 0) := by
  obtain ⟨g1, g2⟩ := get_framed h b
  unfold Body.bodyOf Body.bodyBy
  rw [g1, g2]
  simp only [(dec_small b.size hb).2]
  rw [if_neg (by decide), if_pos trivial, if_neg (by simp; omega)]
  by_cases hs : s.size < b.size
  · rw [if_pos (by omega), if_pos hs]
  · rw [if_neg (by omega), if_neg hs]; rfl
/-- a field's line -/
def fline (f : Fld) : List UInt8 := f.1.data.toList ++ 58 :: 32 :: f.2.data.toList
theorem enc_fline (f : Fld) : enc f = fline f ++ [13, 10] := by unfold enc fline; simp
theorem lines_map (L : List Fld) : lines (L.map fline) = L.flatMap enc ++ [13, 10] := by
  unfold lines
  congr 1
  induction L with
  | nil => rfl
  | cons f L ih => rw [List.map_cons, List.flatMap_cons, List.flatMap_cons, ih, enc_fline]
theorem shown_list {L : List Fld} (h : Flds.ok L = true) : (Flds.shown L).data.toList = lines (L.map fline) := by
  rw [lines_map]
  unfold Flds.shown
  rw [if_pos h, ← Flds.showGo_list]
  simp
theorem fline_none {L : List Fld} (h : Flds.ok L = true) : ∀ t ∈ L.map fline, t ≠ [] ∧ ∀ b ∈ t, ¬ b = 13 := by
  intro t ht
  obtain ⟨f, hf, rfl⟩ := List.mem_map.1 ht
  unfold Flds.ok at h
  rw [Bool.and_eq_true] at h
  have h1 := List.all_eq_true.1 h.1 f hf
  unfold Flds.okF at h1
  simp only [Bool.and_eq_true, decide_eq_true_iff] at h1
  obtain ⟨⟨⟨⟨h1, h2⟩, h3⟩, h4⟩, h5⟩ := h1
  refine ⟨by unfold fline; simp, ?_⟩
  intro b hb
  unfold fline at hb
  rcases List.mem_append.1 hb with h6 | h6
  · exact (tok_none h1 b h6).2
  · rcases List.mem_cons.1 h6 with rfl | h7
    · decide
    · rcases List.mem_cons.1 h7 with rfl | h8
      · decide
      · exact (Flds.val_no h4).1 b h8
theorem lines_end : ∀ (X : List (List UInt8)), X ≠ [] → ∃ p, lines X = p ++ [13, 10, 13, 10] := by
  intro X
  induction X with
  | nil => intro h; exact absurd rfl h
  | cons t X ih =>
    intro _
    rw [lines_cons]
    cases X with
    | nil => exact ⟨t, rfl⟩
    | cons t2 X2 =>
      obtain ⟨p, hp⟩ := ih (by simp)
      exact ⟨t ++ 13 :: 10 :: p, by rw [hp]; simp⟩
/-- what is found in a text of a first line, lines of fields and what stands behind -/
structure Head (T : ByteArray) (t : List UInt8) (L : List Fld) (q : List UInt8) : Prop where
  whole : whole T = true
  eol : eol T 0 = some t.length
  line : T.extract 0 t.length = ⟨t.toArray⟩
  read : Flds.read (T.extract (t.length + 2) T.size) = some (L, (Flds.shown L).size)
  rest : T.extract (t.length + 2 + (Flds.shown L).size) T.size = ⟨q.toArray⟩
theorem head_of (T : ByteArray) (t : List UInt8) (L : List Fld) (q : List UInt8) (hT : T.data.toList = lines (t :: L.map fline) ++ q) (ht : ∀ b ∈ t, ¬ b = 13) (hL : Flds.ok L = true) : Head T t L q := by
  have hT2 : T.data.toList = t ++ 13 :: 10 :: (lines (L.map fline) ++ q) := by rw [hT, lines_cons]; simp
  have hsl := shown_list hL
  have hss : (Flds.shown L).size = (lines (L.map fline)).length := by rw [size_of, hsl]
  obtain ⟨e1, e2⟩ := Line.eol_line T [] t (lines (L.map fline) ++ q) (by simpa using hT2) ht
  simp only [List.length_nil, Nat.zero_add] at e1 e2
  have e3 := extract_rest T (t ++ [13, 10]) (lines (L.map fline) ++ q) (by rw [hT2]; simp)
  have e4 := extract_rest T (t ++ 13 :: 10 :: lines (L.map fline)) q (by rw [hT2]; simp)
  simp only [List.length_append, List.length_cons, List.length_nil] at e3 e4
  have e5 : (⟨(lines (L.map fline) ++ q).toArray⟩ : ByteArray) = Flds.shown L ++ ⟨q.toArray⟩ := bytes_ext (by simp [hsl])
  refine ⟨?_, e1, e2, ?_, ?_⟩
  · obtain ⟨p, hp⟩ := lines_end (t :: L.map fline) (by simp)
    exact whole_of T p q (by rw [hT, hp]; simp)
  · rw [show t.length + 2 = t.length + (0 + 1 + 1) by omega, e3, e5]
    exact Flds.read_shown L _ hL
  · rw [hss, show t.length + 2 + (lines (L.map fline)).length = t.length + ((lines (L.map fline)).length + 1 + 1) by omega, e4]
theorem head_cut (T : ByteArray) (t : List UInt8) (L : List Fld) (K : Nat) (hK : K < (lines (t :: L.map fline)).length) (hT : T.data.toList = (lines (t :: L.map fline)).take K) (h0 : t ≠ []) (ht : ∀ b ∈ t, ¬ b = 13) (hL : Flds.ok L = true) : whole T = false := by
  cases hw : whole T with
  | false => rfl
  | true =>
    exfalso
    obtain ⟨p, q, hpq⟩ := whole_at hw
    have hne : (lines (t :: L.map fline)).drop K ≠ [] := fun h => by
      have := congrArg List.length h
      rw [List.length_drop, List.length_nil] at this
      omega
    have he : lines (t :: L.map fline) = p ++ 13 :: 10 :: 13 :: 10 :: (q ++ (lines (t :: L.map fline)).drop K) := by
      conv => lhs; rw [← List.take_append_drop K (lines (t :: L.map fline)), ← hT, hpq]
      simp
    have := gap_last (t :: L.map fline) p _ (by simp) (fun x hx => by
      rcases List.mem_cons.1 hx with rfl | h
      · exact ⟨h0, ht⟩
      · exact fline_none hL x h) he
    exact hne (List.append_eq_nil_iff.1 this).2
end Msg
end Go.Proofs.YtbajfklnekfeoaaGreatDoor
namespace Go.Proofs.YtbajfklnekfeoaaGreatDoor
open Go.RowKit
set_option linter.unusedVariables false
namespace Msg
open Line (byteAt byteAt_eq eol)
open Flds (Fld enc)

/-- a request's first line -/
def rline (m u : ByteArray) : List UInt8 := m.data.toList ++ 32 :: (u.data.toList ++ 32 :: ver.data.toList)
theorem req_parts {m u : ByteArray} {l : List Fld} {b : ByteArray} (h : reqOk m u l b = true) : Sign.isTok m = true ∧ m.size ≤ 10 ∧ uriOk u = true ∧ plain l = true ∧ b.size ≤ 60 := by
  unfold reqOk at h
  simp only [Bool.and_eq_true, decide_eq_true_iff] at h
  exact ⟨h.1.1.1.1, h.1.1.1.2, h.1.1.2, h.1.2, h.2⟩
theorem req_mk {m u : ByteArray} {l : List Fld} {b : ByteArray} (h1 : Sign.isTok m = true) (h2 : m.size ≤ 10) (h3 : uriOk u = true) (h4 : plain l = true) (h5 : b.size ≤ 60) : reqOk m u l b = true := by
  unfold reqOk
  rw [h1, h3, h4, decide_eq_true h2, decide_eq_true h5]; rfl
theorem rline_none {m u : ByteArray} {l : List Fld} {b : ByteArray} (h : reqOk m u l b = true) : rline m u ≠ [] ∧ ∀ c ∈ rline m u, ¬ c = 13 := by
  obtain ⟨h1, _, h3, _, _⟩ := req_parts h
  refine ⟨by unfold rline; simp, ?_⟩
  intro c hc
  unfold rline at hc
  rcases List.mem_append.1 hc with h6 | h6
  · exact (tok_none h1 c h6).2
  · rcases List.mem_cons.1 h6 with rfl | h7
    · decide
    · rcases List.mem_append.1 h7 with h8 | h8
      · exact (uri_none h3 c h8).2
      · have : ∀ x ∈ 32 :: ver.data.toList, ¬ x = 13 := by decide
        exact this c h8
theorem req_list {m u : ByteArray} {l : List Fld} {b : ByteArray} (h : reqOk m u l b = true) : (reqText m u l b).data.toList = lines (rline m u :: (framed l b).map fline) ++ b.data.toList := by
  obtain ⟨h1, _, h3, h4, h5⟩ := req_parts h
  unfold reqText
  rw [lines_cons, ← shown_list (ok_framed h4 b h5)]
  unfold rline
  have hv : ver.data.toList = [72, 84, 84, 80, 47, 49, 46, 49] := rfl
  rw [hv]
  simp
theorem req_words {m u : ByteArray} {l : List Fld} {b : ByteArray} (h : reqOk m u l b = true) : words ⟨(rline m u).toArray⟩ = (m, u, ver) := by
  obtain ⟨h1, _, h3, _, _⟩ := req_parts h
  rw [words_list ⟨(rline m u).toArray⟩ m.data.toList u.data.toList ver.data.toList (by unfold rline; simp) (fun c hc => (tok_none h1 c hc).1) (fun c hc => (uri_none h3 c hc).1), list_back, list_back, list_back]
/-- what is read off a text of the right form -/
theorem read_head {T : ByteArray} {m u : ByteArray} {l : List Fld} {b : ByteArray} {q : List UInt8} (h : reqOk m u l b = true) (hd : Head T (rline m u) (framed l b) q) :
    readReq T = if q.length < b.size then noRq 1 else ((m, u, l, (⟨q.toArray⟩ : ByteArray).extract 0 b.size), (((rline m u).length + 2 + (Flds.shown (framed l b)).size : Nat) : Int) + b.size, 0) := by
  obtain ⟨h1, h2, h3, h4, h5⟩ := req_parts h
  unfold readReq
  rw [hd.whole, if_neg (by decide), hd.eol]
  simp only
  rw [hd.read]
  simp only
  rw [hd.line, req_words h, bare_framed h4, if_pos ⟨rfl, req_mk h1 h2 h3 h4 (by decide)⟩, hd.rest, body_framed h4 b h5]
  have hz : (⟨q.toArray⟩ : ByteArray).size = q.length := by rw [size_of]
  rw [hz]
  by_cases hq : q.length < b.size
  · rw [if_pos hq, if_pos hq] <;> rfl
  · rw [if_neg hq, if_neg hq] <;> rfl
/-- a request is read from its text, whatever stands behind -/
theorem read_req {m u : ByteArray} {l : List Fld} {b : ByteArray} (h : reqOk m u l b = true) (more : ByteArray) : readReq (reqText m u l b ++ more) = ((m, u, l, b), ((reqText m u l b).size : Int), 0) := by
  have h4 := (req_parts h).2.2.2.1
  have h5 := (req_parts h).2.2.2.2
  have hd := head_of (reqText m u l b ++ more) (rline m u) (framed l b) (b.data.toList ++ more.data.toList) (by rw [ByteArray.data_append, Array.toList_append, req_list h]; simp) (rline_none h).2 (ok_framed h4 b h5)
  rw [read_head h hd, if_neg (by rw [List.length_append, ← size_of]; omega)]
  have e1 : (⟨(b.data.toList ++ more.data.toList).toArray⟩ : ByteArray).extract 0 b.size = b := by
    have := extract_list ⟨(b.data.toList ++ more.data.toList).toArray⟩ [] b.data.toList more.data.toList (by simp)
    simp only [List.length_nil, Nat.zero_add] at this
    rw [size_of b, this, list_back]
  have e2 : (reqText m u l b).size = (rline m u).length + 2 + (Flds.shown (framed l b)).size + b.size := by
    rw [size_of, req_list h, lines_cons, size_of (Flds.shown (framed l b)), shown_list (ok_framed h4 b h5), size_of b]
    simp only [List.length_append, List.length_cons]
    omega
  rw [e1, e2]
  congr 2
/-- how long a request's text is at most -/
theorem enc_len {f : Fld} (h : Flds.okF f = true) : (enc f).length ≤ 88 := by
  unfold Flds.okF at h
  simp only [Bool.and_eq_true, decide_eq_true_iff] at h
  have h1 := h.1.1.2
  have h2 := h.2
  unfold enc
  simp only [List.length_append, List.length_cons, List.length_nil, ← size_of]
  omega
theorem flat_len : ∀ (L : List Fld), L.all Flds.okF = true → (L.flatMap enc).length ≤ 88 * L.length := by
  intro L
  induction L with
  | nil => intro _; simp
  | cons f L ih =>
    intro h
    rw [List.all_cons, Bool.and_eq_true] at h
    have h1 := enc_len h.1
    have h2 := ih h.2
    rw [List.flatMap_cons, List.length_append, List.length_cons]
    omega
theorem lines_len {L : List Fld} (h : Flds.ok L = true) : (lines (L.map fline)).length ≤ 1058 := by
  unfold Flds.ok at h
  rw [Bool.and_eq_true, decide_eq_true_iff] at h
  have := flat_len L h.1
  have h2 := h.2
  rw [lines_map, List.length_append]
  simp only [List.length_cons, List.length_nil]
  omega
theorem rline_len {m u : ByteArray} {l : List Fld} {b : ByteArray} (h : reqOk m u l b = true) : (rline m u).length ≤ 40 := by
  obtain ⟨_, h2, h3, _, _⟩ := req_parts h
  unfold uriOk at h3
  simp only [Bool.and_eq_true, decide_eq_true_iff] at h3
  have h4 := h3.1.2
  unfold rline
  have hv : ver.data.toList.length = 8 := rfl
  simp only [List.length_append, List.length_cons, hv, ← size_of]
  omega
/-- of a beginning more is wanted -/
theorem read_cut {m u : ByteArray} {l : List Fld} {b : ByteArray} (h : reqOk m u l b = true) (K : Nat) (hK : K < (reqText m u l b).size) : readReq ((reqText m u l b).extract 0 K) = noRq 1 := by
  have h4 := (req_parts h).2.2.2.1
  have h5 := (req_parts h).2.2.2.2
  have hok := ok_framed h4 b h5
  have hl : ((reqText m u l b).extract 0 K).data.toList = (lines (rline m u :: (framed l b).map fline) ++ b.data.toList).take K := by
    rw [ByteArray.data_extract, Array.toList_extract, List.extract_eq_drop_take', List.drop_zero, req_list h]
  have hsz : (reqText m u l b).size = (lines (rline m u :: (framed l b).map fline)).length + b.size := by rw [size_of, req_list h, List.length_append, ← size_of b]
  have hx : ((reqText m u l b).extract 0 K).size = K := by rw [ByteArray.size_extract]; omega
  by_cases hc : K < (lines (rline m u :: (framed l b).map fline)).length
  · have hw := head_cut _ (rline m u) (framed l b) K hc (by rw [hl, List.take_append_of_le_length (by omega)]) (rline_none h).1 (rline_none h).2 hok
    have hlen := lines_len hok
    have hrl := rline_len h
    rw [lines_cons] at hc
    simp only [List.length_append, List.length_cons] at hc
    unfold readReq
    rw [hw, if_pos rfl, hx, if_neg (by omega)]
  · have hd := head_of ((reqText m u l b).extract 0 K) (rline m u) (framed l b) (b.data.toList.take (K - (lines (rline m u :: (framed l b).map fline)).length)) (by rw [hl, List.take_append, List.take_of_length_le (by omega)]) (rline_none h).2 hok
    rw [read_head h hd, if_pos]
    rw [List.length_take, ← size_of]
    omega
/-- what is read of a body is small, and lies in the text -/
theorem unF_in (s : ByteArray) : ∀ (f a : Nat) (out : ByteArray) (r : Body.Told), out.size ≤ 60 → Body.unF s f a out = r → r.2.2 = 0 → r.1.size ≤ 60 ∧ 0 ≤ r.2.1 ∧ r.2.1 ≤ s.size := by
  intro f
  induction f with
  | zero => intro a out r _ h h0; unfold Body.unF at h; subst h; exact absurd h0 (by decide)
  | succ f ih =>
    intro a out r ho h h0
    unfold Body.unF at h
    split at h
    · split at h
      · subst h; exact absurd h0 (by decide)
      · subst h; exact absurd h0 (by decide)
    · split at h
      · subst h; exact absurd h0 (by decide)
      · next n hn =>
        split at h
        · subst h; exact absurd h0 (by decide)
        · next hg =>
          split at h
          · subst h; exact absurd h0 (by decide)
          · next hs =>
            split at h
            · split at h
              · subst h
                simp only
                rw [ByteArray.size_append, ByteArray.size_extract]
                omega
              · exact ih _ _ r (by rw [ByteArray.size_append, ByteArray.size_extract]; omega) h h0
            · subst h; exact absurd h0 (by decide)
theorem body_in (l : List Fld) (s : ByteArray) (c : Bool) (h : (Body.bodyOf l s c).2.2 = 0) : (Body.bodyOf l s c).1.size ≤ 60 ∧ 0 ≤ (Body.bodyOf l s c).2.1 ∧ (Body.bodyOf l s c).2.1 ≤ s.size := by
  obtain ⟨r, hr⟩ : ∃ r, Body.bodyOf l s c = r := ⟨_, rfl⟩
  rw [hr] at h ⊢
  unfold Body.bodyOf Body.bodyBy at hr
  have hs := Body.secs_bd (Flds.get l Body.clName).1
  split at hr
  · split at hr
    · exact unF_in s _ _ _ r (by decide) hr h
    · subst hr; exact absurd h (by decide)
  · split at hr
    · split at hr
      · subst hr; exact absurd h (by decide)
      · next hg =>
        split at hr
        · subst hr; exact absurd h (by decide)
        · subst hr
          simp only [not_or] at hg
          simp only
          rw [ByteArray.size_extract]
          omega
    · split at hr
      · split at hr
        · subst hr; exact absurd h (by decide)
        · subst hr; simp only; omega
      · subst hr; exact ⟨by decide, by decide, by simp⟩
theorem readGo_in (s : ByteArray) : ∀ (f a : Nat) (l : List Fld) (p : List Fld × Nat), Flds.readGo s f a l = some p → p.2 ≤ s.size := by
  intro f
  induction f with
  | zero => intro a l p h; cases h
  | succ f ih =>
    intro a l p h
    unfold Flds.readGo at h
    split at h
    · cases h
    · next i hi =>
      have hin := Line.eol_in hi
      split at h
      · next e => cases h; simp only; omega
      · split at h
        · cases h
        · split at h
          · exact ih _ _ p h
          · cases h
/-- what is read is right, and lies in the text -/
theorem read_right {s : ByteArray} (h : (readReq s).2.2 = 0) : reqOk (readReq s).1.1 (readReq s).1.2.1 (readReq s).1.2.2.1 (readReq s).1.2.2.2 = true ∧ 0 < (readReq s).2.1 ∧ (readReq s).2.1 ≤ s.size := by
  obtain ⟨r, hr⟩ : ∃ r, readReq s = r := ⟨_, rfl⟩
  rw [hr] at h ⊢
  unfold readReq at hr
  split at hr
  · subst hr
    exfalso
    revert h
    show ¬ (if 1500 < s.size then (2 : Int) else 1) = 0
    split <;> decide
  · split at hr
    · subst hr; exact absurd h (by decide)
    · next k hk =>
      split at hr
      · subst hr; exact absurd h (by decide)
      · next l n hln =>
        split at hr
        · next hq =>
          split at hr
          · next hb =>
            subst hr
            obtain ⟨g1, g2, g3⟩ := body_in l _ false hb
            obtain ⟨q1, q2, q3, q4, _⟩ := req_parts hq.2
            refine ⟨req_mk q1 q2 q3 q4 g1, ?_, ?_⟩
            · simp only; omega
            · simp only
              rw [ByteArray.size_extract] at g3
              have hin := Line.eol_in hk
              have hn := readGo_in _ _ _ _ _ (show Flds.readGo (s.extract (k + 2) s.size) 13 0 [] = some (l, n) from hln)
              rw [ByteArray.size_extract] at hn
              simp only at hn
              omega
          · next hb =>
            subst hr
            exfalso
            revert h
            show ¬ codeOf _ = 0
            unfold codeOf
            rw [if_neg hb]
            split <;> decide
        · subst hr; exact absurd h (by decide)
end Msg
end Go.Proofs.YtbajfklnekfeoaaGreatDoor
namespace Go.Proofs.YtbajfklnekfeoaaGreatDoor
open Go.RowKit
set_option linter.unusedVariables false
namespace ReadDec

theorem ofNat_val (d : Nat) (h : d < 10) : (UInt8.ofNat (48 + d)).toNat = 48 + d := by rw [UInt8.toNat_ofNat']; omega
theorem decFrom_append (a b : List UInt8) (acc n : Nat) (h : Lib.decFrom acc a = some n) : Lib.decFrom acc (a ++ b) = Lib.decFrom n b := by
  induction a generalizing acc with
  | nil => simp only [Lib.decFrom, Option.some.injEq] at h; subst h; rfl
  | cons c a ih =>
    simp only [Lib.decFrom, List.cons_append] at h ⊢
    cases hd : Lib.digitVal c with
    | none => rw [hd] at h; cases h
    | some d => rw [hd] at h; exact ih _ h
/-- the number of the digits of a text, whatever else stands in it; and how many they are -/
def dval (acc : Int) : List UInt8 → Int
  | [] => acc
  | c :: l => if 48 ≤ c.toNat ∧ c.toNat ≤ 57 then dval (acc * 10 + ((c.toNat : Int) - 48)) l else dval acc l
def dcnt : List UInt8 → Nat
  | [] => 0
  | c :: l => (if 48 ≤ c.toNat ∧ c.toNat ≤ 57 then 1 else 0) + dcnt l
theorem dval_append (a b : List UInt8) (acc : Int) : dval acc (a ++ b) = dval (dval acc a) b := by
  induction a generalizing acc with
  | nil => rfl
  | cons c a ih => simp only [List.cons_append, dval]; split <;> exact ih _
theorem dcnt_append (a b : List UInt8) : dcnt (a ++ b) = dcnt a + dcnt b := by
  induction a with
  | nil => simp [dcnt]
  | cons c a ih => simp only [List.cons_append, dcnt, ih]; omega
theorem dcnt_le (a : List UInt8) : dcnt a ≤ a.length := by
  induction a with
  | nil => simp [dcnt]
  | cons c a ih => simp only [dcnt, List.length_cons]; split <;> omega
theorem dval_bd (a : List UInt8) (acc : Int) (h : 0 ≤ acc) : 0 ≤ dval acc a ∧ dval acc a < (acc + 1) * 10 ^ a.length := by
  induction a generalizing acc with
  | nil => simp [dval]; omega
  | cons c a ih =>
    have hp : (0 : Int) < 10 ^ a.length := Int.pow_pos (by decide)
    simp only [dval, List.length_cons, Int.pow_succ]
    split
    · rename_i hc
      have hi := ih (acc * 10 + ((c.toNat : Int) - 48)) (by omega)
      refine ⟨hi.1, Int.lt_of_lt_of_le hi.2 ?_⟩
      rw [Int.mul_comm (10 ^ a.length) 10, ← Int.mul_assoc]
      exact Int.mul_le_mul_of_nonneg_right (by omega) (by omega)
    · have hi := ih acc h
      refine ⟨hi.1, Int.lt_of_lt_of_le hi.2 ?_⟩
      rw [Int.mul_comm (10 ^ a.length) 10, ← Int.mul_assoc]
      exact Int.mul_le_mul_of_nonneg_right (by omega) (by omega)
theorem digits_all (k : Nat) : ∀ u, u < 10 ^ k ∨ u < 10 → Lib.decFrom 0 (Lib.decDigits u) = some u ∧ dval 0 (Lib.decDigits u) = u ∧ dcnt (Lib.decDigits u) = Lib.nDigits u := by
  induction k with
  | zero =>
    intro u h
    have h10 : u < 10 := by rcases h with h | h <;> omega
    rw [Lib.decDigits_one h10, Lib.nDigits_small h10]
    have hv := ofNat_val u h10
    refine ⟨?_, ?_, ?_⟩
    · simp only [Lib.decFrom, Lib.digitVal, hv]; rw [if_pos (by omega)]; simp
    · simp only [dval, hv]; rw [if_pos (by omega)]; omega
    · simp only [dcnt, hv]; rw [if_pos (by omega)]
  | succ k ih =>
    intro u h
    by_cases h10 : u < 10
    · exact ih u (.inr h10)
    · have hlt : u / 10 < 10 ^ k := by
        rcases h with h | h
        · rw [Nat.pow_succ] at h; omega
        · omega
      obtain ⟨i1, i2, i3⟩ := ih (u / 10) (.inl hlt)
      have hv := ofNat_val (u % 10) (by omega)
      rw [Lib.decDigits, dif_neg h10, Lib.nDigits_big h10]
      refine ⟨?_, ?_, ?_⟩
      · rw [decFrom_append _ _ _ _ i1]
        simp only [Lib.decFrom, Lib.digitVal, hv]
        rw [if_pos (by omega)]
        simp only [Option.some.injEq]
        omega
      · rw [dval_append, i2]
        simp only [dval, hv]
        rw [if_pos (by omega)]
        omega
      · rw [dcnt_append, i3]
        simp only [dcnt, hv]
        rw [if_pos (by omega)]
theorem digits_of (u : Nat) : Lib.decFrom 0 (Lib.decDigits u) = some u ∧ dval 0 (Lib.decDigits u) = u ∧ dcnt (Lib.decDigits u) = Lib.nDigits u :=
  digits_all (Lib.nDigits u) u (.inl (Lib.lt_pow_nDigits u))
theorem digits_ne (u : Nat) : Lib.decDigits u ≠ [] := by
  intro h
  have := congrArg List.length h
  rw [Lib.decDigits_length] at this
  have := Lib.nDigits_pos u
  simp at *
  omega
theorem head_digit (u : Nat) : ∃ c l, Lib.decDigits u = c :: l ∧ 48 ≤ c.toNat ∧ c.toNat ≤ 57 := by
  cases h : Lib.decDigits u with
  | nil => exact absurd h (digits_ne u)
  | cons c l =>
    refine ⟨c, l, rfl, ?_⟩
    have h1 := (digits_of u).1
    rw [h] at h1
    simp only [Lib.decFrom] at h1
    cases hd : Lib.digitVal c with
    | none => rw [hd] at h1; cases h1
    | some d => have := Lib.digitVal_eq hd; omega
theorem decNat_digits (u : Nat) : Lib.decNat (Lib.decDigits u) = some u := by
  unfold Lib.decNat
  have hne : (Lib.decDigits u).isEmpty = false := by
    cases h : Lib.decDigits u with
    | nil => exact absurd h (digits_ne u)
    | cons c l => rfl
  rw [hne]
  exact (digits_of u).1
theorem atoi_itoa (n : Int) : Lib.atoi (Lib.itoa n) = some n := by
  unfold Lib.itoa
  by_cases h : n < 0
  · rw [if_pos h]
    have e : Lib.atoi (45 :: Lib.decDigits n.natAbs) = (Lib.decNat (Lib.decDigits n.natAbs)).map fun (m : Nat) => -(m : Int) := rfl
    rw [e, decNat_digits]
    simp only [Option.map_some, Option.some.injEq]
    omega
  · rw [if_neg h]
    obtain ⟨c, l, he, h1, h2⟩ := head_digit n.toNat
    have hd := decNat_digits n.toNat
    rw [he] at hd ⊢
    have c1 : (c == 45) = false := by
      rw [beq_eq_false_iff_ne]; intro hc; subst hc; revert h1; decide
    have c2 : (c == 43) = false := by
      rw [beq_eq_false_iff_ne]; intro hc; subst hc; revert h1; decide
    simp only [Lib.atoi, c1, c2]
    simp only [Bool.false_eq_true, if_false, hd, Option.map_some, Option.some.injEq]
    omega
theorem itoa_inj (m n : Int) (h : Lib.itoa m = Lib.itoa n) : m = n := by
  have h1 := atoi_itoa m
  rw [h, atoi_itoa n] at h1
  exact (Option.some.inj h1).symm
/-- what the loop makes of a number's text -/
def sval (l : List UInt8) : Int := if l.head? = some 45 then -dval 0 l else dval 0 l
theorem itoa_parts (n : Int) : sval (Lib.itoa n) = n ∧ dcnt (Lib.itoa n) = Lib.nDigits n.natAbs := by
  unfold Lib.itoa sval
  by_cases h : n < 0
  · rw [if_pos h]
    have hd := digits_of n.natAbs
    have e1 : dval 0 (45 :: Lib.decDigits n.natAbs) = dval 0 (Lib.decDigits n.natAbs) := by simp [dval]
    have e2 : dcnt (45 :: Lib.decDigits n.natAbs) = dcnt (Lib.decDigits n.natAbs) := by simp [dcnt]
    rw [e1, e2, hd.2.1, hd.2.2]
    simp only [List.head?_cons, if_true]
    exact ⟨by omega, trivial⟩
  · rw [if_neg h]
    have hd := digits_of n.toNat
    obtain ⟨c, l, he, h1, h2⟩ := head_digit n.toNat
    rw [hd.2.1, hd.2.2, show n.natAbs = n.toNat by omega]
    have hc : (Lib.decDigits n.toNat).head? ≠ some 45 := by
      rw [he]; simp only [List.head?_cons, ne_eq, Option.some.injEq]; intro hc; subst hc; revert h1; decide
    rw [if_neg hc]
    exact ⟨by omega, rfl⟩
theorem digits_few (j u : Nat) (h : u < 10 ^ j) : Lib.nDigits u ≤ max 1 j := by
  induction j generalizing u with
  | zero => rw [Lib.nDigits_small (by simp at h; omega)]; omega
  | succ j ih =>
    by_cases h10 : u < 10
    · rw [Lib.nDigits_small h10]; omega
    · rw [Lib.nDigits_big h10]
      have hi := ih (u / 10) (by rw [Nat.pow_succ] at h; omega)
      rcases Nat.eq_zero_or_pos j with hj | hj
      · subst hj; simp at h; omega
      · omega
theorem nDigits_le9 (u : Nat) (h : u ≤ 999999999) : Lib.nDigits u ≤ 9 := by
  have h1 := digits_few 9 u (by omega)
  omega
theorem le9_nDigits (u : Nat) (h : Lib.nDigits u ≤ 9) : u ≤ 999999999 := by
  have h1 := Lib.lt_pow_nDigits u
  have h2 : 10 ^ Lib.nDigits u ≤ 10 ^ 9 := Nat.pow_le_pow_right (by decide) h
  omega
theorem length_itoa (n : Int) (h0 : -999999999 ≤ n) (h1 : n ≤ 999999999) : (Lib.itoa n).length ≤ 10 := by
  unfold Lib.itoa
  split
  · rw [List.length_cons, Lib.decDigits_length]; have := nDigits_le9 n.natAbs (by omega); omega
  · rw [Lib.decDigits_length]; have := nDigits_le9 n.toNat (by omega); omega
/-- what is told -/
def Good (s : ByteArray) (a : Int) (t : Bool) : Prop :=
  (t = true ∧ -999999999 ≤ a ∧ a ≤ 999999999 ∧ Lib.itoa a = s.data.toList) ∨ (t = false ∧ a = 0 ∧ ∀ m, -999999999 ≤ m → m ≤ 999999999 → Lib.itoa m ≠ s.data.toList)
theorem good_one (s : ByteArray) (a a' : Int) (t t' : Bool) (h : Good s a t) (h' : Good s a' t') : a = a' ∧ t = t' := by
  rcases h with ⟨rfl, h1, h2, h3⟩ | ⟨rfl, rfl, h3⟩ <;> rcases h' with ⟨rfl, k1, k2, k3⟩ | ⟨rfl, rfl, k3⟩
  · exact ⟨itoa_inj a a' (h3.trans k3.symm), rfl⟩
  · exact absurd h3 (k3 a h1 h2)
  · exact absurd k3 (h3 a' k1 k2)
  · exact ⟨rfl, rfl⟩
end ReadDec
end Go.Proofs.YtbajfklnekfeoaaGreatDoor
