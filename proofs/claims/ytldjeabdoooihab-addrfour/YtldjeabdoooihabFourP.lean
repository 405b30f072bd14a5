/-
  Four numbers with points between, written and read: plain facts.
-/
import Derived.Test.YtldjeabdoooihabDec
import Derived.Test.YtldjeabdoooihabAdrP
import Derived.Lib.IndexBytes
namespace Go.Proofs.Ytldjeabdoooihab
open Go.RowKit
set_option linter.unusedSimpArgs false
set_option linter.unusedVariables false

theorem byteAt_data (t : ByteArray) (k : Nat) : byteAt t k = match t.data.toList[k]? with | some c => (c.toNat : Int) | none => 0 := by
  conv => lhs; rw [← Lib.mk_data t]
  exact byteAt_list _ _
theorem numR_stop (t : ByteArray) (f k : Nat) (n : Int) (h : ¬ (48 ≤ byteAt t k ∧ byteAt t k ≤ 57)) : numR t f k n = (n, (k : Int)) := by
  cases f with
  | zero => rfl
  | succ f => exact if_neg h
theorem numR_go (t : ByteArray) (f k : Nat) (n d : Int) (hb : byteAt t k = 48 + d) (h0 : 0 ≤ d) (h1 : d ≤ 9) :
    numR t (f + 1) k n = (if 255 < 10 * n + d then (0, 0) else if 10 * n + d = 0 then (0, (k : Int) + 1) else numR t f (k + 1) (10 * n + d)) := by
  have e : byteAt t k - 48 = d := by omega
  have : numR t (f + 1) k n = (if 255 < 10 * n + (byteAt t k - 48) then (0, 0) else if 10 * n + (byteAt t k - 48) = 0 then (0, (k : Int) + 1) else numR t f (k + 1) (10 * n + (byteAt t k - 48))) := if_pos ⟨by omega, by omega⟩
  rw [e] at this; exact this
theorem decL_ways (n : Nat) (h : n < 300) : (n < 10 ∧ decL n = [UInt8.ofNat (48 + n)]) ∨ (10 ≤ n ∧ n < 100 ∧ decL n = [UInt8.ofNat (48 + n / 10), UInt8.ofNat (48 + n % 10)]) ∨ (100 ≤ n ∧ decL n = [UInt8.ofNat (48 + n / 100), UInt8.ofNat (48 + n / 10 % 10), UInt8.ofNat (48 + n % 10)]) := by
  have key : ∀ n, n < 300 → (n < 10 ∧ decL n = [UInt8.ofNat (48 + n)]) ∨ (10 ≤ n ∧ n < 100 ∧ decL n = [UInt8.ofNat (48 + n / 10), UInt8.ofNat (48 + n % 10)]) ∨ (100 ≤ n ∧ decL n = [UInt8.ofNat (48 + n / 100), UInt8.ofNat (48 + n / 10 % 10), UInt8.ofNat (48 + n % 10)]) := by
    decide +kernel
  exact key n h
theorem decL_len (n : Nat) (h : n < 300) : 1 ≤ (decL n).length ∧ (decL n).length ≤ 3 := by
  rcases decL_ways n h with ⟨_, e⟩ | ⟨_, _, e⟩ | ⟨_, e⟩ <;> rw [e] <;> simp
theorem u8n (d : Nat) (h : d < 256) : ((UInt8.ofNat d).toNat : Int) = (d : Int) := by rw [UInt8.toNat_ofNat']; omega
/-- A number's digits and what comes behind them, which is nothing, or no digit. -/
theorem num_dec (t : ByteArray) (n : Nat) (r : List UInt8) (h : n < 300) (ht : t.data.toList = decL n ++ r) (hr : r = [] ∨ ∃ c r', r = c :: r' ∧ ¬ (48 ≤ (c.toNat : Int) ∧ (c.toNat : Int) ≤ 57)) :
    numR t t.size 0 0 = if n ≤ 255 then ((n : Int), ((decL n).length : Int)) else (0, 0) := by
  have hz : t.size = (decL n).length + r.length := by rw [Lib.size_eq, ht, List.length_append]
  have hb : ∀ k, byteAt t k = match (decL n ++ r)[k]? with | some c => (c.toNat : Int) | none => 0 := fun k => by rw [byteAt_data, ht]
  have hend : ¬ (48 ≤ byteAt t (decL n).length ∧ byteAt t (decL n).length ≤ 57) := by
    rw [hb, List.getElem?_append_right (Nat.le_refl _), Nat.sub_self]
    rcases hr with rfl | ⟨c, r', rfl, hc⟩
    · simp
    · exact hc
  rcases decL_ways n h with ⟨a, e⟩ | ⟨a, b, e⟩ | ⟨a, e⟩
  · rw [e] at hend hz hb ⊢
    have b0 : byteAt t 0 = 48 + (n : Int) := by rw [hb]; show ((UInt8.ofNat (48 + n)).toNat : Int) = _; rw [u8n _ (by omega)]; omega
    have hz' : t.size = r.length + 1 := by simpa [Nat.add_comm] using hz
    rw [hz', numR_go t _ 0 0 n b0 (by omega) (by omega), if_pos (show n ≤ 255 by omega), if_neg (show ¬ 255 < 10 * (0 : Int) + n by omega)]
    by_cases h0 : n = 0
    · subst h0; rfl
    · rw [if_neg (by omega)]
      have := numR_stop t r.length 1 (10 * 0 + (n : Int)) hend
      rw [show (0 : Nat) + 1 = 1 from rfl, this]
      simp
  · rw [e] at hend hz hb ⊢
    have b0 : byteAt t 0 = 48 + ((n / 10 : Nat) : Int) := by rw [hb]; show ((UInt8.ofNat (48 + n / 10)).toNat : Int) = _; rw [u8n _ (by omega)]; omega
    have b1 : byteAt t 1 = 48 + ((n % 10 : Nat) : Int) := by rw [hb]; show ((UInt8.ofNat (48 + n % 10)).toNat : Int) = _; rw [u8n _ (by omega)]; omega
    have hz' : t.size = r.length + 1 + 1 := by simp at hz; omega
    rw [hz', numR_go t _ 0 0 _ b0 (by omega) (by omega), if_neg (by omega), if_neg (by omega), numR_go t _ _ _ _ b1 (by omega) (by omega), if_neg (by omega), if_neg (by omega), numR_stop t _ (1 + 1) _ hend, if_pos (by omega)]
    simp; omega
  · rw [e] at hend hz hb ⊢
    have b0 : byteAt t 0 = 48 + ((n / 100 : Nat) : Int) := by rw [hb]; show ((UInt8.ofNat (48 + n / 100)).toNat : Int) = _; rw [u8n _ (by omega)]; omega
    have b1 : byteAt t 1 = 48 + ((n / 10 % 10 : Nat) : Int) := by rw [hb]; show ((UInt8.ofNat (48 + n / 10 % 10)).toNat : Int) = _; rw [u8n _ (by omega)]; omega
    have b2 : byteAt t 2 = 48 + ((n % 10 : Nat) : Int) := by rw [hb]; show ((UInt8.ofNat (48 + n % 10)).toNat : Int) = _; rw [u8n _ (by omega)]; omega
    have hz' : t.size = r.length + 1 + 1 + 1 := by simp at hz; omega
    rw [hz', numR_go t _ 0 0 _ b0 (by omega) (by omega), if_neg (by omega), if_neg (by omega), numR_go t _ _ _ _ b1 (by omega) (by omega), if_neg (by omega), if_neg (by omega), numR_go t _ _ _ _ b2 (by omega) (by omega)]
    by_cases h2 : n ≤ 255
    · rw [if_neg (by omega), if_neg (by omega), numR_stop t _ (1 + 1 + 1) _ hend, if_pos h2]
      simp; omega
    · rw [if_pos (by omega), if_neg h2]

theorem drop_len (s : ByteArray) (p : Nat) (l : List UInt8) (h : s.data.toList.drop p = l) (hl : l ≠ []) : s.size = p + l.length := by
  have := congrArg List.length h
  rw [List.length_drop, ← Lib.size_eq] at this
  have : 0 < l.length := by
    cases l with
    | nil => exact absurd rfl hl
    | cons => simp
  omega
theorem drop_at (s : ByteArray) (p k : Nat) (l : List UInt8) (h : s.data.toList.drop p = l) : byteAt s (p + k) = match l[k]? with | some c => (c.toNat : Int) | none => 0 := by
  rw [byteAt_data, ← h, List.getElem?_drop]
theorem four_step (s : ByteArray) (f i p n : Nat) (x : BitVec 128) (r : List UInt8) (h : n < 300) (hi : i < 3) (hd : s.data.toList.drop p = decL n ++ 46 :: r) :
    (fourR s (f + 1) i p x = if n ≤ 255 then fourR s f (i + 1) (p + (decL n).length + 1) (layW x i 8 n) else (0#128, false)) ∧ s.data.toList.drop (p + (decL n).length + 1) = r := by
  have hl := decL_len n h
  have e := num_dec (s.extract p s.size) n (46 :: r) h (by rw [Lib.extract_to_end]; exact hd) (Or.inr ⟨46, r, rfl, by decide⟩)
  have hz := drop_len s p _ hd (by simp)
  rw [List.length_append, List.length_cons] at hz
  refine ⟨?_, ?_⟩
  · have hV : numV (s.extract p s.size) = (numR (s.extract p s.size) (s.extract p s.size).size 0 0).1 := rfl
    have hN : numN (s.extract p s.size) = (numR (s.extract p s.size) (s.extract p s.size).size 0 0).2 := rfl
    rw [e] at hV hN
    have hu : fourR s (f + 1) i p x = if numN (s.extract p s.size) = 0 then (0#128, false) else if i = 3 then (layW x i 8 (numV (s.extract p s.size)), decide (p + (numN (s.extract p s.size)).toNat = s.size)) else if p + (numN (s.extract p s.size)).toNat = s.size ∨ byteAt s (p + (numN (s.extract p s.size)).toNat) ≠ 46 then (0#128, false) else fourR s f (i + 1) (p + (numN (s.extract p s.size)).toNat + 1) (layW x i 8 (numV (s.extract p s.size))) := rfl
    rw [hu, hV, hN]
    by_cases h2 : n ≤ 255
    · rw [if_pos h2, if_pos h2]
      have hb : byteAt s (p + (decL n).length) = 46 := by
        rw [drop_at s p _ _ hd, List.getElem?_append_right (Nat.le_refl _), Nat.sub_self]; rfl
      rw [if_neg (by show ¬ ((decL n).length : Int) = 0; omega), if_neg (by omega)]
      simp only [Int.toNat_natCast]
      rw [if_neg (by rw [hb]; simp; omega)]
    · rw [if_neg h2, if_neg h2, if_pos rfl]
  · rw [Nat.add_assoc, ← List.drop_drop, hd, List.drop_append, List.drop_of_length_le (by omega), Nat.add_sub_cancel_left]
    rfl
theorem four_last (s : ByteArray) (f p n : Nat) (x : BitVec 128) (h : n < 300) (hd : s.data.toList.drop p = decL n) :
    fourR s (f + 1) 3 p x = if n ≤ 255 then (layW x 3 8 n, true) else (0#128, false) := by
  have hl := decL_len n h
  have hne : decL n ≠ [] := fun q => by rw [q] at hl; simp at hl
  have e := num_dec (s.extract p s.size) n [] h (by rw [Lib.extract_to_end, List.append_nil]; exact hd) (Or.inl rfl)
  have hz := drop_len s p _ hd hne
  have hV : numV (s.extract p s.size) = (numR (s.extract p s.size) (s.extract p s.size).size 0 0).1 := rfl
  have hN : numN (s.extract p s.size) = (numR (s.extract p s.size) (s.extract p s.size).size 0 0).2 := rfl
  rw [e] at hV hN
  have hu : fourR s (f + 1) 3 p x = if numN (s.extract p s.size) = 0 then (0#128, false) else if 3 = 3 then (layW x (3 : Nat) 8 (numV (s.extract p s.size)), decide (p + (numN (s.extract p s.size)).toNat = s.size)) else if p + (numN (s.extract p s.size)).toNat = s.size ∨ byteAt s (p + (numN (s.extract p s.size)).toNat) ≠ 46 then (0#128, false) else fourR s f (3 + 1) (p + (numN (s.extract p s.size)).toNat + 1) (layW x (3 : Nat) 8 (numV (s.extract p s.size))) := rfl
  rw [hu, hV, hN]
  by_cases h2 : n ≤ 255
  · rw [if_pos h2, if_pos h2, if_neg (by show ¬ ((decL n).length : Int) = 0; omega), if_pos rfl]
    simp only [Int.toNat_natCast]
    rw [show decide (p + (decL n).length = s.size) = true by simp; omega]
    rfl
  · rw [if_neg h2, if_neg h2, if_pos rfl]

/-- The word of four numbers. -/
def quadW (a b c d : Int) : BitVec 128 := layW (layW (layW (layW 0#128 0 8 a) 1 8 b) 2 8 c) 3 8 d
theorem four_text (s : ByteArray) (a b c d : Nat) (ha : a < 300) (hb : b < 300) (hc : c < 300) (hd : d < 300) (hs : s.data.toList = decL a ++ 46 :: (decL b ++ 46 :: (decL c ++ 46 :: decL d))) :
    fourR s 4 0 0 0#128 = if a ≤ 255 ∧ b ≤ 255 ∧ c ≤ 255 ∧ d ≤ 255 then (quadW a b c d, true) else (0#128, false) := by
  obtain ⟨e1, d1⟩ := four_step s 3 0 0 a 0#128 _ ha (by omega) (by rw [List.drop_zero]; exact hs)
  rw [e1]
  by_cases h1 : a ≤ 255
  · rw [if_pos h1]
    obtain ⟨e2, d2⟩ := four_step s 2 1 _ b (layW 0#128 (0 : Nat) 8 a) _ hb (by omega) d1
    rw [e2]
    by_cases h2 : b ≤ 255
    · rw [if_pos h2]
      obtain ⟨e3, d3⟩ := four_step s 1 2 _ c (layW (layW 0#128 (0 : Nat) 8 a) (1 : Nat) 8 b) _ hc (by omega) d2
      rw [e3]
      by_cases h3 : c ≤ 255
      · rw [if_pos h3, four_last s 0 _ d _ hd d3]
        by_cases h4 : d ≤ 255
        · rw [if_pos h4, if_pos ⟨h1, h2, h3, h4⟩]; rfl
        · rw [if_neg h4, if_neg (by simp [h4])]
      · rw [if_neg h3, if_neg (by simp [h3])]
    · rw [if_neg h2, if_neg (by simp [h2])]
  · rw [if_neg h1, if_neg (by simp [h1])]
/-- A nought ahead of it. -/
theorem four_nought (s : ByteArray) (c : UInt8) (r : List UInt8) (hc : ¬ c = 46) (hs : s.data.toList = 48 :: c :: r) : fourR s 4 0 0 0#128 = (0#128, false) := by
  have hb0 : byteAt (s.extract 0 s.size) 0 = 48 + 0 := by rw [byteAt_ext, byteAt_data, hs]; rfl
  have hz : s.size = r.length + 1 + 1 := by rw [Lib.size_eq, hs]; rfl
  have hz2 : (s.extract 0 s.size).size = r.length + 1 + 1 := by rw [Lib.size_eq, Lib.extract_to_end, List.drop_zero, hs]; rfl
  have e : numR (s.extract 0 s.size) (s.extract 0 s.size).size 0 0 = (0, 1) := by
    rw [hz2, numR_go _ _ 0 0 0 hb0 (by omega) (by omega), if_neg (by omega), if_pos (by omega)]; rfl
  have hN : numN (s.extract 0 s.size) = 1 := by unfold numN; rw [e]
  have hb1 : ¬ byteAt s 1 = 46 := by
    rw [byteAt_data, hs]
    show ¬ (c.toNat : Int) = 46
    intro q
    exact hc ((u8_of c 46 (by omega)).mp q)
  have hu : fourR s (3 + 1) 0 0 0#128 = if numN (s.extract 0 s.size) = 0 then (0#128, false) else if 0 = 3 then (layW 0#128 (0 : Nat) 8 (numV (s.extract 0 s.size)), decide (0 + (numN (s.extract 0 s.size)).toNat = s.size)) else if 0 + (numN (s.extract 0 s.size)).toNat = s.size ∨ byteAt s (0 + (numN (s.extract 0 s.size)).toNat) ≠ 46 then (0#128, false) else fourR s 3 (0 + 1) (0 + (numN (s.extract 0 s.size)).toNat + 1) (layW 0#128 (0 : Nat) 8 (numV (s.extract 0 s.size))) := rfl
  rw [hu, hN, if_neg (by omega), if_neg (by omega)]
  exact if_pos (Or.inr hb1)

theorem lay_h (x : BitVec 128) (i v : Int) (h0 : 0 ≤ i) (h1 : i ≤ 3) (v0 : 0 ≤ v) (v1 : v ≤ 255) : bits .or .u64 (hI x) (IntKind.u64.wrap (v * 2 ^ (56 - 8 * i).toNat)) = hI (layW x i 8 v) := by
  unfold layW
  rw [← or_h, ← shl_h2 (mkW 0 v) (128 - 8 * (i + 1)).toNat (by omega) (by omega), lI_mk 0 v v0 (by omega), show (128 - 8 * (i + 1)).toNat - 64 = (56 - 8 * i).toNat by omega]
theorem lay_l (x : BitVec 128) (i v : Int) (h0 : 0 ≤ i) (h1 : i ≤ 3) (hx : lI x = 0) : lI (layW x i 8 v) = 0 := by
  unfold layW
  rw [← or_l, shl_l2 _ _ (by omega), hx]; decide
end Go.Proofs.Ytldjeabdoooihab
