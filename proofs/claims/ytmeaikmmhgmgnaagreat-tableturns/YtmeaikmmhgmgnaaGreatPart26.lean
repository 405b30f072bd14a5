/-
  Part 26 of the proof: 4 texts, one behind the other.
-/
import Derived.Test.YtmeaikmmhgmgnaaGreatPart7
import Derived.Test.YtmeaikmmhgmgnaaGreatPart10
import Derived.Laws.AppendOwnNone
import Derived.Test.YtmeaikmmhgmgnaaGreatPart4
import Derived.Lib.IndexBytes
namespace Go.Proofs.YtmeaikmmhgmgnaaGreat
open Go.RowKit
set_option linter.unusedSimpArgs false
set_option linter.unusedVariables false

theorem byteAt_sub (s : ByteArray) (a b k : Nat) (hb : b ≤ s.size) : byteAt (s.extract a b) k = if a + k < b then byteAt s (a + k) else 0 := by
  unfold byteAt
  by_cases h : a + k < b
  · have h2 : k < (s.extract a b).size := by simp; omega
    rw [if_pos h, dif_pos (show a + k < s.size by omega), dif_pos h2]
    congr 2
    rw [ByteArray.getElem_extract]
  · have h2 : ¬ k < (s.extract a b).size := by simp; omega
    rw [if_neg h, dif_neg h2]
theorem size_sub (s : ByteArray) (a b : Nat) (hb : b ≤ s.size) : (s.extract a b).size = b - a := by simp; omega
theorem byteAt_end (s : ByteArray) (k : Nat) (h : s.size ≤ k) : byteAt s k = 0 := by unfold byteAt; rw [dif_neg (by omega)]

theorem spl_scan (t : ByteArray) (c : Int) (p : Nat) : ∀ f i, p ≤ i → i + f = t.size → (∀ k, p ≤ k → k < i → ¬ byteAt t k = c) →
    ∃ j, i ≤ j ∧ j ≤ t.size ∧ (∀ k, p ≤ k → k < j → ¬ byteAt t k = c) ∧ ((j = t.size ∧ spl t c f p i = [t.extract p t.size]) ∨ (j < t.size ∧ byteAt t j = c ∧ spl t c f p i = t.extract p j :: spl t c (t.size - (j + 1)) (j + 1) (j + 1))) := by
  intro f
  induction f with
  | zero => intro i hp hi hn; exact ⟨i, Nat.le_refl _, by omega, hn, Or.inl ⟨by omega, rfl⟩⟩
  | succ f ih =>
    intro i hp hi hn
    by_cases hc : byteAt t i = c
    · refine ⟨i, Nat.le_refl _, by omega, hn, Or.inr ⟨by omega, hc, ?_⟩⟩
      have e : t.size - (i + 1) = f := by omega
      rw [e]; exact if_pos hc
    · obtain ⟨j, h1, h2, h3, h4⟩ := ih (i + 1) (by omega) (by omega) (fun k hk1 hk2 => by
        by_cases q : k = i
        · rw [q]; exact hc
        · exact hn k hk1 (by omega))
      have e : spl t c (f + 1) p i = spl t c f p (i + 1) := if_neg hc
      rw [e]
      exact ⟨j, by omega, h2, h3, h4⟩
theorem spl_next (t : ByteArray) (c : Int) (p : Nat) (hp : p ≤ t.size) :
    ∃ j, p ≤ j ∧ j ≤ t.size ∧ (∀ k, p ≤ k → k < j → ¬ byteAt t k = c) ∧ ((j = t.size ∧ spl t c (t.size - p) p p = [t.extract p t.size]) ∨ (j < t.size ∧ byteAt t j = c ∧ spl t c (t.size - p) p p = t.extract p j :: spl t c (t.size - (j + 1)) (j + 1) (j + 1))) :=
  spl_scan t c p (t.size - p) p (Nat.le_refl _) (by omega) (fun k h1 h2 => by omega)

theorem octG_big (q : ByteArray) : ∀ f k n, 1 ≤ n → octG q f k n = -1 ∨ n * 10 ^ f ≤ octG q f k n := by
  intro f
  induction f with
  | zero => intro k n h; right; show n * 10 ^ 0 ≤ n; simp
  | succ f ih =>
    intro k n h
    by_cases hd : 48 ≤ byteAt q k ∧ byteAt q k ≤ 57
    · have e : octG q (f + 1) k n = octG q f (k + 1) (10 * n + (byteAt q k - 48)) := if_pos hd
      rw [e]
      rcases ih (k + 1) (10 * n + (byteAt q k - 48)) (by omega) with h1 | h1
      · exact Or.inl h1
      · right
        have h2 : (10 * n) * 10 ^ f ≤ (10 * n + (byteAt q k - 48)) * 10 ^ f := Int.mul_le_mul_of_nonneg_right (by omega) (Int.pow_nonneg (by omega))
        have h3 : n * 10 ^ (f + 1) = (10 * n) * 10 ^ f := by rw [Int.pow_succ, Int.mul_comm (10 ^ f) 10, ← Int.mul_assoc, Int.mul_comm n 10]
        omega
    · left; exact if_neg hd

theorem num_on (s : ByteArray) (p j : Nat) (hj : j ≤ s.size) (hend : j = s.size ∨ byteAt s j = 46) : ∀ f k n, p + k + f = j → 1 ≤ n → n ≤ 255 →
    ((0 ≤ octG (s.extract p j) f k n ∧ octG (s.extract p j) f k n ≤ 255 → numR (s.extract p s.size) (s.size - p - k) k n = (octG (s.extract p j) f k n, ((j - p : Nat) : Int)))
    ∧ (¬ (0 ≤ octG (s.extract p j) f k n ∧ octG (s.extract p j) f k n ≤ 255) → (numR (s.extract p s.size) (s.size - p - k) k n).2 = 0 ∨ ∃ z : Nat, (numR (s.extract p s.size) (s.size - p - k) k n).2 = z ∧ p + z < j)) := by
  intro f
  induction f with
  | zero =>
    intro k n hk h0 h1
    have e : octG (s.extract p j) 0 k n = n := rfl
    rw [e]
    refine ⟨fun _ => ?_, fun q => absurd ⟨by omega, h1⟩ q⟩
    have hb : ¬ (48 ≤ byteAt (s.extract p s.size) k ∧ byteAt (s.extract p s.size) k ≤ 57) := by
      rw [byteAt_ext]
      rcases hend with h | h
      · rw [byteAt_end s (p + k) (by omega)]; omega
      · rw [show p + k = j by omega, h]; omega
    have : numR (s.extract p s.size) (s.size - p - k) k n = (n, (k : Int)) := by
      cases s.size - p - k with
      | zero => rfl
      | succ f => exact if_neg hb
    rw [this, show j - p = k by omega]
  | succ f ih =>
    intro k n hk h0 h1
    have hkj : p + k < j := by omega
    have e1 : byteAt (s.extract p j) k = byteAt s (p + k) := by rw [byteAt_sub s p j k hj, if_pos hkj]
    have e2 : byteAt (s.extract p s.size) k = byteAt s (p + k) := byteAt_ext s p k
    have ef : s.size - p - k = (s.size - p - (k + 1)) + 1 := by omega
    by_cases hd : 48 ≤ byteAt s (p + k) ∧ byteAt s (p + k) ≤ 57
    · have eo : octG (s.extract p j) (f + 1) k n = octG (s.extract p j) f (k + 1) (10 * n + (byteAt s (p + k) - 48)) := by
        have : octG (s.extract p j) (f + 1) k n = octG (s.extract p j) f (k + 1) (10 * n + (byteAt (s.extract p j) k - 48)) := if_pos (by rw [e1]; exact hd)
        rw [e1] at this; exact this
      have en : numR (s.extract p s.size) (s.size - p - k) k n = if 255 < 10 * n + (byteAt s (p + k) - 48) then (0, 0) else if 10 * n + (byteAt s (p + k) - 48) = 0 then (0, (k : Int) + 1) else numR (s.extract p s.size) (s.size - p - (k + 1)) (k + 1) (10 * n + (byteAt s (p + k) - 48)) := by
        rw [ef]
        have : numR (s.extract p s.size) ((s.size - p - (k + 1)) + 1) k n = if 255 < 10 * n + (byteAt (s.extract p s.size) k - 48) then (0, 0) else if 10 * n + (byteAt (s.extract p s.size) k - 48) = 0 then (0, (k : Int) + 1) else numR (s.extract p s.size) (s.size - p - (k + 1)) (k + 1) (10 * n + (byteAt (s.extract p s.size) k - 48)) := if_pos (by rw [e2]; exact hd)
        rw [e2] at this; exact this
      rw [eo, en]
      by_cases hm : 255 < 10 * n + (byteAt s (p + k) - 48)
      · rw [if_pos hm]
        refine ⟨fun q => ?_, fun _ => Or.inl rfl⟩
        rcases octG_big (s.extract p j) f (k + 1) (10 * n + (byteAt s (p + k) - 48)) (by omega) with h | h
        · omega
        · exfalso
          have h10 : (1 : Int) ≤ 10 ^ f := Int.pow_pos (by omega)
          have h11 : (10 * n + (byteAt s (p + k) - 48)) * 1 ≤ (10 * n + (byteAt s (p + k) - 48)) * 10 ^ f := Int.mul_le_mul_of_nonneg_left h10 (by omega)
          omega
      · rw [if_neg hm, if_neg (by omega)]
        exact ih (k + 1) _ (by omega) (by omega) (by omega)
    · have eo : octG (s.extract p j) (f + 1) k n = -1 := if_neg (by rw [e1]; exact hd)
      have en : numR (s.extract p s.size) (s.size - p - k) k n = (n, (k : Int)) := by
        rw [ef]; exact if_neg (by rw [e2]; exact hd)
      rw [eo, en]
      exact ⟨fun q => by omega, fun _ => Or.inr ⟨k, rfl, hkj⟩⟩
theorem num_piece (s : ByteArray) (p j : Nat) (hpj : p ≤ j) (hj : j ≤ s.size) (hend : j = s.size ∨ byteAt s j = 46) (hno : ∀ k, p ≤ k → k < j → ¬ byteAt s k = 46) :
    (0 ≤ octV (s.extract p j) → numV (s.extract p s.size) = octV (s.extract p j) ∧ numN (s.extract p s.size) = ((j - p : Nat) : Int) ∧ 1 ≤ j - p)
    ∧ (octV (s.extract p j) < 0 → numN (s.extract p s.size) = 0 ∨ ∃ z : Nat, numN (s.extract p s.size) = z ∧ p + z < j) := by
  have hsz : (s.extract p j).size = j - p := size_sub s p j hj
  have hsz2 : (s.extract p s.size).size = s.size - p := size_sub s p s.size (Nat.le_refl _)
  have e2 : ∀ k, byteAt (s.extract p s.size) k = byteAt s (p + k) := fun k => byteAt_ext s p k
  unfold numV numN octV
  rw [hsz, hsz2]
  by_cases hpe : p = j
  · subst hpe
    rw [if_pos (Or.inl (by omega))]
    refine ⟨fun q => by omega, fun _ => Or.inl ?_⟩
    have hb : ¬ (48 ≤ byteAt (s.extract p s.size) 0 ∧ byteAt (s.extract p s.size) 0 ≤ 57) := by
      rw [e2, Nat.add_zero]
      rcases hend with h | h
      · rw [byteAt_end s p (by omega)]; omega
      · rw [h]; omega
    have : numR (s.extract p s.size) (s.size - p) 0 0 = (0, 0) := by
      cases s.size - p with
      | zero => rfl
      | succ f => exact if_neg hb
    rw [this]
  have hlt : p < j := by omega
  have e1 : byteAt (s.extract p j) 0 = byteAt s p := by rw [byteAt_sub s p j 0 hj, if_pos (by omega), Nat.add_zero]
  have e20 : byteAt (s.extract p s.size) 0 = byteAt s p := by rw [e2, Nat.add_zero]
  obtain ⟨f, hf⟩ : ∃ f, s.size - p = f + 1 := ⟨s.size - p - 1, by omega⟩
  obtain ⟨g, hg⟩ : ∃ g, j - p = g + 1 := ⟨j - p - 1, by omega⟩
  by_cases hd : 48 ≤ byteAt s p ∧ byteAt s p ≤ 57
  · have en : numR (s.extract p s.size) (s.size - p) 0 0 = if 255 < 10 * 0 + (byteAt s p - 48) then (0, 0) else if 10 * 0 + (byteAt s p - 48) = 0 then (0, ((0 : Nat) : Int) + 1) else numR (s.extract p s.size) f 1 (10 * 0 + (byteAt s p - 48)) := by
      rw [hf]
      have : numR (s.extract p s.size) (f + 1) 0 0 = if 255 < 10 * 0 + (byteAt (s.extract p s.size) 0 - 48) then (0, 0) else if 10 * 0 + (byteAt (s.extract p s.size) 0 - 48) = 0 then (0, ((0 : Nat) : Int) + 1) else numR (s.extract p s.size) f 1 (10 * 0 + (byteAt (s.extract p s.size) 0 - 48)) := if_pos (by rw [e20]; exact hd)
      rw [e20] at this; exact this
    have eo : octG (s.extract p j) (j - p) 0 0 = octG (s.extract p j) g 1 (10 * 0 + (byteAt s p - 48)) := by
      rw [hg]
      have : octG (s.extract p j) (g + 1) 0 0 = octG (s.extract p j) g 1 (10 * 0 + (byteAt (s.extract p j) 0 - 48)) := if_pos (by rw [e1]; exact hd)
      rw [e1] at this; exact this
    rw [en, eo, if_neg (show ¬ (255 : Int) < 10 * 0 + (byteAt s p - 48) by omega)]
    by_cases hz : byteAt s p = 48
    · rw [if_pos (show 10 * (0 : Int) + (byteAt s p - 48) = 0 by omega)]
      by_cases h1 : 1 < j - p
      · rw [if_pos (Or.inr (Or.inr ⟨h1, by rw [e1]; exact hz⟩))]
        exact ⟨fun q => by omega, fun _ => Or.inr ⟨1, by simp, by omega⟩⟩
      · have hg0 : g = 0 := by omega
        rw [if_neg (by omega), hg0]
        have : octG (s.extract p j) 0 1 (10 * 0 + (byteAt s p - 48)) = 0 := by show 10 * 0 + (byteAt s p - 48) = 0; omega
        rw [this, if_neg (by omega)]
        exact ⟨fun _ => ⟨rfl, by simp; omega, by omega⟩, fun q => by omega⟩
    · rw [if_neg (show ¬ 10 * (0 : Int) + (byteAt s p - 48) = 0 by omega)]
      have hf1 : s.size - p - 1 = f := by omega
      have hon := num_on s p j hj hend g 1 (10 * 0 + (byteAt s p - 48)) (by omega) (by omega) (by omega)
      rw [hf1] at hon
      by_cases h3 : 3 < j - p
      · rw [if_pos (Or.inr (Or.inl h3))]
        refine ⟨fun q => by omega, fun _ => ?_⟩
        apply hon.2
        rcases octG_big (s.extract p j) g 1 (10 * 0 + (byteAt s p - 48)) (by omega) with h | h
        · omega
        · have h10 : (1000 : Int) ≤ 10 ^ g := by
            have : (10 : Int) ^ 3 ≤ 10 ^ g := by
              have : (10 : Nat) ^ 3 ≤ 10 ^ g := Nat.pow_le_pow_right (by omega) (by omega)
              exact_mod_cast this
            omega
          have h11 : 1 * 10 ^ g ≤ (10 * 0 + (byteAt s p - 48)) * 10 ^ g := Int.mul_le_mul_of_nonneg_right (by omega) (Int.pow_nonneg (by omega))
          omega
      · rw [if_neg (by rw [e1]; omega)]
        by_cases hb : 255 < octG (s.extract p j) g 1 (10 * 0 + (byteAt s p - 48))
        · rw [if_pos hb]
          exact ⟨fun q => by omega, fun _ => hon.2 (by omega)⟩
        · rw [if_neg hb]
          refine ⟨fun q => ?_, fun q => hon.2 (by omega)⟩
          have := hon.1 ⟨q, by omega⟩
          rw [this]
          exact ⟨rfl, rfl, by omega⟩
  · have en : numR (s.extract p s.size) (s.size - p) 0 0 = (0, 0) := by
      rw [hf]; exact if_neg (by rw [e20]; exact hd)
    have eo : octG (s.extract p j) (j - p) 0 0 = -1 := by
      rw [hg]; exact if_neg (by rw [e1]; exact hd)
    rw [en, eo]
    refine ⟨fun q => ?_, fun _ => Or.inl rfl⟩
    split at q <;> omega
end Go.Proofs.YtmeaikmmhgmgnaaGreat
namespace Go.Proofs.YtmeaikmmhgmgnaaGreat
open Go.RowKit
set_option linter.unusedSimpArgs false
set_option linter.unusedVariables false

def layP : Nat → BitVec 128 → List ByteArray → BitVec 128
  | _, x, [] => x
  | i, x, q :: r => layP (i + 1) (layW x i 8 (octV q)) r
theorem fourR_succ (s : ByteArray) (f i a : Nat) (x : BitVec 128) : fourR s (f + 1) i a x =
    if numN (s.extract a s.size) = 0 then (0#128, false)
    else if i = 3 then (layW x i 8 (numV (s.extract a s.size)), decide (a + (numN (s.extract a s.size)).toNat = s.size))
    else if a + (numN (s.extract a s.size)).toNat = s.size ∨ byteAt s (a + (numN (s.extract a s.size)).toNat) ≠ 46 then (0#128, false)
    else fourR s f (i + 1) (a + (numN (s.extract a s.size)).toNat + 1) (layW x i 8 (numV (s.extract a s.size))) := rfl

theorem four_pieces (s : ByteArray) : ∀ m i p x, i + m = 4 → 1 ≤ m → p ≤ s.size →
    ((fourR s m i p x).2 = true ↔ ((spl s 46 (s.size - p) p p).length = m ∧ ∀ q ∈ spl s 46 (s.size - p) p p, 0 ≤ octV q)) ∧ ((fourR s m i p x).2 = true → (fourR s m i p x).1 = layP i x (spl s 46 (s.size - p) p p)) := by
  intro m
  induction m with
  | zero => intro i p x _ h; omega
  | succ m ih =>
    intro i p x him _ hp
    obtain ⟨j, hpj, hj, hno, hw⟩ := spl_next s 46 p hp
    have hend : j = s.size ∨ byteAt s j = 46 := by
      rcases hw with ⟨h, -⟩ | ⟨-, h, -⟩
      · exact Or.inl h
      · exact Or.inr h
    have hnp := num_piece s p j hpj hj hend hno
    rw [fourR_succ]
    by_cases ho : 0 ≤ octV (s.extract p j)
    · obtain ⟨h1, h2, h3⟩ := hnp.1 ho
      rw [h1, h2, if_neg (by omega), Int.toNat_natCast, show p + (j - p) = j by omega]
      rcases hw with ⟨rfl, hs⟩ | ⟨hlt, hc, hs⟩
      · rw [hs]
        by_cases h3 : i = 3
        · subst h3
          have hm : m = 0 := by omega
          subst hm
          rw [if_pos rfl]
          refine ⟨⟨fun _ => ⟨rfl, fun q hq => ?_⟩, fun _ => by simp⟩, fun _ => rfl⟩
          have : q = s.extract p s.size := by simpa using hq
          subst this; exact ho
        · rw [if_neg h3, if_pos (Or.inl rfl)]
          refine ⟨⟨fun q => by simp at q, fun q => ?_⟩, fun q => by simp at q⟩
          have : (1 : Nat) = m + 1 := by simpa using q.1
          omega
      · rw [hs]
        by_cases h3 : i = 3
        · subst h3
          have hm : m = 0 := by omega
          subst hm
          rw [if_pos rfl]
          have hl := (spl_len s 46 (s.size - (j + 1)) (j + 1) (j + 1)).1
          refine ⟨⟨fun q => ?_, fun q => ?_⟩, fun q => ?_⟩
          · simp at q; omega
          · have := q.1
            simp only [List.length_cons] at this; omega
          · simp at q; omega
        · rw [if_neg h3, if_neg (by rw [hc]; simp; omega)]
          have hi := ih (i + 1) (j + 1) (layW x i 8 (octV (s.extract p j))) (by omega) (by omega) (by omega)
          refine ⟨⟨fun q => ?_, fun q => ?_⟩, fun q => ?_⟩
          · obtain ⟨a, b⟩ := hi.1.mp q
            refine ⟨by simp [a], fun u hu => ?_⟩
            rcases List.mem_cons.mp hu with rfl | hu
            · exact ho
            · exact b u hu
          · exact hi.1.mpr ⟨by simpa using q.1, fun u hu => q.2 u (List.mem_cons_of_mem _ hu)⟩
          · rw [hi.2 q]; rfl
    · have hbad : ¬ ((spl s 46 (s.size - p) p p).length = m + 1 ∧ ∀ q ∈ spl s 46 (s.size - p) p p, 0 ≤ octV q) := by
        rintro ⟨-, h⟩
        apply ho
        rcases hw with ⟨rfl, hs⟩ | ⟨_, _, hs⟩
        · exact h _ (by rw [hs]; simp)
        · exact h _ (by rw [hs]; simp)
      have hF : (if numN (s.extract p s.size) = 0 then ((0#128, false) : BitVec 128 × Bool)
          else if i = 3 then (layW x i 8 (numV (s.extract p s.size)), decide (p + (numN (s.extract p s.size)).toNat = s.size))
          else if p + (numN (s.extract p s.size)).toNat = s.size ∨ byteAt s (p + (numN (s.extract p s.size)).toNat) ≠ 46 then (0#128, false)
          else fourR s m (i + 1) (p + (numN (s.extract p s.size)).toNat + 1) (layW x i 8 (numV (s.extract p s.size)))).2 = false := by
        rcases hnp.2 (by omega) with h0 | ⟨z, hz, hzj⟩
        · rw [if_pos h0]
        · rw [hz, Int.toNat_natCast]
          split
          · rfl
          · split
            · simp; omega
            · rw [if_pos (Or.inr (hno (p + z) (by omega) hzj))]
      refine ⟨⟨fun q => ?_, fun q => absurd q hbad⟩, fun q => ?_⟩
      · rw [hF] at q; cases q
      · rw [hF] at q; cases q

theorem dotG_all : ∀ (l : List ByteArray) (v : Int), (∀ q ∈ l, 0 ≤ octV q) → dotG l v = some (l.foldl (fun v q => 256 * v + octV q) v) := by
  intro l
  induction l with
  | nil => intro v _; rfl
  | cons q l ih =>
    intro v h
    have : dotG (q :: l) v = dotG l (256 * v + octV q) := if_neg (by have := h q (by simp); omega)
    rw [this, ih _ (fun u hu => h u (List.mem_cons_of_mem _ hu))]; rfl
theorem dotG_not : ∀ (l : List ByteArray) (v : Int), ¬ (∀ q ∈ l, 0 ≤ octV q) → dotG l v = none := by
  intro l
  induction l with
  | nil => intro v h; exact absurd (fun q hq => by cases hq) h
  | cons q l ih =>
    intro v h
    by_cases hq : octV q < 0
    · exact if_pos hq
    · have : dotG (q :: l) v = dotG l (256 * v + octV q) := if_neg hq
      rw [this]
      apply ih
      intro hl
      apply h
      intro u hu
      rcases List.mem_cons.mp hu with rfl | hu
      · omega
      · exact hl u hu
theorem or_sum (A B : Int) (i : Nat) (h0 : 0 ≤ A) (h1 : 0 ≤ B) (h2 : B < 2 ^ i) (h3 : A * 2 ^ i + B < 18446744073709551616) : bits .or .u64 (A * 2 ^ i) B = A * 2 ^ i + B := by
  obtain ⟨a, rfl⟩ := Int.eq_ofNat_of_zero_le h0
  obtain ⟨b, rfl⟩ := Int.eq_ofNat_of_zero_le h1
  have h2' : b < 2 ^ i := by exact_mod_cast h2
  have h3' : a * 2 ^ i + b < 18446744073709551616 := by
    have : ((a * 2 ^ i + b : Nat) : Int) < 18446744073709551616 := by rw [Int.natCast_add, Int.natCast_mul, Int.natCast_pow]; exact h3
    omega
  have e1 : ((a : Int) * 2 ^ i) = ((BitVec.ofNat 64 (a * 2 ^ i)).toNat : Int) := by
    rw [BitVec.toNat_ofNat, Nat.mod_eq_of_lt (by omega), Int.natCast_mul, Int.natCast_pow]; rfl
  have e2 : (b : Int) = ((BitVec.ofNat 64 b).toNat : Int) := by
    rw [BitVec.toNat_ofNat, Nat.mod_eq_of_lt (by omega)]
  have k := Nat.shiftLeft_add_eq_or_of_lt h2' a
  rw [Nat.shiftLeft_eq] at k
  have e3 : bits .or .u64 ((a : Int) * 2 ^ i) (b : Int) = (((BitVec.ofNat 64 (a * 2 ^ i)) ||| (BitVec.ofNat 64 b)).toNat : Int) := by
    rw [e1, e2]; exact bits64or _ _ _ rfl
  rw [e3, BitVec.toNat_or, BitVec.toNat_ofNat, BitVec.toNat_ofNat, Nat.mod_eq_of_lt (by omega), Nat.mod_eq_of_lt (by omega), ← k, Int.natCast_add, Int.natCast_mul, Int.natCast_pow]
  rfl
theorem lay8_h (x : BitVec 128) (i v : Int) (h0 : 0 ≤ i) (h1 : i ≤ 3) (v0 : 0 ≤ v) (v1 : v ≤ 255) : hI (layW x i 8 v) = bits .or .u64 (hI x) (IntKind.u64.wrap (v * 2 ^ (56 - 8 * i).toNat)) := by
  unfold layW
  rw [← or_h, ← shl_h2 (mkW 0 v) (128 - 8 * (i + 1)).toNat (by omega) (by omega), lI_mk 0 v v0 (by omega), show (128 - 8 * (i + 1)).toNat - 64 = (56 - 8 * i).toNat by omega]
theorem lay8_l (x : BitVec 128) (i v : Int) (h0 : 0 ≤ i) (h1 : i ≤ 3) (hx : lI x = 0) : lI (layW x i 8 v) = 0 := by
  unfold layW
  rw [← or_l, shl_l2 _ _ (by omega), hx]; decide
theorem wrapS (v : Int) (h0 : 0 ≤ v) (h1 : v < 18446744073709551616) : IntKind.u64.wrap v = v := by
  simp [IntKind.wrap, IntKind.bits, IntKind.signed]; omega
theorem lay8_step (x : BitVec 128) (i : Nat) (P v : Int) (hi : i ≤ 3) (p0 : 0 ≤ P) (p1 : P < 256 ^ i) (v0 : 0 ≤ v) (v1 : v ≤ 255) (hx : hI x = P * 2 ^ (64 - 8 * i)) : hI (layW x i 8 v) = (256 * P + v) * 2 ^ (56 - 8 * i) := by
  rw [lay8_h x i v (by omega) (by omega) v0 v1, hx]
  rcases (by omega : i = 0 ∨ i = 1 ∨ i = 2 ∨ i = 3) with rfl | rfl | rfl | rfl
  · have : P = 0 := by simp at p1; omega
    subst this
    rw [show ((56 : Int) - 8 * ((0 : Nat) : Int)).toNat = 56 by decide, wrapS _ (by omega) (by omega)]
    have := or_sum 0 (v * 2 ^ 56) 64 (by omega) (by omega) (by omega) (by omega)
    simp only [Int.zero_mul, Int.zero_add, Int.mul_zero] at this ⊢
    exact this
  · rw [show ((56 : Int) - 8 * ((1 : Nat) : Int)).toNat = 48 by decide, wrapS _ (by omega) (by omega)]
    simp only [show 64 - 8 * 1 = 56 by omega, show 56 - 8 * 1 = 48 by omega]
    have hp : P < 256 := by simpa using p1
    rw [or_sum P (v * 2 ^ 48) 56 (by omega) (by omega) (by omega) (by omega)]; omega
  · rw [show ((56 : Int) - 8 * ((2 : Nat) : Int)).toNat = 40 by decide, wrapS _ (by omega) (by omega)]
    simp only [show 64 - 8 * 2 = 48 by omega, show 56 - 8 * 2 = 40 by omega]
    have hp : P < 65536 := by simpa using p1
    rw [or_sum P (v * 2 ^ 40) 48 (by omega) (by omega) (by omega) (by omega)]; omega
  · rw [show ((56 : Int) - 8 * ((3 : Nat) : Int)).toNat = 32 by decide, wrapS _ (by omega) (by omega)]
    simp only [show 64 - 8 * 3 = 40 by omega, show 56 - 8 * 3 = 32 by omega]
    have hp : P < 16777216 := by simpa using p1
    rw [or_sum P (v * 2 ^ 32) 40 (by omega) (by omega) (by omega) (by omega)]; omega
theorem lay_all (a b c d : ByteArray) (ha : 0 ≤ octV a) (hb : 0 ≤ octV b) (hc : 0 ≤ octV c) (hd : 0 ≤ octV d) :
    layP 0 0#128 [a, b, c, d] = mkW (([a, b, c, d].foldl (fun v q => 256 * v + octV q) 0) * 4294967296) 0 := by
  have Ba := octV_bd a
  have Bb := octV_bd b
  have Bc := octV_bd c
  have Bd := octV_bd d
  show layW (layW (layW (layW 0#128 (0 : Nat) 8 (octV a)) (1 : Nat) 8 (octV b)) (2 : Nat) 8 (octV c)) (3 : Nat) 8 (octV d) = mkW ((256 * (256 * (256 * (256 * 0 + octV a) + octV b) + octV c) + octV d) * 4294967296) 0
  generalize octV a = A at *
  generalize octV b = B at *
  generalize octV c = C at *
  generalize octV d = D at *
  have s1 := lay8_step 0#128 0 0 A (by omega) (by omega) (by decide) ha (by omega) (by rw [hI_zero]; rfl)
  have s2 := lay8_step _ 1 (256 * 0 + A) B (by omega) (by omega) (by simp; omega) hb (by omega) s1
  have s3 := lay8_step _ 2 (256 * (256 * 0 + A) + B) C (by omega) (by omega) (by simp; omega) hc (by omega) s2
  have s4 := lay8_step _ 3 (256 * (256 * (256 * 0 + A) + B) + C) D (by omega) (by omega) (by simp; omega) hd (by omega) s3
  apply eq_ints
  · rw [s4, hI_mk _ _ (by omega) (by omega)]; rfl
  · rw [lI_mk _ _ (by omega) (by omega)]
    exact lay8_l _ 3 _ (by omega) (by omega) (lay8_l _ 2 _ (by omega) (by omega) (lay8_l _ 1 _ (by omega) (by omega) (lay8_l _ 0 _ (by omega) (by omega) lI_zero)))
theorem four_eq (s : ByteArray) : fourB s = (dotO s).isSome ∧ ∀ u, dotO s = some u → fourV s = mkW (u * 4294967296) 0 := by
  have h := four_pieces s 4 0 0 0#128 (by omega) (by omega) (by omega)
  rw [Nat.sub_zero] at h
  unfold fourB fourV dotO
  by_cases hg : (spl s 46 s.size 0 0).length = 4 ∧ ∀ q ∈ spl s 46 s.size 0 0, 0 ≤ octV q
  · have hb := h.1.mpr hg
    rw [if_pos hg.1, dotG_all _ _ hg.2, hb]
    refine ⟨rfl, fun u hu => ?_⟩
    injection hu with hu
    rw [h.2 hb, ← hu]
    match hL : spl s 46 s.size 0 0, hg with
    | [a, b, c, d], hg => exact lay_all a b c d (hg.2 a (by simp)) (hg.2 b (by simp)) (hg.2 c (by simp)) (hg.2 d (by simp))
  · have hb : (fourR s 4 0 0 0#128).2 = false := by
      cases hx : (fourR s 4 0 0 0#128).2 with
      | false => rfl
      | true => exact absurd (h.1.mp hx) hg
    rw [hb]
    by_cases hl : (spl s 46 s.size 0 0).length = 4
    · rw [if_pos hl, dotG_not _ _ (fun q => hg ⟨hl, q⟩)]
      exact ⟨rfl, fun u hu => by cases hu⟩
    · rw [if_neg hl]
      exact ⟨rfl, fun u hu => by cases hu⟩
end Go.Proofs.YtmeaikmmhgmgnaaGreat
namespace Go.Proofs.YtmeaikmmhgmgnaaGreat
open Go.RowKit
set_option linter.unusedSimpArgs false
set_option linter.unusedVariables false

def gW (L : List Int) : Nat → BitVec 128
  | 0 => 0#128
  | k + 1 => (gW L k <<< 16) ||| mkW 0 (L.getD k 0)
def rsA (t : ByteArray) : Option (List Int) := match gsO t true with | some m => if m.length = 8 then some m else none | none => none
def rsB (t : ByteArray) (p : Nat) : Option (List Int) := match gsO (t.extract 0 p) false, gsO (t.extract (p + 2) t.size) true with
  | some a, some b => if a.length + b.length ≤ 7 then some (a ++ List.replicate (8 - (a.length + b.length)) 0 ++ b) else none
  | _, _ => none
def rsO (t : ByteArray) : Option (List Int) := if gapV t < 0 then rsA t else rsB t (gapV t).toNat
def outV (o : Option (List Int)) : BitVec 128 := match o with | some L => gW L 8 | none => 0#128
def outE (o : Option (List Int)) : Int := match o with | some L => 0 | none => 12
def rpV (F : Int) (t : ByteArray) : BitVec 128 := if fam F = false ∨ 60 < t.size then 0#128 else if F = 32 then (match dotO t with | some v => mkW (v * 4294967296) 0 | none => 0#128) else outV (rsO t)
def rpE (F : Int) (t : ByteArray) : Int := if fam F = false then 11 else if 60 < t.size then 12 else if F = 32 then (match dotO t with | some v => 0 | none => 12) else outE (rsO t)

theorem grG_bd (t : ByteArray) : ∀ f k n, 0 ≤ n → n < 16 ^ k → k + f ≤ 4 → -1 ≤ grG t f k n ∧ grG t f k n ≤ 65535 := by
  intro f
  induction f with
  | zero =>
    intro k n h0 h1 hk
    have : (16 : Int) ^ k ≤ 65536 := by
      rcases (by omega : k = 0 ∨ k = 1 ∨ k = 2 ∨ k = 3 ∨ k = 4) with rfl | rfl | rfl | rfl | rfl <;> decide
    show -1 ≤ n ∧ n ≤ 65535
    omega
  | succ f ih =>
    intro k n h0 h1 hk
    have hd := hexV_bd (byteAt t k)
    show -1 ≤ (if _ then _ else _) ∧ (if _ then _ else _) ≤ _
    split
    · exact ih _ _ (by omega) (by rw [Int.pow_succ]; omega) (by omega)
    · omega
theorem grV_bd (t : ByteArray) : -1 ≤ grV t ∧ grV t ≤ 65535 := by
  unfold grV
  split
  · omega
  · exact grG_bd t t.size 0 0 (by omega) (by decide) (by omega)
theorem gsG_bd (last : Bool) : ∀ (l : List ByteArray) (acc xs : List Int), (∀ x ∈ acc, 0 ≤ x ∧ x ≤ 65535) → gsG last l acc = some xs → ∀ x ∈ xs, 0 ≤ x ∧ x ≤ 65535 := by
  intro l
  induction l with
  | nil => intro acc xs h e; simp [gsG] at e; subst e; exact h
  | cons q l ih =>
    intro acc xs h e
    unfold gsG at e
    split at e
    · rename_i hc
      injection e with e
      subst e
      intro x hx
      cases hd : dotO q with
      | none => rw [hd] at hc; simp at hc
      | some u =>
        have ub := dotO_bd q u hd
        rw [hd] at hx
        simp at hx
        rcases hx with hx | rfl | rfl
        · exact h x hx
        · omega
        · omega
    · split at e
      · cases e
      · refine ih _ _ ?_ e
        intro x hx
        have gb := grV_bd q
        simp at hx
        rcases hx with hx | rfl
        · exact h x hx
        · omega
theorem gsO_bd (t : ByteArray) (last : Bool) (xs : List Int) (e : gsO t last = some xs) : ∀ x ∈ xs, 0 ≤ x ∧ x ≤ 65535 := by
  unfold gsO at e
  split at e
  · injection e with e; subst e; intro x hx; cases hx
  · exact gsG_bd last _ [] xs (fun x hx => by cases hx) e
theorem own_slice {w : World} {base e size n : Nat} {v : Value} {xs : List Value} (h : w.ownsRow base e size v n xs) : ∃ ao cap, v = .slice ao n cap := by
  rcases h.2 with ⟨h1, h2⟩ | ⟨g, cap, cur, h1, _⟩
  · exact ⟨none, 0, by rw [h1, h2]⟩
  · exact ⟨_, _, h1⟩
theorem row_int {w : World} {base e g n cap : Nat} {l : List Int} (h : w.ownsRow base e 1 (.slice (some ⟨g, 0, none⟩) n cap) n (ints l)) (hn : n = l.length) (k : Nat) (hk : k < n) : w.cell? ⟨g, k, none⟩ = some (.int .i64 (l.getD k 0)) := by
  rw [h.cellAt k (by omega)]
  unfold ints
  rw [List.getElem?_map, List.getElem?_eq_getElem (by omega), List.getD_eq_getElem?_getD, List.getElem?_eq_getElem (by omega)]
  rfl
theorem orLo (y : BitVec 128) (v : Int) (h0 : 0 ≤ v) (h1 : v ≤ 65535) : bits .or .u64 (lI y) v = lI (y ||| mkW 0 v) ∧ hI y = hI (y ||| mkW 0 v) := by
  refine ⟨?_, ?_⟩
  · rw [← or_l, lI_mk 0 v h0 (by omega)]
  · rw [← or_h, hI_mk 0 v (by omega) (by omega)]
    have : bits .or .u64 (hI y) 0 = hI (y ||| 0#128) := by
      rw [← or_h, hI_zero]
    rw [this, BitVec.or_zero]

theorem wrap32 (v : Int) (h0 : 0 ≤ v) (h1 : v < 4294967296) : IntKind.u64.wrap (v * 4294967296) = v * 4294967296 := by
  simp [IntKind.wrap, IntKind.bits, IntKind.signed]; omega

set_option maxHeartbeats 4000000 in
set_option maxRecDepth 20000 in
theorem rparse_fam (F : Int) (t : ByteArray) (w : World) (hf : fam F = false) :
    Calls Tryz.prog 76 #[.int .i64 F, .string t] w fun e w' => e = .returned (.tuple #[.agg #[.int .u64 0, .int .u64 0], .int .i64 11]) ∧ Below w.heap.size w w' := by
  have KI := fun w => isFamily_any F w
  rw [hf] at KI
  go_enter Tryz.func76, Tryz.ntmps76
  go_wp2_with fail
  refine (KI _).mono ?_
  rintro e w1 ⟨rfl, hw1⟩
  rw [hw1]; clear hw1 KI
  go_wp2
  exact bodyPost_ret (v := .tuple #[.agg #[.int .u64 0, .int .u64 0], .int .i64 11]) (by simp [results, Tryz.results76, go_sem, *]) rfl ⟨rfl, bl1 _ _⟩

set_option maxHeartbeats 4000000 in
set_option maxRecDepth 20000 in
theorem rparse_long (F : Int) (t : ByteArray) (w : World) (hf : fam F = true) (hs : t.size ≤ maxLen) (hl : 60 < t.size) :
    Calls Tryz.prog 76 #[.int .i64 F, .string t] w fun e w' => e = .returned (.tuple #[.agg #[.int .u64 0, .int .u64 0], .int .i64 12]) ∧ Below w.heap.size w w' := by
  have KI := fun w => isFamily_any F w
  rw [hf] at KI
  unfold maxLen at hs
  have hl2 : (60 : Int) < (t.size : Int) := by omega
  go_enter Tryz.func76, Tryz.ntmps76
  go_wp2_with fail
  refine (KI _).mono ?_
  rintro e w1 ⟨rfl, hw1⟩
  rw [hw1]; clear hw1 KI
  go_wp2
  exact bodyPost_ret (v := .tuple #[.agg #[.int .u64 0, .int .u64 0], .int .i64 12]) (by simp [results, Tryz.results76, go_sem, *]) rfl ⟨rfl, bl1 _ _⟩

set_option maxHeartbeats 4000000 in
set_option maxRecDepth 20000 in
theorem rparse_four (t : ByteArray) (w : World) (hl : t.size ≤ 60) :
    Calls Tryz.prog 76 #[.int .i64 32, .string t] w fun e w' => e = .returned (.tuple #[.agg #[.int .u64 (hI (match dotO t with | some v => mkW (v * 4294967296) 0 | none => 0#128)), .int .u64 (lI (match dotO t with | some v => mkW (v * 4294967296) 0 | none => 0#128))], .int .i64 (match dotO t with | some v => 0 | none => 12)]) ∧ Below w.heap.size w w' := by
  have KI := fun w => isFamily_any 32 w
  have hl2 : ¬ (60 : Int) < (t.size : Int) := by omega
  have KD := fun w => dotted_any t w (by omega)
  cases hd : dotO t with
  | none =>
    rw [hd] at KD
    simp only [hI_zero, lI_zero]
    go_enter Tryz.func76, Tryz.ntmps76
    go_wp2_with fail
    refine (KI _).mono ?_
    rintro e w1 ⟨rfl, hw1⟩
    rw [hw1]; clear hw1 KI
    go_wp2_with fail
    refine (KD _).mono ?_
    rintro e w2 ⟨rfl, hb2⟩
    have hZ := (at_new w w.heap.size 0#128 35 rfl).below hb2
    have kB := keepb hb2 (bl1 w _)
    obtain ⟨z0, z1, z2, z3, z4⟩ := hZ
    clear hb2 KD
    go_wp2
    exact bodyPost_ret (v := .tuple #[.agg #[.int .u64 0, .int .u64 0], .int .i64 12]) (by simp [results, Tryz.results76, go_sem, *]) rfl ⟨rfl, bset2 kB (Nat.le_refl _) _ _⟩
  | some v =>
    obtain ⟨v0, v1⟩ := dotO_bd t v hd
    have KD2 : ∀ w, Calls Tryz.prog 94 #[.string t] w fun e w' => e = .returned (.tuple #[.int .u64 v, .bool true]) ∧ Below w.heap.size w w' := by
      rw [hd] at KD; exact KD
    have hwr := wrap32 v v0 v1
    simp only [hI_mk (v * 4294967296) 0 (by omega) (by omega), lI_mk (v * 4294967296) 0 (by omega) (by omega)]
    clear KD hd
    go_enter Tryz.func76, Tryz.ntmps76
    go_wp2_with fail
    refine (KI _).mono ?_
    rintro e w1 ⟨rfl, hw1⟩
    rw [hw1]; clear hw1 KI
    go_wp2_with fail
    refine (KD2 _).mono ?_
    rintro e w2 ⟨rfl, hb2⟩
    have hZ := (at_new w w.heap.size 0#128 35 rfl).below hb2
    have kB := keepb hb2 (bl1 w _)
    obtain ⟨z0, z1, z2, z3, z4⟩ := hZ
    clear hb2 KD2
    go_wp2
    exact bodyPost_ret (v := .tuple #[.agg #[.int .u64 (v * 4294967296), .int .u64 0], .int .i64 0]) (by simp [results, Tryz.results76, go_sem, *]) rfl ⟨rfl, bset2 kB (Nat.le_refl _) _ _⟩
end Go.Proofs.YtmeaikmmhgmgnaaGreat
namespace Go.Proofs.YtmeaikmmhgmgnaaGreat
open Go.RowKit
set_option linter.unusedSimpArgs false
set_option linter.unusedVariables false

theorem ext_ext (s : ByteArray) (a p j : Nat) (h : a + j ≤ s.size) : (s.extract a s.size).extract p j = s.extract (a + p) (a + j) := by
  rw [Lib.extract_eq, Lib.extract_to_end, Lib.extract_eq, List.drop_drop]
  congr 3
  omega
theorem ext_end (s : ByteArray) (a p : Nat) (h : a ≤ s.size) : (s.extract a s.size).extract p (s.extract a s.size).size = s.extract (a + p) s.size := by
  rw [size_sub s a s.size (Nat.le_refl _), ext_ext s a p (s.size - a) (by omega), show a + (s.size - a) = s.size by omega]
theorem ext_all (s : ByteArray) : s.extract 0 s.size = s := by
  rw [Lib.extract_eq, List.drop_zero, List.take_of_length_le (by rw [← Lib.size_eq]; omega)]

theorem spl_shift (t : ByteArray) (c : Int) (a : Nat) (ha : a ≤ t.size) : ∀ f p i, i + f = t.size - a → spl t c f (a + p) (a + i) = spl (t.extract a t.size) c f p i := by
  intro f
  induction f with
  | zero =>
    intro p i hi
    show [t.extract (a + p) t.size] = [(t.extract a t.size).extract p (t.extract a t.size).size]
    rw [ext_end t a p ha]
  | succ f ih =>
    intro p i hi
    show (if byteAt t (a + i) = c then t.extract (a + p) (a + i) :: spl t c f (a + i + 1) (a + i + 1) else spl t c f (a + p) (a + i + 1)) = (if byteAt (t.extract a t.size) i = c then (t.extract a t.size).extract p i :: spl (t.extract a t.size) c f (i + 1) (i + 1) else spl (t.extract a t.size) c f p (i + 1))
    rw [byteAt_ext, ext_ext t a p i (by omega), Nat.add_assoc, ih (i + 1) (i + 1) (by omega), ih p (i + 1) (by omega)]
theorem spl_tail (t : ByteArray) (c : Int) (a : Nat) (ha : a ≤ t.size) : spl t c (t.size - a) a a = spl (t.extract a t.size) c (t.extract a t.size).size 0 0 := by
  have := spl_shift t c a ha (t.size - a) 0 0 (by omega)
  rw [Nat.add_zero] at this
  rw [this, size_sub t a t.size (Nat.le_refl _)]
theorem spl_first (t : ByteArray) (c : Int) :
    ∃ j, j ≤ t.size ∧ (∀ k, k < j → ¬ byteAt t k = c) ∧ ((j = t.size ∧ spl t c t.size 0 0 = [t]) ∨ (j < t.size ∧ byteAt t j = c ∧ spl t c t.size 0 0 = t.extract 0 j :: spl (t.extract (j + 1) t.size) c (t.extract (j + 1) t.size).size 0 0)) := by
  obtain ⟨j, -, h2, h3, h4⟩ := spl_next t c 0 (by omega)
  rw [Nat.sub_zero] at h4
  refine ⟨j, h2, fun k hk => h3 k (by omega) hk, ?_⟩
  rcases h4 with ⟨a, b⟩ | ⟨a, b, d⟩
  · left; rw [ext_all] at b; exact ⟨a, b⟩
  · right; rw [spl_tail t c (j + 1) (by omega)] at d; exact ⟨a, b, d⟩

theorem gsG_acc (last : Bool) : ∀ (l : List ByteArray) (acc : List Int), gsG last l acc = (gsG last l []).map (acc ++ ·) := by
  intro l
  induction l with
  | nil => intro acc; simp [gsG]
  | cons q l ih =>
    intro acc
    unfold gsG
    split
    · simp
    · split
      · rfl
      · rw [ih (acc ++ [grV q]), ih ([] ++ [grV q])]
        cases gsG last l [] <;> simp
def gsP (last : Bool) (T : ByteArray) : Option (List Int) := gsG last (spl T 58 T.size 0 0) []
theorem gsP_one (last : Bool) (T : ByteArray) (h : spl T 58 T.size 0 0 = [T]) : gsP last T = if last = true ∧ (dotO T).isSome = true then some [(dotO T).getD 0 / 65536, (dotO T).getD 0 % 65536] else if grV T < 0 then none else some [grV T] := by
  unfold gsP
  rw [h]
  show (if last = true ∧ ([] : List ByteArray) = [] ∧ (dotO T).isSome = true then some ([] ++ [(dotO T).getD 0 / 65536, (dotO T).getD 0 % 65536]) else if grV T < 0 then none else gsG last [] ([] ++ [grV T])) = _
  simp [gsG]
theorem gsP_more (last : Bool) (T : ByteArray) (j : Nat) (h : spl T 58 T.size 0 0 = T.extract 0 j :: spl (T.extract (j + 1) T.size) 58 (T.extract (j + 1) T.size).size 0 0) :
    gsP last T = if grV (T.extract 0 j) < 0 then none else (gsP last (T.extract (j + 1) T.size)).map (grV (T.extract 0 j) :: ·) := by
  unfold gsP
  rw [h]
  have hl := (spl_len (T.extract (j + 1) T.size) 58 (T.extract (j + 1) T.size).size 0 0).1
  generalize spl (T.extract (j + 1) T.size) 58 (T.extract (j + 1) T.size).size 0 0 = l at *
  have hne : ¬ l = [] := fun e => by rw [e] at hl; simp at hl
  show (if last = true ∧ l = [] ∧ (dotO (T.extract 0 j)).isSome = true then _ else if grV (T.extract 0 j) < 0 then none else gsG last l ([] ++ [grV (T.extract 0 j)])) = _
  rw [if_neg (fun q => hne q.2.1)]
  split
  · rfl
  · rw [gsG_acc last l ([] ++ [grV (T.extract 0 j)])]
    rfl

theorem grp_on (T : ByteArray) (j : Nat) (hj : j ≤ T.size) (hend : j = T.size ∨ hexB (byteAt T j) = false) : ∀ f k v, k + f = 4 → k ≤ j → 0 ≤ v →
    ((j ≤ 4 ∧ 0 ≤ grG (T.extract 0 j) (j - k) k v → grpR T f k v = (grG (T.extract 0 j) (j - k) k v, (j : Int))) ∧ (¬ (j ≤ 4 ∧ 0 ≤ grG (T.extract 0 j) (j - k) k v) → ∃ z : Nat, (grpR T f k v).2 = z ∧ z < j)) := by
  intro f
  induction f with
  | zero =>
    intro k v hk hkj hv
    have e : grpR T 0 k v = (v, (k : Int)) := rfl
    rw [e]
    by_cases h : j = k
    · subst h
      rw [Nat.sub_self]
      exact ⟨fun _ => rfl, fun q => absurd ⟨by omega, hv⟩ q⟩
    · exact ⟨fun q => by omega, fun _ => ⟨k, rfl, by omega⟩⟩
  | succ f ih =>
    intro k v hk hkj hv
    by_cases h : j = k
    · subst h
      rw [Nat.sub_self]
      have hb : ¬ (j < T.size ∧ hexB (byteAt T j) = true) := by
        rcases hend with q | q
        · omega
        · rw [q]; simp
      have e : grpR T (f + 1) j v = (v, (j : Int)) := if_neg hb
      rw [e]
      exact ⟨fun _ => rfl, fun q => absurd ⟨by omega, hv⟩ q⟩
    · have hlt : k < j := by omega
      have e1 : byteAt (T.extract 0 j) k = byteAt T k := by rw [byteAt_sub T 0 j k hj, if_pos (by omega), Nat.zero_add]
      have ef : j - k = (j - (k + 1)) + 1 := by omega
      by_cases hx : hexB (byteAt T k) = true
      · have e2 : grpR T (f + 1) k v = grpR T f (k + 1) (16 * v + hexV (byteAt T k)) := if_pos ⟨by omega, hx⟩
        have e3 : grG (T.extract 0 j) (j - k) k v = grG (T.extract 0 j) (j - (k + 1)) (k + 1) (16 * v + hexV (byteAt T k)) := by
          rw [ef]
          have : grG (T.extract 0 j) ((j - (k + 1)) + 1) k v = grG (T.extract 0 j) (j - (k + 1)) (k + 1) (16 * v + hexV (byteAt (T.extract 0 j) k)) := if_pos (by rw [e1]; exact hx)
          rw [e1] at this; exact this
        rw [e2, e3]
        have := hexV_bd (byteAt T k)
        exact ih (k + 1) _ (by omega) (by omega) (by omega)
      · have e2 : grpR T (f + 1) k v = (v, (k : Int)) := if_neg (by simp [hx])
        have e3 : grG (T.extract 0 j) (j - k) k v = -1 := by rw [ef]; exact if_neg (by rw [e1]; exact hx)
        rw [e2, e3]
        exact ⟨fun q => by omega, fun _ => ⟨k, rfl, hlt⟩⟩
theorem grp_piece (T : ByteArray) (j : Nat) (hj : j ≤ T.size) (hend : j = T.size ∨ hexB (byteAt T j) = false) :
    (0 ≤ grV (T.extract 0 j) → grpV T = grV (T.extract 0 j) ∧ grpN T = (j : Int) ∧ 1 ≤ j) ∧ (grV (T.extract 0 j) < 0 → ∃ z : Nat, grpN T = z ∧ (z < j ∨ z = 0)) := by
  have h := grp_on T j hj hend 4 0 0 (by omega) (by omega) (by omega)
  rw [Nat.sub_zero] at h
  unfold grpV grpN grV
  rw [size_sub T 0 j hj, Nat.sub_zero]
  by_cases h0 : j < 1 ∨ 4 < j
  · rw [if_pos h0]
    refine ⟨fun q => by omega, fun _ => ?_⟩
    by_cases hz : j = 0
    · have hb := grpR_bd T 4 0 0 (by omega) (by omega) (by omega) (by decide)
      subst hz
      have := h.1 ⟨by omega, by show (0 : Int) ≤ 0; omega⟩
      rw [this]
      exact ⟨0, rfl, Or.inr rfl⟩
    · obtain ⟨z, h1, h2⟩ := h.2 (by omega)
      exact ⟨z, h1, Or.inl h2⟩
  · rw [if_neg h0]
    refine ⟨fun q => ?_, fun q => ?_⟩
    · rw [h.1 ⟨by omega, q⟩]
      exact ⟨rfl, rfl, by omega⟩
    · obtain ⟨z, h1, h2⟩ := h.2 (by omega)
      exact ⟨z, h1, Or.inl h2⟩

theorem oct_hexG (q : ByteArray) : ∀ f k n m, 0 ≤ octG q f k n → 0 ≤ m → 0 ≤ grG q f k m := by
  intro f
  induction f with
  | zero => intro k n m _ h; exact h
  | succ f ih =>
    intro k n m h hm
    by_cases hd : 48 ≤ byteAt q k ∧ byteAt q k ≤ 57
    · have e : octG q (f + 1) k n = octG q f (k + 1) (10 * n + (byteAt q k - 48)) := if_pos hd
      rw [e] at h
      have hx : hexB (byteAt q k) = true := by unfold hexB; simp [hd.1, hd.2]
      have e2 : grG q (f + 1) k m = grG q f (k + 1) (16 * m + hexV (byteAt q k)) := if_pos hx
      rw [e2]
      have := hexV_bd (byteAt q k)
      exact ih _ _ _ h (by omega)
    · have e : octG q (f + 1) k n = -1 := if_neg hd
      rw [e] at h; omega
theorem oct_digG (q : ByteArray) : ∀ f k n, 0 ≤ octG q f k n → ∀ i, k ≤ i → i < k + f → 48 ≤ byteAt q i ∧ byteAt q i ≤ 57 := by
  intro f
  induction f with
  | zero => intro k n _ i h1 h2; omega
  | succ f ih =>
    intro k n h i h1 h2
    by_cases hd : 48 ≤ byteAt q k ∧ byteAt q k ≤ 57
    · have e : octG q (f + 1) k n = octG q f (k + 1) (10 * n + (byteAt q k - 48)) := if_pos hd
      rw [e] at h
      by_cases hi : i = k
      · subst hi; exact hd
      · exact ih _ _ h i (by omega) (by omega)
    · have e : octG q (f + 1) k n = -1 := if_neg hd
      rw [e] at h; omega
theorem oct_facts (q : ByteArray) (h : 0 ≤ octV q) : 1 ≤ q.size ∧ q.size ≤ 3 ∧ 0 ≤ octG q q.size 0 0 := by
  unfold octV at h
  split at h
  · omega
  · split at h
    · omega
    · omega
theorem oct_hex (q : ByteArray) (h : 0 ≤ octV q) : 0 ≤ grV q := by
  obtain ⟨h1, h2, h3⟩ := oct_facts q h
  unfold grV
  rw [if_neg (by omega)]
  exact oct_hexG q _ _ _ _ h3 (by omega)
theorem oct_dig (q : ByteArray) (h : 0 ≤ octV q) : ∀ i, i < q.size → 48 ≤ byteAt q i ∧ byteAt q i ≤ 57 := by
  obtain ⟨h1, h2, h3⟩ := oct_facts q h
  intro i hi
  exact oct_digG q _ _ _ h3 i (by omega) (by omega)
theorem dotO_pieces (T : ByteArray) (h : (dotO T).isSome = true) : (spl T 46 T.size 0 0).length = 4 ∧ ∀ q ∈ spl T 46 T.size 0 0, 0 ≤ octV q := by
  unfold dotO at h
  split at h
  · rename_i hl
    refine ⟨hl, ?_⟩
    apply Classical.byContradiction
    intro hn
    rw [dotG_not _ _ hn] at h; cases h
  · cases h
theorem no_colon (T : ByteArray) : ∀ n p, p ≤ T.size → T.size - p ≤ n → (∀ q ∈ spl T 46 (T.size - p) p p, 0 ≤ octV q) → ∀ k, p ≤ k → k < T.size → ¬ byteAt T k = 58 := by
  intro n
  induction n with
  | zero => intro p hp hn _ k h1 h2; omega
  | succ n ih =>
    intro p hp hn hall k h1 h2
    obtain ⟨j, hpj, hj, hno, hw⟩ := spl_next T 46 p hp
    have hpiece : 0 ≤ octV (T.extract p j) := by
      rcases hw with ⟨rfl, hs⟩ | ⟨_, _, hs⟩
      · exact hall _ (by rw [hs]; simp)
      · exact hall _ (by rw [hs]; simp)
    by_cases hkj : k < j
    · have := oct_dig _ hpiece (k - p) (by rw [size_sub T p j hj]; omega)
      rw [byteAt_sub T p j _ hj, if_pos (by omega), show p + (k - p) = k by omega] at this
      omega
    · rcases hw with ⟨rfl, hs⟩ | ⟨hlt, hc, hs⟩
      · omega
      · by_cases hkj2 : k = j
        · subst hkj2; omega
        · exact ih (j + 1) (by omega) (by omega) (fun q hq => hall q (by rw [hs]; exact List.mem_cons_of_mem _ hq)) k (by omega) h2
theorem dot_first (T : ByteArray) (h : (dotO T).isSome = true) : byteAt T (grpN T).toNat = 46 := by
  obtain ⟨hl, hall⟩ := dotO_pieces T h
  obtain ⟨j, hj, hno, hw⟩ := spl_first T 46
  rcases hw with ⟨rfl, hs⟩ | ⟨hlt, hc, hs⟩
  · rw [hs] at hl; simp at hl
  · have ho := hall (T.extract 0 j) (by rw [hs]; simp)
    have hg := oct_hex _ ho
    obtain ⟨-, h2, -⟩ := (grp_piece T j hj (Or.inr (by rw [hc]; decide))).1 hg
    rw [h2, Int.toNat_natCast]; exact hc
theorem dot_no_colon (T : ByteArray) (h : (dotO T).isSome = true) (k : Nat) (hk : k < T.size) : ¬ byteAt T k = 58 := by
  obtain ⟨hl, hall⟩ := dotO_pieces T h
  exact no_colon T T.size 0 (by omega) (by omega) (by rw [Nat.sub_zero]; exact hall) k (by omega) hk
end Go.Proofs.YtmeaikmmhgmgnaaGreat
