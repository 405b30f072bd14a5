/-
  Plain facts: four numbers with points between, as the program reads them and as the reference does.
-/
import Derived.Test.YtpchhfhdepkbcaaDoorRefV
namespace Go.Proofs.YtpchhfhdepkbcaaDoor
open Go.RowKit
set_option linter.unusedSimpArgs false
set_option linter.unusedVariables false

theorem byteAt_sub (s : ByteArray) (a b k : Nat) (hb : b ≤ s.size) : byteAt (s.extract a b) k = if a + k < b then byteAt s (a + k) else 0 := by
  unfold byteAt
  by_cases h : a + k < b
  · have h2 : k < (s.extract a b).size := by simp; omega
    rw [if_pos h, dif_pos (show a + k < s.size by omega), dif_pos h2]
    congr 2
    rw [ByteArray.getElem_extract]
  · have h2 : ¬ k < (s.extract a b).size := by simp; omega
    rw [if_neg h, dif_neg h2]
theorem size_sub (s : ByteArray) (a b : Nat) (hb : b ≤ s.size) : (s.extract a b).size = b - a := by simp; omega
theorem byteAt_end (s : ByteArray) (k : Nat) (h : s.size ≤ k) : byteAt s k = 0 := by unfold byteAt; rw [dif_neg (by omega)]

theorem spl_scan (t : ByteArray) (c : Int) (p : Nat) : ∀ f i, p ≤ i → i + f = t.size → (∀ k, p ≤ k → k < i → ¬ byteAt t k = c) →
    ∃ j, i ≤ j ∧ j ≤ t.size ∧ (∀ k, p ≤ k → k < j → ¬ byteAt t k = c) ∧ ((j = t.size ∧ spl t c f p i = [t.extract p t.size]) ∨ (j < t.size ∧ byteAt t j = c ∧ spl t c f p i = t.extract p j :: spl t c (t.size - (j + 1)) (j + 1) (j + 1))) := by
  intro f
  induction f with
  | zero => intro i hp hi hn; exact ⟨i, Nat.le_refl _, by omega, hn, Or.inl ⟨by omega, rfl⟩⟩
  | succ f ih =>
    intro i hp hi hn
    by_cases hc : byteAt t i = c
    · refine ⟨i, Nat.le_refl _, by omega, hn, Or.inr ⟨by omega, hc, ?_⟩⟩
      have e : t.size - (i + 1) = f := by omega
      rw [e]; exact if_pos hc
    · obtain ⟨j, h1, h2, h3, h4⟩ := ih (i + 1) (by omega) (by omega) (fun k hk1 hk2 => by
        by_cases q : k = i
        · rw [q]; exact hc
        · exact hn k hk1 (by omega))
      have e : spl t c (f + 1) p i = spl t c f p (i + 1) := if_neg hc
      rw [e]
      exact ⟨j, by omega, h2, h3, h4⟩
/-- The first piece from p on, and the others. -/
theorem spl_next (t : ByteArray) (c : Int) (p : Nat) (hp : p ≤ t.size) :
    ∃ j, p ≤ j ∧ j ≤ t.size ∧ (∀ k, p ≤ k → k < j → ¬ byteAt t k = c) ∧ ((j = t.size ∧ spl t c (t.size - p) p p = [t.extract p t.size]) ∨ (j < t.size ∧ byteAt t j = c ∧ spl t c (t.size - p) p p = t.extract p j :: spl t c (t.size - (j + 1)) (j + 1) (j + 1))) :=
  spl_scan t c p (t.size - p) p (Nat.le_refl _) (by omega) (fun k h1 h2 => by omega)

theorem octG_big (q : ByteArray) : ∀ f k n, 1 ≤ n → octG q f k n = -1 ∨ n * 10 ^ f ≤ octG q f k n := by
  intro f
  induction f with
  | zero => intro k n h; right; show n * 10 ^ 0 ≤ n; simp
  | succ f ih =>
    intro k n h
    by_cases hd : 48 ≤ byteAt q k ∧ byteAt q k ≤ 57
    · have e : octG q (f + 1) k n = octG q f (k + 1) (10 * n + (byteAt q k - 48)) := if_pos hd
      rw [e]
      rcases ih (k + 1) (10 * n + (byteAt q k - 48)) (by omega) with h1 | h1
      · exact Or.inl h1
      · right
        have h2 : (10 * n) * 10 ^ f ≤ (10 * n + (byteAt q k - 48)) * 10 ^ f := Int.mul_le_mul_of_nonneg_right (by omega) (Int.pow_nonneg (by omega))
        have h3 : n * 10 ^ (f + 1) = (10 * n) * 10 ^ f := by rw [Int.pow_succ, Int.mul_comm (10 ^ f) 10, ← Int.mul_assoc, Int.mul_comm n 10]
        omega
    · left; exact if_neg hd

/-- Reading on within a piece that ends at j. -/
theorem num_on (s : ByteArray) (p j : Nat) (hj : j ≤ s.size) (hend : j = s.size ∨ byteAt s j = 46) : ∀ f k n, p + k + f = j → 1 ≤ n → n ≤ 255 →
    ((0 ≤ octG (s.extract p j) f k n ∧ octG (s.extract p j) f k n ≤ 255 → numR (s.extract p s.size) (s.size - p - k) k n = (octG (s.extract p j) f k n, ((j - p : Nat) : Int)))
    ∧ (¬ (0 ≤ octG (s.extract p j) f k n ∧ octG (s.extract p j) f k n ≤ 255) → (numR (s.extract p s.size) (s.size - p - k) k n).2 = 0 ∨ ∃ z : Nat, (numR (s.extract p s.size) (s.size - p - k) k n).2 = z ∧ p + z < j)) := by
  intro f
  induction f with
  | zero =>
    intro k n hk h0 h1
    have e : octG (s.extract p j) 0 k n = n := rfl
    rw [e]
    refine ⟨fun _ => ?_, fun q => absurd ⟨by omega, h1⟩ q⟩
    have hb : ¬ (48 ≤ byteAt (s.extract p s.size) k ∧ byteAt (s.extract p s.size) k ≤ 57) := by
      rw [byteAt_ext]
      rcases hend with h | h
      · rw [byteAt_end s (p + k) (by omega)]; omega
      · rw [show p + k = j by omega, h]; omega
    have : numR (s.extract p s.size) (s.size - p - k) k n = (n, (k : Int)) := by
      cases s.size - p - k with
      | zero => rfl
      | succ f => exact if_neg hb
    rw [this, show j - p = k by omega]
  | succ f ih =>
    intro k n hk h0 h1
    have hkj : p + k < j := by omega
    have e1 : byteAt (s.extract p j) k = byteAt s (p + k) := by rw [byteAt_sub s p j k hj, if_pos hkj]
    have e2 : byteAt (s.extract p s.size) k = byteAt s (p + k) := byteAt_ext s p k
    have ef : s.size - p - k = (s.size - p - (k + 1)) + 1 := by omega
    by_cases hd : 48 ≤ byteAt s (p + k) ∧ byteAt s (p + k) ≤ 57
    · have eo : octG (s.extract p j) (f + 1) k n = octG (s.extract p j) f (k + 1) (10 * n + (byteAt s (p + k) - 48)) := by
        have : octG (s.extract p j) (f + 1) k n = octG (s.extract p j) f (k + 1) (10 * n + (byteAt (s.extract p j) k - 48)) := if_pos (by rw [e1]; exact hd)
        rw [e1] at this; exact this
      have en : numR (s.extract p s.size) (s.size - p - k) k n = if 255 < 10 * n + (byteAt s (p + k) - 48) then (0, 0) else if 10 * n + (byteAt s (p + k) - 48) = 0 then (0, (k : Int) + 1) else numR (s.extract p s.size) (s.size - p - (k + 1)) (k + 1) (10 * n + (byteAt s (p + k) - 48)) := by
        rw [ef]
        have : numR (s.extract p s.size) ((s.size - p - (k + 1)) + 1) k n = if 255 < 10 * n + (byteAt (s.extract p s.size) k - 48) then (0, 0) else if 10 * n + (byteAt (s.extract p s.size) k - 48) = 0 then (0, (k : Int) + 1) else numR (s.extract p s.size) (s.size - p - (k + 1)) (k + 1) (10 * n + (byteAt (s.extract p s.size) k - 48)) := if_pos (by rw [e2]; exact hd)
        rw [e2] at this; exact this
      rw [eo, en]
      by_cases hm : 255 < 10 * n + (byteAt s (p + k) - 48)
      · rw [if_pos hm]
        refine ⟨fun q => ?_, fun _ => Or.inl rfl⟩
        rcases octG_big (s.extract p j) f (k + 1) (10 * n + (byteAt s (p + k) - 48)) (by omega) with h | h
        · omega
        · exfalso
          have h10 : (1 : Int) ≤ 10 ^ f := Int.pow_pos (by omega)
          have h11 : (10 * n + (byteAt s (p + k) - 48)) * 1 ≤ (10 * n + (byteAt s (p + k) - 48)) * 10 ^ f := Int.mul_le_mul_of_nonneg_left h10 (by omega)
          omega
      · rw [if_neg hm, if_neg (by omega)]
        exact ih (k + 1) _ (by omega) (by omega) (by omega)
    · have eo : octG (s.extract p j) (f + 1) k n = -1 := if_neg (by rw [e1]; exact hd)
      have en : numR (s.extract p s.size) (s.size - p - k) k n = (n, (k : Int)) := by
        rw [ef]; exact if_neg (by rw [e2]; exact hd)
      rw [eo, en]
      exact ⟨fun q => by omega, fun _ => Or.inr ⟨k, rfl, hkj⟩⟩
/-- What number tells at p, of the piece from p up to j. -/
theorem num_piece (s : ByteArray) (p j : Nat) (hpj : p ≤ j) (hj : j ≤ s.size) (hend : j = s.size ∨ byteAt s j = 46) (hno : ∀ k, p ≤ k → k < j → ¬ byteAt s k = 46) :
    (0 ≤ octV (s.extract p j) → numV (s.extract p s.size) = octV (s.extract p j) ∧ numN (s.extract p s.size) = ((j - p : Nat) : Int) ∧ 1 ≤ j - p)
    ∧ (octV (s.extract p j) < 0 → numN (s.extract p s.size) = 0 ∨ ∃ z : Nat, numN (s.extract p s.size) = z ∧ p + z < j) := by
  have hsz : (s.extract p j).size = j - p := size_sub s p j hj
  have hsz2 : (s.extract p s.size).size = s.size - p := size_sub s p s.size (Nat.le_refl _)
  have e2 : ∀ k, byteAt (s.extract p s.size) k = byteAt s (p + k) := fun k => byteAt_ext s p k
  unfold numV numN octV
  rw [hsz, hsz2]
  by_cases hpe : p = j
  · subst hpe
    rw [if_pos (Or.inl (by omega))]
    refine ⟨fun q => by omega, fun _ => Or.inl ?_⟩
    have hb : ¬ (48 ≤ byteAt (s.extract p s.size) 0 ∧ byteAt (s.extract p s.size) 0 ≤ 57) := by
      rw [e2, Nat.add_zero]
      rcases hend with h | h
      · rw [byteAt_end s p (by omega)]; omega
      · rw [h]; omega
    have : numR (s.extract p s.size) (s.size - p) 0 0 = (0, 0) := by
      cases s.size - p with
      | zero => rfl
      | succ f => exact if_neg hb
    rw [this]
  have hlt : p < j := by omega
  have e1 : byteAt (s.extract p j) 0 = byteAt s p := by rw [byteAt_sub s p j 0 hj, if_pos (by omega), Nat.add_zero]
  have e20 : byteAt (s.extract p s.size) 0 = byteAt s p := by rw [e2, Nat.add_zero]
  obtain ⟨f, hf⟩ : ∃ f, s.size - p = f + 1 := ⟨s.size - p - 1, by omega⟩
  obtain ⟨g, hg⟩ : ∃ g, j - p = g + 1 := ⟨j - p - 1, by omega⟩
  by_cases hd : 48 ≤ byteAt s p ∧ byteAt s p ≤ 57
  · have en : numR (s.extract p s.size) (s.size - p) 0 0 = if 255 < 10 * 0 + (byteAt s p - 48) then (0, 0) else if 10 * 0 + (byteAt s p - 48) = 0 then (0, ((0 : Nat) : Int) + 1) else numR (s.extract p s.size) f 1 (10 * 0 + (byteAt s p - 48)) := by
      rw [hf]
      have : numR (s.extract p s.size) (f + 1) 0 0 = if 255 < 10 * 0 + (byteAt (s.extract p s.size) 0 - 48) then (0, 0) else if 10 * 0 + (byteAt (s.extract p s.size) 0 - 48) = 0 then (0, ((0 : Nat) : Int) + 1) else numR (s.extract p s.size) f 1 (10 * 0 + (byteAt (s.extract p s.size) 0 - 48)) := if_pos (by rw [e20]; exact hd)
      rw [e20] at this; exact this
    have eo : octG (s.extract p j) (j - p) 0 0 = octG (s.extract p j) g 1 (10 * 0 + (byteAt s p - 48)) := by
      rw [hg]
      have : octG (s.extract p j) (g + 1) 0 0 = octG (s.extract p j) g 1 (10 * 0 + (byteAt (s.extract p j) 0 - 48)) := if_pos (by rw [e1]; exact hd)
      rw [e1] at this; exact this
    rw [en, eo, if_neg (show ¬ (255 : Int) < 10 * 0 + (byteAt s p - 48) by omega)]
    by_cases hz : byteAt s p = 48
    · rw [if_pos (show 10 * (0 : Int) + (byteAt s p - 48) = 0 by omega)]
      by_cases h1 : 1 < j - p
      · rw [if_pos (Or.inr (Or.inr ⟨h1, by rw [e1]; exact hz⟩))]
        exact ⟨fun q => by omega, fun _ => Or.inr ⟨1, by simp, by omega⟩⟩
      · have hg0 : g = 0 := by omega
        rw [if_neg (by omega), hg0]
        have : octG (s.extract p j) 0 1 (10 * 0 + (byteAt s p - 48)) = 0 := by show 10 * 0 + (byteAt s p - 48) = 0; omega
        rw [this, if_neg (by omega)]
        exact ⟨fun _ => ⟨rfl, by simp; omega, by omega⟩, fun q => by omega⟩
    · rw [if_neg (show ¬ 10 * (0 : Int) + (byteAt s p - 48) = 0 by omega)]
      have hf1 : s.size - p - 1 = f := by omega
      have hon := num_on s p j hj hend g 1 (10 * 0 + (byteAt s p - 48)) (by omega) (by omega) (by omega)
      rw [hf1] at hon
      by_cases h3 : 3 < j - p
      · rw [if_pos (Or.inr (Or.inl h3))]
        refine ⟨fun q => by omega, fun _ => ?_⟩
        apply hon.2
        rcases octG_big (s.extract p j) g 1 (10 * 0 + (byteAt s p - 48)) (by omega) with h | h
        · omega
        · have h10 : (1000 : Int) ≤ 10 ^ g := by
            have : (10 : Int) ^ 3 ≤ 10 ^ g := by
              have : (10 : Nat) ^ 3 ≤ 10 ^ g := Nat.pow_le_pow_right (by omega) (by omega)
              exact_mod_cast this
            omega
          have h11 : 1 * 10 ^ g ≤ (10 * 0 + (byteAt s p - 48)) * 10 ^ g := Int.mul_le_mul_of_nonneg_right (by omega) (Int.pow_nonneg (by omega))
          omega
      · rw [if_neg (by rw [e1]; omega)]
        by_cases hb : 255 < octG (s.extract p j) g 1 (10 * 0 + (byteAt s p - 48))
        · rw [if_pos hb]
          exact ⟨fun q => by omega, fun _ => hon.2 (by omega)⟩
        · rw [if_neg hb]
          refine ⟨fun q => ?_, fun q => hon.2 (by omega)⟩
          have := hon.1 ⟨q, by omega⟩
          rw [this]
          exact ⟨rfl, rfl, by omega⟩
  · have en : numR (s.extract p s.size) (s.size - p) 0 0 = (0, 0) := by
      rw [hf]; exact if_neg (by rw [e20]; exact hd)
    have eo : octG (s.extract p j) (j - p) 0 0 = -1 := by
      rw [hg]; exact if_neg (by rw [e1]; exact hd)
    rw [en, eo]
    refine ⟨fun q => ?_, fun _ => Or.inl rfl⟩
    split at q <;> omega
end Go.Proofs.YtpchhfhdepkbcaaDoor
