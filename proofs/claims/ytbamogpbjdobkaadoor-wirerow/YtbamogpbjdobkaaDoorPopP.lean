/-
  Plain: bitmaps: which place is set, how many are up to one; the sum of a word's bits.
-/
import Derived.Test.YtbamogpbjdobkaaDoorFdP
import Derived.Lib.BitFns
namespace Go.Proofs.YtbamogpbjdobkaaDoor
open Go.RowKit
set_option linter.unusedSimpArgs false
set_option linter.unusedVariables false

/-- The sum of the lowest so many bits. -/
def bsN : Nat → Nat → Nat
  | 0, _ => 0
  | k + 1, x => x % 2 + bsN k (x / 2)
theorem bsN_pop : ∀ k x, Lib.popAux k x = bsN k x
  | 0, _ => rfl
  | k + 1, x => by simp only [Lib.popAux, bsN]; rw [bsN_pop k]
theorem bsN_zero : ∀ k, bsN k 0 = 0
  | 0 => rfl
  | k + 1 => by simp only [bsN, Nat.zero_mod, Nat.zero_div]; rw [bsN_zero k]
theorem bsN_add : ∀ m k x, bsN (m + k) x = bsN m x + bsN k (x / 2 ^ m)
  | 0, k, x => by simp [bsN]
  | m + 1, k, x => by
    rw [Nat.succ_add]
    simp only [bsN]
    rw [bsN_add m k (x / 2), Nat.div_div_eq_div_mul, Nat.pow_succ, Nat.mul_comm 2]
    omega
theorem bsN_mod : ∀ k x, bsN k (x % 2 ^ k) = bsN k x
  | 0, x => rfl
  | k + 1, x => by
    simp only [bsN]
    have h1 : x % 2 ^ (k + 1) % 2 = x % 2 := by rw [Nat.pow_succ, Nat.mod_mul_left_mod]
    have h2 : x % 2 ^ (k + 1) / 2 = x / 2 % 2 ^ k := by rw [Nat.pow_succ, Nat.mul_comm, Nat.mod_mul_right_div_self]
    rw [h1, h2, bsN_mod k]
theorem bsN_le : ∀ k x, bsN k x ≤ k
  | 0, _ => Nat.le_refl _
  | k + 1, x => by have := bsN_le k (x / 2); simp only [bsN]; omega
theorem bsN_small (m k x : Nat) (h : x < 2 ^ m) : bsN (m + k) x = bsN m x := by
  rw [bsN_add, Nat.div_eq_of_lt h, bsN_zero]; omega
theorem ones8 (b : Nat) (h : b < 256) : Lib.onesCount b = bsN 8 b := by
  unfold Lib.onesCount
  rw [bsN_pop]
  exact bsN_small 8 56 b h
theorem bs32 (x : Nat) (h : x < 4294967296) : bsN 32 x = bsN 8 (x / 16777216) + bsN 8 (x / 65536 % 256) + bsN 8 (x / 256 % 256) + bsN 8 (x % 256) := by
  have e1 := bsN_add 8 24 x
  have e2 := bsN_add 8 16 (x / 2 ^ 8)
  have e3 := bsN_add 8 8 (x / 2 ^ 8 / 2 ^ 8)
  have m1 := bsN_mod 8 x
  have m2 := bsN_mod 8 (x / 2 ^ 8)
  have m3 := bsN_mod 8 (x / 2 ^ 8 / 2 ^ 8)
  have p : (2 : Nat) ^ 8 = 256 := by decide
  rw [p] at e1 e2 e3 m1 m2 m3
  have d1 : x / 256 / 256 = x / 65536 := by omega
  have d2 : x / 65536 / 256 = x / 16777216 := by omega
  rw [d1] at e2 e3 m3
  rw [d2] at e3
  show bsN (8 + 24) x = _
  rw [e1]
  show _ + bsN (8 + 16) _ = _
  rw [e2]
  show _ + (_ + bsN (8 + 8) _) = _
  rw [e3]
  omega
/-- A word's ones. -/
def on32 (x : BitVec 32) : Nat := bsN 32 x.toNat
/-- Of a word's first so many places. -/
def fr32 (x : BitVec 32) (k : Nat) : Nat := bsN k (x.toNat / 2 ^ (32 - k))
def bt (x : BitVec 32) (p : Nat) : Bool := x.getLsbD (31 - p)
theorem fr_zero (x : BitVec 32) : fr32 x 0 = 0 := rfl
theorem fr_all (x : BitVec 32) : fr32 x 32 = on32 x := by unfold fr32 on32; simp
theorem bit_val (x : BitVec 32) (i : Nat) : x.toNat / 2 ^ i % 2 = (x.getLsbD i).toNat := by
  have : x.getLsbD i = decide (x.toNat / 2 ^ i % 2 = 1) := by
    unfold BitVec.getLsbD; rw [Nat.testBit_eq_decide_div_mod_eq]
  rw [this]
  by_cases c : x.toNat / 2 ^ i % 2 = 1
  · simp [c]
  · simp [c]; omega
theorem fr_succ (x : BitVec 32) (k : Nat) (h : k < 32) : fr32 x (k + 1) = fr32 x k + (bt x k).toNat := by
  unfold fr32 bt
  rw [show 32 - (k + 1) = 31 - k by omega]
  simp only [bsN]
  rw [bit_val, Nat.div_div_eq_div_mul, ← Nat.pow_succ, show (31 - k).succ = 32 - k by omega]
  omega
theorem on_shr (x : BitVec 32) (r : Nat) (h : r < 32) : on32 (x >>> (31 - r)) = fr32 x (r + 1) := by
  unfold on32 fr32
  rw [BitVec.toNat_ushiftRight, Nat.shiftRight_eq_div_pow, show 32 - (r + 1) = 31 - r by omega]
  have hlt : x.toNat / 2 ^ (31 - r) < 2 ^ (r + 1) := by
    rw [Nat.div_lt_iff_lt_mul (Nat.two_pow_pos _), ← Nat.pow_add, show r + 1 + (31 - r) = 32 by omega]
    exact x.isLt
  have := bsN_small (r + 1) (31 - r) _ hlt
  rw [show r + 1 + (31 - r) = 32 by omega] at this
  exact this
/-- Is a place set? -/
def plc (U : List (BitVec 32)) (p : Nat) : Bool := bt (U.getD (p / 32) 0#32) (p % 32)
/-- How many of the first so many places are set. -/
def cnt (U : List (BitVec 32)) : Nat → Nat
  | 0 => 0
  | k + 1 => cnt U k + (plc U k).toNat
def sumW (U : List (BitVec 32)) : Nat → Nat
  | 0 => 0
  | a + 1 => sumW U a + on32 (U.getD a 0#32)
theorem cnt_word (U : List (BitVec 32)) (a : Nat) : ∀ r, r ≤ 32 → cnt U (32 * a + r) = cnt U (32 * a) + fr32 (U.getD a 0#32) r
  | 0, _ => by simp [fr_zero]
  | r + 1, h => by
    rw [← Nat.add_assoc]
    simp only [cnt]
    rw [cnt_word U a r (by omega), fr_succ _ r (by omega)]
    unfold plc
    rw [show (32 * a + r) / 32 = a by omega, show (32 * a + r) % 32 = r by omega]
    omega
theorem cnt_words (U : List (BitVec 32)) : ∀ a, cnt U (32 * a) = sumW U a
  | 0 => rfl
  | a + 1 => by
    rw [show 32 * (a + 1) = 32 * a + 32 by omega, cnt_word U a 32 (Nat.le_refl _), cnt_words U a, fr_all]
    rfl
theorem cnt_at (U : List (BitVec 32)) (a r : Nat) (h : r ≤ 32) : cnt U (32 * a + r) = sumW U a + fr32 (U.getD a 0#32) r := by
  rw [cnt_word U a r h, cnt_words]
theorem cnt_mono (U : List (BitVec 32)) : ∀ p q, p ≤ q → cnt U p ≤ cnt U q := by
  intro p q h
  induction q with
  | zero => have : p = 0 := by omega
            subst this; exact Nat.le_refl _
  | succ q ih =>
    by_cases c : p = q + 1
    · subst c; exact Nat.le_refl _
    · have := ih (by omega); simp only [cnt]; omega
/-- The place of the k-th is one. -/
theorem sel_one (U : List (BitVec 32)) (p q : Nat) (hp : plc U p = true) (hq : plc U q = true) (h : cnt U p = cnt U q) : p = q := by
  by_cases c : p < q
  · have h1 := cnt_mono U (p + 1) q (by omega)
    simp only [cnt, hp, Bool.toNat_true] at h1
    omega
  · by_cases d : q < p
    · have h1 := cnt_mono U (q + 1) p (by omega)
      simp only [cnt, hq, Bool.toNat_true] at h1
      omega
    · omega
theorem cnt_le (U : List (BitVec 32)) : ∀ k, cnt U k ≤ k
  | 0 => Nat.le_refl _
  | k + 1 => by
    have := cnt_le U k
    simp only [cnt]
    cases plc U k <;> simp <;> omega
/-- One bit that is set is taken away. -/
theorem clear_low : ∀ k u, 0 < u → u < 2 ^ k → bsN k (u &&& (u - 1)) + 1 = bsN k u
  | 0, u, h, h2 => by simp at h2; omega
  | k + 1, u, h, h2 => by
    have a1 : (u &&& (u - 1)) % 2 = (u % 2) &&& ((u - 1) % 2) := by
      have := Nat.and_mod_two_pow (a := u) (b := u - 1) (n := 1)
      simpa using this
    have a2 : (u &&& (u - 1)) / 2 = (u / 2) &&& ((u - 1) / 2) := by
      have := Nat.and_div_two_pow (a := u) (b := u - 1) (n := 1)
      simpa using this
    simp only [bsN]
    rw [a1, a2]
    rcases (show u % 2 = 0 ∨ u % 2 = 1 by omega) with c | c
    · have e1 : (u - 1) / 2 = u / 2 - 1 := by omega
      have ih := clear_low k (u / 2) (by omega) (by rw [Nat.pow_succ] at h2; omega)
      rw [c, e1, Nat.zero_and]
      omega
    · have e1 : (u - 1) / 2 = u / 2 := by omega
      have e2 : (u - 1) % 2 = 0 := by omega
      rw [c, e1, e2, Nat.and_zero, Nat.and_self]
      omega
end Go.Proofs.YtbamogpbjdobkaaDoor
