/-
  Plain numbers, more: how many noughts stand first; what a stretch of bits is; a stretch laid in bit by bit.
-/
import Derived.Test.YtpchhfhdepkbcaaDoorNum2
namespace Go.Proofs.YtpchhfhdepkbcaaDoor
open Go.RowKit
set_option linter.unusedSimpArgs false
set_option linter.unusedVariables false

/-- How many noughts stand first. -/
def leadN (z : BitVec 128) : Nat := if z.toNat = 0 then 128 else 127 - z.toNat.log2
theorem lead_char (z : BitVec 128) (k : Nat) (hk : k ≤ 128) (h1 : z.toNat < 2 ^ (128 - k)) (h2 : k = 128 ∨ 2 ^ (127 - k) ≤ z.toNat) : leadN z = k := by
  unfold leadN
  split
  · rename_i h
    rcases h2 with h2 | h2
    · exact h2.symm
    · rw [h] at h2; have := Nat.two_pow_pos (127 - k); omega
  · rename_i h
    have hlt : z.toNat.log2 < 128 - k := (Nat.log2_lt h).mpr h1
    rcases h2 with h2 | h2
    · subst h2; simp at hlt
    · have := (Nat.le_log2 h).mpr h2; omega
theorem bit_step (z : BitVec 128) (k : Nat) (hk : k < 128) (h : z.toNat < 2 ^ (128 - k)) : (z.getLsbD (127 - k) = false → z.toNat < 2 ^ (128 - (k + 1))) ∧ (z.getLsbD (127 - k) = true → 2 ^ (127 - k) ≤ z.toNat) := by
  have e : 128 - k = (127 - k) + 1 := by omega
  have e2 : 128 - (k + 1) = 127 - k := by omega
  rw [e, Nat.pow_succ] at h
  rw [e2]
  have t : z.getLsbD (127 - k) = decide (z.toNat / 2 ^ (127 - k) % 2 = 1) := by
    unfold BitVec.getLsbD; rw [Nat.testBit_eq_decide_div_mod_eq]
  have hd : z.toNat / 2 ^ (127 - k) < 2 := by
    apply Nat.div_lt_of_lt_mul; omega
  constructor
  · intro hf
    rw [t] at hf
    have hq := of_decide_eq_false hf
    have : z.toNat / 2 ^ (127 - k) = 0 := by
      generalize z.toNat / 2 ^ (127 - k) = q at hq hd
      omega
    rcases Nat.div_eq_zero_iff.mp this with h0 | h0
    · have := Nat.two_pow_pos (127 - k); omega
    · exact h0
  · intro hf
    rw [t] at hf; simp at hf
    apply Classical.byContradiction; intro hn
    have : z.toNat / 2 ^ (127 - k) = 0 := Nat.div_eq_of_lt (by omega)
    omega
theorem bitZ_eq (x y : BitVec 128) (k : Nat) (hk : k < 128) : bitZ x (k : Int) = bitZ y (k : Int) ↔ (x ^^^ y).getLsbD (127 - k) = false := by
  have e : (127 - (k : Int)).toNat = 127 - k := by omega
  unfold bitZ
  rw [bitB_in x k (by omega) (by omega), bitB_in y k (by omega) (by omega), e, BitVec.getLsbD_xor]
  cases x.getLsbD (127 - k) <;> cases y.getLsbD (127 - k) <;> simp

/-- Is there such a stretch? -/
def fitB (f n : Int) : Bool := decide (0 ≤ f) && decide (f ≤ 128) && decide (0 ≤ n) && decide (n ≤ 128 - f)
theorem fitB_t {f n : Int} (h : fitB f n = true) : 0 ≤ f ∧ f ≤ 128 ∧ 0 ≤ n ∧ n ≤ 128 - f := by
  unfold fitB at h; simp at h; omega
theorem lead_wide (v : BitVec 128) (n : Int) (h0 : 0 ≤ n) (h1 : n ≤ 128) : ((leadN v : Nat) : Int) < 128 - n ↔ ¬ v >>> n.toNat = 0#128 := by
  have hv := v.isLt
  have key : v >>> n.toNat = 0#128 ↔ v.toNat < 2 ^ n.toNat := by
    constructor
    · intro h
      have := congrArg BitVec.toNat h
      rw [BitVec.toNat_ushiftRight, Nat.shiftRight_eq_div_pow] at this
      have this2 : v.toNat / 2 ^ n.toNat = 0 := this
      rcases Nat.div_eq_zero_iff.mp this2 with h0 | h0
      · have := Nat.two_pow_pos n.toNat; omega
      · exact h0
    · intro h
      apply BitVec.eq_of_toNat_eq
      rw [BitVec.toNat_ushiftRight, Nat.shiftRight_eq_div_pow, Nat.div_eq_of_lt h]; rfl
  rw [key]
  unfold leadN
  split
  · rename_i h
    rw [h]; have := Nat.two_pow_pos n.toNat
    constructor
    · intro; omega
    · intro; omega
  · rename_i h
    have hl : v.toNat.log2 < 128 := (Nat.log2_lt h).mpr hv
    have := Nat.log2_lt (k := n.toNat) h
    constructor
    · intro g g2
      have := this.mpr g2; omega
    · intro g
      have : ¬ v.toNat.log2 < n.toNat := fun q => g (this.mp q)
      omega

/-- The stretch from f on, n bits long, as a number. -/
def readW (x : BitVec 128) (f n : Int) : BitVec 128 := (x <<< f.toNat) >>> (128 - n).toNat
/-- x with v laid into that stretch. -/
def withW (x : BitVec 128) (f n : Int) (v : BitVec 128) : BitVec 128 := x ^^^ ((readW x f n ^^^ v) <<< (128 - f - n).toNat)
theorem readW_bit (x : BitVec 128) (f n : Int) (h : fitB f n = true) (j : Nat) : (readW x f n).getLsbD j = (decide (j < n.toNat) && x.getLsbD ((128 - f - n).toNat + j)) := by
  obtain ⟨h0, h1, h2, h3⟩ := fitB_t h
  unfold readW
  simp only [BitVec.getLsbD_ushiftRight, BitVec.getLsbD_shiftLeft]
  by_cases c : j < n.toNat
  · have a : (128 - n).toNat + j < 128 := by omega
    have b : ¬ (128 - n).toNat + j < f.toNat := by omega
    have e : (128 - n).toNat + j - f.toNat = (128 - f - n).toNat + j := by omega
    simp only [a, b, e, c, decide_true, decide_false, Bool.true_and, Bool.not_false]
  · have a : ¬ (128 - n).toNat + j < 128 := by omega
    simp only [a, c, decide_false, Bool.false_and]
theorem small_bit (v : BitVec 128) (n : Nat) (h : v >>> n = 0#128) (j : Nat) (hj : n ≤ j) : v.getLsbD j = false := by
  have := congrArg (fun z => z.getLsbD (j - n)) h
  simp only [BitVec.getLsbD_ushiftRight, BitVec.getLsbD_zero] at this
  have e : n + (j - n) = j := by omega
  rw [e] at this; exact this
theorem withW_bit (x v : BitVec 128) (f n : Int) (h : fitB f n = true) (hv : v >>> n.toNat = 0#128) (j : Nat) (hj : j < 128) :
    (withW x f n v).getLsbD j = if (128 - f - n).toNat ≤ j ∧ j < (128 - f - n).toNat + n.toNat then v.getLsbD (j - (128 - f - n).toNat) else x.getLsbD j := by
  obtain ⟨h0, h1, h2, h3⟩ := fitB_t h
  unfold withW
  simp only [BitVec.getLsbD_xor, BitVec.getLsbD_shiftLeft, hj, decide_true, Bool.true_and]
  by_cases c : j < (128 - f - n).toNat
  · have d : ¬ ((128 - f - n).toNat ≤ j ∧ j < (128 - f - n).toNat + n.toNat) := by omega
    simp only [c, d, decide_true, Bool.not_true, Bool.false_and, Bool.xor_false, if_false]
  · rw [readW_bit x f n h]
    have e : (128 - f - n).toNat + (j - (128 - f - n).toNat) = j := by omega
    rw [e]
    by_cases d : j < (128 - f - n).toNat + n.toNat
    · have a : (128 - f - n).toNat ≤ j ∧ j < (128 - f - n).toNat + n.toNat := by omega
      have b : j - (128 - f - n).toNat < n.toNat := by omega
      simp only [a, b, c, and_self, if_true, decide_true, decide_false, Bool.not_false, Bool.true_and]
      cases x.getLsbD j <;> simp
    · have a : ¬ ((128 - f - n).toNat ≤ j ∧ j < (128 - f - n).toNat + n.toNat) := by omega
      have b : ¬ j - (128 - f - n).toNat < n.toNat := by omega
      rw [small_bit v n.toNat hv (j - (128 - f - n).toNat) (by omega)]
      simp only [a, b, if_false, decide_false, Bool.false_and, Bool.xor_false, Bool.and_false]
/-- The first k bits of the stretch are laid in. -/
def foldStepW (x v : BitVec 128) (f n : Int) : Nat → BitVec 128
  | 0 => x
  | k + 1 => putW (foldStepW x v f n k) (f + k) (bitZ v (128 - n + k))
theorem stepW_bit (x v : BitVec 128) (f n : Int) (h : fitB f n = true) (k : Nat) (hk : (k : Int) ≤ n) (j : Nat) (hj : j < 128) :
    (foldStepW x v f n k).getLsbD j = if (128 - f).toNat - k ≤ j ∧ j < (128 - f).toNat then v.getLsbD (j - (128 - f - n).toNat) else x.getLsbD j := by
  obtain ⟨h0, h1, h2, h3⟩ := fitB_t h
  induction k with
  | zero =>
    have : ¬ ((128 - f).toNat - 0 ≤ j ∧ j < (128 - f).toNat) := by omega
    rw [if_neg this]; rfl
  | succ k ih =>
    unfold foldStepW
    rw [putW_bit _ _ _ (bitZ_01 _ _) (by omega) (by omega) _ hj, ih (by omega)]
    have t : decide (bitZ v (128 - n + k) = 1) = v.getLsbD (n - 1 - k).toNat := by
      unfold bitZ
      rw [bitB_in v _ (by omega) (by omega)]
      have e : (127 - (128 - n + (k : Int))).toNat = (n - 1 - k).toNat := by omega
      rw [e]; cases v.getLsbD (n - 1 - k).toNat <;> simp
    rw [t]
    by_cases c : j = (127 - (f + k)).toNat
    · have a : (128 - f).toNat - (k + 1) ≤ j ∧ j < (128 - f).toNat := by omega
      have e : (n - 1 - k).toNat = j - (128 - f - n).toNat := by omega
      rw [if_pos c, if_pos a, e]
    · rw [if_neg c]
      by_cases a : (128 - f).toNat - k ≤ j ∧ j < (128 - f).toNat
      · rw [if_pos a, if_pos (by omega)]
      · rw [if_neg a, if_neg (by omega)]
theorem step_with (x v : BitVec 128) (f n : Int) (h : fitB f n = true) (hv : v >>> n.toNat = 0#128) (k : Nat) (hk : (k : Int) = n) : foldStepW x v f n k = withW x f n v := by
  obtain ⟨h0, h1, h2, h3⟩ := fitB_t h
  apply BitVec.eq_of_getLsbD_eq; intro j hj
  rw [stepW_bit x v f n h k (by omega) j hj, withW_bit x v f n h hv j hj]
  by_cases a : (128 - f).toNat - k ≤ j ∧ j < (128 - f).toNat
  · rw [if_pos a, if_pos (by omega)]
  · rw [if_neg a, if_neg (by omega)]
end Go.Proofs.YtpchhfhdepkbcaaDoor
