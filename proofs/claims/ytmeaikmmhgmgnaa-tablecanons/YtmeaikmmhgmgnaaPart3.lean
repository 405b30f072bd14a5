/-
  Part 3 of the proof: 6 texts, one behind the other.
-/
import Derived.Test.YtmeaikmmhgmgnaaPart1
import Derived.Test.YtmeaikmmhgmgnaaPart2
/-
  Plain numbers, more: how many noughts stand first; what a stretch of bits is; a stretch laid in bit by bit.
-/
namespace Go.Proofs.Ytmeaikmmhgmgnaa
open Go.RowKit
set_option linter.unusedSimpArgs false
set_option linter.unusedVariables false

/-- How many noughts stand first. -/
def leadN (z : BitVec 128) : Nat := if z.toNat = 0 then 128 else 127 - z.toNat.log2
theorem lead_char (z : BitVec 128) (k : Nat) (hk : k ≤ 128) (h1 : z.toNat < 2 ^ (128 - k)) (h2 : k = 128 ∨ 2 ^ (127 - k) ≤ z.toNat) : leadN z = k := by
  unfold leadN
  split
  · rename_i h
    rcases h2 with h2 | h2
    · exact h2.symm
    · rw [h] at h2; have := Nat.two_pow_pos (127 - k); omega
  · rename_i h
    have hlt : z.toNat.log2 < 128 - k := (Nat.log2_lt h).mpr h1
    rcases h2 with h2 | h2
    · subst h2; simp at hlt
    · have := (Nat.le_log2 h).mpr h2; omega
theorem bit_step (z : BitVec 128) (k : Nat) (hk : k < 128) (h : z.toNat < 2 ^ (128 - k)) : (z.getLsbD (127 - k) = false → z.toNat < 2 ^ (128 - (k + 1))) ∧ (z.getLsbD (127 - k) = true → 2 ^ (127 - k) ≤ z.toNat) := by
  have e : 128 - k = (127 - k) + 1 := by omega
  have e2 : 128 - (k + 1) = 127 - k := by omega
  rw [e, Nat.pow_succ] at h
  rw [e2]
  have t : z.getLsbD (127 - k) = decide (z.toNat / 2 ^ (127 - k) % 2 = 1) := by
    unfold BitVec.getLsbD; rw [Nat.testBit_eq_decide_div_mod_eq]
  have hd : z.toNat / 2 ^ (127 - k) < 2 := by
    apply Nat.div_lt_of_lt_mul; omega
  constructor
  · intro hf
    rw [t] at hf
    have hq := of_decide_eq_false hf
    have : z.toNat / 2 ^ (127 - k) = 0 := by
      generalize z.toNat / 2 ^ (127 - k) = q at hq hd
      omega
    rcases Nat.div_eq_zero_iff.mp this with h0 | h0
    · have := Nat.two_pow_pos (127 - k); omega
    · exact h0
  · intro hf
    rw [t] at hf; simp at hf
    apply Classical.byContradiction; intro hn
    have : z.toNat / 2 ^ (127 - k) = 0 := Nat.div_eq_of_lt (by omega)
    omega
theorem bitZ_eq (x y : BitVec 128) (k : Nat) (hk : k < 128) : bitZ x (k : Int) = bitZ y (k : Int) ↔ (x ^^^ y).getLsbD (127 - k) = false := by
  have e : (127 - (k : Int)).toNat = 127 - k := by omega
  unfold bitZ
  rw [bitB_in x k (by omega) (by omega), bitB_in y k (by omega) (by omega), e, BitVec.getLsbD_xor]
  cases x.getLsbD (127 - k) <;> cases y.getLsbD (127 - k) <;> simp

/-- Is there such a stretch? -/
def fitB (f n : Int) : Bool := decide (0 ≤ f) && decide (f ≤ 128) && decide (0 ≤ n) && decide (n ≤ 128 - f)
theorem fitB_t {f n : Int} (h : fitB f n = true) : 0 ≤ f ∧ f ≤ 128 ∧ 0 ≤ n ∧ n ≤ 128 - f := by
  unfold fitB at h; simp at h; omega
theorem lead_wide (v : BitVec 128) (n : Int) (h0 : 0 ≤ n) (h1 : n ≤ 128) : ((leadN v : Nat) : Int) < 128 - n ↔ ¬ v >>> n.toNat = 0#128 := by
  have hv := v.isLt
  have key : v >>> n.toNat = 0#128 ↔ v.toNat < 2 ^ n.toNat := by
    constructor
    · intro h
      have := congrArg BitVec.toNat h
      rw [BitVec.toNat_ushiftRight, Nat.shiftRight_eq_div_pow] at this
      have this2 : v.toNat / 2 ^ n.toNat = 0 := this
      rcases Nat.div_eq_zero_iff.mp this2 with h0 | h0
      · have := Nat.two_pow_pos n.toNat; omega
      · exact h0
    · intro h
      apply BitVec.eq_of_toNat_eq
      rw [BitVec.toNat_ushiftRight, Nat.shiftRight_eq_div_pow, Nat.div_eq_of_lt h]; rfl
  rw [key]
  unfold leadN
  split
  · rename_i h
    rw [h]; have := Nat.two_pow_pos n.toNat
    constructor
    · intro; omega
    · intro; omega
  · rename_i h
    have hl : v.toNat.log2 < 128 := (Nat.log2_lt h).mpr hv
    have := Nat.log2_lt (k := n.toNat) h
    constructor
    · intro g g2
      have := this.mpr g2; omega
    · intro g
      have : ¬ v.toNat.log2 < n.toNat := fun q => g (this.mp q)
      omega

/-- The stretch from f on, n bits long, as a number. -/
def readW (x : BitVec 128) (f n : Int) : BitVec 128 := (x <<< f.toNat) >>> (128 - n).toNat
/-- x with v laid into that stretch. -/
def withW (x : BitVec 128) (f n : Int) (v : BitVec 128) : BitVec 128 := x ^^^ ((readW x f n ^^^ v) <<< (128 - f - n).toNat)
theorem readW_bit (x : BitVec 128) (f n : Int) (h : fitB f n = true) (j : Nat) : (readW x f n).getLsbD j = (decide (j < n.toNat) && x.getLsbD ((128 - f - n).toNat + j)) := by
  obtain ⟨h0, h1, h2, h3⟩ := fitB_t h
  unfold readW
  simp only [BitVec.getLsbD_ushiftRight, BitVec.getLsbD_shiftLeft]
  by_cases c : j < n.toNat
  · have a : (128 - n).toNat + j < 128 := by omega
    have b : ¬ (128 - n).toNat + j < f.toNat := by omega
    have e : (128 - n).toNat + j - f.toNat = (128 - f - n).toNat + j := by omega
    simp only [a, b, e, c, decide_true, decide_false, Bool.true_and, Bool.not_false]
  · have a : ¬ (128 - n).toNat + j < 128 := by omega
    simp only [a, c, decide_false, Bool.false_and]
theorem small_bit (v : BitVec 128) (n : Nat) (h : v >>> n = 0#128) (j : Nat) (hj : n ≤ j) : v.getLsbD j = false := by
  have := congrArg (fun z => z.getLsbD (j - n)) h
  simp only [BitVec.getLsbD_ushiftRight, BitVec.getLsbD_zero] at this
  have e : n + (j - n) = j := by omega
  rw [e] at this; exact this
theorem withW_bit (x v : BitVec 128) (f n : Int) (h : fitB f n = true) (hv : v >>> n.toNat = 0#128) (j : Nat) (hj : j < 128) :
    (withW x f n v).getLsbD j = if (128 - f - n).toNat ≤ j ∧ j < (128 - f - n).toNat + n.toNat then v.getLsbD (j - (128 - f - n).toNat) else x.getLsbD j := by
  obtain ⟨h0, h1, h2, h3⟩ := fitB_t h
  unfold withW
  simp only [BitVec.getLsbD_xor, BitVec.getLsbD_shiftLeft, hj, decide_true, Bool.true_and]
  by_cases c : j < (128 - f - n).toNat
  · have d : ¬ ((128 - f - n).toNat ≤ j ∧ j < (128 - f - n).toNat + n.toNat) := by omega
    simp only [c, d, decide_true, Bool.not_true, Bool.false_and, Bool.xor_false, if_false]
  · rw [readW_bit x f n h]
    have e : (128 - f - n).toNat + (j - (128 - f - n).toNat) = j := by omega
    rw [e]
    by_cases d : j < (128 - f - n).toNat + n.toNat
    · have a : (128 - f - n).toNat ≤ j ∧ j < (128 - f - n).toNat + n.toNat := by omega
      have b : j - (128 - f - n).toNat < n.toNat := by omega
      simp only [a, b, c, and_self, if_true, decide_true, decide_false, Bool.not_false, Bool.true_and]
      cases x.getLsbD j <;> simp
    · have a : ¬ ((128 - f - n).toNat ≤ j ∧ j < (128 - f - n).toNat + n.toNat) := by omega
      have b : ¬ j - (128 - f - n).toNat < n.toNat := by omega
      rw [small_bit v n.toNat hv (j - (128 - f - n).toNat) (by omega)]
      simp only [a, b, if_false, decide_false, Bool.false_and, Bool.xor_false, Bool.and_false]
/-- The first k bits of the stretch are laid in. -/
def foldStepW (x v : BitVec 128) (f n : Int) : Nat → BitVec 128
  | 0 => x
  | k + 1 => putW (foldStepW x v f n k) (f + k) (bitZ v (128 - n + k))
theorem stepW_bit (x v : BitVec 128) (f n : Int) (h : fitB f n = true) (k : Nat) (hk : (k : Int) ≤ n) (j : Nat) (hj : j < 128) :
    (foldStepW x v f n k).getLsbD j = if (128 - f).toNat - k ≤ j ∧ j < (128 - f).toNat then v.getLsbD (j - (128 - f - n).toNat) else x.getLsbD j := by
  obtain ⟨h0, h1, h2, h3⟩ := fitB_t h
  induction k with
  | zero =>
    have : ¬ ((128 - f).toNat - 0 ≤ j ∧ j < (128 - f).toNat) := by omega
    rw [if_neg this]; rfl
  | succ k ih =>
    unfold foldStepW
    rw [putW_bit _ _ _ (bitZ_01 _ _) (by omega) (by omega) _ hj, ih (by omega)]
    have t : decide (bitZ v (128 - n + k) = 1) = v.getLsbD (n - 1 - k).toNat := by
      unfold bitZ
      rw [bitB_in v _ (by omega) (by omega)]
      have e : (127 - (128 - n + (k : Int))).toNat = (n - 1 - k).toNat := by omega
      rw [e]; cases v.getLsbD (n - 1 - k).toNat <;> simp
    rw [t]
    by_cases c : j = (127 - (f + k)).toNat
    · have a : (128 - f).toNat - (k + 1) ≤ j ∧ j < (128 - f).toNat := by omega
      have e : (n - 1 - k).toNat = j - (128 - f - n).toNat := by omega
      rw [if_pos c, if_pos a, e]
    · rw [if_neg c]
      by_cases a : (128 - f).toNat - k ≤ j ∧ j < (128 - f).toNat
      · rw [if_pos a, if_pos (by omega)]
      · rw [if_neg a, if_neg (by omega)]
theorem step_with (x v : BitVec 128) (f n : Int) (h : fitB f n = true) (hv : v >>> n.toNat = 0#128) (k : Nat) (hk : (k : Int) = n) : foldStepW x v f n k = withW x f n v := by
  obtain ⟨h0, h1, h2, h3⟩ := fitB_t h
  apply BitVec.eq_of_getLsbD_eq; intro j hj
  rw [stepW_bit x v f n h k (by omega) j hj, withW_bit x v f n h hv j hj]
  by_cases a : (128 - f).toNat - k ≤ j ∧ j < (128 - f).toNat
  · rw [if_pos a, if_pos (by omega)]
  · rw [if_neg a, if_neg (by omega)]
end Go.Proofs.Ytmeaikmmhgmgnaa
/-
  Plain numbers: the sum of a number's bits, as it is reckoned by halves.
-/
namespace Go.Proofs.Ytmeaikmmhgmgnaa
open Go.RowKit
set_option linter.unusedSimpArgs false
set_option linter.unusedVariables false

def ocB (b : Nat) : Nat := b % 2 + b / 2 % 2 + b / 4 % 2 + b / 8 % 2 + b / 16 % 2 + b / 32 % 2 + b / 64 % 2 + b / 128 % 2
def bm (f : Nat → Nat) : Nat → Nat → Nat
  | 0, _ => 0
  | k + 1, x => f (x % 256) + 256 * bm f k (x / 256)
def mm (m : Nat) : Nat → Nat
  | 0 => 0
  | k + 1 => m + 256 * mm m k
def oc : Nat → Nat → Nat
  | 0, _ => 0
  | k + 1, x => ocB (x % 256) + oc k (x / 256)
def f1 (b : Nat) : Nat := ((b / 2) &&& 85) + (b &&& 85)
def f2 (b : Nat) : Nat := ((b / 4) &&& 51) + (b &&& 51)
theorem and_split (a m M : Nat) (hm : m < 256) : a &&& (m + 256 * M) = ((a % 256) &&& m) + 256 * ((a / 256) &&& M) := by
  have h1 : (a &&& (m + 256 * M)) % 2 ^ 8 = (a % 2 ^ 8) &&& ((m + 256 * M) % 2 ^ 8) := Nat.and_mod_two_pow
  have h2 : (a &&& (m + 256 * M)) / 2 ^ 8 = (a / 2 ^ 8) &&& ((m + 256 * M) / 2 ^ 8) := Nat.and_div_two_pow
  have e1 : (m + 256 * M) % 2 ^ 8 = m := by omega
  have e2 : (m + 256 * M) / 2 ^ 8 = M := by omega
  rw [e1] at h1
  rw [e2] at h2
  have e3 : (2 : Nat) ^ 8 = 256 := by decide
  rw [e3] at h1 h2
  have := Nat.div_add_mod (a &&& (m + 256 * M)) 256
  omega
set_option maxRecDepth 100000 in
theorem b1 : ∀ b : Fin 256, ∀ c : Fin 2, (b.val / 2 + 128 * c.val) &&& 85 = (b.val / 2) &&& 85 := by decide +kernel
theorem b2 : ∀ b : Fin 256, ∀ c : Fin 4, (b.val / 4 + 64 * c.val) &&& 51 = (b.val / 4) &&& 51 := by decide +kernel
theorem b3 : ∀ b : Fin 256, ∀ c : Fin 5, (f2 (f1 b.val) / 16 + 16 * c.val + f2 (f1 b.val)) &&& 15 = ocB b.val := by decide +kernel
theorem b4 : ∀ b : Fin 256, f1 b.val < 256 ∧ f2 (f1 b.val) % 16 ≤ 4 ∧ f2 (f1 b.val) / 16 ≤ 4 ∧ ocB b.val ≤ 8 ∧ ocB (255 - b.val) + ocB b.val = 8 := by decide +kernel
theorem l1 (k : Nat) : ∀ x, ((x / 2) &&& mm 85 k) + (x &&& mm 85 k) = bm f1 k x := by
  induction k with
  | zero => intro x; simp [mm, bm]
  | succ k ih =>
    intro x
    simp only [mm, bm]
    rw [and_split _ 85 _ (by decide), and_split _ 85 _ (by decide)]
    have e1 : (x / 2) % 256 = (x % 256) / 2 + 128 * (x / 256 % 2) := by omega
    have e2 : x / 2 / 256 = x / 256 / 2 := by omega
    have hb := b1 ⟨x % 256, by omega⟩ ⟨x / 256 % 2, by omega⟩
    have := ih (x / 256)
    rw [e1, e2]
    simp only at hb
    rw [hb]
    have hf : f1 (x % 256) = ((x % 256 / 2) &&& 85) + ((x % 256) &&& 85) := rfl
    omega
theorem l2 (k : Nat) : ∀ x, ((x / 4) &&& mm 51 k) + (x &&& mm 51 k) = bm f2 k x := by
  induction k with
  | zero => intro x; simp [mm, bm]
  | succ k ih =>
    intro x
    simp only [mm, bm]
    rw [and_split _ 51 _ (by decide), and_split _ 51 _ (by decide)]
    have e1 : (x / 4) % 256 = (x % 256) / 4 + 64 * (x / 256 % 4) := by omega
    have e2 : x / 4 / 256 = x / 256 / 4 := by omega
    have hb := b2 ⟨x % 256, by omega⟩ ⟨x / 256 % 4, by omega⟩
    have := ih (x / 256)
    rw [e1, e2]
    simp only at hb
    rw [hb]
    have hf : f2 (x % 256) = ((x % 256 / 4) &&& 51) + ((x % 256) &&& 51) := rfl
    omega
theorem bm_bm (k : Nat) : ∀ x, bm f2 k (bm f1 k x) = bm (fun b => f2 (f1 b)) k x := by
  induction k with
  | zero => intro x; rfl
  | succ k ih =>
    intro x
    have h := (b4 ⟨x % 256, by omega⟩).1
    simp only at h
    simp only [bm]
    have e1 : (f1 (x % 256) + 256 * bm f1 k (x / 256)) % 256 = f1 (x % 256) := by omega
    have e2 : (f1 (x % 256) + 256 * bm f1 k (x / 256)) / 256 = bm f1 k (x / 256) := by omega
    rw [e1, e2, ih]
theorem bm_mod (k : Nat) (x : Nat) : bm (fun b => f2 (f1 b)) k x % 16 ≤ 4 := by
  cases k with
  | zero => simp [bm]
  | succ k =>
    have h := (b4 ⟨x % 256, by omega⟩).2.1
    simp only at h
    simp only [bm]; omega
theorem l3 (k : Nat) : ∀ x, (bm (fun b => f2 (f1 b)) k x / 16 + bm (fun b => f2 (f1 b)) k x) &&& mm 15 k = bm ocB k x := by
  induction k with
  | zero => intro x; simp [mm, bm]
  | succ k ih =>
    intro x
    simp only [mm]
    rw [and_split _ 15 _ (by decide)]
    have hm := bm_mod k (x / 256)
    have h := (b4 ⟨x % 256, by omega⟩).2.1
    have h' := (b4 ⟨x % 256, by omega⟩).2.2.1
    have hb := b3 ⟨x % 256, by omega⟩ ⟨bm (fun b => f2 (f1 b)) k (x / 256) % 16, by omega⟩
    have := ih (x / 256)
    simp only [bm] at *
    generalize bm (fun b => f2 (f1 b)) k (x / 256) = y at *
    generalize f2 (f1 (x % 256)) = g at *
    have e1 : ((g + 256 * y) / 16 + (g + 256 * y)) % 256 = g / 16 + 16 * (y % 16) + g := by omega
    have e2 : ((g + 256 * y) / 16 + (g + 256 * y)) / 256 = y / 16 + y := by omega
    rw [e1, e2, hb, this]
theorem key (n a B z : Nat) (h : a < n) (e : z = a + n * B) : z / n = B := by
  rw [e, Nat.add_mul_div_left _ _ (by omega), Nat.div_eq_of_lt h]; omega
theorem add2 (a b R S : Nat) : (a + 256 * R) + (b + 256 * S) = (a + b) + 256 * (R + S) := by omega
theorem fold8 (q0 q1 q2 q3 q4 q5 q6 q7 : Nat) (c : q0 ≤ 8 ∧ q1 ≤ 8 ∧ q2 ≤ 8 ∧ q3 ≤ 8 ∧ q4 ≤ 8 ∧ q5 ≤ 8 ∧ q6 ≤ 8 ∧ q7 ≤ 8) (z z4 z5 z6 : Nat) (hz : z = q0 + 256 * (q1 + 256 * (q2 + 256 * (q3 + 256 * (q4 + 256 * (q5 + 256 * (q6 + 256 * q7)))))))
    (h4 : z4 = z + z / 256) (h5 : z5 = z4 + z4 / 65536) (h6 : z6 = z5 + z5 / 4294967296) : z6 % 128 = q0 + q1 + q2 + q3 + q4 + q5 + q6 + q7 := by
  have k4 : z / 256 = q1 + 256 * (q2 + 256 * (q3 + 256 * (q4 + 256 * (q5 + 256 * (q6 + 256 * q7))))) := key 256 q0 _ z (by omega) hz
  have t4 : z4 = (q0 + q1) + 256 * ((q1 + q2) + 256 * ((q2 + q3) + 256 * ((q3 + q4) + 256 * ((q4 + q5) + 256 * ((q5 + q6) + 256 * (q6 + 256 * q7 + q7)))))) := by
    rw [h4, k4, hz]; simp only [add2]
  have k5 : z4 / 65536 = (q2 + q3) + 256 * ((q3 + q4) + 256 * ((q4 + q5) + 256 * ((q5 + q6) + 256 * (q6 + 256 * q7 + q7)))) := by
    refine key 65536 ((q0 + q1) + 256 * (q1 + q2)) _ z4 (by clear hz h4 h5 h6 k4 t4; omega) ?_
    rw [t4]; generalize (q2 + q3) + 256 * ((q3 + q4) + 256 * ((q4 + q5) + 256 * ((q5 + q6) + 256 * (q6 + 256 * q7 + q7)))) = B
    clear hz h4 h5 h6 k4 t4; omega
  have t5 : z5 = (q0 + q1 + (q2 + q3)) + 256 * ((q1 + q2 + (q3 + q4)) + 256 * ((q2 + q3 + (q4 + q5)) + 256 * ((q3 + q4 + (q5 + q6)) + 256 * ((q4 + q5) + 256 * ((q5 + q6) + 256 * (q6 + 256 * q7 + q7)) + (q6 + 256 * q7 + q7))))) := by
    rw [h5, k5, t4]; simp only [add2]
  have k6 : z5 / 4294967296 = (q4 + q5) + 256 * ((q5 + q6) + 256 * (q6 + 256 * q7 + q7)) + (q6 + 256 * q7 + q7) := by
    refine key 4294967296 ((q0 + q1 + (q2 + q3)) + 256 * ((q1 + q2 + (q3 + q4)) + 256 * ((q2 + q3 + (q4 + q5)) + 256 * (q3 + q4 + (q5 + q6))))) _ z5 (by clear hz h4 h5 h6 k4 t4 k5 t5; omega) ?_
    rw [t5]; generalize (q4 + q5) + 256 * ((q5 + q6) + 256 * (q6 + 256 * q7 + q7)) + (q6 + 256 * q7 + q7) = B
    clear hz h4 h5 h6 k4 t4 k5 t5; omega
  rw [h6, k6, t5]
  generalize (q1 + q2 + (q3 + q4)) + 256 * ((q2 + q3 + (q4 + q5)) + 256 * ((q3 + q4 + (q5 + q6)) + 256 * ((q4 + q5) + 256 * ((q5 + q6) + 256 * (q6 + 256 * q7 + q7)) + (q6 + 256 * q7 + q7)))) = B
  generalize (q5 + q6) + 256 * (q6 + 256 * q7 + q7) = C
  clear hz h4 h5 h6 k4 t4 k5 t5 k6
  have e : q0 + q1 + (q2 + q3) + 256 * B + (q4 + q5 + 256 * C + (q6 + 256 * q7 + q7)) = (q0 + q1 + q2 + q3 + q4 + q5 + q6 + q7) + 128 * (2 * (B + C + q7)) := by omega
  rw [e, Nat.add_mul_mod_self_left, Nat.mod_eq_of_lt (by omega)]
theorem bmo_lt (k : Nat) : ∀ x, bm ocB k x ≤ 8 * mm 1 k := by
  induction k with
  | zero => intro x; simp [bm, mm]
  | succ k ih =>
    intro x; have := ih (x / 256); have h1 := (b4 ⟨x % 256, by omega⟩).2.2.2.1; simp only at h1
    simp only [bm, mm]; omega
theorem oc_fold (x : Nat) (z4 z5 z6 : Nat) (h4 : z4 = bm ocB 8 x + bm ocB 8 x / 256) (h5 : z5 = z4 + z4 / 65536) (h6 : z6 = z5 + z5 / 4294967296) : z4 < 18446744073709551616 ∧ z5 < 18446744073709551616 ∧ z6 < 9223372036854775808 ∧ z6 % 128 = oc 8 x := by
  have hb := bmo_lt 8 x
  have e1 : mm 1 8 = 72340172838076673 := by decide
  rw [e1] at hb
  refine ⟨by omega, by omega, by omega, ?_⟩
  have c : ∀ y, ocB (y % 256) ≤ 8 := fun y => (b4 ⟨y % 256, by omega⟩).2.2.2.1
  have := fold8 (ocB (x % 256)) (ocB (x / 256 % 256)) (ocB (x / 256 / 256 % 256)) (ocB (x / 256 / 256 / 256 % 256)) (ocB (x / 256 / 256 / 256 / 256 % 256)) (ocB (x / 256 / 256 / 256 / 256 / 256 % 256)) (ocB (x / 256 / 256 / 256 / 256 / 256 / 256 % 256)) (ocB (x / 256 / 256 / 256 / 256 / 256 / 256 / 256 % 256)) ⟨c _, c _, c _, c _, c _, c _, c _, c _⟩ (bm ocB 8 x) z4 z5 z6 (by simp only [bm]; rfl) h4 h5 h6
  rw [this]; simp only [oc]; omega
theorem oc_le (k : Nat) : ∀ x, oc k x ≤ 8 * k := by
  induction k with
  | zero => intro x; simp [oc]
  | succ k ih => intro x; have := ih (x / 256); have h := (b4 ⟨x % 256, by omega⟩).2.2.2.1; simp only at h; simp only [oc]; omega
theorem oc_not (k : Nat) : ∀ x, x < 256 ^ k → oc k (256 ^ k - 1 - x) + oc k x = 8 * k := by
  induction k with
  | zero => intro x _; simp [oc]
  | succ k ih =>
    intro x hx
    have hp : 0 < 256 ^ k := Nat.pow_pos (by decide)
    have hx2 : x / 256 < 256 ^ k := by rw [Nat.div_lt_iff_lt_mul (by decide)]; rw [Nat.pow_succ] at hx; omega
    have := ih (x / 256) hx2
    have hb := (b4 ⟨x % 256, by omega⟩).2.2.2.2
    simp only at hb
    simp only [oc]
    rw [Nat.pow_succ]
    generalize 256 ^ k = p at *
    have e1 : (p * 256 - 1 - x) % 256 = 255 - x % 256 := by omega
    have e2 : (p * 256 - 1 - x) / 256 = p - 1 - x / 256 := by omega
    rw [e1, e2]; omega
end Go.Proofs.Ytmeaikmmhgmgnaa
/-
  What the calls of math/bits that count do.
-/
namespace Go.Proofs.Ytmeaikmmhgmgnaa
open Go.RowKit
set_option linter.unusedSimpArgs false
set_option linter.unusedVariables false

theorem len_sum (x y : Int) (k : Nat) (hx : 0 ≤ x) (hy : y = x / 2 ^ k) (h : 0 < y ∨ k = 0) : ((bitLen x.toNat : Nat) : Int) = k + bitLen y.toNat := by
  rcases h with h | h
  · have e : y.toNat = x.toNat / 2 ^ k := by
      rw [hy]
      obtain ⟨n, rfl⟩ := Int.eq_ofNat_of_zero_le hx
      have : ((n : Int) / 2 ^ k) = ((n / 2 ^ k : Nat) : Int) := by simp
      rw [this]; rfl
    have h2 : x.toNat / 2 ^ k ≠ 0 := by omega
    rw [bitLen_shift x.toNat k h2, e]; omega
  · subst h; simp at hy; subst hy; simp
theorem len_wrap (k : Int) (a : Nat) (ha : a ≤ 8) (h0 : 0 ≤ k) (h1 : k ≤ 56) : wrap64 (k + wrap64 (a : Int)) = k + a := by
  unfold wrap64; omega
theorem len_wrap0 (a : Nat) (ha : a ≤ 8) : wrap64 (wrap64 (a : Int)) = (a : Int) := by
  unfold wrap64; omega

set_option maxHeartbeats 1000000 in
set_option maxRecDepth 1000000 in
theorem len_0 (x : Int) (w : World) (h0 : 0 ≤ x) (h1 : x < 18446744073709551616) (a0 : ¬ 4294967296 ≤ x) (a1 : ¬ 65536 ≤ x) (a2 : ¬ 256 ≤ x) :
    Calls Try.prog 98 #[.int .u64 x] w fun e w' => e = .returned (.int .i64 ((bitLen x.toNat : Nat) : Int)) ∧ w' = w := by
  have hy : 0 ≤ x ∧ x < 256 := by omega
  have HF : Hid (((bitLen x.toNat : Nat) : Int) = 0 + bitLen (x).toNat) := len_sum x (x) 0 h0 (by omega) (by omega)
  go_enter Try.func98, Try.ntmps98
  go_wp2
  go_ret
  refine ⟨congrArg Ending.returned (congrArg (Value.int IntKind.i64) ?_), rfl⟩
  rw [HF.out, len8tab_get]
  rw [len_wrap0 _ (bitLen_le8 _ (by omega))]; omega
set_option maxHeartbeats 1000000 in
set_option maxRecDepth 1000000 in
theorem len_1 (x : Int) (w : World) (h0 : 0 ≤ x) (h1 : x < 18446744073709551616) (a0 : ¬ 4294967296 ≤ x) (a1 : ¬ 65536 ≤ x) (a2 : 256 ≤ x) :
    Calls Try.prog 98 #[.int .u64 x] w fun e w' => e = .returned (.int .i64 ((bitLen x.toNat : Nat) : Int)) ∧ w' = w := by
  have hy : 0 ≤ (x / 256) ∧ (x / 256) < 256 := by omega
  have HF : Hid (((bitLen x.toNat : Nat) : Int) = 8 + bitLen ((x / 256)).toNat) := len_sum x ((x / 256)) 8 h0 (by omega) (by omega)
  go_enter Try.func98, Try.ntmps98
  go_wp2
  go_ret
  refine ⟨congrArg Ending.returned (congrArg (Value.int IntKind.i64) ?_), rfl⟩
  rw [HF.out, len8tab_get]
  exact len_wrap 8 _ (bitLen_le8 _ (by omega)) (by omega) (by omega)
set_option maxHeartbeats 1000000 in
set_option maxRecDepth 1000000 in
theorem len_2 (x : Int) (w : World) (h0 : 0 ≤ x) (h1 : x < 18446744073709551616) (a0 : ¬ 4294967296 ≤ x) (a1 : 65536 ≤ x) (a2 : ¬ 256 ≤ (x / 65536)) :
    Calls Try.prog 98 #[.int .u64 x] w fun e w' => e = .returned (.int .i64 ((bitLen x.toNat : Nat) : Int)) ∧ w' = w := by
  have hy : 0 ≤ (x / 65536) ∧ (x / 65536) < 256 := by omega
  have HF : Hid (((bitLen x.toNat : Nat) : Int) = 16 + bitLen ((x / 65536)).toNat) := len_sum x ((x / 65536)) 16 h0 (by omega) (by omega)
  go_enter Try.func98, Try.ntmps98
  go_wp2
  go_ret
  refine ⟨congrArg Ending.returned (congrArg (Value.int IntKind.i64) ?_), rfl⟩
  rw [HF.out, len8tab_get]
  exact len_wrap 16 _ (bitLen_le8 _ (by omega)) (by omega) (by omega)
set_option maxHeartbeats 1000000 in
set_option maxRecDepth 1000000 in
theorem len_3 (x : Int) (w : World) (h0 : 0 ≤ x) (h1 : x < 18446744073709551616) (a0 : ¬ 4294967296 ≤ x) (a1 : 65536 ≤ x) (a2 : 256 ≤ (x / 65536)) :
    Calls Try.prog 98 #[.int .u64 x] w fun e w' => e = .returned (.int .i64 ((bitLen x.toNat : Nat) : Int)) ∧ w' = w := by
  have hy : 0 ≤ ((x / 65536) / 256) ∧ ((x / 65536) / 256) < 256 := by omega
  have HF : Hid (((bitLen x.toNat : Nat) : Int) = 24 + bitLen (((x / 65536) / 256)).toNat) := len_sum x (((x / 65536) / 256)) 24 h0 (by omega) (by omega)
  go_enter Try.func98, Try.ntmps98
  go_wp2
  go_ret
  refine ⟨congrArg Ending.returned (congrArg (Value.int IntKind.i64) ?_), rfl⟩
  rw [HF.out, len8tab_get]
  exact len_wrap 24 _ (bitLen_le8 _ (by omega)) (by omega) (by omega)
set_option maxHeartbeats 1000000 in
set_option maxRecDepth 1000000 in
theorem len_4 (x : Int) (w : World) (h0 : 0 ≤ x) (h1 : x < 18446744073709551616) (a0 : 4294967296 ≤ x) (a1 : ¬ 65536 ≤ (x / 4294967296)) (a2 : ¬ 256 ≤ (x / 4294967296)) :
    Calls Try.prog 98 #[.int .u64 x] w fun e w' => e = .returned (.int .i64 ((bitLen x.toNat : Nat) : Int)) ∧ w' = w := by
  have hy : 0 ≤ (x / 4294967296) ∧ (x / 4294967296) < 256 := by omega
  have HF : Hid (((bitLen x.toNat : Nat) : Int) = 32 + bitLen ((x / 4294967296)).toNat) := len_sum x ((x / 4294967296)) 32 h0 (by omega) (by omega)
  go_enter Try.func98, Try.ntmps98
  go_wp2
  go_ret
  refine ⟨congrArg Ending.returned (congrArg (Value.int IntKind.i64) ?_), rfl⟩
  rw [HF.out, len8tab_get]
  exact len_wrap 32 _ (bitLen_le8 _ (by omega)) (by omega) (by omega)
set_option maxHeartbeats 1000000 in
set_option maxRecDepth 1000000 in
theorem len_5 (x : Int) (w : World) (h0 : 0 ≤ x) (h1 : x < 18446744073709551616) (a0 : 4294967296 ≤ x) (a1 : ¬ 65536 ≤ (x / 4294967296)) (a2 : 256 ≤ (x / 4294967296)) :
    Calls Try.prog 98 #[.int .u64 x] w fun e w' => e = .returned (.int .i64 ((bitLen x.toNat : Nat) : Int)) ∧ w' = w := by
  have hy : 0 ≤ ((x / 4294967296) / 256) ∧ ((x / 4294967296) / 256) < 256 := by omega
  have HF : Hid (((bitLen x.toNat : Nat) : Int) = 40 + bitLen (((x / 4294967296) / 256)).toNat) := len_sum x (((x / 4294967296) / 256)) 40 h0 (by omega) (by omega)
  go_enter Try.func98, Try.ntmps98
  go_wp2
  go_ret
  refine ⟨congrArg Ending.returned (congrArg (Value.int IntKind.i64) ?_), rfl⟩
  rw [HF.out, len8tab_get]
  exact len_wrap 40 _ (bitLen_le8 _ (by omega)) (by omega) (by omega)
set_option maxHeartbeats 1000000 in
set_option maxRecDepth 1000000 in
theorem len_6 (x : Int) (w : World) (h0 : 0 ≤ x) (h1 : x < 18446744073709551616) (a0 : 4294967296 ≤ x) (a1 : 65536 ≤ (x / 4294967296)) (a2 : ¬ 256 ≤ ((x / 4294967296) / 65536)) :
    Calls Try.prog 98 #[.int .u64 x] w fun e w' => e = .returned (.int .i64 ((bitLen x.toNat : Nat) : Int)) ∧ w' = w := by
  have hy : 0 ≤ ((x / 4294967296) / 65536) ∧ ((x / 4294967296) / 65536) < 256 := by omega
  have HF : Hid (((bitLen x.toNat : Nat) : Int) = 48 + bitLen (((x / 4294967296) / 65536)).toNat) := len_sum x (((x / 4294967296) / 65536)) 48 h0 (by omega) (by omega)
  go_enter Try.func98, Try.ntmps98
  go_wp2
  go_ret
  refine ⟨congrArg Ending.returned (congrArg (Value.int IntKind.i64) ?_), rfl⟩
  rw [HF.out, len8tab_get]
  exact len_wrap 48 _ (bitLen_le8 _ (by omega)) (by omega) (by omega)
set_option maxHeartbeats 1000000 in
set_option maxRecDepth 1000000 in
theorem len_7 (x : Int) (w : World) (h0 : 0 ≤ x) (h1 : x < 18446744073709551616) (a0 : 4294967296 ≤ x) (a1 : 65536 ≤ (x / 4294967296)) (a2 : 256 ≤ ((x / 4294967296) / 65536)) :
    Calls Try.prog 98 #[.int .u64 x] w fun e w' => e = .returned (.int .i64 ((bitLen x.toNat : Nat) : Int)) ∧ w' = w := by
  have hy : 0 ≤ (((x / 4294967296) / 65536) / 256) ∧ (((x / 4294967296) / 65536) / 256) < 256 := by omega
  have HF : Hid (((bitLen x.toNat : Nat) : Int) = 56 + bitLen ((((x / 4294967296) / 65536) / 256)).toNat) := len_sum x ((((x / 4294967296) / 65536) / 256)) 56 h0 (by omega) (by omega)
  go_enter Try.func98, Try.ntmps98
  go_wp2
  go_ret
  refine ⟨congrArg Ending.returned (congrArg (Value.int IntKind.i64) ?_), rfl⟩
  rw [HF.out, len8tab_get]
  exact len_wrap 56 _ (bitLen_le8 _ (by omega)) (by omega) (by omega)
theorem len_any (x : Int) (w : World) (h0 : 0 ≤ x) (h1 : x < 18446744073709551616) :
    Calls Try.prog 98 #[.int .u64 x] w fun e w' => e = .returned (.int .i64 ((bitLen x.toNat : Nat) : Int)) ∧ w' = w := by
  by_cases a0 : 4294967296 ≤ x
  · by_cases a1 : 65536 ≤ (x / 4294967296)
    · by_cases a2 : 256 ≤ ((x / 4294967296) / 65536)
      · exact len_7 x w h0 h1 a0 a1 a2
      · exact len_6 x w h0 h1 a0 a1 a2
    · by_cases a2 : 256 ≤ (x / 4294967296)
      · exact len_5 x w h0 h1 a0 a1 a2
      · exact len_4 x w h0 h1 a0 a1 a2
  · by_cases a1 : 65536 ≤ x
    · by_cases a2 : 256 ≤ (x / 65536)
      · exact len_3 x w h0 h1 a0 a1 a2
      · exact len_2 x w h0 h1 a0 a1 a2
    · by_cases a2 : 256 ≤ x
      · exact len_1 x w h0 h1 a0 a1 a2
      · exact len_0 x w h0 h1 a0 a1 a2

theorem wrapu_nat (n : Nat) (h : n < 18446744073709551616) : IntKind.u64.wrap (n : Int) = (n : Int) := wrap_nat n h
theorem m85 : mm 85 8 = 6148914691236517205 := by decide
theorem m51 : mm 51 8 = 3689348814741910323 := by decide
theorem m15 : mm 15 8 = 1085102592571150095 := by decide
theorem bm_lt (f : Nat → Nat) (hf : ∀ b : Fin 256, f b.val < 256) (k : Nat) : ∀ x, bm f k x < 256 ^ k := by
  induction k with
  | zero => intro x; simp [bm]
  | succ k ih =>
    intro x; have := ih (x / 256); have h := hf ⟨x % 256, by omega⟩; simp only at h
    simp only [bm]; rw [Nat.pow_succ]; omega
theorem bm1_lt (x : Nat) : bm f1 8 x < 18446744073709551616 := bm_lt f1 (fun b => (b4 b).1) 8 x
theorem bm2_lt (x : Nat) : bm (fun b => f2 (f1 b)) 8 x < 4 * 256 ^ 8 / 8 := by
  have h : ∀ k x, bm (fun b => f2 (f1 b)) k x ≤ 68 * mm 1 k := by
    intro k; induction k with
    | zero => intro x; simp [bm, mm]
    | succ k ih =>
      intro x; have := ih (x / 256); have h1 := (b4 ⟨x % 256, by omega⟩).2.1; have h2 := (b4 ⟨x % 256, by omega⟩).2.2.1; simp only at h1 h2
      simp only [bm, mm]; omega
  have := h 8 x
  have e : mm 1 8 = 72340172838076673 := by decide
  rw [e] at this; omega
theorem s1 (x : Nat) (h : x < 18446744073709551616) : IntKind.u64.wrap (bits .and .u64 ((x : Int) / 2) 6148914691236517205 + bits .and .u64 (x : Int) 6148914691236517205) = ((bm f1 8 x : Nat) : Int) := by
  have e : ((x : Int) / 2) = ((x / 2 : Nat) : Int) := by omega
  have a1 : bits .and .u64 ((x / 2 : Nat) : Int) 6148914691236517205 = ((x / 2 &&& 6148914691236517205 : Nat) : Int) := bits_and_u64_nat (x / 2) 6148914691236517205 (by omega) (by decide)
  have a2 : bits .and .u64 (x : Int) 6148914691236517205 = ((x &&& 6148914691236517205 : Nat) : Int) := bits_and_u64_nat x 6148914691236517205 h (by decide)
  have l := l1 8 x
  rw [m85] at l
  rw [e, a1, a2, ← Int.natCast_add, l]
  exact wrapu_nat _ (bm1_lt x)
theorem s2 (x : Nat) : IntKind.u64.wrap (bits .and .u64 (((bm f1 8 x : Nat) : Int) / 4) 3689348814741910323 + bits .and .u64 ((bm f1 8 x : Nat) : Int) 3689348814741910323) = ((bm (fun b => f2 (f1 b)) 8 x : Nat) : Int) := by
  have h := bm1_lt x
  have e : (((bm f1 8 x : Nat) : Int) / 4) = ((bm f1 8 x / 4 : Nat) : Int) := by omega
  have a1 : bits .and .u64 ((bm f1 8 x / 4 : Nat) : Int) 3689348814741910323 = ((bm f1 8 x / 4 &&& 3689348814741910323 : Nat) : Int) := bits_and_u64_nat (bm f1 8 x / 4) 3689348814741910323 (by omega) (by decide)
  have a2 : bits .and .u64 ((bm f1 8 x : Nat) : Int) 3689348814741910323 = ((bm f1 8 x &&& 3689348814741910323 : Nat) : Int) := bits_and_u64_nat (bm f1 8 x) 3689348814741910323 h (by decide)
  have l := l2 8 (bm f1 8 x)
  rw [m51, bm_bm] at l
  rw [e, a1, a2, ← Int.natCast_add, l]
  have := bm2_lt x
  exact wrapu_nat _ (by omega)
theorem s3 (x : Nat) : bits .and .u64 (IntKind.u64.wrap (((bm (fun b => f2 (f1 b)) 8 x : Nat) : Int) / 16 + ((bm (fun b => f2 (f1 b)) 8 x : Nat) : Int))) 1085102592571150095 = ((bm ocB 8 x : Nat) : Int) := by
  have h := bm2_lt x
  have l := l3 8 x
  rw [m15] at l
  generalize bm (fun b => f2 (f1 b)) 8 x = y at *
  have e : ((y : Int) / 16 + (y : Int)) = ((y / 16 + y : Nat) : Int) := by omega
  have a1 : bits .and .u64 ((y / 16 + y : Nat) : Int) 1085102592571150095 = (((y / 16 + y) &&& 1085102592571150095 : Nat) : Int) := bits_and_u64_nat (y / 16 + y) 1085102592571150095 (by omega) (by decide)
  rw [e, wrapu_nat _ (by omega), a1, l]

theorem oc_end (z : Nat) (h : z < 9223372036854775808) : bits .and .i64 (z : Int) 127 = ((z % 128 : Nat) : Int) := by
  have e8 := bits_mask .i64 63 (by decide) (fun n a b => by rw [IntKind.wrap_i64]; omega) 7 (by decide) (z : Int) (by omega) (by omega)
  have e9 : bits .and .i64 (z : Int) 127 = (z : Int) % 128 := by simpa using e8
  rw [e9]; omega

end Go.Proofs.Ytmeaikmmhgmgnaa
/-
  What the calls of package word that count do.
-/
namespace Go.Proofs.Ytmeaikmmhgmgnaa
open Go.RowKit
set_option linter.unusedSimpArgs false
set_option linter.unusedVariables false

/-- How many bits are set. -/
def onesN (x : BitVec 128) : Nat := oc 8 (hv x).toNat + oc 8 (lv x).toNat
theorem ones_not (x : BitVec 128) : onesN x + onesN (~~~x) = 128 := by
  have a := oc_not 8 (hv x).toNat (hv x).isLt
  have b := oc_not 8 (lv x).toNat (lv x).isLt
  have eh : (hv (~~~x)).toNat = 256 ^ 8 - 1 - (hv x).toNat := by
    have : hv (~~~x) = ~~~(hv x) := by rw [hv_not]; apply BitVec.eq_of_getLsbD_eq; intro i hi; simp only [BitVec.getLsbD_xor, BitVec.getLsbD_not, BitVec.getLsbD_allOnes, hi, decide_true, Bool.true_xor, Bool.true_and]
    rw [this, BitVec.toNat_not]
  have el : (lv (~~~x)).toNat = 256 ^ 8 - 1 - (lv x).toNat := by
    have : lv (~~~x) = ~~~(lv x) := by rw [lv_not]; apply BitVec.eq_of_getLsbD_eq; intro i hi; simp only [BitVec.getLsbD_xor, BitVec.getLsbD_not, BitVec.getLsbD_allOnes, hi, decide_true, Bool.true_xor, Bool.true_and]
    rw [this, BitVec.toNat_not]
  unfold onesN; rw [eh, el]; omega

theorem lead_hi (x : BitVec 128) (h : ¬ hI x = 0) : 64 - bitLen (hI x).toNat = leadN x ∧ bitLen (hI x).toNat ≤ 64 := by
  have e : (hI x).toNat = x.toNat / 2 ^ 64 := by rw [hIN]; rfl
  have hlo := hI_lo x
  have hn : x.toNat / 2 ^ 64 ≠ 0 := by omega
  have hx : x.toNat ≠ 0 := by intro h0; rw [h0] at hn; simp at hn
  have hs := bitLen_shift x.toNat 64 hn
  have hl : x.toNat.log2 < 128 := (Nat.log2_lt hx).mpr x.isLt
  rw [e]
  unfold leadN; rw [if_neg hx]
  have hb : bitLen x.toNat = x.toNat.log2 + 1 := by unfold bitLen; rw [if_neg hx]
  constructor <;> omega
theorem lead_lo (x : BitVec 128) (h : hI x = 0) : 64 + (64 - bitLen (lI x).toNat) = leadN x ∧ bitLen (lI x).toNat ≤ 64 := by
  have e : (lI x).toNat = x.toNat := by rw [lIN]; rw [hIN] at h; omega
  have hlt : x.toNat < 2 ^ 64 := by have := lI_up x; have := lI_lo x; omega
  rw [e]
  unfold leadN bitLen
  by_cases hx : x.toNat = 0
  · simp [hx]
  · rw [if_neg hx, if_neg hx]
    have := (Nat.log2_lt hx).mpr hlt
    constructor <;> omega

set_option maxHeartbeats 1000000 in
theorem lead_any (x : BitVec 128) (w : World) :
    Calls Try.prog 81 #[.agg #[.int .u64 (hI x), .int .u64 (lI x)]] w fun e w' => e = .returned (.int .i64 ((leadN x : Nat) : Int)) ∧ Below w.heap.size w w' := by
  by_cases h : hI x = 0
  · have hl := lead_lo x h
    have hc := fun w => len_any (lI x) w (lI_lo x) (lI_up x)
    generalize bitLen (lI x).toNat = a at *
    obtain ⟨h1, h2⟩ := hl
    have HE : Hid (64 + (64 - a) = leadN x) := h1
    clear h1
    have a1 : (a : Int) ≤ 64 := by omega
    go_enter Try.func81, Try.ntmps81
    go_wp2_with (first | (go_at_call 98; refine (hc _).mono ?_; rintro e w' ⟨rfl, rfl⟩) | go_in)
    go_ret
    refine ⟨congrArg Ending.returned (congrArg (Value.int IntKind.i64) ?_), bl1 _ _⟩
    rw [← HE.out]
    show (64 : Int) + (64 - (a : Int)) = _
    omega
  · have hl := lead_hi x h
    have hc := fun w => len_any (hI x) w (hI_lo x) (hI_up x)
    generalize bitLen (hI x).toNat = a at *
    obtain ⟨h1, h2⟩ := hl
    have HE : Hid (64 - a = leadN x) := h1
    clear h1
    have a1 : (a : Int) ≤ 64 := by omega
    go_enter Try.func81, Try.ntmps81
    go_wp2_with (first | (go_at_call 98; refine (hc _).mono ?_; rintro e w' ⟨rfl, rfl⟩) | go_in)
    go_ret
    refine ⟨congrArg Ending.returned (congrArg (Value.int IntKind.i64) ?_), bl1 _ _⟩
    rw [← HE.out]
    show (64 : Int) - (a : Int) = _
    omega

set_option maxHeartbeats 1000000 in
theorem wcommon_any (x y : BitVec 128) (w : World) :
    Calls Try.prog 73 #[.agg #[.int .u64 (hI x), .int .u64 (lI x)], .agg #[.int .u64 (hI y), .int .u64 (lI y)]] w fun e w' => e = .returned (.int .i64 ((leadN (x ^^^ y) : Nat) : Int)) ∧ Below w.heap.size w w' := by
  go_enter Try.func73, Try.ntmps73
  go_wp2_with fail
  refine (xor_any _ _ _).mono ?_
  rintro e w1 ⟨rfl, hb1⟩
  go_wp2_with fail
  refine (lead_any _ _).mono ?_
  rintro e w2 ⟨rfl, hb2⟩
  have kB := keepb hb2 (keepb hb1 (bl2 w _ _))
  clear hb1 hb2
  go_wp2
  go_ret
  exact ⟨rfl, kB⟩
end Go.Proofs.Ytmeaikmmhgmgnaa
/-
  What the calls of package prefix's Within, Check, Of, Parent, Sibling, Meet, Cmp do.
-/
namespace Go.Proofs.Ytmeaikmmhgmgnaa
open Go.RowKit
set_option linter.unusedSimpArgs false
set_option linter.unusedVariables false

def withinB (x : BitVec 128) (n : Int) (y : BitVec 128) (m : Int) : Bool := decide (m ≤ n) && (cutW x m == y)
set_option maxHeartbeats 1000000 in
theorem pwithin_any (x : BitVec 128) (n : Int) (y : BitVec 128) (m : Int) (w : World) :
    Calls Try.prog 57 #[.agg #[.int .u64 (hI x), .int .u64 (lI x), .int .i64 n], .agg #[.int .u64 (hI y), .int .u64 (lI y), .int .i64 m]] w fun e w' => e = .returned (.bool (withinB x n y m)) ∧ Below w.heap.size w w' := by
  have KH := fun w => has_any y m x w
  unfold withinB
  generalize (cutW x m == y) = b at *
  by_cases h : m ≤ n
  · simp only [h, decide_true, Bool.true_and]
    go_enter Try.func57, Try.ntmps57
    go_wp2_with fail
    refine (KH _).mono ?_
    rintro e w1 ⟨rfl, hb1⟩
    have kB := keepb hb1 (bl2 w _ _)
    clear hb1
    go_wp2
    go_ret
    exact ⟨rfl, kB⟩
  · simp only [h, decide_false, Bool.false_and]
    go_enter Try.func57, Try.ntmps57
    go_wp2
    go_ret
    exact ⟨rfl, bl2 _ _ _⟩

def checkE (F : Int) (x : BitVec 128) (n : Int) : Int := if fam F = true then (if n < 0 then 13 else if F < n then 13 else if (cutW x n == x) = true then 0 else 14) else 11
set_option maxHeartbeats 1000000 in
theorem pcheck_any (F : Int) (x : BitVec 128) (n : Int) (w : World) :
    Calls Try.prog 51 #[.int .i64 F, .agg #[.int .u64 (hI x), .int .u64 (lI x), .int .i64 n]] w fun e w' => e = .returned (.int .i64 (checkE F x n)) ∧ Below w.heap.size w w' := by
  have KL := fun w => alast_any F w
  unfold lastV lastE at KL
  unfold checkE
  cases h : fam F
  · rw [if_neg (by simp)]
    rw [h, if_neg (by simp), if_neg (by simp), hI_zero, lI_zero] at KL
    clear h
    go_enter Try.func51, Try.ntmps51
    go_wp2_with fail
    refine (KL _).mono ?_
    rintro e w1 ⟨rfl, hb1⟩
    have kB := keepb hb1 (bl1 w _)
    clear hb1 KL
    go_wp2
    go_ret
    exact ⟨rfl, kB.alloc (by have := kB.size; omega) _⟩
  · rw [if_pos rfl]
    rw [h, if_pos rfl, if_pos rfl] at KL
    clear h
    generalize maskW F = m at *
    have KC := fun w => cut_any x n w
    revert KC
    generalize cutW x n = c
    intro KC
    have hnn : (n == n) = true := by simp
    by_cases h0 : n < 0
    · rw [if_pos h0]
      go_enter Try.func51, Try.ntmps51
      go_wp2_with fail
      refine (KL _).mono ?_
      rintro e w1 ⟨rfl, hb1⟩
      have kB := keepb hb1 (bl1 w _)
      obtain ⟨p0, p1, p2, -, -, -⟩ := ((atp_new w w.heap.size x n 38 rfl).below hb1).below (bl1 _ (.cells #[.int .u64 (hI m), .int .u64 (lI m)] 36))
      clear hb1 KL
      go_wp2
      go_ret
      exact ⟨rfl, kB.alloc (by have := kB.size; omega) _⟩
    by_cases h1 : F < n
    · rw [if_neg h0, if_pos h1]
      go_enter Try.func51, Try.ntmps51
      go_wp2_with fail
      refine (KL _).mono ?_
      rintro e w1 ⟨rfl, hb1⟩
      have kB := keepb hb1 (bl1 w _)
      obtain ⟨p0, p1, p2, -, -, -⟩ := ((atp_new w w.heap.size x n 38 rfl).below hb1).below (bl1 _ (.cells #[.int .u64 (hI m), .int .u64 (lI m)] 36))
      clear hb1 KL
      go_wp2
      go_ret
      exact ⟨rfl, kB.alloc (by have := kB.size; omega) _⟩
    rw [if_neg h0, if_neg h1]
    rcases eqw c x with ⟨q1, q2, q3⟩ | ⟨q1, q3⟩ | ⟨q1, q2, q3⟩
    all_goals
      rw [q3]
      first | rw [if_pos rfl] | rw [if_neg (by simp)]
      clear q3
      go_enter Try.func51, Try.ntmps51
      go_wp2_with fail
      refine (KL _).mono ?_
      rintro e w1 ⟨rfl, hb1⟩
      have kB := keepb hb1 (bl1 w _)
      obtain ⟨p0, p1, p2, -, -, -⟩ := ((atp_new w w.heap.size x n 38 rfl).below hb1).below (bl1 _ (.cells #[.int .u64 (hI m), .int .u64 (lI m)] 36))
      have kB2 := (kB.alloc (by have := kB.size; omega) (.cells #[.int .u64 (hI m), .int .u64 (lI m)] 36)).drew
      clear hb1 KL kB
      go_wp2_with fail
      go_region_held3 (fun w' => w'.cell? ⟨w.heap.size, 0, none⟩ = some (.int .u64 (hI x)) ∧ w'.cell? ⟨w.heap.size, 1, none⟩ = some (.int .u64 (lI x)) ∧ w'.cell? ⟨w.heap.size, 2, none⟩ = some (.int .i64 n) ∧ Below w.heap.size w w')
        (first
          | (obtain ⟨k1, k2, k3, k9⟩ := ‹_ ∧ _›; exact ⟨keepc hb3 k1, keepc hb3 k2, keepc hb3 k3, keepb hb3 k9⟩)
          | exact ⟨p0, p1, p2, kB2⟩)
        (first | (go_at_call 69; refine (KC _).mono ?_; rintro e w3 ⟨rfl, hb3⟩))
      obtain ⟨-, -, -, kB3⟩ := ‹_ ∧ _›
      go_wp2
      go_ret
      exact ⟨rfl, kB3⟩

def ofE (F : Int) (x : BitVec 128) (n : Int) : Int := if rightE F x = 0 then checkE F (cutW x n) n else rightE F x
def ofV (F : Int) (x : BitVec 128) (n : Int) : BitVec 128 := if ofE F x n = 0 then cutW x n else 0#128
def ofN (F : Int) (x : BitVec 128) (n : Int) : Int := if ofE F x n = 0 then n else 0
end Go.Proofs.Ytmeaikmmhgmgnaa
/-
  What the calls of package prefix's Parent, Sibling, Cmp, Meet do, of right prefixes.
-/
namespace Go.Proofs.Ytmeaikmmhgmgnaa
open Go.RowKit
set_option linter.unusedSimpArgs false
set_option linter.unusedVariables false

def parentV (x : BitVec 128) (n : Int) : BitVec 128 := if n ≤ 0 then 0#128 else cutW x (n - 1)
def parentN (n : Int) : Int := if n ≤ 0 then 0 else n - 1
def sibV (x : BitVec 128) (n : Int) : BitVec 128 := if n ≤ 0 then 0#128 else x ^^^ bit1 (n - 1)
def sibN (n : Int) : Int := if n ≤ 0 then 0 else n
def cmpI (a b : Int) : Int := if a < b then -1 else if b < a then 1 else 0
theorem compare_any (a b : Int) (w : World) :
    Calls Try.prog 60 #[.int .i64 a, .int .i64 b] w fun e w' => e = .returned (.int .i64 (cmpI a b)) ∧ w' = w := by
  unfold cmpI
  have haa : (a != a) = false := by simp
  have hbb : (b != b) = false := by simp
  by_cases h : a < b
  · rw [if_pos h]
    go_enter Try.func60, Try.ntmps60
    go_wp2_with go_in
    go_ret
    exact ⟨rfl, rfl⟩
  · rw [if_neg h]
    by_cases h2 : b < a
    · rw [if_pos h2]
      go_enter Try.func60, Try.ntmps60
      go_wp2_with go_in
      go_ret
      exact ⟨rfl, rfl⟩
    · rw [if_neg h2]
      go_enter Try.func60, Try.ntmps60
      go_wp2_with go_in
      go_ret
      exact ⟨rfl, rfl⟩
def pcmpZ (x : BitVec 128) (n : Int) (y : BitVec 128) (m : Int) : Int := if cmpZ x y = 0 then cmpI n m else cmpZ x y
set_option maxHeartbeats 1000000 in
theorem pcmp_any (x : BitVec 128) (n : Int) (y : BitVec 128) (m : Int) (w : World) :
    Calls Try.prog 46 #[.agg #[.int .u64 (hI x), .int .u64 (lI x), .int .i64 n], .agg #[.int .u64 (hI y), .int .u64 (lI y), .int .i64 m]] w fun e w' => e = .returned (.int .i64 (pcmpZ x n y m)) ∧ Below w.heap.size w w' := by
  have KC := fun w => cmp_any x y w
  have KM := fun w => compare_any n m w
  unfold pcmpZ
  generalize cmpZ x y = c at *
  generalize cmpI n m = d at *
  by_cases h : c = 0
  · subst h
    rw [if_pos rfl]
    go_enter Try.func46, Try.ntmps46
    go_wp2_with fail
    refine (KC _).mono ?_
    rintro e w1 ⟨rfl, hb1⟩
    have kB := keepb hb1 (bl2 w _ _)
    obtain ⟨p0, p1, p2, -, -, -⟩ := ((atp_new w w.heap.size x n 38 rfl).below (bl1 _ (.cells #[.int .u64 (hI y), .int .u64 (lI y), .int .i64 m] 38))).below hb1
    obtain ⟨r0, r1, r2, -, -, -⟩ := (atp_new (w.alloc (.cells #[.int .u64 (hI x), .int .u64 (lI x), .int .i64 n] 38)) (w.heap.size + 1) y m 38 (by simp)).below hb1
    clear hb1 KC
    go_wp2_with fail
    refine (KM _).mono ?_
    rintro e w2 ⟨rfl, rfl⟩
    go_wp2
    go_ret
    exact ⟨rfl, kB⟩
  · have hb : (c != 0) = true := by simp [h]
    rw [if_neg h]
    go_enter Try.func46, Try.ntmps46
    go_wp2_with fail
    refine (KC _).mono ?_
    rintro e w1 ⟨rfl, hb1⟩
    have kB := keepb hb1 (bl2 w _ _)
    clear hb1 KC
    go_wp2
    go_ret
    exact ⟨rfl, kB⟩
end Go.Proofs.Ytmeaikmmhgmgnaa
