/-
  Plain numbers: the sum of a number's bits, as it is reckoned by halves.
-/
import Derived.Test.YtpchhfhdepkbcaaDoorNum3
namespace Go.Proofs.YtpchhfhdepkbcaaDoor
open Go.RowKit
set_option linter.unusedSimpArgs false
set_option linter.unusedVariables false

def ocB (b : Nat) : Nat := b % 2 + b / 2 % 2 + b / 4 % 2 + b / 8 % 2 + b / 16 % 2 + b / 32 % 2 + b / 64 % 2 + b / 128 % 2
def bm (f : Nat → Nat) : Nat → Nat → Nat
  | 0, _ => 0
  | k + 1, x => f (x % 256) + 256 * bm f k (x / 256)
def mm (m : Nat) : Nat → Nat
  | 0 => 0
  | k + 1 => m + 256 * mm m k
def oc : Nat → Nat → Nat
  | 0, _ => 0
  | k + 1, x => ocB (x % 256) + oc k (x / 256)
def f1 (b : Nat) : Nat := ((b / 2) &&& 85) + (b &&& 85)
def f2 (b : Nat) : Nat := ((b / 4) &&& 51) + (b &&& 51)
theorem and_split (a m M : Nat) (hm : m < 256) : a &&& (m + 256 * M) = ((a % 256) &&& m) + 256 * ((a / 256) &&& M) := by
  have h1 : (a &&& (m + 256 * M)) % 2 ^ 8 = (a % 2 ^ 8) &&& ((m + 256 * M) % 2 ^ 8) := Nat.and_mod_two_pow
  have h2 : (a &&& (m + 256 * M)) / 2 ^ 8 = (a / 2 ^ 8) &&& ((m + 256 * M) / 2 ^ 8) := Nat.and_div_two_pow
  have e1 : (m + 256 * M) % 2 ^ 8 = m := by omega
  have e2 : (m + 256 * M) / 2 ^ 8 = M := by omega
  rw [e1] at h1
  rw [e2] at h2
  have e3 : (2 : Nat) ^ 8 = 256 := by decide
  rw [e3] at h1 h2
  have := Nat.div_add_mod (a &&& (m + 256 * M)) 256
  omega
set_option maxRecDepth 100000 in
theorem b1 : ∀ b : Fin 256, ∀ c : Fin 2, (b.val / 2 + 128 * c.val) &&& 85 = (b.val / 2) &&& 85 := by decide +kernel
theorem b2 : ∀ b : Fin 256, ∀ c : Fin 4, (b.val / 4 + 64 * c.val) &&& 51 = (b.val / 4) &&& 51 := by decide +kernel
theorem b3 : ∀ b : Fin 256, ∀ c : Fin 5, (f2 (f1 b.val) / 16 + 16 * c.val + f2 (f1 b.val)) &&& 15 = ocB b.val := by decide +kernel
theorem b4 : ∀ b : Fin 256, f1 b.val < 256 ∧ f2 (f1 b.val) % 16 ≤ 4 ∧ f2 (f1 b.val) / 16 ≤ 4 ∧ ocB b.val ≤ 8 ∧ ocB (255 - b.val) + ocB b.val = 8 := by decide +kernel
theorem l1 (k : Nat) : ∀ x, ((x / 2) &&& mm 85 k) + (x &&& mm 85 k) = bm f1 k x := by
  induction k with
  | zero => intro x; simp [mm, bm]
  | succ k ih =>
    intro x
    simp only [mm, bm]
    rw [and_split _ 85 _ (by decide), and_split _ 85 _ (by decide)]
    have e1 : (x / 2) % 256 = (x % 256) / 2 + 128 * (x / 256 % 2) := by omega
    have e2 : x / 2 / 256 = x / 256 / 2 := by omega
    have hb := b1 ⟨x % 256, by omega⟩ ⟨x / 256 % 2, by omega⟩
    have := ih (x / 256)
    rw [e1, e2]
    simp only at hb
    rw [hb]
    have hf : f1 (x % 256) = ((x % 256 / 2) &&& 85) + ((x % 256) &&& 85) := rfl
    omega
theorem l2 (k : Nat) : ∀ x, ((x / 4) &&& mm 51 k) + (x &&& mm 51 k) = bm f2 k x := by
  induction k with
  | zero => intro x; simp [mm, bm]
  | succ k ih =>
    intro x
    simp only [mm, bm]
    rw [and_split _ 51 _ (by decide), and_split _ 51 _ (by decide)]
    have e1 : (x / 4) % 256 = (x % 256) / 4 + 64 * (x / 256 % 4) := by omega
    have e2 : x / 4 / 256 = x / 256 / 4 := by omega
    have hb := b2 ⟨x % 256, by omega⟩ ⟨x / 256 % 4, by omega⟩
    have := ih (x / 256)
    rw [e1, e2]
    simp only at hb
    rw [hb]
    have hf : f2 (x % 256) = ((x % 256 / 4) &&& 51) + ((x % 256) &&& 51) := rfl
    omega
theorem bm_bm (k : Nat) : ∀ x, bm f2 k (bm f1 k x) = bm (fun b => f2 (f1 b)) k x := by
  induction k with
  | zero => intro x; rfl
  | succ k ih =>
    intro x
    have h := (b4 ⟨x % 256, by omega⟩).1
    simp only at h
    simp only [bm]
    have e1 : (f1 (x % 256) + 256 * bm f1 k (x / 256)) % 256 = f1 (x % 256) := by omega
    have e2 : (f1 (x % 256) + 256 * bm f1 k (x / 256)) / 256 = bm f1 k (x / 256) := by omega
    rw [e1, e2, ih]
theorem bm_mod (k : Nat) (x : Nat) : bm (fun b => f2 (f1 b)) k x % 16 ≤ 4 := by
  cases k with
  | zero => simp [bm]
  | succ k =>
    have h := (b4 ⟨x % 256, by omega⟩).2.1
    simp only at h
    simp only [bm]; omega
theorem l3 (k : Nat) : ∀ x, (bm (fun b => f2 (f1 b)) k x / 16 + bm (fun b => f2 (f1 b)) k x) &&& mm 15 k = bm ocB k x := by
  induction k with
  | zero => intro x; simp [mm, bm]
  | succ k ih =>
    intro x
    simp only [mm]
    rw [and_split _ 15 _ (by decide)]
    have hm := bm_mod k (x / 256)
    have h := (b4 ⟨x % 256, by omega⟩).2.1
    have h' := (b4 ⟨x % 256, by omega⟩).2.2.1
    have hb := b3 ⟨x % 256, by omega⟩ ⟨bm (fun b => f2 (f1 b)) k (x / 256) % 16, by omega⟩
    have := ih (x / 256)
    simp only [bm] at *
    generalize bm (fun b => f2 (f1 b)) k (x / 256) = y at *
    generalize f2 (f1 (x % 256)) = g at *
    have e1 : ((g + 256 * y) / 16 + (g + 256 * y)) % 256 = g / 16 + 16 * (y % 16) + g := by omega
    have e2 : ((g + 256 * y) / 16 + (g + 256 * y)) / 256 = y / 16 + y := by omega
    rw [e1, e2, hb, this]
theorem key (n a B z : Nat) (h : a < n) (e : z = a + n * B) : z / n = B := by
  rw [e, Nat.add_mul_div_left _ _ (by omega), Nat.div_eq_of_lt h]; omega
theorem add2 (a b R S : Nat) : (a + 256 * R) + (b + 256 * S) = (a + b) + 256 * (R + S) := by omega
theorem fold8 (q0 q1 q2 q3 q4 q5 q6 q7 : Nat) (c : q0 ≤ 8 ∧ q1 ≤ 8 ∧ q2 ≤ 8 ∧ q3 ≤ 8 ∧ q4 ≤ 8 ∧ q5 ≤ 8 ∧ q6 ≤ 8 ∧ q7 ≤ 8) (z z4 z5 z6 : Nat) (hz : z = q0 + 256 * (q1 + 256 * (q2 + 256 * (q3 + 256 * (q4 + 256 * (q5 + 256 * (q6 + 256 * q7)))))))
    (h4 : z4 = z + z / 256) (h5 : z5 = z4 + z4 / 65536) (h6 : z6 = z5 + z5 / 4294967296) : z6 % 128 = q0 + q1 + q2 + q3 + q4 + q5 + q6 + q7 := by
  have k4 : z / 256 = q1 + 256 * (q2 + 256 * (q3 + 256 * (q4 + 256 * (q5 + 256 * (q6 + 256 * q7))))) := key 256 q0 _ z (by omega) hz
  have t4 : z4 = (q0 + q1) + 256 * ((q1 + q2) + 256 * ((q2 + q3) + 256 * ((q3 + q4) + 256 * ((q4 + q5) + 256 * ((q5 + q6) + 256 * (q6 + 256 * q7 + q7)))))) := by
    rw [h4, k4, hz]; simp only [add2]
  have k5 : z4 / 65536 = (q2 + q3) + 256 * ((q3 + q4) + 256 * ((q4 + q5) + 256 * ((q5 + q6) + 256 * (q6 + 256 * q7 + q7)))) := by
    refine key 65536 ((q0 + q1) + 256 * (q1 + q2)) _ z4 (by clear hz h4 h5 h6 k4 t4; omega) ?_
    rw [t4]; generalize (q2 + q3) + 256 * ((q3 + q4) + 256 * ((q4 + q5) + 256 * ((q5 + q6) + 256 * (q6 + 256 * q7 + q7)))) = B
    clear hz h4 h5 h6 k4 t4; omega
  have t5 : z5 = (q0 + q1 + (q2 + q3)) + 256 * ((q1 + q2 + (q3 + q4)) + 256 * ((q2 + q3 + (q4 + q5)) + 256 * ((q3 + q4 + (q5 + q6)) + 256 * ((q4 + q5) + 256 * ((q5 + q6) + 256 * (q6 + 256 * q7 + q7)) + (q6 + 256 * q7 + q7))))) := by
    rw [h5, k5, t4]; simp only [add2]
  have k6 : z5 / 4294967296 = (q4 + q5) + 256 * ((q5 + q6) + 256 * (q6 + 256 * q7 + q7)) + (q6 + 256 * q7 + q7) := by
    refine key 4294967296 ((q0 + q1 + (q2 + q3)) + 256 * ((q1 + q2 + (q3 + q4)) + 256 * ((q2 + q3 + (q4 + q5)) + 256 * (q3 + q4 + (q5 + q6))))) _ z5 (by clear hz h4 h5 h6 k4 t4 k5 t5; omega) ?_
    rw [t5]; generalize (q4 + q5) + 256 * ((q5 + q6) + 256 * (q6 + 256 * q7 + q7)) + (q6 + 256 * q7 + q7) = B
    clear hz h4 h5 h6 k4 t4 k5 t5; omega
  rw [h6, k6, t5]
  generalize (q1 + q2 + (q3 + q4)) + 256 * ((q2 + q3 + (q4 + q5)) + 256 * ((q3 + q4 + (q5 + q6)) + 256 * ((q4 + q5) + 256 * ((q5 + q6) + 256 * (q6 + 256 * q7 + q7)) + (q6 + 256 * q7 + q7)))) = B
  generalize (q5 + q6) + 256 * (q6 + 256 * q7 + q7) = C
  clear hz h4 h5 h6 k4 t4 k5 t5 k6
  have e : q0 + q1 + (q2 + q3) + 256 * B + (q4 + q5 + 256 * C + (q6 + 256 * q7 + q7)) = (q0 + q1 + q2 + q3 + q4 + q5 + q6 + q7) + 128 * (2 * (B + C + q7)) := by omega
  rw [e, Nat.add_mul_mod_self_left, Nat.mod_eq_of_lt (by omega)]
theorem bmo_lt (k : Nat) : ∀ x, bm ocB k x ≤ 8 * mm 1 k := by
  induction k with
  | zero => intro x; simp [bm, mm]
  | succ k ih =>
    intro x; have := ih (x / 256); have h1 := (b4 ⟨x % 256, by omega⟩).2.2.2.1; simp only at h1
    simp only [bm, mm]; omega
theorem oc_fold (x : Nat) (z4 z5 z6 : Nat) (h4 : z4 = bm ocB 8 x + bm ocB 8 x / 256) (h5 : z5 = z4 + z4 / 65536) (h6 : z6 = z5 + z5 / 4294967296) : z4 < 18446744073709551616 ∧ z5 < 18446744073709551616 ∧ z6 < 9223372036854775808 ∧ z6 % 128 = oc 8 x := by
  have hb := bmo_lt 8 x
  have e1 : mm 1 8 = 72340172838076673 := by decide
  rw [e1] at hb
  refine ⟨by omega, by omega, by omega, ?_⟩
  have c : ∀ y, ocB (y % 256) ≤ 8 := fun y => (b4 ⟨y % 256, by omega⟩).2.2.2.1
  have := fold8 (ocB (x % 256)) (ocB (x / 256 % 256)) (ocB (x / 256 / 256 % 256)) (ocB (x / 256 / 256 / 256 % 256)) (ocB (x / 256 / 256 / 256 / 256 % 256)) (ocB (x / 256 / 256 / 256 / 256 / 256 % 256)) (ocB (x / 256 / 256 / 256 / 256 / 256 / 256 % 256)) (ocB (x / 256 / 256 / 256 / 256 / 256 / 256 / 256 % 256)) ⟨c _, c _, c _, c _, c _, c _, c _, c _⟩ (bm ocB 8 x) z4 z5 z6 (by simp only [bm]; rfl) h4 h5 h6
  rw [this]; simp only [oc]; omega
theorem oc_le (k : Nat) : ∀ x, oc k x ≤ 8 * k := by
  induction k with
  | zero => intro x; simp [oc]
  | succ k ih => intro x; have := ih (x / 256); have h := (b4 ⟨x % 256, by omega⟩).2.2.2.1; simp only at h; simp only [oc]; omega
theorem oc_not (k : Nat) : ∀ x, x < 256 ^ k → oc k (256 ^ k - 1 - x) + oc k x = 8 * k := by
  induction k with
  | zero => intro x _; simp [oc]
  | succ k ih =>
    intro x hx
    have hp : 0 < 256 ^ k := Nat.pow_pos (by decide)
    have hx2 : x / 256 < 256 ^ k := by rw [Nat.div_lt_iff_lt_mul (by decide)]; rw [Nat.pow_succ] at hx; omega
    have := ih (x / 256) hx2
    have hb := (b4 ⟨x % 256, by omega⟩).2.2.2.2
    simp only at hb
    simp only [oc]
    rw [Nat.pow_succ]
    generalize 256 ^ k = p at *
    have e1 : (p * 256 - 1 - x) % 256 = 255 - x % 256 := by omega
    have e2 : (p * 256 - 1 - x) / 256 = p - 1 - x / 256 := by omega
    rw [e1, e2]; omega
end Go.Proofs.YtpchhfhdepkbcaaDoor
