/-
  Part 4 of the proof: 8 texts, one behind the other.
-/
import Derived.Test.YtmkjlcfoedglmaaPart3
import Derived.Test.YtmkjlcfoedglmaaPart1
import Derived.Test.YtmkjlcfoedglmaaPart2
import Derived.Deep.AppendLies
/-
  Plain numbers: the sum of a number's bits, as it is reckoned by halves.
-/
namespace Go.Proofs.Ytmkjlcfoedglmaa
open Go.RowKit
set_option linter.unusedSimpArgs false
set_option linter.unusedVariables false

def ocB (b : Nat) : Nat := b % 2 + b / 2 % 2 + b / 4 % 2 + b / 8 % 2 + b / 16 % 2 + b / 32 % 2 + b / 64 % 2 + b / 128 % 2
def bm (f : Nat → Nat) : Nat → Nat → Nat
  | 0, _ => 0
  | k + 1, x => f (x % 256) + 256 * bm f k (x / 256)
def mm (m : Nat) : Nat → Nat
  | 0 => 0
  | k + 1 => m + 256 * mm m k
def oc : Nat → Nat → Nat
  | 0, _ => 0
  | k + 1, x => ocB (x % 256) + oc k (x / 256)
def f1 (b : Nat) : Nat := ((b / 2) &&& 85) + (b &&& 85)
def f2 (b : Nat) : Nat := ((b / 4) &&& 51) + (b &&& 51)
theorem and_split (a m M : Nat) (hm : m < 256) : a &&& (m + 256 * M) = ((a % 256) &&& m) + 256 * ((a / 256) &&& M) := by
  have h1 : (a &&& (m + 256 * M)) % 2 ^ 8 = (a % 2 ^ 8) &&& ((m + 256 * M) % 2 ^ 8) := Nat.and_mod_two_pow
  have h2 : (a &&& (m + 256 * M)) / 2 ^ 8 = (a / 2 ^ 8) &&& ((m + 256 * M) / 2 ^ 8) := Nat.and_div_two_pow
  have e1 : (m + 256 * M) % 2 ^ 8 = m := by omega
  have e2 : (m + 256 * M) / 2 ^ 8 = M := by omega
  rw [e1] at h1
  rw [e2] at h2
  have e3 : (2 : Nat) ^ 8 = 256 := by decide
  rw [e3] at h1 h2
  have := Nat.div_add_mod (a &&& (m + 256 * M)) 256
  omega
set_option maxRecDepth 100000 in
theorem b1 : ∀ b : Fin 256, ∀ c : Fin 2, (b.val / 2 + 128 * c.val) &&& 85 = (b.val / 2) &&& 85 := by decide +kernel
theorem b2 : ∀ b : Fin 256, ∀ c : Fin 4, (b.val / 4 + 64 * c.val) &&& 51 = (b.val / 4) &&& 51 := by decide +kernel
theorem b3 : ∀ b : Fin 256, ∀ c : Fin 5, (f2 (f1 b.val) / 16 + 16 * c.val + f2 (f1 b.val)) &&& 15 = ocB b.val := by decide +kernel
theorem b4 : ∀ b : Fin 256, f1 b.val < 256 ∧ f2 (f1 b.val) % 16 ≤ 4 ∧ f2 (f1 b.val) / 16 ≤ 4 ∧ ocB b.val ≤ 8 ∧ ocB (255 - b.val) + ocB b.val = 8 := by decide +kernel
theorem l1 (k : Nat) : ∀ x, ((x / 2) &&& mm 85 k) + (x &&& mm 85 k) = bm f1 k x := by
  induction k with
  | zero => intro x; simp [mm, bm]
  | succ k ih =>
    intro x
    simp only [mm, bm]
    rw [and_split _ 85 _ (by decide), and_split _ 85 _ (by decide)]
    have e1 : (x / 2) % 256 = (x % 256) / 2 + 128 * (x / 256 % 2) := by omega
    have e2 : x / 2 / 256 = x / 256 / 2 := by omega
    have hb := b1 ⟨x % 256, by omega⟩ ⟨x / 256 % 2, by omega⟩
    have := ih (x / 256)
    rw [e1, e2]
    simp only at hb
    rw [hb]
    have hf : f1 (x % 256) = ((x % 256 / 2) &&& 85) + ((x % 256) &&& 85) := rfl
    omega
theorem l2 (k : Nat) : ∀ x, ((x / 4) &&& mm 51 k) + (x &&& mm 51 k) = bm f2 k x := by
  induction k with
  | zero => intro x; simp [mm, bm]
  | succ k ih =>
    intro x
    simp only [mm, bm]
    rw [and_split _ 51 _ (by decide), and_split _ 51 _ (by decide)]
    have e1 : (x / 4) % 256 = (x % 256) / 4 + 64 * (x / 256 % 4) := by omega
    have e2 : x / 4 / 256 = x / 256 / 4 := by omega
    have hb := b2 ⟨x % 256, by omega⟩ ⟨x / 256 % 4, by omega⟩
    have := ih (x / 256)
    rw [e1, e2]
    simp only at hb
    rw [hb]
    have hf : f2 (x % 256) = ((x % 256 / 4) &&& 51) + ((x % 256) &&& 51) := rfl
    omega
theorem bm_bm (k : Nat) : ∀ x, bm f2 k (bm f1 k x) = bm (fun b => f2 (f1 b)) k x := by
  induction k with
  | zero => intro x; rfl
  | succ k ih =>
    intro x
    have h := (b4 ⟨x % 256, by omega⟩).1
    simp only at h
    simp only [bm]
    have e1 : (f1 (x % 256) + 256 * bm f1 k (x / 256)) % 256 = f1 (x % 256) := by omega
    have e2 : (f1 (x % 256) + 256 * bm f1 k (x / 256)) / 256 = bm f1 k (x / 256) := by omega
    rw [e1, e2, ih]
theorem bm_mod (k : Nat) (x : Nat) : bm (fun b => f2 (f1 b)) k x % 16 ≤ 4 := by
  cases k with
  | zero => simp [bm]
  | succ k =>
    have h := (b4 ⟨x % 256, by omega⟩).2.1
    simp only at h
    simp only [bm]; omega
theorem l3 (k : Nat) : ∀ x, (bm (fun b => f2 (f1 b)) k x / 16 + bm (fun b => f2 (f1 b)) k x) &&& mm 15 k = bm ocB k x := by
  induction k with
  | zero => intro x; simp [mm, bm]
  | succ k ih =>
    intro x
    simp only [mm]
    rw [and_split _ 15 _ (by decide)]
    have hm := bm_mod k (x / 256)
    have h := (b4 ⟨x % 256, by omega⟩).2.1
    have h' := (b4 ⟨x % 256, by omega⟩).2.2.1
    have hb := b3 ⟨x % 256, by omega⟩ ⟨bm (fun b => f2 (f1 b)) k (x / 256) % 16, by omega⟩
    have := ih (x / 256)
    simp only [bm] at *
    generalize bm (fun b => f2 (f1 b)) k (x / 256) = y at *
    generalize f2 (f1 (x % 256)) = g at *
    have e1 : ((g + 256 * y) / 16 + (g + 256 * y)) % 256 = g / 16 + 16 * (y % 16) + g := by omega
    have e2 : ((g + 256 * y) / 16 + (g + 256 * y)) / 256 = y / 16 + y := by omega
    rw [e1, e2, hb, this]
theorem key (n a B z : Nat) (h : a < n) (e : z = a + n * B) : z / n = B := by
  rw [e, Nat.add_mul_div_left _ _ (by omega), Nat.div_eq_of_lt h]; omega
theorem add2 (a b R S : Nat) : (a + 256 * R) + (b + 256 * S) = (a + b) + 256 * (R + S) := by omega
theorem fold8 (q0 q1 q2 q3 q4 q5 q6 q7 : Nat) (c : q0 ≤ 8 ∧ q1 ≤ 8 ∧ q2 ≤ 8 ∧ q3 ≤ 8 ∧ q4 ≤ 8 ∧ q5 ≤ 8 ∧ q6 ≤ 8 ∧ q7 ≤ 8) (z z4 z5 z6 : Nat) (hz : z = q0 + 256 * (q1 + 256 * (q2 + 256 * (q3 + 256 * (q4 + 256 * (q5 + 256 * (q6 + 256 * q7)))))))
    (h4 : z4 = z + z / 256) (h5 : z5 = z4 + z4 / 65536) (h6 : z6 = z5 + z5 / 4294967296) : z6 % 128 = q0 + q1 + q2 + q3 + q4 + q5 + q6 + q7 := by
  have k4 : z / 256 = q1 + 256 * (q2 + 256 * (q3 + 256 * (q4 + 256 * (q5 + 256 * (q6 + 256 * q7))))) := key 256 q0 _ z (by omega) hz
  have t4 : z4 = (q0 + q1) + 256 * ((q1 + q2) + 256 * ((q2 + q3) + 256 * ((q3 + q4) + 256 * ((q4 + q5) + 256 * ((q5 + q6) + 256 * (q6 + 256 * q7 + q7)))))) := by
    rw [h4, k4, hz]; simp only [add2]
  have k5 : z4 / 65536 = (q2 + q3) + 256 * ((q3 + q4) + 256 * ((q4 + q5) + 256 * ((q5 + q6) + 256 * (q6 + 256 * q7 + q7)))) := by
    refine key 65536 ((q0 + q1) + 256 * (q1 + q2)) _ z4 (by clear hz h4 h5 h6 k4 t4; omega) ?_
    rw [t4]; generalize (q2 + q3) + 256 * ((q3 + q4) + 256 * ((q4 + q5) + 256 * ((q5 + q6) + 256 * (q6 + 256 * q7 + q7)))) = B
    clear hz h4 h5 h6 k4 t4; omega
  have t5 : z5 = (q0 + q1 + (q2 + q3)) + 256 * ((q1 + q2 + (q3 + q4)) + 256 * ((q2 + q3 + (q4 + q5)) + 256 * ((q3 + q4 + (q5 + q6)) + 256 * ((q4 + q5) + 256 * ((q5 + q6) + 256 * (q6 + 256 * q7 + q7)) + (q6 + 256 * q7 + q7))))) := by
    rw [h5, k5, t4]; simp only [add2]
  have k6 : z5 / 4294967296 = (q4 + q5) + 256 * ((q5 + q6) + 256 * (q6 + 256 * q7 + q7)) + (q6 + 256 * q7 + q7) := by
    refine key 4294967296 ((q0 + q1 + (q2 + q3)) + 256 * ((q1 + q2 + (q3 + q4)) + 256 * ((q2 + q3 + (q4 + q5)) + 256 * (q3 + q4 + (q5 + q6))))) _ z5 (by clear hz h4 h5 h6 k4 t4 k5 t5; omega) ?_
    rw [t5]; generalize (q4 + q5) + 256 * ((q5 + q6) + 256 * (q6 + 256 * q7 + q7)) + (q6 + 256 * q7 + q7) = B
    clear hz h4 h5 h6 k4 t4 k5 t5; omega
  rw [h6, k6, t5]
  generalize (q1 + q2 + (q3 + q4)) + 256 * ((q2 + q3 + (q4 + q5)) + 256 * ((q3 + q4 + (q5 + q6)) + 256 * ((q4 + q5) + 256 * ((q5 + q6) + 256 * (q6 + 256 * q7 + q7)) + (q6 + 256 * q7 + q7)))) = B
  generalize (q5 + q6) + 256 * (q6 + 256 * q7 + q7) = C
  clear hz h4 h5 h6 k4 t4 k5 t5 k6
  have e : q0 + q1 + (q2 + q3) + 256 * B + (q4 + q5 + 256 * C + (q6 + 256 * q7 + q7)) = (q0 + q1 + q2 + q3 + q4 + q5 + q6 + q7) + 128 * (2 * (B + C + q7)) := by omega
  rw [e, Nat.add_mul_mod_self_left, Nat.mod_eq_of_lt (by omega)]
theorem bmo_lt (k : Nat) : ∀ x, bm ocB k x ≤ 8 * mm 1 k := by
  induction k with
  | zero => intro x; simp [bm, mm]
  | succ k ih =>
    intro x; have := ih (x / 256); have h1 := (b4 ⟨x % 256, by omega⟩).2.2.2.1; simp only at h1
    simp only [bm, mm]; omega
theorem oc_fold (x : Nat) (z4 z5 z6 : Nat) (h4 : z4 = bm ocB 8 x + bm ocB 8 x / 256) (h5 : z5 = z4 + z4 / 65536) (h6 : z6 = z5 + z5 / 4294967296) : z4 < 18446744073709551616 ∧ z5 < 18446744073709551616 ∧ z6 < 9223372036854775808 ∧ z6 % 128 = oc 8 x := by
  have hb := bmo_lt 8 x
  have e1 : mm 1 8 = 72340172838076673 := by decide
  rw [e1] at hb
  refine ⟨by omega, by omega, by omega, ?_⟩
  have c : ∀ y, ocB (y % 256) ≤ 8 := fun y => (b4 ⟨y % 256, by omega⟩).2.2.2.1
  have := fold8 (ocB (x % 256)) (ocB (x / 256 % 256)) (ocB (x / 256 / 256 % 256)) (ocB (x / 256 / 256 / 256 % 256)) (ocB (x / 256 / 256 / 256 / 256 % 256)) (ocB (x / 256 / 256 / 256 / 256 / 256 % 256)) (ocB (x / 256 / 256 / 256 / 256 / 256 / 256 % 256)) (ocB (x / 256 / 256 / 256 / 256 / 256 / 256 / 256 % 256)) ⟨c _, c _, c _, c _, c _, c _, c _, c _⟩ (bm ocB 8 x) z4 z5 z6 (by simp only [bm]; rfl) h4 h5 h6
  rw [this]; simp only [oc]; omega
theorem oc_le (k : Nat) : ∀ x, oc k x ≤ 8 * k := by
  induction k with
  | zero => intro x; simp [oc]
  | succ k ih => intro x; have := ih (x / 256); have h := (b4 ⟨x % 256, by omega⟩).2.2.2.1; simp only at h; simp only [oc]; omega
theorem oc_not (k : Nat) : ∀ x, x < 256 ^ k → oc k (256 ^ k - 1 - x) + oc k x = 8 * k := by
  induction k with
  | zero => intro x _; simp [oc]
  | succ k ih =>
    intro x hx
    have hp : 0 < 256 ^ k := Nat.pow_pos (by decide)
    have hx2 : x / 256 < 256 ^ k := by rw [Nat.div_lt_iff_lt_mul (by decide)]; rw [Nat.pow_succ] at hx; omega
    have := ih (x / 256) hx2
    have hb := (b4 ⟨x % 256, by omega⟩).2.2.2.2
    simp only at hb
    simp only [oc]
    rw [Nat.pow_succ]
    generalize 256 ^ k = p at *
    have e1 : (p * 256 - 1 - x) % 256 = 255 - x % 256 := by omega
    have e2 : (p * 256 - 1 - x) / 256 = p - 1 - x / 256 := by omega
    rw [e1, e2]; omega
end Go.Proofs.Ytmkjlcfoedglmaa
/-
  What the calls of math/bits that count do.
-/
namespace Go.Proofs.Ytmkjlcfoedglmaa
open Go.RowKit
set_option linter.unusedSimpArgs false
set_option linter.unusedVariables false

theorem len_sum (x y : Int) (k : Nat) (hx : 0 ≤ x) (hy : y = x / 2 ^ k) (h : 0 < y ∨ k = 0) : ((bitLen x.toNat : Nat) : Int) = k + bitLen y.toNat := by
  rcases h with h | h
  · have e : y.toNat = x.toNat / 2 ^ k := by
      rw [hy]
      obtain ⟨n, rfl⟩ := Int.eq_ofNat_of_zero_le hx
      have : ((n : Int) / 2 ^ k) = ((n / 2 ^ k : Nat) : Int) := by simp
      rw [this]; rfl
    have h2 : x.toNat / 2 ^ k ≠ 0 := by omega
    rw [bitLen_shift x.toNat k h2, e]; omega
  · subst h; simp at hy; subst hy; simp
theorem len_wrap (k : Int) (a : Nat) (ha : a ≤ 8) (h0 : 0 ≤ k) (h1 : k ≤ 56) : wrap64 (k + wrap64 (a : Int)) = k + a := by
  unfold wrap64; omega
theorem len_wrap0 (a : Nat) (ha : a ≤ 8) : wrap64 (wrap64 (a : Int)) = (a : Int) := by
  unfold wrap64; omega

theorem wrapu_nat (n : Nat) (h : n < 18446744073709551616) : IntKind.u64.wrap (n : Int) = (n : Int) := wrap_nat n h
theorem m85 : mm 85 8 = 6148914691236517205 := by decide
theorem m51 : mm 51 8 = 3689348814741910323 := by decide
theorem m15 : mm 15 8 = 1085102592571150095 := by decide
theorem bm_lt (f : Nat → Nat) (hf : ∀ b : Fin 256, f b.val < 256) (k : Nat) : ∀ x, bm f k x < 256 ^ k := by
  induction k with
  | zero => intro x; simp [bm]
  | succ k ih =>
    intro x; have := ih (x / 256); have h := hf ⟨x % 256, by omega⟩; simp only at h
    simp only [bm]; rw [Nat.pow_succ]; omega
theorem bm1_lt (x : Nat) : bm f1 8 x < 18446744073709551616 := bm_lt f1 (fun b => (b4 b).1) 8 x
theorem bm2_lt (x : Nat) : bm (fun b => f2 (f1 b)) 8 x < 4 * 256 ^ 8 / 8 := by
  have h : ∀ k x, bm (fun b => f2 (f1 b)) k x ≤ 68 * mm 1 k := by
    intro k; induction k with
    | zero => intro x; simp [bm, mm]
    | succ k ih =>
      intro x; have := ih (x / 256); have h1 := (b4 ⟨x % 256, by omega⟩).2.1; have h2 := (b4 ⟨x % 256, by omega⟩).2.2.1; simp only at h1 h2
      simp only [bm, mm]; omega
  have := h 8 x
  have e : mm 1 8 = 72340172838076673 := by decide
  rw [e] at this; omega
theorem s1 (x : Nat) (h : x < 18446744073709551616) : IntKind.u64.wrap (bits .and .u64 ((x : Int) / 2) 6148914691236517205 + bits .and .u64 (x : Int) 6148914691236517205) = ((bm f1 8 x : Nat) : Int) := by
  have e : ((x : Int) / 2) = ((x / 2 : Nat) : Int) := by omega
  have a1 : bits .and .u64 ((x / 2 : Nat) : Int) 6148914691236517205 = ((x / 2 &&& 6148914691236517205 : Nat) : Int) := bits_and_u64_nat (x / 2) 6148914691236517205 (by omega) (by decide)
  have a2 : bits .and .u64 (x : Int) 6148914691236517205 = ((x &&& 6148914691236517205 : Nat) : Int) := bits_and_u64_nat x 6148914691236517205 h (by decide)
  have l := l1 8 x
  rw [m85] at l
  rw [e, a1, a2, ← Int.natCast_add, l]
  exact wrapu_nat _ (bm1_lt x)
theorem s2 (x : Nat) : IntKind.u64.wrap (bits .and .u64 (((bm f1 8 x : Nat) : Int) / 4) 3689348814741910323 + bits .and .u64 ((bm f1 8 x : Nat) : Int) 3689348814741910323) = ((bm (fun b => f2 (f1 b)) 8 x : Nat) : Int) := by
  have h := bm1_lt x
  have e : (((bm f1 8 x : Nat) : Int) / 4) = ((bm f1 8 x / 4 : Nat) : Int) := by omega
  have a1 : bits .and .u64 ((bm f1 8 x / 4 : Nat) : Int) 3689348814741910323 = ((bm f1 8 x / 4 &&& 3689348814741910323 : Nat) : Int) := bits_and_u64_nat (bm f1 8 x / 4) 3689348814741910323 (by omega) (by decide)
  have a2 : bits .and .u64 ((bm f1 8 x : Nat) : Int) 3689348814741910323 = ((bm f1 8 x &&& 3689348814741910323 : Nat) : Int) := bits_and_u64_nat (bm f1 8 x) 3689348814741910323 h (by decide)
  have l := l2 8 (bm f1 8 x)
  rw [m51, bm_bm] at l
  rw [e, a1, a2, ← Int.natCast_add, l]
  have := bm2_lt x
  exact wrapu_nat _ (by omega)
theorem s3 (x : Nat) : bits .and .u64 (IntKind.u64.wrap (((bm (fun b => f2 (f1 b)) 8 x : Nat) : Int) / 16 + ((bm (fun b => f2 (f1 b)) 8 x : Nat) : Int))) 1085102592571150095 = ((bm ocB 8 x : Nat) : Int) := by
  have h := bm2_lt x
  have l := l3 8 x
  rw [m15] at l
  generalize bm (fun b => f2 (f1 b)) 8 x = y at *
  have e : ((y : Int) / 16 + (y : Int)) = ((y / 16 + y : Nat) : Int) := by omega
  have a1 : bits .and .u64 ((y / 16 + y : Nat) : Int) 1085102592571150095 = (((y / 16 + y) &&& 1085102592571150095 : Nat) : Int) := bits_and_u64_nat (y / 16 + y) 1085102592571150095 (by omega) (by decide)
  rw [e, wrapu_nat _ (by omega), a1, l]

theorem oc_end (z : Nat) (h : z < 9223372036854775808) : bits .and .i64 (z : Int) 127 = ((z % 128 : Nat) : Int) := by
  have e8 := bits_mask .i64 63 (by decide) (fun n a b => by rw [IntKind.wrap_i64]; omega) 7 (by decide) (z : Int) (by omega) (by omega)
  have e9 : bits .and .i64 (z : Int) 127 = (z : Int) % 128 := by simpa using e8
  rw [e9]; omega

end Go.Proofs.Ytmkjlcfoedglmaa
/-
  What the calls of package word that count do.
-/
namespace Go.Proofs.Ytmkjlcfoedglmaa
open Go.RowKit
set_option linter.unusedSimpArgs false
set_option linter.unusedVariables false

/-- How many bits are set. -/
def onesN (x : BitVec 128) : Nat := oc 8 (hv x).toNat + oc 8 (lv x).toNat
theorem ones_not (x : BitVec 128) : onesN x + onesN (~~~x) = 128 := by
  have a := oc_not 8 (hv x).toNat (hv x).isLt
  have b := oc_not 8 (lv x).toNat (lv x).isLt
  have eh : (hv (~~~x)).toNat = 256 ^ 8 - 1 - (hv x).toNat := by
    have : hv (~~~x) = ~~~(hv x) := by rw [hv_not]; apply BitVec.eq_of_getLsbD_eq; intro i hi; simp only [BitVec.getLsbD_xor, BitVec.getLsbD_not, BitVec.getLsbD_allOnes, hi, decide_true, Bool.true_xor, Bool.true_and]
    rw [this, BitVec.toNat_not]
  have el : (lv (~~~x)).toNat = 256 ^ 8 - 1 - (lv x).toNat := by
    have : lv (~~~x) = ~~~(lv x) := by rw [lv_not]; apply BitVec.eq_of_getLsbD_eq; intro i hi; simp only [BitVec.getLsbD_xor, BitVec.getLsbD_not, BitVec.getLsbD_allOnes, hi, decide_true, Bool.true_xor, Bool.true_and]
    rw [this, BitVec.toNat_not]
  unfold onesN; rw [eh, el]; omega

theorem lead_hi (x : BitVec 128) (h : ¬ hI x = 0) : 64 - bitLen (hI x).toNat = leadN x ∧ bitLen (hI x).toNat ≤ 64 := by
  have e : (hI x).toNat = x.toNat / 2 ^ 64 := by rw [hIN]; rfl
  have hlo := hI_lo x
  have hn : x.toNat / 2 ^ 64 ≠ 0 := by omega
  have hx : x.toNat ≠ 0 := by intro h0; rw [h0] at hn; simp at hn
  have hs := bitLen_shift x.toNat 64 hn
  have hl : x.toNat.log2 < 128 := (Nat.log2_lt hx).mpr x.isLt
  rw [e]
  unfold leadN; rw [if_neg hx]
  have hb : bitLen x.toNat = x.toNat.log2 + 1 := by unfold bitLen; rw [if_neg hx]
  constructor <;> omega
theorem lead_lo (x : BitVec 128) (h : hI x = 0) : 64 + (64 - bitLen (lI x).toNat) = leadN x ∧ bitLen (lI x).toNat ≤ 64 := by
  have e : (lI x).toNat = x.toNat := by rw [lIN]; rw [hIN] at h; omega
  have hlt : x.toNat < 2 ^ 64 := by have := lI_up x; have := lI_lo x; omega
  rw [e]
  unfold leadN bitLen
  by_cases hx : x.toNat = 0
  · simp [hx]
  · rw [if_neg hx, if_neg hx]
    have := (Nat.log2_lt hx).mpr hlt
    constructor <;> omega

end Go.Proofs.Ytmkjlcfoedglmaa
/-
  What the calls of package prefix's Within, Check, Of, Parent, Sibling, Meet, Cmp do.
-/
namespace Go.Proofs.Ytmkjlcfoedglmaa
open Go.RowKit
set_option linter.unusedSimpArgs false
set_option linter.unusedVariables false

def withinB (x : BitVec 128) (n : Int) (y : BitVec 128) (m : Int) : Bool := decide (m ≤ n) && (cutW x m == y)
set_option maxHeartbeats 1000000 in
theorem pwithin_any (x : BitVec 128) (n : Int) (y : BitVec 128) (m : Int) (w : World) :
    Calls Try.prog 27 #[.agg #[.int .u64 (hI x), .int .u64 (lI x), .int .i64 n], .agg #[.int .u64 (hI y), .int .u64 (lI y), .int .i64 m]] w fun e w' => e = .returned (.bool (withinB x n y m)) ∧ Below w.heap.size w w' := by
  have KH := fun w => has_any y m x w
  unfold withinB
  generalize (cutW x m == y) = b at *
  by_cases h : m ≤ n
  · simp only [h, decide_true, Bool.true_and]
    go_enter Try.func27, Try.ntmps27
    go_wp2_with fail
    refine (KH _).mono ?_
    rintro e w1 ⟨rfl, hb1⟩
    have kB := keepb hb1 (bl2 w _ _)
    clear hb1
    go_wp2
    go_ret
    exact ⟨rfl, kB⟩
  · simp only [h, decide_false, Bool.false_and]
    go_enter Try.func27, Try.ntmps27
    go_wp2
    go_ret
    exact ⟨rfl, bl2 _ _ _⟩

def checkE (F : Int) (x : BitVec 128) (n : Int) : Int := if fam F = true then (if n < 0 then 13 else if F < n then 13 else if (cutW x n == x) = true then 0 else 14) else 11
set_option maxHeartbeats 1000000 in
theorem pcheck_any (F : Int) (x : BitVec 128) (n : Int) (w : World) :
    Calls Try.prog 63 #[.int .i64 F, .agg #[.int .u64 (hI x), .int .u64 (lI x), .int .i64 n]] w fun e w' => e = .returned (.int .i64 (checkE F x n)) ∧ Below w.heap.size w w' := by
  have KL := fun w => alast_any F w
  unfold lastV lastE at KL
  unfold checkE
  cases h : fam F
  · rw [if_neg (by simp)]
    rw [h, if_neg (by simp), if_neg (by simp), hI_zero, lI_zero] at KL
    clear h
    go_enter Try.func63, Try.ntmps63
    go_wp2_with fail
    refine (KL _).mono ?_
    rintro e w1 ⟨rfl, hb1⟩
    have kB := keepb hb1 (bl1 w _)
    clear hb1 KL
    go_wp2
    go_ret
    exact ⟨rfl, kB.alloc (by have := kB.size; omega) _⟩
  · rw [if_pos rfl]
    rw [h, if_pos rfl, if_pos rfl] at KL
    clear h
    generalize maskW F = m at *
    have KC := fun w => cut_any x n w
    revert KC
    generalize cutW x n = c
    intro KC
    have hnn : (n == n) = true := by simp
    by_cases h0 : n < 0
    · rw [if_pos h0]
      go_enter Try.func63, Try.ntmps63
      go_wp2_with fail
      refine (KL _).mono ?_
      rintro e w1 ⟨rfl, hb1⟩
      have kB := keepb hb1 (bl1 w _)
      obtain ⟨p0, p1, p2, -, -, -⟩ := ((atp_new w w.heap.size x n 48 rfl).below hb1).below (bl1 _ (.cells #[.int .u64 (hI m), .int .u64 (lI m)] 40))
      clear hb1 KL
      go_wp2
      go_ret
      exact ⟨rfl, kB.alloc (by have := kB.size; omega) _⟩
    by_cases h1 : F < n
    · rw [if_neg h0, if_pos h1]
      go_enter Try.func63, Try.ntmps63
      go_wp2_with fail
      refine (KL _).mono ?_
      rintro e w1 ⟨rfl, hb1⟩
      have kB := keepb hb1 (bl1 w _)
      obtain ⟨p0, p1, p2, -, -, -⟩ := ((atp_new w w.heap.size x n 48 rfl).below hb1).below (bl1 _ (.cells #[.int .u64 (hI m), .int .u64 (lI m)] 40))
      clear hb1 KL
      go_wp2
      go_ret
      exact ⟨rfl, kB.alloc (by have := kB.size; omega) _⟩
    rw [if_neg h0, if_neg h1]
    rcases eqw c x with ⟨q1, q2, q3⟩ | ⟨q1, q3⟩ | ⟨q1, q2, q3⟩
    all_goals
      rw [q3]
      first | rw [if_pos rfl] | rw [if_neg (by simp)]
      clear q3
      go_enter Try.func63, Try.ntmps63
      go_wp2_with fail
      refine (KL _).mono ?_
      rintro e w1 ⟨rfl, hb1⟩
      have kB := keepb hb1 (bl1 w _)
      obtain ⟨p0, p1, p2, -, -, -⟩ := ((atp_new w w.heap.size x n 48 rfl).below hb1).below (bl1 _ (.cells #[.int .u64 (hI m), .int .u64 (lI m)] 40))
      have kB2 := (kB.alloc (by have := kB.size; omega) (.cells #[.int .u64 (hI m), .int .u64 (lI m)] 40)).drew
      clear hb1 KL kB
      go_wp2_with fail
      go_region_held3 (fun w' => w'.cell? ⟨w.heap.size, 0, none⟩ = some (.int .u64 (hI x)) ∧ w'.cell? ⟨w.heap.size, 1, none⟩ = some (.int .u64 (lI x)) ∧ w'.cell? ⟨w.heap.size, 2, none⟩ = some (.int .i64 n) ∧ Below w.heap.size w w')
        (first
          | (obtain ⟨k1, k2, k3, k9⟩ := ‹_ ∧ _›; exact ⟨keepc hb3 k1, keepc hb3 k2, keepc hb3 k3, keepb hb3 k9⟩)
          | exact ⟨p0, p1, p2, kB2⟩)
        (first | (go_at_call 66; refine (KC _).mono ?_; rintro e w3 ⟨rfl, hb3⟩))
      obtain ⟨-, -, -, kB3⟩ := ‹_ ∧ _›
      go_wp2
      go_ret
      exact ⟨rfl, kB3⟩

def ofE (F : Int) (x : BitVec 128) (n : Int) : Int := if rightE F x = 0 then checkE F (cutW x n) n else rightE F x
def ofV (F : Int) (x : BitVec 128) (n : Int) : BitVec 128 := if ofE F x n = 0 then cutW x n else 0#128
def ofN (F : Int) (x : BitVec 128) (n : Int) : Int := if ofE F x n = 0 then n else 0
end Go.Proofs.Ytmkjlcfoedglmaa
/-
  What the calls of package prefix's Parent, Sibling, Cmp, Meet do, of right prefixes.
-/
namespace Go.Proofs.Ytmkjlcfoedglmaa
open Go.RowKit
set_option linter.unusedSimpArgs false
set_option linter.unusedVariables false

def parentV (x : BitVec 128) (n : Int) : BitVec 128 := if n ≤ 0 then 0#128 else cutW x (n - 1)
def parentN (n : Int) : Int := if n ≤ 0 then 0 else n - 1
def sibV (x : BitVec 128) (n : Int) : BitVec 128 := if n ≤ 0 then 0#128 else x ^^^ bit1 (n - 1)
def sibN (n : Int) : Int := if n ≤ 0 then 0 else n
def cmpI (a b : Int) : Int := if a < b then -1 else if b < a then 1 else 0
theorem compare_any (a b : Int) (w : World) :
    Calls Try.prog 65 #[.int .i64 a, .int .i64 b] w fun e w' => e = .returned (.int .i64 (cmpI a b)) ∧ w' = w := by
  unfold cmpI
  have haa : (a != a) = false := by simp
  have hbb : (b != b) = false := by simp
  by_cases h : a < b
  · rw [if_pos h]
    go_enter Try.func65, Try.ntmps65
    go_wp2_with go_in
    go_ret
    exact ⟨rfl, rfl⟩
  · rw [if_neg h]
    by_cases h2 : b < a
    · rw [if_pos h2]
      go_enter Try.func65, Try.ntmps65
      go_wp2_with go_in
      go_ret
      exact ⟨rfl, rfl⟩
    · rw [if_neg h2]
      go_enter Try.func65, Try.ntmps65
      go_wp2_with go_in
      go_ret
      exact ⟨rfl, rfl⟩
def pcmpZ (x : BitVec 128) (n : Int) (y : BitVec 128) (m : Int) : Int := if cmpZ x y = 0 then cmpI n m else cmpZ x y
set_option maxHeartbeats 1000000 in
theorem pcmp_any (x : BitVec 128) (n : Int) (y : BitVec 128) (m : Int) (w : World) :
    Calls Try.prog 44 #[.agg #[.int .u64 (hI x), .int .u64 (lI x), .int .i64 n], .agg #[.int .u64 (hI y), .int .u64 (lI y), .int .i64 m]] w fun e w' => e = .returned (.int .i64 (pcmpZ x n y m)) ∧ Below w.heap.size w w' := by
  have KC := fun w => cmp_any x y w
  have KM := fun w => compare_any n m w
  unfold pcmpZ
  generalize cmpZ x y = c at *
  generalize cmpI n m = d at *
  by_cases h : c = 0
  · subst h
    rw [if_pos rfl]
    go_enter Try.func44, Try.ntmps44
    go_wp2_with fail
    refine (KC _).mono ?_
    rintro e w1 ⟨rfl, hb1⟩
    have kB := keepb hb1 (bl2 w _ _)
    obtain ⟨p0, p1, p2, -, -, -⟩ := ((atp_new w w.heap.size x n 48 rfl).below (bl1 _ (.cells #[.int .u64 (hI y), .int .u64 (lI y), .int .i64 m] 48))).below hb1
    obtain ⟨r0, r1, r2, -, -, -⟩ := (atp_new (w.alloc (.cells #[.int .u64 (hI x), .int .u64 (lI x), .int .i64 n] 48)) (w.heap.size + 1) y m 48 (by simp)).below hb1
    clear hb1 KC
    go_wp2_with fail
    refine (KM _).mono ?_
    rintro e w2 ⟨rfl, rfl⟩
    go_wp2
    go_ret
    exact ⟨rfl, kB⟩
  · have hb : (c != 0) = true := by simp [h]
    rw [if_neg h]
    go_enter Try.func44, Try.ntmps44
    go_wp2_with fail
    refine (KC _).mono ?_
    rintro e w1 ⟨rfl, hb1⟩
    have kB := keepb hb1 (bl2 w _ _)
    clear hb1 KC
    go_wp2
    go_ret
    exact ⟨rfl, kB⟩
end Go.Proofs.Ytmkjlcfoedglmaa
/-
  What the calls of package table's isHop, byPrefix, checkRoute and checkRoutes do.
-/
namespace Go.Proofs.Ytmkjlcfoedglmaa
open Go.RowKit
set_option linter.unusedSimpArgs false
set_option linter.unusedVariables false

/-- A route: its prefix, its next hop. -/
abbrev Rte := (BitVec 128 × Int) × Int
def AtR (w : World) (B : Nat) (x : BitVec 128) (n h : Int) : Prop := w.cell? ⟨B, 0, none⟩ = some (.int .u64 (hI x)) ∧ w.cell? ⟨B, 1, none⟩ = some (.int .u64 (lI x)) ∧ w.cell? ⟨B, 2, none⟩ = some (.int .i64 n) ∧ w.cell? ⟨B, 3, none⟩ = some (.int .i64 h)
theorem AtR.below {w w' : World} {B : Nat} {x : BitVec 128} {n h : Int} (g : AtR w B x n h) (hb : Below w.heap.size w w') : AtR w' B x n h := by
  obtain ⟨h0, h1, h2, h3⟩ := g
  exact ⟨keepc hb h0, keepc hb h1, keepc hb h2, keepc hb h3⟩
theorem atr_new (w : World) (B : Nat) (x : BitVec 128) (n h : Int) (T : TypeId) (e : B = w.heap.size) : AtR (w.alloc (.cells #[.int .u64 (hI x), .int .u64 (lI x), .int .i64 n, .int .i64 h] T)) B x n h := by
  subst e
  refine ⟨?_, ?_, ?_, ?_⟩ <;> simp [go_sem]
/-- A row of routes. -/
def rowR : List Rte → List Value
  | [] => []
  | r :: l => .int .u64 (hI r.1.1) :: .int .u64 (lI r.1.1) :: .int .i64 r.1.2 :: .int .i64 r.2 :: rowR l
theorem rowR_get : ∀ (l : List Rte) (j : Nat) (hj : j < l.length), (rowR l)[j * 4]? = some (.int .u64 (hI l[j].1.1)) ∧ (rowR l)[j * 4 + 1]? = some (.int .u64 (lI l[j].1.1)) ∧ (rowR l)[j * 4 + 2]? = some (.int .i64 l[j].1.2) ∧ (rowR l)[j * 4 + 3]? = some (.int .i64 l[j].2) := by
  intro l
  induction l with
  | nil => intro j hj; simp at hj
  | cons p l ih =>
    intro j hj
    cases j with
    | zero => simp [rowR]
    | succ j =>
      have := ih j (by simpa using hj)
      rw [show (j + 1) * 4 = j * 4 + 4 by omega, show j * 4 + 4 + 1 = j * 4 + 1 + 4 by omega, show j * 4 + 4 + 2 = j * 4 + 2 + 4 by omega, show j * 4 + 4 + 3 = j * 4 + 3 + 4 by omega]
      simpa [rowR] using this
/-- A list of routes in memory, whosever it is. -/
def RwR (W : World) (v : Value) (l : List Rte) : Prop := ∃ ao c, v = .slice ao l.length c ∧ (l = [] ∨ ∃ b off, ao = some ⟨b, off, none⟩ ∧ ∀ j u, (rowR l)[j]? = some u → W.cell? ⟨b, off + j, none⟩ = some u)
theorem RwR.below {W W' : World} {v : Value} {l : List Rte} (h : RwR W v l) (hb : Below W.heap.size W W') : RwR W' v l := by
  obtain ⟨ao, c, e, h⟩ := h
  refine ⟨ao, c, e, h.imp id ?_⟩
  rintro ⟨b, off, e', hc⟩
  exact ⟨b, off, e', fun j u hj => keepc hb (hc j u hj)⟩
theorem rwr_cells {W : World} {b off : Nat} {l : List Rte} (h : ∀ j u, (rowR l)[j]? = some u → W.cell? ⟨b, off + j, none⟩ = some u) (k : Nat) (hk : k < l.length) :
    W.cell? ⟨b, off + k * 4, none⟩ = some (.int .u64 (hI l[k].1.1)) ∧ W.cell? ⟨b, off + k * 4 + 1, none⟩ = some (.int .u64 (lI l[k].1.1)) ∧ W.cell? ⟨b, off + k * 4 + 2, none⟩ = some (.int .i64 l[k].1.2) ∧ W.cell? ⟨b, off + k * 4 + 3, none⟩ = some (.int .i64 l[k].2) := by
  obtain ⟨a, c, d, e⟩ := rowR_get l k hk
  exact ⟨h _ _ a, h _ _ c, h _ _ d, h _ _ e⟩
def hopB (n : Int) : Bool := decide (1 ≤ n) && decide (n ≤ 65535)
theorem isHop_any (n : Int) (w : World) : Calls Try.prog 64 #[.int .i64 n] w fun e w' => e = .returned (.bool (hopB n)) ∧ w' = w := by
  unfold hopB
  go_enter Try.func64, Try.ntmps64
  by_cases h1 : 1 ≤ n
  · by_cases h2 : n ≤ 65535
    · go_wp2
      go_ret
      exact ⟨by simp [h1, h2], rfl⟩
    · go_wp2
      go_ret
      exact ⟨by simp [h1, h2], rfl⟩
  · go_wp2
    go_ret
    exact ⟨by rw [decide_eq_false (by omega : ¬ 1 ≤ n)]; rfl, rfl⟩
theorem hidR {p : Prop} (h : p) : Hid p := h
theorem byPrefix_any (x : BitVec 128) (n h : Int) (y : BitVec 128) (m g : Int) (w : World) :
    Calls Try.prog 26 #[.agg #[.int .u64 (hI x), .int .u64 (lI x), .int .i64 n, .int .i64 h], .agg #[.int .u64 (hI y), .int .u64 (lI y), .int .i64 m, .int .i64 g]] w fun e w' => e = .returned (.int .i64 (pcmpZ x n y m)) ∧ Below w.heap.size w w' := by
  have KC := fun w => pcmp_any x n y m w
  generalize pcmpZ x n y m = z at *
  have A1 := atr_new w w.heap.size x n h 50 rfl
  have b1 := bl1 w (.cells #[.int .u64 (hI x), .int .u64 (lI x), .int .i64 n, .int .i64 h] 50)
  have b2 := bl1 (w.alloc (.cells #[.int .u64 (hI x), .int .u64 (lI x), .int .i64 n, .int .i64 h] 50)) (.cells #[.int .u64 (hI y), .int .u64 (lI y), .int .i64 m, .int .i64 g] 50)
  obtain ⟨p0, p1, p2, -⟩ := A1.below b2
  obtain ⟨q0, q1, q2, -⟩ := atr_new (w.alloc (.cells #[.int .u64 (hI x), .int .u64 (lI x), .int .i64 n, .int .i64 h] 50)) (w.heap.size + 1) y m g 50 (by simp)
  have HB := hidR (keepb b2 b1)
  clear A1 b1 b2
  go_enter Try.func26, Try.ntmps26
  go_wp2_with fail
  refine (KC _).mono ?_
  rintro e w1 ⟨rfl, hb⟩
  have kB := keepb hb HB.out
  clear KC hb HB p0 p1 p2 q0 q1 q2
  go_wp2
  go_ret
  exact ⟨rfl, kB⟩
/-- The error of one route. -/
def rteE (F : Int) (r : Rte) : Int := if checkE F r.1.1 r.1.2 = 0 then (if hopB r.2 = true then 0 else 15) else checkE F r.1.1 r.1.2
set_option maxHeartbeats 2000000 in
theorem checkRoute_any (F : Int) (x : BitVec 128) (n h : Int) (w : World) :
    Calls Try.prog 43 #[.int .i64 F, .agg #[.int .u64 (hI x), .int .u64 (lI x), .int .i64 n, .int .i64 h]] w fun e w' => e = .returned (.int .i64 (rteE F ((x, n), h))) ∧ Below w.heap.size w w' := by
  have KC := fun w => pcheck_any F x n w
  have KH := fun w => isHop_any h w
  unfold rteE
  dsimp only
  revert KC KH
  generalize checkE F x n = ce
  generalize hopB h = hp
  intro KC KH
  obtain ⟨p0, p1, p2, p3⟩ := atr_new w w.heap.size x n h 50 rfl
  have A1 := hidR (atr_new w w.heap.size x n h 50 rfl)
  have b1 := hidR (bl1 w (.cells #[.int .u64 (hI x), .int .u64 (lI x), .int .i64 n, .int .i64 h] 50))
  go_enter Try.func43, Try.ntmps43
  go_wp2_with fail
  refine (KC _).mono ?_
  rintro e w1 ⟨rfl, hb⟩
  have kB := keepb hb b1.out
  obtain ⟨q0, q1, q2, q3⟩ := A1.out.below hb
  clear KC hb A1 b1 p0 p1 p2 p3
  by_cases hc : ce = 0
  · subst hc
    go_wp2_with fail
    refine (KH _).mono ?_
    rintro e w2 ⟨rfl, rfl⟩
    clear KH q0 q1 q2 q3
    cases hp
    · go_wp2
      go_ret
      exact ⟨by simp, kB⟩
    · go_wp2
      go_ret
      exact ⟨by simp, kB⟩
  · have hn : (ce != 0) = true := by simp [hc]
    go_wp2
    go_ret
    exact ⟨by first | rfl | rw [if_neg hc], kB⟩
/-- The first error of a list of routes. -/
def rtsG (F : Int) : List Rte → Int
  | [] => 0
  | r :: l => if rteE F r = 0 then rtsG F l else rteE F r
def rtsE (F : Int) (l : List Rte) : Int := if fam F = true then (if 1048576 < l.length then 16 else rtsG F l) else 11
theorem rts_drop (F : Int) (l : List Rte) (k : Nat) (hk : k < l.length) : rtsG F (l.drop k) = if rteE F l[k] = 0 then rtsG F (l.drop (k + 1)) else rteE F l[k] := by
  rw [List.drop_eq_getElem_cons hk]
  rfl
set_option maxHeartbeats 2000000 in
theorem checkRoutes_any (F : Int) (v : Value) (l : List Rte) (w : World) (hv : RwR w v l) :
    Calls Try.prog 25 #[.int .i64 F, v] w fun e w' => e = .returned (.int .i64 (rtsE F l)) ∧ Below w.heap.size w w' := by
  obtain ⟨ao, c, rfl, hv⟩ := hv
  have KL := fun w => alast_any F w
  unfold lastV lastE at KL
  unfold rtsE
  cases hf : fam F
  · rw [hf, if_neg (by simp), if_neg (by simp), hI_zero, lI_zero] at KL
    rw [if_neg (by simp)]
    clear hf hv
    go_enter Try.func25, Try.ntmps25
    go_wp2_with fail
    refine (KL _).mono ?_
    rintro e w1 ⟨rfl, hb⟩
    clear KL
    go_wp2
    go_ret
    exact ⟨rfl, hb.alloc hb.size _⟩
  · rw [hf, if_pos rfl, if_pos rfl] at KL
    rw [if_pos rfl]
    have HV := hidR hv
    clear hf hv
    generalize maskW F = mk at *
    by_cases hl : 1048576 < l.length
    · rw [if_pos hl]
      have h1 : (1048576 : Int) < (l.length : Int) := by omega
      go_enter Try.func25, Try.ntmps25
      go_wp2_with fail
      refine (KL _).mono ?_
      rintro e w1 ⟨rfl, hb⟩
      clear KL
      go_wp2
      go_ret
      exact ⟨rfl, hb.alloc hb.size _⟩
    · rw [if_neg hl]
      have h1 : ¬ (1048576 : Int) < (l.length : Int) := by omega
      go_enter Try.func25, Try.ntmps25
      go_wp2_with fail
      refine (KL _).mono ?_
      rintro e w1 ⟨rfl, hb⟩
      have kB := hb.alloc hb.size (.cells #[.int .u64 (hI mk), .int .u64 (lI mk)] 40)
      clear KL hb
      go_wp2_with fail
      go_loopw [23] (fun i wr => ∃ k : Nat, k ≤ l.length ∧ i = .int .i64 k ∧ Hid (rtsG F (l.drop k) = rtsG F l) ∧ Below w.heap.size w wr) (fun i _ => l.length - (intOf i).toNat)
      case atStart => exact ⟨0, by omega, rfl, (rfl : rtsG F (l.drop 0) = rtsG F l), kB⟩
      case round =>
        clear kB
        obtain ⟨k, hk, rfl, hG, hB⟩ := hrel
        by_cases hlt : (k : Int) < (l.length : Int)
        · have hks : k < l.length := by omega
          rcases HV.out with h | ⟨b, off, rfl, hc⟩
          · rw [h] at hks; simp at hks
          · obtain ⟨x0, x1, x2, x3⟩ := rwr_cells hc k hks
            have x0 := keepc hB x0
            have x1 := keepc hB x1
            have x2 := keepc hB x2
            have x3 := keepc hB x3
            have KC := fun w => checkRoute_any F l[k].1.1 l[k].1.2 l[k].2 w
            have HD := hidR (rts_drop F l k hks)
            have eR : ((l[k].1.1, l[k].1.2), l[k].2) = l[k] := rfl
            rw [eR] at KC
            clear hc HV eR
            revert KC HD
            generalize rteE F l[k] = ce
            generalize l[k].1.1 = px at *
            generalize l[k].1.2 = pn at *
            generalize l[k].2 = ph at *
            intro KC HD
            have P0 := atr_new wr wr.heap.size px pn ph 50 rfl
            obtain ⟨p0, p1, p2, p3⟩ := id P0
            go_wp2_with fail
            refine (KC _).mono ?_
            rintro e w2 ⟨rfl, hb⟩
            have kB2 := keepb hb (hB.alloc hB.size (.cells #[.int .u64 (hI px), .int .u64 (lI px), .int .i64 pn, .int .i64 ph] 50))
            clear hb KC x0 x1 x2 x3 p0 p1 p2 p3 P0
            by_cases hce : ce = 0
            · subst hce
              have hk2 : IntKind.i64.wrap ((k : Int) + 1) = (k : Int) + 1 := by rw [IntKind.wrap_i64]; omega
              go_wp2
              go_roundw
              case rel =>
                refine ⟨k + 1, by omega, by simp, ?_, kB2⟩
                show rtsG F (l.drop (k + 1)) = rtsG F l
                rw [← hG.out, HD.out]; simp
              case measure => simp [intOf]; omega
            · have hn : (ce != 0) = true := by simp [hce]
              have HE : Hid (rtsG F l = ce) := by show _ = _; rw [← hG.out, HD.out, if_neg hce]
              go_wp2
              go_ret
              exact ⟨by rw [HE.out]; rfl, kB2⟩
        · have hd : decide ((k : Int) < (l.length : Int)) = false := by simpa using hlt
          have HE : Hid (rtsG F l = 0) := by
            show _ = _
            rw [← hG.out, List.drop_eq_nil_of_le (by omega)]; rfl
          go_wp2
          go_ret
          exact ⟨by rw [HE.out]; rfl, hB⟩
end Go.Proofs.Ytmkjlcfoedglmaa
/-
  What lies in one block of memory goes by that block alone.
-/
namespace Go.Proofs.Ytmkjlcfoedglmaa
open Go.RowKit
set_option linter.unusedSimpArgs false
set_option linter.unusedVariables false

theorem cellH {W W' : World} {B : Nat} (e : W'.heap[B]? = W.heap[B]?) (o : Nat) : W'.cell? ⟨B, o, none⟩ = W.cell? ⟨B, o, none⟩ := World.cell?_of_block (w := W) (a := ⟨B, o, none⟩) e
theorem frozH {W W' : World} {B : Nat} (e : W'.heap[B]? = W.heap[B]?) (o : Nat) : W'.frozen? ⟨B, o, none⟩ = W.frozen? ⟨B, o, none⟩ := World.frozen?_of_block (w := W) (a := ⟨B, o, none⟩) e
theorem AtG.heap {W W' : World} {B : Nat} {x y : BitVec 128} {h : Int} (k : AtG W B x y h) (e : W'.heap[B]? = W.heap[B]?) : AtG W' B x y h := by
  unfold AtG at *
  simpa only [cellH e, frozH e] using k
theorem At.heap {W W' : World} {B : Nat} {x : BitVec 128} (k : At W B x) (e : W'.heap[B]? = W.heap[B]?) (hs : W.heap.size ≤ W'.heap.size) : At W' B x := by
  unfold At at *
  simp only [cellH e, frozH e]
  exact ⟨k.1, k.2.1, k.2.2.1, k.2.2.2.1, by omega⟩
theorem AtR.heap {W W' : World} {B : Nat} {x : BitVec 128} {n h : Int} (k : AtR W B x n h) (e : W'.heap[B]? = W.heap[B]?) : AtR W' B x n h := by
  unfold AtR at *
  simpa only [cellH e] using k
/-- A table in memory, which may be written. -/
def AtU (W : World) (B : Nat) (F : Int) (v : Value) : Prop := W.cell? ⟨B, 0, none⟩ = some (.int .i64 F) ∧ W.cell? ⟨B, 1, none⟩ = some v ∧ W.frozen? ⟨B, 0, none⟩ = false ∧ W.frozen? ⟨B, 1, none⟩ = false
theorem AtU.heap {W W' : World} {B : Nat} {F : Int} {v : Value} (k : AtU W B F v) (e : W'.heap[B]? = W.heap[B]?) : AtU W' B F v := by
  unfold AtU at *
  simpa only [cellH e, frozH e] using k
theorem AtU.lt {W : World} {B : Nat} {F : Int} {v : Value} (k : AtU W B F v) : B < W.heap.size := cell_in k.1
theorem AtU.set1 {W : World} {B : Nat} {F : Int} {v : Value} (k : AtU W B F v) (u : Value) : AtU (W.setCell ⟨B, 1, none⟩ u) B F u := by
  obtain ⟨a, b, c, d⟩ := k
  refine ⟨?_, ?_, ?_, ?_⟩ <;> simp [go_sem, *]
theorem AtU.set2 {W : World} {B : Nat} {F : Int} {v : Value} (k : AtU W B F v) (G : Int) (u : Value) : AtU ((W.setCell ⟨B, 0, none⟩ (.int .i64 G)).setCell ⟨B, 1, none⟩ u) B G u := by
  obtain ⟨a, b, c, d⟩ := k
  refine ⟨?_, ?_, ?_, ?_⟩ <;> simp [go_sem, *]
theorem atu_new (W : World) (B : Nat) (F : Int) (v : Value) (T : TypeId) (e : B = W.heap.size) : AtU (W.alloc (.cells #[.int .i64 F, v] T)) B F v := by
  subst e
  refine ⟨?_, ?_, ?_, ?_⟩ <;> simp [go_sem]
theorem own_heap {W W' : World} {base e size n : Nat} {v : Value} {xs : List Value} (h : W.ownsRow base e size v n xs) (he : ∀ g, v.ownBlock = some g → W'.heap[g]? = W.heap[g]?) : W'.ownsRow base e size v n xs := by
  refine ⟨h.1, ?_⟩
  rcases h.2 with hn | ⟨g, cap, cur, rfl, hb, hg, rest⟩
  · exact .inl hn
  · exact .inr ⟨g, cap, cur, rfl, hb, by rw [he g rfl]; exact hg, rest⟩
theorem hAl {W : World} (o : Obj) {k : Nat} (h : k < W.heap.size) : (W.alloc o).heap[k]? = W.heap[k]? := Below.heap_alloc W o k h
theorem hSet {W : World} {b o : Nat} (u : Value) {k : Nat} (h : ¬ k = b) : (W.setCell ⟨b, o, none⟩ u).heap[k]? = W.heap[k]? := Below.heap_setCell W ⟨b, o, none⟩ u k h
theorem own_lt {W : World} {base e size n : Nat} {v : Value} {xs : List Value} (h : W.ownsRow base e size v n xs) {g : Nat} (e : v.ownBlock = some g) : base ≤ g ∧ g < W.heap.size := h.lt g e
theorem own_wide {w : World} {base base' e size n : Nat} {v : Value} {xs : List Value} (h : w.ownsRow base e size v n xs) (hb : base' ≤ base) : w.ownsRow base' e size v n xs := by
  refine ⟨h.1, ?_⟩
  rcases h.2 with hn | ⟨g, cap, cur, hv, h1, h2⟩
  · exact .inl hn
  · exact .inr ⟨g, cap, cur, hv, by omega, h2⟩
end Go.Proofs.Ytmkjlcfoedglmaa
/-
  What a call of package prefix's Last does.
-/
namespace Go.Proofs.Ytmkjlcfoedglmaa
open Go.RowKit
set_option linter.unusedSimpArgs false
set_option linter.unusedVariables false

/-- The prefix, and the word that is answered, in memory. -/
def LS (w : World) (x : BitVec 128) (n : Int) (W : World) : Prop := AtP W w.heap.size x n ∧ At W (w.heap.size + 1) 0#128 ∧ Below w.heap.size w W
theorem LS.below {w W W' : World} {x : BitVec 128} {n : Int} (h : LS w x n W) (hb : Below W.heap.size W W') : LS w x n W' := ⟨h.1.below hb, h.2.1.below hb, keepb hb h.2.2⟩
theorem LS.al {w W : World} {x : BitVec 128} {n : Int} (h : LS w x n W) (o : Obj) : LS w x n (W.alloc o) := h.below (bl1 W o)
theorem LS.drew {w W : World} {x : BitVec 128} {n : Int} (h : LS w x n W) : LS w x n W.drew := ⟨h.1, h.2.1, h.2.2.drew⟩
theorem LS.first (w : World) (x : BitVec 128) (n : Int) : LS w x n ((w.alloc (.cells #[.int .u64 (hI x), .int .u64 (lI x), .int .i64 n] 48)).alloc (.cells #[.int .u64 0, .int .u64 0] 40)) :=
  ⟨(atp_new w w.heap.size x n 48 rfl).below (bl1 _ _), at_new (w.alloc (.cells #[.int .u64 (hI x), .int .u64 (lI x), .int .i64 n] 48)) (w.heap.size + 1) 0#128 40 (by simp), bl2 _ _ _⟩
theorem LS.set {w W : World} {x : BitVec 128} {n : Int} (h : LS w x n W) {N : Nat} (hN : w.heap.size + 1 < N) (u v : Value) : LS w x n ((W.setCell ⟨N, 0, none⟩ u).setCell ⟨N, 1, none⟩ v) := by
  obtain ⟨⟨a0, a1, a2, a3, a4, a5⟩, h2, h3⟩ := h
  have d0 : ¬ N = w.heap.size := by omega
  have d1 : ¬ w.heap.size = N := by omega
  refine ⟨?_, h2.other u v (by omega), bset2 h3 (by omega) _ _⟩
  refine ⟨?_, ?_, ?_, ?_, ?_, ?_⟩ <;> simp [go_sem, *]
theorem at_new0 (w : World) : At (w.alloc (.cells #[.int .u64 0, .int .u64 0] 40)) w.heap.size 0#128 := at_new w w.heap.size 0#128 40 rfl
theorem at_new0d (w : World) (N : Nat) (h : N = w.heap.size) : At (w.alloc (.cells #[.int .u64 0, .int .u64 0] 40)).drew N 0#128 := at_new w N 0#128 40 h
def lastW (F : Int) (x : BitVec 128) (n : Int) : BitVec 128 := x ||| (maskW F ^^^ maskW n)
set_option maxHeartbeats 4000000 in
theorem plast_any (F : Int) (x : BitVec 128) (n : Int) (w : World) :
    Calls Try.prog 47 #[.int .i64 F, .agg #[.int .u64 (hI x), .int .u64 (lI x), .int .i64 n]] w fun e w' => e = .returned (.agg #[.int .u64 (hI (lastW F x n)), .int .u64 (lI (lastW F x n))]) ∧ Below w.heap.size w w' := by
  have KM := fun n w => mask_any n w
  have L0 := LS.first w x n
  unfold lastW
  go_enter Try.func47, Try.ntmps47
  go_wp2
  rename_i Q' K hK
  have tail : ∀ (N : Nat) (W : World), At W N (maskW F ^^^ maskW n) → LS w x n W → (Exit.then K Q') .normal { tmps := #[.int .i64 F, .agg #[.int .u64 (hI x), .int .u64 (lI x), .int .i64 n], undef, .pointer (some ⟨w.heap.size, 0, none⟩), .pointer (some ⟨w.heap.size + 1, 0, none⟩), .pointer (some ⟨N, 0, none⟩), .int .i64 F, .agg #[.int .u64 (hI (maskW F)), .int .u64 (lI (maskW F))], .pointer (some ⟨w.heap.size, 2, none⟩), .int .i64 n, .agg #[.int .u64 (hI (maskW n)), .int .u64 (lI (maskW n))], .agg #[.int .u64 (hI (maskW F ^^^ maskW n)), .int .u64 (lI (maskW F ^^^ maskW n))], undef, undef, undef, undef], defers := [] } W := by
    intro N W hN hL
    obtain ⟨a0, a1, -, -, -⟩ := hN
    obtain ⟨⟨p0, p1, p2, -, -, -⟩, hZ, kB⟩ := hL
    clear L0 KM
    go_wp2_with fail
    refine (or_any _ _ _).mono ?_
    rintro e w9 ⟨rfl, hb9⟩
    obtain ⟨z0, z1, z2, z3, z4⟩ := hZ.below hb9
    have kB := keepb hb9 kB
    clear a0 a1 p0 p1 p2 hZ hb9
    go_wp2
    exact bodyPost_ret (v := .agg #[.int .u64 (hI (x ||| (maskW F ^^^ maskW n))), .int .u64 (lI (x ||| (maskW F ^^^ maskW n)))]) (by simp [results, Try.results47, go_sem, *]) rfl ⟨rfl, bset2 kB (by omega) _ _⟩
  obtain ⟨⟨p0, p1, p2, -, -, -⟩, -, -⟩ := id L0
  go_region_with (first
    | (go_at_call 62; go_loud (skip; refine (KM _ _).mono ?_; rintro e w1 ⟨rfl, hb1⟩; have L1 : LS w x n w1 := LS.below (by first | exact L1 | exact L1.al _ | exact L0.drew | exact (L0.al _).drew) hb1; (try have Z1 := At.below Z1 hb1); (try have Z1 := At.below (at_new0 _) hb1); (try (refine (fun (Z1 : At w1 (w.heap.size + 1 + 1) 0#128) => ?_) (At.below (at_new0d _ _ ?_) hb1); rotate_left; (focus (simp; done)))); obtain ⟨p0, p1, p2, -, -, -⟩ := id L1.1; have g1 := L1.2.1.2.2.2.2; have l1 := cell_in p0; have n1 : ¬ w1.heap.size = w.heap.size := (by omega)))
    | (go_at_call 69; refine (xor_any _ _ _).mono ?_; rintro e w2 ⟨rfl, hb2⟩; have L2 : LS w x n w2 := LS.below (by first | exact L1 | exact L1.al _) hb2; (try have Z1 := At.below Z1 hb2); (try have Z1 := At.below (at_new0 _) hb2); (try obtain ⟨z0, z1, z2, z3, z4⟩ := id Z1)))
  all_goals first
    | exact tail _ _ (Z1.set _) (L2.set (by omega) _ _)
    | exact tail _ _ (at_new w2 _ _ _ rfl) (L2.al _)
end Go.Proofs.Ytmkjlcfoedglmaa
