/-
  Plain numbers: the sum of a word's bits, place by place; the noughts behind the last bit that is set.
-/
import Derived.Test.YtkahilfklgobpaaDoorCnt2
import Derived.Lib.TrailingZeros
namespace Go.Proofs.YtkahilfklgobpaaDoor
open Go.RowKit
set_option linter.unusedSimpArgs false
set_option linter.unusedVariables false

def bs : Nat → Nat → Nat
  | 0, _ => 0
  | k + 1, x => bs k x + x / 2 ^ k % 2
theorem bs_add (m : Nat) (x : Nat) : ∀ k, bs (m + k) x = bs m x + bs k (x / 2 ^ m) := by
  intro k
  induction k with
  | zero => simp [bs]
  | succ k ih =>
    have e : x / 2 ^ (m + k) = x / 2 ^ m / 2 ^ k := by rw [Nat.pow_add, Nat.div_div_eq_div_mul]
    rw [← Nat.add_assoc]; simp only [bs]; rw [ih, e]; omega
theorem bs8 (x : Nat) : bs 8 x = ocB (x % 256) := by
  simp only [bs, ocB]; omega
theorem oc_bs (k : Nat) : ∀ x, oc k x = bs (8 * k) x := by
  induction k with
  | zero => intro x; rfl
  | succ k ih =>
    intro x
    have e : 8 * (k + 1) = 8 + 8 * k := by omega
    rw [e, bs_add, bs8]; simp only [oc]; rw [ih]
theorem bs_modn (n : Nat) : ∀ k x, k ≤ n → bs k (x % 2 ^ n) = bs k x := by
  intro k
  induction k with
  | zero => intro x _; rfl
  | succ k ih =>
    intro x h
    simp only [bs]; rw [ih x (by omega)]
    have : x % 2 ^ n / 2 ^ k % 2 = x / 2 ^ k % 2 := by
      have e : n = k + (n - k) := by omega
      rw [e, Nat.pow_add, Nat.mod_mul_right_div_self]
      have e2 : n - k = 1 + (n - k - 1) := by omega
      rw [e2, Nat.pow_add]
      exact Nat.mod_mul_right_mod _ _ _
    omega
theorem bs_mod (n : Nat) (x : Nat) : bs n (x % 2 ^ n) = bs n x := bs_modn n n x (Nat.le_refl _)
/-- The sum of the first k bits from the front. -/
def fs (x : BitVec 128) : Nat → Nat
  | 0 => 0
  | k + 1 => fs x k + (bitZ x (k : Int)).toNat
theorem bit_at (x : BitVec 128) (k : Nat) (h : k < 128) : (bitZ x (k : Int)).toNat = x.toNat / 2 ^ (127 - k) % 2 := by
  unfold bitZ
  rw [bitB_in x k (by omega) (by omega)]
  have e : (127 - (k : Int)).toNat = 127 - k := by omega
  rw [e]
  unfold BitVec.getLsbD; rw [Nat.testBit_eq_decide_div_mod_eq]
  by_cases c : x.toNat / 2 ^ (127 - k) % 2 = 1
  · simp [c]
  · simp [c]; omega
theorem fs_bs (x : BitVec 128) : ∀ k, k ≤ 128 → fs x k = bs k (x.toNat / 2 ^ (128 - k)) := by
  intro k
  induction k with
  | zero => intro _; rfl
  | succ k ih =>
    intro hk
    have e1 : 128 - k = (128 - (k + 1)) + 1 := by omega
    have e2 : 127 - k = 128 - (k + 1) := by omega
    have e3 : k + 1 = 1 + k := by omega
    simp only [fs]; rw [ih (by omega), bit_at x k (by omega), e2, e1, Nat.pow_succ, ← Nat.div_div_eq_div_mul]
    rw [e3, bs_add]
    simp [bs]; omega
theorem ones_fs (x : BitVec 128) : onesN x = fs x 128 := by
  rw [fs_bs x 128 (Nat.le_refl _)]
  unfold onesN
  rw [oc_bs, oc_bs, hvN, lvN]
  have e := bs_add 64 x.toNat 64
  have l : bs 64 (x.toNat % 18446744073709551616) = bs 64 x.toNat := by
    have := bs_mod 64 x.toNat
    exact this
  simp only [Nat.sub_self, Nat.pow_zero, Nat.div_one]
  show bs 64 (x.toNat / 18446744073709551616) + bs 64 (x.toNat % 18446744073709551616) = bs (64 + 64) x.toNat
  have p : (2 : Nat) ^ 64 = 18446744073709551616 := by decide
  rw [p] at e
  rw [e, l]; omega
/-- How many noughts stand last. -/
def trailN (x : BitVec 128) : Nat := Lib.ctz 128 x.toNat
theorem odd_uniq (a b : Nat) : ∀ k c, 2 ^ k * (2 * a + 1) = 2 ^ c * (2 * b + 1) → k = c := by
  intro k
  induction k with
  | zero =>
    intro c h
    cases c with
    | zero => rfl
    | succ c => rw [Nat.pow_succ, Nat.mul_comm (2 ^ c) 2, Nat.mul_assoc] at h; omega
  | succ k ih =>
    intro c h
    cases c with
    | zero => rw [Nat.pow_succ, Nat.mul_comm (2 ^ k) 2, Nat.mul_assoc] at h; omega
    | succ c =>
      rw [Nat.pow_succ, Nat.mul_comm (2 ^ k) 2, Nat.mul_assoc, Nat.pow_succ, Nat.mul_comm (2 ^ c) 2, Nat.mul_assoc] at h
      rw [ih c (by omega)]
theorem ctz_char (n x k : Nat) (hx : 0 < x) (hn : x < 2 ^ n) (h1 : x % 2 ^ k = 0) (h2 : x / 2 ^ k % 2 = 1) : Lib.ctz n x = k := by
  obtain ⟨m, hm, _⟩ := Lib.ctzFrom_spec n x hx hn
  have e : x = 2 ^ k * (2 * (x / 2 ^ k / 2) + 1) := by
    have h3 : 2 * (x / 2 ^ k / 2) + 1 = x / 2 ^ k := by omega
    rw [h3]
    have := Nat.div_add_mod x (2 ^ k)
    omega
  unfold Lib.ctz
  rw [if_neg (by omega)]
  exact odd_uniq m _ _ _ (hm.symm.trans e)
theorem trail_char (x : BitVec 128) (k : Nat) (hk : k ≤ 128) (h1 : x.toNat % 2 ^ k = 0) (h2 : k = 128 ∨ x.toNat / 2 ^ k % 2 = 1) : trailN x = k := by
  unfold trailN
  by_cases h0 : x.toNat = 0
  · rcases h2 with h2 | h2
    · unfold Lib.ctz; rw [if_pos h0, h2]
    · rw [h0] at h2; simp at h2
  · rcases h2 with h2 | h2
    · subst h2
      have := x.isLt
      rw [Nat.mod_eq_of_lt this] at h1; omega
    · exact ctz_char 128 x.toNat k (by omega) x.isLt h1 h2
theorem trail_step (x : BitVec 128) (k : Nat) (h1 : x.toNat % 2 ^ k = 0) (h2 : x.toNat / 2 ^ k % 2 = 0) : x.toNat % 2 ^ (k + 1) = 0 := by
  rw [Nat.pow_succ, Nat.mod_mul, h1, h2]; simp
theorem trail_lo (x : BitVec 128) (h : ¬ lI x = 0) : Lib.ctz 64 (lI x).toNat = trailN x := by
  have e : (lI x).toNat = x.toNat % 2 ^ 64 := by rw [lIN]; rfl
  have hp := lI_lo x
  have h0 : 0 < x.toNat % 2 ^ 64 := by omega
  obtain ⟨m, hm, hk⟩ := Lib.ctzFrom_spec 64 (x.toNat % 2 ^ 64) h0 (Nat.mod_lt _ (by decide))
  rw [e]
  have ec : Lib.ctz 64 (x.toNat % 2 ^ 64) = Lib.ctzFrom 64 (x.toNat % 2 ^ 64) := by unfold Lib.ctz; rw [if_neg (by omega)]
  rw [ec]
  generalize Lib.ctzFrom 64 (x.toNat % 2 ^ 64) = k at *
  have hd : x.toNat = 2 ^ 64 * (x.toNat / 2 ^ 64) + x.toNat % 2 ^ 64 := (Nat.div_add_mod _ _).symm
  have p64 : 2 ^ 64 = 2 ^ k * (2 * 2 ^ (63 - k)) := by
    have : 2 * 2 ^ (63 - k) = 2 ^ (64 - k) := by rw [Nat.mul_comm, ← Nat.pow_succ]; congr 1; omega
    rw [this, ← Nat.pow_add]; congr 1; omega
  have hq : x.toNat = 2 ^ k * (2 * (2 ^ (63 - k) * (x.toNat / 2 ^ 64) + m) + 1) := by
    have e1 : 2 ^ k * (2 * (2 ^ (63 - k) * (x.toNat / 2 ^ 64) + m) + 1) = 2 ^ k * (2 * 2 ^ (63 - k)) * (x.toNat / 2 ^ 64) + 2 ^ k * (2 * m + 1) := by
      rw [Nat.mul_assoc, ← Nat.mul_add]; congr 1
      rw [Nat.mul_add, Nat.mul_assoc]; omega
    rw [e1, ← p64, ← hm]; exact hd
  have hpk : 0 < 2 ^ k := Nat.two_pow_pos k
  symm
  apply trail_char x k (by omega)
  · rw [hq]; exact Nat.mul_mod_right _ _
  · right; rw [hq, Nat.mul_div_cancel_left _ hpk]; omega
theorem trail_hi (x : BitVec 128) (h : lI x = 0) (h' : ¬ hI x = 0) : 64 + Lib.ctz 64 (hI x).toNat = trailN x := by
  have e : (hI x).toNat = x.toNat / 2 ^ 64 := by rw [hIN]; rfl
  have l : x.toNat % 2 ^ 64 = 0 := by rw [lIN] at h; omega
  have hp := hI_lo x
  have hx := x.isLt
  have h0 : 0 < x.toNat / 2 ^ 64 := by omega
  have hb : x.toNat / 2 ^ 64 < 2 ^ 64 := by omega
  obtain ⟨m, hm, hk⟩ := Lib.ctzFrom_spec 64 (x.toNat / 2 ^ 64) h0 hb
  rw [e]
  have ec : Lib.ctz 64 (x.toNat / 2 ^ 64) = Lib.ctzFrom 64 (x.toNat / 2 ^ 64) := by unfold Lib.ctz; rw [if_neg (by omega)]
  rw [ec]
  generalize Lib.ctzFrom 64 (x.toNat / 2 ^ 64) = k at *
  have hd : x.toNat = 2 ^ 64 * (x.toNat / 2 ^ 64) := by have := Nat.div_add_mod x.toNat (2 ^ 64); omega
  have hq : x.toNat = 2 ^ (64 + k) * (2 * m + 1) := by rw [Nat.pow_add, Nat.mul_assoc, ← hm]; exact hd
  have hpk : 0 < 2 ^ (64 + k) := Nat.two_pow_pos _
  symm
  apply trail_char x (64 + k) (by omega)
  · rw [hq]; exact Nat.mul_mod_right _ _
  · right; rw [hq, Nat.mul_div_cancel_left _ hpk]; omega
theorem trail_0 (x : BitVec 128) (h : lI x = 0) (h' : hI x = 0) : trailN x = 128 := by
  have : x.toNat = 0 := by rw [lIN] at h; rw [hIN] at h'; omega
  unfold trailN Lib.ctz; rw [if_pos this]
theorem trail_le (x : BitVec 128) : trailN x ≤ 128 := by
  unfold trailN
  by_cases h : x.toNat = 0
  · unfold Lib.ctz; rw [if_pos h]; omega
  · obtain ⟨m, hm, hk⟩ := Lib.ctzFrom_spec 128 x.toNat (by omega) x.isLt
    unfold Lib.ctz; rw [if_neg h]; omega
theorem tz_key (x a : Nat) (hx : x < 18446744073709551616) (hx0 : x ≠ 0) (hlow : x &&& (18446744073709551616 - x) = a) :
    IntKind.u64.wrap (bits BinOp.and IntKind.u64 (x : Int) (IntKind.u64.wrap (-(x : Int))) * 285870213051353865) / 288230376151711744 = ((a * 285870213051353865 % 18446744073709551616 / 288230376151711744 : Nat) : Int) := by
  have wu : ∀ n : Int, IntKind.u64.wrap n = n % 18446744073709551616 := fun n => by simp [IntKind.wrap, IntKind.bits, IntKind.signed]
  have e1 : IntKind.u64.wrap (-(x : Int)) = ((18446744073709551616 - x : Nat) : Int) := by rw [wu]; omega
  rw [e1, bits_and_u64_nat x _ hx (by omega), hlow, wu]
  omega
end Go.Proofs.YtkahilfklgobpaaDoor
