/-
  Plain numbers and small facts for the law WordRing.
-/
import Derived.Test.YtkahilfklgobpabKnown
import Derived.Test.YtkahilfklgobpabCnt3
import Derived.Test.YtkahilfklgobpabNumS
namespace Go.Proofs.Ytkahilfklgobpab
open Go.RowKit
set_option linter.unusedSimpArgs false
set_option linter.unusedVariables false

/-- The variable at block B reads as the word x. -/
def Rd (w : World) (B : Nat) (x : BitVec 128) : Prop := w.cell? ⟨B, 0, none⟩ = some (.int .u64 (hI x)) ∧ w.cell? ⟨B, 1, none⟩ = some (.int .u64 (lI x))
theorem Rd.keep {W w' : World} {B : Nat} {x : BitVec 128} (h : Rd W B x) (hb : Below W.heap.size W w') : Rd w' B x := ⟨keepc hb h.1, keepc hb h.2⟩
theorem Rd.alloc {W : World} {B : Nat} {x : BitVec 128} (h : Rd W B x) (o : Obj) : Rd (W.alloc o) B x := h.keep (bl1 W o)
theorem Rd.new (W : World) (x : BitVec 128) (t : TypeId) : Rd (W.alloc (.cells #[.int .u64 (hI x), .int .u64 (lI x)] t)) W.heap.size x := by
  constructor <;> simp [go_sem]

theorem ring1 (a b : BitVec 128) : b + a = a + b := BitVec.add_comm b a
theorem ring2 (a b : BitVec 128) : a + b - a = b := by
  apply BitVec.eq_of_toNat_eq
  rw [BitVec.toNat_sub, BitVec.toNat_add]
  have := a.isLt; have := b.isLt; omega
theorem ring3 (a b c : BitVec 128) : a + b + c = a + (b + c) := BitVec.add_assoc a b c
theorem ring4 (a b : BitVec 128) : underB (a + b) a = overB a b := by
  unfold underB overB; rw [BitVec.toNat_add]
  have := a.isLt; have := b.isLt
  apply decide_eq_decide.mpr; omega
theorem ring5 (a b : BitVec 128) : cmpZ b a = 0 - cmpZ a b := by
  unfold cmpZ
  by_cases h : a.toNat < b.toNat
  · have h2 : ¬ b.toNat < a.toNat := by omega
    have h3 : ¬ b = a := by intro e; rw [e] at h; omega
    simp [h, h2, h3]
  · by_cases e : a = b
    · subst e; simp
    · have h2 : b.toNat < a.toNat := by
        have : a.toNat ≠ b.toNat := fun q => e (BitVec.eq_of_toNat_eq q)
        omega
      simp [h, h2, e]
theorem ring6 (a b : BitVec 128) : (cmpZ a b == 0) = (a == b) := by
  unfold cmpZ
  by_cases e : a = b
  · subst e; simp
  · have : ¬ (a == b) = true := by simpa using e
    by_cases h : a.toNat < b.toNat
    · simp [h, e]
    · simp [h, e]
theorem ring7 (a b c : BitVec 128) (h1 : cmpZ a b ≤ 0) (h2 : cmpZ b c ≤ 0) : ¬ 0 < cmpZ a c := by
  have k : ∀ x y : BitVec 128, cmpZ x y ≤ 0 ↔ x.toNat ≤ y.toNat := by
    intro x y
    unfold cmpZ
    by_cases h : x.toNat < y.toNat
    · simp [h]; omega
    · by_cases e : x = y
      · subst e; simp
      · have : x.toNat ≠ y.toNat := fun q => e (BitVec.eq_of_toNat_eq q)
        simp [h, e]; omega
  have := (k a b).mp h1
  have := (k b c).mp h2
  have := (k a c).mpr (by omega)
  omega
theorem lead_le (z : BitVec 128) : leadN z ≤ 128 := by unfold leadN; split <;> omega
theorem lead_128 (z : BitVec 128) : leadN z = 128 ↔ z = 0#128 := by
  unfold leadN
  constructor
  · intro h
    apply BitVec.eq_of_toNat_eq
    by_cases e : z.toNat = 0
    · rw [e]; rfl
    · rw [if_neg e] at h; omega
  · intro h; subst h; rfl
theorem xor_eq0 (a b : BitVec 128) : a ^^^ b = 0#128 ↔ a = b := by
  constructor
  · intro h
    apply BitVec.eq_of_getLsbD_eq; intro i hi
    have := congrArg (fun z => z.getLsbD i) h
    simp only [BitVec.getLsbD_xor, BitVec.getLsbD_zero] at this
    cases hx : a.getLsbD i <;> cases hy : b.getLsbD i <;> simp [hx, hy] at this <;> rfl
  · intro h; subst h; exact BitVec.xor_self
theorem lead_bounds (z : BitVec 128) (h : leadN z < 128) : z.toNat < 2 ^ (128 - leadN z) ∧ 2 ^ (127 - leadN z) ≤ z.toNat := by
  by_cases e : z.toNat = 0
  · unfold leadN at h; rw [if_pos e] at h; omega
  · have hl : z.toNat.log2 < 128 := (Nat.log2_lt e).mpr z.isLt
    have hk : leadN z = 127 - z.toNat.log2 := by unfold leadN; rw [if_neg e]
    have e1 : 128 - leadN z = z.toNat.log2 + 1 := by omega
    have e2 : 127 - leadN z = z.toNat.log2 := by omega
    rw [e1, e2]
    exact ⟨Nat.lt_log2_self, Nat.log2_self_le e⟩
theorem below_of (a b p : Nat) (hp : 0 < p) (h1 : a / p / 2 = b / p / 2) (h2 : a / p % 2 = 0) (h3 : b / p % 2 = 1) : a < b := by
  have h4 : a / p + 1 = b / p := by omega
  have h5 : a < p * (a / p + 1) := Nat.lt_mul_div_succ a hp
  have h6 : p * (b / p) ≤ b := Nat.mul_div_le b p
  rw [h4] at h5; omega
theorem bit_div (a : BitVec 128) (m : Nat) : a.getLsbD m = decide (a.toNat / 2 ^ m % 2 = 1) := by
  unfold BitVec.getLsbD; rw [Nat.testBit_eq_decide_div_mod_eq]
/-- Where two words are not the same, their first unlike bit tells which is below. -/
theorem first_bit (a b : BitVec 128) (h : leadN (a ^^^ b) < 128) : (bitZ a (leadN (a ^^^ b) : Int) = 0 ∧ bitZ b (leadN (a ^^^ b) : Int) = 1 ∧ cmpZ a b = -1) ∨ (bitZ a (leadN (a ^^^ b) : Int) = 1 ∧ bitZ b (leadN (a ^^^ b) : Int) = 0 ∧ cmpZ a b = 1) := by
  obtain ⟨hu, hl⟩ := lead_bounds _ h
  have hst := (bit_step (a ^^^ b) _ h hu).1
  generalize leadN (a ^^^ b) = k at *
  have hm : (a ^^^ b).getLsbD (127 - k) = true := by
    cases q : (a ^^^ b).getLsbD (127 - k)
    · have := hst q
      have e : 128 - (k + 1) = 127 - k := by omega
      rw [e] at this; omega
    · rfl
  have up : a.toNat / 2 ^ (127 - k) / 2 = b.toNat / 2 ^ (127 - k) / 2 := by
    have e : a >>> (128 - k) = b >>> (128 - k) := by
      apply BitVec.eq_of_getLsbD_eq; intro i hi
      simp only [BitVec.getLsbD_ushiftRight]
      have z : (a ^^^ b).getLsbD (128 - k + i) = false := by
        unfold BitVec.getLsbD
        apply Nat.testBit_lt_two_pow
        exact Nat.lt_of_lt_of_le hu (Nat.pow_le_pow_right (by decide) (by omega))
      rw [BitVec.getLsbD_xor] at z
      cases hx : a.getLsbD (128 - k + i) <;> cases hy : b.getLsbD (128 - k + i) <;> simp [hx, hy] at z <;> rfl
    have e2 := congrArg BitVec.toNat e
    rw [BitVec.toNat_ushiftRight, BitVec.toNat_ushiftRight, Nat.shiftRight_eq_div_pow, Nat.shiftRight_eq_div_pow] at e2
    have e3 : 2 ^ (128 - k) = 2 ^ (127 - k) * 2 := by rw [← Nat.pow_succ]; congr 1; omega
    rw [e3, ← Nat.div_div_eq_div_mul, ← Nat.div_div_eq_div_mul] at e2
    exact e2
  have e4 : (127 - (k : Int)).toNat = 127 - k := by omega
  unfold bitZ
  rw [bitB_in a k (by omega) (by omega), bitB_in b k (by omega) (by omega), e4]
  rw [BitVec.getLsbD_xor] at hm
  have hp : 0 < 2 ^ (127 - k) := Nat.two_pow_pos _
  rw [bit_div a, bit_div b] at hm ⊢
  unfold cmpZ
  by_cases ca : a.toNat / 2 ^ (127 - k) % 2 = 1
  · have cb : ¬ b.toNat / 2 ^ (127 - k) % 2 = 1 := by intro cb; simp [ca, cb] at hm
    have lt := below_of b.toNat a.toNat _ hp up.symm (by omega) ca
    have n1 : ¬ a.toNat < b.toNat := by omega
    have n2 : ¬ a = b := by intro q; rw [q] at lt; omega
    right; simp [ca, cb, n1, n2]
  · have cb : b.toNat / 2 ^ (127 - k) % 2 = 1 := by
      apply Classical.byContradiction; intro cb; simp [ca, cb] at hm
    have lt := below_of a.toNat b.toNat _ hp up (by omega) cb
    left; simp [ca, cb, lt]
end Go.Proofs.Ytkahilfklgobpab
