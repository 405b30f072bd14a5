/-
  Plain facts on addresses: families, the last address, the step from one to the next. Nothing of the program is imported here.
-/
import Derived.Test.YtpchhfhdepkbcaaDoorNum2
namespace Go.Proofs.YtpchhfhdepkbcaaDoor
open Go.RowKit
set_option linter.unusedSimpArgs false
set_option linter.unusedVariables false

def fam (F : Int) : Bool := decide (F = 32) || decide (F = 128)
theorem fam_ways (F : Int) (h : fam F = true) : F = 32 ∨ F = 128 := by unfold fam at h; simpa using h
theorem fam_no (F : Int) (h : fam F = false) : ¬ F = 32 ∧ ¬ F = 128 := by unfold fam at h; simpa using h
/-- The step from an address to the next one. -/
def stepW (F : Int) : BitVec 128 := mkW 0 1 <<< (128 - F).toNat
def lastV (F : Int) : BitVec 128 := if fam F = true then maskW F else 0#128
def lastE (F : Int) : Int := if fam F = true then 0 else 11
def rightE (F : Int) (x : BitVec 128) : Int := if fam F = true then (if x &&& maskW F = x then 0 else 6) else 11
def nextB (F : Int) (x : BitVec 128) : Bool := decide (rightE F x = 0) && !overB x (stepW F)
def nextV (F : Int) (x : BitVec 128) : BitVec 128 := if nextB F x = true then x + stepW F else 0#128
def prevB (F : Int) (x : BitVec 128) : Bool := decide (rightE F x = 0) && !underB x (stepW F)
def prevV (F : Int) (x : BitVec 128) : BitVec 128 := if prevB F x = true then x - stepW F else 0#128

theorem mk01 : mkW 0 1 = 1#128 := by decide +kernel
theorem right0 (F : Int) (x : BitVec 128) (h : rightE F x = 0) : fam F = true ∧ x &&& maskW F = x := by
  unfold rightE at h
  split at h
  · split at h
    · exact ⟨‹_›, ‹_›⟩
    · omega
  · omega
theorem put_step (F : Int) (h : fam F = true) : putW 0#128 (F - 1) 1 = stepW F := by
  rcases fam_ways F h with rfl | rfl <;> decide +kernel
theorem and_not_mask (F : Int) (x : BitVec 128) : (x &&& ~~~(maskW F) = 0#128) ↔ x &&& maskW F = x := by
  constructor
  · intro h
    apply BitVec.eq_of_getLsbD_eq; intro i hi
    have := congrArg (fun z => z.getLsbD i) h
    simp only [BitVec.getLsbD_and, BitVec.getLsbD_not, BitVec.getLsbD_zero, hi, decide_true, Bool.true_and] at this ⊢
    cases hx : x.getLsbD i <;> cases hm : (maskW F).getLsbD i <;> rw [hx, hm] at this <;> simp at this ⊢
  · intro h
    apply BitVec.eq_of_getLsbD_eq; intro i hi
    have := congrArg (fun z => z.getLsbD i) h
    simp only [BitVec.getLsbD_and, BitVec.getLsbD_not, BitVec.getLsbD_zero, hi, decide_true, Bool.true_and] at this ⊢
    cases hx : x.getLsbD i <;> cases hm : (maskW F).getLsbD i <;> rw [hx, hm] at this <;> simp at this ⊢
theorem mask128 : maskW 128 = BitVec.allOnes 128 := by decide +kernel
theorem mask32 : maskW 32 = (BitVec.allOnes 128 >>> 96) <<< 96 := by decide +kernel
theorem low96 (x : BitVec 128) (h : x &&& maskW 32 = x) : x.toNat = 79228162514264337593543950336 * (x.toNat / 79228162514264337593543950336) := by
  have e : x = (x >>> 96) <<< 96 := by
    apply BitVec.eq_of_getLsbD_eq; intro i hi
    have q := congrArg (fun z => z.getLsbD i) h
    rw [mask32] at q
    simp only [BitVec.getLsbD_and, BitVec.getLsbD_shiftLeft, BitVec.getLsbD_ushiftRight, BitVec.getLsbD_allOnes, hi, decide_true, Bool.true_and] at q ⊢
    by_cases c : i < 96
    · simp only [c, decide_true, Bool.not_true, Bool.false_and, Bool.and_false] at q ⊢
      exact q.symm
    · have e : 96 + (i - 96) = i := by omega
      simp only [c, decide_false, Bool.not_false, Bool.true_and, e]
  have f := congrArg BitVec.toNat e
  rw [BitVec.toNat_shiftLeft, BitVec.toNat_ushiftRight, Nat.shiftLeft_eq, Nat.shiftRight_eq_div_pow] at f
  have := x.isLt
  have g : x.toNat / 2 ^ 96 * 2 ^ 96 ≤ x.toNat := Nat.div_mul_le_self _ _
  omega
theorem over_step (F : Int) (x : BitVec 128) (hf : fam F = true) (h : x &&& maskW F = x) : overB x (stepW F) = decide (x = maskW F) := by
  rw [Bool.eq_iff_iff]
  unfold overB
  simp only [decide_eq_true_eq]
  have hx := x.isLt
  rcases fam_ways F hf with rfl | rfl
  · have e1 : (stepW 32).toNat = 79228162514264337593543950336 := by decide +kernel
    have e2 : (maskW 32).toNat = 4294967295 * 79228162514264337593543950336 := by decide +kernel
    have e3 := low96 x h
    rw [e1]
    constructor
    · intro q
      apply BitVec.eq_of_toNat_eq
      omega
    · intro q
      rw [q, e2]; omega
  · have e1 : (stepW 128).toNat = 1 := by decide +kernel
    have e2 : (maskW 128).toNat = 340282366920938463463374607431768211455 := by decide +kernel
    rw [e1]
    constructor
    · intro q
      apply BitVec.eq_of_toNat_eq
      omega
    · intro q
      rw [q, e2]; omega
theorem under_step (F : Int) (x : BitVec 128) (hf : fam F = true) (h : x &&& maskW F = x) : underB x (stepW F) = decide (x = 0#128) := by
  rw [Bool.eq_iff_iff]
  unfold underB
  simp only [decide_eq_true_eq]
  have hx := x.isLt
  have e0 : (0#128).toNat = 0 := rfl
  rcases fam_ways F hf with rfl | rfl
  · have e1 : (stepW 32).toNat = 79228162514264337593543950336 := by decide +kernel
    have e3 := low96 x h
    rw [e1]
    constructor
    · intro q
      apply BitVec.eq_of_toNat_eq
      omega
    · intro q
      rw [q]; omega
  · have e1 : (stepW 128).toNat = 1 := by decide +kernel
    rw [e1]
    constructor
    · intro q
      apply BitVec.eq_of_toNat_eq
      omega
    · intro q
      rw [q]; omega
end Go.Proofs.YtpchhfhdepkbcaaDoor
