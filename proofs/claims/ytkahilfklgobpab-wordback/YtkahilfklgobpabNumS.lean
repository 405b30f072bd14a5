/-
  Plain numbers, more: what moving to the front and back comes to.
-/
import Derived.Test.YtkahilfklgobpabNum3
namespace Go.Proofs.Ytkahilfklgobpab
open Go.RowKit
set_option linter.unusedSimpArgs false
set_option linter.unusedVariables false

theorem shl_shl (x : BitVec 128) (n m : Int) (hn : 0 ≤ n) (hm : 0 ≤ m) : (x <<< n.toNat) <<< m.toNat = x <<< (n + m).toNat := by
  have e : (n + m).toNat = n.toNat + m.toNat := by omega
  rw [e, BitVec.shiftLeft_add]
theorem shr_shr (x : BitVec 128) (n m : Int) (hn : 0 ≤ n) (hm : 0 ≤ m) : (x >>> n.toNat) >>> m.toNat = x >>> (n + m).toNat := by
  have e : (n + m).toNat = n.toNat + m.toNat := by omega
  rw [e, BitVec.shiftRight_add]
theorem shr_shl (x : BitVec 128) (n : Int) (hn : 0 ≤ n) : (x <<< n.toNat) >>> n.toNat = x &&& ~~~(maskW n) := by
  apply BitVec.eq_of_getLsbD_eq; intro j hj
  simp only [BitVec.getLsbD_ushiftRight, BitVec.getLsbD_shiftLeft, BitVec.getLsbD_and, BitVec.getLsbD_not, maskW_bit n j hj, hj, decide_true, Bool.true_and]
  have e : n.toNat + j - n.toNat = j := by omega
  have d : ¬ n.toNat + j < n.toNat := by omega
  rw [e]
  by_cases c : n.toNat + j < 128
  · have a : ¬ 128 - n.toNat ≤ j := by omega
    simp [a, c, d]
  · have a : 128 - n.toNat ≤ j := by omega
    simp [a, c]
theorem shl_shr (x : BitVec 128) (n : Int) (hn : 0 ≤ n) : (x >>> n.toNat) <<< n.toNat = x &&& maskW (128 - n) := by
  apply BitVec.eq_of_getLsbD_eq; intro j hj
  simp only [BitVec.getLsbD_ushiftRight, BitVec.getLsbD_shiftLeft, BitVec.getLsbD_and, maskW_bit (128 - n) j hj, hj, decide_true, Bool.true_and]
  by_cases c : j < n.toNat
  · have a : ¬ 128 - (128 - n).toNat ≤ j := by omega
    simp [a, c]
  · have e : n.toNat + (j - n.toNat) = j := by omega
    by_cases g : n.toNat ≤ 128
    · have a : 128 - (128 - n).toNat ≤ j := by omega
      simp [a, c, e]
    · omega
theorem twice (x : BitVec 128) : x + x = x <<< 1 := by
  apply BitVec.eq_of_toNat_eq
  rw [BitVec.toNat_add, BitVec.toNat_shiftLeft, Nat.shiftLeft_eq]; omega
theorem twice_over (x : BitVec 128) : overB x x = decide (bitZ x 0 = 1) := by
  unfold bitZ
  rw [bitB_in x 0 (by omega) (by omega)]
  unfold overB BitVec.getLsbD
  have e : (127 - (0 : Int)).toNat = 127 := by decide
  rw [e, Nat.testBit_eq_decide_div_mod_eq]
  have := x.isLt
  rw [Bool.eq_iff_iff]
  by_cases c : x.toNat / 2 ^ 127 % 2 = 1
  · simp [c]; omega
  · simp [c]; omega
theorem shl_neg (x : BitVec 128) (n : Int) (hn : 0 ≤ n) : x <<< (0 - n).toNat = x := by
  have e : (0 - n).toNat = 0 := by omega
  rw [e]; exact BitVec.shiftLeft_zero _

/-- A number from 0 to n - 1. -/
def withinZ (a n : Int) : Int := a % n
theorem withinZ_bd (a n : Int) (h : 0 < n) : 0 ≤ withinZ a n ∧ withinZ a n < n := ⟨Int.emod_nonneg _ (by omega), Int.emod_lt_of_pos _ h⟩
theorem within_mod (a n : Int) : a % n = a.tmod n % n := by
  have h2 := Int.mul_tdiv_add_tmod a n
  conv => lhs; rw [← h2]
  rw [Int.mul_add_emod_self_left]
theorem within_pos (a n : Int) (h : 0 < n) (hn : 0 ≤ a.tmod n) : a.tmod n = withinZ a n := by
  unfold withinZ
  rw [within_mod]
  exact (Int.emod_eq_of_lt hn (Int.tmod_lt_of_pos a h)).symm
theorem within_neg (a n : Int) (h : 0 < n) (hn : a.tmod n < 0) : a.tmod n + n = withinZ a n := by
  unfold withinZ
  rw [within_mod, ← Int.add_emod_right]
  have h1 := Int.lt_tmod_of_pos a h
  exact (Int.emod_eq_of_lt (by omega) (by omega)).symm
theorem within_bd (a n : Int) (h : 0 < n) : -n < a.tmod n ∧ a.tmod n < n := ⟨Int.lt_tmod_of_pos a h, Int.tmod_lt_of_pos a h⟩
end Go.Proofs.Ytkahilfklgobpab
