/-
  Plain facts on walking from address to address. Nothing of the program is imported here.
-/
import Derived.Test.YtldjeabdoooihabNumA
namespace Go.Proofs.Ytldjeabdoooihab
open Go.RowKit
set_option linter.unusedSimpArgs false
set_option linter.unusedVariables false

theorem right_of (F : Int) (x : BitVec 128) (hf : fam F = true) (h : x &&& maskW F = x) : rightE F x = 0 := by
  unfold rightE; rw [if_pos hf, if_pos h]
theorem and_mask_idem (F : Int) (x : BitVec 128) : (x &&& maskW F) &&& maskW F = x &&& maskW F := by
  rw [BitVec.and_assoc, BitVec.and_self]
theorem low96_back (x : BitVec 128) (h : x.toNat % 79228162514264337593543950336 = 0) : x &&& maskW 32 = x := by
  have e : x = (x >>> 96) <<< 96 := by
    apply BitVec.eq_of_toNat_eq
    rw [BitVec.toNat_shiftLeft, BitVec.toNat_ushiftRight, Nat.shiftLeft_eq, Nat.shiftRight_eq_div_pow]
    have := x.isLt
    have e2 : (2 : Nat) ^ 96 = 79228162514264337593543950336 := by decide
    have e3 : (2 : Nat) ^ 128 = 340282366920938463463374607431768211456 := by decide
    rw [e2]
    omega
  apply BitVec.eq_of_getLsbD_eq; intro i hi
  rw [mask32]
  have q := congrArg (fun z => z.getLsbD i) e
  simp only [BitVec.getLsbD_and, BitVec.getLsbD_shiftLeft, BitVec.getLsbD_ushiftRight, BitVec.getLsbD_allOnes, hi, decide_true, Bool.true_and] at q ⊢
  by_cases c : i < 96
  · simp only [c, decide_true, Bool.not_true, Bool.false_and, Bool.and_false] at q ⊢
    exact q.symm
  · have d : 96 + (i - 96) < 128 := by omega
    simp only [c, d, decide_false, decide_true, Bool.not_false, Bool.and_true]
theorem step_nat (F : Int) (hf : fam F = true) : 1 ≤ (stepW F).toNat := by
  rcases fam_ways F hf with rfl | rfl <;> decide +kernel
theorem next_right (F : Int) (x : BitVec 128) (hr : rightE F x = 0) (ho : overB x (stepW F) = false) : rightE F (x + stepW F) = 0 := by
  obtain ⟨hf, hm⟩ := right0 F x hr
  apply right_of F _ hf
  unfold overB at ho
  simp only [decide_eq_false_iff_not] at ho
  rcases fam_ways F hf with rfl | rfl
  · apply low96_back
    have e1 : (stepW 32).toNat = 79228162514264337593543950336 := by decide +kernel
    have e3 := low96 x hm
    rw [e1] at ho
    rw [BitVec.toNat_add, e1]
    omega
  · rw [mask128, BitVec.and_allOnes]
theorem add_nat (x y : BitVec 128) (ho : overB x y = false) : (x + y).toNat = x.toNat + y.toNat := by
  unfold overB at ho
  simp only [decide_eq_false_iff_not] at ho
  rw [BitVec.toNat_add]; omega
theorem cmp_next (F : Int) (x : BitVec 128) (hf : fam F = true) (ho : overB x (stepW F) = false) : cmpZ x (x + stepW F) = -1 := by
  have := add_nat x (stepW F) ho
  have := step_nat F hf
  unfold cmpZ; rw [if_pos (by omega)]
theorem sub_next (x y : BitVec 128) : (x + y) - x = y := by rw [BitVec.add_comm]; exact BitVec.add_sub_cancel y x
theorem prev_next (F : Int) (x : BitVec 128) (hr : rightE F x = 0) (ho : overB x (stepW F) = false) : prevB F (x + stepW F) = true ∧ prevV F (x + stepW F) = x := by
  have h1 := next_right F x hr ho
  have h2 := add_nat x (stepW F) ho
  have e : prevB F (x + stepW F) = true := by
    unfold prevB underB; rw [h1]; simp; omega
  refine ⟨e, ?_⟩
  unfold prevV; rw [e, if_pos rfl]; exact BitVec.add_sub_cancel x (stepW F)
theorem next_ways (F : Int) (x : BitVec 128) (hr : rightE F x = 0) : (overB x (stepW F) = true ∧ nextB F x = false ∧ nextV F x = 0#128 ∧ x = maskW F) ∨ (overB x (stepW F) = false ∧ nextB F x = true ∧ nextV F x = x + stepW F) := by
  obtain ⟨hf, hm⟩ := right0 F x hr
  have ho := over_step F x hf hm
  by_cases e : x = maskW F
  · left
    have h1 : overB x (stepW F) = true := by rw [ho]; simp [e]
    have e1 : nextB F x = false := by unfold nextB; rw [h1]; simp
    exact ⟨h1, e1, by unfold nextV; rw [e1]; rfl, e⟩
  · right
    have h1 : overB x (stepW F) = false := by rw [ho]; simp [e]
    have e1 : nextB F x = true := by unfold nextB; rw [h1]; simp [hr]
    exact ⟨h1, e1, by unfold nextV; rw [e1]; rfl⟩
theorem prev_zero (F : Int) (hf : fam F = true) : prevB F 0#128 = false ∧ prevV F 0#128 = 0#128 := by
  have hm : 0#128 &&& maskW F = 0#128 := BitVec.zero_and
  have ho := under_step F 0#128 hf hm
  have e : prevB F 0#128 = false := by unfold prevB; rw [ho]; simp
  exact ⟨e, by unfold prevV; rw [e]; rfl⟩
/-- So many steps on. -/
def walkW (F : Int) (x : BitVec 128) : Nat → BitVec 128
  | 0 => x
  | k + 1 => walkW F x k + stepW F
end Go.Proofs.Ytldjeabdoooihab
