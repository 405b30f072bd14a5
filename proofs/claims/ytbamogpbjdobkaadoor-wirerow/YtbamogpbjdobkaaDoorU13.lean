/-
  Numbers of 32 bits as bit vectors, as they lie in memory.
-/
import Derived.Test.YtbamogpbjdobkaaDoorRwA0
import Derived.Test.YtbamogpbjdobkaaDoorCrcP
import Derived.Deep.LoopGhost
namespace Go.Proofs.YtbamogpbjdobkaaDoor
open Go.RowKit
set_option linter.unusedSimpArgs false
set_option linter.unusedVariables false

theorem uI_ex (x : BitVec 32) : ∃ n : Int, n = (x.toNat : Int) := ⟨_, rfl⟩
/-- The number that lies in memory, under a name that no rule opens. -/
noncomputable def uI (x : BitVec 32) : Int := Classical.choose (uI_ex x)
theorem uI_eq (x : BitVec 32) : uI x = (x.toNat : Int) := Classical.choose_spec (uI_ex x)
theorem uI_lo (x : BitVec 32) : 0 ≤ uI x := by rw [uI_eq]; omega
theorem uI_up (x : BitVec 32) : uI x < 4294967296 := by rw [uI_eq]; have := x.isLt; omega
theorem uI_inj {x y : BitVec 32} (h : uI x = uI y) : x = y := by
  rw [uI_eq, uI_eq] at h
  exact BitVec.eq_of_toNat_eq (by omega)
theorem uI_of (n : Nat) (h : n < 4294967296) : uI (BitVec.ofNat 32 n) = (n : Int) := by
  rw [uI_eq, BitVec.toNat_ofNat]
  have : (2 : Nat) ^ 32 = 4294967296 := by decide
  omega
theorem uI_mk (n : Int) (h0 : 0 ≤ n) (h1 : n < 4294967296) : ∃ x : BitVec 32, n = uI x := ⟨BitVec.ofNat 32 n.toNat, by rw [uI_of _ (by omega)]; omega⟩
theorem uI_zero : uI 0#32 = 0 := by rw [uI_eq]; rfl
theorem uI_is0 (x : BitVec 32) : (uI x = 0) ↔ x = 0#32 := ⟨fun h => uI_inj (h.trans uI_zero.symm), fun h => by rw [h, uI_zero]⟩
theorem wrap32n (n : Nat) (h : n < 4294967296) : IntKind.u32.wrap (n : Int) = (n : Int) := by
  simp [IntKind.wrap, IntKind.bits, IntKind.signed]; omega
theorem b32 (a b : BitVec 32) : BitVec.ofInt 32 (uI a) = a := by rw [uI_eq]; simp
theorem and32 (a b : BitVec 32) : bits .and .u32 (uI a) (uI b) = uI (a &&& b) := by
  unfold bits
  simp only [IntKind.bits]
  rw [b32 a a, b32 b b, wrap32n _ (BitVec.isLt _), uI_eq]; rfl
theorem or32 (a b : BitVec 32) : bits .or .u32 (uI a) (uI b) = uI (a ||| b) := by
  unfold bits
  simp only [IntKind.bits]
  rw [b32 a a, b32 b b, wrap32n _ (BitVec.isLt _), uI_eq]; rfl
theorem xor32 (a b : BitVec 32) : bits .xor .u32 (uI a) (uI b) = uI (a ^^^ b) := by
  unfold bits
  simp only [IntKind.bits]
  rw [b32 a a, b32 b b, wrap32n _ (BitVec.isLt _), uI_eq]; rfl
theorem andNot32 (a b : BitVec 32) : bits .andNot .u32 (uI a) (uI b) = uI (a &&& ~~~b) := by
  unfold bits
  simp only [IntKind.bits]
  rw [b32 a a, b32 b b, wrap32n _ (BitVec.isLt _), uI_eq]; rfl
theorem shr32 (a : BitVec 32) (n : Nat) : uI a / 2 ^ n = uI (a >>> n) := by
  rw [uI_eq, uI_eq, BitVec.toNat_ushiftRight, Nat.shiftRight_eq_div_pow]; simp
theorem shl32 (a : BitVec 32) (n : Nat) : uI a * 2 ^ n % 4294967296 = uI (a <<< n) := by
  rw [uI_eq, uI_eq, BitVec.toNat_shiftLeft, Nat.shiftLeft_eq]; simp
theorem lit32 (n : Nat) (h : n < 4294967296) : ((n : Nat) : Int) = uI (BitVec.ofNat 32 n) := (uI_of n h).symm
theorem odd32 (x : BitVec 32) : bits .and .u32 (uI x) 1 = if x.getLsbD 0 then 1 else 0 := by
  have e : (1 : Int) = uI 1#32 := lit32 1 (by decide)
  have h : bits .and .u32 (uI x) (uI 1#32) = if x.getLsbD 0 then 1 else 0 := by
    rw [and32]
    have h2 : x &&& 1#32 = if x.getLsbD 0 then 1#32 else 0#32 := by
      apply BitVec.eq_of_getLsbD_eq
      intro i hi
      rw [BitVec.getLsbD_and, BitVec.getLsbD_ofNat]
      by_cases c : i = 0
      · subst c; cases x.getLsbD 0 <;> simp
      · have : Nat.testBit 1 i = false := by
          cases hh : Nat.testBit 1 i with
          | false => rfl
          | true => exact absurd (Nat.testBit_one_eq_true_iff_self_eq_zero.mp hh) c
        rw [this]
        cases x.getLsbD 0
        · simp
        · simp only [if_true]; rw [BitVec.getLsbD_ofNat, this]; simp
    rw [h2]
    cases x.getLsbD 0
    · simp only [Bool.false_eq_true, if_false]; exact uI_zero
    · simp only [if_true]; exact e.symm
  rw [← e] at h
  exact h
theorem xorM (x : BitVec 32) : bits .xor .u32 (uI x) 2197175160 = uI (x ^^^ cM) := by
  have e : (2197175160 : Int) = uI cM := lit32 2197175160 (by decide)
  rw [e, xor32]
theorem half32 (x : BitVec 32) : uI x / (2 : Int) = uI (x >>> 1) := by have := shr32 x 1; simpa using this
theorem dbl32 (x : BitVec 32) : uI x * (2 : Int) % 4294967296 = uI (x <<< 1) := by have := shl32 x 1; simpa using this
theorem hb_odd (x : BitVec 32) (h : x.getLsbD 0 = true) : hb x = (x >>> 1) ^^^ cM := by unfold hb; rw [h]; simp
theorem top32 (x : BitVec 32) : bits .and .u32 (uI x) 2147483648 = if x.getLsbD 31 then 2147483648 else 0 := by
  have e : (2147483648 : Int) = uI cOne := lit32 2147483648 (by decide)
  have h : bits .and .u32 (uI x) (uI cOne) = if x.getLsbD 31 then uI cOne else 0 := by
    rw [and32]
    have h2 : x &&& cOne = if x.getLsbD 31 then cOne else 0#32 := by
      apply BitVec.eq_of_getLsbD_eq
      intro i hi
      rw [BitVec.getLsbD_and, ← tp31]
      have ht : (tp 31).getLsbD i = decide (31 = i) := by unfold tp; rw [BitVec.getLsbD_twoPow]; simp
      by_cases c : i = 31
      · subst c; rw [ht]; cases x.getLsbD 31
        · simp
        · simp [ht]
      · have c' : ¬ 31 = i := by omega
        rw [ht]; cases x.getLsbD 31
        · simp [c']
        · simp [ht, c']
    rw [h2]
    cases x.getLsbD 31
    · simp only [Bool.false_eq_true, if_false]; exact uI_zero
    · simp only [if_true]
  rw [← e] at h
  exact h
end Go.Proofs.YtbamogpbjdobkaaDoor
