/-
  Plain numbers, more: sums, differences, order, single bits, masks.
-/
import Derived.Test.YtbamogpbjdobkaaDoorNum
namespace Go.Proofs.YtbamogpbjdobkaaDoor
open Go.RowKit
set_option linter.unusedSimpArgs false
set_option linter.unusedVariables false

theorem hvN (x : BitVec 128) : (hv x).toNat = x.toNat / 18446744073709551616 := by
  unfold hv; rw [BitVec.extractLsb'_toNat, Nat.shiftRight_eq_div_pow]
  have := x.isLt; omega
theorem lvN (x : BitVec 128) : (lv x).toNat = x.toNat % 18446744073709551616 := by
  unfold lv; rw [BitVec.extractLsb'_toNat, Nat.shiftRight_eq_div_pow]
  simp
theorem hIN (x : BitVec 128) : hI x = ((x.toNat / 18446744073709551616 : Nat) : Int) := by unfold hI; rw [hvN]
theorem lIN (x : BitVec 128) : lI x = ((x.toNat % 18446744073709551616 : Nat) : Int) := by unfold lI; rw [lvN]

def addS (x y c : Int) : Int := (x + y + c) % 18446744073709551616
def addC (x y c : Int) : Int := (x + y + c) / 18446744073709551616
def overB (x y : BitVec 128) : Bool := decide (340282366920938463463374607431768211456 ≤ x.toNat + y.toNat)
def subS (x y c : Int) : Int := (x + 18446744073709551616 - y - c) % 18446744073709551616
def subC (x y c : Int) : Int := if x < y + c then 1 else 0
def underB (x y : BitVec 128) : Bool := decide (x.toNat < y.toNat)
def cmpZ (x y : BitVec 128) : Int := if x.toNat < y.toNat then -1 else if x = y then 0 else 1

theorem add_l (x y : BitVec 128) : addS (lI x) (lI y) 0 = lI (x + y) := by
  unfold addS; rw [lIN, lIN, lIN, BitVec.toNat_add]; omega
theorem add_h (x y : BitVec 128) : addS (hI x) (hI y) (addC (lI x) (lI y) 0) = hI (x + y) := by
  unfold addS addC; rw [hIN, hIN, hIN, lIN, lIN, BitVec.toNat_add]
  have := x.isLt; have := y.isLt; omega
theorem add_c (x y : BitVec 128) : addC (hI x) (hI y) (addC (lI x) (lI y) 0) = if overB x y then 1 else 0 := by
  unfold addC overB; rw [hIN, hIN, lIN, lIN]
  have := x.isLt; have := y.isLt
  split <;> rename_i h <;> simp at h <;> omega
theorem addC_bd (x y c : Int) (a : 0 ≤ x) (b : x < 18446744073709551616) (d : 0 ≤ y) (e : y < 18446744073709551616) (f : 0 ≤ c) (g : c ≤ 1) : 0 ≤ addC x y c ∧ addC x y c ≤ 1 := by
  unfold addC; omega
theorem sub_l (x y : BitVec 128) : subS (lI x) (lI y) 0 = lI (x - y) := by
  unfold subS; rw [lIN, lIN, lIN, BitVec.toNat_sub]
  have := x.isLt; have := y.isLt; omega
theorem sub_h (x y : BitVec 128) : subS (hI x) (hI y) (subC (lI x) (lI y) 0) = hI (x - y) := by
  unfold subS subC; rw [hIN, hIN, hIN, lIN, lIN, BitVec.toNat_sub]
  have := x.isLt; have := y.isLt; split <;> omega
theorem sub_c (x y : BitVec 128) : subC (hI x) (hI y) (subC (lI x) (lI y) 0) = if underB x y then 1 else 0 := by
  unfold subC underB; rw [hIN, hIN, lIN, lIN]
  have := x.isLt; have := y.isLt
  simp only [decide_eq_true_eq]
  split <;> split <;> split <;> omega
theorem subC_bd (x y c : Int) : 0 ≤ subC x y c ∧ subC x y c ≤ 1 := by
  unfold subC; split <;> omega

theorem ltN (x y : BitVec 128) : x.toNat < y.toNat ↔ hI x < hI y ∨ hI x = hI y ∧ lI x < lI y := by
  rw [hIN, hIN, lIN, lIN]
  have := x.isLt; have := y.isLt; omega
theorem cmp_ways (x y : BitVec 128) : (hI x < hI y ∧ cmpZ x y = -1) ∨ (hI x = hI y ∧ lI x < lI y ∧ cmpZ x y = -1) ∨ (x = y ∧ cmpZ x y = 0) ∨ (hI y < hI x ∧ cmpZ x y = 1) ∨ (hI x = hI y ∧ lI y < lI x ∧ cmpZ x y = 1) := by
  by_cases a : x.toNat < y.toNat
  · have c : cmpZ x y = -1 := by unfold cmpZ; rw [if_pos a]
    rcases (ltN x y).mp a with h | ⟨h, g⟩
    · exact Or.inl ⟨h, c⟩
    · exact Or.inr (Or.inl ⟨h, g, c⟩)
  · by_cases b : x = y
    · exact Or.inr (Or.inr (Or.inl ⟨b, by unfold cmpZ; rw [if_neg a, if_pos b]⟩))
    · have c : cmpZ x y = 1 := by unfold cmpZ; rw [if_neg a, if_neg b]
      have d : y.toNat < x.toNat := by
        have : x.toNat ≠ y.toNat := fun h => b (BitVec.eq_of_toNat_eq h)
        omega
      rcases (ltN y x).mp d with h | ⟨h, g⟩
      · exact Or.inr (Or.inr (Or.inr (Or.inl ⟨h, c⟩)))
      · exact Or.inr (Or.inr (Or.inr (Or.inr ⟨h.symm, g, c⟩)))
theorem cmp_lt (x y : BitVec 128) : (cmpZ x y < 0) ↔ underB x y = true := by
  unfold cmpZ underB; by_cases a : x.toNat < y.toNat
  · simp [a]
  · simp [a]; split <;> omega

/-- The bit at place i, the highest being at 0; 0 where there is none. -/
def bitB (x : BitVec 128) (i : Int) : Bool := decide (0 ≤ i) && x.getMsbD i.toNat
def bitZ (x : BitVec 128) (i : Int) : Int := if bitB x i then 1 else 0
/-- All bits set, under a name that no rule opens. -/
def allW : BitVec 128 := ~~~(0#128)
def maskW (n : Int) : BitVec 128 := ~~~(allW >>> n.toNat)

theorem bitZ_01 (x : BitVec 128) (i : Int) : bitZ x i = 0 ∨ bitZ x i = 1 := by unfold bitZ; split <;> simp
theorem bitZ_out (x : BitVec 128) (i : Int) (h : i < 0 ∨ 127 < i) : bitZ x i = 0 := by
  unfold bitZ bitB
  rcases h with h | h
  · have : ¬ 0 ≤ i := by omega
    simp [this]
  · have : x.getMsbD i.toNat = false := by unfold BitVec.getMsbD; simp; omega
    simp [this]
theorem one64 : (1 : Int) = ((1#64).toNat : Int) := by decide
theorem and1 (a : BitVec 64) : bits .and .u64 (a.toNat : Int) 1 = if a.getLsbD 0 then 1 else 0 := by
  rw [one64, bits64and _ _ _ rfl]
  have : (a &&& 1#64) = if a.getLsbD 0 then 1#64 else 0#64 := by
    apply BitVec.eq_of_getLsbD_eq; intro i hi
    by_cases c : i = 0
    · subst c; cases h : a.getLsbD 0 <;> simp [← BitVec.getLsbD_eq_getElem, h]
    · cases h : a.getLsbD 0 <;> simp [h, c]
  rw [this]; split <;> rfl
theorem wrap64_ite (b : Bool) : wrap64 (if b then 1 else 0) = if b then 1 else 0 := by cases b <;> simp [wrap64]
theorem bitB_in (x : BitVec 128) (i : Int) (h : 0 ≤ i) (g : i ≤ 127) : bitB x i = x.getLsbD (127 - i).toNat := by
  unfold bitB BitVec.getMsbD
  have e : 128 - 1 - i.toNat = (127 - i).toNat := by omega
  have c : i.toNat < 128 := by omega
  simp only [h, c, e, decide_true, Bool.true_and]
theorem bit_shr (x : BitVec 128) (i : Int) (h : 0 ≤ i) (g : i ≤ 127) : wrap64 (bits .and .u64 (lI (x >>> (127 - i).toNat)) 1) = bitZ x i := by
  unfold lI bitZ
  rw [and1, wrap64_ite, bitB_in x i h g]
  simp only [lv_bit, BitVec.getLsbD_ushiftRight, Nat.add_zero]
  simp
theorem bit_hi (x : BitVec 128) (i : Int) (h : 0 ≤ i) (g : i < 64) : wrap64 (bits .and .u64 (hI x / 2 ^ (63 - i).toNat) 1) = bitZ x i := by
  unfold hI bitZ
  rw [shr64, and1, wrap64_ite, bitB_in x i h (by omega)]
  have e : 64 + (63 - i).toNat = (127 - i).toNat := by omega
  have c : (63 - i).toNat < 64 := by omega
  simp only [hv_bit, BitVec.getLsbD_ushiftRight, Nat.add_zero, e, c, decide_true, Bool.true_and]
theorem bit_lo (x : BitVec 128) (i : Int) (h : 64 ≤ i) (g : i ≤ 127) : wrap64 (bits .and .u64 (lI x / 2 ^ (127 - i).toNat) 1) = bitZ x i := by
  unfold lI bitZ
  rw [shr64, and1, wrap64_ite, bitB_in x i (by omega) g]
  have c : (127 - i).toNat < 64 := by omega
  simp only [lv_bit, BitVec.getLsbD_ushiftRight, Nat.add_zero, c, decide_true, Bool.true_and]

/-- A word with the bit at place i set so. -/
def putW (x : BitVec 128) (i : Int) (b : Int) : BitVec 128 := (x &&& ~~~(1#128 <<< (127 - i).toNat)) ||| (BitVec.ofInt 128 b <<< (127 - i).toNat)
theorem putW_bit (x : BitVec 128) (i : Int) (b : Int) (hb : b = 0 ∨ b = 1) (h : 0 ≤ i) (g : i ≤ 127) (j : Nat) (hj : j < 128) : (putW x i b).getLsbD j = if j = (127 - i).toNat then decide (b = 1) else x.getLsbD j := by
  unfold putW
  simp only [BitVec.getLsbD_and, BitVec.getLsbD_or, BitVec.getLsbD_not, BitVec.getLsbD_shiftLeft, hj, decide_true, Bool.true_and]
  by_cases c : j = (127 - i).toNat
  · subst c
    rcases hb with rfl | rfl <;> simp
  · by_cases d : j < (127 - i).toNat
    · simp [c, d]
    · have e : ¬ j - (127 - i).toNat = 0 := by omega
      rcases hb with rfl | rfl <;> simp [c, d, e]
theorem two64 (n : Nat) : IntKind.u64.wrap (2 ^ n) = ((1#64 <<< n).toNat : Int) := by
  have := shl64 1#64 n
  simpa using this
theorem put_h1 (x : BitVec 128) (i : Int) (h : 0 ≤ i) (g : i < 64) : bits .or .u64 (bits .andNot .u64 (hI x) (IntKind.u64.wrap (2 ^ (63 - i).toNat))) (IntKind.u64.wrap (2 ^ (63 - i).toNat)) = hI (putW x i 1) := by
  unfold hI
  rw [two64, bits64andNot _ _ _ rfl]
  refine bits64or _ _ _ ?_
  apply BitVec.eq_of_getLsbD_eq; intro j hj
  have e : decide (64 + j = (127 - i).toNat) = decide (j = (63 - i).toNat) := by apply decide_eq_decide.mpr; omega
  rw [hv_bit, putW_bit x i 1 (Or.inr rfl) h (by omega) _ (by omega)]
  simp only [hv_bit, BitVec.getLsbD_and, BitVec.getLsbD_or, BitVec.getLsbD_not, BitVec.getLsbD_shiftLeft, hj, decide_true, Bool.true_and]
  by_cases c : j = (63 - i).toNat
  · have : 64 + j = (127 - i).toNat := by omega
    subst c; simp [this]
  · have : ¬ 64 + j = (127 - i).toNat := by omega
    by_cases d : j < (63 - i).toNat
    · simp [this, c, d]
    · have : ¬ j - (63 - i).toNat = 0 := by omega
      simp [*]
theorem put_l0 (x : BitVec 128) (i : Int) (b : Int) (hb : b = 0 ∨ b = 1) (h : 0 ≤ i) (g : i < 64) : lI (putW x i b) = lI x := by
  unfold lI; congr 2
  apply BitVec.eq_of_getLsbD_eq; intro j hj
  rw [lv_bit, lv_bit, putW_bit x i b hb h (by omega) _ (by omega), if_neg (by omega)]
theorem put_h0 (x : BitVec 128) (i : Int) (h : 0 ≤ i) (g : i < 64) : bits .or .u64 (bits .andNot .u64 (hI x) (IntKind.u64.wrap (2 ^ (63 - i).toNat))) 0 = hI (putW x i 0) := by
  unfold hI
  rw [two64, bits64andNot _ _ _ rfl]
  refine bits64or _ 0#64 _ ?_
  apply BitVec.eq_of_getLsbD_eq; intro j hj
  rw [hv_bit, putW_bit x i 0 (Or.inl rfl) h (by omega) _ (by omega)]
  simp only [hv_bit, BitVec.getLsbD_and, BitVec.getLsbD_or, BitVec.getLsbD_not, BitVec.getLsbD_shiftLeft, hj, decide_true, Bool.true_and]
  by_cases c : j = (63 - i).toNat
  · have : 64 + j = (127 - i).toNat := by omega
    subst c; simp [this]
  · have : ¬ 64 + j = (127 - i).toNat := by omega
    by_cases d : j < (63 - i).toNat
    · simp [this, c, d]
    · have : ¬ j - (63 - i).toNat = 0 := by omega
      simp [*]
theorem put_l1 (x : BitVec 128) (i : Int) (h : 64 ≤ i) (g : i ≤ 127) : bits .or .u64 (bits .andNot .u64 (lI x) (IntKind.u64.wrap (2 ^ (127 - i).toNat))) (IntKind.u64.wrap (2 ^ (127 - i).toNat)) = lI (putW x i 1) := by
  unfold lI
  rw [two64, bits64andNot _ _ _ rfl]
  refine bits64or _ _ _ ?_
  apply BitVec.eq_of_getLsbD_eq; intro j hj
  rw [lv_bit, putW_bit x i 1 (Or.inr rfl) (by omega) (by omega) _ (by omega)]
  simp only [lv_bit, BitVec.getLsbD_and, BitVec.getLsbD_or, BitVec.getLsbD_not, BitVec.getLsbD_shiftLeft, hj, decide_true, Bool.true_and]
  by_cases c : j = (127 - i).toNat
  · subst c; simp
  · by_cases d : j < (127 - i).toNat
    · simp [c, d]
    · have : ¬ j - (127 - i).toNat = 0 := by omega
      simp [*]
theorem put_l00 (x : BitVec 128) (i : Int) (h : 64 ≤ i) (g : i ≤ 127) : bits .or .u64 (bits .andNot .u64 (lI x) (IntKind.u64.wrap (2 ^ (127 - i).toNat))) 0 = lI (putW x i 0) := by
  unfold lI
  rw [two64, bits64andNot _ _ _ rfl]
  refine bits64or _ 0#64 _ ?_
  apply BitVec.eq_of_getLsbD_eq; intro j hj
  rw [lv_bit, putW_bit x i 0 (Or.inl rfl) (by omega) (by omega) _ (by omega)]
  simp only [lv_bit, BitVec.getLsbD_and, BitVec.getLsbD_or, BitVec.getLsbD_not, BitVec.getLsbD_shiftLeft, hj, decide_true, Bool.true_and]
  by_cases c : j = (127 - i).toNat
  · subst c; simp
  · by_cases d : j < (127 - i).toNat
    · simp [c, d]
    · have : ¬ j - (127 - i).toNat = 0 := by omega
      simp [*]
theorem put_hh (x : BitVec 128) (i : Int) (b : Int) (hb : b = 0 ∨ b = 1) (h : 64 ≤ i) (g : i ≤ 127) : hI (putW x i b) = hI x := by
  unfold hI; congr 2
  apply BitVec.eq_of_getLsbD_eq; intro j hj
  rw [hv_bit, hv_bit, putW_bit x i b hb (by omega) (by omega) _ (by omega), if_neg (by omega)]
theorem maskW_0 : maskW 0 = 0#128 := by decide
theorem maskW_bit (n : Int) (j : Nat) (hj : j < 128) : (maskW n).getLsbD j = decide (128 - n.toNat ≤ j) := by
  unfold maskW allW
  simp only [BitVec.getLsbD_not, BitVec.getLsbD_ushiftRight, BitVec.getLsbD_zero, hj, decide_true, Bool.true_and, Bool.not_false, Bool.and_true]
  rw [← decide_not]; apply decide_eq_decide.mpr; omega
theorem maskW_succ (k : Nat) (h : k < 128) : putW (maskW (k : Int)) (k : Int) 1 = maskW ((k + 1 : Nat) : Int) := by
  apply BitVec.eq_of_getLsbD_eq; intro j hj
  rw [putW_bit _ _ _ (Or.inr rfl) (by omega) (by omega) _ hj, maskW_bit _ _ hj, maskW_bit _ _ hj]
  split
  · simp; omega
  · apply decide_eq_decide.mpr; omega
theorem maskW_all (n : Int) (h : 128 ≤ n) : maskW n = maskW 128 := by
  apply BitVec.eq_of_getLsbD_eq; intro j hj
  rw [maskW_bit _ _ hj, maskW_bit _ _ hj]; apply decide_eq_decide.mpr; omega
theorem maskW_neg (n : Int) (h : n ≤ 0) : maskW n = 0#128 := by
  have : n.toNat = 0 := by omega
  unfold maskW; rw [this]; decide
end Go.Proofs.YtbamogpbjdobkaaDoor
