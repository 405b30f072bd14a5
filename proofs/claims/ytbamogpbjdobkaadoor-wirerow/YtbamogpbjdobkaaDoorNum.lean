/-
  Plain numbers: a word of 128 bits as a bit vector, its two halves as the integers that lie in memory, and what the single operations on the halves come to. Nothing of the program is imported here.
-/
import Derived.WalkKit
import Derived.WalkSpells
import Derived.WalkLawsBesides
namespace Go.Proofs.YtbamogpbjdobkaaDoor
open Go.RowKit
set_option linter.unusedSimpArgs false
set_option linter.unusedVariables false

def hv (x : BitVec 128) : BitVec 64 := x.extractLsb' 64 64
def lv (x : BitVec 128) : BitVec 64 := x.extractLsb' 0 64
def hI (x : BitVec 128) : Int := ((hv x).toNat : Int)
def lI (x : BitVec 128) : Int := ((lv x).toNat : Int)
def mkW (h l : Int) : BitVec 128 := (BitVec.ofInt 64 h) ++ (BitVec.ofInt 64 l)

theorem hI_lo (x : BitVec 128) : 0 ≤ hI x := by unfold hI; omega
theorem lI_lo (x : BitVec 128) : 0 ≤ lI x := by unfold lI; omega
theorem hI_up (x : BitVec 128) : hI x < 18446744073709551616 := by unfold hI; have := (hv x).isLt; omega
theorem lI_up (x : BitVec 128) : lI x < 18446744073709551616 := by unfold lI; have := (lv x).isLt; omega

theorem ofInt_hI (x : BitVec 128) : BitVec.ofInt 64 (hI x) = hv x := by unfold hI; simp
theorem ofInt_lI (x : BitVec 128) : BitVec.ofInt 64 (lI x) = lv x := by unfold lI; simp

theorem hv_mk (h l : Int) : hv (mkW h l) = BitVec.ofInt 64 h := by
  unfold hv mkW; exact BitVec.extractLsb'_append_eq_left
theorem lv_mk (h l : Int) : lv (mkW h l) = BitVec.ofInt 64 l := by
  unfold lv mkW; exact BitVec.extractLsb'_append_eq_right
theorem hI_mk (h l : Int) (h0 : 0 ≤ h) (h1 : h < 18446744073709551616) : hI (mkW h l) = h := by
  unfold hI; rw [hv_mk]; simp [BitVec.toNat_ofInt]; omega
theorem lI_mk (h l : Int) (h0 : 0 ≤ l) (h1 : l < 18446744073709551616) : lI (mkW h l) = l := by
  unfold lI; rw [lv_mk]; simp [BitVec.toNat_ofInt]; omega

theorem hv_bit (x : BitVec 128) (i : Nat) : (hv x).getLsbD i = (decide (i < 64) && x.getLsbD (64 + i)) := by
  unfold hv; simp
theorem lv_bit (x : BitVec 128) (i : Nat) : (lv x).getLsbD i = (decide (i < 64) && x.getLsbD i) := by
  unfold lv; simp

theorem eq_halves {x y : BitVec 128} (h : hv x = hv y) (l : lv x = lv y) : x = y := by
  apply BitVec.eq_of_getLsbD_eq
  intro i hi
  by_cases c : i < 64
  · have := congrArg (fun z => z.getLsbD i) l
    simpa only [lv_bit, c, decide_true, Bool.true_and] using this
  · have := congrArg (fun z => z.getLsbD (i - 64)) h
    have e : 64 + (i - 64) = i := by omega
    have d : i - 64 < 64 := by omega
    simpa only [hv_bit, e, d, decide_true, Bool.true_and] using this
theorem eq_ints {x y : BitVec 128} (h : hI x = hI y) (l : lI x = lI y) : x = y := by
  apply eq_halves
  · apply BitVec.eq_of_toNat_eq; unfold hI at h; omega
  · apply BitVec.eq_of_toNat_eq; unfold lI at l; omega
theorem beq_ints (x y : BitVec 128) : (hI x == hI y && lI x == lI y) = (x == y) := by
  rw [Bool.eq_iff_iff]; simp only [Bool.and_eq_true, beq_iff_eq]
  exact ⟨fun h => eq_ints h.1 h.2, fun h => by rw [h]; exact ⟨rfl, rfl⟩⟩
theorem mk_ints (x : BitVec 128) : mkW (hI x) (lI x) = x := by
  apply eq_halves
  · rw [hv_mk, ofInt_hI]
  · rw [lv_mk, ofInt_lI]

theorem wrap_nat (n : Nat) (h : n < 18446744073709551616) : IntKind.u64.wrap (n : Int) = (n : Int) := by
  simp [IntKind.wrap, IntKind.bits, IntKind.signed]; omega
theorem bits64and (a b c : BitVec 64) (h : c = a &&& b) : bits .and .u64 (a.toNat : Int) (b.toNat : Int) = (c.toNat : Int) := by
  subst h; unfold bits
  simp only [IntKind.bits, BitVec.ofInt_natCast, BitVec.ofNat_toNat, BitVec.setWidth_eq]
  rw [wrap_nat _ (BitVec.isLt _)]; rfl
theorem bits64or (a b c : BitVec 64) (h : c = a ||| b) : bits .or .u64 (a.toNat : Int) (b.toNat : Int) = (c.toNat : Int) := by
  subst h; unfold bits
  simp only [IntKind.bits, BitVec.ofInt_natCast, BitVec.ofNat_toNat, BitVec.setWidth_eq]
  rw [wrap_nat _ (BitVec.isLt _)]; rfl
theorem bits64xor (a b c : BitVec 64) (h : c = a ^^^ b) : bits .xor .u64 (a.toNat : Int) (b.toNat : Int) = (c.toNat : Int) := by
  subst h; unfold bits
  simp only [IntKind.bits, BitVec.ofInt_natCast, BitVec.ofNat_toNat, BitVec.setWidth_eq]
  rw [wrap_nat _ (BitVec.isLt _)]; rfl
theorem bits64andNot (a b c : BitVec 64) (h : c = a &&& ~~~b) : bits .andNot .u64 (a.toNat : Int) (b.toNat : Int) = (c.toNat : Int) := by
  subst h; unfold bits
  simp only [IntKind.bits, BitVec.ofInt_natCast, BitVec.ofNat_toNat, BitVec.setWidth_eq]
  rw [wrap_nat _ (BitVec.isLt _)]; rfl
theorem shl64 (a : BitVec 64) (n : Nat) : IntKind.u64.wrap ((a.toNat : Int) * 2 ^ n) = ((a <<< n).toNat : Int) := by
  simp [IntKind.wrap, IntKind.bits, IntKind.signed, BitVec.toNat_shiftLeft, Nat.shiftLeft_eq]
theorem shr64 (a : BitVec 64) (n : Nat) : (a.toNat : Int) / 2 ^ n = ((a >>> n).toNat : Int) := by
  simp [BitVec.toNat_ushiftRight, Nat.shiftRight_eq_div_pow]

theorem hv_and (x y : BitVec 128) : hv (x &&& y) = hv x &&& hv y := by apply BitVec.eq_of_getLsbD_eq; intro i hi; simp only [hv_bit, lv_bit, BitVec.getLsbD_and, BitVec.getLsbD_or, BitVec.getLsbD_xor, BitVec.getLsbD_not, BitVec.getLsbD_shiftLeft, BitVec.getLsbD_ushiftRight, BitVec.getLsbD_allOnes, BitVec.getLsbD_zero, hi, decide_true, Bool.true_and]
theorem lv_and (x y : BitVec 128) : lv (x &&& y) = lv x &&& lv y := by apply BitVec.eq_of_getLsbD_eq; intro i hi; simp only [hv_bit, lv_bit, BitVec.getLsbD_and, BitVec.getLsbD_or, BitVec.getLsbD_xor, BitVec.getLsbD_not, BitVec.getLsbD_shiftLeft, BitVec.getLsbD_ushiftRight, BitVec.getLsbD_allOnes, BitVec.getLsbD_zero, hi, decide_true, Bool.true_and]
theorem hv_or (x y : BitVec 128) : hv (x ||| y) = hv x ||| hv y := by apply BitVec.eq_of_getLsbD_eq; intro i hi; simp only [hv_bit, lv_bit, BitVec.getLsbD_and, BitVec.getLsbD_or, BitVec.getLsbD_xor, BitVec.getLsbD_not, BitVec.getLsbD_shiftLeft, BitVec.getLsbD_ushiftRight, BitVec.getLsbD_allOnes, BitVec.getLsbD_zero, hi, decide_true, Bool.true_and]
theorem lv_or (x y : BitVec 128) : lv (x ||| y) = lv x ||| lv y := by apply BitVec.eq_of_getLsbD_eq; intro i hi; simp only [hv_bit, lv_bit, BitVec.getLsbD_and, BitVec.getLsbD_or, BitVec.getLsbD_xor, BitVec.getLsbD_not, BitVec.getLsbD_shiftLeft, BitVec.getLsbD_ushiftRight, BitVec.getLsbD_allOnes, BitVec.getLsbD_zero, hi, decide_true, Bool.true_and]
theorem hv_xor (x y : BitVec 128) : hv (x ^^^ y) = hv x ^^^ hv y := by apply BitVec.eq_of_getLsbD_eq; intro i hi; simp only [hv_bit, lv_bit, BitVec.getLsbD_and, BitVec.getLsbD_or, BitVec.getLsbD_xor, BitVec.getLsbD_not, BitVec.getLsbD_shiftLeft, BitVec.getLsbD_ushiftRight, BitVec.getLsbD_allOnes, BitVec.getLsbD_zero, hi, decide_true, Bool.true_and]
theorem lv_xor (x y : BitVec 128) : lv (x ^^^ y) = lv x ^^^ lv y := by apply BitVec.eq_of_getLsbD_eq; intro i hi; simp only [hv_bit, lv_bit, BitVec.getLsbD_and, BitVec.getLsbD_or, BitVec.getLsbD_xor, BitVec.getLsbD_not, BitVec.getLsbD_shiftLeft, BitVec.getLsbD_ushiftRight, BitVec.getLsbD_allOnes, BitVec.getLsbD_zero, hi, decide_true, Bool.true_and]
theorem hv_not (x : BitVec 128) : hv (~~~x) = BitVec.allOnes 64 ^^^ hv x := by
  apply BitVec.eq_of_getLsbD_eq; intro i hi
  have : 64 + i < 128 := by omega
  simp only [hv_bit, lv_bit, BitVec.getLsbD_and, BitVec.getLsbD_or, BitVec.getLsbD_xor, BitVec.getLsbD_not, BitVec.getLsbD_shiftLeft, BitVec.getLsbD_ushiftRight, BitVec.getLsbD_allOnes, BitVec.getLsbD_zero, hi, this, decide_true, Bool.true_and, Bool.true_xor]
theorem lv_not (x : BitVec 128) : lv (~~~x) = BitVec.allOnes 64 ^^^ lv x := by
  apply BitVec.eq_of_getLsbD_eq; intro i hi
  have : i < 128 := by omega
  simp only [hv_bit, lv_bit, BitVec.getLsbD_and, BitVec.getLsbD_or, BitVec.getLsbD_xor, BitVec.getLsbD_not, BitVec.getLsbD_shiftLeft, BitVec.getLsbD_ushiftRight, BitVec.getLsbD_allOnes, BitVec.getLsbD_zero, hi, this, decide_true, Bool.true_and, Bool.true_xor]

theorem and_h (x y : BitVec 128) : bits .and .u64 (hI x) (hI y) = hI (x &&& y) := bits64and _ _ _ (hv_and x y)
theorem and_l (x y : BitVec 128) : bits .and .u64 (lI x) (lI y) = lI (x &&& y) := bits64and _ _ _ (lv_and x y)
theorem or_h (x y : BitVec 128) : bits .or .u64 (hI x) (hI y) = hI (x ||| y) := bits64or _ _ _ (hv_or x y)
theorem or_l (x y : BitVec 128) : bits .or .u64 (lI x) (lI y) = lI (x ||| y) := bits64or _ _ _ (lv_or x y)
theorem xor_h (x y : BitVec 128) : bits .xor .u64 (hI x) (hI y) = hI (x ^^^ y) := bits64xor _ _ _ (hv_xor x y)
theorem xor_l (x y : BitVec 128) : bits .xor .u64 (lI x) (lI y) = lI (x ^^^ y) := bits64xor _ _ _ (lv_xor x y)
theorem max64 : IntKind.u64.max = ((BitVec.allOnes 64).toNat : Int) := by decide
theorem not_h (x : BitVec 128) : bits .xor .u64 IntKind.u64.max (hI x) = hI (~~~x) := by
  rw [max64]; exact bits64xor _ _ _ (hv_not x)
theorem not_l (x : BitVec 128) : bits .xor .u64 IntKind.u64.max (lI x) = lI (~~~x) := by
  rw [max64]; exact bits64xor _ _ _ (lv_not x)

theorem shl_h (x : BitVec 128) (n : Nat) (h : n < 64) : bits .or .u64 (IntKind.u64.wrap (hI x * 2 ^ n)) (lI x / 2 ^ (64 - n)) = hI (x <<< n) := by
  unfold hI lI
  rw [shl64, shr64]
  refine bits64or _ _ _ ?_
  apply BitVec.eq_of_getLsbD_eq; intro i hi
  have h1 : 64 + i < 128 := by omega
  have h2 : ¬ 64 + i < n := by omega
  by_cases c : i < n
  · have e : 64 + i - n = 64 - n + i := by omega
    have h3 : 64 - n + i < 64 := by omega
    simp only [hv_bit, lv_bit, BitVec.getLsbD_and, BitVec.getLsbD_or, BitVec.getLsbD_xor, BitVec.getLsbD_not, BitVec.getLsbD_shiftLeft, BitVec.getLsbD_ushiftRight, BitVec.getLsbD_allOnes, BitVec.getLsbD_zero, hi, h1, h2, h3, e, c, decide_true, decide_false, Bool.true_and, Bool.not_true, Bool.not_false, Bool.false_and, Bool.false_or]
  · have e : 64 + i - n = 64 + (i - n) := by omega
    have h3 : ¬ 64 - n + i < 64 := by omega
    have h4 : i - n < 64 := by omega
    simp only [hv_bit, lv_bit, BitVec.getLsbD_and, BitVec.getLsbD_or, BitVec.getLsbD_xor, BitVec.getLsbD_not, BitVec.getLsbD_shiftLeft, BitVec.getLsbD_ushiftRight, BitVec.getLsbD_allOnes, BitVec.getLsbD_zero, hi, h1, h2, h3, h4, e, c, decide_true, decide_false, Bool.true_and, Bool.not_true, Bool.not_false, Bool.false_and, Bool.or_false]
theorem shl_l (x : BitVec 128) (n : Nat) : IntKind.u64.wrap (lI x * 2 ^ n) = lI (x <<< n) := by
  unfold lI
  rw [shl64]
  congr 2
  apply BitVec.eq_of_getLsbD_eq; intro i hi
  have h1 : i < 128 := by omega
  have h2 : i - n < 64 := by omega
  simp only [hv_bit, lv_bit, BitVec.getLsbD_and, BitVec.getLsbD_or, BitVec.getLsbD_xor, BitVec.getLsbD_not, BitVec.getLsbD_shiftLeft, BitVec.getLsbD_ushiftRight, BitVec.getLsbD_allOnes, BitVec.getLsbD_zero, hi, h1, h2, decide_true, decide_false, Bool.true_and]
theorem shl_h2 (x : BitVec 128) (n : Nat) (h : 64 ≤ n) (h' : n < 128) : IntKind.u64.wrap (lI x * 2 ^ (n - 64)) = hI (x <<< n) := by
  unfold lI hI
  rw [shl64]
  congr 2
  apply BitVec.eq_of_getLsbD_eq; intro i hi
  have h1 : 64 + i < 128 := by omega
  have e : 64 + i - n = i - (n - 64) := by omega
  have h2 : i - (n - 64) < 64 := by omega
  have h3 : decide (64 + i < n) = decide (i < n - 64) := by apply decide_eq_decide.mpr; omega
  simp only [hv_bit, lv_bit, BitVec.getLsbD_and, BitVec.getLsbD_or, BitVec.getLsbD_xor, BitVec.getLsbD_not, BitVec.getLsbD_shiftLeft, BitVec.getLsbD_ushiftRight, BitVec.getLsbD_allOnes, BitVec.getLsbD_zero, hi, h1, h2, h3, e, decide_true, Bool.true_and]
theorem shl_l2 (x : BitVec 128) (n : Nat) (h : 64 ≤ n) : lI (x <<< n) = 0 := by
  have : lv (x <<< n) = 0#64 := by
    apply BitVec.eq_of_getLsbD_eq; intro i hi
    have h1 : i < n := by omega
    simp only [hv_bit, lv_bit, BitVec.getLsbD_and, BitVec.getLsbD_or, BitVec.getLsbD_xor, BitVec.getLsbD_not, BitVec.getLsbD_shiftLeft, BitVec.getLsbD_ushiftRight, BitVec.getLsbD_allOnes, BitVec.getLsbD_zero, hi, h1, decide_true, Bool.true_and, Bool.not_true, Bool.and_false, Bool.false_and]
  unfold lI; rw [this]; rfl
theorem shl_0 (x : BitVec 128) (n : Nat) (h : 128 ≤ n) : x <<< n = 0#128 := by
  apply BitVec.eq_of_getLsbD_eq; intro i hi
  have h1 : i < n := by omega
  simp only [hv_bit, lv_bit, BitVec.getLsbD_and, BitVec.getLsbD_or, BitVec.getLsbD_xor, BitVec.getLsbD_not, BitVec.getLsbD_shiftLeft, BitVec.getLsbD_ushiftRight, BitVec.getLsbD_allOnes, BitVec.getLsbD_zero, hi, h1, decide_true, Bool.true_and, Bool.not_true, Bool.and_false, Bool.false_and]
theorem shr_l (x : BitVec 128) (n : Nat) (h : n < 64) : bits .or .u64 (lI x / 2 ^ n) (IntKind.u64.wrap (hI x * 2 ^ (64 - n))) = lI (x >>> n) := by
  unfold hI lI
  rw [shl64, shr64]
  refine bits64or _ _ _ ?_
  apply BitVec.eq_of_getLsbD_eq; intro i hi
  by_cases c : i < 64 - n
  · have h3 : n + i < 64 := by omega
    simp only [hv_bit, lv_bit, BitVec.getLsbD_and, BitVec.getLsbD_or, BitVec.getLsbD_xor, BitVec.getLsbD_not, BitVec.getLsbD_shiftLeft, BitVec.getLsbD_ushiftRight, BitVec.getLsbD_allOnes, BitVec.getLsbD_zero, hi, h3, c, decide_true, decide_false, Bool.true_and, Bool.not_true, Bool.not_false, Bool.false_and, Bool.or_false]
  · have e : 64 + (i - (64 - n)) = n + i := by omega
    have h3 : ¬ n + i < 64 := by omega
    have h4 : i - (64 - n) < 64 := by omega
    simp only [hv_bit, lv_bit, BitVec.getLsbD_and, BitVec.getLsbD_or, BitVec.getLsbD_xor, BitVec.getLsbD_not, BitVec.getLsbD_shiftLeft, BitVec.getLsbD_ushiftRight, BitVec.getLsbD_allOnes, BitVec.getLsbD_zero, hi, h3, h4, e, c, decide_true, decide_false, Bool.true_and, Bool.not_true, Bool.not_false, Bool.false_and, Bool.false_or]
theorem shr_h (x : BitVec 128) (n : Nat) : hI x / 2 ^ n = hI (x >>> n) := by
  unfold hI
  rw [shr64]
  congr 2
  apply BitVec.eq_of_getLsbD_eq; intro i hi
  have e : n + (64 + i) = 64 + (n + i) := by omega
  by_cases c : n + i < 64
  · simp only [hv_bit, lv_bit, BitVec.getLsbD_and, BitVec.getLsbD_or, BitVec.getLsbD_xor, BitVec.getLsbD_not, BitVec.getLsbD_shiftLeft, BitVec.getLsbD_ushiftRight, BitVec.getLsbD_allOnes, BitVec.getLsbD_zero, hi, c, e, decide_true, Bool.true_and]
  · simp only [hv_bit, lv_bit, BitVec.getLsbD_and, BitVec.getLsbD_or, BitVec.getLsbD_xor, BitVec.getLsbD_not, BitVec.getLsbD_shiftLeft, BitVec.getLsbD_ushiftRight, BitVec.getLsbD_allOnes, BitVec.getLsbD_zero, hi, c, e, decide_true, decide_false, Bool.true_and, Bool.false_and]
    symm; apply BitVec.getLsbD_of_ge; omega
theorem shr_l2 (x : BitVec 128) (n : Nat) (h : 64 ≤ n) : hI x / 2 ^ (n - 64) = lI (x >>> n) := by
  unfold lI hI
  rw [shr64]
  congr 2
  apply BitVec.eq_of_getLsbD_eq; intro i hi
  have e : n + i = 64 + (n - 64 + i) := by omega
  by_cases c : n - 64 + i < 64
  · simp only [hv_bit, lv_bit, BitVec.getLsbD_and, BitVec.getLsbD_or, BitVec.getLsbD_xor, BitVec.getLsbD_not, BitVec.getLsbD_shiftLeft, BitVec.getLsbD_ushiftRight, BitVec.getLsbD_allOnes, BitVec.getLsbD_zero, hi, c, e, decide_true, Bool.true_and]
  · simp only [hv_bit, lv_bit, BitVec.getLsbD_and, BitVec.getLsbD_or, BitVec.getLsbD_xor, BitVec.getLsbD_not, BitVec.getLsbD_shiftLeft, BitVec.getLsbD_ushiftRight, BitVec.getLsbD_allOnes, BitVec.getLsbD_zero, hi, c, e, decide_true, decide_false, Bool.true_and, Bool.false_and]
    symm; apply BitVec.getLsbD_of_ge; omega
theorem shr_h2 (x : BitVec 128) (n : Nat) (h : 64 ≤ n) : hI (x >>> n) = 0 := by
  have : hv (x >>> n) = 0#64 := by
    apply BitVec.eq_of_getLsbD_eq; intro i hi
    simp only [hv_bit, lv_bit, BitVec.getLsbD_and, BitVec.getLsbD_or, BitVec.getLsbD_xor, BitVec.getLsbD_not, BitVec.getLsbD_shiftLeft, BitVec.getLsbD_ushiftRight, BitVec.getLsbD_allOnes, BitVec.getLsbD_zero, hi, decide_true, Bool.true_and]; apply BitVec.getLsbD_of_ge; omega
  unfold hI; rw [this]; rfl
theorem shr_0 (x : BitVec 128) (n : Nat) (h : 128 ≤ n) : x >>> n = 0#128 := by
  apply BitVec.eq_of_getLsbD_eq; intro i hi
  simp only [hv_bit, lv_bit, BitVec.getLsbD_and, BitVec.getLsbD_or, BitVec.getLsbD_xor, BitVec.getLsbD_not, BitVec.getLsbD_shiftLeft, BitVec.getLsbD_ushiftRight, BitVec.getLsbD_allOnes, BitVec.getLsbD_zero]; apply BitVec.getLsbD_of_ge; omega
theorem hI_zero : hI 0#128 = 0 := by decide
theorem lI_zero : lI 0#128 = 0 := by decide
end Go.Proofs.YtbamogpbjdobkaaDoor
