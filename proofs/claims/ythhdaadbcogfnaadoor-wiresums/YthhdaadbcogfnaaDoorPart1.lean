/-
  Part 1 of the proof: 7 texts, one behind the other.
-/
import Derived.WalkKit
import Derived.WalkSpells
import Derived.WalkLawsBesides
import Derived.Test.YthhdaadbcogfnaaDoorRows
import Derived.Deep.RegionHeld3
import Derived.Laws.AppendOwnNone
/-
  Plain numbers: a word of 128 bits as a bit vector, its two halves as the integers that lie in memory, and what the single operations on the halves come to. Nothing of the program is imported here.
-/
namespace Go.Proofs.YthhdaadbcogfnaaDoor
open Go.RowKit
set_option linter.unusedSimpArgs false
set_option linter.unusedVariables false

def hv (x : BitVec 128) : BitVec 64 := x.extractLsb' 64 64
def lv (x : BitVec 128) : BitVec 64 := x.extractLsb' 0 64
def hI (x : BitVec 128) : Int := ((hv x).toNat : Int)
def lI (x : BitVec 128) : Int := ((lv x).toNat : Int)
def mkW (h l : Int) : BitVec 128 := (BitVec.ofInt 64 h) ++ (BitVec.ofInt 64 l)

theorem hI_lo (x : BitVec 128) : 0 ≤ hI x := by unfold hI; omega
theorem lI_lo (x : BitVec 128) : 0 ≤ lI x := by unfold lI; omega
theorem hI_up (x : BitVec 128) : hI x < 18446744073709551616 := by unfold hI; have := (hv x).isLt; omega
theorem lI_up (x : BitVec 128) : lI x < 18446744073709551616 := by unfold lI; have := (lv x).isLt; omega

theorem ofInt_hI (x : BitVec 128) : BitVec.ofInt 64 (hI x) = hv x := by unfold hI; simp
theorem ofInt_lI (x : BitVec 128) : BitVec.ofInt 64 (lI x) = lv x := by unfold lI; simp

theorem hv_mk (h l : Int) : hv (mkW h l) = BitVec.ofInt 64 h := by
  unfold hv mkW; exact BitVec.extractLsb'_append_eq_left
theorem lv_mk (h l : Int) : lv (mkW h l) = BitVec.ofInt 64 l := by
  unfold lv mkW; exact BitVec.extractLsb'_append_eq_right
theorem hI_mk (h l : Int) (h0 : 0 ≤ h) (h1 : h < 18446744073709551616) : hI (mkW h l) = h := by
  unfold hI; rw [hv_mk]; simp [BitVec.toNat_ofInt]; omega
theorem lI_mk (h l : Int) (h0 : 0 ≤ l) (h1 : l < 18446744073709551616) : lI (mkW h l) = l := by
  unfold lI; rw [lv_mk]; simp [BitVec.toNat_ofInt]; omega

theorem hv_bit (x : BitVec 128) (i : Nat) : (hv x).getLsbD i = (decide (i < 64) && x.getLsbD (64 + i)) := by
  unfold hv; simp
theorem lv_bit (x : BitVec 128) (i : Nat) : (lv x).getLsbD i = (decide (i < 64) && x.getLsbD i) := by
  unfold lv; simp

theorem eq_halves {x y : BitVec 128} (h : hv x = hv y) (l : lv x = lv y) : x = y := by
  apply BitVec.eq_of_getLsbD_eq
  intro i hi
  by_cases c : i < 64
  · have := congrArg (fun z => z.getLsbD i) l
    simpa only [lv_bit, c, decide_true, Bool.true_and] using this
  · have := congrArg (fun z => z.getLsbD (i - 64)) h
    have e : 64 + (i - 64) = i := by omega
    have d : i - 64 < 64 := by omega
    simpa only [hv_bit, e, d, decide_true, Bool.true_and] using this
theorem eq_ints {x y : BitVec 128} (h : hI x = hI y) (l : lI x = lI y) : x = y := by
  apply eq_halves
  · apply BitVec.eq_of_toNat_eq; unfold hI at h; omega
  · apply BitVec.eq_of_toNat_eq; unfold lI at l; omega
theorem beq_ints (x y : BitVec 128) : (hI x == hI y && lI x == lI y) = (x == y) := by
  rw [Bool.eq_iff_iff]; simp only [Bool.and_eq_true, beq_iff_eq]
  exact ⟨fun h => eq_ints h.1 h.2, fun h => by rw [h]; exact ⟨rfl, rfl⟩⟩
theorem mk_ints (x : BitVec 128) : mkW (hI x) (lI x) = x := by
  apply eq_halves
  · rw [hv_mk, ofInt_hI]
  · rw [lv_mk, ofInt_lI]

theorem wrap_nat (n : Nat) (h : n < 18446744073709551616) : IntKind.u64.wrap (n : Int) = (n : Int) := by
  simp [IntKind.wrap, IntKind.bits, IntKind.signed]; omega
theorem bits64and (a b c : BitVec 64) (h : c = a &&& b) : bits .and .u64 (a.toNat : Int) (b.toNat : Int) = (c.toNat : Int) := by
  subst h; unfold bits
  simp only [IntKind.bits, BitVec.ofInt_natCast, BitVec.ofNat_toNat, BitVec.setWidth_eq]
  rw [wrap_nat _ (BitVec.isLt _)]; rfl
theorem bits64or (a b c : BitVec 64) (h : c = a ||| b) : bits .or .u64 (a.toNat : Int) (b.toNat : Int) = (c.toNat : Int) := by
  subst h; unfold bits
  simp only [IntKind.bits, BitVec.ofInt_natCast, BitVec.ofNat_toNat, BitVec.setWidth_eq]
  rw [wrap_nat _ (BitVec.isLt _)]; rfl
theorem bits64xor (a b c : BitVec 64) (h : c = a ^^^ b) : bits .xor .u64 (a.toNat : Int) (b.toNat : Int) = (c.toNat : Int) := by
  subst h; unfold bits
  simp only [IntKind.bits, BitVec.ofInt_natCast, BitVec.ofNat_toNat, BitVec.setWidth_eq]
  rw [wrap_nat _ (BitVec.isLt _)]; rfl
theorem bits64andNot (a b c : BitVec 64) (h : c = a &&& ~~~b) : bits .andNot .u64 (a.toNat : Int) (b.toNat : Int) = (c.toNat : Int) := by
  subst h; unfold bits
  simp only [IntKind.bits, BitVec.ofInt_natCast, BitVec.ofNat_toNat, BitVec.setWidth_eq]
  rw [wrap_nat _ (BitVec.isLt _)]; rfl
theorem shl64 (a : BitVec 64) (n : Nat) : IntKind.u64.wrap ((a.toNat : Int) * 2 ^ n) = ((a <<< n).toNat : Int) := by
  simp [IntKind.wrap, IntKind.bits, IntKind.signed, BitVec.toNat_shiftLeft, Nat.shiftLeft_eq]
theorem shr64 (a : BitVec 64) (n : Nat) : (a.toNat : Int) / 2 ^ n = ((a >>> n).toNat : Int) := by
  simp [BitVec.toNat_ushiftRight, Nat.shiftRight_eq_div_pow]

theorem hv_and (x y : BitVec 128) : hv (x &&& y) = hv x &&& hv y := by apply BitVec.eq_of_getLsbD_eq; intro i hi; simp only [hv_bit, lv_bit, BitVec.getLsbD_and, BitVec.getLsbD_or, BitVec.getLsbD_xor, BitVec.getLsbD_not, BitVec.getLsbD_shiftLeft, BitVec.getLsbD_ushiftRight, BitVec.getLsbD_allOnes, BitVec.getLsbD_zero, hi, decide_true, Bool.true_and]
theorem lv_and (x y : BitVec 128) : lv (x &&& y) = lv x &&& lv y := by apply BitVec.eq_of_getLsbD_eq; intro i hi; simp only [hv_bit, lv_bit, BitVec.getLsbD_and, BitVec.getLsbD_or, BitVec.getLsbD_xor, BitVec.getLsbD_not, BitVec.getLsbD_shiftLeft, BitVec.getLsbD_ushiftRight, BitVec.getLsbD_allOnes, BitVec.getLsbD_zero, hi, decide_true, Bool.true_and]
theorem hv_or (x y : BitVec 128) : hv (x ||| y) = hv x ||| hv y := by apply BitVec.eq_of_getLsbD_eq; intro i hi; simp only [hv_bit, lv_bit, BitVec.getLsbD_and, BitVec.getLsbD_or, BitVec.getLsbD_xor, BitVec.getLsbD_not, BitVec.getLsbD_shiftLeft, BitVec.getLsbD_ushiftRight, BitVec.getLsbD_allOnes, BitVec.getLsbD_zero, hi, decide_true, Bool.true_and]
theorem lv_or (x y : BitVec 128) : lv (x ||| y) = lv x ||| lv y := by apply BitVec.eq_of_getLsbD_eq; intro i hi; simp only [hv_bit, lv_bit, BitVec.getLsbD_and, BitVec.getLsbD_or, BitVec.getLsbD_xor, BitVec.getLsbD_not, BitVec.getLsbD_shiftLeft, BitVec.getLsbD_ushiftRight, BitVec.getLsbD_allOnes, BitVec.getLsbD_zero, hi, decide_true, Bool.true_and]
theorem hv_xor (x y : BitVec 128) : hv (x ^^^ y) = hv x ^^^ hv y := by apply BitVec.eq_of_getLsbD_eq; intro i hi; simp only [hv_bit, lv_bit, BitVec.getLsbD_and, BitVec.getLsbD_or, BitVec.getLsbD_xor, BitVec.getLsbD_not, BitVec.getLsbD_shiftLeft, BitVec.getLsbD_ushiftRight, BitVec.getLsbD_allOnes, BitVec.getLsbD_zero, hi, decide_true, Bool.true_and]
theorem lv_xor (x y : BitVec 128) : lv (x ^^^ y) = lv x ^^^ lv y := by apply BitVec.eq_of_getLsbD_eq; intro i hi; simp only [hv_bit, lv_bit, BitVec.getLsbD_and, BitVec.getLsbD_or, BitVec.getLsbD_xor, BitVec.getLsbD_not, BitVec.getLsbD_shiftLeft, BitVec.getLsbD_ushiftRight, BitVec.getLsbD_allOnes, BitVec.getLsbD_zero, hi, decide_true, Bool.true_and]
theorem hv_not (x : BitVec 128) : hv (~~~x) = BitVec.allOnes 64 ^^^ hv x := by
  apply BitVec.eq_of_getLsbD_eq; intro i hi
  have : 64 + i < 128 := by omega
  simp only [hv_bit, lv_bit, BitVec.getLsbD_and, BitVec.getLsbD_or, BitVec.getLsbD_xor, BitVec.getLsbD_not, BitVec.getLsbD_shiftLeft, BitVec.getLsbD_ushiftRight, BitVec.getLsbD_allOnes, BitVec.getLsbD_zero, hi, this, decide_true, Bool.true_and, Bool.true_xor]
theorem lv_not (x : BitVec 128) : lv (~~~x) = BitVec.allOnes 64 ^^^ lv x := by
  apply BitVec.eq_of_getLsbD_eq; intro i hi
  have : i < 128 := by omega
  simp only [hv_bit, lv_bit, BitVec.getLsbD_and, BitVec.getLsbD_or, BitVec.getLsbD_xor, BitVec.getLsbD_not, BitVec.getLsbD_shiftLeft, BitVec.getLsbD_ushiftRight, BitVec.getLsbD_allOnes, BitVec.getLsbD_zero, hi, this, decide_true, Bool.true_and, Bool.true_xor]

theorem and_h (x y : BitVec 128) : bits .and .u64 (hI x) (hI y) = hI (x &&& y) := bits64and _ _ _ (hv_and x y)
theorem and_l (x y : BitVec 128) : bits .and .u64 (lI x) (lI y) = lI (x &&& y) := bits64and _ _ _ (lv_and x y)
theorem or_h (x y : BitVec 128) : bits .or .u64 (hI x) (hI y) = hI (x ||| y) := bits64or _ _ _ (hv_or x y)
theorem or_l (x y : BitVec 128) : bits .or .u64 (lI x) (lI y) = lI (x ||| y) := bits64or _ _ _ (lv_or x y)
theorem xor_h (x y : BitVec 128) : bits .xor .u64 (hI x) (hI y) = hI (x ^^^ y) := bits64xor _ _ _ (hv_xor x y)
theorem xor_l (x y : BitVec 128) : bits .xor .u64 (lI x) (lI y) = lI (x ^^^ y) := bits64xor _ _ _ (lv_xor x y)
theorem max64 : IntKind.u64.max = ((BitVec.allOnes 64).toNat : Int) := by decide
theorem not_h (x : BitVec 128) : bits .xor .u64 IntKind.u64.max (hI x) = hI (~~~x) := by
  rw [max64]; exact bits64xor _ _ _ (hv_not x)
theorem not_l (x : BitVec 128) : bits .xor .u64 IntKind.u64.max (lI x) = lI (~~~x) := by
  rw [max64]; exact bits64xor _ _ _ (lv_not x)

theorem shl_h (x : BitVec 128) (n : Nat) (h : n < 64) : bits .or .u64 (IntKind.u64.wrap (hI x * 2 ^ n)) (lI x / 2 ^ (64 - n)) = hI (x <<< n) := by
  unfold hI lI
  rw [shl64, shr64]
  refine bits64or _ _ _ ?_
  apply BitVec.eq_of_getLsbD_eq; intro i hi
  have h1 : 64 + i < 128 := by omega
  have h2 : ¬ 64 + i < n := by omega
  by_cases c : i < n
  · have e : 64 + i - n = 64 - n + i := by omega
    have h3 : 64 - n + i < 64 := by omega
    simp only [hv_bit, lv_bit, BitVec.getLsbD_and, BitVec.getLsbD_or, BitVec.getLsbD_xor, BitVec.getLsbD_not, BitVec.getLsbD_shiftLeft, BitVec.getLsbD_ushiftRight, BitVec.getLsbD_allOnes, BitVec.getLsbD_zero, hi, h1, h2, h3, e, c, decide_true, decide_false, Bool.true_and, Bool.not_true, Bool.not_false, Bool.false_and, Bool.false_or]
  · have e : 64 + i - n = 64 + (i - n) := by omega
    have h3 : ¬ 64 - n + i < 64 := by omega
    have h4 : i - n < 64 := by omega
    simp only [hv_bit, lv_bit, BitVec.getLsbD_and, BitVec.getLsbD_or, BitVec.getLsbD_xor, BitVec.getLsbD_not, BitVec.getLsbD_shiftLeft, BitVec.getLsbD_ushiftRight, BitVec.getLsbD_allOnes, BitVec.getLsbD_zero, hi, h1, h2, h3, h4, e, c, decide_true, decide_false, Bool.true_and, Bool.not_true, Bool.not_false, Bool.false_and, Bool.or_false]
theorem shl_l (x : BitVec 128) (n : Nat) : IntKind.u64.wrap (lI x * 2 ^ n) = lI (x <<< n) := by
  unfold lI
  rw [shl64]
  congr 2
  apply BitVec.eq_of_getLsbD_eq; intro i hi
  have h1 : i < 128 := by omega
  have h2 : i - n < 64 := by omega
  simp only [hv_bit, lv_bit, BitVec.getLsbD_and, BitVec.getLsbD_or, BitVec.getLsbD_xor, BitVec.getLsbD_not, BitVec.getLsbD_shiftLeft, BitVec.getLsbD_ushiftRight, BitVec.getLsbD_allOnes, BitVec.getLsbD_zero, hi, h1, h2, decide_true, decide_false, Bool.true_and]
theorem shl_h2 (x : BitVec 128) (n : Nat) (h : 64 ≤ n) (h' : n < 128) : IntKind.u64.wrap (lI x * 2 ^ (n - 64)) = hI (x <<< n) := by
  unfold lI hI
  rw [shl64]
  congr 2
  apply BitVec.eq_of_getLsbD_eq; intro i hi
  have h1 : 64 + i < 128 := by omega
  have e : 64 + i - n = i - (n - 64) := by omega
  have h2 : i - (n - 64) < 64 := by omega
  have h3 : decide (64 + i < n) = decide (i < n - 64) := by apply decide_eq_decide.mpr; omega
  simp only [hv_bit, lv_bit, BitVec.getLsbD_and, BitVec.getLsbD_or, BitVec.getLsbD_xor, BitVec.getLsbD_not, BitVec.getLsbD_shiftLeft, BitVec.getLsbD_ushiftRight, BitVec.getLsbD_allOnes, BitVec.getLsbD_zero, hi, h1, h2, h3, e, decide_true, Bool.true_and]
theorem shl_l2 (x : BitVec 128) (n : Nat) (h : 64 ≤ n) : lI (x <<< n) = 0 := by
  have : lv (x <<< n) = 0#64 := by
    apply BitVec.eq_of_getLsbD_eq; intro i hi
    have h1 : i < n := by omega
    simp only [hv_bit, lv_bit, BitVec.getLsbD_and, BitVec.getLsbD_or, BitVec.getLsbD_xor, BitVec.getLsbD_not, BitVec.getLsbD_shiftLeft, BitVec.getLsbD_ushiftRight, BitVec.getLsbD_allOnes, BitVec.getLsbD_zero, hi, h1, decide_true, Bool.true_and, Bool.not_true, Bool.and_false, Bool.false_and]
  unfold lI; rw [this]; rfl
theorem shl_0 (x : BitVec 128) (n : Nat) (h : 128 ≤ n) : x <<< n = 0#128 := by
  apply BitVec.eq_of_getLsbD_eq; intro i hi
  have h1 : i < n := by omega
  simp only [hv_bit, lv_bit, BitVec.getLsbD_and, BitVec.getLsbD_or, BitVec.getLsbD_xor, BitVec.getLsbD_not, BitVec.getLsbD_shiftLeft, BitVec.getLsbD_ushiftRight, BitVec.getLsbD_allOnes, BitVec.getLsbD_zero, hi, h1, decide_true, Bool.true_and, Bool.not_true, Bool.and_false, Bool.false_and]
theorem shr_l (x : BitVec 128) (n : Nat) (h : n < 64) : bits .or .u64 (lI x / 2 ^ n) (IntKind.u64.wrap (hI x * 2 ^ (64 - n))) = lI (x >>> n) := by
  unfold hI lI
  rw [shl64, shr64]
  refine bits64or _ _ _ ?_
  apply BitVec.eq_of_getLsbD_eq; intro i hi
  by_cases c : i < 64 - n
  · have h3 : n + i < 64 := by omega
    simp only [hv_bit, lv_bit, BitVec.getLsbD_and, BitVec.getLsbD_or, BitVec.getLsbD_xor, BitVec.getLsbD_not, BitVec.getLsbD_shiftLeft, BitVec.getLsbD_ushiftRight, BitVec.getLsbD_allOnes, BitVec.getLsbD_zero, hi, h3, c, decide_true, decide_false, Bool.true_and, Bool.not_true, Bool.not_false, Bool.false_and, Bool.or_false]
  · have e : 64 + (i - (64 - n)) = n + i := by omega
    have h3 : ¬ n + i < 64 := by omega
    have h4 : i - (64 - n) < 64 := by omega
    simp only [hv_bit, lv_bit, BitVec.getLsbD_and, BitVec.getLsbD_or, BitVec.getLsbD_xor, BitVec.getLsbD_not, BitVec.getLsbD_shiftLeft, BitVec.getLsbD_ushiftRight, BitVec.getLsbD_allOnes, BitVec.getLsbD_zero, hi, h3, h4, e, c, decide_true, decide_false, Bool.true_and, Bool.not_true, Bool.not_false, Bool.false_and, Bool.false_or]
theorem shr_h (x : BitVec 128) (n : Nat) : hI x / 2 ^ n = hI (x >>> n) := by
  unfold hI
  rw [shr64]
  congr 2
  apply BitVec.eq_of_getLsbD_eq; intro i hi
  have e : n + (64 + i) = 64 + (n + i) := by omega
  by_cases c : n + i < 64
  · simp only [hv_bit, lv_bit, BitVec.getLsbD_and, BitVec.getLsbD_or, BitVec.getLsbD_xor, BitVec.getLsbD_not, BitVec.getLsbD_shiftLeft, BitVec.getLsbD_ushiftRight, BitVec.getLsbD_allOnes, BitVec.getLsbD_zero, hi, c, e, decide_true, Bool.true_and]
  · simp only [hv_bit, lv_bit, BitVec.getLsbD_and, BitVec.getLsbD_or, BitVec.getLsbD_xor, BitVec.getLsbD_not, BitVec.getLsbD_shiftLeft, BitVec.getLsbD_ushiftRight, BitVec.getLsbD_allOnes, BitVec.getLsbD_zero, hi, c, e, decide_true, decide_false, Bool.true_and, Bool.false_and]
    symm; apply BitVec.getLsbD_of_ge; omega
theorem shr_l2 (x : BitVec 128) (n : Nat) (h : 64 ≤ n) : hI x / 2 ^ (n - 64) = lI (x >>> n) := by
  unfold lI hI
  rw [shr64]
  congr 2
  apply BitVec.eq_of_getLsbD_eq; intro i hi
  have e : n + i = 64 + (n - 64 + i) := by omega
  by_cases c : n - 64 + i < 64
  · simp only [hv_bit, lv_bit, BitVec.getLsbD_and, BitVec.getLsbD_or, BitVec.getLsbD_xor, BitVec.getLsbD_not, BitVec.getLsbD_shiftLeft, BitVec.getLsbD_ushiftRight, BitVec.getLsbD_allOnes, BitVec.getLsbD_zero, hi, c, e, decide_true, Bool.true_and]
  · simp only [hv_bit, lv_bit, BitVec.getLsbD_and, BitVec.getLsbD_or, BitVec.getLsbD_xor, BitVec.getLsbD_not, BitVec.getLsbD_shiftLeft, BitVec.getLsbD_ushiftRight, BitVec.getLsbD_allOnes, BitVec.getLsbD_zero, hi, c, e, decide_true, decide_false, Bool.true_and, Bool.false_and]
    symm; apply BitVec.getLsbD_of_ge; omega
theorem shr_h2 (x : BitVec 128) (n : Nat) (h : 64 ≤ n) : hI (x >>> n) = 0 := by
  have : hv (x >>> n) = 0#64 := by
    apply BitVec.eq_of_getLsbD_eq; intro i hi
    simp only [hv_bit, lv_bit, BitVec.getLsbD_and, BitVec.getLsbD_or, BitVec.getLsbD_xor, BitVec.getLsbD_not, BitVec.getLsbD_shiftLeft, BitVec.getLsbD_ushiftRight, BitVec.getLsbD_allOnes, BitVec.getLsbD_zero, hi, decide_true, Bool.true_and]; apply BitVec.getLsbD_of_ge; omega
  unfold hI; rw [this]; rfl
theorem shr_0 (x : BitVec 128) (n : Nat) (h : 128 ≤ n) : x >>> n = 0#128 := by
  apply BitVec.eq_of_getLsbD_eq; intro i hi
  simp only [hv_bit, lv_bit, BitVec.getLsbD_and, BitVec.getLsbD_or, BitVec.getLsbD_xor, BitVec.getLsbD_not, BitVec.getLsbD_shiftLeft, BitVec.getLsbD_ushiftRight, BitVec.getLsbD_allOnes, BitVec.getLsbD_zero]; apply BitVec.getLsbD_of_ge; omega
theorem hI_zero : hI 0#128 = 0 := by decide
theorem lI_zero : lI 0#128 = 0 := by decide
end Go.Proofs.YthhdaadbcogfnaaDoor
/-
  What each call of package word's small functions does: the word that it tells, and that nothing that was there before has turned.
-/
namespace Go.Proofs.YthhdaadbcogfnaaDoor
open Go.RowKit
set_option linter.unusedSimpArgs false
set_option linter.unusedVariables false

theorem bl1 (w : World) (o : Obj) : Below w.heap.size w (w.alloc o) := (Below.refl _ _).alloc (Nat.le_refl _) _
theorem bl2 (w : World) (o p : Obj) : Below w.heap.size w ((w.alloc o).alloc p) := (bl1 w o).alloc (by simp) _
theorem bl3 (w : World) (o p q : Obj) : Below w.heap.size w (((w.alloc o).alloc p).alloc q) := (bl2 w o p).alloc (by simp; omega) _

end Go.Proofs.YthhdaadbcogfnaaDoor
/-
  Plain numbers, more: sums, differences, order, single bits, masks.
-/
namespace Go.Proofs.YthhdaadbcogfnaaDoor
open Go.RowKit
set_option linter.unusedSimpArgs false
set_option linter.unusedVariables false

theorem hvN (x : BitVec 128) : (hv x).toNat = x.toNat / 18446744073709551616 := by
  unfold hv; rw [BitVec.extractLsb'_toNat, Nat.shiftRight_eq_div_pow]
  have := x.isLt; omega
theorem lvN (x : BitVec 128) : (lv x).toNat = x.toNat % 18446744073709551616 := by
  unfold lv; rw [BitVec.extractLsb'_toNat, Nat.shiftRight_eq_div_pow]
  simp
theorem hIN (x : BitVec 128) : hI x = ((x.toNat / 18446744073709551616 : Nat) : Int) := by unfold hI; rw [hvN]
theorem lIN (x : BitVec 128) : lI x = ((x.toNat % 18446744073709551616 : Nat) : Int) := by unfold lI; rw [lvN]

def addS (x y c : Int) : Int := (x + y + c) % 18446744073709551616
def addC (x y c : Int) : Int := (x + y + c) / 18446744073709551616
def overB (x y : BitVec 128) : Bool := decide (340282366920938463463374607431768211456 ≤ x.toNat + y.toNat)
def subS (x y c : Int) : Int := (x + 18446744073709551616 - y - c) % 18446744073709551616
def subC (x y c : Int) : Int := if x < y + c then 1 else 0
def underB (x y : BitVec 128) : Bool := decide (x.toNat < y.toNat)
def cmpZ (x y : BitVec 128) : Int := if x.toNat < y.toNat then -1 else if x = y then 0 else 1

theorem add_l (x y : BitVec 128) : addS (lI x) (lI y) 0 = lI (x + y) := by
  unfold addS; rw [lIN, lIN, lIN, BitVec.toNat_add]; omega
theorem add_h (x y : BitVec 128) : addS (hI x) (hI y) (addC (lI x) (lI y) 0) = hI (x + y) := by
  unfold addS addC; rw [hIN, hIN, hIN, lIN, lIN, BitVec.toNat_add]
  have := x.isLt; have := y.isLt; omega
theorem add_c (x y : BitVec 128) : addC (hI x) (hI y) (addC (lI x) (lI y) 0) = if overB x y then 1 else 0 := by
  unfold addC overB; rw [hIN, hIN, lIN, lIN]
  have := x.isLt; have := y.isLt
  split <;> rename_i h <;> simp at h <;> omega
theorem addC_bd (x y c : Int) (a : 0 ≤ x) (b : x < 18446744073709551616) (d : 0 ≤ y) (e : y < 18446744073709551616) (f : 0 ≤ c) (g : c ≤ 1) : 0 ≤ addC x y c ∧ addC x y c ≤ 1 := by
  unfold addC; omega
theorem sub_l (x y : BitVec 128) : subS (lI x) (lI y) 0 = lI (x - y) := by
  unfold subS; rw [lIN, lIN, lIN, BitVec.toNat_sub]
  have := x.isLt; have := y.isLt; omega
theorem sub_h (x y : BitVec 128) : subS (hI x) (hI y) (subC (lI x) (lI y) 0) = hI (x - y) := by
  unfold subS subC; rw [hIN, hIN, hIN, lIN, lIN, BitVec.toNat_sub]
  have := x.isLt; have := y.isLt; split <;> omega
theorem sub_c (x y : BitVec 128) : subC (hI x) (hI y) (subC (lI x) (lI y) 0) = if underB x y then 1 else 0 := by
  unfold subC underB; rw [hIN, hIN, lIN, lIN]
  have := x.isLt; have := y.isLt
  simp only [decide_eq_true_eq]
  split <;> split <;> split <;> omega
theorem subC_bd (x y c : Int) : 0 ≤ subC x y c ∧ subC x y c ≤ 1 := by
  unfold subC; split <;> omega

theorem ltN (x y : BitVec 128) : x.toNat < y.toNat ↔ hI x < hI y ∨ hI x = hI y ∧ lI x < lI y := by
  rw [hIN, hIN, lIN, lIN]
  have := x.isLt; have := y.isLt; omega
theorem cmp_ways (x y : BitVec 128) : (hI x < hI y ∧ cmpZ x y = -1) ∨ (hI x = hI y ∧ lI x < lI y ∧ cmpZ x y = -1) ∨ (x = y ∧ cmpZ x y = 0) ∨ (hI y < hI x ∧ cmpZ x y = 1) ∨ (hI x = hI y ∧ lI y < lI x ∧ cmpZ x y = 1) := by
  by_cases a : x.toNat < y.toNat
  · have c : cmpZ x y = -1 := by unfold cmpZ; rw [if_pos a]
    rcases (ltN x y).mp a with h | ⟨h, g⟩
    · exact Or.inl ⟨h, c⟩
    · exact Or.inr (Or.inl ⟨h, g, c⟩)
  · by_cases b : x = y
    · exact Or.inr (Or.inr (Or.inl ⟨b, by unfold cmpZ; rw [if_neg a, if_pos b]⟩))
    · have c : cmpZ x y = 1 := by unfold cmpZ; rw [if_neg a, if_neg b]
      have d : y.toNat < x.toNat := by
        have : x.toNat ≠ y.toNat := fun h => b (BitVec.eq_of_toNat_eq h)
        omega
      rcases (ltN y x).mp d with h | ⟨h, g⟩
      · exact Or.inr (Or.inr (Or.inr (Or.inl ⟨h, c⟩)))
      · exact Or.inr (Or.inr (Or.inr (Or.inr ⟨h.symm, g, c⟩)))
theorem cmp_lt (x y : BitVec 128) : (cmpZ x y < 0) ↔ underB x y = true := by
  unfold cmpZ underB; by_cases a : x.toNat < y.toNat
  · simp [a]
  · simp [a]; split <;> omega

/-- The bit at place i, the highest being at 0; 0 where there is none. -/
def bitB (x : BitVec 128) (i : Int) : Bool := decide (0 ≤ i) && x.getMsbD i.toNat
def bitZ (x : BitVec 128) (i : Int) : Int := if bitB x i then 1 else 0
/-- All bits set, under a name that no rule opens. -/
def allW : BitVec 128 := ~~~(0#128)
def maskW (n : Int) : BitVec 128 := ~~~(allW >>> n.toNat)

theorem bitZ_01 (x : BitVec 128) (i : Int) : bitZ x i = 0 ∨ bitZ x i = 1 := by unfold bitZ; split <;> simp
theorem bitZ_out (x : BitVec 128) (i : Int) (h : i < 0 ∨ 127 < i) : bitZ x i = 0 := by
  unfold bitZ bitB
  rcases h with h | h
  · have : ¬ 0 ≤ i := by omega
    simp [this]
  · have : x.getMsbD i.toNat = false := by unfold BitVec.getMsbD; simp; omega
    simp [this]
theorem one64 : (1 : Int) = ((1#64).toNat : Int) := by decide
theorem and1 (a : BitVec 64) : bits .and .u64 (a.toNat : Int) 1 = if a.getLsbD 0 then 1 else 0 := by
  rw [one64, bits64and _ _ _ rfl]
  have : (a &&& 1#64) = if a.getLsbD 0 then 1#64 else 0#64 := by
    apply BitVec.eq_of_getLsbD_eq; intro i hi
    by_cases c : i = 0
    · subst c; cases h : a.getLsbD 0 <;> simp [← BitVec.getLsbD_eq_getElem, h]
    · cases h : a.getLsbD 0 <;> simp [h, c]
  rw [this]; split <;> rfl
theorem wrap64_ite (b : Bool) : wrap64 (if b then 1 else 0) = if b then 1 else 0 := by cases b <;> simp [wrap64]
theorem bitB_in (x : BitVec 128) (i : Int) (h : 0 ≤ i) (g : i ≤ 127) : bitB x i = x.getLsbD (127 - i).toNat := by
  unfold bitB BitVec.getMsbD
  have e : 128 - 1 - i.toNat = (127 - i).toNat := by omega
  have c : i.toNat < 128 := by omega
  simp only [h, c, e, decide_true, Bool.true_and]
theorem bit_shr (x : BitVec 128) (i : Int) (h : 0 ≤ i) (g : i ≤ 127) : wrap64 (bits .and .u64 (lI (x >>> (127 - i).toNat)) 1) = bitZ x i := by
  unfold lI bitZ
  rw [and1, wrap64_ite, bitB_in x i h g]
  simp only [lv_bit, BitVec.getLsbD_ushiftRight, Nat.add_zero]
  simp
theorem bit_hi (x : BitVec 128) (i : Int) (h : 0 ≤ i) (g : i < 64) : wrap64 (bits .and .u64 (hI x / 2 ^ (63 - i).toNat) 1) = bitZ x i := by
  unfold hI bitZ
  rw [shr64, and1, wrap64_ite, bitB_in x i h (by omega)]
  have e : 64 + (63 - i).toNat = (127 - i).toNat := by omega
  have c : (63 - i).toNat < 64 := by omega
  simp only [hv_bit, BitVec.getLsbD_ushiftRight, Nat.add_zero, e, c, decide_true, Bool.true_and]
theorem bit_lo (x : BitVec 128) (i : Int) (h : 64 ≤ i) (g : i ≤ 127) : wrap64 (bits .and .u64 (lI x / 2 ^ (127 - i).toNat) 1) = bitZ x i := by
  unfold lI bitZ
  rw [shr64, and1, wrap64_ite, bitB_in x i (by omega) g]
  have c : (127 - i).toNat < 64 := by omega
  simp only [lv_bit, BitVec.getLsbD_ushiftRight, Nat.add_zero, c, decide_true, Bool.true_and]

/-- A word with the bit at place i set so. -/
def putW (x : BitVec 128) (i : Int) (b : Int) : BitVec 128 := (x &&& ~~~(1#128 <<< (127 - i).toNat)) ||| (BitVec.ofInt 128 b <<< (127 - i).toNat)
theorem putW_bit (x : BitVec 128) (i : Int) (b : Int) (hb : b = 0 ∨ b = 1) (h : 0 ≤ i) (g : i ≤ 127) (j : Nat) (hj : j < 128) : (putW x i b).getLsbD j = if j = (127 - i).toNat then decide (b = 1) else x.getLsbD j := by
  unfold putW
  simp only [BitVec.getLsbD_and, BitVec.getLsbD_or, BitVec.getLsbD_not, BitVec.getLsbD_shiftLeft, hj, decide_true, Bool.true_and]
  by_cases c : j = (127 - i).toNat
  · subst c
    rcases hb with rfl | rfl <;> simp
  · by_cases d : j < (127 - i).toNat
    · simp [c, d]
    · have e : ¬ j - (127 - i).toNat = 0 := by omega
      rcases hb with rfl | rfl <;> simp [c, d, e]
theorem two64 (n : Nat) : IntKind.u64.wrap (2 ^ n) = ((1#64 <<< n).toNat : Int) := by
  have := shl64 1#64 n
  simpa using this
theorem put_h1 (x : BitVec 128) (i : Int) (h : 0 ≤ i) (g : i < 64) : bits .or .u64 (bits .andNot .u64 (hI x) (IntKind.u64.wrap (2 ^ (63 - i).toNat))) (IntKind.u64.wrap (2 ^ (63 - i).toNat)) = hI (putW x i 1) := by
  unfold hI
  rw [two64, bits64andNot _ _ _ rfl]
  refine bits64or _ _ _ ?_
  apply BitVec.eq_of_getLsbD_eq; intro j hj
  have e : decide (64 + j = (127 - i).toNat) = decide (j = (63 - i).toNat) := by apply decide_eq_decide.mpr; omega
  rw [hv_bit, putW_bit x i 1 (Or.inr rfl) h (by omega) _ (by omega)]
  simp only [hv_bit, BitVec.getLsbD_and, BitVec.getLsbD_or, BitVec.getLsbD_not, BitVec.getLsbD_shiftLeft, hj, decide_true, Bool.true_and]
  by_cases c : j = (63 - i).toNat
  · have : 64 + j = (127 - i).toNat := by omega
    subst c; simp [this]
  · have : ¬ 64 + j = (127 - i).toNat := by omega
    by_cases d : j < (63 - i).toNat
    · simp [this, c, d]
    · have : ¬ j - (63 - i).toNat = 0 := by omega
      simp [*]
theorem put_l0 (x : BitVec 128) (i : Int) (b : Int) (hb : b = 0 ∨ b = 1) (h : 0 ≤ i) (g : i < 64) : lI (putW x i b) = lI x := by
  unfold lI; congr 2
  apply BitVec.eq_of_getLsbD_eq; intro j hj
  rw [lv_bit, lv_bit, putW_bit x i b hb h (by omega) _ (by omega), if_neg (by omega)]
theorem put_h0 (x : BitVec 128) (i : Int) (h : 0 ≤ i) (g : i < 64) : bits .or .u64 (bits .andNot .u64 (hI x) (IntKind.u64.wrap (2 ^ (63 - i).toNat))) 0 = hI (putW x i 0) := by
  unfold hI
  rw [two64, bits64andNot _ _ _ rfl]
  refine bits64or _ 0#64 _ ?_
  apply BitVec.eq_of_getLsbD_eq; intro j hj
  rw [hv_bit, putW_bit x i 0 (Or.inl rfl) h (by omega) _ (by omega)]
  simp only [hv_bit, BitVec.getLsbD_and, BitVec.getLsbD_or, BitVec.getLsbD_not, BitVec.getLsbD_shiftLeft, hj, decide_true, Bool.true_and]
  by_cases c : j = (63 - i).toNat
  · have : 64 + j = (127 - i).toNat := by omega
    subst c; simp [this]
  · have : ¬ 64 + j = (127 - i).toNat := by omega
    by_cases d : j < (63 - i).toNat
    · simp [this, c, d]
    · have : ¬ j - (63 - i).toNat = 0 := by omega
      simp [*]
theorem put_l1 (x : BitVec 128) (i : Int) (h : 64 ≤ i) (g : i ≤ 127) : bits .or .u64 (bits .andNot .u64 (lI x) (IntKind.u64.wrap (2 ^ (127 - i).toNat))) (IntKind.u64.wrap (2 ^ (127 - i).toNat)) = lI (putW x i 1) := by
  unfold lI
  rw [two64, bits64andNot _ _ _ rfl]
  refine bits64or _ _ _ ?_
  apply BitVec.eq_of_getLsbD_eq; intro j hj
  rw [lv_bit, putW_bit x i 1 (Or.inr rfl) (by omega) (by omega) _ (by omega)]
  simp only [lv_bit, BitVec.getLsbD_and, BitVec.getLsbD_or, BitVec.getLsbD_not, BitVec.getLsbD_shiftLeft, hj, decide_true, Bool.true_and]
  by_cases c : j = (127 - i).toNat
  · subst c; simp
  · by_cases d : j < (127 - i).toNat
    · simp [c, d]
    · have : ¬ j - (127 - i).toNat = 0 := by omega
      simp [*]
theorem put_l00 (x : BitVec 128) (i : Int) (h : 64 ≤ i) (g : i ≤ 127) : bits .or .u64 (bits .andNot .u64 (lI x) (IntKind.u64.wrap (2 ^ (127 - i).toNat))) 0 = lI (putW x i 0) := by
  unfold lI
  rw [two64, bits64andNot _ _ _ rfl]
  refine bits64or _ 0#64 _ ?_
  apply BitVec.eq_of_getLsbD_eq; intro j hj
  rw [lv_bit, putW_bit x i 0 (Or.inl rfl) (by omega) (by omega) _ (by omega)]
  simp only [lv_bit, BitVec.getLsbD_and, BitVec.getLsbD_or, BitVec.getLsbD_not, BitVec.getLsbD_shiftLeft, hj, decide_true, Bool.true_and]
  by_cases c : j = (127 - i).toNat
  · subst c; simp
  · by_cases d : j < (127 - i).toNat
    · simp [c, d]
    · have : ¬ j - (127 - i).toNat = 0 := by omega
      simp [*]
theorem put_hh (x : BitVec 128) (i : Int) (b : Int) (hb : b = 0 ∨ b = 1) (h : 64 ≤ i) (g : i ≤ 127) : hI (putW x i b) = hI x := by
  unfold hI; congr 2
  apply BitVec.eq_of_getLsbD_eq; intro j hj
  rw [hv_bit, hv_bit, putW_bit x i b hb (by omega) (by omega) _ (by omega), if_neg (by omega)]
theorem maskW_0 : maskW 0 = 0#128 := by decide
theorem maskW_bit (n : Int) (j : Nat) (hj : j < 128) : (maskW n).getLsbD j = decide (128 - n.toNat ≤ j) := by
  unfold maskW allW
  simp only [BitVec.getLsbD_not, BitVec.getLsbD_ushiftRight, BitVec.getLsbD_zero, hj, decide_true, Bool.true_and, Bool.not_false, Bool.and_true]
  rw [← decide_not]; apply decide_eq_decide.mpr; omega
theorem maskW_succ (k : Nat) (h : k < 128) : putW (maskW (k : Int)) (k : Int) 1 = maskW ((k + 1 : Nat) : Int) := by
  apply BitVec.eq_of_getLsbD_eq; intro j hj
  rw [putW_bit _ _ _ (Or.inr rfl) (by omega) (by omega) _ hj, maskW_bit _ _ hj, maskW_bit _ _ hj]
  split
  · simp; omega
  · apply decide_eq_decide.mpr; omega
theorem maskW_all (n : Int) (h : 128 ≤ n) : maskW n = maskW 128 := by
  apply BitVec.eq_of_getLsbD_eq; intro j hj
  rw [maskW_bit _ _ hj, maskW_bit _ _ hj]; apply decide_eq_decide.mpr; omega
theorem maskW_neg (n : Int) (h : n ≤ 0) : maskW n = 0#128 := by
  have : n.toNat = 0 := by omega
  unfold maskW; rw [this]; decide
end Go.Proofs.YthhdaadbcogfnaaDoor
/-
  What each call of package word's Bit, Mask, Add, Sub and Cmp does.
-/
namespace Go.Proofs.YthhdaadbcogfnaaDoor
open Go.RowKit
set_option linter.unusedSimpArgs false
set_option linter.unusedVariables false

theorem bcell {W w1 : World} (hb : Below W.heap.size W w1) : (∀ b o, b < W.heap.size → w1.cell? ⟨b, o, none⟩ = W.cell? ⟨b, o, none⟩) ∧ (∀ b o, b < W.heap.size → w1.frozen? ⟨b, o, none⟩ = W.frozen? ⟨b, o, none⟩) :=
  ⟨fun b o h => hb.cell (p := ⟨b, o, none⟩) h, fun b o h => hb.frozen (p := ⟨b, o, none⟩) h⟩

/-- The model's entry for math/bits.Sub64. -/
def sub64Entry : Array Value → Sem Value := fun args => do
  let (x, y, b) ← Extern.MathBitsCarry.three "Sub64" args
  pure (Extern.MathBitsCarry.pair ((x + Extern.MathBitsCarry.m64 - y - b) % Extern.MathBitsCarry.m64) (if x < y + b then 1 else 0))

end Go.Proofs.YthhdaadbcogfnaaDoor
/-
  What each call of Field, With and what they lean on does.
-/
namespace Go.Proofs.YthhdaadbcogfnaaDoor
open Go.RowKit
set_option linter.unusedSimpArgs false
set_option linter.unusedVariables false

theorem cell_in {W : World} {b o : Nat} {v : Value} (h : W.cell? ⟨b, o, none⟩ = some v) : b < W.heap.size := by
  apply Classical.byContradiction; intro hn
  have : W.heap[b]? = none := by simp; omega
  simp [World.cell?, this] at h
theorem keepc {W w' : World} (hb : Below W.heap.size W w') {b o : Nat} {v : Value} (h : W.cell? ⟨b, o, none⟩ = some v) : w'.cell? ⟨b, o, none⟩ = some v := by
  rw [(bcell hb).1 b o (cell_in h)]; exact h
theorem keepf {W w' : World} (hb : Below W.heap.size W w') {b o : Nat} {v : Value} (h : W.cell? ⟨b, o, none⟩ = some v) (hf : W.frozen? ⟨b, o, none⟩ = false) : w'.frozen? ⟨b, o, none⟩ = false := by
  rw [(bcell hb).2 b o (cell_in h)]; exact hf
theorem keepb {w W w' : World} (hb : Below W.heap.size W w') (h : Below w.heap.size w W) : Below w.heap.size w w' := h.trans (hb.mono h.size)

/-- Whatever the cell holds, under a name that no rule opens: for a cell that is only there to be written. -/
def cv (w : World) (b o : Nat) : Value := (w.cell? ⟨b, o, none⟩).getD (.bool false)
theorem cv_of {w : World} {b o : Nat} {v : Value} (h : w.cell? ⟨b, o, none⟩ = some v) : w.cell? ⟨b, o, none⟩ = some (cv w b o) := by unfold cv; rw [h]; rfl
theorem cv_new {w : World} {b o : Nat} (h : (w.cell? ⟨b, o, none⟩).isSome = true) : w.cell? ⟨b, o, none⟩ = some (cv w b o) := by
  obtain ⟨v, hv⟩ := Option.isSome_iff_exists.mp h
  exact cv_of hv

end Go.Proofs.YthhdaadbcogfnaaDoor
/-
  Rows in memory, whosever they are: cut, and laid behind a row of one's own.
-/
namespace Go.Proofs.YthhdaadbcogfnaaDoor
open Go.RowKit
set_option linter.unusedSimpArgs false
set_option linter.unusedVariables false

/-- A row in memory, whosever it is: n elements of so many cells. -/
def Row (w : World) (size : Nat) (v : Value) (n : Nat) (xs : List Value) : Prop :=
  xs.length = n * size ∧ ∃ ao c, v = .slice ao n c ∧ n ≤ c ∧ ((ao = none ∧ c = 0 ∧ n = 0) ∨ ∃ b off, ao = some ⟨b, off, none⟩ ∧ ∀ j u, xs[j]? = some u → w.cell? ⟨b, off + j, none⟩ = some u)
theorem addA (g o j : Nat) : (⟨g, o, none⟩ : Addr).add j = ⟨g, o + j, none⟩ := by unfold Addr.add; split <;> simp_all
theorem Row.form {w : World} {size n : Nat} {v : Value} {xs : List Value} (h : Row w size v n xs) : ∃ ao c, v = .slice ao n c ∧ n ≤ c := by
  obtain ⟨-, ao, c, e, hc, -⟩ := h
  exact ⟨ao, c, e, hc⟩
theorem own_row {w : World} {base e size n : Nat} {v : Value} {xs : List Value} (h : w.ownsRow base e size v n xs) : Row w size v n xs := by
  refine ⟨h.1, ?_⟩
  rcases h.2 with ⟨e0, e1⟩ | ⟨g, cap, cur, e0, hb, hg, hnc, hm, hs, ht⟩
  · subst e1
    exact ⟨none, 0, e0, Nat.le_refl _, .inl ⟨rfl, rfl, rfl⟩⟩
  · refine ⟨some ⟨g, 0, none⟩, cap, e0, hnc, .inr ⟨g, 0, rfl, ?_⟩⟩
    intro j u hj
    have f := h.cells (g := g) (by rw [e0]; rfl) j u hj
    rw [addA, Nat.zero_add] at f
    rw [Nat.zero_add]
    exact f
theorem run_slice_from {P : Program} {w : World} {t e : TypeId} {i : TypeInfo} {size : Nat} (ht : P.underlying t = some (.slice e)) (hi : P.info? e = some i) (hsize : i.size = size) (ao : Option Addr) (n c k : Nat) (hk : k ≤ n) :
    Sem.run P (Instr.sliceAt t (.slice ao n c) (some (.int .i64 k)) none none) w = .ok (.slice (if c = k then ao else ao.map (·.add (k * size))) (n - k) (c - k)) w := by
  subst hsize
  simp [Instr.sliceAt, Instr.slice, Instr.sliceBounds, Instr.sliceBound, run_underlying ht, sizeOf, typeInfo, hi, hk, go_sem]
theorem run_slice_to {P : Program} {w : World} {t e : TypeId} {i : TypeInfo} (ht : P.underlying t = some (.slice e)) (hi : P.info? e = some i) (ao : Option Addr) (n c k : Nat) (hk : k ≤ c) :
    Sem.run P (Instr.sliceAt t (.slice ao n c) none (some (.int .i64 k)) none) w = .ok (.slice ao k c) w := by
  simp [Instr.sliceAt, Instr.slice, Instr.sliceBounds, Instr.sliceBound, run_underlying ht, sizeOf, typeInfo, hi, hk, go_sem]
theorem wpList_slice_from {P : Program} {w : World} {ops : Array Oper} {rest : List Oper} {o : Oper} {a : Act} {Q : Exit → Act → World → Prop} (hgd : o.guard = none) (t : TypeId) (x lo : Operand)
    (ho : o.op = .slice t x (some lo) none none) (e : TypeId) (i : TypeInfo) (size : Nat) (ht : P.underlying t = some (.slice e)) (hi : P.info? e = some i) (hsize : i.size = size)
    (v : Value) (n : Nat) (xs : List Value) (hs : a.eval x = v) (hr : Row w size v n xs) (k : Nat) (hk : a.eval lo = .int .i64 k) (hkn : k ≤ n)
    (h : ∀ v', Row w size v' (n - k) (xs.drop (k * size)) → wpList P ops Q rest (a.put o.dst v') w) : wpList P ops Q (o :: rest) a w := by
  obtain ⟨hl, ao, c, rfl, hc, hr⟩ := hr
  have := h (.slice (if c = k then ao else ao.map (·.add (k * size))) (n - k) (c - k)) ⟨by rw [List.length_drop, hl, Nat.sub_mul], _, _, rfl, by omega, by
    rcases hr with ⟨rfl, rfl, rfl⟩ | ⟨b, off, rfl, hr⟩
    · refine .inl ⟨by split <;> rfl, by omega, by omega⟩
    · by_cases hck : c = k
      · rw [if_pos hck]
        refine .inr ⟨b, off, rfl, ?_⟩
        intro j u hj
        rw [List.drop_eq_nil_of_le (by rw [hl]; exact Nat.mul_le_mul_right _ (by omega))] at hj
        simp at hj
      · rw [if_neg hck]
        refine .inr ⟨b, off + k * size, by simp [addA], ?_⟩
        intro j u hj
        rw [List.getElem?_drop] at hj
        rw [Nat.add_assoc]
        exact hr _ _ hj⟩
  refine wpList_plain hgd fun K hK => ?_
  unfold Oper.wp
  have hrun := run_slice_from (P := P) (w := w) ht hi hsize ao n c k hkn
  simp [execOp, ho, hs, hk, hrun, Result.andThen]
  exact hK _ _ this
theorem wpList_slice_to {P : Program} {w : World} {ops : Array Oper} {rest : List Oper} {o : Oper} {a : Act} {Q : Exit → Act → World → Prop} (hgd : o.guard = none) (t : TypeId) (x hi' : Operand)
    (ho : o.op = .slice t x none (some hi') none) (e : TypeId) (i : TypeInfo) (size : Nat) (ht : P.underlying t = some (.slice e)) (hi : P.info? e = some i) (hsize : i.size = size)
    (v : Value) (n : Nat) (xs : List Value) (hs : a.eval x = v) (hr : Row w size v n xs) (k : Nat) (hk : a.eval hi' = .int .i64 k) (hkn : k ≤ n)
    (h : ∀ v', Row w size v' k (xs.take (k * size)) → wpList P ops Q rest (a.put o.dst v') w) : wpList P ops Q (o :: rest) a w := by
  obtain ⟨hl, ao, c, rfl, hc, hr⟩ := hr
  have := h (.slice ao k c) ⟨by rw [List.length_take, hl, Nat.min_eq_left (Nat.mul_le_mul_right _ hkn)], _, _, rfl, by omega, by
    rcases hr with ⟨rfl, rfl, rfl⟩ | ⟨b, off, rfl, hr⟩
    · exact .inl ⟨rfl, rfl, by omega⟩
    · refine .inr ⟨b, off, rfl, ?_⟩
      intro j u hj
      refine hr _ _ ?_
      rw [List.getElem?_take] at hj
      split at hj
      · exact hj
      · cases hj⟩
  refine wpList_plain hgd fun K hK => ?_
  unfold Oper.wp
  have hrun := run_slice_to (P := P) (w := w) ht hi ao n c k (by omega)
  simp [execOp, ho, hs, hk, hrun, Result.andThen]
  exact hK _ _ this
theorem own_form {w : World} {base e size n : Nat} {v : Value} {xs : List Value} (h : w.ownsRow base e size v n xs) : ∃ ao c, v = .slice ao n c := by
  rcases h.2 with ⟨e, h⟩ | ⟨g, cap, cur, e, _⟩
  · exact ⟨none, 0, by rw [h]; exact e⟩
  · exact ⟨_, _, e⟩
/-- append(a, b...) where a is the call's own and b is any row. -/
theorem wpList_append_row {P : Program} {w : World} {ops : Array Oper} {rest : List Oper} {o : Oper} {a : Act} {Q : Exit → Act → World → Prop} (hgd : o.guard = none) (s x : Operand) (t : TypeId)
    (ho : o.op = .call { callee := .builtin .append, args := #[s, x], argTypes := #[t, t] })
    (base : Nat) (e : TypeId) (i : TypeInfo) (z : Value) (size bytes : Nat) (ht : P.underlying t = some (.slice e)) (hi : P.info? e = some i) (hz : i.zero = some z)
    (hsize : i.size = size) (hby : i.bytes = bytes) (hzs : z.cells.size = size) (hsz : 0 < size)
    (v : Value) (n : Nat) (xs : List Value) (hs : a.eval s = v) (hown : w.ownsRow base e size v n xs)
    (vx : Value) (m : Nat) (news : List Value) (hx : a.eval x = vx) (hsrc : Row w size vx m news) (h1 : ∀ y ∈ news, y.oneCell' = true)
    (h63 : n + m ≤ maxLen) (hbytes : (n + m) * bytes ≤ 140737488355328) (hbase : base ≤ w.heap.size)
    (h : ∀ ao cap w', w'.ownsRow base e size (.slice ao (n + m) cap) (n + m) (xs ++ news) → w.grownBy w' v.ownBlock → wpList P ops Q rest (a.put o.dst (.slice ao (n + m) cap)) w') : wpList P ops Q (o :: rest) a w := by
  obtain ⟨hl, xo, c, rfl, hcc, hsrc⟩ := hsrc
  rcases hsrc with ⟨rfl, rfl, rfl⟩ | ⟨b, off, rfl, hc⟩
  · have : news = [] := List.eq_nil_of_length_eq_zero (by omega)
    subst this
    refine wpList_append_own_none hgd s x t ho base e i size ht hi v n xs hs hown hx ?_
    obtain ⟨ao, cp, hv⟩ := own_form hown
    have := h ao cp w (by rw [List.append_nil, Nat.add_zero, ← hv]; exact hown) ⟨rfl, rfl, rfl, Nat.le_refl _, fun _ _ _ => rfl⟩
    rw [Nat.add_zero, ← hv] at this
    exact this
  · refine wpList_append_own w hgd s x t ho base e i z size bytes ht hi hz hsize hby hzs hsz v n xs hs hown ⟨b, off, none⟩ m c news hx hl (fun j u hj => by rw [addA]; exact hc j u hj) h1 h63 hbytes hbase ?_
    intro v' w' h2 h3 _
    obtain ⟨ao, cp, hv⟩ := own_form h2
    rw [hv]
    rw [hv] at h2
    exact h ao cp w' h2 h3
theorem Row.below {w w' : World} {size n : Nat} {v : Value} {xs : List Value} (h : Row w size v n xs) (hb : Below w.heap.size w w') : Row w' size v n xs := by
  obtain ⟨hl, ao, c, e, hc, h⟩ := h
  refine ⟨hl, ao, c, e, hc, ?_⟩
  rcases h with h | ⟨b, off, e, h⟩
  · exact .inl h
  · exact .inr ⟨b, off, e, fun j u hj => keepc hb (h j u hj)⟩
end Go.Proofs.YthhdaadbcogfnaaDoor
/-
  A row that was handed in, and append of it.
-/
namespace Go.Proofs.YthhdaadbcogfnaaDoor
open Go.RowKit
set_option linter.unusedSimpArgs false
set_option linter.unusedVariables false

theorem spot9 {W : World} {a : Addr} {u : Value} (h : W.cell? a = some u) : a = ⟨a.block, a.off, none⟩ := by
  obtain ⟨b, o, s⟩ := a
  cases s with
  | none => rfl
  | some z =>
    unfold World.cell? at h
    split at h
    · simp at h
    · cases h
/-- A row that was handed in: n elements of so many cells. -/
def RowA (w : World) (size : Nat) (v : Value) (n : Nat) (xs : List Value) : Prop :=
  xs.length = n * size ∧ ∃ ao c, v = .slice ao n c ∧ n ≤ c ∧ ((ao = none ∧ c = 0 ∧ n = 0) ∨ ∃ a : Addr, ao = some a ∧ ∀ j u, xs[j]? = some u → w.cell? (a.add j) = some u)
theorem RowA.below {w w' : World} {size n : Nat} {v : Value} {xs : List Value} (h : RowA w size v n xs) (hb : Below w.heap.size w w') : RowA w' size v n xs := by
  obtain ⟨hl, ao, c, e, hc, h⟩ := h
  refine ⟨hl, ao, c, e, hc, ?_⟩
  rcases h with h | ⟨a, e, h⟩
  · exact .inl h
  · refine .inr ⟨a, e, fun j u hj => ?_⟩
    have f := h j u hj
    have sp := spot9 f
    rw [sp]
    rw [sp] at f
    exact keepc hb f
theorem wpList_append_rowA {P : Program} {w : World} {ops : Array Oper} {rest : List Oper} {o : Oper} {a : Act} {Q : Exit → Act → World → Prop} (hgd : o.guard = none) (s x : Operand) (t : TypeId)
    (ho : o.op = .call { callee := .builtin .append, args := #[s, x], argTypes := #[t, t] })
    (base : Nat) (e : TypeId) (i : TypeInfo) (z : Value) (size bytes : Nat) (ht : P.underlying t = some (.slice e)) (hi : P.info? e = some i) (hz : i.zero = some z)
    (hsize : i.size = size) (hby : i.bytes = bytes) (hzs : z.cells.size = size) (hsz : 0 < size)
    (v : Value) (n : Nat) (xs : List Value) (hs : a.eval s = v) (hown : w.ownsRow base e size v n xs)
    (vx : Value) (m : Nat) (news : List Value) (hx : a.eval x = vx) (hsrc : RowA w size vx m news) (h1 : ∀ y ∈ news, y.oneCell' = true)
    (h63 : n + m ≤ maxLen) (hbytes : (n + m) * bytes ≤ 140737488355328) (hbase : base ≤ w.heap.size)
    (h : ∀ ao cap w', w'.ownsRow base e size (.slice ao (n + m) cap) (n + m) (xs ++ news) → w.grownBy w' v.ownBlock → wpList P ops Q rest (a.put o.dst (.slice ao (n + m) cap)) w') : wpList P ops Q (o :: rest) a w := by
  obtain ⟨hl, xo, c, rfl, hcc, hsrc⟩ := hsrc
  rcases hsrc with ⟨rfl, rfl, rfl⟩ | ⟨ad, rfl, hc⟩
  · have : news = [] := List.eq_nil_of_length_eq_zero (by omega)
    subst this
    refine wpList_append_own_none hgd s x t ho base e i size ht hi v n xs hs hown hx ?_
    obtain ⟨ao, cp, hv⟩ := own_form hown
    have := h ao cp w (by rw [List.append_nil, Nat.add_zero, ← hv]; exact hown) ⟨rfl, rfl, rfl, Nat.le_refl _, fun _ _ _ => rfl⟩
    rw [Nat.add_zero, ← hv] at this
    exact this
  · refine wpList_append_own w hgd s x t ho base e i z size bytes ht hi hz hsize hby hzs hsz v n xs hs hown ad m c news hx hl hc h1 h63 hbytes hbase ?_
    intro v' w' h2 h3 _
    obtain ⟨ao, cp, hv⟩ := own_form h2
    rw [hv]
    rw [hv] at h2
    exact h ao cp w' h2 h3
theorem stopHere9 {P : Program} {w : World} {ops : Array Oper} {rest : List Oper} {a : Act} {Q : Exit → Act → World → Prop} {o : Oper} (h : Hid (wpList P ops Q (o :: rest) a w)) : wpList P ops Q (o :: rest) a w := h.out
end Go.Proofs.YthhdaadbcogfnaaDoor
