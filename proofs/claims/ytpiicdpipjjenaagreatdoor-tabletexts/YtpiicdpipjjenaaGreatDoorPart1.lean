/-
  Part 1 of the proof: 6 texts, one behind the other.
-/
import Derived.WalkKit
import Derived.WalkSpells
import Derived.WalkLawsBesides
import Derived.Test.YtpiicdpipjjenaaGreatDoorRows
import Derived.Deep.RegionHeld3
namespace Go.Proofs.YtpiicdpipjjenaaGreatDoor
open Go.RowKit
set_option linter.unusedSimpArgs false
set_option linter.unusedVariables false

def hv (x : BitVec 128) : BitVec 64 := x.extractLsb' 64 64
def lv (x : BitVec 128) : BitVec 64 := x.extractLsb' 0 64
def hI (x : BitVec 128) : Int := ((hv x).toNat : Int)
def lI (x : BitVec 128) : Int := ((lv x).toNat : Int)
def mkW (h l : Int) : BitVec 128 := (BitVec.ofInt 64 h) ++ (BitVec.ofInt 64 l)

theorem hI_lo (x : BitVec 128) : 0 ≤ hI x := by unfold hI; omega
theorem lI_lo (x : BitVec 128) : 0 ≤ lI x := by unfold lI; omega
theorem hI_up (x : BitVec 128) : hI x < 18446744073709551616 := by unfold hI; have := (hv x).isLt; omega
theorem lI_up (x : BitVec 128) : lI x < 18446744073709551616 := by unfold lI; have := (lv x).isLt; omega

theorem hv_mk (h l : Int) : hv (mkW h l) = BitVec.ofInt 64 h := by
  unfold hv mkW; exact BitVec.extractLsb'_append_eq_left
theorem lv_mk (h l : Int) : lv (mkW h l) = BitVec.ofInt 64 l := by
  unfold lv mkW; exact BitVec.extractLsb'_append_eq_right
theorem hI_mk (h l : Int) (h0 : 0 ≤ h) (h1 : h < 18446744073709551616) : hI (mkW h l) = h := by
  unfold hI; rw [hv_mk]; simp [BitVec.toNat_ofInt]; omega
theorem lI_mk (h l : Int) (h0 : 0 ≤ l) (h1 : l < 18446744073709551616) : lI (mkW h l) = l := by
  unfold lI; rw [lv_mk]; simp [BitVec.toNat_ofInt]; omega

theorem hv_bit (x : BitVec 128) (i : Nat) : (hv x).getLsbD i = (decide (i < 64) && x.getLsbD (64 + i)) := by
  unfold hv; simp
theorem lv_bit (x : BitVec 128) (i : Nat) : (lv x).getLsbD i = (decide (i < 64) && x.getLsbD i) := by
  unfold lv; simp

theorem eq_halves {x y : BitVec 128} (h : hv x = hv y) (l : lv x = lv y) : x = y := by
  apply BitVec.eq_of_getLsbD_eq
  intro i hi
  by_cases c : i < 64
  · have := congrArg (fun z => z.getLsbD i) l
    simpa only [lv_bit, c, decide_true, Bool.true_and] using this
  · have := congrArg (fun z => z.getLsbD (i - 64)) h
    have e : 64 + (i - 64) = i := by omega
    have d : i - 64 < 64 := by omega
    simpa only [hv_bit, e, d, decide_true, Bool.true_and] using this
theorem eq_ints {x y : BitVec 128} (h : hI x = hI y) (l : lI x = lI y) : x = y := by
  apply eq_halves
  · apply BitVec.eq_of_toNat_eq; unfold hI at h; omega
  · apply BitVec.eq_of_toNat_eq; unfold lI at l; omega
theorem beq_ints (x y : BitVec 128) : (hI x == hI y && lI x == lI y) = (x == y) := by
  rw [Bool.eq_iff_iff]; simp only [Bool.and_eq_true, beq_iff_eq]
  exact ⟨fun h => eq_ints h.1 h.2, fun h => by rw [h]; exact ⟨rfl, rfl⟩⟩
theorem wrap_nat (n : Nat) (h : n < 18446744073709551616) : IntKind.u64.wrap (n : Int) = (n : Int) := by
  simp [IntKind.wrap, IntKind.bits, IntKind.signed]; omega
theorem bits64and (a b c : BitVec 64) (h : c = a &&& b) : bits .and .u64 (a.toNat : Int) (b.toNat : Int) = (c.toNat : Int) := by
  subst h; unfold bits
  simp only [IntKind.bits, BitVec.ofInt_natCast, BitVec.ofNat_toNat, BitVec.setWidth_eq]
  rw [wrap_nat _ (BitVec.isLt _)]; rfl
theorem bits64or (a b c : BitVec 64) (h : c = a ||| b) : bits .or .u64 (a.toNat : Int) (b.toNat : Int) = (c.toNat : Int) := by
  subst h; unfold bits
  simp only [IntKind.bits, BitVec.ofInt_natCast, BitVec.ofNat_toNat, BitVec.setWidth_eq]
  rw [wrap_nat _ (BitVec.isLt _)]; rfl
theorem bits64xor (a b c : BitVec 64) (h : c = a ^^^ b) : bits .xor .u64 (a.toNat : Int) (b.toNat : Int) = (c.toNat : Int) := by
  subst h; unfold bits
  simp only [IntKind.bits, BitVec.ofInt_natCast, BitVec.ofNat_toNat, BitVec.setWidth_eq]
  rw [wrap_nat _ (BitVec.isLt _)]; rfl
theorem bits64andNot (a b c : BitVec 64) (h : c = a &&& ~~~b) : bits .andNot .u64 (a.toNat : Int) (b.toNat : Int) = (c.toNat : Int) := by
  subst h; unfold bits
  simp only [IntKind.bits, BitVec.ofInt_natCast, BitVec.ofNat_toNat, BitVec.setWidth_eq]
  rw [wrap_nat _ (BitVec.isLt _)]; rfl
theorem shl64 (a : BitVec 64) (n : Nat) : IntKind.u64.wrap ((a.toNat : Int) * 2 ^ n) = ((a <<< n).toNat : Int) := by
  simp [IntKind.wrap, IntKind.bits, IntKind.signed, BitVec.toNat_shiftLeft, Nat.shiftLeft_eq]
theorem shr64 (a : BitVec 64) (n : Nat) : (a.toNat : Int) / 2 ^ n = ((a >>> n).toNat : Int) := by
  simp [BitVec.toNat_ushiftRight, Nat.shiftRight_eq_div_pow]

theorem hv_and (x y : BitVec 128) : hv (x &&& y) = hv x &&& hv y := by apply BitVec.eq_of_getLsbD_eq; intro i hi; simp only [hv_bit, lv_bit, BitVec.getLsbD_and, BitVec.getLsbD_or, BitVec.getLsbD_xor, BitVec.getLsbD_not, BitVec.getLsbD_shiftLeft, BitVec.getLsbD_ushiftRight, BitVec.getLsbD_allOnes, BitVec.getLsbD_zero, hi, decide_true, Bool.true_and]
theorem lv_and (x y : BitVec 128) : lv (x &&& y) = lv x &&& lv y := by apply BitVec.eq_of_getLsbD_eq; intro i hi; simp only [hv_bit, lv_bit, BitVec.getLsbD_and, BitVec.getLsbD_or, BitVec.getLsbD_xor, BitVec.getLsbD_not, BitVec.getLsbD_shiftLeft, BitVec.getLsbD_ushiftRight, BitVec.getLsbD_allOnes, BitVec.getLsbD_zero, hi, decide_true, Bool.true_and]
theorem hv_or (x y : BitVec 128) : hv (x ||| y) = hv x ||| hv y := by apply BitVec.eq_of_getLsbD_eq; intro i hi; simp only [hv_bit, lv_bit, BitVec.getLsbD_and, BitVec.getLsbD_or, BitVec.getLsbD_xor, BitVec.getLsbD_not, BitVec.getLsbD_shiftLeft, BitVec.getLsbD_ushiftRight, BitVec.getLsbD_allOnes, BitVec.getLsbD_zero, hi, decide_true, Bool.true_and]
theorem lv_or (x y : BitVec 128) : lv (x ||| y) = lv x ||| lv y := by apply BitVec.eq_of_getLsbD_eq; intro i hi; simp only [hv_bit, lv_bit, BitVec.getLsbD_and, BitVec.getLsbD_or, BitVec.getLsbD_xor, BitVec.getLsbD_not, BitVec.getLsbD_shiftLeft, BitVec.getLsbD_ushiftRight, BitVec.getLsbD_allOnes, BitVec.getLsbD_zero, hi, decide_true, Bool.true_and]
theorem hv_xor (x y : BitVec 128) : hv (x ^^^ y) = hv x ^^^ hv y := by apply BitVec.eq_of_getLsbD_eq; intro i hi; simp only [hv_bit, lv_bit, BitVec.getLsbD_and, BitVec.getLsbD_or, BitVec.getLsbD_xor, BitVec.getLsbD_not, BitVec.getLsbD_shiftLeft, BitVec.getLsbD_ushiftRight, BitVec.getLsbD_allOnes, BitVec.getLsbD_zero, hi, decide_true, Bool.true_and]
theorem lv_xor (x y : BitVec 128) : lv (x ^^^ y) = lv x ^^^ lv y := by apply BitVec.eq_of_getLsbD_eq; intro i hi; simp only [hv_bit, lv_bit, BitVec.getLsbD_and, BitVec.getLsbD_or, BitVec.getLsbD_xor, BitVec.getLsbD_not, BitVec.getLsbD_shiftLeft, BitVec.getLsbD_ushiftRight, BitVec.getLsbD_allOnes, BitVec.getLsbD_zero, hi, decide_true, Bool.true_and]
theorem hv_not (x : BitVec 128) : hv (~~~x) = BitVec.allOnes 64 ^^^ hv x := by
  apply BitVec.eq_of_getLsbD_eq; intro i hi
  have : 64 + i < 128 := by omega
  simp only [hv_bit, lv_bit, BitVec.getLsbD_and, BitVec.getLsbD_or, BitVec.getLsbD_xor, BitVec.getLsbD_not, BitVec.getLsbD_shiftLeft, BitVec.getLsbD_ushiftRight, BitVec.getLsbD_allOnes, BitVec.getLsbD_zero, hi, this, decide_true, Bool.true_and, Bool.true_xor]
theorem lv_not (x : BitVec 128) : lv (~~~x) = BitVec.allOnes 64 ^^^ lv x := by
  apply BitVec.eq_of_getLsbD_eq; intro i hi
  have : i < 128 := by omega
  simp only [hv_bit, lv_bit, BitVec.getLsbD_and, BitVec.getLsbD_or, BitVec.getLsbD_xor, BitVec.getLsbD_not, BitVec.getLsbD_shiftLeft, BitVec.getLsbD_ushiftRight, BitVec.getLsbD_allOnes, BitVec.getLsbD_zero, hi, this, decide_true, Bool.true_and, Bool.true_xor]

theorem and_h (x y : BitVec 128) : bits .and .u64 (hI x) (hI y) = hI (x &&& y) := bits64and _ _ _ (hv_and x y)
theorem and_l (x y : BitVec 128) : bits .and .u64 (lI x) (lI y) = lI (x &&& y) := bits64and _ _ _ (lv_and x y)
theorem or_h (x y : BitVec 128) : bits .or .u64 (hI x) (hI y) = hI (x ||| y) := bits64or _ _ _ (hv_or x y)
theorem or_l (x y : BitVec 128) : bits .or .u64 (lI x) (lI y) = lI (x ||| y) := bits64or _ _ _ (lv_or x y)
theorem xor_h (x y : BitVec 128) : bits .xor .u64 (hI x) (hI y) = hI (x ^^^ y) := bits64xor _ _ _ (hv_xor x y)
theorem xor_l (x y : BitVec 128) : bits .xor .u64 (lI x) (lI y) = lI (x ^^^ y) := bits64xor _ _ _ (lv_xor x y)
theorem max64 : IntKind.u64.max = ((BitVec.allOnes 64).toNat : Int) := by decide
theorem not_h (x : BitVec 128) : bits .xor .u64 IntKind.u64.max (hI x) = hI (~~~x) := by
  rw [max64]; exact bits64xor _ _ _ (hv_not x)
theorem not_l (x : BitVec 128) : bits .xor .u64 IntKind.u64.max (lI x) = lI (~~~x) := by
  rw [max64]; exact bits64xor _ _ _ (lv_not x)

theorem shl_h (x : BitVec 128) (n : Nat) (h : n < 64) : bits .or .u64 (IntKind.u64.wrap (hI x * 2 ^ n)) (lI x / 2 ^ (64 - n)) = hI (x <<< n) := by
  unfold hI lI
  rw [shl64, shr64]
  refine bits64or _ _ _ ?_
  apply BitVec.eq_of_getLsbD_eq; intro i hi
  have h1 : 64 + i < 128 := by omega
  have h2 : ¬ 64 + i < n := by omega
  by_cases c : i < n
  · have e : 64 + i - n = 64 - n + i := by omega
    have h3 : 64 - n + i < 64 := by omega
    simp only [hv_bit, lv_bit, BitVec.getLsbD_and, BitVec.getLsbD_or, BitVec.getLsbD_xor, BitVec.getLsbD_not, BitVec.getLsbD_shiftLeft, BitVec.getLsbD_ushiftRight, BitVec.getLsbD_allOnes, BitVec.getLsbD_zero, hi, h1, h2, h3, e, c, decide_true, decide_false, Bool.true_and, Bool.not_true, Bool.not_false, Bool.false_and, Bool.false_or]
  · have e : 64 + i - n = 64 + (i - n) := by omega
    have h3 : ¬ 64 - n + i < 64 := by omega
    have h4 : i - n < 64 := by omega
    simp only [hv_bit, lv_bit, BitVec.getLsbD_and, BitVec.getLsbD_or, BitVec.getLsbD_xor, BitVec.getLsbD_not, BitVec.getLsbD_shiftLeft, BitVec.getLsbD_ushiftRight, BitVec.getLsbD_allOnes, BitVec.getLsbD_zero, hi, h1, h2, h3, h4, e, c, decide_true, decide_false, Bool.true_and, Bool.not_true, Bool.not_false, Bool.false_and, Bool.or_false]
theorem shl_l (x : BitVec 128) (n : Nat) : IntKind.u64.wrap (lI x * 2 ^ n) = lI (x <<< n) := by
  unfold lI
  rw [shl64]
  congr 2
  apply BitVec.eq_of_getLsbD_eq; intro i hi
  have h1 : i < 128 := by omega
  have h2 : i - n < 64 := by omega
  simp only [hv_bit, lv_bit, BitVec.getLsbD_and, BitVec.getLsbD_or, BitVec.getLsbD_xor, BitVec.getLsbD_not, BitVec.getLsbD_shiftLeft, BitVec.getLsbD_ushiftRight, BitVec.getLsbD_allOnes, BitVec.getLsbD_zero, hi, h1, h2, decide_true, decide_false, Bool.true_and]
theorem shl_h2 (x : BitVec 128) (n : Nat) (h : 64 ≤ n) (h' : n < 128) : IntKind.u64.wrap (lI x * 2 ^ (n - 64)) = hI (x <<< n) := by
  unfold lI hI
  rw [shl64]
  congr 2
  apply BitVec.eq_of_getLsbD_eq; intro i hi
  have h1 : 64 + i < 128 := by omega
  have e : 64 + i - n = i - (n - 64) := by omega
  have h2 : i - (n - 64) < 64 := by omega
  have h3 : decide (64 + i < n) = decide (i < n - 64) := by apply decide_eq_decide.mpr; omega
  simp only [hv_bit, lv_bit, BitVec.getLsbD_and, BitVec.getLsbD_or, BitVec.getLsbD_xor, BitVec.getLsbD_not, BitVec.getLsbD_shiftLeft, BitVec.getLsbD_ushiftRight, BitVec.getLsbD_allOnes, BitVec.getLsbD_zero, hi, h1, h2, h3, e, decide_true, Bool.true_and]
theorem shl_l2 (x : BitVec 128) (n : Nat) (h : 64 ≤ n) : lI (x <<< n) = 0 := by
  have : lv (x <<< n) = 0#64 := by
    apply BitVec.eq_of_getLsbD_eq; intro i hi
    have h1 : i < n := by omega
    simp only [hv_bit, lv_bit, BitVec.getLsbD_and, BitVec.getLsbD_or, BitVec.getLsbD_xor, BitVec.getLsbD_not, BitVec.getLsbD_shiftLeft, BitVec.getLsbD_ushiftRight, BitVec.getLsbD_allOnes, BitVec.getLsbD_zero, hi, h1, decide_true, Bool.true_and, Bool.not_true, Bool.and_false, Bool.false_and]
  unfold lI; rw [this]; rfl
theorem shl_0 (x : BitVec 128) (n : Nat) (h : 128 ≤ n) : x <<< n = 0#128 := by
  apply BitVec.eq_of_getLsbD_eq; intro i hi
  have h1 : i < n := by omega
  simp only [hv_bit, lv_bit, BitVec.getLsbD_and, BitVec.getLsbD_or, BitVec.getLsbD_xor, BitVec.getLsbD_not, BitVec.getLsbD_shiftLeft, BitVec.getLsbD_ushiftRight, BitVec.getLsbD_allOnes, BitVec.getLsbD_zero, hi, h1, decide_true, Bool.true_and, Bool.not_true, Bool.and_false, Bool.false_and]
theorem shr_l (x : BitVec 128) (n : Nat) (h : n < 64) : bits .or .u64 (lI x / 2 ^ n) (IntKind.u64.wrap (hI x * 2 ^ (64 - n))) = lI (x >>> n) := by
  unfold hI lI
  rw [shl64, shr64]
  refine bits64or _ _ _ ?_
  apply BitVec.eq_of_getLsbD_eq; intro i hi
  by_cases c : i < 64 - n
  · have h3 : n + i < 64 := by omega
    simp only [hv_bit, lv_bit, BitVec.getLsbD_and, BitVec.getLsbD_or, BitVec.getLsbD_xor, BitVec.getLsbD_not, BitVec.getLsbD_shiftLeft, BitVec.getLsbD_ushiftRight, BitVec.getLsbD_allOnes, BitVec.getLsbD_zero, hi, h3, c, decide_true, decide_false, Bool.true_and, Bool.not_true, Bool.not_false, Bool.false_and, Bool.or_false]
  · have e : 64 + (i - (64 - n)) = n + i := by omega
    have h3 : ¬ n + i < 64 := by omega
    have h4 : i - (64 - n) < 64 := by omega
    simp only [hv_bit, lv_bit, BitVec.getLsbD_and, BitVec.getLsbD_or, BitVec.getLsbD_xor, BitVec.getLsbD_not, BitVec.getLsbD_shiftLeft, BitVec.getLsbD_ushiftRight, BitVec.getLsbD_allOnes, BitVec.getLsbD_zero, hi, h3, h4, e, c, decide_true, decide_false, Bool.true_and, Bool.not_true, Bool.not_false, Bool.false_and, Bool.false_or]
theorem shr_h (x : BitVec 128) (n : Nat) : hI x / 2 ^ n = hI (x >>> n) := by
  unfold hI
  rw [shr64]
  congr 2
  apply BitVec.eq_of_getLsbD_eq; intro i hi
  have e : n + (64 + i) = 64 + (n + i) := by omega
  by_cases c : n + i < 64
  · simp only [hv_bit, lv_bit, BitVec.getLsbD_and, BitVec.getLsbD_or, BitVec.getLsbD_xor, BitVec.getLsbD_not, BitVec.getLsbD_shiftLeft, BitVec.getLsbD_ushiftRight, BitVec.getLsbD_allOnes, BitVec.getLsbD_zero, hi, c, e, decide_true, Bool.true_and]
  · simp only [hv_bit, lv_bit, BitVec.getLsbD_and, BitVec.getLsbD_or, BitVec.getLsbD_xor, BitVec.getLsbD_not, BitVec.getLsbD_shiftLeft, BitVec.getLsbD_ushiftRight, BitVec.getLsbD_allOnes, BitVec.getLsbD_zero, hi, c, e, decide_true, decide_false, Bool.true_and, Bool.false_and]
    symm; apply BitVec.getLsbD_of_ge; omega
theorem shr_l2 (x : BitVec 128) (n : Nat) (h : 64 ≤ n) : hI x / 2 ^ (n - 64) = lI (x >>> n) := by
  unfold lI hI
  rw [shr64]
  congr 2
  apply BitVec.eq_of_getLsbD_eq; intro i hi
  have e : n + i = 64 + (n - 64 + i) := by omega
  by_cases c : n - 64 + i < 64
  · simp only [hv_bit, lv_bit, BitVec.getLsbD_and, BitVec.getLsbD_or, BitVec.getLsbD_xor, BitVec.getLsbD_not, BitVec.getLsbD_shiftLeft, BitVec.getLsbD_ushiftRight, BitVec.getLsbD_allOnes, BitVec.getLsbD_zero, hi, c, e, decide_true, Bool.true_and]
  · simp only [hv_bit, lv_bit, BitVec.getLsbD_and, BitVec.getLsbD_or, BitVec.getLsbD_xor, BitVec.getLsbD_not, BitVec.getLsbD_shiftLeft, BitVec.getLsbD_ushiftRight, BitVec.getLsbD_allOnes, BitVec.getLsbD_zero, hi, c, e, decide_true, decide_false, Bool.true_and, Bool.false_and]
    symm; apply BitVec.getLsbD_of_ge; omega
theorem shr_h2 (x : BitVec 128) (n : Nat) (h : 64 ≤ n) : hI (x >>> n) = 0 := by
  have : hv (x >>> n) = 0#64 := by
    apply BitVec.eq_of_getLsbD_eq; intro i hi
    simp only [hv_bit, lv_bit, BitVec.getLsbD_and, BitVec.getLsbD_or, BitVec.getLsbD_xor, BitVec.getLsbD_not, BitVec.getLsbD_shiftLeft, BitVec.getLsbD_ushiftRight, BitVec.getLsbD_allOnes, BitVec.getLsbD_zero, hi, decide_true, Bool.true_and]; apply BitVec.getLsbD_of_ge; omega
  unfold hI; rw [this]; rfl
theorem shr_0 (x : BitVec 128) (n : Nat) (h : 128 ≤ n) : x >>> n = 0#128 := by
  apply BitVec.eq_of_getLsbD_eq; intro i hi
  simp only [hv_bit, lv_bit, BitVec.getLsbD_and, BitVec.getLsbD_or, BitVec.getLsbD_xor, BitVec.getLsbD_not, BitVec.getLsbD_shiftLeft, BitVec.getLsbD_ushiftRight, BitVec.getLsbD_allOnes, BitVec.getLsbD_zero]; apply BitVec.getLsbD_of_ge; omega
theorem hI_zero : hI 0#128 = 0 := by decide
theorem lI_zero : lI 0#128 = 0 := by decide
end Go.Proofs.YtpiicdpipjjenaaGreatDoor
namespace Go.Proofs.YtpiicdpipjjenaaGreatDoor
open Go.RowKit
set_option linter.unusedSimpArgs false
set_option linter.unusedVariables false

theorem bl1 (w : World) (o : Obj) : Below w.heap.size w (w.alloc o) := (Below.refl _ _).alloc (Nat.le_refl _) _
theorem bl2 (w : World) (o p : Obj) : Below w.heap.size w ((w.alloc o).alloc p) := (bl1 w o).alloc (by simp) _
theorem bl3 (w : World) (o p q : Obj) : Below w.heap.size w (((w.alloc o).alloc p).alloc q) := (bl2 w o p).alloc (by simp; omega) _

theorem and_any (x y : BitVec 128) (w : World) :
    Calls Tryz.prog 85 #[.agg #[.int .u64 (hI x), .int .u64 (lI x)], .agg #[.int .u64 (hI y), .int .u64 (lI y)]] w fun e w' => e = .returned (.agg #[.int .u64 (hI (x &&& y)), .int .u64 (lI (x &&& y))]) ∧ Below w.heap.size w w' := by
  go_enter Tryz.func85, Tryz.ntmps85
  go_wp2
  rw [and_h, and_l]
  exact bodyPost_ret (v := .agg #[.int .u64 (hI (x &&& y)), .int .u64 (lI (x &&& y))]) (by simp [results, Tryz.results85, go_sem]) rfl ⟨rfl, bl3 _ _ _ _⟩

theorem or_any (x y : BitVec 128) (w : World) :
    Calls Tryz.prog 139 #[.agg #[.int .u64 (hI x), .int .u64 (lI x)], .agg #[.int .u64 (hI y), .int .u64 (lI y)]] w fun e w' => e = .returned (.agg #[.int .u64 (hI (x ||| y)), .int .u64 (lI (x ||| y))]) ∧ Below w.heap.size w w' := by
  go_enter Tryz.func139, Tryz.ntmps139
  go_wp2
  rw [or_h, or_l]
  exact bodyPost_ret (v := .agg #[.int .u64 (hI (x ||| y)), .int .u64 (lI (x ||| y))]) (by simp [results, Tryz.results139, go_sem]) rfl ⟨rfl, bl3 _ _ _ _⟩

theorem xor_any (x y : BitVec 128) (w : World) :
    Calls Tryz.prog 120 #[.agg #[.int .u64 (hI x), .int .u64 (lI x)], .agg #[.int .u64 (hI y), .int .u64 (lI y)]] w fun e w' => e = .returned (.agg #[.int .u64 (hI (x ^^^ y)), .int .u64 (lI (x ^^^ y))]) ∧ Below w.heap.size w w' := by
  go_enter Tryz.func120, Tryz.ntmps120
  go_wp2
  rw [xor_h, xor_l]
  exact bodyPost_ret (v := .agg #[.int .u64 (hI (x ^^^ y)), .int .u64 (lI (x ^^^ y))]) (by simp [results, Tryz.results120, go_sem]) rfl ⟨rfl, bl3 _ _ _ _⟩

theorem not_any (x : BitVec 128) (w : World) :
    Calls Tryz.prog 67 #[.agg #[.int .u64 (hI x), .int .u64 (lI x)]] w fun e w' => e = .returned (.agg #[.int .u64 (hI (~~~x)), .int .u64 (lI (~~~x))]) ∧ Below w.heap.size w w' := by
  have hs : ¬ IntKind.u64.signed = true := by decide
  go_enter Tryz.func67, Tryz.ntmps67
  go_wp2
  rw [not_h, not_l]
  exact bodyPost_ret (v := .agg #[.int .u64 (hI (~~~x)), .int .u64 (lI (~~~x))]) (by simp [results, Tryz.results67, go_sem]) rfl ⟨rfl, bl2 _ _ _⟩

theorem shl_any (x : BitVec 128) (n : Int) (w : World) :
    Calls Tryz.prog 135 #[.agg #[.int .u64 (hI x), .int .u64 (lI x)], .int .i64 n] w fun e w' => e = .returned (.agg #[.int .u64 (hI (x <<< n.toNat)), .int .u64 (lI (x <<< n.toNat))]) ∧ Below w.heap.size w w' := by
  by_cases h0 : n ≤ 0
  · have e : x <<< n.toNat = x := by rw [Int.toNat_eq_zero.mpr h0]; simp
    rw [e]
    go_enter Tryz.func135, Tryz.ntmps135
    go_wp2
    exact bodyPost_ret (v := .agg #[.int .u64 (hI x), .int .u64 (lI x)]) (by simp [results, Tryz.results135, go_sem]) rfl ⟨rfl, bl2 _ _ _⟩
  by_cases h1 : 128 ≤ n
  · rw [shl_0 x n.toNat (by omega), hI_zero, lI_zero]
    go_enter Tryz.func135, Tryz.ntmps135
    go_wp2
    exact bodyPost_ret (v := .agg #[.int .u64 0, .int .u64 0]) (by simp [results, Tryz.results135, go_sem]) rfl ⟨rfl, bl2 _ _ _⟩
  by_cases h2 : 64 ≤ n
  · have e : (n - 64).toNat = n.toNat - 64 := by omega
    rw [← shl_h2 x n.toNat (by omega) (by omega), shl_l2 x n.toNat (by omega), ← e]
    clear e
    go_enter Tryz.func135, Tryz.ntmps135
    go_wp2
    exact bodyPost_ret (v := .agg #[.int .u64 (IntKind.u64.wrap (lI x * 2 ^ (n - 64).toNat)), .int .u64 0]) (by simp [results, Tryz.results135, go_sem]) rfl ⟨rfl, bl2 _ _ _⟩
  · have e : (64 - n).toNat = 64 - n.toNat := by omega
    rw [← shl_h x n.toNat (by omega), ← shl_l x n.toNat, ← e]
    clear e
    go_enter Tryz.func135, Tryz.ntmps135
    go_wp2
    go_region
    all_goals go_wp2
    all_goals exact bodyPost_ret (v := .agg #[.int .u64 (bits .or .u64 (IntKind.u64.wrap (hI x * 2 ^ n.toNat)) (lI x / 2 ^ (64 - n).toNat)), .int .u64 (IntKind.u64.wrap (lI x * 2 ^ n.toNat))]) (by simp [results, Tryz.results135, go_sem]) rfl ⟨rfl, (bl2 _ _ _).drew⟩

theorem shr_any (x : BitVec 128) (n : Int) (w : World) :
    Calls Tryz.prog 68 #[.agg #[.int .u64 (hI x), .int .u64 (lI x)], .int .i64 n] w fun e w' => e = .returned (.agg #[.int .u64 (hI (x >>> n.toNat)), .int .u64 (lI (x >>> n.toNat))]) ∧ Below w.heap.size w w' := by
  by_cases h0 : n ≤ 0
  · have e : x >>> n.toNat = x := by rw [Int.toNat_eq_zero.mpr h0]; simp
    rw [e]
    go_enter Tryz.func68, Tryz.ntmps68
    go_wp2
    exact bodyPost_ret (v := .agg #[.int .u64 (hI x), .int .u64 (lI x)]) (by simp [results, Tryz.results68, go_sem]) rfl ⟨rfl, bl2 _ _ _⟩
  by_cases h1 : 128 ≤ n
  · rw [shr_0 x n.toNat (by omega), hI_zero, lI_zero]
    go_enter Tryz.func68, Tryz.ntmps68
    go_wp2
    exact bodyPost_ret (v := .agg #[.int .u64 0, .int .u64 0]) (by simp [results, Tryz.results68, go_sem]) rfl ⟨rfl, bl2 _ _ _⟩
  by_cases h2 : 64 ≤ n
  · have e : (n - 64).toNat = n.toNat - 64 := by omega
    rw [← shr_l2 x n.toNat (by omega), shr_h2 x n.toNat (by omega), ← e]
    clear e
    go_enter Tryz.func68, Tryz.ntmps68
    go_wp2
    exact bodyPost_ret (v := .agg #[.int .u64 0, .int .u64 (hI x / 2 ^ (n - 64).toNat)]) (by simp [results, Tryz.results68, go_sem]) rfl ⟨rfl, bl2 _ _ _⟩
  · have e : (64 - n).toNat = 64 - n.toNat := by omega
    rw [← shr_l x n.toNat (by omega), ← shr_h x n.toNat, ← e]
    clear e
    go_enter Tryz.func68, Tryz.ntmps68
    go_wp2
    go_region
    all_goals go_wp2
    all_goals exact bodyPost_ret (v := .agg #[.int .u64 (hI x / 2 ^ n.toNat), .int .u64 (bits .or .u64 (lI x / 2 ^ n.toNat) (IntKind.u64.wrap (hI x * 2 ^ (64 - n).toNat)))]) (by simp [results, Tryz.results68, go_sem]) rfl ⟨rfl, (bl2 _ _ _).drew⟩
end Go.Proofs.YtpiicdpipjjenaaGreatDoor
namespace Go.Proofs.YtpiicdpipjjenaaGreatDoor
open Go.RowKit
set_option linter.unusedSimpArgs false
set_option linter.unusedVariables false

theorem hvN (x : BitVec 128) : (hv x).toNat = x.toNat / 18446744073709551616 := by
  unfold hv; rw [BitVec.extractLsb'_toNat, Nat.shiftRight_eq_div_pow]
  have := x.isLt; omega
theorem lvN (x : BitVec 128) : (lv x).toNat = x.toNat % 18446744073709551616 := by
  unfold lv; rw [BitVec.extractLsb'_toNat, Nat.shiftRight_eq_div_pow]
  simp
theorem hIN (x : BitVec 128) : hI x = ((x.toNat / 18446744073709551616 : Nat) : Int) := by unfold hI; rw [hvN]
theorem lIN (x : BitVec 128) : lI x = ((x.toNat % 18446744073709551616 : Nat) : Int) := by unfold lI; rw [lvN]

def cmpZ (x y : BitVec 128) : Int := if x.toNat < y.toNat then -1 else if x = y then 0 else 1

theorem ltN (x y : BitVec 128) : x.toNat < y.toNat ↔ hI x < hI y ∨ hI x = hI y ∧ lI x < lI y := by
  rw [hIN, hIN, lIN, lIN]
  have := x.isLt; have := y.isLt; omega
theorem cmp_ways (x y : BitVec 128) : (hI x < hI y ∧ cmpZ x y = -1) ∨ (hI x = hI y ∧ lI x < lI y ∧ cmpZ x y = -1) ∨ (x = y ∧ cmpZ x y = 0) ∨ (hI y < hI x ∧ cmpZ x y = 1) ∨ (hI x = hI y ∧ lI y < lI x ∧ cmpZ x y = 1) := by
  by_cases a : x.toNat < y.toNat
  · have c : cmpZ x y = -1 := by unfold cmpZ; rw [if_pos a]
    rcases (ltN x y).mp a with h | ⟨h, g⟩
    · exact Or.inl ⟨h, c⟩
    · exact Or.inr (Or.inl ⟨h, g, c⟩)
  · by_cases b : x = y
    · exact Or.inr (Or.inr (Or.inl ⟨b, by unfold cmpZ; rw [if_neg a, if_pos b]⟩))
    · have c : cmpZ x y = 1 := by unfold cmpZ; rw [if_neg a, if_neg b]
      have d : y.toNat < x.toNat := by
        have : x.toNat ≠ y.toNat := fun h => b (BitVec.eq_of_toNat_eq h)
        omega
      rcases (ltN y x).mp d with h | ⟨h, g⟩
      · exact Or.inr (Or.inr (Or.inr (Or.inl ⟨h, c⟩)))
      · exact Or.inr (Or.inr (Or.inr (Or.inr ⟨h.symm, g, c⟩)))
def allW : BitVec 128 := ~~~(0#128)
def maskW (n : Int) : BitVec 128 := ~~~(allW >>> n.toNat)

def putW (x : BitVec 128) (i : Int) (b : Int) : BitVec 128 := (x &&& ~~~(1#128 <<< (127 - i).toNat)) ||| (BitVec.ofInt 128 b <<< (127 - i).toNat)
theorem putW_bit (x : BitVec 128) (i : Int) (b : Int) (hb : b = 0 ∨ b = 1) (h : 0 ≤ i) (g : i ≤ 127) (j : Nat) (hj : j < 128) : (putW x i b).getLsbD j = if j = (127 - i).toNat then decide (b = 1) else x.getLsbD j := by
  unfold putW
  simp only [BitVec.getLsbD_and, BitVec.getLsbD_or, BitVec.getLsbD_not, BitVec.getLsbD_shiftLeft, hj, decide_true, Bool.true_and]
  by_cases c : j = (127 - i).toNat
  · subst c
    rcases hb with rfl | rfl <;> simp
  · by_cases d : j < (127 - i).toNat
    · simp [c, d]
    · have e : ¬ j - (127 - i).toNat = 0 := by omega
      rcases hb with rfl | rfl <;> simp [c, d, e]
theorem two64 (n : Nat) : IntKind.u64.wrap (2 ^ n) = ((1#64 <<< n).toNat : Int) := by
  have := shl64 1#64 n
  simpa using this
theorem put_h1 (x : BitVec 128) (i : Int) (h : 0 ≤ i) (g : i < 64) : bits .or .u64 (bits .andNot .u64 (hI x) (IntKind.u64.wrap (2 ^ (63 - i).toNat))) (IntKind.u64.wrap (2 ^ (63 - i).toNat)) = hI (putW x i 1) := by
  unfold hI
  rw [two64, bits64andNot _ _ _ rfl]
  refine bits64or _ _ _ ?_
  apply BitVec.eq_of_getLsbD_eq; intro j hj
  have e : decide (64 + j = (127 - i).toNat) = decide (j = (63 - i).toNat) := by apply decide_eq_decide.mpr; omega
  rw [hv_bit, putW_bit x i 1 (Or.inr rfl) h (by omega) _ (by omega)]
  simp only [hv_bit, BitVec.getLsbD_and, BitVec.getLsbD_or, BitVec.getLsbD_not, BitVec.getLsbD_shiftLeft, hj, decide_true, Bool.true_and]
  by_cases c : j = (63 - i).toNat
  · have : 64 + j = (127 - i).toNat := by omega
    subst c; simp [this]
  · have : ¬ 64 + j = (127 - i).toNat := by omega
    by_cases d : j < (63 - i).toNat
    · simp [this, c, d]
    · have : ¬ j - (63 - i).toNat = 0 := by omega
      simp [*]
theorem put_l0 (x : BitVec 128) (i : Int) (b : Int) (hb : b = 0 ∨ b = 1) (h : 0 ≤ i) (g : i < 64) : lI (putW x i b) = lI x := by
  unfold lI; congr 2
  apply BitVec.eq_of_getLsbD_eq; intro j hj
  rw [lv_bit, lv_bit, putW_bit x i b hb h (by omega) _ (by omega), if_neg (by omega)]
theorem put_h0 (x : BitVec 128) (i : Int) (h : 0 ≤ i) (g : i < 64) : bits .or .u64 (bits .andNot .u64 (hI x) (IntKind.u64.wrap (2 ^ (63 - i).toNat))) 0 = hI (putW x i 0) := by
  unfold hI
  rw [two64, bits64andNot _ _ _ rfl]
  refine bits64or _ 0#64 _ ?_
  apply BitVec.eq_of_getLsbD_eq; intro j hj
  rw [hv_bit, putW_bit x i 0 (Or.inl rfl) h (by omega) _ (by omega)]
  simp only [hv_bit, BitVec.getLsbD_and, BitVec.getLsbD_or, BitVec.getLsbD_not, BitVec.getLsbD_shiftLeft, hj, decide_true, Bool.true_and]
  by_cases c : j = (63 - i).toNat
  · have : 64 + j = (127 - i).toNat := by omega
    subst c; simp [this]
  · have : ¬ 64 + j = (127 - i).toNat := by omega
    by_cases d : j < (63 - i).toNat
    · simp [this, c, d]
    · have : ¬ j - (63 - i).toNat = 0 := by omega
      simp [*]
theorem put_l1 (x : BitVec 128) (i : Int) (h : 64 ≤ i) (g : i ≤ 127) : bits .or .u64 (bits .andNot .u64 (lI x) (IntKind.u64.wrap (2 ^ (127 - i).toNat))) (IntKind.u64.wrap (2 ^ (127 - i).toNat)) = lI (putW x i 1) := by
  unfold lI
  rw [two64, bits64andNot _ _ _ rfl]
  refine bits64or _ _ _ ?_
  apply BitVec.eq_of_getLsbD_eq; intro j hj
  rw [lv_bit, putW_bit x i 1 (Or.inr rfl) (by omega) (by omega) _ (by omega)]
  simp only [lv_bit, BitVec.getLsbD_and, BitVec.getLsbD_or, BitVec.getLsbD_not, BitVec.getLsbD_shiftLeft, hj, decide_true, Bool.true_and]
  by_cases c : j = (127 - i).toNat
  · subst c; simp
  · by_cases d : j < (127 - i).toNat
    · simp [c, d]
    · have : ¬ j - (127 - i).toNat = 0 := by omega
      simp [*]
theorem put_l00 (x : BitVec 128) (i : Int) (h : 64 ≤ i) (g : i ≤ 127) : bits .or .u64 (bits .andNot .u64 (lI x) (IntKind.u64.wrap (2 ^ (127 - i).toNat))) 0 = lI (putW x i 0) := by
  unfold lI
  rw [two64, bits64andNot _ _ _ rfl]
  refine bits64or _ 0#64 _ ?_
  apply BitVec.eq_of_getLsbD_eq; intro j hj
  rw [lv_bit, putW_bit x i 0 (Or.inl rfl) (by omega) (by omega) _ (by omega)]
  simp only [lv_bit, BitVec.getLsbD_and, BitVec.getLsbD_or, BitVec.getLsbD_not, BitVec.getLsbD_shiftLeft, hj, decide_true, Bool.true_and]
  by_cases c : j = (127 - i).toNat
  · subst c; simp
  · by_cases d : j < (127 - i).toNat
    · simp [c, d]
    · have : ¬ j - (127 - i).toNat = 0 := by omega
      simp [*]
theorem put_hh (x : BitVec 128) (i : Int) (b : Int) (hb : b = 0 ∨ b = 1) (h : 64 ≤ i) (g : i ≤ 127) : hI (putW x i b) = hI x := by
  unfold hI; congr 2
  apply BitVec.eq_of_getLsbD_eq; intro j hj
  rw [hv_bit, hv_bit, putW_bit x i b hb (by omega) (by omega) _ (by omega), if_neg (by omega)]
theorem maskW_0 : maskW 0 = 0#128 := by decide
theorem maskW_bit (n : Int) (j : Nat) (hj : j < 128) : (maskW n).getLsbD j = decide (128 - n.toNat ≤ j) := by
  unfold maskW allW
  simp only [BitVec.getLsbD_not, BitVec.getLsbD_ushiftRight, BitVec.getLsbD_zero, hj, decide_true, Bool.true_and, Bool.not_false, Bool.and_true]
  rw [← decide_not]; apply decide_eq_decide.mpr; omega
theorem maskW_succ (k : Nat) (h : k < 128) : putW (maskW (k : Int)) (k : Int) 1 = maskW ((k + 1 : Nat) : Int) := by
  apply BitVec.eq_of_getLsbD_eq; intro j hj
  rw [putW_bit _ _ _ (Or.inr rfl) (by omega) (by omega) _ hj, maskW_bit _ _ hj, maskW_bit _ _ hj]
  split
  · simp; omega
  · apply decide_eq_decide.mpr; omega
theorem maskW_all (n : Int) (h : 128 ≤ n) : maskW n = maskW 128 := by
  apply BitVec.eq_of_getLsbD_eq; intro j hj
  rw [maskW_bit _ _ hj, maskW_bit _ _ hj]; apply decide_eq_decide.mpr; omega
theorem maskW_neg (n : Int) (h : n ≤ 0) : maskW n = 0#128 := by
  have : n.toNat = 0 := by omega
  unfold maskW; rw [this]; decide
end Go.Proofs.YtpiicdpipjjenaaGreatDoor
namespace Go.Proofs.YtpiicdpipjjenaaGreatDoor
open Go.RowKit
set_option linter.unusedSimpArgs false
set_option linter.unusedVariables false

theorem bcell {W w1 : World} (hb : Below W.heap.size W w1) : (∀ b o, b < W.heap.size → w1.cell? ⟨b, o, none⟩ = W.cell? ⟨b, o, none⟩) ∧ (∀ b o, b < W.heap.size → w1.frozen? ⟨b, o, none⟩ = W.frozen? ⟨b, o, none⟩) :=
  ⟨fun b o h => hb.cell (p := ⟨b, o, none⟩) h, fun b o h => hb.frozen (p := ⟨b, o, none⟩) h⟩

theorem not0_any (w : World) :
    Calls Tryz.prog 67 #[.agg #[.int .u64 0, .int .u64 0]] w fun e w' => e = .returned (.agg #[.int .u64 (hI allW), .int .u64 (lI allW)]) ∧ Below w.heap.size w w' := by
  have h := not_any 0#128 w
  rw [hI_zero, lI_zero] at h
  exact h

set_option maxHeartbeats 400000 in
theorem mask_any (n : Int) (w : World) :
    Calls Tryz.prog 46 #[.int .i64 n] w fun e w' => e = .returned (.agg #[.int .u64 (hI (maskW n)), .int .u64 (lI (maskW n))]) ∧ Below w.heap.size w w' := by
  unfold maskW
  go_enter Tryz.func46, Tryz.ntmps46
  go_wp2_with fail
  refine (not0_any _).mono ?_
  rintro e w1 ⟨rfl, hb1⟩
  obtain ⟨hc1, hf1⟩ := bcell hb1
  have hz1 : w.heap.size < w1.heap.size := by have := hb1.size; simp at this; omega
  go_wp2_with fail
  refine (shr_any _ _ _).mono ?_
  rintro e w2 ⟨rfl, hb2⟩
  obtain ⟨hc2, hf2⟩ := bcell hb2
  have hz2 : w.heap.size < w2.heap.size := by have := hb2.size; omega
  go_wp2_with fail
  refine (not_any _ _).mono ?_
  rintro e w3 ⟨rfl, hb3⟩
  obtain ⟨hc3, hf3⟩ := bcell hb3
  have hz3 : w.heap.size < w3.heap.size := by have := hb3.size; omega
  go_wp2
  exact bodyPost_ret (v := .agg #[.int .u64 (hI (~~~(allW >>> n.toNat))), .int .u64 (lI (~~~(allW >>> n.toNat)))]) (by simp [results, Tryz.results46, go_sem, *]) rfl ⟨rfl, (((((bl1 _ _).trans (hb1.mono (by simp))).trans (hb2.mono (by omega))).trans (hb3.mono (by omega))).setCell (by simp) _).setCell (by simp) _⟩

set_option maxHeartbeats 400000 in
theorem cmp_any (x y : BitVec 128) (w : World) :
    Calls Tryz.prog 65 #[.agg #[.int .u64 (hI x), .int .u64 (lI x)], .agg #[.int .u64 (hI y), .int .u64 (lI y)]] w fun e w' => e = .returned (.int .i64 (cmpZ x y)) ∧ Below w.heap.size w w' := by
  rcases cmp_ways x y with ⟨h, c⟩ | ⟨h, g, c⟩ | ⟨h, c⟩ | ⟨h, c⟩ | ⟨h, g, c⟩
  · rw [c]; clear c
    have ne : ¬ hI x = hI y := by omega
    go_enter Tryz.func65, Tryz.ntmps65
    go_wp2
    go_ret
    exact ⟨rfl, bl2 _ _ _⟩
  · rw [c, h]; clear c h
    have ne : ¬ lI x = lI y := by omega
    go_enter Tryz.func65, Tryz.ntmps65
    go_wp2
    go_ret
    exact ⟨rfl, bl2 _ _ _⟩
  · rw [c]; clear c; subst h
    go_enter Tryz.func65, Tryz.ntmps65
    go_wp2
    go_ret
    exact ⟨rfl, bl2 _ _ _⟩
  · rw [c]; clear c
    have ne : ¬ hI x = hI y := by omega
    go_enter Tryz.func65, Tryz.ntmps65
    go_wp2
    go_ret
    exact ⟨rfl, bl2 _ _ _⟩
  · rw [c, h]; clear c h
    have ne : ¬ lI x = lI y := by omega
    go_enter Tryz.func65, Tryz.ntmps65
    go_wp2
    go_ret
    exact ⟨rfl, bl2 _ _ _⟩
end Go.Proofs.YtpiicdpipjjenaaGreatDoor
namespace Go.Proofs.YtpiicdpipjjenaaGreatDoor
open Go.RowKit
set_option linter.unusedSimpArgs false
set_option linter.unusedVariables false

theorem cell_in {W : World} {b o : Nat} {v : Value} (h : W.cell? ⟨b, o, none⟩ = some v) : b < W.heap.size := by
  apply Classical.byContradiction; intro hn
  have : W.heap[b]? = none := by simp; omega
  simp [World.cell?, this] at h
theorem keepc {W w' : World} (hb : Below W.heap.size W w') {b o : Nat} {v : Value} (h : W.cell? ⟨b, o, none⟩ = some v) : w'.cell? ⟨b, o, none⟩ = some v := by
  rw [(bcell hb).1 b o (cell_in h)]; exact h
theorem keepf {W w' : World} (hb : Below W.heap.size W w') {b o : Nat} {v : Value} (h : W.cell? ⟨b, o, none⟩ = some v) (hf : W.frozen? ⟨b, o, none⟩ = false) : w'.frozen? ⟨b, o, none⟩ = false := by
  rw [(bcell hb).2 b o (cell_in h)]; exact hf
theorem keepb {w W w' : World} (hb : Below W.heap.size W w') (h : Below w.heap.size w W) : Below w.heap.size w w' := h.trans (hb.mono h.size)

def cv (w : World) (b o : Nat) : Value := (w.cell? ⟨b, o, none⟩).getD (.bool false)
theorem cv_of {w : World} {b o : Nat} {v : Value} (h : w.cell? ⟨b, o, none⟩ = some v) : w.cell? ⟨b, o, none⟩ = some (cv w b o) := by unfold cv; rw [h]; rfl
theorem cv_new {w : World} {b o : Nat} (h : (w.cell? ⟨b, o, none⟩).isSome = true) : w.cell? ⟨b, o, none⟩ = some (cv w b o) := by
  obtain ⟨v, hv⟩ := Option.isSome_iff_exists.mp h
  exact cv_of hv

set_option maxHeartbeats 1000000 in
theorem read_any (x : BitVec 128) (f n : Int) (B1 B2 : Nat) (w : World) (h0 : 0 ≤ f) (h1 : f ≤ 128) (h2 : 0 ≤ n) (h3 : n ≤ 128) (c1 : w.cell? ⟨B1, 0, none⟩ = some (.int .i64 f)) (c2 : w.cell? ⟨B2, 0, none⟩ = some (.int .i64 n)) :
    Calls Tryz.prog 134 #[.agg #[.int .u64 (hI x), .int .u64 (lI x)], .pointer (some ⟨B1, 0, none⟩), .pointer (some ⟨B2, 0, none⟩)] w fun e w' => e = .returned (.agg #[.int .u64 (hI ((x <<< f.toNat) >>> (128 - n).toNat)), .int .u64 (lI ((x <<< f.toNat) >>> (128 - n).toNat))]) ∧ Below w.heap.size w w' := by
  have l1 := cell_in c1
  have l2 := cell_in c2
  have d1 : w.heap.size ≠ B1 := by omega
  have d2 : w.heap.size ≠ B2 := by omega
  have d3 : w.heap.size + 1 ≠ B1 := by omega
  have d4 : w.heap.size + 1 ≠ B2 := by omega
  have hw : IntKind.i64.wrap (128 - n) = 128 - n := by rw [IntKind.wrap_i64]; omega
  have hbl := fun o p => (bl2 w o p).drew
  go_enter Tryz.func134, Tryz.ntmps134
  go_wp2
  go_region_held3 (fun w' => w'.cell? ⟨w.heap.size, 0, none⟩ = some (.int .u64 (hI x)) ∧ w'.cell? ⟨w.heap.size, 1, none⟩ = some (.int .u64 (lI x)) ∧ w'.cell? ⟨B1, 0, none⟩ = some (.int .i64 f) ∧ w'.cell? ⟨B2, 0, none⟩ = some (.int .i64 n) ∧ w'.cell? ⟨w.heap.size + 1, 0, none⟩ = some (cv w' (w.heap.size + 1) 0) ∧ w'.cell? ⟨w.heap.size + 1, 1, none⟩ = some (cv w' (w.heap.size + 1) 1) ∧ w'.frozen? ⟨w.heap.size + 1, 0, none⟩ = false ∧ w'.frozen? ⟨w.heap.size + 1, 1, none⟩ = false ∧ Below w.heap.size w w')
    (first
      | (obtain ⟨k1, k2, k3, k4, k5, k6, k7, k8, k9⟩ := ‹_ ∧ _›; exact ⟨keepc hb2 k1, keepc hb2 k2, keepc hb2 k3, keepc hb2 k4, cv_of (keepc hb2 k5), cv_of (keepc hb2 k6), keepf hb2 k5 k7, keepf hb2 k6 k8, keepb hb2 k9⟩)
      | (obtain ⟨k1, k2, k3, k4, k5, k6, k7, k8, k9⟩ := ‹_ ∧ _›; exact ⟨keepc hb1 k1, keepc hb1 k2, keepc hb1 k3, keepc hb1 k4, cv_of (keepc hb1 k5), cv_of (keepc hb1 k6), keepf hb1 k5 k7, keepf hb1 k6 k8, keepb hb1 k9⟩)
      | (refine ⟨?_, ?_, ?_, ?_, cv_new ?_, cv_new ?_, ?_, ?_, ?_⟩ <;> first | (simp [go_sem, *]; done) | exact Below.setCell (Below.setCell (by simp [*]) (by simp) _) (by simp) _))
    (first | (go_at_call 135; refine (shl_any _ _ _).mono ?_; rintro e w1 ⟨rfl, hb1⟩) | (go_at_call 68; refine (shr_any _ _ _).mono ?_; rintro e w2 ⟨rfl, hb2⟩))
  obtain ⟨-, -, -, -, -, -, -, -, kB⟩ := ‹_ ∧ _›
  have e0 : w2.cell? ⟨w.heap.size + 1, 0, none⟩ = some (.int .u64 0) := keepc hb2 (keepc hb1 (by simp [go_sem]))
  have e1 : w2.cell? ⟨w.heap.size + 1, 1, none⟩ = some (.int .u64 0) := keepc hb2 (keepc hb1 (by simp [go_sem]))
  go_wp2
  exact bodyPost_ret (v := .agg #[.int .u64 (hI ((x <<< f.toNat) >>> (128 - n).toNat)), .int .u64 (lI ((x <<< f.toNat) >>> (128 - n).toNat))]) (by simp [results, Tryz.results134, go_sem, e0, e1]) rfl ⟨rfl, kB⟩

set_option maxHeartbeats 1000000 in
theorem field_in (x : BitVec 128) (f n : Int) (w : World) (h0 : 0 ≤ f) (h1 : f ≤ 128) (h2 : 0 ≤ n) (h3 : n ≤ 128 - f) :
    Calls Tryz.prog 105 #[.agg #[.int .u64 (hI x), .int .u64 (lI x)], .int .i64 f, .int .i64 n] w fun e w' => e = .returned (.tuple #[.agg #[.int .u64 (hI ((x <<< f.toNat) >>> (128 - n).toNat)), .int .u64 (lI ((x <<< f.toNat) >>> (128 - n).toNat))], .int .i64 0]) ∧ Below w.heap.size w w' := by
  go_enter Tryz.func105, Tryz.ntmps105
  go_wp2_with (first | (go_at_call 134; refine (read_any x f n _ _ _ h0 h1 h2 (by omega) ?c1 ?c2).mono ?_) | go_in)
  case c1 => simp [go_sem]
  case c2 => simp [go_sem]
  rintro e w1 ⟨rfl, hb1⟩
  have e0 : w1.cell? ⟨w.heap.size + 1, 0, none⟩ = some (.int .u64 0) := keepc hb1 (by simp [go_sem])
  have e1 : w1.cell? ⟨w.heap.size + 1, 1, none⟩ = some (.int .u64 0) := keepc hb1 (by simp [go_sem])
  have e2 : w1.frozen? ⟨w.heap.size + 1, 0, none⟩ = false := keepf hb1 (v := .int .u64 0) (by simp [go_sem]) (by simp [go_sem])
  have e3 : w1.frozen? ⟨w.heap.size + 1, 1, none⟩ = false := keepf hb1 (v := .int .u64 0) (by simp [go_sem]) (by simp [go_sem])
  have kB : Below w.heap.size w w1 := keepb hb1 (((bl2 _ _ _).alloc (by simp; omega) _).alloc (by simp; omega) _)
  clear hb1
  go_wp2
  exact bodyPost_ret (v := .tuple #[.agg #[.int .u64 (hI ((x <<< f.toNat) >>> (128 - n).toNat)), .int .u64 (lI ((x <<< f.toNat) >>> (128 - n).toNat))], .int .i64 0]) (by simp [results, Tryz.results105, go_sem, e0, e1]) rfl ⟨rfl, (kB.setCell (by simp) _).setCell (by simp) _⟩

end Go.Proofs.YtpiicdpipjjenaaGreatDoor
namespace Go.Proofs.YtpiicdpipjjenaaGreatDoor
open Go.RowKit
set_option linter.unusedSimpArgs false
set_option linter.unusedVariables false

theorem rand_any (x y : BitVec 128) (w : World) :
    Calls Tryz.prog 52 #[.agg #[.int .u64 (hI x), .int .u64 (lI x)], .agg #[.int .u64 (hI y), .int .u64 (lI y)]] w fun e w' => e = .returned (.agg #[.int .u64 (hI (x &&& y)), .int .u64 (lI (x &&& y))]) ∧ Below w.heap.size w w' := by
  go_enter Tryz.func52, Tryz.ntmps52
  go_wp2
  rw [and_h, and_l]
  exact bodyPost_ret (v := .agg #[.int .u64 (hI (x &&& y)), .int .u64 (lI (x &&& y))]) (by simp [results, Tryz.results52, go_sem]) rfl ⟨rfl, bl3 _ _ _ _⟩

theorem rnot_any (x : BitVec 128) (w : World) :
    Calls Tryz.prog 77 #[.agg #[.int .u64 (hI x), .int .u64 (lI x)]] w fun e w' => e = .returned (.agg #[.int .u64 (hI (~~~x)), .int .u64 (lI (~~~x))]) ∧ Below w.heap.size w w' := by
  have hs : ¬ IntKind.u64.signed = true := by decide
  go_enter Tryz.func77, Tryz.ntmps77
  go_wp2
  rw [not_h, not_l]
  exact bodyPost_ret (v := .agg #[.int .u64 (hI (~~~x)), .int .u64 (lI (~~~x))]) (by simp [results, Tryz.results77, go_sem]) rfl ⟨rfl, bl2 _ _ _⟩

theorem rshl_any (x : BitVec 128) (n : Int) (w : World) :
    Calls Tryz.prog 80 #[.agg #[.int .u64 (hI x), .int .u64 (lI x)], .int .i64 n] w fun e w' => e = .returned (.agg #[.int .u64 (hI (x <<< n.toNat)), .int .u64 (lI (x <<< n.toNat))]) ∧ Below w.heap.size w w' := by
  by_cases h0 : n ≤ 0
  · have e : x <<< n.toNat = x := by rw [Int.toNat_eq_zero.mpr h0]; simp
    rw [e]
    go_enter Tryz.func80, Tryz.ntmps80
    go_wp2
    exact bodyPost_ret (v := .agg #[.int .u64 (hI x), .int .u64 (lI x)]) (by simp [results, Tryz.results80, go_sem]) rfl ⟨rfl, bl2 _ _ _⟩
  by_cases h1 : 128 ≤ n
  · rw [shl_0 x n.toNat (by omega), hI_zero, lI_zero]
    go_enter Tryz.func80, Tryz.ntmps80
    go_wp2
    exact bodyPost_ret (v := .agg #[.int .u64 0, .int .u64 0]) (by simp [results, Tryz.results80, go_sem]) rfl ⟨rfl, bl2 _ _ _⟩
  by_cases h2 : 64 ≤ n
  · have e : (n - 64).toNat = n.toNat - 64 := by omega
    rw [← shl_h2 x n.toNat (by omega) (by omega), shl_l2 x n.toNat (by omega), ← e]
    clear e
    go_enter Tryz.func80, Tryz.ntmps80
    go_wp2
    exact bodyPost_ret (v := .agg #[.int .u64 (IntKind.u64.wrap (lI x * 2 ^ (n - 64).toNat)), .int .u64 0]) (by simp [results, Tryz.results80, go_sem]) rfl ⟨rfl, bl2 _ _ _⟩
  · have e : (64 - n).toNat = 64 - n.toNat := by omega
    rw [← shl_h x n.toNat (by omega), ← shl_l x n.toNat, ← e]
    clear e
    go_enter Tryz.func80, Tryz.ntmps80
    go_wp2
    go_region
    all_goals go_wp2
    all_goals exact bodyPost_ret (v := .agg #[.int .u64 (bits .or .u64 (IntKind.u64.wrap (hI x * 2 ^ n.toNat)) (lI x / 2 ^ (64 - n).toNat)), .int .u64 (IntKind.u64.wrap (lI x * 2 ^ n.toNat))]) (by simp [results, Tryz.results80, go_sem]) rfl ⟨rfl, (bl2 _ _ _).drew⟩

theorem rshr_any (x : BitVec 128) (n : Int) (w : World) :
    Calls Tryz.prog 79 #[.agg #[.int .u64 (hI x), .int .u64 (lI x)], .int .i64 n] w fun e w' => e = .returned (.agg #[.int .u64 (hI (x >>> n.toNat)), .int .u64 (lI (x >>> n.toNat))]) ∧ Below w.heap.size w w' := by
  by_cases h0 : n ≤ 0
  · have e : x >>> n.toNat = x := by rw [Int.toNat_eq_zero.mpr h0]; simp
    rw [e]
    go_enter Tryz.func79, Tryz.ntmps79
    go_wp2
    exact bodyPost_ret (v := .agg #[.int .u64 (hI x), .int .u64 (lI x)]) (by simp [results, Tryz.results79, go_sem]) rfl ⟨rfl, bl2 _ _ _⟩
  by_cases h1 : 128 ≤ n
  · rw [shr_0 x n.toNat (by omega), hI_zero, lI_zero]
    go_enter Tryz.func79, Tryz.ntmps79
    go_wp2
    exact bodyPost_ret (v := .agg #[.int .u64 0, .int .u64 0]) (by simp [results, Tryz.results79, go_sem]) rfl ⟨rfl, bl2 _ _ _⟩
  by_cases h2 : 64 ≤ n
  · have e : (n - 64).toNat = n.toNat - 64 := by omega
    rw [← shr_l2 x n.toNat (by omega), shr_h2 x n.toNat (by omega), ← e]
    clear e
    go_enter Tryz.func79, Tryz.ntmps79
    go_wp2
    exact bodyPost_ret (v := .agg #[.int .u64 0, .int .u64 (hI x / 2 ^ (n - 64).toNat)]) (by simp [results, Tryz.results79, go_sem]) rfl ⟨rfl, bl2 _ _ _⟩
  · have e : (64 - n).toNat = 64 - n.toNat := by omega
    rw [← shr_l x n.toNat (by omega), ← shr_h x n.toNat, ← e]
    clear e
    go_enter Tryz.func79, Tryz.ntmps79
    go_wp2
    go_region
    all_goals go_wp2
    all_goals exact bodyPost_ret (v := .agg #[.int .u64 (hI x / 2 ^ n.toNat), .int .u64 (bits .or .u64 (lI x / 2 ^ n.toNat) (IntKind.u64.wrap (hI x * 2 ^ (64 - n).toNat)))]) (by simp [results, Tryz.results79, go_sem]) rfl ⟨rfl, (bl2 _ _ _).drew⟩
end Go.Proofs.YtpiicdpipjjenaaGreatDoor
