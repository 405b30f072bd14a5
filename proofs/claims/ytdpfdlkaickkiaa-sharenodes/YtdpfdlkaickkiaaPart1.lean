/-
  Part 1 of the proof: 19 texts, one behind the other.
-/
import Derived.WalkKit
import Derived.WalkSpells
import Derived.WalkLawsBesides
import Derived.Test.YtdpfdlkaickkiaaRows
import Derived.Deep.RegionHeld3
import Derived.BigQuiet
import Derived.WalkMore
import Derived.Deep.LoopGhost
import Derived.Laws.AppendOwnNone
namespace Go.Proofs.Ytdpfdlkaickkiaa
open Go.RowKit
set_option linter.unusedSimpArgs false
set_option linter.unusedVariables false

def hv (x : BitVec 128) : BitVec 64 := x.extractLsb' 64 64
def lv (x : BitVec 128) : BitVec 64 := x.extractLsb' 0 64
def hI (x : BitVec 128) : Int := ((hv x).toNat : Int)
def lI (x : BitVec 128) : Int := ((lv x).toNat : Int)
theorem hv_bit (x : BitVec 128) (i : Nat) : (hv x).getLsbD i = (decide (i < 64) && x.getLsbD (64 + i)) := by
  unfold hv; simp
theorem lv_bit (x : BitVec 128) (i : Nat) : (lv x).getLsbD i = (decide (i < 64) && x.getLsbD i) := by
  unfold lv; simp

theorem eq_halves {x y : BitVec 128} (h : hv x = hv y) (l : lv x = lv y) : x = y := by
  apply BitVec.eq_of_getLsbD_eq
  intro i hi
  by_cases c : i < 64
  · have := congrArg (fun z => z.getLsbD i) l
    simpa only [lv_bit, c, decide_true, Bool.true_and] using this
  · have := congrArg (fun z => z.getLsbD (i - 64)) h
    have e : 64 + (i - 64) = i := by omega
    have d : i - 64 < 64 := by omega
    simpa only [hv_bit, e, d, decide_true, Bool.true_and] using this
theorem eq_ints {x y : BitVec 128} (h : hI x = hI y) (l : lI x = lI y) : x = y := by
  apply eq_halves
  · apply BitVec.eq_of_toNat_eq; unfold hI at h; omega
  · apply BitVec.eq_of_toNat_eq; unfold lI at l; omega
theorem beq_ints (x y : BitVec 128) : (hI x == hI y && lI x == lI y) = (x == y) := by
  rw [Bool.eq_iff_iff]; simp only [Bool.and_eq_true, beq_iff_eq]
  exact ⟨fun h => eq_ints h.1 h.2, fun h => by rw [h]; exact ⟨rfl, rfl⟩⟩
theorem wrap_nat (n : Nat) (h : n < 18446744073709551616) : IntKind.u64.wrap (n : Int) = (n : Int) := by
  simp [IntKind.wrap, IntKind.bits, IntKind.signed]; omega
theorem bits64and (a b c : BitVec 64) (h : c = a &&& b) : bits .and .u64 (a.toNat : Int) (b.toNat : Int) = (c.toNat : Int) := by
  subst h; unfold bits
  simp only [IntKind.bits, BitVec.ofInt_natCast, BitVec.ofNat_toNat, BitVec.setWidth_eq]
  rw [wrap_nat _ (BitVec.isLt _)]; rfl
theorem bits64or (a b c : BitVec 64) (h : c = a ||| b) : bits .or .u64 (a.toNat : Int) (b.toNat : Int) = (c.toNat : Int) := by
  subst h; unfold bits
  simp only [IntKind.bits, BitVec.ofInt_natCast, BitVec.ofNat_toNat, BitVec.setWidth_eq]
  rw [wrap_nat _ (BitVec.isLt _)]; rfl
theorem bits64xor (a b c : BitVec 64) (h : c = a ^^^ b) : bits .xor .u64 (a.toNat : Int) (b.toNat : Int) = (c.toNat : Int) := by
  subst h; unfold bits
  simp only [IntKind.bits, BitVec.ofInt_natCast, BitVec.ofNat_toNat, BitVec.setWidth_eq]
  rw [wrap_nat _ (BitVec.isLt _)]; rfl
theorem shl64 (a : BitVec 64) (n : Nat) : IntKind.u64.wrap ((a.toNat : Int) * 2 ^ n) = ((a <<< n).toNat : Int) := by
  simp [IntKind.wrap, IntKind.bits, IntKind.signed, BitVec.toNat_shiftLeft, Nat.shiftLeft_eq]
theorem shr64 (a : BitVec 64) (n : Nat) : (a.toNat : Int) / 2 ^ n = ((a >>> n).toNat : Int) := by
  simp [BitVec.toNat_ushiftRight, Nat.shiftRight_eq_div_pow]

theorem hv_and (x y : BitVec 128) : hv (x &&& y) = hv x &&& hv y := by apply BitVec.eq_of_getLsbD_eq; intro i hi; simp only [hv_bit, lv_bit, BitVec.getLsbD_and, BitVec.getLsbD_or, BitVec.getLsbD_xor, BitVec.getLsbD_not, BitVec.getLsbD_shiftLeft, BitVec.getLsbD_ushiftRight, BitVec.getLsbD_allOnes, BitVec.getLsbD_zero, hi, decide_true, Bool.true_and]
theorem lv_and (x y : BitVec 128) : lv (x &&& y) = lv x &&& lv y := by apply BitVec.eq_of_getLsbD_eq; intro i hi; simp only [hv_bit, lv_bit, BitVec.getLsbD_and, BitVec.getLsbD_or, BitVec.getLsbD_xor, BitVec.getLsbD_not, BitVec.getLsbD_shiftLeft, BitVec.getLsbD_ushiftRight, BitVec.getLsbD_allOnes, BitVec.getLsbD_zero, hi, decide_true, Bool.true_and]
theorem hv_not (x : BitVec 128) : hv (~~~x) = BitVec.allOnes 64 ^^^ hv x := by
  apply BitVec.eq_of_getLsbD_eq; intro i hi
  have : 64 + i < 128 := by omega
  simp only [hv_bit, lv_bit, BitVec.getLsbD_and, BitVec.getLsbD_or, BitVec.getLsbD_xor, BitVec.getLsbD_not, BitVec.getLsbD_shiftLeft, BitVec.getLsbD_ushiftRight, BitVec.getLsbD_allOnes, BitVec.getLsbD_zero, hi, this, decide_true, Bool.true_and, Bool.true_xor]
theorem lv_not (x : BitVec 128) : lv (~~~x) = BitVec.allOnes 64 ^^^ lv x := by
  apply BitVec.eq_of_getLsbD_eq; intro i hi
  have : i < 128 := by omega
  simp only [hv_bit, lv_bit, BitVec.getLsbD_and, BitVec.getLsbD_or, BitVec.getLsbD_xor, BitVec.getLsbD_not, BitVec.getLsbD_shiftLeft, BitVec.getLsbD_ushiftRight, BitVec.getLsbD_allOnes, BitVec.getLsbD_zero, hi, this, decide_true, Bool.true_and, Bool.true_xor]

theorem and_h (x y : BitVec 128) : bits .and .u64 (hI x) (hI y) = hI (x &&& y) := bits64and _ _ _ (hv_and x y)
theorem and_l (x y : BitVec 128) : bits .and .u64 (lI x) (lI y) = lI (x &&& y) := bits64and _ _ _ (lv_and x y)
theorem max64 : IntKind.u64.max = ((BitVec.allOnes 64).toNat : Int) := by decide
theorem not_h (x : BitVec 128) : bits .xor .u64 IntKind.u64.max (hI x) = hI (~~~x) := by
  rw [max64]; exact bits64xor _ _ _ (hv_not x)
theorem not_l (x : BitVec 128) : bits .xor .u64 IntKind.u64.max (lI x) = lI (~~~x) := by
  rw [max64]; exact bits64xor _ _ _ (lv_not x)

theorem shr_l (x : BitVec 128) (n : Nat) (h : n < 64) : bits .or .u64 (lI x / 2 ^ n) (IntKind.u64.wrap (hI x * 2 ^ (64 - n))) = lI (x >>> n) := by
  unfold hI lI
  rw [shl64, shr64]
  refine bits64or _ _ _ ?_
  apply BitVec.eq_of_getLsbD_eq; intro i hi
  by_cases c : i < 64 - n
  · have h3 : n + i < 64 := by omega
    simp only [hv_bit, lv_bit, BitVec.getLsbD_and, BitVec.getLsbD_or, BitVec.getLsbD_xor, BitVec.getLsbD_not, BitVec.getLsbD_shiftLeft, BitVec.getLsbD_ushiftRight, BitVec.getLsbD_allOnes, BitVec.getLsbD_zero, hi, h3, c, decide_true, decide_false, Bool.true_and, Bool.not_true, Bool.not_false, Bool.false_and, Bool.or_false]
  · have e : 64 + (i - (64 - n)) = n + i := by omega
    have h3 : ¬ n + i < 64 := by omega
    have h4 : i - (64 - n) < 64 := by omega
    simp only [hv_bit, lv_bit, BitVec.getLsbD_and, BitVec.getLsbD_or, BitVec.getLsbD_xor, BitVec.getLsbD_not, BitVec.getLsbD_shiftLeft, BitVec.getLsbD_ushiftRight, BitVec.getLsbD_allOnes, BitVec.getLsbD_zero, hi, h3, h4, e, c, decide_true, decide_false, Bool.true_and, Bool.not_true, Bool.not_false, Bool.false_and, Bool.false_or]
theorem shr_h (x : BitVec 128) (n : Nat) : hI x / 2 ^ n = hI (x >>> n) := by
  unfold hI
  rw [shr64]
  congr 2
  apply BitVec.eq_of_getLsbD_eq; intro i hi
  have e : n + (64 + i) = 64 + (n + i) := by omega
  by_cases c : n + i < 64
  · simp only [hv_bit, lv_bit, BitVec.getLsbD_and, BitVec.getLsbD_or, BitVec.getLsbD_xor, BitVec.getLsbD_not, BitVec.getLsbD_shiftLeft, BitVec.getLsbD_ushiftRight, BitVec.getLsbD_allOnes, BitVec.getLsbD_zero, hi, c, e, decide_true, Bool.true_and]
  · simp only [hv_bit, lv_bit, BitVec.getLsbD_and, BitVec.getLsbD_or, BitVec.getLsbD_xor, BitVec.getLsbD_not, BitVec.getLsbD_shiftLeft, BitVec.getLsbD_ushiftRight, BitVec.getLsbD_allOnes, BitVec.getLsbD_zero, hi, c, e, decide_true, decide_false, Bool.true_and, Bool.false_and]
    symm; apply BitVec.getLsbD_of_ge; omega
theorem shr_l2 (x : BitVec 128) (n : Nat) (h : 64 ≤ n) : hI x / 2 ^ (n - 64) = lI (x >>> n) := by
  unfold lI hI
  rw [shr64]
  congr 2
  apply BitVec.eq_of_getLsbD_eq; intro i hi
  have e : n + i = 64 + (n - 64 + i) := by omega
  by_cases c : n - 64 + i < 64
  · simp only [hv_bit, lv_bit, BitVec.getLsbD_and, BitVec.getLsbD_or, BitVec.getLsbD_xor, BitVec.getLsbD_not, BitVec.getLsbD_shiftLeft, BitVec.getLsbD_ushiftRight, BitVec.getLsbD_allOnes, BitVec.getLsbD_zero, hi, c, e, decide_true, Bool.true_and]
  · simp only [hv_bit, lv_bit, BitVec.getLsbD_and, BitVec.getLsbD_or, BitVec.getLsbD_xor, BitVec.getLsbD_not, BitVec.getLsbD_shiftLeft, BitVec.getLsbD_ushiftRight, BitVec.getLsbD_allOnes, BitVec.getLsbD_zero, hi, c, e, decide_true, decide_false, Bool.true_and, Bool.false_and]
    symm; apply BitVec.getLsbD_of_ge; omega
theorem shr_h2 (x : BitVec 128) (n : Nat) (h : 64 ≤ n) : hI (x >>> n) = 0 := by
  have : hv (x >>> n) = 0#64 := by
    apply BitVec.eq_of_getLsbD_eq; intro i hi
    simp only [hv_bit, lv_bit, BitVec.getLsbD_and, BitVec.getLsbD_or, BitVec.getLsbD_xor, BitVec.getLsbD_not, BitVec.getLsbD_shiftLeft, BitVec.getLsbD_ushiftRight, BitVec.getLsbD_allOnes, BitVec.getLsbD_zero, hi, decide_true, Bool.true_and]; apply BitVec.getLsbD_of_ge; omega
  unfold hI; rw [this]; rfl
theorem shr_0 (x : BitVec 128) (n : Nat) (h : 128 ≤ n) : x >>> n = 0#128 := by
  apply BitVec.eq_of_getLsbD_eq; intro i hi
  simp only [hv_bit, lv_bit, BitVec.getLsbD_and, BitVec.getLsbD_or, BitVec.getLsbD_xor, BitVec.getLsbD_not, BitVec.getLsbD_shiftLeft, BitVec.getLsbD_ushiftRight, BitVec.getLsbD_allOnes, BitVec.getLsbD_zero]; apply BitVec.getLsbD_of_ge; omega
theorem hI_zero : hI 0#128 = 0 := by decide
theorem lI_zero : lI 0#128 = 0 := by decide
end Go.Proofs.Ytdpfdlkaickkiaa
namespace Go.Proofs.Ytdpfdlkaickkiaa
open Go.RowKit
set_option linter.unusedSimpArgs false
set_option linter.unusedVariables false

theorem bl1 (w : World) (o : Obj) : Below w.heap.size w (w.alloc o) := (Below.refl _ _).alloc (Nat.le_refl _) _
theorem bl2 (w : World) (o p : Obj) : Below w.heap.size w ((w.alloc o).alloc p) := (bl1 w o).alloc (by simp) _
theorem bl3 (w : World) (o p q : Obj) : Below w.heap.size w (((w.alloc o).alloc p).alloc q) := (bl2 w o p).alloc (by simp; omega) _

theorem and_any (x y : BitVec 128) (w : World) :
    Calls Try.prog 78 #[.agg #[.int .u64 (hI x), .int .u64 (lI x)], .agg #[.int .u64 (hI y), .int .u64 (lI y)]] w fun e w' => e = .returned (.agg #[.int .u64 (hI (x &&& y)), .int .u64 (lI (x &&& y))]) ∧ Below w.heap.size w w' := by
  go_enter Try.func78, Try.ntmps78
  go_wp2
  rw [and_h, and_l]
  exact bodyPost_ret (v := .agg #[.int .u64 (hI (x &&& y)), .int .u64 (lI (x &&& y))]) (by simp [results, Try.results78, go_sem]) rfl ⟨rfl, bl3 _ _ _ _⟩

theorem not_any (x : BitVec 128) (w : World) :
    Calls Try.prog 89 #[.agg #[.int .u64 (hI x), .int .u64 (lI x)]] w fun e w' => e = .returned (.agg #[.int .u64 (hI (~~~x)), .int .u64 (lI (~~~x))]) ∧ Below w.heap.size w w' := by
  have hs : ¬ IntKind.u64.signed = true := by decide
  go_enter Try.func89, Try.ntmps89
  go_wp2
  rw [not_h, not_l]
  exact bodyPost_ret (v := .agg #[.int .u64 (hI (~~~x)), .int .u64 (lI (~~~x))]) (by simp [results, Try.results89, go_sem]) rfl ⟨rfl, bl2 _ _ _⟩

theorem shr_any (x : BitVec 128) (n : Int) (w : World) :
    Calls Try.prog 90 #[.agg #[.int .u64 (hI x), .int .u64 (lI x)], .int .i64 n] w fun e w' => e = .returned (.agg #[.int .u64 (hI (x >>> n.toNat)), .int .u64 (lI (x >>> n.toNat))]) ∧ Below w.heap.size w w' := by
  by_cases h0 : n ≤ 0
  · have e : x >>> n.toNat = x := by rw [Int.toNat_eq_zero.mpr h0]; simp
    rw [e]
    go_enter Try.func90, Try.ntmps90
    go_wp2
    exact bodyPost_ret (v := .agg #[.int .u64 (hI x), .int .u64 (lI x)]) (by simp [results, Try.results90, go_sem]) rfl ⟨rfl, bl2 _ _ _⟩
  by_cases h1 : 128 ≤ n
  · rw [shr_0 x n.toNat (by omega), hI_zero, lI_zero]
    go_enter Try.func90, Try.ntmps90
    go_wp2
    exact bodyPost_ret (v := .agg #[.int .u64 0, .int .u64 0]) (by simp [results, Try.results90, go_sem]) rfl ⟨rfl, bl2 _ _ _⟩
  by_cases h2 : 64 ≤ n
  · have e : (n - 64).toNat = n.toNat - 64 := by omega
    rw [← shr_l2 x n.toNat (by omega), shr_h2 x n.toNat (by omega), ← e]
    clear e
    go_enter Try.func90, Try.ntmps90
    go_wp2
    exact bodyPost_ret (v := .agg #[.int .u64 0, .int .u64 (hI x / 2 ^ (n - 64).toNat)]) (by simp [results, Try.results90, go_sem]) rfl ⟨rfl, bl2 _ _ _⟩
  · have e : (64 - n).toNat = 64 - n.toNat := by omega
    rw [← shr_l x n.toNat (by omega), ← shr_h x n.toNat, ← e]
    clear e
    go_enter Try.func90, Try.ntmps90
    go_wp2
    go_region
    all_goals go_wp2
    all_goals exact bodyPost_ret (v := .agg #[.int .u64 (hI x / 2 ^ n.toNat), .int .u64 (bits .or .u64 (lI x / 2 ^ n.toNat) (IntKind.u64.wrap (hI x * 2 ^ (64 - n).toNat)))]) (by simp [results, Try.results90, go_sem]) rfl ⟨rfl, (bl2 _ _ _).drew⟩
end Go.Proofs.Ytdpfdlkaickkiaa
namespace Go.Proofs.Ytdpfdlkaickkiaa
open Go.RowKit
set_option linter.unusedSimpArgs false
set_option linter.unusedVariables false

theorem hvN (x : BitVec 128) : (hv x).toNat = x.toNat / 18446744073709551616 := by
  unfold hv; rw [BitVec.extractLsb'_toNat, Nat.shiftRight_eq_div_pow]
  have := x.isLt; omega
theorem lvN (x : BitVec 128) : (lv x).toNat = x.toNat % 18446744073709551616 := by
  unfold lv; rw [BitVec.extractLsb'_toNat, Nat.shiftRight_eq_div_pow]
  simp
theorem hIN (x : BitVec 128) : hI x = ((x.toNat / 18446744073709551616 : Nat) : Int) := by unfold hI; rw [hvN]
theorem lIN (x : BitVec 128) : lI x = ((x.toNat % 18446744073709551616 : Nat) : Int) := by unfold lI; rw [lvN]

def cmpZ (x y : BitVec 128) : Int := if x.toNat < y.toNat then -1 else if x = y then 0 else 1

theorem ltN (x y : BitVec 128) : x.toNat < y.toNat ↔ hI x < hI y ∨ hI x = hI y ∧ lI x < lI y := by
  rw [hIN, hIN, lIN, lIN]
  have := x.isLt; have := y.isLt; omega
theorem cmp_ways (x y : BitVec 128) : (hI x < hI y ∧ cmpZ x y = -1) ∨ (hI x = hI y ∧ lI x < lI y ∧ cmpZ x y = -1) ∨ (x = y ∧ cmpZ x y = 0) ∨ (hI y < hI x ∧ cmpZ x y = 1) ∨ (hI x = hI y ∧ lI y < lI x ∧ cmpZ x y = 1) := by
  by_cases a : x.toNat < y.toNat
  · have c : cmpZ x y = -1 := by unfold cmpZ; rw [if_pos a]
    rcases (ltN x y).mp a with h | ⟨h, g⟩
    · exact Or.inl ⟨h, c⟩
    · exact Or.inr (Or.inl ⟨h, g, c⟩)
  · by_cases b : x = y
    · exact Or.inr (Or.inr (Or.inl ⟨b, by unfold cmpZ; rw [if_neg a, if_pos b]⟩))
    · have c : cmpZ x y = 1 := by unfold cmpZ; rw [if_neg a, if_neg b]
      have d : y.toNat < x.toNat := by
        have : x.toNat ≠ y.toNat := fun h => b (BitVec.eq_of_toNat_eq h)
        omega
      rcases (ltN y x).mp d with h | ⟨h, g⟩
      · exact Or.inr (Or.inr (Or.inr (Or.inl ⟨h, c⟩)))
      · exact Or.inr (Or.inr (Or.inr (Or.inr ⟨h.symm, g, c⟩)))
def bitB (x : BitVec 128) (i : Int) : Bool := decide (0 ≤ i) && x.getMsbD i.toNat
def bitZ (x : BitVec 128) (i : Int) : Int := if bitB x i then 1 else 0
def allW : BitVec 128 := ~~~(0#128)
def maskW (n : Int) : BitVec 128 := ~~~(allW >>> n.toNat)

theorem bitZ_out (x : BitVec 128) (i : Int) (h : i < 0 ∨ 127 < i) : bitZ x i = 0 := by
  unfold bitZ bitB
  rcases h with h | h
  · have : ¬ 0 ≤ i := by omega
    simp [this]
  · have : x.getMsbD i.toNat = false := by unfold BitVec.getMsbD; simp; omega
    simp [this]
theorem one64 : (1 : Int) = ((1#64).toNat : Int) := by decide
theorem and1 (a : BitVec 64) : bits .and .u64 (a.toNat : Int) 1 = if a.getLsbD 0 then 1 else 0 := by
  rw [one64, bits64and _ _ _ rfl]
  have : (a &&& 1#64) = if a.getLsbD 0 then 1#64 else 0#64 := by
    apply BitVec.eq_of_getLsbD_eq; intro i hi
    by_cases c : i = 0
    · subst c; cases h : a.getLsbD 0 <;> simp [← BitVec.getLsbD_eq_getElem, h]
    · cases h : a.getLsbD 0 <;> simp [h, c]
  rw [this]; split <;> rfl
theorem wrap64_ite (b : Bool) : wrap64 (if b then 1 else 0) = if b then 1 else 0 := by cases b <;> simp [wrap64]
theorem bitB_in (x : BitVec 128) (i : Int) (h : 0 ≤ i) (g : i ≤ 127) : bitB x i = x.getLsbD (127 - i).toNat := by
  unfold bitB BitVec.getMsbD
  have e : 128 - 1 - i.toNat = (127 - i).toNat := by omega
  have c : i.toNat < 128 := by omega
  simp only [h, c, e, decide_true, Bool.true_and]
theorem bit_hi (x : BitVec 128) (i : Int) (h : 0 ≤ i) (g : i < 64) : wrap64 (bits .and .u64 (hI x / 2 ^ (63 - i).toNat) 1) = bitZ x i := by
  unfold hI bitZ
  rw [shr64, and1, wrap64_ite, bitB_in x i h (by omega)]
  have e : 64 + (63 - i).toNat = (127 - i).toNat := by omega
  have c : (63 - i).toNat < 64 := by omega
  simp only [hv_bit, BitVec.getLsbD_ushiftRight, Nat.add_zero, e, c, decide_true, Bool.true_and]
theorem bit_lo (x : BitVec 128) (i : Int) (h : 64 ≤ i) (g : i ≤ 127) : wrap64 (bits .and .u64 (lI x / 2 ^ (127 - i).toNat) 1) = bitZ x i := by
  unfold lI bitZ
  rw [shr64, and1, wrap64_ite, bitB_in x i (by omega) g]
  have c : (127 - i).toNat < 64 := by omega
  simp only [lv_bit, BitVec.getLsbD_ushiftRight, Nat.add_zero, c, decide_true, Bool.true_and]

end Go.Proofs.Ytdpfdlkaickkiaa
namespace Go.Proofs.Ytdpfdlkaickkiaa
open Go.RowKit
set_option linter.unusedSimpArgs false
set_option linter.unusedVariables false

theorem bcell {W w1 : World} (hb : Below W.heap.size W w1) : (∀ b o, b < W.heap.size → w1.cell? ⟨b, o, none⟩ = W.cell? ⟨b, o, none⟩) ∧ (∀ b o, b < W.heap.size → w1.frozen? ⟨b, o, none⟩ = W.frozen? ⟨b, o, none⟩) :=
  ⟨fun b o h => hb.cell (p := ⟨b, o, none⟩) h, fun b o h => hb.frozen (p := ⟨b, o, none⟩) h⟩

theorem not0_any (w : World) :
    Calls Try.prog 89 #[.agg #[.int .u64 0, .int .u64 0]] w fun e w' => e = .returned (.agg #[.int .u64 (hI allW), .int .u64 (lI allW)]) ∧ Below w.heap.size w w' := by
  have h := not_any 0#128 w
  rw [hI_zero, lI_zero] at h
  exact h

set_option maxHeartbeats 400000 in
theorem mask_any (n : Int) (w : World) :
    Calls Try.prog 77 #[.int .i64 n] w fun e w' => e = .returned (.agg #[.int .u64 (hI (maskW n)), .int .u64 (lI (maskW n))]) ∧ Below w.heap.size w w' := by
  unfold maskW
  go_enter Try.func77, Try.ntmps77
  go_wp2_with fail
  refine (not0_any _).mono ?_
  rintro e w1 ⟨rfl, hb1⟩
  obtain ⟨hc1, hf1⟩ := bcell hb1
  have hz1 : w.heap.size < w1.heap.size := by have := hb1.size; simp at this; omega
  go_wp2_with fail
  refine (shr_any _ _ _).mono ?_
  rintro e w2 ⟨rfl, hb2⟩
  obtain ⟨hc2, hf2⟩ := bcell hb2
  have hz2 : w.heap.size < w2.heap.size := by have := hb2.size; omega
  go_wp2_with fail
  refine (not_any _ _).mono ?_
  rintro e w3 ⟨rfl, hb3⟩
  obtain ⟨hc3, hf3⟩ := bcell hb3
  have hz3 : w.heap.size < w3.heap.size := by have := hb3.size; omega
  go_wp2
  exact bodyPost_ret (v := .agg #[.int .u64 (hI (~~~(allW >>> n.toNat))), .int .u64 (lI (~~~(allW >>> n.toNat)))]) (by simp [results, Try.results77, go_sem, *]) rfl ⟨rfl, (((((bl1 _ _).trans (hb1.mono (by simp))).trans (hb2.mono (by omega))).trans (hb3.mono (by omega))).setCell (by simp) _).setCell (by simp) _⟩

set_option maxHeartbeats 400000 in
theorem cmp_any (x y : BitVec 128) (w : World) :
    Calls Try.prog 91 #[.agg #[.int .u64 (hI x), .int .u64 (lI x)], .agg #[.int .u64 (hI y), .int .u64 (lI y)]] w fun e w' => e = .returned (.int .i64 (cmpZ x y)) ∧ Below w.heap.size w w' := by
  rcases cmp_ways x y with ⟨h, c⟩ | ⟨h, g, c⟩ | ⟨h, c⟩ | ⟨h, c⟩ | ⟨h, g, c⟩
  · rw [c]; clear c
    have ne : ¬ hI x = hI y := by omega
    go_enter Try.func91, Try.ntmps91
    go_wp2
    go_ret
    exact ⟨rfl, bl2 _ _ _⟩
  · rw [c, h]; clear c h
    have ne : ¬ lI x = lI y := by omega
    go_enter Try.func91, Try.ntmps91
    go_wp2
    go_ret
    exact ⟨rfl, bl2 _ _ _⟩
  · rw [c]; clear c; subst h
    go_enter Try.func91, Try.ntmps91
    go_wp2
    go_ret
    exact ⟨rfl, bl2 _ _ _⟩
  · rw [c]; clear c
    have ne : ¬ hI x = hI y := by omega
    go_enter Try.func91, Try.ntmps91
    go_wp2
    go_ret
    exact ⟨rfl, bl2 _ _ _⟩
  · rw [c, h]; clear c h
    have ne : ¬ lI x = lI y := by omega
    go_enter Try.func91, Try.ntmps91
    go_wp2
    go_ret
    exact ⟨rfl, bl2 _ _ _⟩
end Go.Proofs.Ytdpfdlkaickkiaa
namespace Go.Proofs.Ytdpfdlkaickkiaa
open Go.RowKit
set_option linter.unusedSimpArgs false
set_option linter.unusedVariables false

theorem cell_in {W : World} {b o : Nat} {v : Value} (h : W.cell? ⟨b, o, none⟩ = some v) : b < W.heap.size := by
  apply Classical.byContradiction; intro hn
  have : W.heap[b]? = none := by simp; omega
  simp [World.cell?, this] at h
theorem keepc {W w' : World} (hb : Below W.heap.size W w') {b o : Nat} {v : Value} (h : W.cell? ⟨b, o, none⟩ = some v) : w'.cell? ⟨b, o, none⟩ = some v := by
  rw [(bcell hb).1 b o (cell_in h)]; exact h
theorem keepf {W w' : World} (hb : Below W.heap.size W w') {b o : Nat} {v : Value} (h : W.cell? ⟨b, o, none⟩ = some v) (hf : W.frozen? ⟨b, o, none⟩ = false) : w'.frozen? ⟨b, o, none⟩ = false := by
  rw [(bcell hb).2 b o (cell_in h)]; exact hf
theorem keepb {w W w' : World} (hb : Below W.heap.size W w') (h : Below w.heap.size w W) : Below w.heap.size w w' := h.trans (hb.mono h.size)

def cv (w : World) (b o : Nat) : Value := (w.cell? ⟨b, o, none⟩).getD (.bool false)
theorem cv_of {w : World} {b o : Nat} {v : Value} (h : w.cell? ⟨b, o, none⟩ = some v) : w.cell? ⟨b, o, none⟩ = some (cv w b o) := by unfold cv; rw [h]; rfl
theorem cv_new {w : World} {b o : Nat} (h : (w.cell? ⟨b, o, none⟩).isSome = true) : w.cell? ⟨b, o, none⟩ = some (cv w b o) := by
  obtain ⟨v, hv⟩ := Option.isSome_iff_exists.mp h
  exact cv_of hv

end Go.Proofs.Ytdpfdlkaickkiaa
namespace Go.Proofs.Ytdpfdlkaickkiaa
open Go.RowKit
set_option linter.unusedSimpArgs false
set_option linter.unusedVariables false

end Go.Proofs.Ytdpfdlkaickkiaa
namespace Go.Proofs.Ytdpfdlkaickkiaa
open Go.RowKit
set_option linter.unusedSimpArgs false
set_option linter.unusedVariables false

set_option maxHeartbeats 400000 in
theorem rbit_any (x : BitVec 128) (i : Int) (w : World) :
    Calls Try.prog 88 #[.agg #[.int .u64 (hI x), .int .u64 (lI x)], .int .i64 i] w fun e w' => e = .returned (.int .i64 (bitZ x i)) ∧ Below w.heap.size w w' := by
  by_cases h0 : i < 0
  · rw [bitZ_out x i (Or.inl h0)]
    go_enter Try.func88, Try.ntmps88
    go_wp2
    go_ret
    exact ⟨rfl, bl1 _ _⟩
  by_cases h1 : 127 < i
  · rw [bitZ_out x i (Or.inr h1)]
    go_enter Try.func88, Try.ntmps88
    go_wp2
    go_ret
    exact ⟨rfl, bl1 _ _⟩
  by_cases h2 : i < 64
  · rw [← bit_hi x i (by omega) h2]
    go_enter Try.func88, Try.ntmps88
    go_wp2
    go_ret
    exact ⟨rfl, bl1 _ _⟩
  · rw [← bit_lo x i (by omega) (by omega)]
    go_enter Try.func88, Try.ntmps88
    go_wp2
    go_ret
    exact ⟨rfl, bl1 _ _⟩

def At (w : World) (B : Nat) (x : BitVec 128) : Prop := w.cell? ⟨B, 0, none⟩ = some (.int .u64 (hI x)) ∧ w.cell? ⟨B, 1, none⟩ = some (.int .u64 (lI x)) ∧ w.frozen? ⟨B, 0, none⟩ = false ∧ w.frozen? ⟨B, 1, none⟩ = false ∧ B < w.heap.size
theorem At.below {w w' : World} {B : Nat} {x : BitVec 128} (h : At w B x) (hb : Below w.heap.size w w') : At w' B x := by
  obtain ⟨h0, h1, h2, h3, h4⟩ := h
  obtain ⟨hc, hf⟩ := bcell hb
  exact ⟨by rw [hc _ _ h4]; exact h0, by rw [hc _ _ h4]; exact h1, by rw [hf _ _ h4]; exact h2, by rw [hf _ _ h4]; exact h3, Nat.lt_of_lt_of_le h4 hb.size⟩
theorem At.set {w : World} {B : Nat} {x : BitVec 128} (y : BitVec 128) (h : At w B x) : At ((w.setCell ⟨B, 0, none⟩ (.int .u64 (hI y))).setCell ⟨B, 1, none⟩ (.int .u64 (lI y))) B y := by
  obtain ⟨h0, h1, h2, h3, h4⟩ := h
  refine ⟨?_, ?_, ?_, ?_, ?_⟩ <;> simp [go_sem, *]

set_option maxHeartbeats 400000 in
theorem rcmp_any (x y : BitVec 128) (w : World) :
    Calls Try.prog 54 #[.agg #[.int .u64 (hI x), .int .u64 (lI x)], .agg #[.int .u64 (hI y), .int .u64 (lI y)]] w fun e w' => e = .returned (.int .i64 (cmpZ x y)) ∧ Below w.heap.size w w' := by
  rcases cmp_ways x y with ⟨h, c⟩ | ⟨h, g, c⟩ | ⟨h, c⟩ | ⟨h, c⟩ | ⟨h, g, c⟩
  · rw [c]; clear c
    go_enter Try.func54, Try.ntmps54
    go_wp2
    go_ret
    exact ⟨rfl, bl2 _ _ _⟩
  · rw [c, h]; clear c h
    go_enter Try.func54, Try.ntmps54
    go_wp2
    go_ret
    exact ⟨rfl, bl2 _ _ _⟩
  · rw [c]; clear c; subst h
    go_enter Try.func54, Try.ntmps54
    go_wp2
    go_ret
    exact ⟨rfl, bl2 _ _ _⟩
  · rw [c]; clear c
    have ne : ¬ hI x = hI y := by omega
    go_enter Try.func54, Try.ntmps54
    go_wp2
    go_ret
    exact ⟨rfl, bl2 _ _ _⟩
  · rw [c, h]; clear c h
    have ne : ¬ lI x = lI y := by omega
    go_enter Try.func54, Try.ntmps54
    go_wp2
    go_ret
    exact ⟨rfl, bl2 _ _ _⟩
end Go.Proofs.Ytdpfdlkaickkiaa
namespace Go.Proofs.Ytdpfdlkaickkiaa
open Go.RowKit
set_option linter.unusedSimpArgs false
set_option linter.unusedVariables false

end Go.Proofs.Ytdpfdlkaickkiaa
namespace Go.Proofs.Ytdpfdlkaickkiaa
open Go.RowKit
set_option linter.unusedSimpArgs false
set_option linter.unusedVariables false

end Go.Proofs.Ytdpfdlkaickkiaa
namespace Go.Proofs.Ytdpfdlkaickkiaa
open Go.RowKit
set_option linter.unusedSimpArgs false
set_option linter.unusedVariables false

theorem at_new (w : World) (B : Nat) (x : BitVec 128) (T : TypeId) (h : B = w.heap.size) : At (w.alloc (.cells #[.int .u64 (hI x), .int .u64 (lI x)] T)) B x := by
  subst h
  refine ⟨?_, ?_, ?_, ?_, ?_⟩ <;> simp [go_sem]

theorem bset2 {n C : Nat} {w W : World} (h : Below n w W) (hp : n ≤ C) (u v : Value) : Below n w ((W.setCell ⟨C, 0, none⟩ u).setCell ⟨C, 1, none⟩ v) := (h.setCell hp _).setCell hp _

end Go.Proofs.Ytdpfdlkaickkiaa
namespace Go.Proofs.Ytdpfdlkaickkiaa
open Go.RowKit
set_option linter.unusedSimpArgs false
set_option linter.unusedVariables false

def fam (F : Int) : Bool := decide (F = 32) || decide (F = 128)
theorem fam_ways (F : Int) (h : fam F = true) : F = 32 ∨ F = 128 := by unfold fam at h; simpa using h
theorem fam_no (F : Int) (h : fam F = false) : ¬ F = 32 ∧ ¬ F = 128 := by unfold fam at h; simpa using h
def lastV (F : Int) : BitVec 128 := if fam F = true then maskW F else 0#128
def lastE (F : Int) : Int := if fam F = true then 0 else 11
end Go.Proofs.Ytdpfdlkaickkiaa
namespace Go.Proofs.Ytdpfdlkaickkiaa
open Go.RowKit
set_option linter.unusedSimpArgs false
set_option linter.unusedVariables false

set_option maxHeartbeats 1000000 in
theorem alast_any (F : Int) (w : World) :
    Calls Try.prog 63 #[.int .i64 F] w fun e w' => e = .returned (.tuple #[.agg #[.int .u64 (hI (lastV F)), .int .u64 (lI (lastV F))], .int .i64 (lastE F)]) ∧ Below w.heap.size w w' := by
  unfold lastV lastE
  cases h : fam F
  · rw [if_neg (by simp), if_neg (by simp), hI_zero, lI_zero]
    obtain ⟨h1, h2⟩ := fam_no F h
    have b1 : (F != 32) = true := by simp [h1]
    have b2 : (F != 128) = true := by simp [h2]
    clear h
    go_enter Try.func63, Try.ntmps63
    go_wp2
    exact bodyPost_ret (v := .tuple #[.agg #[.int .u64 0, .int .u64 0], .int .i64 11]) (by simp [results, Try.results63, go_sem]) rfl ⟨rfl, bl1 _ _⟩
  · rw [if_pos rfl, if_pos rfl]
    rcases fam_ways F h with rfl | rfl
    all_goals
      clear h
      go_enter Try.func63, Try.ntmps63
      go_wp2_with fail
      refine (mask_any _ _).mono ?_
      rintro e w1 ⟨rfl, hb1⟩
      have hZ := (at_new w w.heap.size 0#128 44 rfl).below hb1
      have kB := keepb hb1 (bl1 w _)
      obtain ⟨z0, z1, z2, z3, z4⟩ := hZ
      clear hb1
      go_wp2
      exact bodyPost_ret (by simp [results, Try.results63, go_sem, *]) rfl ⟨rfl, bset2 kB (Nat.le_refl _) _ _⟩

end Go.Proofs.Ytdpfdlkaickkiaa
namespace Go.Proofs.Ytdpfdlkaickkiaa
open Go.RowKit
set_option linter.unusedSimpArgs false
set_option linter.unusedVariables false

def cutW (x : BitVec 128) (n : Int) : BitVec 128 := x &&& maskW n
def AtP (w : World) (B : Nat) (x : BitVec 128) (n : Int) : Prop := w.cell? ⟨B, 0, none⟩ = some (.int .u64 (hI x)) ∧ w.cell? ⟨B, 1, none⟩ = some (.int .u64 (lI x)) ∧ w.cell? ⟨B, 2, none⟩ = some (.int .i64 n) ∧ w.frozen? ⟨B, 0, none⟩ = false ∧ w.frozen? ⟨B, 1, none⟩ = false ∧ w.frozen? ⟨B, 2, none⟩ = false
theorem AtP.below {w w' : World} {B : Nat} {x : BitVec 128} {n : Int} (h : AtP w B x n) (hb : Below w.heap.size w w') : AtP w' B x n := by
  obtain ⟨h0, h1, h2, h3, h4, h5⟩ := h
  exact ⟨keepc hb h0, keepc hb h1, keepc hb h2, keepf hb h0 h3, keepf hb h1 h4, keepf hb h2 h5⟩
theorem atp_new (w : World) (B : Nat) (x : BitVec 128) (n : Int) (T : TypeId) (h : B = w.heap.size) : AtP (w.alloc (.cells #[.int .u64 (hI x), .int .u64 (lI x), .int .i64 n] T)) B x n := by
  subst h
  refine ⟨?_, ?_, ?_, ?_, ?_, ?_⟩ <;> simp [go_sem]
theorem bset3 {n C : Nat} {w W : World} (h : Below n w W) (hp : n ≤ C) (u v t : Value) : Below n w (((W.setCell ⟨C, 0, none⟩ u).setCell ⟨C, 1, none⟩ v).setCell ⟨C, 2, none⟩ t) := ((h.setCell hp _).setCell hp _).setCell hp _

set_option maxHeartbeats 1000000 in
theorem cut_any (x : BitVec 128) (n : Int) (w : World) :
    Calls Try.prog 64 #[.agg #[.int .u64 (hI x), .int .u64 (lI x)], .int .i64 n] w fun e w' => e = .returned (.agg #[.int .u64 (hI (cutW x n)), .int .u64 (lI (cutW x n)), .int .i64 n]) ∧ Below w.heap.size w w' := by
  have hbl := fun o p => (bl2 w o p).drew
  unfold cutW
  go_enter Try.func64, Try.ntmps64
  go_wp2
  go_region_held3 (fun w' => w'.cell? ⟨w.heap.size, 0, none⟩ = some (.int .u64 (hI x)) ∧ w'.cell? ⟨w.heap.size, 1, none⟩ = some (.int .u64 (lI x)) ∧ w'.cell? ⟨w.heap.size + 1, 0, none⟩ = some (cv w' (w.heap.size + 1) 0) ∧ w'.cell? ⟨w.heap.size + 1, 1, none⟩ = some (cv w' (w.heap.size + 1) 1) ∧ w'.cell? ⟨w.heap.size + 1, 2, none⟩ = some (cv w' (w.heap.size + 1) 2) ∧ w'.frozen? ⟨w.heap.size + 1, 0, none⟩ = false ∧ w'.frozen? ⟨w.heap.size + 1, 1, none⟩ = false ∧ w'.frozen? ⟨w.heap.size + 1, 2, none⟩ = false ∧ Below w.heap.size w w')
    (first
      | (obtain ⟨k1, k2, k3, k4, k5, k6, k7, k8, k9⟩ := ‹_ ∧ _›; exact ⟨keepc hb2 k1, keepc hb2 k2, cv_of (keepc hb2 k3), cv_of (keepc hb2 k4), cv_of (keepc hb2 k5), keepf hb2 k3 k6, keepf hb2 k4 k7, keepf hb2 k5 k8, keepb hb2 k9⟩)
      | (obtain ⟨k1, k2, k3, k4, k5, k6, k7, k8, k9⟩ := ‹_ ∧ _›; exact ⟨keepc hb1 k1, keepc hb1 k2, cv_of (keepc hb1 k3), cv_of (keepc hb1 k4), cv_of (keepc hb1 k5), keepf hb1 k3 k6, keepf hb1 k4 k7, keepf hb1 k5 k8, keepb hb1 k9⟩)
      | (refine ⟨?_, ?_, cv_new ?_, cv_new ?_, cv_new ?_, ?_, ?_, ?_, ?_⟩ <;> first | (simp [go_sem, *]; done) | exact bset3 (by simp [*]) (by simp) _ _ _))
    (first | (go_at_call 77; refine (mask_any _ _).mono ?_; rintro e w1 ⟨rfl, hb1⟩) | (go_at_call 78; refine (and_any _ _ _).mono ?_; rintro e w2 ⟨rfl, hb2⟩))
  obtain ⟨-, -, -, -, -, -, -, -, kB⟩ := ‹_ ∧ _›
  have e0 : w2.cell? ⟨w.heap.size + 1, 0, none⟩ = some (.int .u64 0) := keepc hb2 (keepc hb1 (by simp [go_sem]))
  have e1 : w2.cell? ⟨w.heap.size + 1, 1, none⟩ = some (.int .u64 0) := keepc hb2 (keepc hb1 (by simp [go_sem]))
  have e2 : w2.cell? ⟨w.heap.size + 1, 2, none⟩ = some (.int .i64 0) := keepc hb2 (keepc hb1 (by simp [go_sem]))
  go_wp2
  exact bodyPost_ret (v := .agg #[.int .u64 (hI (x &&& maskW n)), .int .u64 (lI (x &&& maskW n)), .int .i64 n]) (by simp [results, Try.results64, go_sem, e0, e1, e2]) rfl ⟨rfl, kB⟩

theorem eqw (c x : BitVec 128) : ((hI c == hI x) = true ∧ (lI c == lI x) = true ∧ (c == x) = true) ∨ ((hI c == hI x) = false ∧ (c == x) = false) ∨ ((hI c == hI x) = true ∧ (lI c == lI x) = false ∧ (c == x) = false) := by
  rw [← beq_ints c x]
  cases hI c == hI x <;> cases lI c == lI x <;> simp

end Go.Proofs.Ytdpfdlkaickkiaa
namespace Go.Proofs.Ytdpfdlkaickkiaa
open Go.RowKit
set_option linter.unusedSimpArgs false
set_option linter.unusedVariables false

theorem eqW_run (x y : BitVec 128) (w : World) :
    (Op.equalIn 10000 44 (.agg #[.int .u64 (hI x), .int .u64 (lI x)]) (.agg #[.int .u64 (hI y), .int .u64 (lI y)])).run Try.prog w = .ok (x == y) w := by
  rcases eqw x y with ⟨q1, q2, q3⟩ | ⟨q1, q3⟩ | ⟨q1, q2, q3⟩
  all_goals
    rw [q3]
    go_simp
    try simp [*]
end Go.Proofs.Ytdpfdlkaickkiaa
namespace Go.Proofs.Ytdpfdlkaickkiaa
open Go.RowKit
set_option linter.unusedSimpArgs false
set_option linter.unusedVariables false

def Row (w : World) (size : Nat) (v : Value) (n : Nat) (xs : List Value) : Prop :=
  xs.length = n * size ∧ ∃ ao c, v = .slice ao n c ∧ n ≤ c ∧ ((ao = none ∧ c = 0 ∧ n = 0) ∨ ∃ b off, ao = some ⟨b, off, none⟩ ∧ ∀ j u, xs[j]? = some u → w.cell? ⟨b, off + j, none⟩ = some u)
theorem addA (g o j : Nat) : (⟨g, o, none⟩ : Addr).add j = ⟨g, o + j, none⟩ := by unfold Addr.add; split <;> simp_all
theorem own_row {w : World} {base e size n : Nat} {v : Value} {xs : List Value} (h : w.ownsRow base e size v n xs) : Row w size v n xs := by
  refine ⟨h.1, ?_⟩
  rcases h.2 with ⟨e0, e1⟩ | ⟨g, cap, cur, e0, hb, hg, hnc, hm, hs, ht⟩
  · subst e1
    exact ⟨none, 0, e0, Nat.le_refl _, .inl ⟨rfl, rfl, rfl⟩⟩
  · refine ⟨some ⟨g, 0, none⟩, cap, e0, hnc, .inr ⟨g, 0, rfl, ?_⟩⟩
    intro j u hj
    have f := h.cells (g := g) (by rw [e0]; rfl) j u hj
    rw [addA, Nat.zero_add] at f
    rw [Nat.zero_add]
    exact f
theorem own_form {w : World} {base e size n : Nat} {v : Value} {xs : List Value} (h : w.ownsRow base e size v n xs) : ∃ ao c, v = .slice ao n c := by
  rcases h.2 with ⟨e, h⟩ | ⟨g, cap, cur, e, _⟩
  · exact ⟨none, 0, by rw [h]; exact e⟩
  · exact ⟨_, _, e⟩
theorem Row.below {w w' : World} {size n : Nat} {v : Value} {xs : List Value} (h : Row w size v n xs) (hb : Below w.heap.size w w') : Row w' size v n xs := by
  obtain ⟨hl, ao, c, e, hc, h⟩ := h
  refine ⟨hl, ao, c, e, hc, ?_⟩
  rcases h with h | ⟨b, off, e, h⟩
  · exact .inl h
  · exact .inr ⟨b, off, e, fun j u hj => keepc hb (h j u hj)⟩
end Go.Proofs.Ytdpfdlkaickkiaa
namespace Go.Proofs.Ytdpfdlkaickkiaa
open Go.RowKit
set_option linter.unusedSimpArgs false
set_option linter.unusedVariables false

theorem spot9 {W : World} {a : Addr} {u : Value} (h : W.cell? a = some u) : a = ⟨a.block, a.off, none⟩ := by
  obtain ⟨b, o, s⟩ := a
  cases s with
  | none => rfl
  | some z =>
    unfold World.cell? at h
    split at h
    · simp at h
    · cases h
def RowA (w : World) (size : Nat) (v : Value) (n : Nat) (xs : List Value) : Prop :=
  xs.length = n * size ∧ ∃ ao c, v = .slice ao n c ∧ n ≤ c ∧ ((ao = none ∧ c = 0 ∧ n = 0) ∨ ∃ a : Addr, ao = some a ∧ ∀ j u, xs[j]? = some u → w.cell? (a.add j) = some u)
theorem RowA.below {w w' : World} {size n : Nat} {v : Value} {xs : List Value} (h : RowA w size v n xs) (hb : Below w.heap.size w w') : RowA w' size v n xs := by
  obtain ⟨hl, ao, c, e, hc, h⟩ := h
  refine ⟨hl, ao, c, e, hc, ?_⟩
  rcases h with h | ⟨a, e, h⟩
  · exact .inl h
  · refine .inr ⟨a, e, fun j u hj => ?_⟩
    have f := h j u hj
    have sp := spot9 f
    rw [sp]
    rw [sp] at f
    exact keepc hb f
theorem stopHere9 {P : Program} {w : World} {ops : Array Oper} {rest : List Oper} {a : Act} {Q : Exit → Act → World → Prop} {o : Oper} (h : Hid (wpList P ops Q (o :: rest) a w)) : wpList P ops Q (o :: rest) a w := h.out
end Go.Proofs.Ytdpfdlkaickkiaa
namespace Go.Proofs.Ytdpfdlkaickkiaa
open Go.RowKit
set_option linter.unusedSimpArgs false
set_option linter.unusedVariables false

def cM : BitVec 32 := 0x82F63B78#32
def hb (x : BitVec 32) : BitVec 32 := (x >>> 1) ^^^ (if x.getLsbD 0 then cM else 0#32)
def hbN : Nat → BitVec 32 → BitVec 32
  | 0, x => x
  | n + 1, x => hbN n (hb x)
def stp (c : BitVec 32) (b : Nat) : BitVec 32 := hbN 8 (c ^^^ BitVec.ofNat 32 b)
def crF (c : BitVec 32) (l : List Nat) : BitVec 32 := l.foldl stp c
def cOne : BitVec 32 := 0x80000000#32
end Go.Proofs.Ytdpfdlkaickkiaa
namespace Go.Proofs.Ytdpfdlkaickkiaa
open Go.RowKit
set_option linter.unusedSimpArgs false
set_option linter.unusedVariables false

theorem uI_ex (x : BitVec 32) : ∃ n : Int, n = (x.toNat : Int) := ⟨_, rfl⟩
noncomputable def uI (x : BitVec 32) : Int := Classical.choose (uI_ex x)
end Go.Proofs.Ytdpfdlkaickkiaa
namespace Go.Proofs.Ytdpfdlkaickkiaa
open Go.RowKit
set_option linter.unusedSimpArgs false
set_option linter.unusedVariables false

theorem hid13 {p : Prop} (h : p) : Hid p := h
def cB (b : Nat) : Value := .int .u8 (b : Int)
noncomputable def cU (x : BitVec 32) : Value := .int .u32 (uI x)
def cI (n : Int) : Value := .int .i64 n
def RwX {α : Type} (f : α → Value) (w : World) (v : Value) (l : List α) : Prop :=
  ∃ ao c, v = .slice ao l.length c ∧ l.length ≤ c ∧ (l = [] ∨ ∃ b off, ao = some ⟨b, off, none⟩ ∧ ∀ j x, l[j]? = some x → w.cell? ⟨b, off + j, none⟩ = some (f x))
section
variable {α : Type} {f : α → Value} {w w' : World} {v : Value} {l : List α}
theorem RwX.below (h : RwX f w v l) (hb : Below w.heap.size w w') : RwX f w' v l := by
  obtain ⟨ao, c, e, hc, h⟩ := h
  refine ⟨ao, c, e, hc, ?_⟩
  rcases h with h | ⟨b, off, e, h⟩
  · exact .inl h
  · exact .inr ⟨b, off, e, fun j x hj => keepc hb (h j x hj)⟩
theorem own_rwx {base e : Nat} (h : w.ownsRow base e 1 v l.length (l.map f)) : RwX f w v l := by
  obtain ⟨-, ao, c, e, hc, h⟩ := own_row h
  refine ⟨ao, c, e, hc, ?_⟩
  rcases h with ⟨-, -, h⟩ | ⟨b, off, e, h⟩
  · exact .inl (List.eq_nil_of_length_eq_zero h)
  · exact .inr ⟨b, off, e, fun j x hj => h j _ (by rw [List.getElem?_map, hj]; rfl)⟩
end
end Go.Proofs.Ytdpfdlkaickkiaa
