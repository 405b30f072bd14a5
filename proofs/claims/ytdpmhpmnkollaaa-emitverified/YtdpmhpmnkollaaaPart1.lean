/-
  Part 1 of the proof: 11 texts, one behind the other.
-/
import Derived.WalkKit
import Derived.WalkSpells
import Derived.WalkLawsBesides
import Derived.Test.YtdpmhpmnkollaaaRows
import Derived.Deep.RegionHeld3
import Derived.Laws.AppendOwnNone
import Derived.Deep.LoopGhost
import Derived.Defers
import Derived.Recover
namespace Go.Proofs.Ytdpmhpmnkollaaa
open Go.RowKit
set_option linter.unusedSimpArgs false
set_option linter.unusedVariables false

def hv (x : BitVec 128) : BitVec 64 := x.extractLsb' 64 64
def lv (x : BitVec 128) : BitVec 64 := x.extractLsb' 0 64
def hI (x : BitVec 128) : Int := ((hv x).toNat : Int)
def lI (x : BitVec 128) : Int := ((lv x).toNat : Int)
def mkW (h l : Int) : BitVec 128 := (BitVec.ofInt 64 h) ++ (BitVec.ofInt 64 l)

theorem hv_mk (h l : Int) : hv (mkW h l) = BitVec.ofInt 64 h := by
  unfold hv mkW; exact BitVec.extractLsb'_append_eq_left
theorem lv_mk (h l : Int) : lv (mkW h l) = BitVec.ofInt 64 l := by
  unfold lv mkW; exact BitVec.extractLsb'_append_eq_right
theorem hI_mk (h l : Int) (h0 : 0 ≤ h) (h1 : h < 18446744073709551616) : hI (mkW h l) = h := by
  unfold hI; rw [hv_mk]; simp [BitVec.toNat_ofInt]; omega
theorem lI_mk (h l : Int) (h0 : 0 ≤ l) (h1 : l < 18446744073709551616) : lI (mkW h l) = l := by
  unfold lI; rw [lv_mk]; simp [BitVec.toNat_ofInt]; omega

theorem hv_bit (x : BitVec 128) (i : Nat) : (hv x).getLsbD i = (decide (i < 64) && x.getLsbD (64 + i)) := by
  unfold hv; simp
theorem lv_bit (x : BitVec 128) (i : Nat) : (lv x).getLsbD i = (decide (i < 64) && x.getLsbD i) := by
  unfold lv; simp

theorem eq_halves {x y : BitVec 128} (h : hv x = hv y) (l : lv x = lv y) : x = y := by
  apply BitVec.eq_of_getLsbD_eq
  intro i hi
  by_cases c : i < 64
  · have := congrArg (fun z => z.getLsbD i) l
    simpa only [lv_bit, c, decide_true, Bool.true_and] using this
  · have := congrArg (fun z => z.getLsbD (i - 64)) h
    have e : 64 + (i - 64) = i := by omega
    have d : i - 64 < 64 := by omega
    simpa only [hv_bit, e, d, decide_true, Bool.true_and] using this
theorem eq_ints {x y : BitVec 128} (h : hI x = hI y) (l : lI x = lI y) : x = y := by
  apply eq_halves
  · apply BitVec.eq_of_toNat_eq; unfold hI at h; omega
  · apply BitVec.eq_of_toNat_eq; unfold lI at l; omega
theorem beq_ints (x y : BitVec 128) : (hI x == hI y && lI x == lI y) = (x == y) := by
  rw [Bool.eq_iff_iff]; simp only [Bool.and_eq_true, beq_iff_eq]
  exact ⟨fun h => eq_ints h.1 h.2, fun h => by rw [h]; exact ⟨rfl, rfl⟩⟩
theorem wrap_nat (n : Nat) (h : n < 18446744073709551616) : IntKind.u64.wrap (n : Int) = (n : Int) := by
  simp [IntKind.wrap, IntKind.bits, IntKind.signed]; omega
theorem bits64and (a b c : BitVec 64) (h : c = a &&& b) : bits .and .u64 (a.toNat : Int) (b.toNat : Int) = (c.toNat : Int) := by
  subst h; unfold bits
  simp only [IntKind.bits, BitVec.ofInt_natCast, BitVec.ofNat_toNat, BitVec.setWidth_eq]
  rw [wrap_nat _ (BitVec.isLt _)]; rfl
theorem bits64or (a b c : BitVec 64) (h : c = a ||| b) : bits .or .u64 (a.toNat : Int) (b.toNat : Int) = (c.toNat : Int) := by
  subst h; unfold bits
  simp only [IntKind.bits, BitVec.ofInt_natCast, BitVec.ofNat_toNat, BitVec.setWidth_eq]
  rw [wrap_nat _ (BitVec.isLt _)]; rfl
theorem bits64xor (a b c : BitVec 64) (h : c = a ^^^ b) : bits .xor .u64 (a.toNat : Int) (b.toNat : Int) = (c.toNat : Int) := by
  subst h; unfold bits
  simp only [IntKind.bits, BitVec.ofInt_natCast, BitVec.ofNat_toNat, BitVec.setWidth_eq]
  rw [wrap_nat _ (BitVec.isLt _)]; rfl
theorem shl64 (a : BitVec 64) (n : Nat) : IntKind.u64.wrap ((a.toNat : Int) * 2 ^ n) = ((a <<< n).toNat : Int) := by
  simp [IntKind.wrap, IntKind.bits, IntKind.signed, BitVec.toNat_shiftLeft, Nat.shiftLeft_eq]
theorem shr64 (a : BitVec 64) (n : Nat) : (a.toNat : Int) / 2 ^ n = ((a >>> n).toNat : Int) := by
  simp [BitVec.toNat_ushiftRight, Nat.shiftRight_eq_div_pow]

theorem hv_and (x y : BitVec 128) : hv (x &&& y) = hv x &&& hv y := by apply BitVec.eq_of_getLsbD_eq; intro i hi; simp only [hv_bit, lv_bit, BitVec.getLsbD_and, BitVec.getLsbD_or, BitVec.getLsbD_xor, BitVec.getLsbD_not, BitVec.getLsbD_shiftLeft, BitVec.getLsbD_ushiftRight, BitVec.getLsbD_allOnes, BitVec.getLsbD_zero, hi, decide_true, Bool.true_and]
theorem lv_and (x y : BitVec 128) : lv (x &&& y) = lv x &&& lv y := by apply BitVec.eq_of_getLsbD_eq; intro i hi; simp only [hv_bit, lv_bit, BitVec.getLsbD_and, BitVec.getLsbD_or, BitVec.getLsbD_xor, BitVec.getLsbD_not, BitVec.getLsbD_shiftLeft, BitVec.getLsbD_ushiftRight, BitVec.getLsbD_allOnes, BitVec.getLsbD_zero, hi, decide_true, Bool.true_and]
theorem hv_not (x : BitVec 128) : hv (~~~x) = BitVec.allOnes 64 ^^^ hv x := by
  apply BitVec.eq_of_getLsbD_eq; intro i hi
  have : 64 + i < 128 := by omega
  simp only [hv_bit, lv_bit, BitVec.getLsbD_and, BitVec.getLsbD_or, BitVec.getLsbD_xor, BitVec.getLsbD_not, BitVec.getLsbD_shiftLeft, BitVec.getLsbD_ushiftRight, BitVec.getLsbD_allOnes, BitVec.getLsbD_zero, hi, this, decide_true, Bool.true_and, Bool.true_xor]
theorem lv_not (x : BitVec 128) : lv (~~~x) = BitVec.allOnes 64 ^^^ lv x := by
  apply BitVec.eq_of_getLsbD_eq; intro i hi
  have : i < 128 := by omega
  simp only [hv_bit, lv_bit, BitVec.getLsbD_and, BitVec.getLsbD_or, BitVec.getLsbD_xor, BitVec.getLsbD_not, BitVec.getLsbD_shiftLeft, BitVec.getLsbD_ushiftRight, BitVec.getLsbD_allOnes, BitVec.getLsbD_zero, hi, this, decide_true, Bool.true_and, Bool.true_xor]

theorem and_h (x y : BitVec 128) : bits .and .u64 (hI x) (hI y) = hI (x &&& y) := bits64and _ _ _ (hv_and x y)
theorem and_l (x y : BitVec 128) : bits .and .u64 (lI x) (lI y) = lI (x &&& y) := bits64and _ _ _ (lv_and x y)
theorem max64 : IntKind.u64.max = ((BitVec.allOnes 64).toNat : Int) := by decide
theorem not_h (x : BitVec 128) : bits .xor .u64 IntKind.u64.max (hI x) = hI (~~~x) := by
  rw [max64]; exact bits64xor _ _ _ (hv_not x)
theorem not_l (x : BitVec 128) : bits .xor .u64 IntKind.u64.max (lI x) = lI (~~~x) := by
  rw [max64]; exact bits64xor _ _ _ (lv_not x)

theorem shr_l (x : BitVec 128) (n : Nat) (h : n < 64) : bits .or .u64 (lI x / 2 ^ n) (IntKind.u64.wrap (hI x * 2 ^ (64 - n))) = lI (x >>> n) := by
  unfold hI lI
  rw [shl64, shr64]
  refine bits64or _ _ _ ?_
  apply BitVec.eq_of_getLsbD_eq; intro i hi
  by_cases c : i < 64 - n
  · have h3 : n + i < 64 := by omega
    simp only [hv_bit, lv_bit, BitVec.getLsbD_and, BitVec.getLsbD_or, BitVec.getLsbD_xor, BitVec.getLsbD_not, BitVec.getLsbD_shiftLeft, BitVec.getLsbD_ushiftRight, BitVec.getLsbD_allOnes, BitVec.getLsbD_zero, hi, h3, c, decide_true, decide_false, Bool.true_and, Bool.not_true, Bool.not_false, Bool.false_and, Bool.or_false]
  · have e : 64 + (i - (64 - n)) = n + i := by omega
    have h3 : ¬ n + i < 64 := by omega
    have h4 : i - (64 - n) < 64 := by omega
    simp only [hv_bit, lv_bit, BitVec.getLsbD_and, BitVec.getLsbD_or, BitVec.getLsbD_xor, BitVec.getLsbD_not, BitVec.getLsbD_shiftLeft, BitVec.getLsbD_ushiftRight, BitVec.getLsbD_allOnes, BitVec.getLsbD_zero, hi, h3, h4, e, c, decide_true, decide_false, Bool.true_and, Bool.not_true, Bool.not_false, Bool.false_and, Bool.false_or]
theorem shr_h (x : BitVec 128) (n : Nat) : hI x / 2 ^ n = hI (x >>> n) := by
  unfold hI
  rw [shr64]
  congr 2
  apply BitVec.eq_of_getLsbD_eq; intro i hi
  have e : n + (64 + i) = 64 + (n + i) := by omega
  by_cases c : n + i < 64
  · simp only [hv_bit, lv_bit, BitVec.getLsbD_and, BitVec.getLsbD_or, BitVec.getLsbD_xor, BitVec.getLsbD_not, BitVec.getLsbD_shiftLeft, BitVec.getLsbD_ushiftRight, BitVec.getLsbD_allOnes, BitVec.getLsbD_zero, hi, c, e, decide_true, Bool.true_and]
  · simp only [hv_bit, lv_bit, BitVec.getLsbD_and, BitVec.getLsbD_or, BitVec.getLsbD_xor, BitVec.getLsbD_not, BitVec.getLsbD_shiftLeft, BitVec.getLsbD_ushiftRight, BitVec.getLsbD_allOnes, BitVec.getLsbD_zero, hi, c, e, decide_true, decide_false, Bool.true_and, Bool.false_and]
    symm; apply BitVec.getLsbD_of_ge; omega
theorem shr_l2 (x : BitVec 128) (n : Nat) (h : 64 ≤ n) : hI x / 2 ^ (n - 64) = lI (x >>> n) := by
  unfold lI hI
  rw [shr64]
  congr 2
  apply BitVec.eq_of_getLsbD_eq; intro i hi
  have e : n + i = 64 + (n - 64 + i) := by omega
  by_cases c : n - 64 + i < 64
  · simp only [hv_bit, lv_bit, BitVec.getLsbD_and, BitVec.getLsbD_or, BitVec.getLsbD_xor, BitVec.getLsbD_not, BitVec.getLsbD_shiftLeft, BitVec.getLsbD_ushiftRight, BitVec.getLsbD_allOnes, BitVec.getLsbD_zero, hi, c, e, decide_true, Bool.true_and]
  · simp only [hv_bit, lv_bit, BitVec.getLsbD_and, BitVec.getLsbD_or, BitVec.getLsbD_xor, BitVec.getLsbD_not, BitVec.getLsbD_shiftLeft, BitVec.getLsbD_ushiftRight, BitVec.getLsbD_allOnes, BitVec.getLsbD_zero, hi, c, e, decide_true, decide_false, Bool.true_and, Bool.false_and]
    symm; apply BitVec.getLsbD_of_ge; omega
theorem shr_h2 (x : BitVec 128) (n : Nat) (h : 64 ≤ n) : hI (x >>> n) = 0 := by
  have : hv (x >>> n) = 0#64 := by
    apply BitVec.eq_of_getLsbD_eq; intro i hi
    simp only [hv_bit, lv_bit, BitVec.getLsbD_and, BitVec.getLsbD_or, BitVec.getLsbD_xor, BitVec.getLsbD_not, BitVec.getLsbD_shiftLeft, BitVec.getLsbD_ushiftRight, BitVec.getLsbD_allOnes, BitVec.getLsbD_zero, hi, decide_true, Bool.true_and]; apply BitVec.getLsbD_of_ge; omega
  unfold hI; rw [this]; rfl
theorem shr_0 (x : BitVec 128) (n : Nat) (h : 128 ≤ n) : x >>> n = 0#128 := by
  apply BitVec.eq_of_getLsbD_eq; intro i hi
  simp only [hv_bit, lv_bit, BitVec.getLsbD_and, BitVec.getLsbD_or, BitVec.getLsbD_xor, BitVec.getLsbD_not, BitVec.getLsbD_shiftLeft, BitVec.getLsbD_ushiftRight, BitVec.getLsbD_allOnes, BitVec.getLsbD_zero]; apply BitVec.getLsbD_of_ge; omega
theorem hI_zero : hI 0#128 = 0 := by decide
theorem lI_zero : lI 0#128 = 0 := by decide
end Go.Proofs.Ytdpmhpmnkollaaa
namespace Go.Proofs.Ytdpmhpmnkollaaa
open Go.RowKit
set_option linter.unusedSimpArgs false
set_option linter.unusedVariables false

theorem bl1 (w : World) (o : Obj) : Below w.heap.size w (w.alloc o) := (Below.refl _ _).alloc (Nat.le_refl _) _
theorem bl2 (w : World) (o p : Obj) : Below w.heap.size w ((w.alloc o).alloc p) := (bl1 w o).alloc (by simp) _
theorem bl3 (w : World) (o p q : Obj) : Below w.heap.size w (((w.alloc o).alloc p).alloc q) := (bl2 w o p).alloc (by simp; omega) _

theorem and_any (x y : BitVec 128) (w : World) :
    Calls Try.prog 112 #[.agg #[.int .u64 (hI x), .int .u64 (lI x)], .agg #[.int .u64 (hI y), .int .u64 (lI y)]] w fun e w' => e = .returned (.agg #[.int .u64 (hI (x &&& y)), .int .u64 (lI (x &&& y))]) ∧ Below w.heap.size w w' := by
  go_enter Try.func112, Try.ntmps112
  go_wp2
  rw [and_h, and_l]
  exact bodyPost_ret (v := .agg #[.int .u64 (hI (x &&& y)), .int .u64 (lI (x &&& y))]) (by simp [results, Try.results112, go_sem]) rfl ⟨rfl, bl3 _ _ _ _⟩

theorem not_any (x : BitVec 128) (w : World) :
    Calls Try.prog 126 #[.agg #[.int .u64 (hI x), .int .u64 (lI x)]] w fun e w' => e = .returned (.agg #[.int .u64 (hI (~~~x)), .int .u64 (lI (~~~x))]) ∧ Below w.heap.size w w' := by
  have hs : ¬ IntKind.u64.signed = true := by decide
  go_enter Try.func126, Try.ntmps126
  go_wp2
  rw [not_h, not_l]
  exact bodyPost_ret (v := .agg #[.int .u64 (hI (~~~x)), .int .u64 (lI (~~~x))]) (by simp [results, Try.results126, go_sem]) rfl ⟨rfl, bl2 _ _ _⟩

theorem shr_any (x : BitVec 128) (n : Int) (w : World) :
    Calls Try.prog 127 #[.agg #[.int .u64 (hI x), .int .u64 (lI x)], .int .i64 n] w fun e w' => e = .returned (.agg #[.int .u64 (hI (x >>> n.toNat)), .int .u64 (lI (x >>> n.toNat))]) ∧ Below w.heap.size w w' := by
  by_cases h0 : n ≤ 0
  · have e : x >>> n.toNat = x := by rw [Int.toNat_eq_zero.mpr h0]; simp
    rw [e]
    go_enter Try.func127, Try.ntmps127
    go_wp2
    exact bodyPost_ret (v := .agg #[.int .u64 (hI x), .int .u64 (lI x)]) (by simp [results, Try.results127, go_sem]) rfl ⟨rfl, bl2 _ _ _⟩
  by_cases h1 : 128 ≤ n
  · rw [shr_0 x n.toNat (by omega), hI_zero, lI_zero]
    go_enter Try.func127, Try.ntmps127
    go_wp2
    exact bodyPost_ret (v := .agg #[.int .u64 0, .int .u64 0]) (by simp [results, Try.results127, go_sem]) rfl ⟨rfl, bl2 _ _ _⟩
  by_cases h2 : 64 ≤ n
  · have e : (n - 64).toNat = n.toNat - 64 := by omega
    rw [← shr_l2 x n.toNat (by omega), shr_h2 x n.toNat (by omega), ← e]
    clear e
    go_enter Try.func127, Try.ntmps127
    go_wp2
    exact bodyPost_ret (v := .agg #[.int .u64 0, .int .u64 (hI x / 2 ^ (n - 64).toNat)]) (by simp [results, Try.results127, go_sem]) rfl ⟨rfl, bl2 _ _ _⟩
  · have e : (64 - n).toNat = 64 - n.toNat := by omega
    rw [← shr_l x n.toNat (by omega), ← shr_h x n.toNat, ← e]
    clear e
    go_enter Try.func127, Try.ntmps127
    go_wp2
    go_region
    all_goals go_wp2
    all_goals exact bodyPost_ret (v := .agg #[.int .u64 (hI x / 2 ^ n.toNat), .int .u64 (bits .or .u64 (lI x / 2 ^ n.toNat) (IntKind.u64.wrap (hI x * 2 ^ (64 - n).toNat)))]) (by simp [results, Try.results127, go_sem]) rfl ⟨rfl, (bl2 _ _ _).drew⟩
end Go.Proofs.Ytdpmhpmnkollaaa
namespace Go.Proofs.Ytdpmhpmnkollaaa
open Go.RowKit
set_option linter.unusedSimpArgs false
set_option linter.unusedVariables false

theorem hvN (x : BitVec 128) : (hv x).toNat = x.toNat / 18446744073709551616 := by
  unfold hv; rw [BitVec.extractLsb'_toNat, Nat.shiftRight_eq_div_pow]
  have := x.isLt; omega
theorem lvN (x : BitVec 128) : (lv x).toNat = x.toNat % 18446744073709551616 := by
  unfold lv; rw [BitVec.extractLsb'_toNat, Nat.shiftRight_eq_div_pow]
  simp
theorem hIN (x : BitVec 128) : hI x = ((x.toNat / 18446744073709551616 : Nat) : Int) := by unfold hI; rw [hvN]
theorem lIN (x : BitVec 128) : lI x = ((x.toNat % 18446744073709551616 : Nat) : Int) := by unfold lI; rw [lvN]

def cmpZ (x y : BitVec 128) : Int := if x.toNat < y.toNat then -1 else if x = y then 0 else 1

theorem ltN (x y : BitVec 128) : x.toNat < y.toNat ↔ hI x < hI y ∨ hI x = hI y ∧ lI x < lI y := by
  rw [hIN, hIN, lIN, lIN]
  have := x.isLt; have := y.isLt; omega
theorem cmp_ways (x y : BitVec 128) : (hI x < hI y ∧ cmpZ x y = -1) ∨ (hI x = hI y ∧ lI x < lI y ∧ cmpZ x y = -1) ∨ (x = y ∧ cmpZ x y = 0) ∨ (hI y < hI x ∧ cmpZ x y = 1) ∨ (hI x = hI y ∧ lI y < lI x ∧ cmpZ x y = 1) := by
  by_cases a : x.toNat < y.toNat
  · have c : cmpZ x y = -1 := by unfold cmpZ; rw [if_pos a]
    rcases (ltN x y).mp a with h | ⟨h, g⟩
    · exact Or.inl ⟨h, c⟩
    · exact Or.inr (Or.inl ⟨h, g, c⟩)
  · by_cases b : x = y
    · exact Or.inr (Or.inr (Or.inl ⟨b, by unfold cmpZ; rw [if_neg a, if_pos b]⟩))
    · have c : cmpZ x y = 1 := by unfold cmpZ; rw [if_neg a, if_neg b]
      have d : y.toNat < x.toNat := by
        have : x.toNat ≠ y.toNat := fun h => b (BitVec.eq_of_toNat_eq h)
        omega
      rcases (ltN y x).mp d with h | ⟨h, g⟩
      · exact Or.inr (Or.inr (Or.inr (Or.inl ⟨h, c⟩)))
      · exact Or.inr (Or.inr (Or.inr (Or.inr ⟨h.symm, g, c⟩)))
def bitB (x : BitVec 128) (i : Int) : Bool := decide (0 ≤ i) && x.getMsbD i.toNat
def bitZ (x : BitVec 128) (i : Int) : Int := if bitB x i then 1 else 0
def allW : BitVec 128 := ~~~(0#128)
def maskW (n : Int) : BitVec 128 := ~~~(allW >>> n.toNat)

theorem bitZ_out (x : BitVec 128) (i : Int) (h : i < 0 ∨ 127 < i) : bitZ x i = 0 := by
  unfold bitZ bitB
  rcases h with h | h
  · have : ¬ 0 ≤ i := by omega
    simp [this]
  · have : x.getMsbD i.toNat = false := by unfold BitVec.getMsbD; simp; omega
    simp [this]
theorem one64 : (1 : Int) = ((1#64).toNat : Int) := by decide
theorem and1 (a : BitVec 64) : bits .and .u64 (a.toNat : Int) 1 = if a.getLsbD 0 then 1 else 0 := by
  rw [one64, bits64and _ _ _ rfl]
  have : (a &&& 1#64) = if a.getLsbD 0 then 1#64 else 0#64 := by
    apply BitVec.eq_of_getLsbD_eq; intro i hi
    by_cases c : i = 0
    · subst c; cases h : a.getLsbD 0 <;> simp [← BitVec.getLsbD_eq_getElem, h]
    · cases h : a.getLsbD 0 <;> simp [h, c]
  rw [this]; split <;> rfl
theorem wrap64_ite (b : Bool) : wrap64 (if b then 1 else 0) = if b then 1 else 0 := by cases b <;> simp [wrap64]
theorem bitB_in (x : BitVec 128) (i : Int) (h : 0 ≤ i) (g : i ≤ 127) : bitB x i = x.getLsbD (127 - i).toNat := by
  unfold bitB BitVec.getMsbD
  have e : 128 - 1 - i.toNat = (127 - i).toNat := by omega
  have c : i.toNat < 128 := by omega
  simp only [h, c, e, decide_true, Bool.true_and]
theorem bit_hi (x : BitVec 128) (i : Int) (h : 0 ≤ i) (g : i < 64) : wrap64 (bits .and .u64 (hI x / 2 ^ (63 - i).toNat) 1) = bitZ x i := by
  unfold hI bitZ
  rw [shr64, and1, wrap64_ite, bitB_in x i h (by omega)]
  have e : 64 + (63 - i).toNat = (127 - i).toNat := by omega
  have c : (63 - i).toNat < 64 := by omega
  simp only [hv_bit, BitVec.getLsbD_ushiftRight, Nat.add_zero, e, c, decide_true, Bool.true_and]
theorem bit_lo (x : BitVec 128) (i : Int) (h : 64 ≤ i) (g : i ≤ 127) : wrap64 (bits .and .u64 (lI x / 2 ^ (127 - i).toNat) 1) = bitZ x i := by
  unfold lI bitZ
  rw [shr64, and1, wrap64_ite, bitB_in x i (by omega) g]
  have c : (127 - i).toNat < 64 := by omega
  simp only [lv_bit, BitVec.getLsbD_ushiftRight, Nat.add_zero, c, decide_true, Bool.true_and]

end Go.Proofs.Ytdpmhpmnkollaaa
namespace Go.Proofs.Ytdpmhpmnkollaaa
open Go.RowKit
set_option linter.unusedSimpArgs false
set_option linter.unusedVariables false

theorem bcell {W w1 : World} (hb : Below W.heap.size W w1) : (∀ b o, b < W.heap.size → w1.cell? ⟨b, o, none⟩ = W.cell? ⟨b, o, none⟩) ∧ (∀ b o, b < W.heap.size → w1.frozen? ⟨b, o, none⟩ = W.frozen? ⟨b, o, none⟩) :=
  ⟨fun b o h => hb.cell (p := ⟨b, o, none⟩) h, fun b o h => hb.frozen (p := ⟨b, o, none⟩) h⟩

theorem not0_any (w : World) :
    Calls Try.prog 126 #[.agg #[.int .u64 0, .int .u64 0]] w fun e w' => e = .returned (.agg #[.int .u64 (hI allW), .int .u64 (lI allW)]) ∧ Below w.heap.size w w' := by
  have h := not_any 0#128 w
  rw [hI_zero, lI_zero] at h
  exact h

set_option maxHeartbeats 400000 in
theorem mask_any (n : Int) (w : World) :
    Calls Try.prog 111 #[.int .i64 n] w fun e w' => e = .returned (.agg #[.int .u64 (hI (maskW n)), .int .u64 (lI (maskW n))]) ∧ Below w.heap.size w w' := by
  unfold maskW
  go_enter Try.func111, Try.ntmps111
  go_wp2_with fail
  refine (not0_any _).mono ?_
  rintro e w1 ⟨rfl, hb1⟩
  obtain ⟨hc1, hf1⟩ := bcell hb1
  have hz1 : w.heap.size < w1.heap.size := by have := hb1.size; simp at this; omega
  go_wp2_with fail
  refine (shr_any _ _ _).mono ?_
  rintro e w2 ⟨rfl, hb2⟩
  obtain ⟨hc2, hf2⟩ := bcell hb2
  have hz2 : w.heap.size < w2.heap.size := by have := hb2.size; omega
  go_wp2_with fail
  refine (not_any _ _).mono ?_
  rintro e w3 ⟨rfl, hb3⟩
  obtain ⟨hc3, hf3⟩ := bcell hb3
  have hz3 : w.heap.size < w3.heap.size := by have := hb3.size; omega
  go_wp2
  exact bodyPost_ret (v := .agg #[.int .u64 (hI (~~~(allW >>> n.toNat))), .int .u64 (lI (~~~(allW >>> n.toNat)))]) (by simp [results, Try.results111, go_sem, *]) rfl ⟨rfl, (((((bl1 _ _).trans (hb1.mono (by simp))).trans (hb2.mono (by omega))).trans (hb3.mono (by omega))).setCell (by simp) _).setCell (by simp) _⟩

set_option maxHeartbeats 400000 in
theorem cmp_any (x y : BitVec 128) (w : World) :
    Calls Try.prog 128 #[.agg #[.int .u64 (hI x), .int .u64 (lI x)], .agg #[.int .u64 (hI y), .int .u64 (lI y)]] w fun e w' => e = .returned (.int .i64 (cmpZ x y)) ∧ Below w.heap.size w w' := by
  rcases cmp_ways x y with ⟨h, c⟩ | ⟨h, g, c⟩ | ⟨h, c⟩ | ⟨h, c⟩ | ⟨h, g, c⟩
  · rw [c]; clear c
    have ne : ¬ hI x = hI y := by omega
    go_enter Try.func128, Try.ntmps128
    go_wp2
    go_ret
    exact ⟨rfl, bl2 _ _ _⟩
  · rw [c, h]; clear c h
    have ne : ¬ lI x = lI y := by omega
    go_enter Try.func128, Try.ntmps128
    go_wp2
    go_ret
    exact ⟨rfl, bl2 _ _ _⟩
  · rw [c]; clear c; subst h
    go_enter Try.func128, Try.ntmps128
    go_wp2
    go_ret
    exact ⟨rfl, bl2 _ _ _⟩
  · rw [c]; clear c
    have ne : ¬ hI x = hI y := by omega
    go_enter Try.func128, Try.ntmps128
    go_wp2
    go_ret
    exact ⟨rfl, bl2 _ _ _⟩
  · rw [c, h]; clear c h
    have ne : ¬ lI x = lI y := by omega
    go_enter Try.func128, Try.ntmps128
    go_wp2
    go_ret
    exact ⟨rfl, bl2 _ _ _⟩
end Go.Proofs.Ytdpmhpmnkollaaa
namespace Go.Proofs.Ytdpmhpmnkollaaa
open Go.RowKit
set_option linter.unusedSimpArgs false
set_option linter.unusedVariables false

theorem cell_in {W : World} {b o : Nat} {v : Value} (h : W.cell? ⟨b, o, none⟩ = some v) : b < W.heap.size := by
  apply Classical.byContradiction; intro hn
  have : W.heap[b]? = none := by simp; omega
  simp [World.cell?, this] at h
theorem keepc {W w' : World} (hb : Below W.heap.size W w') {b o : Nat} {v : Value} (h : W.cell? ⟨b, o, none⟩ = some v) : w'.cell? ⟨b, o, none⟩ = some v := by
  rw [(bcell hb).1 b o (cell_in h)]; exact h
theorem keepf {W w' : World} (hb : Below W.heap.size W w') {b o : Nat} {v : Value} (h : W.cell? ⟨b, o, none⟩ = some v) (hf : W.frozen? ⟨b, o, none⟩ = false) : w'.frozen? ⟨b, o, none⟩ = false := by
  rw [(bcell hb).2 b o (cell_in h)]; exact hf
theorem keepb {w W w' : World} (hb : Below W.heap.size W w') (h : Below w.heap.size w W) : Below w.heap.size w w' := h.trans (hb.mono h.size)

def cv (w : World) (b o : Nat) : Value := (w.cell? ⟨b, o, none⟩).getD (.bool false)
theorem cv_of {w : World} {b o : Nat} {v : Value} (h : w.cell? ⟨b, o, none⟩ = some v) : w.cell? ⟨b, o, none⟩ = some (cv w b o) := by unfold cv; rw [h]; rfl
theorem cv_new {w : World} {b o : Nat} (h : (w.cell? ⟨b, o, none⟩).isSome = true) : w.cell? ⟨b, o, none⟩ = some (cv w b o) := by
  obtain ⟨v, hv⟩ := Option.isSome_iff_exists.mp h
  exact cv_of hv

end Go.Proofs.Ytdpmhpmnkollaaa
namespace Go.Proofs.Ytdpmhpmnkollaaa
open Go.RowKit
set_option linter.unusedSimpArgs false
set_option linter.unusedVariables false

def Row (w : World) (size : Nat) (v : Value) (n : Nat) (xs : List Value) : Prop :=
  xs.length = n * size ∧ ∃ ao c, v = .slice ao n c ∧ n ≤ c ∧ ((ao = none ∧ c = 0 ∧ n = 0) ∨ ∃ b off, ao = some ⟨b, off, none⟩ ∧ ∀ j u, xs[j]? = some u → w.cell? ⟨b, off + j, none⟩ = some u)
theorem addA (g o j : Nat) : (⟨g, o, none⟩ : Addr).add j = ⟨g, o + j, none⟩ := by unfold Addr.add; split <;> simp_all
theorem Row.form {w : World} {size n : Nat} {v : Value} {xs : List Value} (h : Row w size v n xs) : ∃ ao c, v = .slice ao n c ∧ n ≤ c := by
  obtain ⟨-, ao, c, e, hc, -⟩ := h
  exact ⟨ao, c, e, hc⟩
theorem own_row {w : World} {base e size n : Nat} {v : Value} {xs : List Value} (h : w.ownsRow base e size v n xs) : Row w size v n xs := by
  refine ⟨h.1, ?_⟩
  rcases h.2 with ⟨e0, e1⟩ | ⟨g, cap, cur, e0, hb, hg, hnc, hm, hs, ht⟩
  · subst e1
    exact ⟨none, 0, e0, Nat.le_refl _, .inl ⟨rfl, rfl, rfl⟩⟩
  · refine ⟨some ⟨g, 0, none⟩, cap, e0, hnc, .inr ⟨g, 0, rfl, ?_⟩⟩
    intro j u hj
    have f := h.cells (g := g) (by rw [e0]; rfl) j u hj
    rw [addA, Nat.zero_add] at f
    rw [Nat.zero_add]
    exact f
theorem own_form {w : World} {base e size n : Nat} {v : Value} {xs : List Value} (h : w.ownsRow base e size v n xs) : ∃ ao c, v = .slice ao n c := by
  rcases h.2 with ⟨e, h⟩ | ⟨g, cap, cur, e, _⟩
  · exact ⟨none, 0, by rw [h]; exact e⟩
  · exact ⟨_, _, e⟩
theorem Row.below {w w' : World} {size n : Nat} {v : Value} {xs : List Value} (h : Row w size v n xs) (hb : Below w.heap.size w w') : Row w' size v n xs := by
  obtain ⟨hl, ao, c, e, hc, h⟩ := h
  refine ⟨hl, ao, c, e, hc, ?_⟩
  rcases h with h | ⟨b, off, e, h⟩
  · exact .inl h
  · exact .inr ⟨b, off, e, fun j u hj => keepc hb (h j u hj)⟩
end Go.Proofs.Ytdpmhpmnkollaaa
namespace Go.Proofs.Ytdpmhpmnkollaaa
open Go.RowKit
set_option linter.unusedSimpArgs false
set_option linter.unusedVariables false

theorem spot9 {W : World} {a : Addr} {u : Value} (h : W.cell? a = some u) : a = ⟨a.block, a.off, none⟩ := by
  obtain ⟨b, o, s⟩ := a
  cases s with
  | none => rfl
  | some z =>
    unfold World.cell? at h
    split at h
    · simp at h
    · cases h
def RowA (w : World) (size : Nat) (v : Value) (n : Nat) (xs : List Value) : Prop :=
  xs.length = n * size ∧ ∃ ao c, v = .slice ao n c ∧ n ≤ c ∧ ((ao = none ∧ c = 0 ∧ n = 0) ∨ ∃ a : Addr, ao = some a ∧ ∀ j u, xs[j]? = some u → w.cell? (a.add j) = some u)
theorem RowA.below {w w' : World} {size n : Nat} {v : Value} {xs : List Value} (h : RowA w size v n xs) (hb : Below w.heap.size w w') : RowA w' size v n xs := by
  obtain ⟨hl, ao, c, e, hc, h⟩ := h
  refine ⟨hl, ao, c, e, hc, ?_⟩
  rcases h with h | ⟨a, e, h⟩
  · exact .inl h
  · refine .inr ⟨a, e, fun j u hj => ?_⟩
    have f := h j u hj
    have sp := spot9 f
    rw [sp]
    rw [sp] at f
    exact keepc hb f
theorem wpList_append_rowA {P : Program} {w : World} {ops : Array Oper} {rest : List Oper} {o : Oper} {a : Act} {Q : Exit → Act → World → Prop} (hgd : o.guard = none) (s x : Operand) (t : TypeId)
    (ho : o.op = .call { callee := .builtin .append, args := #[s, x], argTypes := #[t, t] })
    (base : Nat) (e : TypeId) (i : TypeInfo) (z : Value) (size bytes : Nat) (ht : P.underlying t = some (.slice e)) (hi : P.info? e = some i) (hz : i.zero = some z)
    (hsize : i.size = size) (hby : i.bytes = bytes) (hzs : z.cells.size = size) (hsz : 0 < size)
    (v : Value) (n : Nat) (xs : List Value) (hs : a.eval s = v) (hown : w.ownsRow base e size v n xs)
    (vx : Value) (m : Nat) (news : List Value) (hx : a.eval x = vx) (hsrc : RowA w size vx m news) (h1 : ∀ y ∈ news, y.oneCell' = true)
    (h63 : n + m ≤ maxLen) (hbytes : (n + m) * bytes ≤ 140737488355328) (hbase : base ≤ w.heap.size)
    (h : ∀ ao cap w', w'.ownsRow base e size (.slice ao (n + m) cap) (n + m) (xs ++ news) → w.grownBy w' v.ownBlock → wpList P ops Q rest (a.put o.dst (.slice ao (n + m) cap)) w') : wpList P ops Q (o :: rest) a w := by
  obtain ⟨hl, xo, c, rfl, hcc, hsrc⟩ := hsrc
  rcases hsrc with ⟨rfl, rfl, rfl⟩ | ⟨ad, rfl, hc⟩
  · have : news = [] := List.eq_nil_of_length_eq_zero (by omega)
    subst this
    refine wpList_append_own_none hgd s x t ho base e i size ht hi v n xs hs hown hx ?_
    obtain ⟨ao, cp, hv⟩ := own_form hown
    have := h ao cp w (by rw [List.append_nil, Nat.add_zero, ← hv]; exact hown) ⟨rfl, rfl, rfl, Nat.le_refl _, fun _ _ _ => rfl⟩
    rw [Nat.add_zero, ← hv] at this
    exact this
  · refine wpList_append_own w hgd s x t ho base e i z size bytes ht hi hz hsize hby hzs hsz v n xs hs hown ad m c news hx hl hc h1 h63 hbytes hbase ?_
    intro v' w' h2 h3 _
    obtain ⟨ao, cp, hv⟩ := own_form h2
    rw [hv]
    rw [hv] at h2
    exact h ao cp w' h2 h3
theorem stopHere9 {P : Program} {w : World} {ops : Array Oper} {rest : List Oper} {a : Act} {Q : Exit → Act → World → Prop} {o : Oper} (h : Hid (wpList P ops Q (o :: rest) a w)) : wpList P ops Q (o :: rest) a w := h.out
end Go.Proofs.Ytdpmhpmnkollaaa
namespace Go.Proofs.Ytdpmhpmnkollaaa
open Go.RowKit
set_option linter.unusedSimpArgs false
set_option linter.unusedVariables false

def cM : BitVec 32 := 0x82F63B78#32
def hb (x : BitVec 32) : BitVec 32 := (x >>> 1) ^^^ (if x.getLsbD 0 then cM else 0#32)
def hbN : Nat → BitVec 32 → BitVec 32
  | 0, x => x
  | n + 1, x => hbN n (hb x)
theorem x4 (a b c d : BitVec 32) : (a ^^^ b) ^^^ (c ^^^ d) = (a ^^^ c) ^^^ (b ^^^ d) := by
  rw [BitVec.xor_assoc, BitVec.xor_assoc, ← BitVec.xor_assoc b c d, BitVec.xor_comm b c, BitVec.xor_assoc c b d]
def stp (c : BitVec 32) (b : Nat) : BitVec 32 := hbN 8 (c ^^^ BitVec.ofNat 32 b)
def crF (c : BitVec 32) (l : List Nat) : BitVec 32 := l.foldl stp c
def cOne : BitVec 32 := 0x80000000#32
end Go.Proofs.Ytdpmhpmnkollaaa
namespace Go.Proofs.Ytdpmhpmnkollaaa
open Go.RowKit
set_option linter.unusedSimpArgs false
set_option linter.unusedVariables false

theorem uI_ex (x : BitVec 32) : ∃ n : Int, n = (x.toNat : Int) := ⟨_, rfl⟩
noncomputable def uI (x : BitVec 32) : Int := Classical.choose (uI_ex x)
theorem uI_eq (x : BitVec 32) : uI x = (x.toNat : Int) := Classical.choose_spec (uI_ex x)
theorem uI_lo (x : BitVec 32) : 0 ≤ uI x := by rw [uI_eq]; omega
theorem uI_up (x : BitVec 32) : uI x < 4294967296 := by rw [uI_eq]; have := x.isLt; omega
theorem uI_inj {x y : BitVec 32} (h : uI x = uI y) : x = y := by
  rw [uI_eq, uI_eq] at h
  exact BitVec.eq_of_toNat_eq (by omega)
theorem uI_of (n : Nat) (h : n < 4294967296) : uI (BitVec.ofNat 32 n) = (n : Int) := by
  rw [uI_eq, BitVec.toNat_ofNat]
  have : (2 : Nat) ^ 32 = 4294967296 := by decide
  omega
theorem uI_zero : uI 0#32 = 0 := by rw [uI_eq]; rfl
theorem uI_is0 (x : BitVec 32) : (uI x = 0) ↔ x = 0#32 := ⟨fun h => uI_inj (h.trans uI_zero.symm), fun h => by rw [h, uI_zero]⟩
theorem wrap32n (n : Nat) (h : n < 4294967296) : IntKind.u32.wrap (n : Int) = (n : Int) := by
  simp [IntKind.wrap, IntKind.bits, IntKind.signed]; omega
theorem b32 (a b : BitVec 32) : BitVec.ofInt 32 (uI a) = a := by rw [uI_eq]; simp
theorem and32 (a b : BitVec 32) : bits .and .u32 (uI a) (uI b) = uI (a &&& b) := by
  unfold bits
  simp only [IntKind.bits]
  rw [b32 a a, b32 b b, wrap32n _ (BitVec.isLt _), uI_eq]; rfl
theorem or32 (a b : BitVec 32) : bits .or .u32 (uI a) (uI b) = uI (a ||| b) := by
  unfold bits
  simp only [IntKind.bits]
  rw [b32 a a, b32 b b, wrap32n _ (BitVec.isLt _), uI_eq]; rfl
theorem shr32 (a : BitVec 32) (n : Nat) : uI a / 2 ^ n = uI (a >>> n) := by
  rw [uI_eq, uI_eq, BitVec.toNat_ushiftRight, Nat.shiftRight_eq_div_pow]; simp
theorem shl32 (a : BitVec 32) (n : Nat) : uI a * 2 ^ n % 4294967296 = uI (a <<< n) := by
  rw [uI_eq, uI_eq, BitVec.toNat_shiftLeft, Nat.shiftLeft_eq]; simp
theorem lit32 (n : Nat) (h : n < 4294967296) : ((n : Nat) : Int) = uI (BitVec.ofNat 32 n) := (uI_of n h).symm
theorem odd32 (x : BitVec 32) : bits .and .u32 (uI x) 1 = if x.getLsbD 0 then 1 else 0 := by
  have e : (1 : Int) = uI 1#32 := lit32 1 (by decide)
  have h : bits .and .u32 (uI x) (uI 1#32) = if x.getLsbD 0 then 1 else 0 := by
    rw [and32]
    have h2 : x &&& 1#32 = if x.getLsbD 0 then 1#32 else 0#32 := by
      apply BitVec.eq_of_getLsbD_eq
      intro i hi
      rw [BitVec.getLsbD_and, BitVec.getLsbD_ofNat]
      by_cases c : i = 0
      · subst c; cases x.getLsbD 0 <;> simp
      · have : Nat.testBit 1 i = false := by
          cases hh : Nat.testBit 1 i with
          | false => rfl
          | true => exact absurd (Nat.testBit_one_eq_true_iff_self_eq_zero.mp hh) c
        rw [this]
        cases x.getLsbD 0
        · simp
        · simp only [if_true]; rw [BitVec.getLsbD_ofNat, this]; simp
    rw [h2]
    cases x.getLsbD 0
    · simp only [Bool.false_eq_true, if_false]; exact uI_zero
    · simp only [if_true]; exact e.symm
  rw [← e] at h
  exact h
end Go.Proofs.Ytdpmhpmnkollaaa
namespace Go.Proofs.Ytdpmhpmnkollaaa
open Go.RowKit
set_option linter.unusedSimpArgs false
set_option linter.unusedVariables false

theorem hid13 {p : Prop} (h : p) : Hid p := h
def cB (b : Nat) : Value := .int .u8 (b : Int)
noncomputable def cU (x : BitVec 32) : Value := .int .u32 (uI x)
def cI (n : Int) : Value := .int .i64 n
def RwX {α : Type} (f : α → Value) (w : World) (v : Value) (l : List α) : Prop :=
  ∃ ao c, v = .slice ao l.length c ∧ l.length ≤ c ∧ (l = [] ∨ ∃ b off, ao = some ⟨b, off, none⟩ ∧ ∀ j x, l[j]? = some x → w.cell? ⟨b, off + j, none⟩ = some (f x))
section
variable {α : Type} {f : α → Value} {w w' : World} {v : Value} {l : List α}
theorem RwX.below (h : RwX f w v l) (hb : Below w.heap.size w w') : RwX f w' v l := by
  obtain ⟨ao, c, e, hc, h⟩ := h
  refine ⟨ao, c, e, hc, ?_⟩
  rcases h with h | ⟨b, off, e, h⟩
  · exact .inl h
  · exact .inr ⟨b, off, e, fun j x hj => keepc hb (h j x hj)⟩
theorem own_rwx {base e : Nat} (h : w.ownsRow base e 1 v l.length (l.map f)) : RwX f w v l := by
  obtain ⟨-, ao, c, e, hc, h⟩ := own_row h
  refine ⟨ao, c, e, hc, ?_⟩
  rcases h with ⟨-, -, h⟩ | ⟨b, off, e, h⟩
  · exact .inl (List.eq_nil_of_length_eq_zero h)
  · exact .inr ⟨b, off, e, fun j x hj => h j _ (by rw [List.getElem?_map, hj]; rfl)⟩
end
end Go.Proofs.Ytdpmhpmnkollaaa
namespace Go.Proofs.Ytdpmhpmnkollaaa
open Go.RowKit
set_option linter.unusedSimpArgs false
set_option linter.unusedVariables false

theorem Try.infoU13 : (Try.prog.info? 96).map (fun i => (i.zero, i.size, i.bytes)) = some (some (.int .u32 0), 1, 4) := by kernel_rfl
theorem info13 {P : Program} {t : TypeId} {z : Value} {s b : Nat} (h : (P.info? t).map (fun i => (i.zero, i.size, i.bytes)) = some (some z, s, b)) : ∃ i, P.info? t = some i ∧ i.zero = some z ∧ i.size = s ∧ i.bytes = b := by
  cases hi : P.info? t with
  | none => rw [hi] at h; cases h
  | some i =>
    rw [hi] at h
    simp only [Option.map_some, Option.some.injEq, Prod.mk.injEq] at h
    exact ⟨i, rfl, h.1, h.2.1, h.2.2⟩
theorem own_b13 {base e size n : Nat} {v : Value} {xs : List Value} {W w' : World} (hb : Below W.heap.size W w') (h : W.ownsRow base e size v n xs) : w'.ownsRow base e size v n xs := by
  refine h.kept (row := none) ⟨hb.os, hb.tape, hb.output, hb.size, fun k hk _ => hb.block k hk⟩ ?_
  cases v.ownBlock with
  | none => exact Or.inl rfl
  | some a => exact Or.inr (by simp)
theorem news13 {W : World} {N : Nat} {v : Value} (h : W.cell? ⟨N, 0, none⟩ = some v) : ∀ j u, [v][j]? = some u → W.cell? ((⟨N, 0, none⟩ : Addr).add j) = some u := by
  intro j u hj
  rw [addA, Nat.zero_add]
  match j, hj with
  | 0, hj => simp at hj; subst hj; exact h
end Go.Proofs.Ytdpmhpmnkollaaa
