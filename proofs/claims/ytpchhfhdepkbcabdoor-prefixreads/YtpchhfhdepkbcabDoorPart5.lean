/-
  Part 5 of the proof: 7 texts, one behind the other.
-/
import Derived.Test.YtpchhfhdepkbcabDoorPart1
import Derived.Test.YtpchhfhdepkbcabDoorPart2
import Derived.Deep.RegionHeld3
import Derived.Deep.QuietTactic
import Derived.BigQuiet
import Derived.Test.YtpchhfhdepkbcabDoorPart4
import Derived.Laws.AppendOwnNone
/-
  Plain facts on addresses: families, the last address, the step from one to the next. Nothing of the program is imported here.
-/
namespace Go.Proofs.YtpchhfhdepkbcabDoor
open Go.RowKit
set_option linter.unusedSimpArgs false
set_option linter.unusedVariables false

def fam (F : Int) : Bool := decide (F = 32) || decide (F = 128)
theorem fam_ways (F : Int) (h : fam F = true) : F = 32 ∨ F = 128 := by unfold fam at h; simpa using h
theorem fam_no (F : Int) (h : fam F = false) : ¬ F = 32 ∧ ¬ F = 128 := by unfold fam at h; simpa using h
/-- The step from an address to the next one. -/
def stepW (F : Int) : BitVec 128 := mkW 0 1 <<< (128 - F).toNat
def lastV (F : Int) : BitVec 128 := if fam F = true then maskW F else 0#128
def lastE (F : Int) : Int := if fam F = true then 0 else 11
def rightE (F : Int) (x : BitVec 128) : Int := if fam F = true then (if x &&& maskW F = x then 0 else 6) else 11
def nextB (F : Int) (x : BitVec 128) : Bool := decide (rightE F x = 0) && !overB x (stepW F)
def nextV (F : Int) (x : BitVec 128) : BitVec 128 := if nextB F x = true then x + stepW F else 0#128
def prevB (F : Int) (x : BitVec 128) : Bool := decide (rightE F x = 0) && !underB x (stepW F)
def prevV (F : Int) (x : BitVec 128) : BitVec 128 := if prevB F x = true then x - stepW F else 0#128

theorem mk01 : mkW 0 1 = 1#128 := by decide +kernel
theorem right0 (F : Int) (x : BitVec 128) (h : rightE F x = 0) : fam F = true ∧ x &&& maskW F = x := by
  unfold rightE at h
  split at h
  · split at h
    · exact ⟨‹_›, ‹_›⟩
    · omega
  · omega
theorem put_step (F : Int) (h : fam F = true) : putW 0#128 (F - 1) 1 = stepW F := by
  rcases fam_ways F h with rfl | rfl <;> decide +kernel
theorem and_not_mask (F : Int) (x : BitVec 128) : (x &&& ~~~(maskW F) = 0#128) ↔ x &&& maskW F = x := by
  constructor
  · intro h
    apply BitVec.eq_of_getLsbD_eq; intro i hi
    have := congrArg (fun z => z.getLsbD i) h
    simp only [BitVec.getLsbD_and, BitVec.getLsbD_not, BitVec.getLsbD_zero, hi, decide_true, Bool.true_and] at this ⊢
    cases hx : x.getLsbD i <;> cases hm : (maskW F).getLsbD i <;> rw [hx, hm] at this <;> simp at this ⊢
  · intro h
    apply BitVec.eq_of_getLsbD_eq; intro i hi
    have := congrArg (fun z => z.getLsbD i) h
    simp only [BitVec.getLsbD_and, BitVec.getLsbD_not, BitVec.getLsbD_zero, hi, decide_true, Bool.true_and] at this ⊢
    cases hx : x.getLsbD i <;> cases hm : (maskW F).getLsbD i <;> rw [hx, hm] at this <;> simp at this ⊢
theorem mask128 : maskW 128 = BitVec.allOnes 128 := by decide +kernel
theorem mask32 : maskW 32 = (BitVec.allOnes 128 >>> 96) <<< 96 := by decide +kernel
theorem low96 (x : BitVec 128) (h : x &&& maskW 32 = x) : x.toNat = 79228162514264337593543950336 * (x.toNat / 79228162514264337593543950336) := by
  have e : x = (x >>> 96) <<< 96 := by
    apply BitVec.eq_of_getLsbD_eq; intro i hi
    have q := congrArg (fun z => z.getLsbD i) h
    rw [mask32] at q
    simp only [BitVec.getLsbD_and, BitVec.getLsbD_shiftLeft, BitVec.getLsbD_ushiftRight, BitVec.getLsbD_allOnes, hi, decide_true, Bool.true_and] at q ⊢
    by_cases c : i < 96
    · simp only [c, decide_true, Bool.not_true, Bool.false_and, Bool.and_false] at q ⊢
      exact q.symm
    · have e : 96 + (i - 96) = i := by omega
      simp only [c, decide_false, Bool.not_false, Bool.true_and, e]
  have f := congrArg BitVec.toNat e
  rw [BitVec.toNat_shiftLeft, BitVec.toNat_ushiftRight, Nat.shiftLeft_eq, Nat.shiftRight_eq_div_pow] at f
  have := x.isLt
  have g : x.toNat / 2 ^ 96 * 2 ^ 96 ≤ x.toNat := Nat.div_mul_le_self _ _
  omega
theorem over_step (F : Int) (x : BitVec 128) (hf : fam F = true) (h : x &&& maskW F = x) : overB x (stepW F) = decide (x = maskW F) := by
  rw [Bool.eq_iff_iff]
  unfold overB
  simp only [decide_eq_true_eq]
  have hx := x.isLt
  rcases fam_ways F hf with rfl | rfl
  · have e1 : (stepW 32).toNat = 79228162514264337593543950336 := by decide +kernel
    have e2 : (maskW 32).toNat = 4294967295 * 79228162514264337593543950336 := by decide +kernel
    have e3 := low96 x h
    rw [e1]
    constructor
    · intro q
      apply BitVec.eq_of_toNat_eq
      omega
    · intro q
      rw [q, e2]; omega
  · have e1 : (stepW 128).toNat = 1 := by decide +kernel
    have e2 : (maskW 128).toNat = 340282366920938463463374607431768211455 := by decide +kernel
    rw [e1]
    constructor
    · intro q
      apply BitVec.eq_of_toNat_eq
      omega
    · intro q
      rw [q, e2]; omega
theorem under_step (F : Int) (x : BitVec 128) (hf : fam F = true) (h : x &&& maskW F = x) : underB x (stepW F) = decide (x = 0#128) := by
  rw [Bool.eq_iff_iff]
  unfold underB
  simp only [decide_eq_true_eq]
  have hx := x.isLt
  have e0 : (0#128).toNat = 0 := rfl
  rcases fam_ways F hf with rfl | rfl
  · have e1 : (stepW 32).toNat = 79228162514264337593543950336 := by decide +kernel
    have e3 := low96 x h
    rw [e1]
    constructor
    · intro q
      apply BitVec.eq_of_toNat_eq
      omega
    · intro q
      rw [q]; omega
  · have e1 : (stepW 128).toNat = 1 := by decide +kernel
    rw [e1]
    constructor
    · intro q
      apply BitVec.eq_of_toNat_eq
      omega
    · intro q
      rw [q]; omega
end Go.Proofs.YtpchhfhdepkbcabDoor
/-
  What the calls of package addr's Last, Right, step, Next and Prev do.
-/
namespace Go.Proofs.YtpchhfhdepkbcabDoor
open Go.RowKit
set_option linter.unusedSimpArgs false
set_option linter.unusedVariables false

set_option maxHeartbeats 1000000 in
theorem alast_any (F : Int) (w : World) :
    Calls Tryd.prog 58 #[.int .i64 F] w fun e w' => e = .returned (.tuple #[.agg #[.int .u64 (hI (lastV F)), .int .u64 (lI (lastV F))], .int .i64 (lastE F)]) ∧ Below w.heap.size w w' := by
  unfold lastV lastE
  cases h : fam F
  · rw [if_neg (by simp), if_neg (by simp), hI_zero, lI_zero]
    obtain ⟨h1, h2⟩ := fam_no F h
    have b1 : (F != 32) = true := by simp [h1]
    have b2 : (F != 128) = true := by simp [h2]
    clear h
    go_enter Tryd.func58, Tryd.ntmps58
    go_wp2
    exact bodyPost_ret (v := .tuple #[.agg #[.int .u64 0, .int .u64 0], .int .i64 11]) (by simp [results, Tryd.results58, go_sem]) rfl ⟨rfl, bl1 _ _⟩
  · rw [if_pos rfl, if_pos rfl]
    rcases fam_ways F h with rfl | rfl
    all_goals
      clear h
      go_enter Tryd.func58, Tryd.ntmps58
      go_wp2_with fail
      refine (mask_any _ _).mono ?_
      rintro e w1 ⟨rfl, hb1⟩
      have hZ := (at_new w w.heap.size 0#128 24 rfl).below hb1
      have kB := keepb hb1 (bl1 w _)
      obtain ⟨z0, z1, z2, z3, z4⟩ := hZ
      clear hb1
      go_wp2
      exact bodyPost_ret (by simp [results, Tryd.results58, go_sem, *]) rfl ⟨rfl, bset2 kB (Nat.le_refl _) _ _⟩

set_option maxHeartbeats 1000000 in
theorem aright_any (F : Int) (x : BitVec 128) (w : World) :
    Calls Tryd.prog 69 #[.int .i64 F, .agg #[.int .u64 (hI x), .int .u64 (lI x)]] w fun e w' => e = .returned (.int .i64 (rightE F x)) ∧ Below w.heap.size w w' := by
  have KL := fun w => alast_any F w
  unfold lastV lastE at KL
  unfold rightE
  cases h : fam F
  · rw [if_neg (by simp)]
    rw [h, if_neg (by simp), if_neg (by simp), hI_zero, lI_zero] at KL
    clear h
    go_enter Tryd.func69, Tryd.ntmps69
    go_wp2_with fail
    refine (KL _).mono ?_
    rintro e w1 ⟨rfl, hb1⟩
    have kB := keepb hb1 (bl1 w _)
    clear hb1 KL
    go_wp2
    go_ret
    exact ⟨rfl, kB.alloc (by have := kB.size; omega) _⟩
  · rw [if_pos rfl]
    rw [h, if_pos rfl, if_pos rfl] at KL
    clear h
    generalize maskW F = m at *
    have KA := fun w => and_any x m w
    revert KA
    generalize x &&& m = y
    intro KA
    have fin : ∀ (v : Int), v = (if y = x then 0 else 6) → ((hI y == hI x) = true ∧ (lI y == lI x) = true ∧ v = 0 ∨ (hI y == hI x) = false ∧ v = 6 ∨ (hI y == hI x) = true ∧ (lI y == lI x) = false ∧ v = 6) := by
      intro v hv
      by_cases e : y = x
      · rw [if_pos e] at hv
        exact Or.inl ⟨by simp [e], by simp [e], hv⟩
      · rw [if_neg e] at hv
        by_cases e1 : hI y = hI x
        · exact Or.inr (Or.inr ⟨by simp [e1], by simp; exact fun e2 => e (eq_ints e1 e2), hv⟩)
        · exact Or.inr (Or.inl ⟨by simp [e1], hv⟩)
    generalize (if y = x then (0 : Int) else 6) = v at *
    rcases fin v rfl with ⟨q1, q2, rfl⟩ | ⟨q1, rfl⟩ | ⟨q1, q2, rfl⟩
    all_goals
      clear fin
      go_enter Tryd.func69, Tryd.ntmps69
      go_wp2_with fail
      refine (KL _).mono ?_
      rintro e w1 ⟨rfl, hb1⟩
      have kB := keepb hb1 (bl1 w _)
      have x0 : (w1.alloc (.cells #[.int .u64 (hI m), .int .u64 (lI m)] 24)).cell? ⟨w.heap.size, 0, none⟩ = some (.int .u64 (hI x)) := keepc (bl1 _ _) (keepc hb1 (by simp [go_sem]))
      have x1 : (w1.alloc (.cells #[.int .u64 (hI m), .int .u64 (lI m)] 24)).cell? ⟨w.heap.size, 1, none⟩ = some (.int .u64 (lI x)) := keepc (bl1 _ _) (keepc hb1 (by simp [go_sem]))
      have kB2 := (kB.alloc (by have := kB.size; omega) (.cells #[.int .u64 (hI m), .int .u64 (lI m)] 24)).drew
      clear hb1 KL kB
      go_wp2_with fail
      go_region_held3 (fun w' => w'.cell? ⟨w.heap.size, 0, none⟩ = some (.int .u64 (hI x)) ∧ w'.cell? ⟨w.heap.size, 1, none⟩ = some (.int .u64 (lI x)) ∧ w'.cell? ⟨w1.heap.size, 0, none⟩ = some (.int .u64 (hI m)) ∧ w'.cell? ⟨w1.heap.size, 1, none⟩ = some (.int .u64 (lI m)) ∧ Below w.heap.size w w')
        (first
          | (obtain ⟨k1, k2, k3, k4, k9⟩ := ‹_ ∧ _›; exact ⟨keepc hb3 k1, keepc hb3 k2, keepc hb3 k3, keepc hb3 k4, keepb hb3 k9⟩)
          | exact ⟨x0, x1, by simp [go_sem], by simp [go_sem], kB2⟩)
        (first
          | (go_at_call 79; refine (KA _).mono ?_; rintro e w3 ⟨rfl, hb3⟩))
      obtain ⟨-, -, -, -, kB3⟩ := ‹_ ∧ _›
      go_wp2
      go_ret
      exact ⟨rfl, kB3⟩
end Go.Proofs.YtpchhfhdepkbcabDoor
/-
  What the calls of package addr's beside, Next and Prev do.
-/
namespace Go.Proofs.YtpchhfhdepkbcabDoor
open Go.RowKit
set_option linter.unusedSimpArgs false
set_option linter.unusedVariables false

theorem At.drew {w : World} {B : Nat} {x : BitVec 128} (h : At w B x) : At w.drew B x := h
theorem at_zero {w : World} {B : Nat} (h0 : w.cell? ⟨B, 0, none⟩ = some (.int .u64 0)) (h1 : w.cell? ⟨B, 1, none⟩ = some (.int .u64 0)) (f0 : w.frozen? ⟨B, 0, none⟩ = false) (f1 : w.frozen? ⟨B, 1, none⟩ = false) (z : BitVec 128) :
    At ((w.setCell ⟨B, 0, none⟩ (.int .u64 (hI z))).setCell ⟨B, 1, none⟩ (.int .u64 (lI z))) B z :=
  At.set (x := 0#128) z ⟨by rw [hI_zero]; exact h0, by rw [lI_zero]; exact h1, f0, f1, cell_in h0⟩

end Go.Proofs.YtpchhfhdepkbcabDoor
/-
  What each call of turnpikeref1's Add and Sub does.
-/
namespace Go.Proofs.YtpchhfhdepkbcabDoor
open Go.RowKit
set_option linter.unusedSimpArgs false
set_option linter.unusedVariables false

/-- The sum of the upper halves, as it wraps. -/
def hs (x y : BitVec 128) : Int := IntKind.u64.wrap (hI x + hI y)
theorem wrapu (n : Int) : IntKind.u64.wrap n = n % 18446744073709551616 := by simp [IntKind.wrap, IntKind.bits, IntKind.signed]
theorem lo_sum (x y : BitVec 128) : IntKind.u64.wrap (lI x + lI y) = lI (x + y) := by
  rw [wrapu, lIN, lIN, lIN, BitVec.toNat_add]; omega
theorem hi_sum1 (x y : BitVec 128) (h : lI (x + y) < lI x) : IntKind.u64.wrap (hs x y + 1) = hI (x + y) := by
  unfold hs; rw [wrapu, wrapu]; rw [lIN, lIN, BitVec.toNat_add] at h; rw [hIN, hIN, hIN, BitVec.toNat_add]
  have := x.isLt; have := y.isLt; omega
theorem hi_sum0 (x y : BitVec 128) (h : ¬ lI (x + y) < lI x) : IntKind.u64.wrap (hs x y) = hI (x + y) := by
  unfold hs; rw [wrapu, wrapu]; rw [lIN, lIN, BitVec.toNat_add] at h; rw [hIN, hIN, hIN, BitVec.toNat_add]
  have := x.isLt; have := y.isLt; omega
theorem over_of (x y : BitVec 128) : overB x y = (decide (hs x y < hI x) || decide (hI (x + y) < hs x y)) := by
  rw [Bool.eq_iff_iff]; simp only [Bool.or_eq_true, decide_eq_true_eq]
  unfold overB hs; simp only [decide_eq_true_eq]; rw [wrapu, hIN, hIN, hIN, BitVec.toNat_add]
  have := x.isLt; have := y.isLt; omega

set_option maxHeartbeats 1000000 in
theorem radd_any (x y : BitVec 128) (w : World) :
    Calls Tryd.prog 26 #[.agg #[.int .u64 (hI x), .int .u64 (lI x)], .agg #[.int .u64 (hI y), .int .u64 (lI y)]] w fun e w' => e = .returned (.tuple #[.agg #[.int .u64 (hI (x + y)), .int .u64 (lI (x + y))], .bool (overB x y)]) ∧ Below w.heap.size w w' := by
  have e1 := lo_sum x y
  have e2 : IntKind.u64.wrap (hI x + hI y) = hs x y := rfl
  have ov : (hs x y < hI x ∧ overB x y = true) ∨ (¬ hs x y < hI x ∧ hI (x + y) < hs x y ∧ overB x y = true) ∨ (¬ hs x y < hI x ∧ ¬ hI (x + y) < hs x y ∧ overB x y = false) := by
    rw [over_of]
    by_cases c : hs x y < hI x
    · exact Or.inl ⟨c, by simp [c]⟩
    · by_cases d : hI (x + y) < hs x y
      · exact Or.inr (Or.inl ⟨c, d, by simp [d]⟩)
      · exact Or.inr (Or.inr ⟨c, d, by simp [c, d]⟩)
  by_cases h : lI (x + y) < lI x
  · have e3 := hi_sum1 x y h
    rcases ov with ⟨c, ov⟩ | ⟨c, d, ov⟩ | ⟨c, d, ov⟩
    · rw [ov]; clear ov
      go_enter Tryd.func26, Tryd.ntmps26
      go_wp2
      exact bodyPost_ret (v := .tuple #[.agg #[.int .u64 (hI (x + y)), .int .u64 (lI (x + y))], .bool true]) (by simp [results, Tryd.results26, go_sem]) rfl ⟨rfl, bl3 _ _ _ _⟩
    · rw [ov]; clear ov
      go_enter Tryd.func26, Tryd.ntmps26
      go_wp2
      exact bodyPost_ret (v := .tuple #[.agg #[.int .u64 (hI (x + y)), .int .u64 (lI (x + y))], .bool true]) (by simp [results, Tryd.results26, go_sem]) rfl ⟨rfl, bl3 _ _ _ _⟩
    · rw [ov]; clear ov
      go_enter Tryd.func26, Tryd.ntmps26
      go_wp2
      exact bodyPost_ret (v := .tuple #[.agg #[.int .u64 (hI (x + y)), .int .u64 (lI (x + y))], .bool false]) (by simp [results, Tryd.results26, go_sem]) rfl ⟨rfl, bl3 _ _ _ _⟩
  · have e3 := hi_sum0 x y h
    rcases ov with ⟨c, ov⟩ | ⟨c, d, ov⟩ | ⟨c, d, ov⟩
    · rw [ov]; clear ov
      go_enter Tryd.func26, Tryd.ntmps26
      go_wp2
      exact bodyPost_ret (v := .tuple #[.agg #[.int .u64 (hI (x + y)), .int .u64 (lI (x + y))], .bool true]) (by simp [results, Tryd.results26, go_sem]) rfl ⟨rfl, bl3 _ _ _ _⟩
    · rw [ov]; clear ov
      go_enter Tryd.func26, Tryd.ntmps26
      go_wp2
      exact bodyPost_ret (v := .tuple #[.agg #[.int .u64 (hI (x + y)), .int .u64 (lI (x + y))], .bool true]) (by simp [results, Tryd.results26, go_sem]) rfl ⟨rfl, bl3 _ _ _ _⟩
    · rw [ov]; clear ov
      go_enter Tryd.func26, Tryd.ntmps26
      go_wp2
      exact bodyPost_ret (v := .tuple #[.agg #[.int .u64 (hI (x + y)), .int .u64 (lI (x + y))], .bool false]) (by simp [results, Tryd.results26, go_sem]) rfl ⟨rfl, bl3 _ _ _ _⟩

/-- The difference of the upper halves, as it wraps. -/
def hd (x y : BitVec 128) : Int := IntKind.u64.wrap (hI x - hI y)
theorem lo_dif (x y : BitVec 128) : IntKind.u64.wrap (lI x - lI y) = lI (x - y) := by
  rw [wrapu, lIN, lIN, lIN, BitVec.toNat_sub]
  have := x.isLt; have := y.isLt; omega
theorem hi_dif1 (x y : BitVec 128) (h : lI x < lI y) : IntKind.u64.wrap (hd x y - 1) = hI (x - y) := by
  unfold hd; rw [wrapu, wrapu]; rw [lIN, lIN] at h; rw [hIN, hIN, hIN, BitVec.toNat_sub]
  have := x.isLt; have := y.isLt; omega
theorem hi_dif0 (x y : BitVec 128) (h : ¬ lI x < lI y) : IntKind.u64.wrap (hd x y) = hI (x - y) := by
  unfold hd; rw [wrapu, wrapu]; rw [lIN, lIN] at h; rw [hIN, hIN, hIN, BitVec.toNat_sub]
  have := x.isLt; have := y.isLt; omega
theorem cmp_under (x y : BitVec 128) : decide (cmpZ x y < 0) = underB x y := by
  rw [Bool.eq_iff_iff]; simp only [decide_eq_true_eq]; exact cmp_lt x y

end Go.Proofs.YtpchhfhdepkbcabDoor
/-
  A region that draws its order and whose calls make memory: one walk of the text's order, in a class of worlds.
-/
namespace Go.Proofs.YtpchhfhdepkbcabDoor
open Go.RowKit
set_option linter.unusedSimpArgs false
set_option linter.unusedVariables false

theorem q_run {P : Program} {ops : Array Oper} {C : World → Prop} {Q : Act → Prop} {a : Act} {o : Oper} {rest : List Oper} {v : Value}
    (hw : Region.wanted o (yielded ops a.tmps) = true) (h : ∀ w, C w → (execOp a.eval o).run P w = .ok (.value v) w) (k : wpQuiet P ops C Q rest (a.put o.dst v)) : wpQuiet P ops C Q (o :: rest) a := by
  refine wpQuiet_step (fun K hK => ?_)
  rw [if_pos hw]
  refine ⟨v, fun w hC => ?_, hK _ k⟩
  unfold Oper.quietAt; rw [h w hC]; exact ⟨rfl, rfl⟩
theorem q_skip {P : Program} {ops : Array Oper} {C : World → Prop} {Q : Act → Prop} {a : Act} {o : Oper} {rest : List Oper}
    (hw : Region.wanted o (yielded ops a.tmps) = false) (k : wpQuiet P ops C Q rest (a.put o.dst undef)) : wpQuiet P ops C Q (o :: rest) a := by
  refine wpQuiet_step (fun K hK => ?_)
  rw [if_neg (by rw [hw]; decide)]
  exact hK _ k
theorem q_call {P : Program} {ops : Array Oper} {C : World → Prop} {Q : Act → Prop} {a : Act} {o : Oper} {rest : List Oper} {v : Value} {f : FuncId} {args : Array Value}
    (hw : Region.wanted o (yielded ops a.tmps) = true) (h : ∀ w, C w → (execOp a.eval o).run P w = .ok (.enter f args) w) (hc : ∀ w, C w → Calls P f args w fun e w' => e = .returned v ∧ C w') (k : wpQuiet P ops C Q rest (a.put o.dst v)) : wpQuiet P ops C Q (o :: rest) a := by
  refine wpQuiet_step (fun K hK => ?_)
  rw [if_pos hw]
  refine ⟨v, fun w hC => ?_, hK _ k⟩
  unfold Oper.quietAt; rw [h w hC]; exact ⟨rfl, hc w hC⟩
theorem q_region {P : Program} {C : World → Prop} {id : Nat} {Q : Exit → Act → World → Prop} {a : Act} {w : World} {l : List Oper} (hm : P.follows .mixedOrders = true) (hB : Region.lexB .any l.toArray = true) (hC : C w.drew)
    (h : wpQuiet P l.toArray C (fun a' => ∀ w', C w' → Q .normal a' w') l a) : (Code.region id l.toArray true).wp P Q a w :=
  wp_region_quiet (C := C) hm hB hC (by simpa using h)
end Go.Proofs.YtpchhfhdepkbcabDoor
/-
  What the calls of turnpikeref2's IsFamily, Right, Last, one, Next and Prev do.
-/
namespace Go.Proofs.YtpchhfhdepkbcabDoor
open Go.RowKit
set_option linter.unusedSimpArgs false
set_option linter.unusedVariables false

theorem isFamily_any (F : Int) (w : World) :
    Calls Tryd.prog 36 #[.int .i64 F] w fun e w' => e = .returned (.bool (fam F)) ∧ w' = w := by
  unfold fam
  by_cases h1 : F = 32
  · subst h1
    go_enter Tryd.func36, Tryd.ntmps36
    go_wp2
    go_ret
    exact ⟨rfl, rfl⟩
  · have b1 : (F == 32) = false := by simp [h1]
    have b2 : (F == 128) = decide (F = 128) := by rw [Bool.eq_iff_iff]; simp
    rw [show decide (F = 32) = false by simp [h1], Bool.false_or]
    go_enter Tryd.func36, Tryd.ntmps36
    go_wp2
    go_ret
    exact ⟨rfl, rfl⟩

theorem put0K (i : Int) (w : World) (h0 : 0 ≤ i) (h1 : i ≤ 127) :
    Calls Tryd.prog 27 #[.agg #[.int .u64 0, .int .u64 0], .int .i64 i, .int .i64 1] w fun e w' => e = .returned (.agg #[.int .u64 (hI (putW 0#128 i 1)), .int .u64 (lI (putW 0#128 i 1))]) ∧ Below w.heap.size w w' := by
  have h := put_any 0#128 i 1 w (Or.inr rfl) h0 h1
  rw [hI_zero, lI_zero] at h
  exact h
set_option maxHeartbeats 1000000 in
theorem rone_any (F : Int) (w : World) (hf : fam F = true) :
    Calls Tryd.prog 75 #[.int .i64 F] w fun e w' => e = .returned (.agg #[.int .u64 (hI (stepW F)), .int .u64 (lI (stepW F))]) ∧ Below w.heap.size w w' := by
  have hF : 32 ≤ F ∧ F ≤ 128 := by rcases fam_ways F hf with rfl | rfl <;> omega
  have KP := fun w => put0K (F - 1) w (by omega) (by omega)
  rw [put_step F hf] at KP
  have hu : IntKind.i64.wrap (F - 1) = F - 1 := by rw [IntKind.wrap_i64]; omega
  clear hf
  generalize stepW F = y at *
  go_enter Tryd.func75, Tryd.ntmps75
  go_wp2_with fail
  refine (KP _).mono ?_
  rintro e w1 ⟨rfl, hb1⟩
  have hZ := (at_new w w.heap.size 0#128 24 rfl).below hb1
  have kB := keepb hb1 (bl1 w _)
  obtain ⟨z0, z1, z2, z3, z4⟩ := hZ
  clear hb1 KP
  go_wp2
  exact bodyPost_ret (v := .agg #[.int .u64 (hI y), .int .u64 (lI y)]) (by simp [results, Tryd.results75, go_sem, *]) rfl ⟨rfl, bset2 kB (Nat.le_refl _) _ _⟩

theorem three (y x : BitVec 128) : ((hI y == hI x) = true ∧ (lI y == lI x) = true ∧ y = x) ∨ ((hI y == hI x) = false ∧ ¬ y = x) ∨ ((hI y == hI x) = true ∧ (lI y == lI x) = false ∧ ¬ y = x) := by
  by_cases e : y = x
  · exact Or.inl ⟨by simp [e], by simp [e], e⟩
  · by_cases e1 : hI y = hI x
    · exact Or.inr (Or.inr ⟨by simp [e1], by simp; exact fun e2 => e (eq_ints e1 e2), e⟩)
    · exact Or.inr (Or.inl ⟨by simp [e1], e⟩)
theorem three0 (y : BitVec 128) : ((hI y == 0) = true ∧ (lI y == 0) = true ∧ y = 0#128) ∨ ((hI y == 0) = false ∧ ¬ y = 0#128) ∨ ((hI y == 0) = true ∧ (lI y == 0) = false ∧ ¬ y = 0#128) := by
  have h := three y 0#128
  rw [hI_zero, lI_zero] at h; exact h

set_option maxHeartbeats 1000000 in
theorem rright_any (F : Int) (x : BitVec 128) (w : World) :
    Calls Tryd.prog 51 #[.int .i64 F, .agg #[.int .u64 (hI x), .int .u64 (lI x)]] w fun e w' => e = .returned (.int .i64 (rightE F x)) ∧ Below w.heap.size w w' := by
  have KI := fun w => isFamily_any F w
  unfold rightE
  cases h : fam F
  · rw [if_neg (by simp)]
    rw [h] at KI
    go_enter Tryd.func51, Tryd.ntmps51
    go_wp2_with fail
    refine (KI _).mono ?_
    rintro e w1 ⟨rfl, rfl⟩
    clear KI
    go_wp2
    go_ret
    exact ⟨rfl, bl1 _ _⟩
  · rw [if_pos rfl]
    rw [h] at KI
    have ha := and_not_mask F x
    have KA := fun w => rand_any x (~~~(maskW F)) w
    generalize x &&& ~~~(maskW F) = y at *
    have fin : ∀ (v : Int), v = (if x &&& maskW F = x then 0 else 6) → ((hI y == 0) = true ∧ (lI y == 0) = true ∧ v = 0 ∨ (hI y == 0) = false ∧ v = 6 ∨ (hI y == 0) = true ∧ (lI y == 0) = false ∧ v = 6) := by
      intro v hv
      rcases three0 y with ⟨a, b, c⟩ | ⟨a, c⟩ | ⟨a, b, c⟩
      · rw [if_pos (ha.mp c)] at hv; exact Or.inl ⟨a, b, hv⟩
      · rw [if_neg (fun q => c (ha.mpr q))] at hv; exact Or.inr (Or.inl ⟨a, hv⟩)
      · rw [if_neg (fun q => c (ha.mpr q))] at hv; exact Or.inr (Or.inr ⟨a, b, hv⟩)
    clear ha h
    generalize (if x &&& maskW F = x then (0 : Int) else 6) = v at *
    rcases fin v rfl with ⟨q1, q2, rfl⟩ | ⟨q1, rfl⟩ | ⟨q1, q2, rfl⟩
    all_goals
      clear fin
      go_enter Tryd.func51, Tryd.ntmps51
      go_wp2_with fail
      refine (KI _).mono ?_
      rintro e w1 ⟨rfl, rfl⟩
      clear KI
      have kB := (bl1 w (.cells #[.int .u64 (hI x), .int .u64 (lI x)] 24)).drew
      go_wp2_with fail
      go_region_held3 (fun w' => w'.cell? ⟨w.heap.size, 0, none⟩ = some (.int .u64 (hI x)) ∧ w'.cell? ⟨w.heap.size, 1, none⟩ = some (.int .u64 (lI x)) ∧ Below w.heap.size w w')
        (first
          | (obtain ⟨k1, k2, k9⟩ := ‹_ ∧ _›; exact ⟨keepc hb4 k1, keepc hb4 k2, keepb hb4 k9⟩)
          | (obtain ⟨k1, k2, k9⟩ := ‹_ ∧ _›; exact ⟨keepc hb3 k1, keepc hb3 k2, keepb hb3 k9⟩)
          | (obtain ⟨k1, k2, k9⟩ := ‹_ ∧ _›; exact ⟨keepc hb2 k1, keepc hb2 k2, keepb hb2 k9⟩)
          | exact ⟨by simp [go_sem], by simp [go_sem], kB⟩)
        (first
          | (go_at_call 68; refine (rmask_any _ _).mono ?_; rintro e w2 ⟨rfl, hb2⟩)
          | (go_at_call 77; refine (rnot_any _ _).mono ?_; rintro e w3 ⟨rfl, hb3⟩)
          | (go_at_call 67; refine (KA _).mono ?_; rintro e w4 ⟨rfl, hb4⟩))
      obtain ⟨-, -, kB3⟩ := ‹_ ∧ _›
      go_wp2
      go_ret
      exact ⟨rfl, kB3⟩
end Go.Proofs.YtpchhfhdepkbcabDoor
/-
  What the call of turnpikeref2's Parse does.
-/
namespace Go.Proofs.YtpchhfhdepkbcabDoor
open Go.RowKit
set_option linter.unusedSimpArgs false
set_option linter.unusedVariables false

/-- Eight groups as a word. -/
def gW (L : List Int) : Nat → BitVec 128
  | 0 => 0#128
  | k + 1 => (gW L k <<< 16) ||| mkW 0 (L.getD k 0)
/-- The groups that the reference reads. -/
def rsA (t : ByteArray) : Option (List Int) := match gsO t true with | some m => if m.length = 8 then some m else none | none => none
def rsB (t : ByteArray) (p : Nat) : Option (List Int) := match gsO (t.extract 0 p) false, gsO (t.extract (p + 2) t.size) true with
  | some a, some b => if a.length + b.length ≤ 7 then some (a ++ List.replicate (8 - (a.length + b.length)) 0 ++ b) else none
  | _, _ => none
def rsO (t : ByteArray) : Option (List Int) := if gapV t < 0 then rsA t else rsB t (gapV t).toNat
def outV (o : Option (List Int)) : BitVec 128 := match o with | some L => gW L 8 | none => 0#128
def outE (o : Option (List Int)) : Int := match o with | some L => 0 | none => 12
def rpV (F : Int) (t : ByteArray) : BitVec 128 := if fam F = false ∨ 60 < t.size then 0#128 else if F = 32 then (match dotO t with | some v => mkW (v * 4294967296) 0 | none => 0#128) else outV (rsO t)
def rpE (F : Int) (t : ByteArray) : Int := if fam F = false then 11 else if 60 < t.size then 12 else if F = 32 then (match dotO t with | some v => 0 | none => 12) else outE (rsO t)

theorem grG_bd (t : ByteArray) : ∀ f k n, 0 ≤ n → n < 16 ^ k → k + f ≤ 4 → -1 ≤ grG t f k n ∧ grG t f k n ≤ 65535 := by
  intro f
  induction f with
  | zero =>
    intro k n h0 h1 hk
    have : (16 : Int) ^ k ≤ 65536 := by
      rcases (by omega : k = 0 ∨ k = 1 ∨ k = 2 ∨ k = 3 ∨ k = 4) with rfl | rfl | rfl | rfl | rfl <;> decide
    show -1 ≤ n ∧ n ≤ 65535
    omega
  | succ f ih =>
    intro k n h0 h1 hk
    have hd := hexV_bd (byteAt t k)
    show -1 ≤ (if _ then _ else _) ∧ (if _ then _ else _) ≤ _
    split
    · exact ih _ _ (by omega) (by rw [Int.pow_succ]; omega) (by omega)
    · omega
theorem grV_bd (t : ByteArray) : -1 ≤ grV t ∧ grV t ≤ 65535 := by
  unfold grV
  split
  · omega
  · exact grG_bd t t.size 0 0 (by omega) (by decide) (by omega)
theorem gsG_bd (last : Bool) : ∀ (l : List ByteArray) (acc xs : List Int), (∀ x ∈ acc, 0 ≤ x ∧ x ≤ 65535) → gsG last l acc = some xs → ∀ x ∈ xs, 0 ≤ x ∧ x ≤ 65535 := by
  intro l
  induction l with
  | nil => intro acc xs h e; simp [gsG] at e; subst e; exact h
  | cons q l ih =>
    intro acc xs h e
    unfold gsG at e
    split at e
    · rename_i hc
      injection e with e
      subst e
      intro x hx
      cases hd : dotO q with
      | none => rw [hd] at hc; simp at hc
      | some u =>
        have ub := dotO_bd q u hd
        rw [hd] at hx
        simp at hx
        rcases hx with hx | rfl | rfl
        · exact h x hx
        · omega
        · omega
    · split at e
      · cases e
      · refine ih _ _ ?_ e
        intro x hx
        have gb := grV_bd q
        simp at hx
        rcases hx with hx | rfl
        · exact h x hx
        · omega
theorem gsO_bd (t : ByteArray) (last : Bool) (xs : List Int) (e : gsO t last = some xs) : ∀ x ∈ xs, 0 ≤ x ∧ x ≤ 65535 := by
  unfold gsO at e
  split at e
  · injection e with e; subst e; intro x hx; cases hx
  · exact gsG_bd last _ [] xs (fun x hx => by cases hx) e
theorem own_slice {w : World} {base e size n : Nat} {v : Value} {xs : List Value} (h : w.ownsRow base e size v n xs) : ∃ ao cap, v = .slice ao n cap := by
  rcases h.2 with ⟨h1, h2⟩ | ⟨g, cap, cur, h1, _⟩
  · exact ⟨none, 0, by rw [h1, h2]⟩
  · exact ⟨_, _, h1⟩
theorem row_int {w : World} {base e g n cap : Nat} {l : List Int} (h : w.ownsRow base e 1 (.slice (some ⟨g, 0, none⟩) n cap) n (ints l)) (hn : n = l.length) (k : Nat) (hk : k < n) : w.cell? ⟨g, k, none⟩ = some (.int .i64 (l.getD k 0)) := by
  rw [h.cellAt k (by omega)]
  unfold ints
  rw [List.getElem?_map, List.getElem?_eq_getElem (by omega), List.getD_eq_getElem?_getD, List.getElem?_eq_getElem (by omega)]
  rfl
theorem orLo (y : BitVec 128) (v : Int) (h0 : 0 ≤ v) (h1 : v ≤ 65535) : bits .or .u64 (lI y) v = lI (y ||| mkW 0 v) ∧ hI y = hI (y ||| mkW 0 v) := by
  refine ⟨?_, ?_⟩
  · rw [← or_l, lI_mk 0 v h0 (by omega)]
  · rw [← or_h, hI_mk 0 v (by omega) (by omega)]
    have : bits .or .u64 (hI y) 0 = hI (y ||| 0#128) := by
      rw [← or_h, hI_zero]
    rw [this, BitVec.or_zero]

theorem wrap32 (v : Int) (h0 : 0 ≤ v) (h1 : v < 4294967296) : IntKind.u64.wrap (v * 4294967296) = v * 4294967296 := by
  simp [IntKind.wrap, IntKind.bits, IntKind.signed]; omega

set_option maxHeartbeats 4000000 in
set_option maxRecDepth 20000 in
theorem rparse_fam (F : Int) (t : ByteArray) (w : World) (hf : fam F = false) :
    Calls Tryd.prog 37 #[.int .i64 F, .string t] w fun e w' => e = .returned (.tuple #[.agg #[.int .u64 0, .int .u64 0], .int .i64 11]) ∧ Below w.heap.size w w' := by
  have KI := fun w => isFamily_any F w
  rw [hf] at KI
  go_enter Tryd.func37, Tryd.ntmps37
  go_wp2_with fail
  refine (KI _).mono ?_
  rintro e w1 ⟨rfl, hw1⟩
  rw [hw1]; clear hw1 KI
  go_wp2
  exact bodyPost_ret (v := .tuple #[.agg #[.int .u64 0, .int .u64 0], .int .i64 11]) (by simp [results, Tryd.results37, go_sem, *]) rfl ⟨rfl, bl1 _ _⟩

set_option maxHeartbeats 4000000 in
set_option maxRecDepth 20000 in
theorem rparse_long (F : Int) (t : ByteArray) (w : World) (hf : fam F = true) (hs : t.size ≤ maxLen) (hl : 60 < t.size) :
    Calls Tryd.prog 37 #[.int .i64 F, .string t] w fun e w' => e = .returned (.tuple #[.agg #[.int .u64 0, .int .u64 0], .int .i64 12]) ∧ Below w.heap.size w w' := by
  have KI := fun w => isFamily_any F w
  rw [hf] at KI
  unfold maxLen at hs
  have hl2 : (60 : Int) < (t.size : Int) := by omega
  go_enter Tryd.func37, Tryd.ntmps37
  go_wp2_with fail
  refine (KI _).mono ?_
  rintro e w1 ⟨rfl, hw1⟩
  rw [hw1]; clear hw1 KI
  go_wp2
  exact bodyPost_ret (v := .tuple #[.agg #[.int .u64 0, .int .u64 0], .int .i64 12]) (by simp [results, Tryd.results37, go_sem, *]) rfl ⟨rfl, bl1 _ _⟩

set_option maxHeartbeats 4000000 in
set_option maxRecDepth 20000 in
theorem rparse_four (t : ByteArray) (w : World) (hl : t.size ≤ 60) :
    Calls Tryd.prog 37 #[.int .i64 32, .string t] w fun e w' => e = .returned (.tuple #[.agg #[.int .u64 (hI (match dotO t with | some v => mkW (v * 4294967296) 0 | none => 0#128)), .int .u64 (lI (match dotO t with | some v => mkW (v * 4294967296) 0 | none => 0#128))], .int .i64 (match dotO t with | some v => 0 | none => 12)]) ∧ Below w.heap.size w w' := by
  have KI := fun w => isFamily_any 32 w
  have hl2 : ¬ (60 : Int) < (t.size : Int) := by omega
  have KD := fun w => dotted_any t w (by omega)
  cases hd : dotO t with
  | none =>
    rw [hd] at KD
    simp only [hI_zero, lI_zero]
    go_enter Tryd.func37, Tryd.ntmps37
    go_wp2_with fail
    refine (KI _).mono ?_
    rintro e w1 ⟨rfl, hw1⟩
    rw [hw1]; clear hw1 KI
    go_wp2_with fail
    refine (KD _).mono ?_
    rintro e w2 ⟨rfl, hb2⟩
    have hZ := (at_new w w.heap.size 0#128 24 rfl).below hb2
    have kB := keepb hb2 (bl1 w _)
    obtain ⟨z0, z1, z2, z3, z4⟩ := hZ
    clear hb2 KD
    go_wp2
    exact bodyPost_ret (v := .tuple #[.agg #[.int .u64 0, .int .u64 0], .int .i64 12]) (by simp [results, Tryd.results37, go_sem, *]) rfl ⟨rfl, bset2 kB (Nat.le_refl _) _ _⟩
  | some v =>
    obtain ⟨v0, v1⟩ := dotO_bd t v hd
    have KD2 : ∀ w, Calls Tryd.prog 63 #[.string t] w fun e w' => e = .returned (.tuple #[.int .u64 v, .bool true]) ∧ Below w.heap.size w w' := by
      rw [hd] at KD; exact KD
    have hwr := wrap32 v v0 v1
    simp only [hI_mk (v * 4294967296) 0 (by omega) (by omega), lI_mk (v * 4294967296) 0 (by omega) (by omega)]
    clear KD hd
    go_enter Tryd.func37, Tryd.ntmps37
    go_wp2_with fail
    refine (KI _).mono ?_
    rintro e w1 ⟨rfl, hw1⟩
    rw [hw1]; clear hw1 KI
    go_wp2_with fail
    refine (KD2 _).mono ?_
    rintro e w2 ⟨rfl, hb2⟩
    have hZ := (at_new w w.heap.size 0#128 24 rfl).below hb2
    have kB := keepb hb2 (bl1 w _)
    obtain ⟨z0, z1, z2, z3, z4⟩ := hZ
    clear hb2 KD2
    go_wp2
    exact bodyPost_ret (v := .tuple #[.agg #[.int .u64 (v * 4294967296), .int .u64 0], .int .i64 0]) (by simp [results, Tryd.results37, go_sem, *]) rfl ⟨rfl, bset2 kB (Nat.le_refl _) _ _⟩
end Go.Proofs.YtpchhfhdepkbcabDoor
