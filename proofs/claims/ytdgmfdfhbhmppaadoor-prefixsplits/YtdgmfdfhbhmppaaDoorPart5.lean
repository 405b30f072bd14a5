/-
  Part 5 of the proof: 6 texts, one behind the other.
-/
import Derived.Test.YtdgmfdfhbhmppaaDoorPart4
import Derived.WalkMore
import Derived.Deep.LoopGhost
import Derived.Test.YtdgmfdfhbhmppaaDoorPart1
import Derived.Deep.RegionHeld3
import Derived.Test.YtdgmfdfhbhmppaaDoorPart2
/-
  What the call of package addr's readFour does.
-/
namespace Go.Proofs.YtdgmfdfhbhmppaaDoor
open Go.RowKit
set_option linter.unusedSimpArgs false
set_option linter.unusedVariables false

theorem numR_bd (t : ByteArray) : ∀ f k n, 0 ≤ n → n ≤ 255 → 0 ≤ (numR t f k n).1 ∧ (numR t f k n).1 ≤ 255 ∧ 0 ≤ (numR t f k n).2 ∧ (numR t f k n).2 ≤ (k : Int) + f := by
  intro f
  induction f with
  | zero => intro k n h0 h1; exact ⟨h0, h1, by show (0 : Int) ≤ (k : Int); omega, by show (k : Int) ≤ _; omega⟩
  | succ f ih =>
    intro k n h0 h1
    show 0 ≤ (if _ then _ else _ : Int × Int).1 ∧ (if _ then _ else _ : Int × Int).1 ≤ 255 ∧ 0 ≤ (if _ then _ else _ : Int × Int).2 ∧ (if _ then _ else _ : Int × Int).2 ≤ _
    split
    · split
      · simp; omega
      · split
        · simp; omega
        · have := ih (k + 1) (10 * n + (byteAt t k - 48)) (by omega) (by omega)
          omega
    · simp; omega
theorem num_bd (t : ByteArray) : 0 ≤ numV t ∧ numV t ≤ 255 ∧ 0 ≤ numN t ∧ numN t ≤ t.size := by
  have := numR_bd t t.size 0 0 (by omega) (by omega)
  unfold numV numN; omega

/-- Four numbers with points between, from number i on, at place a, x being laid. -/
def fourR (s : ByteArray) : Nat → Nat → Nat → BitVec 128 → BitVec 128 × Bool
  | 0, _, _, _ => (0#128, false)
  | f + 1, i, a, x =>
    if numN (s.extract a s.size) = 0 then (0#128, false)
    else if i = 3 then (layW x i 8 (numV (s.extract a s.size)), decide (a + (numN (s.extract a s.size)).toNat = s.size))
    else if a + (numN (s.extract a s.size)).toNat = s.size ∨ byteAt s (a + (numN (s.extract a s.size)).toNat) ≠ 46 then (0#128, false)
    else fourR s f (i + 1) (a + (numN (s.extract a s.size)).toNat + 1) (layW x i 8 (numV (s.extract a s.size)))
def fourV (s : ByteArray) : BitVec 128 := (fourR s 4 0 0 0#128).1
def fourB (s : ByteArray) : Bool := (fourR s 4 0 0 0#128).2

theorem at_new (w : World) (B : Nat) (x : BitVec 128) (T : TypeId) (h : B = w.heap.size) : At (w.alloc (.cells #[.int .u64 (hI x), .int .u64 (lI x)] T)) B x := by
  subst h
  refine ⟨?_, ?_, ?_, ?_, ?_⟩ <;> simp [go_sem]

theorem bset2 {n C : Nat} {w W : World} (h : Below n w W) (hp : n ≤ C) (u v : Value) : Below n w ((W.setCell ⟨C, 0, none⟩ u).setCell ⟨C, 1, none⟩ v) := (h.setCell hp _).setCell hp _

set_option maxHeartbeats 4000000 in
theorem readFour_any (s : ByteArray) (w : World) (hs : s.size ≤ maxLen) :
    Calls Tryd.prog 54 #[.string s] w fun e w' => e = .returned (.tuple #[.agg #[.int .u64 (hI (fourV s)), .int .u64 (lI (fourV s))], .bool (fourB s)]) ∧ Below w.heap.size w w' := by
  have KN := fun a w => number_any (s.extract a s.size) w (by simp; omega)
  unfold maxLen at hs
  go_enter Tryd.func54, Tryd.ntmps54
  go_wp2
  go_step3
  go_wp2
  go_step3
  go_wp2
  go_loopw [5, 9] (fun p q wr => ∃ (i a : Nat) (x : BitVec 128), p = .int .i64 a ∧ q = .int .i64 i ∧ i ≤ 3 ∧ a ≤ s.size ∧ Hid (fourR s (4 - i) i a x = fourR s 4 0 0 0#128) ∧ At wr (w.heap.size + 1) x ∧ At wr w.heap.size 0#128 ∧ Below w.heap.size w wr) (fun _ q _ => 4 - (intOf q).toNat)
  case atStart =>
    refine ⟨0, 0, 0#128, rfl, rfl, by omega, by omega, rfl, ?_, ?_, bl2 _ _ _⟩
    · refine ⟨?_, ?_, ?_, ?_, ?_⟩ <;> simp [go_sem, hI_zero, lI_zero]
    · refine ⟨?_, ?_, ?_, ?_, ?_⟩ <;> simp [go_sem, hI_zero, lI_zero]
  case round =>
    obtain ⟨i, a, x, rfl, rfl, hi, ha, HR, hA, hZ, hB⟩ := hrel
    have bd := num_bd (s.extract a s.size)
    have ez : (s.extract a s.size).size = s.size - a := by simp
    rw [ez] at bd
    have HU : Hid (4 - i = (4 - (i + 1)) + 1) := by show _ = _; omega
    have HS : Hid (∀ f, fourR s (f + 1) i a x = if numN (s.extract a s.size) = 0 then (0#128, false) else if i = 3 then (layW x i 8 (numV (s.extract a s.size)), decide (a + (numN (s.extract a s.size)).toNat = s.size))
      else if a + (numN (s.extract a s.size)).toNat = s.size ∨ byteAt s (a + (numN (s.extract a s.size)).toNat) ≠ 46 then (0#128, false)
      else fourR s f (i + 1) (a + (numN (s.extract a s.size)).toNat + 1) (layW x i 8 (numV (s.extract a s.size)))) := fun _ => rfl
    have KA := KN a
    clear KN ez
    generalize numV (s.extract a s.size) = v at *
    generalize numN (s.extract a s.size) = z at *
    obtain ⟨v0, v1, z0, z1⟩ := bd
    obtain ⟨z, rfl⟩ := Int.eq_ofNat_of_zero_le z0
    simp only [Int.toNat_natCast] at HS
    have hi4 : (i : Int) < 4 := by omega
    have hlo : (a : Int) ≤ s.size := by omega
    obtain ⟨a0, a1, a2, a3, a4⟩ := id hA
    go_wp2_with fail
    refine (KA _).mono ?_
    rintro e w1 ⟨rfl, rfl⟩
    clear KA
    go_wp2_with fail
    refine (aput_any x i 8 v _ v0 (by omega) (by omega) (by omega) (by omega) (by omega)).mono ?_
    rintro e w2 ⟨rfl, hb2⟩
    have hA2 := (hA.below hb2).set (layW x i 8 v)
    have hZ2 := (hZ.below hb2).other (.int .u64 (hI (layW x i 8 v))) (.int .u64 (lI (layW x i 8 v))) (C := w.heap.size + 1) (by omega)
    have hB2 := bset2 (keepb hb2 hB) (C := w.heap.size + 1) (by omega) (.int .u64 (hI (layW x i 8 v))) (.int .u64 (lI (layW x i 8 v)))
    obtain ⟨b0, b1, b2, b3, b4⟩ := hA.below hb2
    obtain ⟨y0, y1, y2, y3, y4⟩ := hZ.below hb2
    clear hA hZ hB hb2 a0 a1 a2 a3 a4
    generalize layW x i 8 v = x' at *
    have hsum : IntKind.i64.wrap ((a : Int) + z) = ((a + z : Nat) : Int) := by rw [IntKind.wrap_i64]; omega
    by_cases hz : z = 0
    · have HF : Hid (fourV s = 0#128 ∧ fourB s = false) := by
        show _ ∧ _
        unfold fourV fourB; rw [← HR.out, HU.out, HS.out, if_pos (by omega)]; exact ⟨rfl, rfl⟩
      clear HR HU HS
      subst hz
      go_wp2
      rw [Exit.noGoto_ret]
      exact bodyPost_ret (v := .tuple #[.agg #[.int .u64 0, .int .u64 0], .bool false]) (by simp [results, Tryd.results54, go_sem, *]) rfl ⟨by rw [HF.out.1, HF.out.2, hI_zero, lI_zero], bset2 hB2 (Nat.le_refl _) _ _⟩
    have hz' : ¬ (z : Int) = 0 := by omega
    by_cases h3 : i = 3
    · have HF : Hid (fourV s = x' ∧ fourB s = decide (a + z = s.size)) := by
        show _ ∧ _
        unfold fourV fourB; rw [← HR.out, HU.out, HS.out, if_neg hz', if_pos h3]; exact ⟨rfl, rfl⟩
      clear HR HU HS
      subst h3
      have hd : (((a : Int) + z) == (s.size : Int)) = decide (a + z = s.size) := by rw [Bool.eq_iff_iff]; simp; omega
      go_wp2
      rw [Exit.noGoto_ret]
      exact bodyPost_ret (v := .tuple #[.agg #[.int .u64 (hI x'), .int .u64 (lI x')], .bool (decide (a + z = s.size))]) (by simp [results, Tryd.results54, go_sem, *]) rfl ⟨by rw [HF.out.1, HF.out.2], bset2 hB2 (Nat.le_refl _) _ _⟩
    have h3' : ¬ (i : Int) = 3 := by omega
    by_cases he : a + z = s.size
    · have HF : Hid (fourV s = 0#128 ∧ fourB s = false) := by
        show _ ∧ _
        unfold fourV fourB; rw [← HR.out, HU.out, HS.out, if_neg hz', if_neg h3, if_pos (Or.inl he)]; exact ⟨rfl, rfl⟩
      clear HR HU HS
      have hq : (a : Int) + z = (s.size : Int) := by omega
      go_wp2
      rw [Exit.noGoto_ret]
      exact bodyPost_ret (v := .tuple #[.agg #[.int .u64 0, .int .u64 0], .bool false]) (by simp [results, Tryd.results54, go_sem, *]) rfl ⟨by rw [HF.out.1, HF.out.2, hI_zero, lI_zero], bset2 hB2 (Nat.le_refl _) _ _⟩
    obtain ⟨m, HM⟩ : ∃ m, Hid (a + z = m) := ⟨_, rfl⟩
    simp only [HM.out] at HS he
    have hms : m < s.size := by have := HM.out; omega
    have hbt := byteAt_in s m hms
    have hm : (a : Int) + (z : Int) = (m : Int) := by have := HM.out; omega
    clear z1 hsum HM
    have hme : ¬ (m : Int) = (s.size : Int) := by omega
    have hsum : IntKind.i64.wrap (m : Int) = (m : Int) := by rw [IntKind.wrap_i64]; omega
    have hsu1 : IntKind.i64.wrap ((m : Int) + 1) = (m : Int) + 1 := by rw [IntKind.wrap_i64]; omega
    by_cases hc : byteAt s m = 46
    · have HF : Hid (fourR s (4 - (i + 1)) (i + 1) (m + 1) x' = fourR s 4 0 0 0#128) := by
        show _ = _
        rw [← HR.out, HU.out, HS.out, if_neg hz', if_neg h3, if_neg (by simp [he, hc])]
      clear HR HU HS
      rw [hc] at hbt
      clear hc
      go_wp2
      go_roundw
      case rel => exact ⟨i + 1, m + 1, x', by go_num, by go_num, by omega, by omega, HF, hA2, hZ2, hB2⟩
      case measure => simp [intOf]; omega
    · have HF : Hid (fourV s = 0#128 ∧ fourB s = false) := by
        show _ ∧ _
        unfold fourV fourB; rw [← HR.out, HU.out, HS.out, if_neg hz', if_neg h3, if_pos (Or.inr hc)]; exact ⟨rfl, rfl⟩
      clear HR HU HS
      generalize byteAt s m = c at *
      have hcb : (c != 46) = true := by simp [hc]
      go_wp2
      rw [Exit.noGoto_ret]
      exact bodyPost_ret (v := .tuple #[.agg #[.int .u64 0, .int .u64 0], .bool false]) (by simp [results, Tryd.results54, go_sem, *]) rfl ⟨by rw [HF.out.1, HF.out.2, hI_zero, lI_zero], bset2 hB2 (Nat.le_refl _) _ _⟩
end Go.Proofs.YtdgmfdfhbhmppaaDoor
/-
  Plain facts on addresses: families, the last address, the step from one to the next. Nothing of the program is imported here.
-/
namespace Go.Proofs.YtdgmfdfhbhmppaaDoor
open Go.RowKit
set_option linter.unusedSimpArgs false
set_option linter.unusedVariables false

def fam (F : Int) : Bool := decide (F = 32) || decide (F = 128)
theorem fam_ways (F : Int) (h : fam F = true) : F = 32 ∨ F = 128 := by unfold fam at h; simpa using h
theorem fam_no (F : Int) (h : fam F = false) : ¬ F = 32 ∧ ¬ F = 128 := by unfold fam at h; simpa using h
/-- The step from an address to the next one. -/
def stepW (F : Int) : BitVec 128 := mkW 0 1 <<< (128 - F).toNat
def lastV (F : Int) : BitVec 128 := if fam F = true then maskW F else 0#128
def lastE (F : Int) : Int := if fam F = true then 0 else 11
def rightE (F : Int) (x : BitVec 128) : Int := if fam F = true then (if x &&& maskW F = x then 0 else 6) else 11
def nextB (F : Int) (x : BitVec 128) : Bool := decide (rightE F x = 0) && !overB x (stepW F)
def nextV (F : Int) (x : BitVec 128) : BitVec 128 := if nextB F x = true then x + stepW F else 0#128
def prevB (F : Int) (x : BitVec 128) : Bool := decide (rightE F x = 0) && !underB x (stepW F)
def prevV (F : Int) (x : BitVec 128) : BitVec 128 := if prevB F x = true then x - stepW F else 0#128

theorem mk01 : mkW 0 1 = 1#128 := by decide +kernel
theorem right0 (F : Int) (x : BitVec 128) (h : rightE F x = 0) : fam F = true ∧ x &&& maskW F = x := by
  unfold rightE at h
  split at h
  · split at h
    · exact ⟨‹_›, ‹_›⟩
    · omega
  · omega
theorem put_step (F : Int) (h : fam F = true) : putW 0#128 (F - 1) 1 = stepW F := by
  rcases fam_ways F h with rfl | rfl <;> decide +kernel
theorem and_not_mask (F : Int) (x : BitVec 128) : (x &&& ~~~(maskW F) = 0#128) ↔ x &&& maskW F = x := by
  constructor
  · intro h
    apply BitVec.eq_of_getLsbD_eq; intro i hi
    have := congrArg (fun z => z.getLsbD i) h
    simp only [BitVec.getLsbD_and, BitVec.getLsbD_not, BitVec.getLsbD_zero, hi, decide_true, Bool.true_and] at this ⊢
    cases hx : x.getLsbD i <;> cases hm : (maskW F).getLsbD i <;> rw [hx, hm] at this <;> simp at this ⊢
  · intro h
    apply BitVec.eq_of_getLsbD_eq; intro i hi
    have := congrArg (fun z => z.getLsbD i) h
    simp only [BitVec.getLsbD_and, BitVec.getLsbD_not, BitVec.getLsbD_zero, hi, decide_true, Bool.true_and] at this ⊢
    cases hx : x.getLsbD i <;> cases hm : (maskW F).getLsbD i <;> rw [hx, hm] at this <;> simp at this ⊢
theorem mask128 : maskW 128 = BitVec.allOnes 128 := by decide +kernel
theorem mask32 : maskW 32 = (BitVec.allOnes 128 >>> 96) <<< 96 := by decide +kernel
theorem low96 (x : BitVec 128) (h : x &&& maskW 32 = x) : x.toNat = 79228162514264337593543950336 * (x.toNat / 79228162514264337593543950336) := by
  have e : x = (x >>> 96) <<< 96 := by
    apply BitVec.eq_of_getLsbD_eq; intro i hi
    have q := congrArg (fun z => z.getLsbD i) h
    rw [mask32] at q
    simp only [BitVec.getLsbD_and, BitVec.getLsbD_shiftLeft, BitVec.getLsbD_ushiftRight, BitVec.getLsbD_allOnes, hi, decide_true, Bool.true_and] at q ⊢
    by_cases c : i < 96
    · simp only [c, decide_true, Bool.not_true, Bool.false_and, Bool.and_false] at q ⊢
      exact q.symm
    · have e : 96 + (i - 96) = i := by omega
      simp only [c, decide_false, Bool.not_false, Bool.true_and, e]
  have f := congrArg BitVec.toNat e
  rw [BitVec.toNat_shiftLeft, BitVec.toNat_ushiftRight, Nat.shiftLeft_eq, Nat.shiftRight_eq_div_pow] at f
  have := x.isLt
  have g : x.toNat / 2 ^ 96 * 2 ^ 96 ≤ x.toNat := Nat.div_mul_le_self _ _
  omega
theorem over_step (F : Int) (x : BitVec 128) (hf : fam F = true) (h : x &&& maskW F = x) : overB x (stepW F) = decide (x = maskW F) := by
  rw [Bool.eq_iff_iff]
  unfold overB
  simp only [decide_eq_true_eq]
  have hx := x.isLt
  rcases fam_ways F hf with rfl | rfl
  · have e1 : (stepW 32).toNat = 79228162514264337593543950336 := by decide +kernel
    have e2 : (maskW 32).toNat = 4294967295 * 79228162514264337593543950336 := by decide +kernel
    have e3 := low96 x h
    rw [e1]
    constructor
    · intro q
      apply BitVec.eq_of_toNat_eq
      omega
    · intro q
      rw [q, e2]; omega
  · have e1 : (stepW 128).toNat = 1 := by decide +kernel
    have e2 : (maskW 128).toNat = 340282366920938463463374607431768211455 := by decide +kernel
    rw [e1]
    constructor
    · intro q
      apply BitVec.eq_of_toNat_eq
      omega
    · intro q
      rw [q, e2]; omega
theorem under_step (F : Int) (x : BitVec 128) (hf : fam F = true) (h : x &&& maskW F = x) : underB x (stepW F) = decide (x = 0#128) := by
  rw [Bool.eq_iff_iff]
  unfold underB
  simp only [decide_eq_true_eq]
  have hx := x.isLt
  have e0 : (0#128).toNat = 0 := rfl
  rcases fam_ways F hf with rfl | rfl
  · have e1 : (stepW 32).toNat = 79228162514264337593543950336 := by decide +kernel
    have e3 := low96 x h
    rw [e1]
    constructor
    · intro q
      apply BitVec.eq_of_toNat_eq
      omega
    · intro q
      rw [q]; omega
  · have e1 : (stepW 128).toNat = 1 := by decide +kernel
    rw [e1]
    constructor
    · intro q
      apply BitVec.eq_of_toNat_eq
      omega
    · intro q
      rw [q]; omega
end Go.Proofs.YtdgmfdfhbhmppaaDoor
/-
  What the calls of package addr's Last, Right, step, Next and Prev do.
-/
namespace Go.Proofs.YtdgmfdfhbhmppaaDoor
open Go.RowKit
set_option linter.unusedSimpArgs false
set_option linter.unusedVariables false

set_option maxHeartbeats 1000000 in
theorem alast_any (F : Int) (w : World) :
    Calls Tryd.prog 46 #[.int .i64 F] w fun e w' => e = .returned (.tuple #[.agg #[.int .u64 (hI (lastV F)), .int .u64 (lI (lastV F))], .int .i64 (lastE F)]) ∧ Below w.heap.size w w' := by
  unfold lastV lastE
  cases h : fam F
  · rw [if_neg (by simp), if_neg (by simp), hI_zero, lI_zero]
    obtain ⟨h1, h2⟩ := fam_no F h
    have b1 : (F != 32) = true := by simp [h1]
    have b2 : (F != 128) = true := by simp [h2]
    clear h
    go_enter Tryd.func46, Tryd.ntmps46
    go_wp2
    exact bodyPost_ret (v := .tuple #[.agg #[.int .u64 0, .int .u64 0], .int .i64 11]) (by simp [results, Tryd.results46, go_sem]) rfl ⟨rfl, bl1 _ _⟩
  · rw [if_pos rfl, if_pos rfl]
    rcases fam_ways F h with rfl | rfl
    all_goals
      clear h
      go_enter Tryd.func46, Tryd.ntmps46
      go_wp2_with fail
      refine (mask_any _ _).mono ?_
      rintro e w1 ⟨rfl, hb1⟩
      have hZ := (at_new w w.heap.size 0#128 24 rfl).below hb1
      have kB := keepb hb1 (bl1 w _)
      obtain ⟨z0, z1, z2, z3, z4⟩ := hZ
      clear hb1
      go_wp2
      exact bodyPost_ret (by simp [results, Tryd.results46, go_sem, *]) rfl ⟨rfl, bset2 kB (Nat.le_refl _) _ _⟩

set_option maxHeartbeats 1000000 in
theorem aright_any (F : Int) (x : BitVec 128) (w : World) :
    Calls Tryd.prog 56 #[.int .i64 F, .agg #[.int .u64 (hI x), .int .u64 (lI x)]] w fun e w' => e = .returned (.int .i64 (rightE F x)) ∧ Below w.heap.size w w' := by
  have KL := fun w => alast_any F w
  unfold lastV lastE at KL
  unfold rightE
  cases h : fam F
  · rw [if_neg (by simp)]
    rw [h, if_neg (by simp), if_neg (by simp), hI_zero, lI_zero] at KL
    clear h
    go_enter Tryd.func56, Tryd.ntmps56
    go_wp2_with fail
    refine (KL _).mono ?_
    rintro e w1 ⟨rfl, hb1⟩
    have kB := keepb hb1 (bl1 w _)
    clear hb1 KL
    go_wp2
    go_ret
    exact ⟨rfl, kB.alloc (by have := kB.size; omega) _⟩
  · rw [if_pos rfl]
    rw [h, if_pos rfl, if_pos rfl] at KL
    clear h
    generalize maskW F = m at *
    have KA := fun w => and_any x m w
    revert KA
    generalize x &&& m = y
    intro KA
    have fin : ∀ (v : Int), v = (if y = x then 0 else 6) → ((hI y == hI x) = true ∧ (lI y == lI x) = true ∧ v = 0 ∨ (hI y == hI x) = false ∧ v = 6 ∨ (hI y == hI x) = true ∧ (lI y == lI x) = false ∧ v = 6) := by
      intro v hv
      by_cases e : y = x
      · rw [if_pos e] at hv
        exact Or.inl ⟨by simp [e], by simp [e], hv⟩
      · rw [if_neg e] at hv
        by_cases e1 : hI y = hI x
        · exact Or.inr (Or.inr ⟨by simp [e1], by simp; exact fun e2 => e (eq_ints e1 e2), hv⟩)
        · exact Or.inr (Or.inl ⟨by simp [e1], hv⟩)
    generalize (if y = x then (0 : Int) else 6) = v at *
    rcases fin v rfl with ⟨q1, q2, rfl⟩ | ⟨q1, rfl⟩ | ⟨q1, q2, rfl⟩
    all_goals
      clear fin
      go_enter Tryd.func56, Tryd.ntmps56
      go_wp2_with fail
      refine (KL _).mono ?_
      rintro e w1 ⟨rfl, hb1⟩
      have kB := keepb hb1 (bl1 w _)
      have x0 : (w1.alloc (.cells #[.int .u64 (hI m), .int .u64 (lI m)] 24)).cell? ⟨w.heap.size, 0, none⟩ = some (.int .u64 (hI x)) := keepc (bl1 _ _) (keepc hb1 (by simp [go_sem]))
      have x1 : (w1.alloc (.cells #[.int .u64 (hI m), .int .u64 (lI m)] 24)).cell? ⟨w.heap.size, 1, none⟩ = some (.int .u64 (lI x)) := keepc (bl1 _ _) (keepc hb1 (by simp [go_sem]))
      have kB2 := (kB.alloc (by have := kB.size; omega) (.cells #[.int .u64 (hI m), .int .u64 (lI m)] 24)).drew
      clear hb1 KL kB
      go_wp2_with fail
      go_region_held3 (fun w' => w'.cell? ⟨w.heap.size, 0, none⟩ = some (.int .u64 (hI x)) ∧ w'.cell? ⟨w.heap.size, 1, none⟩ = some (.int .u64 (lI x)) ∧ w'.cell? ⟨w1.heap.size, 0, none⟩ = some (.int .u64 (hI m)) ∧ w'.cell? ⟨w1.heap.size, 1, none⟩ = some (.int .u64 (lI m)) ∧ Below w.heap.size w w')
        (first
          | (obtain ⟨k1, k2, k3, k4, k9⟩ := ‹_ ∧ _›; exact ⟨keepc hb3 k1, keepc hb3 k2, keepc hb3 k3, keepc hb3 k4, keepb hb3 k9⟩)
          | exact ⟨x0, x1, by simp [go_sem], by simp [go_sem], kB2⟩)
        (first
          | (go_at_call 47; refine (KA _).mono ?_; rintro e w3 ⟨rfl, hb3⟩))
      obtain ⟨-, -, -, -, kB3⟩ := ‹_ ∧ _›
      go_wp2
      go_ret
      exact ⟨rfl, kB3⟩
end Go.Proofs.YtdgmfdfhbhmppaaDoor
/-
  What the calls of package prefix's cut, bit, First, Has, Within, Check do.
-/
namespace Go.Proofs.YtdgmfdfhbhmppaaDoor
open Go.RowKit
set_option linter.unusedSimpArgs false
set_option linter.unusedVariables false

def cutW (x : BitVec 128) (n : Int) : BitVec 128 := x &&& maskW n
def bit1 (i : Int) : BitVec 128 := maskW 1 >>> i.toNat
/-- A prefix in memory. -/
def AtP (w : World) (B : Nat) (x : BitVec 128) (n : Int) : Prop := w.cell? ⟨B, 0, none⟩ = some (.int .u64 (hI x)) ∧ w.cell? ⟨B, 1, none⟩ = some (.int .u64 (lI x)) ∧ w.cell? ⟨B, 2, none⟩ = some (.int .i64 n) ∧ w.frozen? ⟨B, 0, none⟩ = false ∧ w.frozen? ⟨B, 1, none⟩ = false ∧ w.frozen? ⟨B, 2, none⟩ = false
theorem AtP.below {w w' : World} {B : Nat} {x : BitVec 128} {n : Int} (h : AtP w B x n) (hb : Below w.heap.size w w') : AtP w' B x n := by
  obtain ⟨h0, h1, h2, h3, h4, h5⟩ := h
  exact ⟨keepc hb h0, keepc hb h1, keepc hb h2, keepf hb h0 h3, keepf hb h1 h4, keepf hb h2 h5⟩
theorem atp_new (w : World) (B : Nat) (x : BitVec 128) (n : Int) (T : TypeId) (h : B = w.heap.size) : AtP (w.alloc (.cells #[.int .u64 (hI x), .int .u64 (lI x), .int .i64 n] T)) B x n := by
  subst h
  refine ⟨?_, ?_, ?_, ?_, ?_, ?_⟩ <;> simp [go_sem]
theorem bset3 {n C : Nat} {w W : World} (h : Below n w W) (hp : n ≤ C) (u v t : Value) : Below n w (((W.setCell ⟨C, 0, none⟩ u).setCell ⟨C, 1, none⟩ v).setCell ⟨C, 2, none⟩ t) := ((h.setCell hp _).setCell hp _).setCell hp _

set_option maxHeartbeats 1000000 in
theorem cut_any (x : BitVec 128) (n : Int) (w : World) :
    Calls Tryd.prog 24 #[.agg #[.int .u64 (hI x), .int .u64 (lI x)], .int .i64 n] w fun e w' => e = .returned (.agg #[.int .u64 (hI (cutW x n)), .int .u64 (lI (cutW x n)), .int .i64 n]) ∧ Below w.heap.size w w' := by
  have hbl := fun o p => (bl2 w o p).drew
  unfold cutW
  go_enter Tryd.func24, Tryd.ntmps24
  go_wp2
  go_region_held3 (fun w' => w'.cell? ⟨w.heap.size, 0, none⟩ = some (.int .u64 (hI x)) ∧ w'.cell? ⟨w.heap.size, 1, none⟩ = some (.int .u64 (lI x)) ∧ w'.cell? ⟨w.heap.size + 1, 0, none⟩ = some (cv w' (w.heap.size + 1) 0) ∧ w'.cell? ⟨w.heap.size + 1, 1, none⟩ = some (cv w' (w.heap.size + 1) 1) ∧ w'.cell? ⟨w.heap.size + 1, 2, none⟩ = some (cv w' (w.heap.size + 1) 2) ∧ w'.frozen? ⟨w.heap.size + 1, 0, none⟩ = false ∧ w'.frozen? ⟨w.heap.size + 1, 1, none⟩ = false ∧ w'.frozen? ⟨w.heap.size + 1, 2, none⟩ = false ∧ Below w.heap.size w w')
    (first
      | (obtain ⟨k1, k2, k3, k4, k5, k6, k7, k8, k9⟩ := ‹_ ∧ _›; exact ⟨keepc hb2 k1, keepc hb2 k2, cv_of (keepc hb2 k3), cv_of (keepc hb2 k4), cv_of (keepc hb2 k5), keepf hb2 k3 k6, keepf hb2 k4 k7, keepf hb2 k5 k8, keepb hb2 k9⟩)
      | (obtain ⟨k1, k2, k3, k4, k5, k6, k7, k8, k9⟩ := ‹_ ∧ _›; exact ⟨keepc hb1 k1, keepc hb1 k2, cv_of (keepc hb1 k3), cv_of (keepc hb1 k4), cv_of (keepc hb1 k5), keepf hb1 k3 k6, keepf hb1 k4 k7, keepf hb1 k5 k8, keepb hb1 k9⟩)
      | (refine ⟨?_, ?_, cv_new ?_, cv_new ?_, cv_new ?_, ?_, ?_, ?_, ?_⟩ <;> first | (simp [go_sem, *]; done) | exact bset3 (by simp [*]) (by simp) _ _ _))
    (first | (go_at_call 31; refine (mask_any _ _).mono ?_; rintro e w1 ⟨rfl, hb1⟩) | (go_at_call 47; refine (and_any _ _ _).mono ?_; rintro e w2 ⟨rfl, hb2⟩))
  obtain ⟨-, -, -, -, -, -, -, -, kB⟩ := ‹_ ∧ _›
  have e0 : w2.cell? ⟨w.heap.size + 1, 0, none⟩ = some (.int .u64 0) := keepc hb2 (keepc hb1 (by simp [go_sem]))
  have e1 : w2.cell? ⟨w.heap.size + 1, 1, none⟩ = some (.int .u64 0) := keepc hb2 (keepc hb1 (by simp [go_sem]))
  have e2 : w2.cell? ⟨w.heap.size + 1, 2, none⟩ = some (.int .i64 0) := keepc hb2 (keepc hb1 (by simp [go_sem]))
  go_wp2
  exact bodyPost_ret (v := .agg #[.int .u64 (hI (x &&& maskW n)), .int .u64 (lI (x &&& maskW n)), .int .i64 n]) (by simp [results, Tryd.results24, go_sem, e0, e1, e2]) rfl ⟨rfl, kB⟩

theorem pbit_any (i : Int) (w : World) :
    Calls Tryd.prog 26 #[.int .i64 i] w fun e w' => e = .returned (.agg #[.int .u64 (hI (bit1 i)), .int .u64 (lI (bit1 i))]) ∧ Below w.heap.size w w' := by
  unfold bit1
  go_enter Tryd.func26, Tryd.ntmps26
  go_wp2_with fail
  refine (mask_any _ _).mono ?_
  rintro e w1 ⟨rfl, hb1⟩
  have hZ := (at_new w w.heap.size 0#128 24 rfl).below hb1
  have kB := keepb hb1 (bl1 w _)
  clear hb1
  go_wp2_with fail
  refine (shr_any _ _ _).mono ?_
  rintro e w2 ⟨rfl, hb2⟩
  obtain ⟨z0, z1, z2, z3, z4⟩ := hZ.below hb2
  have kB := keepb hb2 kB
  clear hb2 hZ
  go_wp2
  exact bodyPost_ret (v := .agg #[.int .u64 (hI (maskW 1 >>> i.toNat)), .int .u64 (lI (maskW 1 >>> i.toNat))]) (by simp [results, Tryd.results26, go_sem, *]) rfl ⟨rfl, bset2 kB (Nat.le_refl _) _ _⟩

theorem eqw (c x : BitVec 128) : ((hI c == hI x) = true ∧ (lI c == lI x) = true ∧ (c == x) = true) ∨ ((hI c == hI x) = false ∧ (c == x) = false) ∨ ((hI c == hI x) = true ∧ (lI c == lI x) = false ∧ (c == x) = false) := by
  rw [← beq_ints c x]
  cases hI c == hI x <;> cases lI c == lI x <;> simp

theorem pfirst_any (x : BitVec 128) (n : Int) (w : World) :
    Calls Tryd.prog 11 #[.agg #[.int .u64 (hI x), .int .u64 (lI x), .int .i64 n]] w fun e w' => e = .returned (.agg #[.int .u64 (hI x), .int .u64 (lI x)]) ∧ Below w.heap.size w w' := by
  go_enter Tryd.func11, Tryd.ntmps11
  go_wp2
  exact bodyPost_ret (v := .agg #[.int .u64 (hI x), .int .u64 (lI x)]) (by simp [results, Tryd.results11, go_sem]) rfl ⟨rfl, bl2 _ _ _⟩

set_option maxHeartbeats 1000000 in
theorem has_any (x : BitVec 128) (n : Int) (y : BitVec 128) (w : World) :
    Calls Tryd.prog 29 #[.agg #[.int .u64 (hI x), .int .u64 (lI x), .int .i64 n], .agg #[.int .u64 (hI y), .int .u64 (lI y)]] w fun e w' => e = .returned (.bool (cutW y n == x)) ∧ Below w.heap.size w w' := by
  have hbl := fun o p => (bl2 w o p).drew
  have KC := fun w => cut_any y n w
  revert KC
  generalize cutW y n = c
  intro KC
  have hnn : (n == n) = true := by simp
  rcases eqw c x with ⟨q1, q2, q3⟩ | ⟨q1, q3⟩ | ⟨q1, q2, q3⟩
  all_goals
    rw [q3]
    clear q3
    go_enter Tryd.func29, Tryd.ntmps29
    go_wp2
    go_region_held3 (fun w' => w'.cell? ⟨w.heap.size, 0, none⟩ = some (.int .u64 (hI x)) ∧ w'.cell? ⟨w.heap.size, 1, none⟩ = some (.int .u64 (lI x)) ∧ w'.cell? ⟨w.heap.size, 2, none⟩ = some (.int .i64 n) ∧ w'.cell? ⟨w.heap.size + 1, 0, none⟩ = some (.int .u64 (hI y)) ∧ w'.cell? ⟨w.heap.size + 1, 1, none⟩ = some (.int .u64 (lI y)) ∧ Below w.heap.size w w')
      (first
        | (obtain ⟨k1, k2, k3, k4, k5, k9⟩ := ‹_ ∧ _›; exact ⟨keepc hb1 k1, keepc hb1 k2, keepc hb1 k3, keepc hb1 k4, keepc hb1 k5, keepb hb1 k9⟩)
        | (refine ⟨?_, ?_, ?_, ?_, ?_, ?_⟩ <;> first | (simp [go_sem, *]; done) | exact hbl _ _))
      (first | (go_at_call 24; refine (KC _).mono ?_; rintro e w1 ⟨rfl, hb1⟩))
    obtain ⟨-, -, -, -, -, kB⟩ := ‹_ ∧ _›
    go_wp2
    go_ret
    exact ⟨rfl, kB⟩
end Go.Proofs.YtdgmfdfhbhmppaaDoor
/-
  Whole prefixes and words, compared: one answer, without parting the ways.
-/
namespace Go.Proofs.YtdgmfdfhbhmppaaDoor
open Go.RowKit
set_option linter.unusedSimpArgs false
set_option linter.unusedVariables false

theorem eqP_run (x : BitVec 128) (n : Int) (y : BitVec 128) (m : Int) (w : World) :
    (Op.equalIn 10000 26 (.agg #[.int .u64 (hI x), .int .u64 (lI x), .int .i64 n]) (.agg #[.int .u64 (hI y), .int .u64 (lI y), .int .i64 m])).run Tryd.prog w = .ok ((x == y) && (n == m)) w := by
  rcases eqw x y with ⟨q1, q2, q3⟩ | ⟨q1, q3⟩ | ⟨q1, q2, q3⟩
  all_goals
    rw [q3]
    go_simp
    try simp [*]
    try (by_cases e : n = m <;> simp [e])
theorem eqW_run (x y : BitVec 128) (w : World) :
    (Op.equalIn 10000 24 (.agg #[.int .u64 (hI x), .int .u64 (lI x)]) (.agg #[.int .u64 (hI y), .int .u64 (lI y)])).run Tryd.prog w = .ok (x == y) w := by
  rcases eqw x y with ⟨q1, q2, q3⟩ | ⟨q1, q3⟩ | ⟨q1, q2, q3⟩
  all_goals
    rw [q3]
    go_simp
    try simp [*]
end Go.Proofs.YtdgmfdfhbhmppaaDoor
/-
  What the sequence of package prefix's rising tells.
-/
namespace Go.Proofs.YtdgmfdfhbhmppaaDoor
open Go.RowKit Go.Shelf
set_option linter.unusedSimpArgs false
set_option linter.unusedVariables false
attribute [local go_sem] Oper.semAt_some

theorem hidX {p : Prop} (h : p) : Hid p := h
/-- The words that rise by a step. -/
def ris (st : BitVec 128) : Nat → BitVec 128 → List (BitVec 128)
  | 0, x => [x]
  | n + 1, x => x :: ris st n (x + st)
/-- So many steps on it comes to the last one, and no sooner. -/
def RisTo (st la : BitVec 128) : Nat → BitVec 128 → Prop
  | 0, x => x = la
  | n + 1, x => x ≠ la ∧ RisTo st la n (x + st)
theorem ris_len (st : BitVec 128) : ∀ (n : Nat) (x : BitVec 128), (ris st n x).length = n + 1
  | 0, x => rfl
  | n + 1, x => by rw [ris, List.length_cons, ris_len st n]
theorem ris_to (st la : BitVec 128) (hs : 0 < st.toNat) : ∀ (n : Nat) (x : BitVec 128), x.toNat + n * st.toNat = la.toNat → RisTo st la n x
  | 0, x, h => BitVec.eq_of_toNat_eq (by simpa using h)
  | n + 1, x, h => by
    have hl := la.isLt
    have e : (n + 1) * st.toNat = n * st.toNat + st.toNat := Nat.succ_mul n _
    refine ⟨fun q => ?_, ris_to st la hs n (x + st) ?_⟩
    · rw [q] at h
      omega
    · rw [BitVec.toNat_add, Nat.mod_eq_of_lt (by omega)]
      omega
theorem ris_one (st la : BitVec 128) : ∀ (m m' : Nat) (y : BitVec 128), RisTo st la m y → RisTo st la m' y → m = m'
  | 0, 0, y, _, _ => rfl
  | 0, m' + 1, y, h, h' => absurd h h'.1
  | m + 1, 0, y, h, h' => absurd h' h.1
  | m + 1, m' + 1, y, h, h' => by rw [ris_one st la m m' (y + st) h.2 h'.2]
theorem at_one {W : World} {b : Nat} {x y : BitVec 128} (h : At W b x) (g : At W b y) : x = y := by
  have a := h.1.symm.trans g.1
  have b := h.2.1.symm.trans g.2.1
  have a' : hI x = hI y := by simpa using a
  have b' : lI x = lI y := by simpa using b
  rcases eqw x y with ⟨-, -, q⟩ | ⟨q, -⟩ | ⟨-, q, -⟩
  · simpa using q
  · rw [a'] at q
    simp at q
  · rw [b'] at q
    simp at q
theorem mu_ex (st la : BitVec 128) : ∃ mu : Value → World → Nat, ∀ (b : Nat) (y : BitVec 128) (m : Nat) (wr : World), At wr b y → RisTo st la m y → mu (.pointer (some ⟨b, 0, none⟩)) wr = m := by
  classical
  refine ⟨fun p wr => if h : ∃ m : Nat, ∃ b y, p = .pointer (some ⟨b, 0, none⟩) ∧ At wr b y ∧ RisTo st la m y then Classical.choose h else 0, fun b y m wr h1 h2 => ?_⟩
  have hex : ∃ m : Nat, ∃ b' y', (Value.pointer (some ⟨b, 0, none⟩)) = .pointer (some ⟨b', 0, none⟩) ∧ At wr b' y' ∧ RisTo st la m y' := ⟨m, b, y, rfl, h1, h2⟩
  simp only
  rw [dif_pos hex]
  obtain ⟨b', y', e, h3, h4⟩ := Classical.choose_spec hex
  injection e with e
  injection e with e
  injection e with e
  subst e
  have := at_one h1 h3
  subst this
  exact ris_one st la _ _ y h4 h2
def encW (x : BitVec 128) : Array Value := #[.agg #[.int .u64 (hI x), .int .u64 (lI x)]]
theorem below_grownX {w W : World} {r : Option Nat} (h : Below w.heap.size w W) : w.grownBy W r := ⟨h.os, h.tape, h.output, h.size, fun z h1 _ => h.block z h1⟩
/-- What rising's sequence reads. -/
structure RsM (Z : Nat → Prop) (B A L T : Nat) (x la st : BitVec 128) (W : World) : Prop where
  a : At W A x
  l : At W L la
  s : At W T st
  za : Z A ∨ B ≤ A
  zl : Z L ∨ B ≤ L
  zs : Z T ∨ B ≤ T
theorem At.kw {Z : Nat → Prop} {B : Nat} {W W' : World} {b : Nat} {x : BitVec 128} (k : At W b x) (h : KW Z B W W') (hz : Z b ∨ B ≤ b) : At W' b x := by
  obtain ⟨c0, c1, f0, f1, hlt⟩ := k
  have e : W'.heap[b]? = W.heap[b]? := by rw [h.2 b _ (Array.getElem?_eq_getElem hlt) hz, Array.getElem?_eq_getElem hlt]
  exact ⟨(World.cell?_of_block (a := ⟨b, 0, none⟩) e).trans c0, (World.cell?_of_block (a := ⟨b, 1, none⟩) e).trans c1, (World.frozen?_of_block (a := ⟨b, 0, none⟩) e).trans f0, (World.frozen?_of_block (a := ⟨b, 1, none⟩) e).trans f1, Nat.lt_of_lt_of_le hlt h.1⟩
theorem RsM.kw {Z : Nat → Prop} {B A L T : Nat} {x la st : BitVec 128} {W W' : World} (k : RsM Z B A L T x la st W) (h : KW Z B W W') : RsM Z B A L T x la st W' := ⟨k.a.kw h k.za, k.l.kw h k.zl, k.s.kw h k.zs, k.za, k.zl, k.zs⟩
theorem At.setR {W : World} {B : Nat} {x : BitVec 128} (k : At W B x) (y : BitVec 128) : At ((W.setCell ⟨B, 0, none⟩ (.int .u64 (hI y))).setCell ⟨B, 1, none⟩ (.int .u64 (lI y))) B y := by
  obtain ⟨a, b, c, d, e⟩ := k
  refine ⟨?_, ?_, ?_, ?_, ?_⟩ <;> simp [go_sem, *]
set_option maxRecDepth 20000 in
set_option maxHeartbeats 16000000 in
theorem rising1_any (n N : Nat) (Z : Nat → Prop) (B A L T : Nat) (x la st : BitVec 128) (hR : RisTo st la N x) (w : World) (hM : RsM Z B A L T x la st w) :
    SeqX n Tryd.prog 48 #[.pointer (some ⟨A, 0, none⟩), .pointer (some ⟨L, 0, none⟩), .pointer (some ⟨T, 0, none⟩)] encW (KW Z B) (fun ys => ys = ris st N x) (fun pre => pre <+: ris st N x) B w := by
  intro l J Jx W hW hB hJ hJx hY h0
  have HM := hidX (hM.kw (kw_below hW))
  have HJ := hidX hJ
  have HY := hidX hY
  have q0 := bl1 W (.cells #[.int .u64 (hI x), .int .u64 (lI x)] 24)
  have HJ0 := hidX (hJ [] _ _ none h0 (below_grownX q0) (fun r e => by cases e))
  have HX0 := hidX (at_new W W.heap.size x 24 rfl)
  have HM0 := hidX (HM.out.kw (kw_below q0))
  obtain ⟨a0, a1, -⟩ := HM.out.a
  clear hJ hJx hY h0 hM
  refine callsIn_of_wp Tryd.func48 rfl trivial ?_ rfl
  simp only [Tryd.ntmps48, List.size_toArray, List.length_cons, List.length_nil, Nat.reduceAdd, Nat.reduceSub, Array.replicate_succ, Array.replicate_zero, List.push_toArray, List.append_toArray, List.nil_append, List.cons_append]
  gi_wp2
  obtain ⟨mu, hmu⟩ := mu_ex st la
  have HMu := hidX hmu
  clear hmu q0
  have HB : Hid (B ≤ W.heap.size) := hidX hB
  have HW : Hid (W.heap.size ≤ W.heap.size) := hidX (Nat.le_refl _)
  have HR0 := hidX hR
  clear hR hB
  gi_loopw [5] (fun p wr => ∃ (m Bw : Nat) (y : BitVec 128) (pre : List (BitVec 128)), p = .pointer (some ⟨Bw, 0, none⟩) ∧ Hid (pre ++ ris st m y = ris st N x) ∧ Hid (RisTo st la m y) ∧ Hid (At wr Bw y ∧ B ≤ Bw ∧ W.heap.size ≤ wr.heap.size) ∧ Hid (J pre wr) ∧ Hid (RsM Z B A L T x la st wr)) (fun p wr => mu p wr)
  case atStart => exact ⟨N, _, x, [], rfl, hidX rfl, HR0, hidX ⟨HX0.out, HB.out, by simp⟩, HJ0, HM0⟩
  case round =>
    clear HJ0 HX0 HM0 HR0 HM HB HW
    obtain ⟨m, Bw, y, pre, rfl, HP, HR, HA, HJw, HMw⟩ := hrel
    have HPx : Hid (pre ++ [y] <+: ris st N x) := hidX (by
      rw [← HP.out]
      cases m with
      | zero => rw [ris]; exact List.prefix_refl _
      | succ m => exact ⟨ris st m (y + st), by rw [ris]; simp⟩)
    have hmu0 := HMu.out Bw y m wr HA.out.1 HR.out
    have HM0 := hidX hmu0
    clear hmu0
    obtain ⟨fn, tmps, assign, body, hy, hR⟩ := HY.out pre y wr HJw.out HPx.out
    dsimp only [encW] at hy
    obtain ⟨c0, c1, -⟩ := HA.out.1
    gi_wp2
    refine ⟨fun q => (by cases q), hR.mono ?_⟩
    rintro e W3 (⟨rfl, hJ3, hk3⟩ | ⟨rfl, hx3, -⟩)
    · have hA3 := HA.out.1.kw hk3 (.inr HA.out.2.1)
      have HM3 := hidX (HMw.out.kw hk3)
      have HJ3 := hidX hJ3
      have HS3 : Hid (B ≤ Bw ∧ W.heap.size ≤ W3.heap.size) := hidX ⟨HA.out.2.1, Nat.le_trans HA.out.2.2 hk3.1⟩
      have HA3 := hidX hA3
      obtain ⟨d0, d1, d2, d3, -⟩ := hA3
      obtain ⟨l0, l1, -⟩ := HM3.out.l
      obtain ⟨s0, s1, -⟩ := HM3.out.s
      have E1 := fun w => eqW_run y la w
      clear hJ3 hk3 hy hR c0 c1 HA HMw HJw
      cases m with
      | zero =>
        have hyl : y = la := HR.out
        have b1 : (y == la) = true := by simpa using hyl
        rw [b1] at E1
        have HE : Hid (pre ++ [y] = ris st N x) := hidX (by have := HP.out; rwa [ris] at this)
        clear hyl b1 HR HP HM0
        gi_wp2
        go_end0
        exact ⟨⟨_, rfl⟩, .inl ⟨_, HE.out, HJ3.out⟩⟩
      | succ m =>
        have hyl : y ≠ la := HR.out.1
        have b1 : (y == la) = false := by simpa using hyl
        rw [b1] at E1
        have HR2 := hidX HR.out.2
        have HP2 : Hid ((pre ++ [y]) ++ ris st m (y + st) = ris st N x) := hidX (by have := HP.out; rw [ris] at this; simpa using this)
        have K1 := fun w => add_any y st w
        have r1 := bl1 W3 (.cells #[.int .u64 (hI y), .int .u64 (lI y)] 24)
        have n1 := at_new W3 W3.heap.size y 24 rfl
        have m1 := HM3.out.kw (kw_below r1)
        have HN1 := hidX n1
        have HM4 := hidX m1
        have HR1 := hidX r1
        obtain ⟨e0, e1, -⟩ := n1
        obtain ⟨u0, u1, -⟩ := m1.s
        clear hyl b1 HR HP s0 s1 m1 r1
        gi_wp2_with fail
        refine ⟨trivial, fun q => (by cases q), (callsIn_wide.2 (K1 _)).mono ?_⟩
        rintro e W4 ⟨rfl, hb4⟩
        obtain ⟨f0, f1, f2, f3, -⟩ := HN1.out.below hb4
        have HN4 := hidX ((HN1.out.below hb4).setR (y + st))
        have HB4 := hidX (((keepb hb4 HR1.out).setCell (p := ⟨W3.heap.size, 0, none⟩) (Nat.le_refl _) (.int .u64 (hI (y + st)))).setCell (p := ⟨W3.heap.size, 1, none⟩) (Nat.le_refl _) (.int .u64 (lI (y + st))))
        clear hb4 K1
        gi_wp2
        go_roundw
        case rel => exact ⟨m, _, y + st, pre ++ [y], rfl, HP2, HR2, hidX ⟨HN4.out, by have := HS3.out; have := HA3.out.2.2.2.2; omega, Nat.le_trans HS3.out.2 HB4.out.size⟩, hidX (HJ.out _ _ _ none HJ3.out (below_grownX HB4.out) (fun r e => by cases e)), hidX (HM3.out.kw (kw_below HB4.out))⟩
        case measure =>
          have e1 := HMu.out W3.heap.size (y + st) m _ HN4.out HR2.out
          have e2 := HM0.out
          first | (simp only [Array.getD_eq_getD_getElem?, List.getElem?_toArray, List.getElem?_cons_succ, List.getElem?_cons_zero, Option.getD_some]; omega) | (simp at e1 e2 ⊢; omega)
    · have HX3 := hidX hx3
      clear hx3 hy hR HA HMw HJw HP HR HM0
      gi_wp2
      go_end0
      exact ⟨⟨_, rfl⟩, .inr ⟨_, HPx.out, HX3.out⟩⟩
end Go.Proofs.YtdgmfdfhbhmppaaDoor
