/-
  Part 2 of the proof: 9 texts, one behind the other.
-/
import Derived.Test.YtmeaikmmhgmgnaaPart1
import Derived.WalkMore
import Derived.Deep.LoopGhost
import Derived.Deep.RegionHeld3
/-
  What the call of package addr's readFour does.
-/
namespace Go.Proofs.Ytmeaikmmhgmgnaa
open Go.RowKit
set_option linter.unusedSimpArgs false
set_option linter.unusedVariables false

theorem numR_bd (t : ByteArray) : ∀ f k n, 0 ≤ n → n ≤ 255 → 0 ≤ (numR t f k n).1 ∧ (numR t f k n).1 ≤ 255 ∧ 0 ≤ (numR t f k n).2 ∧ (numR t f k n).2 ≤ (k : Int) + f := by
  intro f
  induction f with
  | zero => intro k n h0 h1; exact ⟨h0, h1, by show (0 : Int) ≤ (k : Int); omega, by show (k : Int) ≤ _; omega⟩
  | succ f ih =>
    intro k n h0 h1
    show 0 ≤ (if _ then _ else _ : Int × Int).1 ∧ (if _ then _ else _ : Int × Int).1 ≤ 255 ∧ 0 ≤ (if _ then _ else _ : Int × Int).2 ∧ (if _ then _ else _ : Int × Int).2 ≤ _
    split
    · split
      · simp; omega
      · split
        · simp; omega
        · have := ih (k + 1) (10 * n + (byteAt t k - 48)) (by omega) (by omega)
          omega
    · simp; omega
theorem num_bd (t : ByteArray) : 0 ≤ numV t ∧ numV t ≤ 255 ∧ 0 ≤ numN t ∧ numN t ≤ t.size := by
  have := numR_bd t t.size 0 0 (by omega) (by omega)
  unfold numV numN; omega

/-- Four numbers with points between, from number i on, at place a, x being laid. -/
def fourR (s : ByteArray) : Nat → Nat → Nat → BitVec 128 → BitVec 128 × Bool
  | 0, _, _, _ => (0#128, false)
  | f + 1, i, a, x =>
    if numN (s.extract a s.size) = 0 then (0#128, false)
    else if i = 3 then (layW x i 8 (numV (s.extract a s.size)), decide (a + (numN (s.extract a s.size)).toNat = s.size))
    else if a + (numN (s.extract a s.size)).toNat = s.size ∨ byteAt s (a + (numN (s.extract a s.size)).toNat) ≠ 46 then (0#128, false)
    else fourR s f (i + 1) (a + (numN (s.extract a s.size)).toNat + 1) (layW x i 8 (numV (s.extract a s.size)))
def fourV (s : ByteArray) : BitVec 128 := (fourR s 4 0 0 0#128).1
def fourB (s : ByteArray) : Bool := (fourR s 4 0 0 0#128).2

theorem at_new (w : World) (B : Nat) (x : BitVec 128) (T : TypeId) (h : B = w.heap.size) : At (w.alloc (.cells #[.int .u64 (hI x), .int .u64 (lI x)] T)) B x := by
  subst h
  refine ⟨?_, ?_, ?_, ?_, ?_⟩ <;> simp [go_sem]

theorem bset2 {n C : Nat} {w W : World} (h : Below n w W) (hp : n ≤ C) (u v : Value) : Below n w ((W.setCell ⟨C, 0, none⟩ u).setCell ⟨C, 1, none⟩ v) := (h.setCell hp _).setCell hp _

set_option maxHeartbeats 4000000 in
theorem readFour_any (s : ByteArray) (w : World) (hs : s.size ≤ maxLen) :
    Calls Try.prog 85 #[.string s] w fun e w' => e = .returned (.tuple #[.agg #[.int .u64 (hI (fourV s)), .int .u64 (lI (fourV s))], .bool (fourB s)]) ∧ Below w.heap.size w w' := by
  have KN := fun a w => number_any (s.extract a s.size) w (by simp; omega)
  unfold maxLen at hs
  go_enter Try.func85, Try.ntmps85
  go_wp2
  go_step3
  go_wp2
  go_step3
  go_wp2
  go_loopw [5, 9] (fun p q wr => ∃ (i a : Nat) (x : BitVec 128), p = .int .i64 a ∧ q = .int .i64 i ∧ i ≤ 3 ∧ a ≤ s.size ∧ Hid (fourR s (4 - i) i a x = fourR s 4 0 0 0#128) ∧ At wr (w.heap.size + 1) x ∧ At wr w.heap.size 0#128 ∧ Below w.heap.size w wr) (fun _ q _ => 4 - (intOf q).toNat)
  case atStart =>
    refine ⟨0, 0, 0#128, rfl, rfl, by omega, by omega, rfl, ?_, ?_, bl2 _ _ _⟩
    · refine ⟨?_, ?_, ?_, ?_, ?_⟩ <;> simp [go_sem, hI_zero, lI_zero]
    · refine ⟨?_, ?_, ?_, ?_, ?_⟩ <;> simp [go_sem, hI_zero, lI_zero]
  case round =>
    obtain ⟨i, a, x, rfl, rfl, hi, ha, HR, hA, hZ, hB⟩ := hrel
    have bd := num_bd (s.extract a s.size)
    have ez : (s.extract a s.size).size = s.size - a := by simp
    rw [ez] at bd
    have HU : Hid (4 - i = (4 - (i + 1)) + 1) := by show _ = _; omega
    have HS : Hid (∀ f, fourR s (f + 1) i a x = if numN (s.extract a s.size) = 0 then (0#128, false) else if i = 3 then (layW x i 8 (numV (s.extract a s.size)), decide (a + (numN (s.extract a s.size)).toNat = s.size))
      else if a + (numN (s.extract a s.size)).toNat = s.size ∨ byteAt s (a + (numN (s.extract a s.size)).toNat) ≠ 46 then (0#128, false)
      else fourR s f (i + 1) (a + (numN (s.extract a s.size)).toNat + 1) (layW x i 8 (numV (s.extract a s.size)))) := fun _ => rfl
    have KA := KN a
    clear KN ez
    generalize numV (s.extract a s.size) = v at *
    generalize numN (s.extract a s.size) = z at *
    obtain ⟨v0, v1, z0, z1⟩ := bd
    obtain ⟨z, rfl⟩ := Int.eq_ofNat_of_zero_le z0
    simp only [Int.toNat_natCast] at HS
    have hi4 : (i : Int) < 4 := by omega
    have hlo : (a : Int) ≤ s.size := by omega
    obtain ⟨a0, a1, a2, a3, a4⟩ := id hA
    go_wp2_with fail
    refine (KA _).mono ?_
    rintro e w1 ⟨rfl, rfl⟩
    clear KA
    go_wp2_with fail
    refine (aput_any x i 8 v _ v0 (by omega) (by omega) (by omega) (by omega) (by omega)).mono ?_
    rintro e w2 ⟨rfl, hb2⟩
    have hA2 := (hA.below hb2).set (layW x i 8 v)
    have hZ2 := (hZ.below hb2).other (.int .u64 (hI (layW x i 8 v))) (.int .u64 (lI (layW x i 8 v))) (C := w.heap.size + 1) (by omega)
    have hB2 := bset2 (keepb hb2 hB) (C := w.heap.size + 1) (by omega) (.int .u64 (hI (layW x i 8 v))) (.int .u64 (lI (layW x i 8 v)))
    obtain ⟨b0, b1, b2, b3, b4⟩ := hA.below hb2
    obtain ⟨y0, y1, y2, y3, y4⟩ := hZ.below hb2
    clear hA hZ hB hb2 a0 a1 a2 a3 a4
    generalize layW x i 8 v = x' at *
    have hsum : IntKind.i64.wrap ((a : Int) + z) = ((a + z : Nat) : Int) := by rw [IntKind.wrap_i64]; omega
    by_cases hz : z = 0
    · have HF : Hid (fourV s = 0#128 ∧ fourB s = false) := by
        show _ ∧ _
        unfold fourV fourB; rw [← HR.out, HU.out, HS.out, if_pos (by omega)]; exact ⟨rfl, rfl⟩
      clear HR HU HS
      subst hz
      go_wp2
      rw [Exit.noGoto_ret]
      exact bodyPost_ret (v := .tuple #[.agg #[.int .u64 0, .int .u64 0], .bool false]) (by simp [results, Try.results85, go_sem, *]) rfl ⟨by rw [HF.out.1, HF.out.2, hI_zero, lI_zero], bset2 hB2 (Nat.le_refl _) _ _⟩
    have hz' : ¬ (z : Int) = 0 := by omega
    by_cases h3 : i = 3
    · have HF : Hid (fourV s = x' ∧ fourB s = decide (a + z = s.size)) := by
        show _ ∧ _
        unfold fourV fourB; rw [← HR.out, HU.out, HS.out, if_neg hz', if_pos h3]; exact ⟨rfl, rfl⟩
      clear HR HU HS
      subst h3
      have hd : (((a : Int) + z) == (s.size : Int)) = decide (a + z = s.size) := by rw [Bool.eq_iff_iff]; simp; omega
      go_wp2
      rw [Exit.noGoto_ret]
      exact bodyPost_ret (v := .tuple #[.agg #[.int .u64 (hI x'), .int .u64 (lI x')], .bool (decide (a + z = s.size))]) (by simp [results, Try.results85, go_sem, *]) rfl ⟨by rw [HF.out.1, HF.out.2], bset2 hB2 (Nat.le_refl _) _ _⟩
    have h3' : ¬ (i : Int) = 3 := by omega
    by_cases he : a + z = s.size
    · have HF : Hid (fourV s = 0#128 ∧ fourB s = false) := by
        show _ ∧ _
        unfold fourV fourB; rw [← HR.out, HU.out, HS.out, if_neg hz', if_neg h3, if_pos (Or.inl he)]; exact ⟨rfl, rfl⟩
      clear HR HU HS
      have hq : (a : Int) + z = (s.size : Int) := by omega
      go_wp2
      rw [Exit.noGoto_ret]
      exact bodyPost_ret (v := .tuple #[.agg #[.int .u64 0, .int .u64 0], .bool false]) (by simp [results, Try.results85, go_sem, *]) rfl ⟨by rw [HF.out.1, HF.out.2, hI_zero, lI_zero], bset2 hB2 (Nat.le_refl _) _ _⟩
    obtain ⟨m, HM⟩ : ∃ m, Hid (a + z = m) := ⟨_, rfl⟩
    simp only [HM.out] at HS he
    have hms : m < s.size := by have := HM.out; omega
    have hbt := byteAt_in s m hms
    have hm : (a : Int) + (z : Int) = (m : Int) := by have := HM.out; omega
    clear z1 hsum HM
    have hme : ¬ (m : Int) = (s.size : Int) := by omega
    have hsum : IntKind.i64.wrap (m : Int) = (m : Int) := by rw [IntKind.wrap_i64]; omega
    have hsu1 : IntKind.i64.wrap ((m : Int) + 1) = (m : Int) + 1 := by rw [IntKind.wrap_i64]; omega
    by_cases hc : byteAt s m = 46
    · have HF : Hid (fourR s (4 - (i + 1)) (i + 1) (m + 1) x' = fourR s 4 0 0 0#128) := by
        show _ = _
        rw [← HR.out, HU.out, HS.out, if_neg hz', if_neg h3, if_neg (by simp [he, hc])]
      clear HR HU HS
      rw [hc] at hbt
      clear hc
      go_wp2
      go_roundw
      case rel => exact ⟨i + 1, m + 1, x', by go_num, by go_num, by omega, by omega, HF, hA2, hZ2, hB2⟩
      case measure => simp [intOf]; omega
    · have HF : Hid (fourV s = 0#128 ∧ fourB s = false) := by
        show _ ∧ _
        unfold fourV fourB; rw [← HR.out, HU.out, HS.out, if_neg hz', if_neg h3, if_pos (Or.inr hc)]; exact ⟨rfl, rfl⟩
      clear HR HU HS
      generalize byteAt s m = c at *
      have hcb : (c != 46) = true := by simp [hc]
      go_wp2
      rw [Exit.noGoto_ret]
      exact bodyPost_ret (v := .tuple #[.agg #[.int .u64 0, .int .u64 0], .bool false]) (by simp [results, Try.results85, go_sem, *]) rfl ⟨by rw [HF.out.1, HF.out.2, hI_zero, lI_zero], bset2 hB2 (Nat.le_refl _) _ _⟩
end Go.Proofs.Ytmeaikmmhgmgnaa
/-
  Plain facts on addresses: families, the last address, the step from one to the next. Nothing of the program is imported here.
-/
namespace Go.Proofs.Ytmeaikmmhgmgnaa
open Go.RowKit
set_option linter.unusedSimpArgs false
set_option linter.unusedVariables false

def fam (F : Int) : Bool := decide (F = 32) || decide (F = 128)
theorem fam_ways (F : Int) (h : fam F = true) : F = 32 ∨ F = 128 := by unfold fam at h; simpa using h
theorem fam_no (F : Int) (h : fam F = false) : ¬ F = 32 ∧ ¬ F = 128 := by unfold fam at h; simpa using h
def lastV (F : Int) : BitVec 128 := if fam F = true then maskW F else 0#128
def lastE (F : Int) : Int := if fam F = true then 0 else 11
end Go.Proofs.Ytmeaikmmhgmgnaa
/-
  What the calls of package addr's Last, Right, step, Next and Prev do.
-/
namespace Go.Proofs.Ytmeaikmmhgmgnaa
open Go.RowKit
set_option linter.unusedSimpArgs false
set_option linter.unusedVariables false

set_option maxHeartbeats 1000000 in
theorem alast_any (F : Int) (w : World) :
    Calls Try.prog 33 #[.int .i64 F] w fun e w' => e = .returned (.tuple #[.agg #[.int .u64 (hI (lastV F)), .int .u64 (lI (lastV F))], .int .i64 (lastE F)]) ∧ Below w.heap.size w w' := by
  unfold lastV lastE
  cases h : fam F
  · rw [if_neg (by simp), if_neg (by simp), hI_zero, lI_zero]
    obtain ⟨h1, h2⟩ := fam_no F h
    have b1 : (F != 32) = true := by simp [h1]
    have b2 : (F != 128) = true := by simp [h2]
    clear h
    go_enter Try.func33, Try.ntmps33
    go_wp2
    exact bodyPost_ret (v := .tuple #[.agg #[.int .u64 0, .int .u64 0], .int .i64 11]) (by simp [results, Try.results33, go_sem]) rfl ⟨rfl, bl1 _ _⟩
  · rw [if_pos rfl, if_pos rfl]
    rcases fam_ways F h with rfl | rfl
    all_goals
      clear h
      go_enter Try.func33, Try.ntmps33
      go_wp2_with fail
      refine (mask_any _ _).mono ?_
      rintro e w1 ⟨rfl, hb1⟩
      have hZ := (at_new w w.heap.size 0#128 36 rfl).below hb1
      have kB := keepb hb1 (bl1 w _)
      obtain ⟨z0, z1, z2, z3, z4⟩ := hZ
      clear hb1
      go_wp2
      exact bodyPost_ret (by simp [results, Try.results33, go_sem, *]) rfl ⟨rfl, bset2 kB (Nat.le_refl _) _ _⟩

end Go.Proofs.Ytmeaikmmhgmgnaa
/-
  What the calls of package prefix's cut, bit, First, Has, Within, Check do.
-/
namespace Go.Proofs.Ytmeaikmmhgmgnaa
open Go.RowKit
set_option linter.unusedSimpArgs false
set_option linter.unusedVariables false

def cutW (x : BitVec 128) (n : Int) : BitVec 128 := x &&& maskW n
/-- A prefix in memory. -/
def AtP (w : World) (B : Nat) (x : BitVec 128) (n : Int) : Prop := w.cell? ⟨B, 0, none⟩ = some (.int .u64 (hI x)) ∧ w.cell? ⟨B, 1, none⟩ = some (.int .u64 (lI x)) ∧ w.cell? ⟨B, 2, none⟩ = some (.int .i64 n) ∧ w.frozen? ⟨B, 0, none⟩ = false ∧ w.frozen? ⟨B, 1, none⟩ = false ∧ w.frozen? ⟨B, 2, none⟩ = false
theorem AtP.below {w w' : World} {B : Nat} {x : BitVec 128} {n : Int} (h : AtP w B x n) (hb : Below w.heap.size w w') : AtP w' B x n := by
  obtain ⟨h0, h1, h2, h3, h4, h5⟩ := h
  exact ⟨keepc hb h0, keepc hb h1, keepc hb h2, keepf hb h0 h3, keepf hb h1 h4, keepf hb h2 h5⟩
theorem atp_new (w : World) (B : Nat) (x : BitVec 128) (n : Int) (T : TypeId) (h : B = w.heap.size) : AtP (w.alloc (.cells #[.int .u64 (hI x), .int .u64 (lI x), .int .i64 n] T)) B x n := by
  subst h
  refine ⟨?_, ?_, ?_, ?_, ?_, ?_⟩ <;> simp [go_sem]
theorem bset3 {n C : Nat} {w W : World} (h : Below n w W) (hp : n ≤ C) (u v t : Value) : Below n w (((W.setCell ⟨C, 0, none⟩ u).setCell ⟨C, 1, none⟩ v).setCell ⟨C, 2, none⟩ t) := ((h.setCell hp _).setCell hp _).setCell hp _

set_option maxHeartbeats 1000000 in
theorem cut_any (x : BitVec 128) (n : Int) (w : World) :
    Calls Try.prog 69 #[.agg #[.int .u64 (hI x), .int .u64 (lI x)], .int .i64 n] w fun e w' => e = .returned (.agg #[.int .u64 (hI (cutW x n)), .int .u64 (lI (cutW x n)), .int .i64 n]) ∧ Below w.heap.size w w' := by
  have hbl := fun o p => (bl2 w o p).drew
  unfold cutW
  go_enter Try.func69, Try.ntmps69
  go_wp2
  go_region_held3 (fun w' => w'.cell? ⟨w.heap.size, 0, none⟩ = some (.int .u64 (hI x)) ∧ w'.cell? ⟨w.heap.size, 1, none⟩ = some (.int .u64 (lI x)) ∧ w'.cell? ⟨w.heap.size + 1, 0, none⟩ = some (cv w' (w.heap.size + 1) 0) ∧ w'.cell? ⟨w.heap.size + 1, 1, none⟩ = some (cv w' (w.heap.size + 1) 1) ∧ w'.cell? ⟨w.heap.size + 1, 2, none⟩ = some (cv w' (w.heap.size + 1) 2) ∧ w'.frozen? ⟨w.heap.size + 1, 0, none⟩ = false ∧ w'.frozen? ⟨w.heap.size + 1, 1, none⟩ = false ∧ w'.frozen? ⟨w.heap.size + 1, 2, none⟩ = false ∧ Below w.heap.size w w')
    (first
      | (obtain ⟨k1, k2, k3, k4, k5, k6, k7, k8, k9⟩ := ‹_ ∧ _›; exact ⟨keepc hb2 k1, keepc hb2 k2, cv_of (keepc hb2 k3), cv_of (keepc hb2 k4), cv_of (keepc hb2 k5), keepf hb2 k3 k6, keepf hb2 k4 k7, keepf hb2 k5 k8, keepb hb2 k9⟩)
      | (obtain ⟨k1, k2, k3, k4, k5, k6, k7, k8, k9⟩ := ‹_ ∧ _›; exact ⟨keepc hb1 k1, keepc hb1 k2, cv_of (keepc hb1 k3), cv_of (keepc hb1 k4), cv_of (keepc hb1 k5), keepf hb1 k3 k6, keepf hb1 k4 k7, keepf hb1 k5 k8, keepb hb1 k9⟩)
      | (refine ⟨?_, ?_, cv_new ?_, cv_new ?_, cv_new ?_, ?_, ?_, ?_, ?_⟩ <;> first | (simp [go_sem, *]; done) | exact bset3 (by simp [*]) (by simp) _ _ _))
    (first | (go_at_call 47; refine (mask_any _ _).mono ?_; rintro e w1 ⟨rfl, hb1⟩) | (go_at_call 79; refine (and_any _ _ _).mono ?_; rintro e w2 ⟨rfl, hb2⟩))
  obtain ⟨-, -, -, -, -, -, -, -, kB⟩ := ‹_ ∧ _›
  have e0 : w2.cell? ⟨w.heap.size + 1, 0, none⟩ = some (.int .u64 0) := keepc hb2 (keepc hb1 (by simp [go_sem]))
  have e1 : w2.cell? ⟨w.heap.size + 1, 1, none⟩ = some (.int .u64 0) := keepc hb2 (keepc hb1 (by simp [go_sem]))
  have e2 : w2.cell? ⟨w.heap.size + 1, 2, none⟩ = some (.int .i64 0) := keepc hb2 (keepc hb1 (by simp [go_sem]))
  go_wp2
  exact bodyPost_ret (v := .agg #[.int .u64 (hI (x &&& maskW n)), .int .u64 (lI (x &&& maskW n)), .int .i64 n]) (by simp [results, Try.results69, go_sem, e0, e1, e2]) rfl ⟨rfl, kB⟩

theorem eqw (c x : BitVec 128) : ((hI c == hI x) = true ∧ (lI c == lI x) = true ∧ (c == x) = true) ∨ ((hI c == hI x) = false ∧ (c == x) = false) ∨ ((hI c == hI x) = true ∧ (lI c == lI x) = false ∧ (c == x) = false) := by
  rw [← beq_ints c x]
  cases hI c == hI x <;> cases lI c == lI x <;> simp

set_option maxHeartbeats 1000000 in
theorem has_any (x : BitVec 128) (n : Int) (y : BitVec 128) (w : World) :
    Calls Try.prog 72 #[.agg #[.int .u64 (hI x), .int .u64 (lI x), .int .i64 n], .agg #[.int .u64 (hI y), .int .u64 (lI y)]] w fun e w' => e = .returned (.bool (cutW y n == x)) ∧ Below w.heap.size w w' := by
  have hbl := fun o p => (bl2 w o p).drew
  have KC := fun w => cut_any y n w
  revert KC
  generalize cutW y n = c
  intro KC
  have hnn : (n == n) = true := by simp
  rcases eqw c x with ⟨q1, q2, q3⟩ | ⟨q1, q3⟩ | ⟨q1, q2, q3⟩
  all_goals
    rw [q3]
    clear q3
    go_enter Try.func72, Try.ntmps72
    go_wp2
    go_region_held3 (fun w' => w'.cell? ⟨w.heap.size, 0, none⟩ = some (.int .u64 (hI x)) ∧ w'.cell? ⟨w.heap.size, 1, none⟩ = some (.int .u64 (lI x)) ∧ w'.cell? ⟨w.heap.size, 2, none⟩ = some (.int .i64 n) ∧ w'.cell? ⟨w.heap.size + 1, 0, none⟩ = some (.int .u64 (hI y)) ∧ w'.cell? ⟨w.heap.size + 1, 1, none⟩ = some (.int .u64 (lI y)) ∧ Below w.heap.size w w')
      (first
        | (obtain ⟨k1, k2, k3, k4, k5, k9⟩ := ‹_ ∧ _›; exact ⟨keepc hb1 k1, keepc hb1 k2, keepc hb1 k3, keepc hb1 k4, keepc hb1 k5, keepb hb1 k9⟩)
        | (refine ⟨?_, ?_, ?_, ?_, ?_, ?_⟩ <;> first | (simp [go_sem, *]; done) | exact hbl _ _))
      (first | (go_at_call 69; refine (KC _).mono ?_; rintro e w1 ⟨rfl, hb1⟩))
    obtain ⟨-, -, -, -, -, kB⟩ := ‹_ ∧ _›
    go_wp2
    go_ret
    exact ⟨rfl, kB⟩
end Go.Proofs.Ytmeaikmmhgmgnaa
/-
  Plain numbers, more: how many noughts stand first; what a stretch of bits is; a stretch laid in bit by bit.
-/
namespace Go.Proofs.Ytmeaikmmhgmgnaa
open Go.RowKit
set_option linter.unusedSimpArgs false
set_option linter.unusedVariables false

/-- How many noughts stand first. -/
def leadN (z : BitVec 128) : Nat := if z.toNat = 0 then 128 else 127 - z.toNat.log2
theorem lead_wide (v : BitVec 128) (n : Int) (h0 : 0 ≤ n) (h1 : n ≤ 128) : ((leadN v : Nat) : Int) < 128 - n ↔ ¬ v >>> n.toNat = 0#128 := by
  have hv := v.isLt
  have key : v >>> n.toNat = 0#128 ↔ v.toNat < 2 ^ n.toNat := by
    constructor
    · intro h
      have := congrArg BitVec.toNat h
      rw [BitVec.toNat_ushiftRight, Nat.shiftRight_eq_div_pow] at this
      have this2 : v.toNat / 2 ^ n.toNat = 0 := this
      rcases Nat.div_eq_zero_iff.mp this2 with h0 | h0
      · have := Nat.two_pow_pos n.toNat; omega
      · exact h0
    · intro h
      apply BitVec.eq_of_toNat_eq
      rw [BitVec.toNat_ushiftRight, Nat.shiftRight_eq_div_pow, Nat.div_eq_of_lt h]; rfl
  rw [key]
  unfold leadN
  split
  · rename_i h
    rw [h]; have := Nat.two_pow_pos n.toNat
    constructor
    · intro; omega
    · intro; omega
  · rename_i h
    have hl : v.toNat.log2 < 128 := (Nat.log2_lt h).mpr hv
    have := Nat.log2_lt (k := n.toNat) h
    constructor
    · intro g g2
      have := this.mpr g2; omega
    · intro g
      have : ¬ v.toNat.log2 < n.toNat := fun q => g (this.mp q)
      omega

end Go.Proofs.Ytmeaikmmhgmgnaa
/-
  Plain numbers: the sum of a number's bits, as it is reckoned by halves.
-/
namespace Go.Proofs.Ytmeaikmmhgmgnaa
open Go.RowKit
set_option linter.unusedSimpArgs false
set_option linter.unusedVariables false

def ocB (b : Nat) : Nat := b % 2 + b / 2 % 2 + b / 4 % 2 + b / 8 % 2 + b / 16 % 2 + b / 32 % 2 + b / 64 % 2 + b / 128 % 2
def bm (f : Nat → Nat) : Nat → Nat → Nat
  | 0, _ => 0
  | k + 1, x => f (x % 256) + 256 * bm f k (x / 256)
def mm (m : Nat) : Nat → Nat
  | 0 => 0
  | k + 1 => m + 256 * mm m k
def f1 (b : Nat) : Nat := ((b / 2) &&& 85) + (b &&& 85)
def f2 (b : Nat) : Nat := ((b / 4) &&& 51) + (b &&& 51)
theorem and_split (a m M : Nat) (hm : m < 256) : a &&& (m + 256 * M) = ((a % 256) &&& m) + 256 * ((a / 256) &&& M) := by
  have h1 : (a &&& (m + 256 * M)) % 2 ^ 8 = (a % 2 ^ 8) &&& ((m + 256 * M) % 2 ^ 8) := Nat.and_mod_two_pow
  have h2 : (a &&& (m + 256 * M)) / 2 ^ 8 = (a / 2 ^ 8) &&& ((m + 256 * M) / 2 ^ 8) := Nat.and_div_two_pow
  have e1 : (m + 256 * M) % 2 ^ 8 = m := by omega
  have e2 : (m + 256 * M) / 2 ^ 8 = M := by omega
  rw [e1] at h1
  rw [e2] at h2
  have e3 : (2 : Nat) ^ 8 = 256 := by decide
  rw [e3] at h1 h2
  have := Nat.div_add_mod (a &&& (m + 256 * M)) 256
  omega
set_option maxRecDepth 100000 in
theorem b1 : ∀ b : Fin 256, ∀ c : Fin 2, (b.val / 2 + 128 * c.val) &&& 85 = (b.val / 2) &&& 85 := by decide +kernel
theorem b2 : ∀ b : Fin 256, ∀ c : Fin 4, (b.val / 4 + 64 * c.val) &&& 51 = (b.val / 4) &&& 51 := by decide +kernel
theorem b3 : ∀ b : Fin 256, ∀ c : Fin 5, (f2 (f1 b.val) / 16 + 16 * c.val + f2 (f1 b.val)) &&& 15 = ocB b.val := by decide +kernel
theorem b4 : ∀ b : Fin 256, f1 b.val < 256 ∧ f2 (f1 b.val) % 16 ≤ 4 ∧ f2 (f1 b.val) / 16 ≤ 4 ∧ ocB b.val ≤ 8 ∧ ocB (255 - b.val) + ocB b.val = 8 := by decide +kernel
theorem l1 (k : Nat) : ∀ x, ((x / 2) &&& mm 85 k) + (x &&& mm 85 k) = bm f1 k x := by
  induction k with
  | zero => intro x; simp [mm, bm]
  | succ k ih =>
    intro x
    simp only [mm, bm]
    rw [and_split _ 85 _ (by decide), and_split _ 85 _ (by decide)]
    have e1 : (x / 2) % 256 = (x % 256) / 2 + 128 * (x / 256 % 2) := by omega
    have e2 : x / 2 / 256 = x / 256 / 2 := by omega
    have hb := b1 ⟨x % 256, by omega⟩ ⟨x / 256 % 2, by omega⟩
    have := ih (x / 256)
    rw [e1, e2]
    simp only at hb
    rw [hb]
    have hf : f1 (x % 256) = ((x % 256 / 2) &&& 85) + ((x % 256) &&& 85) := rfl
    omega
theorem l2 (k : Nat) : ∀ x, ((x / 4) &&& mm 51 k) + (x &&& mm 51 k) = bm f2 k x := by
  induction k with
  | zero => intro x; simp [mm, bm]
  | succ k ih =>
    intro x
    simp only [mm, bm]
    rw [and_split _ 51 _ (by decide), and_split _ 51 _ (by decide)]
    have e1 : (x / 4) % 256 = (x % 256) / 4 + 64 * (x / 256 % 4) := by omega
    have e2 : x / 4 / 256 = x / 256 / 4 := by omega
    have hb := b2 ⟨x % 256, by omega⟩ ⟨x / 256 % 4, by omega⟩
    have := ih (x / 256)
    rw [e1, e2]
    simp only at hb
    rw [hb]
    have hf : f2 (x % 256) = ((x % 256 / 4) &&& 51) + ((x % 256) &&& 51) := rfl
    omega
theorem bm_bm (k : Nat) : ∀ x, bm f2 k (bm f1 k x) = bm (fun b => f2 (f1 b)) k x := by
  induction k with
  | zero => intro x; rfl
  | succ k ih =>
    intro x
    have h := (b4 ⟨x % 256, by omega⟩).1
    simp only at h
    simp only [bm]
    have e1 : (f1 (x % 256) + 256 * bm f1 k (x / 256)) % 256 = f1 (x % 256) := by omega
    have e2 : (f1 (x % 256) + 256 * bm f1 k (x / 256)) / 256 = bm f1 k (x / 256) := by omega
    rw [e1, e2, ih]
theorem bm_mod (k : Nat) (x : Nat) : bm (fun b => f2 (f1 b)) k x % 16 ≤ 4 := by
  cases k with
  | zero => simp [bm]
  | succ k =>
    have h := (b4 ⟨x % 256, by omega⟩).2.1
    simp only at h
    simp only [bm]; omega
theorem l3 (k : Nat) : ∀ x, (bm (fun b => f2 (f1 b)) k x / 16 + bm (fun b => f2 (f1 b)) k x) &&& mm 15 k = bm ocB k x := by
  induction k with
  | zero => intro x; simp [mm, bm]
  | succ k ih =>
    intro x
    simp only [mm]
    rw [and_split _ 15 _ (by decide)]
    have hm := bm_mod k (x / 256)
    have h := (b4 ⟨x % 256, by omega⟩).2.1
    have h' := (b4 ⟨x % 256, by omega⟩).2.2.1
    have hb := b3 ⟨x % 256, by omega⟩ ⟨bm (fun b => f2 (f1 b)) k (x / 256) % 16, by omega⟩
    have := ih (x / 256)
    simp only [bm] at *
    generalize bm (fun b => f2 (f1 b)) k (x / 256) = y at *
    generalize f2 (f1 (x % 256)) = g at *
    have e1 : ((g + 256 * y) / 16 + (g + 256 * y)) % 256 = g / 16 + 16 * (y % 16) + g := by omega
    have e2 : ((g + 256 * y) / 16 + (g + 256 * y)) / 256 = y / 16 + y := by omega
    rw [e1, e2, hb, this]
theorem key (n a B z : Nat) (h : a < n) (e : z = a + n * B) : z / n = B := by
  rw [e, Nat.add_mul_div_left _ _ (by omega), Nat.div_eq_of_lt h]; omega
end Go.Proofs.Ytmeaikmmhgmgnaa
/-
  What the calls of math/bits that count do.
-/
namespace Go.Proofs.Ytmeaikmmhgmgnaa
open Go.RowKit
set_option linter.unusedSimpArgs false
set_option linter.unusedVariables false

theorem len_sum (x y : Int) (k : Nat) (hx : 0 ≤ x) (hy : y = x / 2 ^ k) (h : 0 < y ∨ k = 0) : ((bitLen x.toNat : Nat) : Int) = k + bitLen y.toNat := by
  rcases h with h | h
  · have e : y.toNat = x.toNat / 2 ^ k := by
      rw [hy]
      obtain ⟨n, rfl⟩ := Int.eq_ofNat_of_zero_le hx
      have : ((n : Int) / 2 ^ k) = ((n / 2 ^ k : Nat) : Int) := by simp
      rw [this]; rfl
    have h2 : x.toNat / 2 ^ k ≠ 0 := by omega
    rw [bitLen_shift x.toNat k h2, e]; omega
  · subst h; simp at hy; subst hy; simp
theorem len_wrap (k : Int) (a : Nat) (ha : a ≤ 8) (h0 : 0 ≤ k) (h1 : k ≤ 56) : wrap64 (k + wrap64 (a : Int)) = k + a := by
  unfold wrap64; omega
theorem len_wrap0 (a : Nat) (ha : a ≤ 8) : wrap64 (wrap64 (a : Int)) = (a : Int) := by
  unfold wrap64; omega

set_option maxHeartbeats 1000000 in
set_option maxRecDepth 1000000 in
theorem len_0 (x : Int) (w : World) (h0 : 0 ≤ x) (h1 : x < 18446744073709551616) (a0 : ¬ 4294967296 ≤ x) (a1 : ¬ 65536 ≤ x) (a2 : ¬ 256 ≤ x) :
    Calls Try.prog 98 #[.int .u64 x] w fun e w' => e = .returned (.int .i64 ((bitLen x.toNat : Nat) : Int)) ∧ w' = w := by
  have hy : 0 ≤ x ∧ x < 256 := by omega
  have HF : Hid (((bitLen x.toNat : Nat) : Int) = 0 + bitLen (x).toNat) := len_sum x (x) 0 h0 (by omega) (by omega)
  go_enter Try.func98, Try.ntmps98
  go_wp2
  go_ret
  refine ⟨congrArg Ending.returned (congrArg (Value.int IntKind.i64) ?_), rfl⟩
  rw [HF.out, len8tab_get]
  rw [len_wrap0 _ (bitLen_le8 _ (by omega))]; omega
set_option maxHeartbeats 1000000 in
set_option maxRecDepth 1000000 in
theorem len_1 (x : Int) (w : World) (h0 : 0 ≤ x) (h1 : x < 18446744073709551616) (a0 : ¬ 4294967296 ≤ x) (a1 : ¬ 65536 ≤ x) (a2 : 256 ≤ x) :
    Calls Try.prog 98 #[.int .u64 x] w fun e w' => e = .returned (.int .i64 ((bitLen x.toNat : Nat) : Int)) ∧ w' = w := by
  have hy : 0 ≤ (x / 256) ∧ (x / 256) < 256 := by omega
  have HF : Hid (((bitLen x.toNat : Nat) : Int) = 8 + bitLen ((x / 256)).toNat) := len_sum x ((x / 256)) 8 h0 (by omega) (by omega)
  go_enter Try.func98, Try.ntmps98
  go_wp2
  go_ret
  refine ⟨congrArg Ending.returned (congrArg (Value.int IntKind.i64) ?_), rfl⟩
  rw [HF.out, len8tab_get]
  exact len_wrap 8 _ (bitLen_le8 _ (by omega)) (by omega) (by omega)
set_option maxHeartbeats 1000000 in
set_option maxRecDepth 1000000 in
theorem len_2 (x : Int) (w : World) (h0 : 0 ≤ x) (h1 : x < 18446744073709551616) (a0 : ¬ 4294967296 ≤ x) (a1 : 65536 ≤ x) (a2 : ¬ 256 ≤ (x / 65536)) :
    Calls Try.prog 98 #[.int .u64 x] w fun e w' => e = .returned (.int .i64 ((bitLen x.toNat : Nat) : Int)) ∧ w' = w := by
  have hy : 0 ≤ (x / 65536) ∧ (x / 65536) < 256 := by omega
  have HF : Hid (((bitLen x.toNat : Nat) : Int) = 16 + bitLen ((x / 65536)).toNat) := len_sum x ((x / 65536)) 16 h0 (by omega) (by omega)
  go_enter Try.func98, Try.ntmps98
  go_wp2
  go_ret
  refine ⟨congrArg Ending.returned (congrArg (Value.int IntKind.i64) ?_), rfl⟩
  rw [HF.out, len8tab_get]
  exact len_wrap 16 _ (bitLen_le8 _ (by omega)) (by omega) (by omega)
set_option maxHeartbeats 1000000 in
set_option maxRecDepth 1000000 in
theorem len_3 (x : Int) (w : World) (h0 : 0 ≤ x) (h1 : x < 18446744073709551616) (a0 : ¬ 4294967296 ≤ x) (a1 : 65536 ≤ x) (a2 : 256 ≤ (x / 65536)) :
    Calls Try.prog 98 #[.int .u64 x] w fun e w' => e = .returned (.int .i64 ((bitLen x.toNat : Nat) : Int)) ∧ w' = w := by
  have hy : 0 ≤ ((x / 65536) / 256) ∧ ((x / 65536) / 256) < 256 := by omega
  have HF : Hid (((bitLen x.toNat : Nat) : Int) = 24 + bitLen (((x / 65536) / 256)).toNat) := len_sum x (((x / 65536) / 256)) 24 h0 (by omega) (by omega)
  go_enter Try.func98, Try.ntmps98
  go_wp2
  go_ret
  refine ⟨congrArg Ending.returned (congrArg (Value.int IntKind.i64) ?_), rfl⟩
  rw [HF.out, len8tab_get]
  exact len_wrap 24 _ (bitLen_le8 _ (by omega)) (by omega) (by omega)
set_option maxHeartbeats 1000000 in
set_option maxRecDepth 1000000 in
theorem len_4 (x : Int) (w : World) (h0 : 0 ≤ x) (h1 : x < 18446744073709551616) (a0 : 4294967296 ≤ x) (a1 : ¬ 65536 ≤ (x / 4294967296)) (a2 : ¬ 256 ≤ (x / 4294967296)) :
    Calls Try.prog 98 #[.int .u64 x] w fun e w' => e = .returned (.int .i64 ((bitLen x.toNat : Nat) : Int)) ∧ w' = w := by
  have hy : 0 ≤ (x / 4294967296) ∧ (x / 4294967296) < 256 := by omega
  have HF : Hid (((bitLen x.toNat : Nat) : Int) = 32 + bitLen ((x / 4294967296)).toNat) := len_sum x ((x / 4294967296)) 32 h0 (by omega) (by omega)
  go_enter Try.func98, Try.ntmps98
  go_wp2
  go_ret
  refine ⟨congrArg Ending.returned (congrArg (Value.int IntKind.i64) ?_), rfl⟩
  rw [HF.out, len8tab_get]
  exact len_wrap 32 _ (bitLen_le8 _ (by omega)) (by omega) (by omega)
set_option maxHeartbeats 1000000 in
set_option maxRecDepth 1000000 in
theorem len_5 (x : Int) (w : World) (h0 : 0 ≤ x) (h1 : x < 18446744073709551616) (a0 : 4294967296 ≤ x) (a1 : ¬ 65536 ≤ (x / 4294967296)) (a2 : 256 ≤ (x / 4294967296)) :
    Calls Try.prog 98 #[.int .u64 x] w fun e w' => e = .returned (.int .i64 ((bitLen x.toNat : Nat) : Int)) ∧ w' = w := by
  have hy : 0 ≤ ((x / 4294967296) / 256) ∧ ((x / 4294967296) / 256) < 256 := by omega
  have HF : Hid (((bitLen x.toNat : Nat) : Int) = 40 + bitLen (((x / 4294967296) / 256)).toNat) := len_sum x (((x / 4294967296) / 256)) 40 h0 (by omega) (by omega)
  go_enter Try.func98, Try.ntmps98
  go_wp2
  go_ret
  refine ⟨congrArg Ending.returned (congrArg (Value.int IntKind.i64) ?_), rfl⟩
  rw [HF.out, len8tab_get]
  exact len_wrap 40 _ (bitLen_le8 _ (by omega)) (by omega) (by omega)
set_option maxHeartbeats 1000000 in
set_option maxRecDepth 1000000 in
theorem len_6 (x : Int) (w : World) (h0 : 0 ≤ x) (h1 : x < 18446744073709551616) (a0 : 4294967296 ≤ x) (a1 : 65536 ≤ (x / 4294967296)) (a2 : ¬ 256 ≤ ((x / 4294967296) / 65536)) :
    Calls Try.prog 98 #[.int .u64 x] w fun e w' => e = .returned (.int .i64 ((bitLen x.toNat : Nat) : Int)) ∧ w' = w := by
  have hy : 0 ≤ ((x / 4294967296) / 65536) ∧ ((x / 4294967296) / 65536) < 256 := by omega
  have HF : Hid (((bitLen x.toNat : Nat) : Int) = 48 + bitLen (((x / 4294967296) / 65536)).toNat) := len_sum x (((x / 4294967296) / 65536)) 48 h0 (by omega) (by omega)
  go_enter Try.func98, Try.ntmps98
  go_wp2
  go_ret
  refine ⟨congrArg Ending.returned (congrArg (Value.int IntKind.i64) ?_), rfl⟩
  rw [HF.out, len8tab_get]
  exact len_wrap 48 _ (bitLen_le8 _ (by omega)) (by omega) (by omega)
set_option maxHeartbeats 1000000 in
set_option maxRecDepth 1000000 in
theorem len_7 (x : Int) (w : World) (h0 : 0 ≤ x) (h1 : x < 18446744073709551616) (a0 : 4294967296 ≤ x) (a1 : 65536 ≤ (x / 4294967296)) (a2 : 256 ≤ ((x / 4294967296) / 65536)) :
    Calls Try.prog 98 #[.int .u64 x] w fun e w' => e = .returned (.int .i64 ((bitLen x.toNat : Nat) : Int)) ∧ w' = w := by
  have hy : 0 ≤ (((x / 4294967296) / 65536) / 256) ∧ (((x / 4294967296) / 65536) / 256) < 256 := by omega
  have HF : Hid (((bitLen x.toNat : Nat) : Int) = 56 + bitLen ((((x / 4294967296) / 65536) / 256)).toNat) := len_sum x ((((x / 4294967296) / 65536) / 256)) 56 h0 (by omega) (by omega)
  go_enter Try.func98, Try.ntmps98
  go_wp2
  go_ret
  refine ⟨congrArg Ending.returned (congrArg (Value.int IntKind.i64) ?_), rfl⟩
  rw [HF.out, len8tab_get]
  exact len_wrap 56 _ (bitLen_le8 _ (by omega)) (by omega) (by omega)
theorem len_any (x : Int) (w : World) (h0 : 0 ≤ x) (h1 : x < 18446744073709551616) :
    Calls Try.prog 98 #[.int .u64 x] w fun e w' => e = .returned (.int .i64 ((bitLen x.toNat : Nat) : Int)) ∧ w' = w := by
  by_cases a0 : 4294967296 ≤ x
  · by_cases a1 : 65536 ≤ (x / 4294967296)
    · by_cases a2 : 256 ≤ ((x / 4294967296) / 65536)
      · exact len_7 x w h0 h1 a0 a1 a2
      · exact len_6 x w h0 h1 a0 a1 a2
    · by_cases a2 : 256 ≤ (x / 4294967296)
      · exact len_5 x w h0 h1 a0 a1 a2
      · exact len_4 x w h0 h1 a0 a1 a2
  · by_cases a1 : 65536 ≤ x
    · by_cases a2 : 256 ≤ (x / 65536)
      · exact len_3 x w h0 h1 a0 a1 a2
      · exact len_2 x w h0 h1 a0 a1 a2
    · by_cases a2 : 256 ≤ x
      · exact len_1 x w h0 h1 a0 a1 a2
      · exact len_0 x w h0 h1 a0 a1 a2

theorem wrapu_nat (n : Nat) (h : n < 18446744073709551616) : IntKind.u64.wrap (n : Int) = (n : Int) := wrap_nat n h
theorem m85 : mm 85 8 = 6148914691236517205 := by decide
theorem m51 : mm 51 8 = 3689348814741910323 := by decide
theorem m15 : mm 15 8 = 1085102592571150095 := by decide
theorem bm_lt (f : Nat → Nat) (hf : ∀ b : Fin 256, f b.val < 256) (k : Nat) : ∀ x, bm f k x < 256 ^ k := by
  induction k with
  | zero => intro x; simp [bm]
  | succ k ih =>
    intro x; have := ih (x / 256); have h := hf ⟨x % 256, by omega⟩; simp only at h
    simp only [bm]; rw [Nat.pow_succ]; omega
theorem bm1_lt (x : Nat) : bm f1 8 x < 18446744073709551616 := bm_lt f1 (fun b => (b4 b).1) 8 x
theorem bm2_lt (x : Nat) : bm (fun b => f2 (f1 b)) 8 x < 4 * 256 ^ 8 / 8 := by
  have h : ∀ k x, bm (fun b => f2 (f1 b)) k x ≤ 68 * mm 1 k := by
    intro k; induction k with
    | zero => intro x; simp [bm, mm]
    | succ k ih =>
      intro x; have := ih (x / 256); have h1 := (b4 ⟨x % 256, by omega⟩).2.1; have h2 := (b4 ⟨x % 256, by omega⟩).2.2.1; simp only at h1 h2
      simp only [bm, mm]; omega
  have := h 8 x
  have e : mm 1 8 = 72340172838076673 := by decide
  rw [e] at this; omega
theorem s1 (x : Nat) (h : x < 18446744073709551616) : IntKind.u64.wrap (bits .and .u64 ((x : Int) / 2) 6148914691236517205 + bits .and .u64 (x : Int) 6148914691236517205) = ((bm f1 8 x : Nat) : Int) := by
  have e : ((x : Int) / 2) = ((x / 2 : Nat) : Int) := by omega
  have a1 : bits .and .u64 ((x / 2 : Nat) : Int) 6148914691236517205 = ((x / 2 &&& 6148914691236517205 : Nat) : Int) := bits_and_u64_nat (x / 2) 6148914691236517205 (by omega) (by decide)
  have a2 : bits .and .u64 (x : Int) 6148914691236517205 = ((x &&& 6148914691236517205 : Nat) : Int) := bits_and_u64_nat x 6148914691236517205 h (by decide)
  have l := l1 8 x
  rw [m85] at l
  rw [e, a1, a2, ← Int.natCast_add, l]
  exact wrapu_nat _ (bm1_lt x)
theorem s2 (x : Nat) : IntKind.u64.wrap (bits .and .u64 (((bm f1 8 x : Nat) : Int) / 4) 3689348814741910323 + bits .and .u64 ((bm f1 8 x : Nat) : Int) 3689348814741910323) = ((bm (fun b => f2 (f1 b)) 8 x : Nat) : Int) := by
  have h := bm1_lt x
  have e : (((bm f1 8 x : Nat) : Int) / 4) = ((bm f1 8 x / 4 : Nat) : Int) := by omega
  have a1 : bits .and .u64 ((bm f1 8 x / 4 : Nat) : Int) 3689348814741910323 = ((bm f1 8 x / 4 &&& 3689348814741910323 : Nat) : Int) := bits_and_u64_nat (bm f1 8 x / 4) 3689348814741910323 (by omega) (by decide)
  have a2 : bits .and .u64 ((bm f1 8 x : Nat) : Int) 3689348814741910323 = ((bm f1 8 x &&& 3689348814741910323 : Nat) : Int) := bits_and_u64_nat (bm f1 8 x) 3689348814741910323 h (by decide)
  have l := l2 8 (bm f1 8 x)
  rw [m51, bm_bm] at l
  rw [e, a1, a2, ← Int.natCast_add, l]
  have := bm2_lt x
  exact wrapu_nat _ (by omega)
theorem s3 (x : Nat) : bits .and .u64 (IntKind.u64.wrap (((bm (fun b => f2 (f1 b)) 8 x : Nat) : Int) / 16 + ((bm (fun b => f2 (f1 b)) 8 x : Nat) : Int))) 1085102592571150095 = ((bm ocB 8 x : Nat) : Int) := by
  have h := bm2_lt x
  have l := l3 8 x
  rw [m15] at l
  generalize bm (fun b => f2 (f1 b)) 8 x = y at *
  have e : ((y : Int) / 16 + (y : Int)) = ((y / 16 + y : Nat) : Int) := by omega
  have a1 : bits .and .u64 ((y / 16 + y : Nat) : Int) 1085102592571150095 = (((y / 16 + y) &&& 1085102592571150095 : Nat) : Int) := bits_and_u64_nat (y / 16 + y) 1085102592571150095 (by omega) (by decide)
  rw [e, wrapu_nat _ (by omega), a1, l]

end Go.Proofs.Ytmeaikmmhgmgnaa
/-
  What the calls of package word that count do.
-/
namespace Go.Proofs.Ytmeaikmmhgmgnaa
open Go.RowKit
set_option linter.unusedSimpArgs false
set_option linter.unusedVariables false

theorem lead_hi (x : BitVec 128) (h : ¬ hI x = 0) : 64 - bitLen (hI x).toNat = leadN x ∧ bitLen (hI x).toNat ≤ 64 := by
  have e : (hI x).toNat = x.toNat / 2 ^ 64 := by rw [hIN]; rfl
  have hlo := hI_lo x
  have hn : x.toNat / 2 ^ 64 ≠ 0 := by omega
  have hx : x.toNat ≠ 0 := by intro h0; rw [h0] at hn; simp at hn
  have hs := bitLen_shift x.toNat 64 hn
  have hl : x.toNat.log2 < 128 := (Nat.log2_lt hx).mpr x.isLt
  rw [e]
  unfold leadN; rw [if_neg hx]
  have hb : bitLen x.toNat = x.toNat.log2 + 1 := by unfold bitLen; rw [if_neg hx]
  constructor <;> omega
theorem lead_lo (x : BitVec 128) (h : hI x = 0) : 64 + (64 - bitLen (lI x).toNat) = leadN x ∧ bitLen (lI x).toNat ≤ 64 := by
  have e : (lI x).toNat = x.toNat := by rw [lIN]; rw [hIN] at h; omega
  have hlt : x.toNat < 2 ^ 64 := by have := lI_up x; have := lI_lo x; omega
  rw [e]
  unfold leadN bitLen
  by_cases hx : x.toNat = 0
  · simp [hx]
  · rw [if_neg hx, if_neg hx]
    have := (Nat.log2_lt hx).mpr hlt
    constructor <;> omega

set_option maxHeartbeats 1000000 in
theorem lead_any (x : BitVec 128) (w : World) :
    Calls Try.prog 81 #[.agg #[.int .u64 (hI x), .int .u64 (lI x)]] w fun e w' => e = .returned (.int .i64 ((leadN x : Nat) : Int)) ∧ Below w.heap.size w w' := by
  by_cases h : hI x = 0
  · have hl := lead_lo x h
    have hc := fun w => len_any (lI x) w (lI_lo x) (lI_up x)
    generalize bitLen (lI x).toNat = a at *
    obtain ⟨h1, h2⟩ := hl
    have HE : Hid (64 + (64 - a) = leadN x) := h1
    clear h1
    have a1 : (a : Int) ≤ 64 := by omega
    go_enter Try.func81, Try.ntmps81
    go_wp2_with (first | (go_at_call 98; refine (hc _).mono ?_; rintro e w' ⟨rfl, rfl⟩) | go_in)
    go_ret
    refine ⟨congrArg Ending.returned (congrArg (Value.int IntKind.i64) ?_), bl1 _ _⟩
    rw [← HE.out]
    show (64 : Int) + (64 - (a : Int)) = _
    omega
  · have hl := lead_hi x h
    have hc := fun w => len_any (hI x) w (hI_lo x) (hI_up x)
    generalize bitLen (hI x).toNat = a at *
    obtain ⟨h1, h2⟩ := hl
    have HE : Hid (64 - a = leadN x) := h1
    clear h1
    have a1 : (a : Int) ≤ 64 := by omega
    go_enter Try.func81, Try.ntmps81
    go_wp2_with (first | (go_at_call 98; refine (hc _).mono ?_; rintro e w' ⟨rfl, rfl⟩) | go_in)
    go_ret
    refine ⟨congrArg Ending.returned (congrArg (Value.int IntKind.i64) ?_), bl1 _ _⟩
    rw [← HE.out]
    show (64 : Int) - (a : Int) = _
    omega

set_option maxHeartbeats 1000000 in
theorem wcommon_any (x y : BitVec 128) (w : World) :
    Calls Try.prog 73 #[.agg #[.int .u64 (hI x), .int .u64 (lI x)], .agg #[.int .u64 (hI y), .int .u64 (lI y)]] w fun e w' => e = .returned (.int .i64 ((leadN (x ^^^ y) : Nat) : Int)) ∧ Below w.heap.size w w' := by
  go_enter Try.func73, Try.ntmps73
  go_wp2_with fail
  refine (xor_any _ _ _).mono ?_
  rintro e w1 ⟨rfl, hb1⟩
  go_wp2_with fail
  refine (lead_any _ _).mono ?_
  rintro e w2 ⟨rfl, hb2⟩
  have kB := keepb hb2 (keepb hb1 (bl2 w _ _))
  clear hb1 hb2
  go_wp2
  go_ret
  exact ⟨rfl, kB⟩
end Go.Proofs.Ytmeaikmmhgmgnaa
/-
  What the calls of package prefix's Within, Check, Of, Parent, Sibling, Meet, Cmp do.
-/
namespace Go.Proofs.Ytmeaikmmhgmgnaa
open Go.RowKit
set_option linter.unusedSimpArgs false
set_option linter.unusedVariables false

def withinB (x : BitVec 128) (n : Int) (y : BitVec 128) (m : Int) : Bool := decide (m ≤ n) && (cutW x m == y)
set_option maxHeartbeats 1000000 in
theorem pwithin_any (x : BitVec 128) (n : Int) (y : BitVec 128) (m : Int) (w : World) :
    Calls Try.prog 57 #[.agg #[.int .u64 (hI x), .int .u64 (lI x), .int .i64 n], .agg #[.int .u64 (hI y), .int .u64 (lI y), .int .i64 m]] w fun e w' => e = .returned (.bool (withinB x n y m)) ∧ Below w.heap.size w w' := by
  have KH := fun w => has_any y m x w
  unfold withinB
  generalize (cutW x m == y) = b at *
  by_cases h : m ≤ n
  · simp only [h, decide_true, Bool.true_and]
    go_enter Try.func57, Try.ntmps57
    go_wp2_with fail
    refine (KH _).mono ?_
    rintro e w1 ⟨rfl, hb1⟩
    have kB := keepb hb1 (bl2 w _ _)
    clear hb1
    go_wp2
    go_ret
    exact ⟨rfl, kB⟩
  · simp only [h, decide_false, Bool.false_and]
    go_enter Try.func57, Try.ntmps57
    go_wp2
    go_ret
    exact ⟨rfl, bl2 _ _ _⟩

def checkE (F : Int) (x : BitVec 128) (n : Int) : Int := if fam F = true then (if n < 0 then 13 else if F < n then 13 else if (cutW x n == x) = true then 0 else 14) else 11
set_option maxHeartbeats 1000000 in
theorem pcheck_any (F : Int) (x : BitVec 128) (n : Int) (w : World) :
    Calls Try.prog 51 #[.int .i64 F, .agg #[.int .u64 (hI x), .int .u64 (lI x), .int .i64 n]] w fun e w' => e = .returned (.int .i64 (checkE F x n)) ∧ Below w.heap.size w w' := by
  have KL := fun w => alast_any F w
  unfold lastV lastE at KL
  unfold checkE
  cases h : fam F
  · rw [if_neg (by simp)]
    rw [h, if_neg (by simp), if_neg (by simp), hI_zero, lI_zero] at KL
    clear h
    go_enter Try.func51, Try.ntmps51
    go_wp2_with fail
    refine (KL _).mono ?_
    rintro e w1 ⟨rfl, hb1⟩
    have kB := keepb hb1 (bl1 w _)
    clear hb1 KL
    go_wp2
    go_ret
    exact ⟨rfl, kB.alloc (by have := kB.size; omega) _⟩
  · rw [if_pos rfl]
    rw [h, if_pos rfl, if_pos rfl] at KL
    clear h
    generalize maskW F = m at *
    have KC := fun w => cut_any x n w
    revert KC
    generalize cutW x n = c
    intro KC
    have hnn : (n == n) = true := by simp
    by_cases h0 : n < 0
    · rw [if_pos h0]
      go_enter Try.func51, Try.ntmps51
      go_wp2_with fail
      refine (KL _).mono ?_
      rintro e w1 ⟨rfl, hb1⟩
      have kB := keepb hb1 (bl1 w _)
      obtain ⟨p0, p1, p2, -, -, -⟩ := ((atp_new w w.heap.size x n 38 rfl).below hb1).below (bl1 _ (.cells #[.int .u64 (hI m), .int .u64 (lI m)] 36))
      clear hb1 KL
      go_wp2
      go_ret
      exact ⟨rfl, kB.alloc (by have := kB.size; omega) _⟩
    by_cases h1 : F < n
    · rw [if_neg h0, if_pos h1]
      go_enter Try.func51, Try.ntmps51
      go_wp2_with fail
      refine (KL _).mono ?_
      rintro e w1 ⟨rfl, hb1⟩
      have kB := keepb hb1 (bl1 w _)
      obtain ⟨p0, p1, p2, -, -, -⟩ := ((atp_new w w.heap.size x n 38 rfl).below hb1).below (bl1 _ (.cells #[.int .u64 (hI m), .int .u64 (lI m)] 36))
      clear hb1 KL
      go_wp2
      go_ret
      exact ⟨rfl, kB.alloc (by have := kB.size; omega) _⟩
    rw [if_neg h0, if_neg h1]
    rcases eqw c x with ⟨q1, q2, q3⟩ | ⟨q1, q3⟩ | ⟨q1, q2, q3⟩
    all_goals
      rw [q3]
      first | rw [if_pos rfl] | rw [if_neg (by simp)]
      clear q3
      go_enter Try.func51, Try.ntmps51
      go_wp2_with fail
      refine (KL _).mono ?_
      rintro e w1 ⟨rfl, hb1⟩
      have kB := keepb hb1 (bl1 w _)
      obtain ⟨p0, p1, p2, -, -, -⟩ := ((atp_new w w.heap.size x n 38 rfl).below hb1).below (bl1 _ (.cells #[.int .u64 (hI m), .int .u64 (lI m)] 36))
      have kB2 := (kB.alloc (by have := kB.size; omega) (.cells #[.int .u64 (hI m), .int .u64 (lI m)] 36)).drew
      clear hb1 KL kB
      go_wp2_with fail
      go_region_held3 (fun w' => w'.cell? ⟨w.heap.size, 0, none⟩ = some (.int .u64 (hI x)) ∧ w'.cell? ⟨w.heap.size, 1, none⟩ = some (.int .u64 (lI x)) ∧ w'.cell? ⟨w.heap.size, 2, none⟩ = some (.int .i64 n) ∧ Below w.heap.size w w')
        (first
          | (obtain ⟨k1, k2, k3, k9⟩ := ‹_ ∧ _›; exact ⟨keepc hb3 k1, keepc hb3 k2, keepc hb3 k3, keepb hb3 k9⟩)
          | exact ⟨p0, p1, p2, kB2⟩)
        (first | (go_at_call 69; refine (KC _).mono ?_; rintro e w3 ⟨rfl, hb3⟩))
      obtain ⟨-, -, -, kB3⟩ := ‹_ ∧ _›
      go_wp2
      go_ret
      exact ⟨rfl, kB3⟩

end Go.Proofs.Ytmeaikmmhgmgnaa
