/-
  Part 5 of the proof: 10 texts, one behind the other.
-/
import Derived.Test.YtkgfeegcdohkdabDoorPart2
import Derived.Test.YtkgfeegcdohkdabDoorPart1
import Derived.Test.YtkgfeegcdohkdabDoorPart3
import Derived.Deep.QuietTactic
import Derived.BigQuiet
import Derived.Test.YtkgfeegcdohkdabDoorPart4
import Derived.Lib.Strings
import Derived.Laws.IdiomStrings
/-
  What the calls of package addr's beside, Next and Prev do.
-/
namespace Go.Proofs.YtkgfeegcdohkdabDoor
open Go.RowKit
set_option linter.unusedSimpArgs false
set_option linter.unusedVariables false

theorem At.drew {w : World} {B : Nat} {x : BitVec 128} (h : At w B x) : At w.drew B x := h
theorem at_zero {w : World} {B : Nat} (h0 : w.cell? ⟨B, 0, none⟩ = some (.int .u64 0)) (h1 : w.cell? ⟨B, 1, none⟩ = some (.int .u64 0)) (f0 : w.frozen? ⟨B, 0, none⟩ = false) (f1 : w.frozen? ⟨B, 1, none⟩ = false) (z : BitVec 128) :
    At ((w.setCell ⟨B, 0, none⟩ (.int .u64 (hI z))).setCell ⟨B, 1, none⟩ (.int .u64 (lI z))) B z :=
  At.set (x := 0#128) z ⟨by rw [hI_zero]; exact h0, by rw [lI_zero]; exact h1, f0, f1, cell_in h0⟩

set_option maxHeartbeats 4000000 in
theorem besideAdd_yes (F : Int) (x y z : BitVec 128) (ov : Bool) (w : World) (KR : ∀ w, Calls Tryd.prog 45 #[.int .i64 F, .agg #[.int .u64 (hI x), .int .u64 (lI x)]] w fun e w' => e = .returned (.int .i64 0) ∧ Below w.heap.size w w')
    (KS : ∀ w, Calls Tryd.prog 66 #[.int .i64 F] w fun e w' => e = .returned (.agg #[.int .u64 (hI y), .int .u64 (lI y)]) ∧ Below w.heap.size w w')
    (KM : ∀ w, Calls Tryd.prog 50 #[.agg #[.int .u64 (hI x), .int .u64 (lI x)], .agg #[.int .u64 (hI y), .int .u64 (lI y)]] w fun e w' => e = .returned (.tuple #[.agg #[.int .u64 (hI z), .int .u64 (lI z)], .bool ov]) ∧ Below w.heap.size w w') :
    Calls Tryd.prog 49 #[.int .i64 F, .agg #[.int .u64 (hI x), .int .u64 (lI x)], .func (.func 50) #[] #[]] w fun e w' => e = .returned (.tuple #[.agg #[.int .u64 (hI (if ov = true then 0#128 else z)), .int .u64 (lI (if ov = true then 0#128 else z))], .bool (!ov)]) ∧ Below w.heap.size w w' := by
  go_enter Tryd.func49, Tryd.ntmps49
  go_wp2_with fail
  refine (KR _).mono ?_
  rintro e w1 ⟨rfl, hb1⟩
  clear KR
  have hX := ((at_new w w.heap.size x 35 rfl).below (bl1 _ (.cells #[.int .u64 0, .int .u64 0] 35))).below hb1
  have hZ := (at_new (w.alloc (.cells #[.int .u64 (hI x), .int .u64 (lI x)] 35)) (w.heap.size + 1) 0#128 35 (by simp)).below hb1
  have kB := keepb hb1 (bl2 w _ _)
  clear hb1
  obtain ⟨x0, x1, x2, x3, x4⟩ := id hX
  have z4 := hZ.2.2.2.2
  have n1 : ¬ w1.heap.size = w.heap.size := by omega
  go_wp2_with fail
  rename_i Q' K hK
  have tail : ∀ (N : Nat) (W : World), At W N z → At W (w.heap.size + 1) 0#128 → Below w.heap.size w W → ¬ N = w.heap.size + 1 → (Exit.then K Q') .normal { tmps := #[.int .i64 F, .agg #[.int .u64 (hI x), .int .u64 (lI x)], .func (.func 50) #[] #[], undef, .pointer (some ⟨w.heap.size, 0, none⟩), undef, .pointer (some ⟨w.heap.size + 1, 0, none⟩), .bool false, .pointer (some ⟨N, 0, none⟩), .bool ov, .int .i64 F, .agg #[.int .u64 (hI x), .int .u64 (lI x)], .int .i64 0, .bool false, undef, .tuple #[.agg #[.int .u64 (hI z), .int .u64 (lI z)], .bool ov], .func (.func 50) #[] #[], .agg #[.int .u64 (hI x), .int .u64 (lI x)], .int .i64 F, .agg #[.int .u64 (hI y), .int .u64 (lI y)], .tuple #[.agg #[.int .u64 (hI z), .int .u64 (lI z)], .bool ov], .agg #[.int .u64 (hI z), .int .u64 (lI z)], .bool ov, undef, undef, undef], defers := [] } W := by
    intro N W hN hZ' hB' hn
    obtain ⟨a0, a1, a2, a3, a4⟩ := hN
    obtain ⟨b0, b1, b2, b3, b4⟩ := hZ'
    clear x0 x1 x2 x3 x4 hX hZ KS KM
    cases ov
    · go_wp2
      exact bodyPost_ret (v := .tuple #[.agg #[.int .u64 (hI z), .int .u64 (lI z)], .bool true]) (by simp [results, Tryd.results49, go_sem, *]) rfl ⟨by simp [hI_zero, lI_zero], bset2 hB' (by omega) _ _⟩
    · go_wp2
      exact bodyPost_ret (v := .tuple #[.agg #[.int .u64 0, .int .u64 0], .bool false]) (by simp [results, Tryd.results49, go_sem, *]) rfl ⟨by simp [hI_zero, lI_zero], bset2 hB' (by omega) _ _⟩
  go_region_with (first | (go_at_call 66; refine (KS _).mono ?_; rintro e w2 ⟨rfl, hb2⟩; have p0 : w2.cell? ⟨w.heap.size, 0, none⟩ = some (.int .u64 (hI x)) := keepc hb2 (by simp [go_sem, *]); have p1 : w2.cell? ⟨w.heap.size, 1, none⟩ = some (.int .u64 (lI x)) := keepc hb2 (by simp [go_sem, *]); have n3 : ¬ w2.heap.size = w.heap.size := (fun e => by have := cell_in p0; omega); have l3 := cell_in p0; (try (refine (fun (c0 : w2.cell? ⟨w1.heap.size, 0, none⟩ = some (.int .u64 0)) => ?_) (keepc hb2 ?_); rotate_left; (focus (simp [go_sem]; done)))); (try (refine (fun (c1 : w2.cell? ⟨w1.heap.size, 1, none⟩ = some (.int .u64 0)) => ?_) (keepc hb2 ?_); rotate_left; (focus (simp [go_sem]; done)))); (try (refine (fun (g0 : w2.frozen? ⟨w1.heap.size, 0, none⟩ = false) => ?_) (keepf hb2 (v := .int .u64 0) ?_ ?_); rotate_left; (focus (simp [go_sem]; done)); (focus (simp [go_sem]; done)))); (try (refine (fun (g1 : w2.frozen? ⟨w1.heap.size, 1, none⟩ = false) => ?_) (keepf hb2 (v := .int .u64 0) ?_ ?_); rotate_left; (focus (simp [go_sem]; done)); (focus (simp [go_sem]; done)))); have hZ2 : At w2 (w.heap.size + 1) 0#128 := At.below (by first | exact hZ.drew | exact (hZ.below (bl1 _ _)).drew | exact hZ | exact hZ.below (bl1 _ _)) hb2; have kB2 : Below w.heap.size w w2 := keepb hb2 (by first | exact kB.drew | exact (kB.alloc (by omega) _).drew | exact kB | exact kB.alloc (by omega) _)) | (go_at_call 50; refine (KM _).mono ?_; rintro e w3 ⟨rfl, hb3⟩; (try (have d0 := keepc hb3 c0; have d1 := keepc hb3 c1; have e0 := keepf hb3 c0 g0; have e1 := keepf hb3 c1 g1)); (try (refine (fun (d2 : w3.cell? ⟨w2.heap.size, 0, none⟩ = some (.int .u64 0)) => ?_) (keepc hb3 ?_); rotate_left; (focus (simp [go_sem]; done)))); (try (refine (fun (d3 : w3.cell? ⟨w2.heap.size, 1, none⟩ = some (.int .u64 0)) => ?_) (keepc hb3 ?_); rotate_left; (focus (simp [go_sem]; done)))); (try (refine (fun (e2 : w3.frozen? ⟨w2.heap.size, 0, none⟩ = false) => ?_) (keepf hb3 (v := .int .u64 0) ?_ ?_); rotate_left; (focus (simp [go_sem]; done)); (focus (simp [go_sem]; done)))); (try (refine (fun (e3 : w3.frozen? ⟨w2.heap.size, 1, none⟩ = false) => ?_) (keepf hb3 (v := .int .u64 0) ?_ ?_); rotate_left; (focus (simp [go_sem]; done)); (focus (simp [go_sem]; done)))); have hZ3 : At w3 (w.heap.size + 1) 0#128 := At.below (by first | exact hZ2 | exact hZ2.below (bl1 _ _)) hb3; have kB3 : Below w.heap.size w w3 := keepb hb3 (by first | exact kB2 | exact kB2.alloc kB2.size _)))
  all_goals
    have z5 := hZ3.2.2.2.2
    have z6 := hZ2.2.2.2.2
  all_goals first
    | exact tail w3.heap.size _ (at_new w3 w3.heap.size z _ rfl) (hZ3.below (bl1 _ _)) (kB3.alloc kB3.size _) (Nat.ne_of_gt z5)
    | exact tail w2.heap.size _ (at_zero d2 d3 e2 e3 z) (hZ3.other _ _ (Nat.ne_of_lt z6)) (bset2 kB3 kB2.size _ _) (Nat.ne_of_gt z6)
    | exact tail w1.heap.size _ (at_zero d0 d1 e0 e1 z) (hZ3.other _ _ (Nat.ne_of_lt z4)) (bset2 kB3 kB.size _ _) (Nat.ne_of_gt z4)

set_option maxHeartbeats 4000000 in
theorem besideAdd_no (F : Int) (x : BitVec 128) (r : Int) (w : World) (hr : ¬ r = 0) (KR : ∀ w, Calls Tryd.prog 45 #[.int .i64 F, .agg #[.int .u64 (hI x), .int .u64 (lI x)]] w fun e w' => e = .returned (.int .i64 r) ∧ Below w.heap.size w w') :
    Calls Tryd.prog 49 #[.int .i64 F, .agg #[.int .u64 (hI x), .int .u64 (lI x)], .func (.func 50) #[] #[]] w fun e w' => e = .returned (.tuple #[.agg #[.int .u64 0, .int .u64 0], .bool false]) ∧ Below w.heap.size w w' := by
  have hb : (r != 0) = true := by simp [hr]
  go_enter Tryd.func49, Tryd.ntmps49
  go_wp2_with fail
  refine (KR _).mono ?_
  rintro e w1 ⟨rfl, hb1⟩
  clear KR
  have hZ := (at_new (w.alloc (.cells #[.int .u64 (hI x), .int .u64 (lI x)] 35)) (w.heap.size + 1) 0#128 35 (by simp)).below hb1
  have kB := keepb hb1 (bl2 w _ _)
  clear hb1
  obtain ⟨z0, z1, z2, z3, z4⟩ := hZ
  go_wp2
  exact bodyPost_ret (v := .tuple #[.agg #[.int .u64 0, .int .u64 0], .bool false]) (by simp [results, Tryd.results49, go_sem, *]) rfl ⟨rfl, bset2 kB (by omega) _ _⟩

theorem besideAdd_any (F : Int) (x : BitVec 128) (w : World) :
    Calls Tryd.prog 49 #[.int .i64 F, .agg #[.int .u64 (hI x), .int .u64 (lI x)], .func (.func 50) #[] #[]] w fun e w' => e = .returned (.tuple #[.agg #[.int .u64 (hI (nextV F x)), .int .u64 (lI (nextV F x))], .bool (nextB F x)]) ∧ Below w.heap.size w w' := by
  have KR := fun w => aright_any F x w
  by_cases hr : rightE F x = 0
  · have hf := (right0 F x hr).1
    have hF : 0 ≤ F ∧ F ≤ 128 := by rcases fam_ways F hf with rfl | rfl <;> omega
    rw [hr] at KR
    have h := besideAdd_yes F x (stepW F) (x + stepW F) (overB x (stepW F)) w KR (fun w => step_any F w hF.1 hF.2) (fun w => add_any x (stepW F) w)
    have e1 : nextB F x = !overB x (stepW F) := by unfold nextB; simp [hr]
    have e2 : nextV F x = if overB x (stepW F) = true then 0#128 else x + stepW F := by
      unfold nextV; rw [e1]; cases overB x (stepW F) <;> rfl
    rw [e1, e2]; exact h
  · have h := besideAdd_no F x (rightE F x) w hr KR
    have e1 : nextB F x = false := by unfold nextB; simp [hr]
    have e2 : nextV F x = 0#128 := by unfold nextV; rw [e1]; rfl
    rw [e1, e2, hI_zero, lI_zero]; exact h

set_option maxHeartbeats 1000000 in
theorem anext_any (F : Int) (x : BitVec 128) (w : World) :
    Calls Tryd.prog 25 #[.int .i64 F, .agg #[.int .u64 (hI x), .int .u64 (lI x)]] w fun e w' => e = .returned (.tuple #[.agg #[.int .u64 (hI (nextV F x)), .int .u64 (lI (nextV F x))], .bool (nextB F x)]) ∧ Below w.heap.size w w' := by
  have KB := fun w => besideAdd_any F x w
  generalize nextV F x = y at *
  generalize nextB F x = b at *
  go_enter Tryd.func25, Tryd.ntmps25
  go_wp2_with fail
  refine (KB _).mono ?_
  rintro e w1 ⟨rfl, hb1⟩
  clear KB
  have hZ := (at_new (w.alloc (.cells #[.int .u64 (hI x), .int .u64 (lI x)] 35)) (w.heap.size + 1) 0#128 35 (by simp)).below hb1
  have kB := keepb hb1 (bl2 w _ _)
  clear hb1
  obtain ⟨z0, z1, z2, z3, z4⟩ := hZ
  go_wp2
  exact bodyPost_ret (v := .tuple #[.agg #[.int .u64 (hI y), .int .u64 (lI y)], .bool b]) (by simp [results, Tryd.results25, go_sem, *]) rfl ⟨rfl, bset2 kB (by omega) _ _⟩

end Go.Proofs.YtkgfeegcdohkdabDoor
/-
  What each call of turnpikeref1's Add and Sub does.
-/
namespace Go.Proofs.YtkgfeegcdohkdabDoor
open Go.RowKit
set_option linter.unusedSimpArgs false
set_option linter.unusedVariables false

/-- The sum of the upper halves, as it wraps. -/
def hs (x y : BitVec 128) : Int := IntKind.u64.wrap (hI x + hI y)
theorem wrapu (n : Int) : IntKind.u64.wrap n = n % 18446744073709551616 := by simp [IntKind.wrap, IntKind.bits, IntKind.signed]
theorem lo_sum (x y : BitVec 128) : IntKind.u64.wrap (lI x + lI y) = lI (x + y) := by
  rw [wrapu, lIN, lIN, lIN, BitVec.toNat_add]; omega
theorem hi_sum1 (x y : BitVec 128) (h : lI (x + y) < lI x) : IntKind.u64.wrap (hs x y + 1) = hI (x + y) := by
  unfold hs; rw [wrapu, wrapu]; rw [lIN, lIN, BitVec.toNat_add] at h; rw [hIN, hIN, hIN, BitVec.toNat_add]
  have := x.isLt; have := y.isLt; omega
theorem hi_sum0 (x y : BitVec 128) (h : ¬ lI (x + y) < lI x) : IntKind.u64.wrap (hs x y) = hI (x + y) := by
  unfold hs; rw [wrapu, wrapu]; rw [lIN, lIN, BitVec.toNat_add] at h; rw [hIN, hIN, hIN, BitVec.toNat_add]
  have := x.isLt; have := y.isLt; omega
theorem over_of (x y : BitVec 128) : overB x y = (decide (hs x y < hI x) || decide (hI (x + y) < hs x y)) := by
  rw [Bool.eq_iff_iff]; simp only [Bool.or_eq_true, decide_eq_true_eq]
  unfold overB hs; simp only [decide_eq_true_eq]; rw [wrapu, hIN, hIN, hIN, BitVec.toNat_add]
  have := x.isLt; have := y.isLt; omega

/-- The difference of the upper halves, as it wraps. -/
def hd (x y : BitVec 128) : Int := IntKind.u64.wrap (hI x - hI y)
theorem lo_dif (x y : BitVec 128) : IntKind.u64.wrap (lI x - lI y) = lI (x - y) := by
  rw [wrapu, lIN, lIN, lIN, BitVec.toNat_sub]
  have := x.isLt; have := y.isLt; omega
theorem hi_dif1 (x y : BitVec 128) (h : lI x < lI y) : IntKind.u64.wrap (hd x y - 1) = hI (x - y) := by
  unfold hd; rw [wrapu, wrapu]; rw [lIN, lIN] at h; rw [hIN, hIN, hIN, BitVec.toNat_sub]
  have := x.isLt; have := y.isLt; omega
theorem hi_dif0 (x y : BitVec 128) (h : ¬ lI x < lI y) : IntKind.u64.wrap (hd x y) = hI (x - y) := by
  unfold hd; rw [wrapu, wrapu]; rw [lIN, lIN] at h; rw [hIN, hIN, hIN, BitVec.toNat_sub]
  have := x.isLt; have := y.isLt; omega
theorem cmp_under (x y : BitVec 128) : decide (cmpZ x y < 0) = underB x y := by
  rw [Bool.eq_iff_iff]; simp only [decide_eq_true_eq]; exact cmp_lt x y

end Go.Proofs.YtkgfeegcdohkdabDoor
/-
  What the calls of turnpikeref2's IsFamily, Right, Last, one, Next and Prev do.
-/
namespace Go.Proofs.YtkgfeegcdohkdabDoor
open Go.RowKit
set_option linter.unusedSimpArgs false
set_option linter.unusedVariables false

theorem isFamily_any (F : Int) (w : World) :
    Calls Tryd.prog 67 #[.int .i64 F] w fun e w' => e = .returned (.bool (fam F)) ∧ w' = w := by
  unfold fam
  by_cases h1 : F = 32
  · subst h1
    go_enter Tryd.func67, Tryd.ntmps67
    go_wp2
    go_ret
    exact ⟨rfl, rfl⟩
  · have b1 : (F == 32) = false := by simp [h1]
    have b2 : (F == 128) = decide (F = 128) := by rw [Bool.eq_iff_iff]; simp
    rw [show decide (F = 32) = false by simp [h1], Bool.false_or]
    go_enter Tryd.func67, Tryd.ntmps67
    go_wp2
    go_ret
    exact ⟨rfl, rfl⟩

theorem put0K (i : Int) (w : World) (h0 : 0 ≤ i) (h1 : i ≤ 127) :
    Calls Tryd.prog 28 #[.agg #[.int .u64 0, .int .u64 0], .int .i64 i, .int .i64 1] w fun e w' => e = .returned (.agg #[.int .u64 (hI (putW 0#128 i 1)), .int .u64 (lI (putW 0#128 i 1))]) ∧ Below w.heap.size w w' := by
  have h := put_any 0#128 i 1 w (Or.inr rfl) h0 h1
  rw [hI_zero, lI_zero] at h
  exact h
theorem three (y x : BitVec 128) : ((hI y == hI x) = true ∧ (lI y == lI x) = true ∧ y = x) ∨ ((hI y == hI x) = false ∧ ¬ y = x) ∨ ((hI y == hI x) = true ∧ (lI y == lI x) = false ∧ ¬ y = x) := by
  by_cases e : y = x
  · exact Or.inl ⟨by simp [e], by simp [e], e⟩
  · by_cases e1 : hI y = hI x
    · exact Or.inr (Or.inr ⟨by simp [e1], by simp; exact fun e2 => e (eq_ints e1 e2), e⟩)
    · exact Or.inr (Or.inl ⟨by simp [e1], e⟩)
theorem three0 (y : BitVec 128) : ((hI y == 0) = true ∧ (lI y == 0) = true ∧ y = 0#128) ∨ ((hI y == 0) = false ∧ ¬ y = 0#128) ∨ ((hI y == 0) = true ∧ (lI y == 0) = false ∧ ¬ y = 0#128) := by
  have h := three y 0#128
  rw [hI_zero, lI_zero] at h; exact h

set_option maxHeartbeats 1000000 in
theorem rright_any (F : Int) (x : BitVec 128) (w : World) :
    Calls Tryd.prog 52 #[.int .i64 F, .agg #[.int .u64 (hI x), .int .u64 (lI x)]] w fun e w' => e = .returned (.int .i64 (rightE F x)) ∧ Below w.heap.size w w' := by
  have KI := fun w => isFamily_any F w
  unfold rightE
  cases h : fam F
  · rw [if_neg (by simp)]
    rw [h] at KI
    go_enter Tryd.func52, Tryd.ntmps52
    go_wp2_with fail
    refine (KI _).mono ?_
    rintro e w1 ⟨rfl, rfl⟩
    clear KI
    go_wp2
    go_ret
    exact ⟨rfl, bl1 _ _⟩
  · rw [if_pos rfl]
    rw [h] at KI
    have ha := and_not_mask F x
    have KA := fun w => rand_any x (~~~(maskW F)) w
    generalize x &&& ~~~(maskW F) = y at *
    have fin : ∀ (v : Int), v = (if x &&& maskW F = x then 0 else 6) → ((hI y == 0) = true ∧ (lI y == 0) = true ∧ v = 0 ∨ (hI y == 0) = false ∧ v = 6 ∨ (hI y == 0) = true ∧ (lI y == 0) = false ∧ v = 6) := by
      intro v hv
      rcases three0 y with ⟨a, b, c⟩ | ⟨a, c⟩ | ⟨a, b, c⟩
      · rw [if_pos (ha.mp c)] at hv; exact Or.inl ⟨a, b, hv⟩
      · rw [if_neg (fun q => c (ha.mpr q))] at hv; exact Or.inr (Or.inl ⟨a, hv⟩)
      · rw [if_neg (fun q => c (ha.mpr q))] at hv; exact Or.inr (Or.inr ⟨a, b, hv⟩)
    clear ha h
    generalize (if x &&& maskW F = x then (0 : Int) else 6) = v at *
    rcases fin v rfl with ⟨q1, q2, rfl⟩ | ⟨q1, rfl⟩ | ⟨q1, q2, rfl⟩
    all_goals
      clear fin
      go_enter Tryd.func52, Tryd.ntmps52
      go_wp2_with fail
      refine (KI _).mono ?_
      rintro e w1 ⟨rfl, rfl⟩
      clear KI
      have kB := (bl1 w (.cells #[.int .u64 (hI x), .int .u64 (lI x)] 35)).drew
      go_wp2_with fail
      go_region_held3 (fun w' => w'.cell? ⟨w.heap.size, 0, none⟩ = some (.int .u64 (hI x)) ∧ w'.cell? ⟨w.heap.size, 1, none⟩ = some (.int .u64 (lI x)) ∧ Below w.heap.size w w')
        (first
          | (obtain ⟨k1, k2, k9⟩ := ‹_ ∧ _›; exact ⟨keepc hb4 k1, keepc hb4 k2, keepb hb4 k9⟩)
          | (obtain ⟨k1, k2, k9⟩ := ‹_ ∧ _›; exact ⟨keepc hb3 k1, keepc hb3 k2, keepb hb3 k9⟩)
          | (obtain ⟨k1, k2, k9⟩ := ‹_ ∧ _›; exact ⟨keepc hb2 k1, keepc hb2 k2, keepb hb2 k9⟩)
          | exact ⟨by simp [go_sem], by simp [go_sem], kB⟩)
        (first
          | (go_at_call 54; refine (rmask_any _ _).mono ?_; rintro e w2 ⟨rfl, hb2⟩)
          | (go_at_call 68; refine (rnot_any _ _).mono ?_; rintro e w3 ⟨rfl, hb3⟩)
          | (go_at_call 53; refine (KA _).mono ?_; rintro e w4 ⟨rfl, hb4⟩))
      obtain ⟨-, -, kB3⟩ := ‹_ ∧ _›
      go_wp2
      go_ret
      exact ⟨rfl, kB3⟩
end Go.Proofs.YtkgfeegcdohkdabDoor
/-
  What each call of turnpikeref1's Common, Lead, fits, Field and With does.
-/
namespace Go.Proofs.YtkgfeegcdohkdabDoor
open Go.RowKit
set_option linter.unusedSimpArgs false
set_option linter.unusedVariables false

/-- The variable at block B reads as the word x. -/
def Rd (w : World) (B : Nat) (x : BitVec 128) : Prop := w.cell? ⟨B, 0, none⟩ = some (.int .u64 (hI x)) ∧ w.cell? ⟨B, 1, none⟩ = some (.int .u64 (lI x))
theorem Rd.keep {W w' : World} {B : Nat} {x : BitVec 128} (h : Rd W B x) (hb : Below W.heap.size W w') : Rd w' B x := ⟨keepc hb h.1, keepc hb h.2⟩
theorem Rd.alloc {W : World} {B : Nat} {x : BitVec 128} (h : Rd W B x) (o : Obj) : Rd (W.alloc o) B x := h.keep (bl1 W o)
theorem Rd.new (W : World) (x : BitVec 128) (t : TypeId) : Rd (W.alloc (.cells #[.int .u64 (hI x), .int .u64 (lI x)] t)) W.heap.size x := by
  constructor <;> simp [go_sem]
/-- The word that the variable at block B holds, under a name that no rule opens. -/
def rdW (w : World) (B : Nat) : BitVec 128 := mkW (intOf (cv w B 0)) (intOf (cv w B 1))
theorem Rd.word {w : World} {B : Nat} {x : BitVec 128} (h : Rd w B x) : rdW w B = x := by
  unfold rdW cv; rw [h.1, h.2]; exact mk_ints x

theorem Rd.self {w : World} {B : Nat} {x : BitVec 128} (h : Rd w B x) : Rd w B (rdW w B) := by rw [h.word]; exact h

end Go.Proofs.YtkgfeegcdohkdabDoor
/-
  What the calls of the reference's chapter 3 do: Cut, Check, Of, Has, Within, Last, Parent, Meet, Cmp.
-/
namespace Go.Proofs.YtkgfeegcdohkdabDoor
open Go.RowKit
set_option linter.unusedSimpArgs false
set_option linter.unusedVariables false

set_option maxHeartbeats 1000000 in
theorem rcut_any (x : BitVec 128) (n : Int) (w : World) :
    Calls Tryd.prog 31 #[.agg #[.int .u64 (hI x), .int .u64 (lI x)], .int .i64 n] w fun e w' => e = .returned (.agg #[.int .u64 (hI (cutW x n)), .int .u64 (lI (cutW x n)), .int .i64 n]) ∧ Below w.heap.size w w' := by
  have hbl := fun o p => (bl2 w o p).drew
  unfold cutW
  go_enter Tryd.func31, Tryd.ntmps31
  go_wp2
  go_region_held3 (fun w' => w'.cell? ⟨w.heap.size, 0, none⟩ = some (.int .u64 (hI x)) ∧ w'.cell? ⟨w.heap.size, 1, none⟩ = some (.int .u64 (lI x)) ∧ w'.cell? ⟨w.heap.size + 1, 0, none⟩ = some (cv w' (w.heap.size + 1) 0) ∧ w'.cell? ⟨w.heap.size + 1, 1, none⟩ = some (cv w' (w.heap.size + 1) 1) ∧ w'.cell? ⟨w.heap.size + 1, 2, none⟩ = some (cv w' (w.heap.size + 1) 2) ∧ w'.frozen? ⟨w.heap.size + 1, 0, none⟩ = false ∧ w'.frozen? ⟨w.heap.size + 1, 1, none⟩ = false ∧ w'.frozen? ⟨w.heap.size + 1, 2, none⟩ = false ∧ Below w.heap.size w w')
    (first
      | (obtain ⟨k1, k2, k3, k4, k5, k6, k7, k8, k9⟩ := ‹_ ∧ _›; exact ⟨keepc hb2 k1, keepc hb2 k2, cv_of (keepc hb2 k3), cv_of (keepc hb2 k4), cv_of (keepc hb2 k5), keepf hb2 k3 k6, keepf hb2 k4 k7, keepf hb2 k5 k8, keepb hb2 k9⟩)
      | (obtain ⟨k1, k2, k3, k4, k5, k6, k7, k8, k9⟩ := ‹_ ∧ _›; exact ⟨keepc hb1 k1, keepc hb1 k2, cv_of (keepc hb1 k3), cv_of (keepc hb1 k4), cv_of (keepc hb1 k5), keepf hb1 k3 k6, keepf hb1 k4 k7, keepf hb1 k5 k8, keepb hb1 k9⟩)
      | (refine ⟨?_, ?_, cv_new ?_, cv_new ?_, cv_new ?_, ?_, ?_, ?_, ?_⟩ <;> first | (simp [go_sem, *]; done) | exact bset3 (by simp [*]) (by simp) _ _ _))
    (first | (go_at_call 54; refine (rmask_any _ _).mono ?_; rintro e w1 ⟨rfl, hb1⟩) | (go_at_call 53; refine (rand_any _ _ _).mono ?_; rintro e w2 ⟨rfl, hb2⟩))
  obtain ⟨-, -, -, -, -, -, -, -, kB⟩ := ‹_ ∧ _›
  have e0 : w2.cell? ⟨w.heap.size + 1, 0, none⟩ = some (.int .u64 0) := keepc hb2 (keepc hb1 (by simp [go_sem]))
  have e1 : w2.cell? ⟨w.heap.size + 1, 1, none⟩ = some (.int .u64 0) := keepc hb2 (keepc hb1 (by simp [go_sem]))
  have e2 : w2.cell? ⟨w.heap.size + 1, 2, none⟩ = some (.int .i64 0) := keepc hb2 (keepc hb1 (by simp [go_sem]))
  go_wp2
  exact bodyPost_ret (v := .agg #[.int .u64 (hI (x &&& maskW n)), .int .u64 (lI (x &&& maskW n)), .int .i64 n]) (by simp [results, Tryd.results31, go_sem, e0, e1, e2]) rfl ⟨rfl, kB⟩

def rhasB (x : BitVec 128) (n : Int) (y : BitVec 128) : Bool := decide (n ≤ ((leadN (x ^^^ y) : Nat) : Int))
def rwithinB (x : BitVec 128) (n : Int) (y : BitVec 128) (m : Int) : Bool := decide (m ≤ n) && rhasB y m x
theorem min3_comm (a b c : Int) : min (min c a) b = min (min a b) c := by omega
end Go.Proofs.YtkgfeegcdohkdabDoor
/-
  What the calls of the reference's chapter 3 do: Check, Of, Last.
-/
namespace Go.Proofs.YtkgfeegcdohkdabDoor
open Go.RowKit
set_option linter.unusedSimpArgs false
set_option linter.unusedVariables false

theorem maskW_idem (x : BitVec 128) (n : Int) : cutW (cutW x n) n = cutW x n := by
  unfold cutW
  rw [BitVec.and_assoc, BitVec.and_self]
theorem ofE_eq (F : Int) (x : BitVec 128) (n : Int) (h : rightE F x = 0) : checkE F (cutW x n) n = if n < 0 then 13 else if F < n then 13 else 0 := by
  have hf : fam F = true := by
    unfold rightE at h
    split at h
    · assumption
    · omega
  unfold checkE
  simp [hf, maskW_idem]
def rlastW (F : Int) (x : BitVec 128) (n : Int) : BitVec 128 := x ||| (~~~(maskW n) &&& maskW F)
end Go.Proofs.YtkgfeegcdohkdabDoor
/-
  What the calls of package addr's digit and group and of strings.HasPrefix do.
-/
namespace Go.Proofs.YtkgfeegcdohkdabDoor
open Go.RowKit
set_option linter.unusedSimpArgs false
set_option linter.unusedVariables false

/-- Is the byte a digit of sixteen, great or small, and which number is it? -/
def hexB (c : Int) : Bool := (decide (48 ≤ c) && decide (c ≤ 57)) || (decide (65 ≤ c) && decide (c ≤ 70)) || (decide (97 ≤ c) && decide (c ≤ 102))
def hexV (c : Int) : Int := if 48 ≤ c ∧ c ≤ 57 then c - 48 else if 65 ≤ c ∧ c ≤ 70 then c + 32 - 97 + 10 else if 97 ≤ c ∧ c ≤ 102 then c - 97 + 10 else 0
theorem hex_ways (c : Int) : (c < 48 ∧ hexB c = false ∧ hexV c = 0) ∨ (48 ≤ c ∧ c ≤ 57 ∧ hexB c = true ∧ hexV c = c - 48) ∨ (57 < c ∧ c < 65 ∧ hexB c = false ∧ hexV c = 0) ∨ (65 ≤ c ∧ c ≤ 70 ∧ hexB c = true ∧ hexV c = c + 32 - 97 + 10) ∨ (70 < c ∧ c < 97 ∧ hexB c = false ∧ hexV c = 0) ∨ (97 ≤ c ∧ c ≤ 102 ∧ hexB c = true ∧ hexV c = c - 97 + 10) ∨ (102 < c ∧ hexB c = false ∧ hexV c = 0) := by
  unfold hexB hexV
  by_cases h1 : c < 48
  · left
    have a1 : ¬ 48 ≤ c := by omega
    have a2 : ¬ 97 ≤ c := by omega
    have a3 : ¬ 65 ≤ c := by omega
    simp [a1, a2, a3, h1]
  by_cases h2 : c ≤ 57
  · right; left
    have a1 : 48 ≤ c := by omega
    simp [a1, h2]
  by_cases h3 : c < 65
  · right; right; left
    have a2 : ¬ 97 ≤ c := by omega
    have a3 : ¬ 65 ≤ c := by omega
    simp [h2, a2, a3, h3]; omega
  by_cases h4 : c ≤ 70
  · right; right; right; left
    have a3 : 65 ≤ c := by omega
    simp [h2, a3, h4]
  by_cases h5 : c < 97
  · right; right; right; right; left
    have a2 : ¬ 97 ≤ c := by omega
    simp [h2, a2, h4, h5]; omega
  by_cases h6 : c ≤ 102
  · right; right; right; right; right; left
    have a2 : 97 ≤ c := by omega
    simp [h2, a2, h4, h6]
  · right; right; right; right; right; right
    simp [h2, h4, h6]; omega
theorem hexV_bd (c : Int) : 0 ≤ hexV c ∧ hexV c ≤ 15 := by
  rcases hex_ways c with ⟨a, p, q⟩ | ⟨a, b, p, q⟩ | ⟨a, b, p, q⟩ | ⟨a, b, p, q⟩ | ⟨a, b, p, q⟩ | ⟨a, b, p, q⟩ | ⟨a, p, q⟩ <;> rw [q] <;> omega

theorem or4 (v d : Int) (h0 : 0 ≤ v) (h1 : v < 1152921504606846976) (d0 : 0 ≤ d) (d1 : d ≤ 15) : bits .or .u64 (IntKind.u64.wrap (v * 16)) d = 16 * v + d := by
  obtain ⟨n, rfl⟩ := Int.eq_ofNat_of_zero_le h0
  obtain ⟨m, rfl⟩ := Int.eq_ofNat_of_zero_le d0
  have e1 : IntKind.u64.wrap ((n : Int) * 16) = ((BitVec.ofNat 64 (n * 16)).toNat : Int) := by
    simp [IntKind.wrap, IntKind.bits, IntKind.signed, BitVec.toNat_ofNat]
  have e2 : (m : Int) = ((BitVec.ofNat 64 m).toNat : Int) := by
    simp [BitVec.toNat_ofNat]; omega
  rw [e1, e2, bits64or _ _ _ rfl, BitVec.toNat_or, BitVec.toNat_ofNat, BitVec.toNat_ofNat, Nat.mod_eq_of_lt (by omega), Nat.mod_eq_of_lt (by omega)]
  have := Nat.shiftLeft_add_eq_or_of_lt (b := m) (i := 4) (by omega) n
  rw [Nat.shiftLeft_eq] at this
  rw [show n * 16 = n * 2 ^ 4 from rfl, ← this]; omega

/-- The digits that a text begins with, as many as a group may have, from place k on, v being read. -/
def grpR (t : ByteArray) : Nat → Nat → Int → Int × Int
  | 0, k, v => (v, k)
  | f + 1, k, v => if k < t.size ∧ hexB (byteAt t k) = true then grpR t f (k + 1) (16 * v + hexV (byteAt t k)) else (v, k)
def grpV (t : ByteArray) : Int := (grpR t 4 0 0).1
def grpN (t : ByteArray) : Int := (grpR t 4 0 0).2

theorem byteAt_list (l : List UInt8) (k : Nat) : byteAt ⟨l.toArray⟩ k = match l[k]? with | some c => (c.toNat : Int) | none => 0 := by
  unfold byteAt
  have e : (⟨l.toArray⟩ : ByteArray).size = l.length := rfl
  by_cases h : k < l.length
  · rw [dif_pos (by rw [e]; exact h), List.getElem?_eq_getElem h]; rfl
  · rw [dif_neg (by rw [e]; exact h), List.getElem?_eq_none (by omega)]
theorem byteAt_ext (s : ByteArray) (a k : Nat) : byteAt (s.extract a s.size) k = byteAt s (a + k) := by
  unfold byteAt
  by_cases h : a + k < s.size
  · have h2 : k < (s.extract a s.size).size := by simp; omega
    rw [dif_pos h, dif_pos h2]
    congr 2
    rw [ByteArray.getElem_extract]
  · have h2 : ¬ k < (s.extract a s.size).size := by simp; omega
    rw [dif_neg h, dif_neg h2]
theorem u8_of (c : UInt8) (n : Nat) (h : n < 256) : ((c.toNat : Int) = (n : Int)) ↔ c = UInt8.ofNat n := by
  constructor
  · intro e
    apply UInt8.toNat.inj
    rw [UInt8.toNat_ofNat']; omega
  · intro e
    rw [e, UInt8.toNat_ofNat']; omega
end Go.Proofs.YtkgfeegcdohkdabDoor
/-
  What the calls of law 2's within and decimal do.
-/
namespace Go.Proofs.YtkgfeegcdohkdabDoor
open Go.RowKit
set_option linter.unusedSimpArgs false
set_option linter.unusedVariables false

theorem tmod_ways (a n : Int) (h : 0 < n) : (a.tmod n < 0 ∧ a.tmod n + n = a % n) ∨ (0 ≤ a.tmod n ∧ a.tmod n = a % n) := by
  by_cases h0 : 0 ≤ a
  · right
    have : a.tmod n = a % n := Int.tmod_eq_emod_of_nonneg h0
    exact ⟨by rw [this]; exact Int.emod_nonneg _ (by omega), this⟩
  · have e := Int.tmod_eq_emod (a := a) (b := n)
    have b1 := Int.emod_nonneg a (b := n) (by omega)
    have b2 := Int.emod_lt_of_pos a h
    split at e
    · right; omega
    · left
      have : (n.natAbs : Int) = n := by omega
      omega
/-- The digits of m, written ahead of t. -/
def decF : Nat → Nat → List UInt8 → List UInt8
  | 0, _, t => t
  | f + 1, m, t => if m = 0 ∧ ¬ t = [] then t else decF f (m / 10) (UInt8.ofNat (48 + m % 10) :: t)
def decL (n : Nat) : List UInt8 := decF 20 n []

theorem cat_one (d : UInt8) (t : List UInt8) : ((⟨#[d]⟩ : ByteArray) ++ ⟨t.toArray⟩) = ⟨(d :: t).toArray⟩ := by
  apply ByteArray.ext
  simp
theorem decF_zero (f m : Nat) (t : List UInt8) (h : m = 0 ∧ ¬ t = []) : decF f m t = t := by
  cases f with
  | zero => rfl
  | succ f => exact if_pos h

theorem isEmpty_of (t : List UInt8) (S : ByteArray) (h : S = ⟨t.toArray⟩) : S.toList.isEmpty = t.isEmpty := by
  subst h
  rw [Lib.toList_data]
def sizeOf0 (b : Value) : Nat := match b with | .string s => if s.size = 0 then 1 else 0 | _ => 0

end Go.Proofs.YtkgfeegcdohkdabDoor
/-
  What the calls of the law's own helpers of chapter 3 do.
-/
namespace Go.Proofs.YtkgfeegcdohkdabDoor
open Go.RowKit
set_option linter.unusedSimpArgs false
set_option linter.unusedVariables false

def famZ (b : Bool) : Int := if b = true then 128 else 32
theorem famZ_fam (b : Bool) : fam (famZ b) = true := by cases b <;> decide
theorem famZ_bd (b : Bool) : 32 ≤ famZ b ∧ famZ b ≤ 128 := by cases b <;> decide
theorem family3_any (b : Bool) (w : World) :
    Calls Tryd.prog 6 #[.bool b] w fun e w' => e = .returned (.int .i64 (famZ b)) ∧ w' = w := by
  cases b
  · go_enter Tryd.func6, Tryd.ntmps6
    go_wp2
    go_ret
    exact ⟨rfl, rfl⟩
  · go_enter Tryd.func6, Tryd.ntmps6
    go_wp2
    go_ret
    exact ⟨rfl, rfl⟩
set_option maxHeartbeats 1000000 in
theorem within3_any (a n : Int) (w : World) (h0 : 0 < n) (h1 : n ≤ 9223372036854775807) :
    Calls Tryd.prog 32 #[.int .i64 a, .int .i64 n] w fun e w' => e = .returned (.int .i64 (a % n)) ∧ w' = w := by
  have b1 := Int.emod_nonneg a (b := n) (by omega)
  have b2 := Int.emod_lt_of_pos a h0
  have hn0 : ¬ n = 0 := by omega
  have hnb : (n == 0) = false := by simp; omega
  rcases tmod_ways a n h0 with ⟨c, e⟩ | ⟨c, e⟩
  · have hw : IntKind.i64.wrap (a.tmod n) = a.tmod n := by rw [IntKind.wrap_i64]; omega
    have hw2 : IntKind.i64.wrap (a.tmod n + n) = a.tmod n + n := by rw [IntKind.wrap_i64]; omega
    rw [← e]
    clear e b1 b2
    go_enter Tryd.func32, Tryd.ntmps32
    go_wp2
    go_ret
    exact ⟨rfl, rfl⟩
  · have hw : IntKind.i64.wrap (a.tmod n) = a.tmod n := by rw [IntKind.wrap_i64]; omega
    rw [← e]
    clear e b1 b2
    go_enter Tryd.func32, Tryd.ntmps32
    go_wp2
    go_ret
    exact ⟨rfl, rfl⟩

set_option maxHeartbeats 1000000 in
set_option maxRecDepth 20000 in
theorem clip_any (F : Int) (x : BitVec 128) (w : World) :
    Calls Tryd.prog 30 #[.int .i64 F, .agg #[.int .u64 (hI x), .int .u64 (lI x)]] w fun e w' => e = .returned (.tuple #[.agg #[.int .u64 (hI (cutW x F)), .int .u64 (lI (cutW x F))], .bool (rightE F (cutW x F) == 0)]) ∧ Below w.heap.size w w' := by
  have KC := fun w => rcut_any x F w
  have KR := fun w => rright_any F (cutW x F) w
  generalize rightE F (cutW x F) = r at *
  generalize cutW x F = c at *
  go_enter Tryd.func30, Tryd.ntmps30
  go_wp2_with fail
  refine (KC _).mono ?_
  rintro e w1 ⟨rfl, hb1⟩
  obtain ⟨z0, z1, z2, z3, z4⟩ := ((at_new (w.alloc (.cells #[.int .u64 (hI x), .int .u64 (lI x)] 35)) (w.heap.size + 1) 0#128 35 (by simp)).below hb1).below (bl1 _ (.cells #[.int .u64 (hI c), .int .u64 (lI c), .int .i64 F] 40))
  have hN : w.heap.size + 1 < w1.heap.size := by have := hb1.size; simp at this; omega
  have nn : ¬ w1.heap.size = w.heap.size + 1 := by omega
  have kB1 := keepb hb1 (bl2 w _ _)
  have kB2 := (kB1.alloc kB1.size (.cells #[.int .u64 (hI c), .int .u64 (lI c), .int .i64 F] 40)).drew
  obtain ⟨p0, p1, p2, -, -, -⟩ := atp_new w1 w1.heap.size c F 40 rfl
  clear hb1 KC kB1
  go_wp2_with fail
  go_region_held3 (fun w' => w'.cell? ⟨w1.heap.size, 0, none⟩ = some (.int .u64 (hI c)) ∧ w'.cell? ⟨w1.heap.size, 1, none⟩ = some (.int .u64 (lI c)) ∧ w'.cell? ⟨w.heap.size + 1, 0, none⟩ = some (cv w' (w.heap.size + 1) 0) ∧ w'.cell? ⟨w.heap.size + 1, 1, none⟩ = some (cv w' (w.heap.size + 1) 1) ∧ w'.frozen? ⟨w.heap.size + 1, 0, none⟩ = false ∧ w'.frozen? ⟨w.heap.size + 1, 1, none⟩ = false ∧ Below w.heap.size w w')
    (first
      | (obtain ⟨k1, k2, k3, k4, k6, k7, k9⟩ := ‹_ ∧ _›; exact ⟨keepc hb3 k1, keepc hb3 k2, cv_of (keepc hb3 k3), cv_of (keepc hb3 k4), keepf hb3 k3 k6, keepf hb3 k4 k7, keepb hb3 k9⟩)
      | exact ⟨p0, p1, cv_of z0, cv_of z1, z2, z3, kB2⟩
      | (refine ⟨?_, ?_, cv_new ?_, cv_new ?_, ?_, ?_, ?_⟩ <;> first | (simp [go_sem, *]; done) | exact bset2 (by simp [*]) (by omega) _ _))
    (first | (go_at_call 52; refine (KR _).mono ?_; rintro e w3 ⟨rfl, hb3⟩))
  obtain ⟨-, -, -, -, -, -, kB⟩ := ‹_ ∧ _›
  have e0 := keepc hb3 (show (World.drew _).cell? _ = _ from z0)
  have e1 := keepc hb3 (show (World.drew _).cell? _ = _ from z1)
  go_wp2
  exact bodyPost_ret (v := .tuple #[.agg #[.int .u64 (hI c), .int .u64 (lI c)], .bool (r == 0)]) (by simp [results, Tryd.results30, go_sem, e0, e1]) rfl ⟨rfl, kB⟩

def someW (F : Int) (x : BitVec 128) (n : Int) : BitVec 128 := cutW (cutW x F) (n % (F + 1))
set_option maxHeartbeats 1000000 in
set_option maxRecDepth 20000 in
theorem some_any (F : Int) (x : BitVec 128) (n : Int) (w : World) (h0 : 0 ≤ F) (h1 : F ≤ 128) :
    Calls Tryd.prog 14 #[.int .i64 F, .agg #[.int .u64 (hI x), .int .u64 (lI x)], .int .i64 n] w fun e w' => e = .returned (.agg #[.int .u64 (hI (someW F x n)), .int .u64 (lI (someW F x n)), .int .i64 (n % (F + 1))]) ∧ Below w.heap.size w w' := by
  have KC := fun w => clip_any F x w
  have KW := fun w => within3_any n (F + 1) w (by omega) (by omega)
  have KT := fun w => rcut_any (cutW x F) (n % (F + 1)) w
  have hu : IntKind.i64.wrap (F + 1) = F + 1 := by rw [IntKind.wrap_i64]; omega
  unfold someW
  generalize (rightE F (cutW x F) == 0) = r at *
  generalize n % (F + 1) = m at *
  revert KT
  generalize cutW (cutW x F) m = d
  intro KT
  generalize cutW x F = c at *
  go_enter Tryd.func14, Tryd.ntmps14
  go_wp2_with fail
  refine (KC _).mono ?_
  rintro e w1 ⟨rfl, hb1⟩
  have Z1 := (atp_new (w.alloc (.cells #[.int .u64 (hI x), .int .u64 (lI x)] 35)) (w.heap.size + 1) 0#128 0 40 (by simp)).below hb1
  have X1 := ((at_new w w.heap.size x 35 rfl).below (bl1 _ (.cells #[.int .u64 0, .int .u64 0, .int .i64 0] 40))).below hb1
  have kB1 := keepb hb1 (bl2 w _ _)
  obtain ⟨x0, x1, x2, x3, x4⟩ := id X1
  clear hb1 KC
  go_wp2_with fail
  have kB2 := (bset2 kB1 (Nat.le_refl _) (.int .u64 (hI c)) (.int .u64 (lI c))).drew
  have X2 := X1.set c
  obtain ⟨y0, y1, -, -, -⟩ := id X2
  have Z2 : AtP ((w1.setCell ⟨w.heap.size, 0, none⟩ (.int .u64 (hI c))).setCell ⟨w.heap.size, 1, none⟩ (.int .u64 (lI c))) (w.heap.size + 1) 0#128 0 := by
    obtain ⟨q0, q1, q2, q3, q4, q5⟩ := Z1
    refine ⟨?_, ?_, ?_, ?_, ?_, ?_⟩ <;> simp [go_sem, *]
  clear x0 x1 x2 x3 x4 X1 Z1 kB1
  obtain ⟨z0, z1, z2, z3, z4, z5⟩ := id Z2
  go_region_held3 (fun w' => w'.cell? ⟨w.heap.size, 0, none⟩ = some (.int .u64 (hI c)) ∧ w'.cell? ⟨w.heap.size, 1, none⟩ = some (.int .u64 (lI c)) ∧ w'.cell? ⟨w.heap.size + 1, 0, none⟩ = some (cv w' (w.heap.size + 1) 0) ∧ w'.cell? ⟨w.heap.size + 1, 1, none⟩ = some (cv w' (w.heap.size + 1) 1) ∧ w'.cell? ⟨w.heap.size + 1, 2, none⟩ = some (cv w' (w.heap.size + 1) 2) ∧ w'.frozen? ⟨w.heap.size + 1, 0, none⟩ = false ∧ w'.frozen? ⟨w.heap.size + 1, 1, none⟩ = false ∧ w'.frozen? ⟨w.heap.size + 1, 2, none⟩ = false ∧ Below w.heap.size w w')
    (first
      | (obtain ⟨k1, k2, k3, k4, k5, k6, k7, k8, k9⟩ := ‹_ ∧ _›; exact ⟨keepc hb3 k1, keepc hb3 k2, cv_of (keepc hb3 k3), cv_of (keepc hb3 k4), cv_of (keepc hb3 k5), keepf hb3 k3 k6, keepf hb3 k4 k7, keepf hb3 k5 k8, keepb hb3 k9⟩)
      | exact ⟨y0, y1, cv_of z0, cv_of z1, cv_of z2, z3, z4, z5, kB2⟩
      | (refine ⟨?_, ?_, cv_new ?_, cv_new ?_, cv_new ?_, ?_, ?_, ?_, ?_⟩ <;> first | (simp [go_sem, *]; done) | exact bset3 (by simp [*]) (by omega) _ _ _))
    (first | (go_at_call 32; refine (KW _).mono ?_; rintro e w2 ⟨rfl, rfl⟩) | (go_at_call 31; refine (KT _).mono ?_; rintro e w3 ⟨rfl, hb3⟩))
  obtain ⟨-, -, -, -, -, -, -, -, kB⟩ := ‹_ ∧ _›
  have e0 := keepc hb3 (show (World.drew _).cell? _ = _ from z0)
  have e1 := keepc hb3 (show (World.drew _).cell? _ = _ from z1)
  have e2 := keepc hb3 (show (World.drew _).cell? _ = _ from z2)
  go_wp2
  exact bodyPost_ret (v := .agg #[.int .u64 (hI d), .int .u64 (lI d), .int .i64 m]) (by simp [results, Tryd.results14, go_sem, e0, e1, e2]) rfl ⟨rfl, kB⟩
end Go.Proofs.YtkgfeegcdohkdabDoor
/-
  What a call of package prefix's Last does.
-/
namespace Go.Proofs.YtkgfeegcdohkdabDoor
open Go.RowKit
set_option linter.unusedSimpArgs false
set_option linter.unusedVariables false

/-- The prefix, and the word that is answered, in memory. -/
def LS (w : World) (x : BitVec 128) (n : Int) (W : World) : Prop := AtP W w.heap.size x n ∧ At W (w.heap.size + 1) 0#128 ∧ Below w.heap.size w W
theorem LS.below {w W W' : World} {x : BitVec 128} {n : Int} (h : LS w x n W) (hb : Below W.heap.size W W') : LS w x n W' := ⟨h.1.below hb, h.2.1.below hb, keepb hb h.2.2⟩
theorem LS.al {w W : World} {x : BitVec 128} {n : Int} (h : LS w x n W) (o : Obj) : LS w x n (W.alloc o) := h.below (bl1 W o)
theorem LS.drew {w W : World} {x : BitVec 128} {n : Int} (h : LS w x n W) : LS w x n W.drew := ⟨h.1, h.2.1, h.2.2.drew⟩
theorem LS.first (w : World) (x : BitVec 128) (n : Int) : LS w x n ((w.alloc (.cells #[.int .u64 (hI x), .int .u64 (lI x), .int .i64 n] 40)).alloc (.cells #[.int .u64 0, .int .u64 0] 35)) :=
  ⟨(atp_new w w.heap.size x n 40 rfl).below (bl1 _ _), at_new (w.alloc (.cells #[.int .u64 (hI x), .int .u64 (lI x), .int .i64 n] 40)) (w.heap.size + 1) 0#128 35 (by simp), bl2 _ _ _⟩
theorem LS.set {w W : World} {x : BitVec 128} {n : Int} (h : LS w x n W) {N : Nat} (hN : w.heap.size + 1 < N) (u v : Value) : LS w x n ((W.setCell ⟨N, 0, none⟩ u).setCell ⟨N, 1, none⟩ v) := by
  obtain ⟨⟨a0, a1, a2, a3, a4, a5⟩, h2, h3⟩ := h
  have d0 : ¬ N = w.heap.size := by omega
  have d1 : ¬ w.heap.size = N := by omega
  refine ⟨?_, h2.other u v (by omega), bset2 h3 (by omega) _ _⟩
  refine ⟨?_, ?_, ?_, ?_, ?_, ?_⟩ <;> simp [go_sem, *]
theorem at_new0 (w : World) : At (w.alloc (.cells #[.int .u64 0, .int .u64 0] 35)) w.heap.size 0#128 := at_new w w.heap.size 0#128 35 rfl
theorem at_new0d (w : World) (N : Nat) (h : N = w.heap.size) : At (w.alloc (.cells #[.int .u64 0, .int .u64 0] 35)).drew N 0#128 := at_new w N 0#128 35 h
def lastW (F : Int) (x : BitVec 128) (n : Int) : BitVec 128 := x ||| (maskW F ^^^ maskW n)
set_option maxHeartbeats 4000000 in
theorem plast_any (F : Int) (x : BitVec 128) (n : Int) (w : World) :
    Calls Tryd.prog 20 #[.int .i64 F, .agg #[.int .u64 (hI x), .int .u64 (lI x), .int .i64 n]] w fun e w' => e = .returned (.agg #[.int .u64 (hI (lastW F x n)), .int .u64 (lI (lastW F x n))]) ∧ Below w.heap.size w w' := by
  have KM := fun n w => mask_any n w
  have L0 := LS.first w x n
  unfold lastW
  go_enter Tryd.func20, Tryd.ntmps20
  go_wp2
  rename_i Q' K hK
  have tail : ∀ (N : Nat) (W : World), At W N (maskW F ^^^ maskW n) → LS w x n W → (Exit.then K Q') .normal { tmps := #[.int .i64 F, .agg #[.int .u64 (hI x), .int .u64 (lI x), .int .i64 n], undef, .pointer (some ⟨w.heap.size, 0, none⟩), .pointer (some ⟨w.heap.size + 1, 0, none⟩), .pointer (some ⟨N, 0, none⟩), .int .i64 F, .agg #[.int .u64 (hI (maskW F)), .int .u64 (lI (maskW F))], .pointer (some ⟨w.heap.size, 2, none⟩), .int .i64 n, .agg #[.int .u64 (hI (maskW n)), .int .u64 (lI (maskW n))], .agg #[.int .u64 (hI (maskW F ^^^ maskW n)), .int .u64 (lI (maskW F ^^^ maskW n))], undef, undef, undef, undef], defers := [] } W := by
    intro N W hN hL
    obtain ⟨a0, a1, -, -, -⟩ := hN
    obtain ⟨⟨p0, p1, p2, -, -, -⟩, hZ, kB⟩ := hL
    clear L0 KM
    go_wp2_with fail
    refine (or_any _ _ _).mono ?_
    rintro e w9 ⟨rfl, hb9⟩
    obtain ⟨z0, z1, z2, z3, z4⟩ := hZ.below hb9
    have kB := keepb hb9 kB
    clear a0 a1 p0 p1 p2 hZ hb9
    go_wp2
    exact bodyPost_ret (v := .agg #[.int .u64 (hI (x ||| (maskW F ^^^ maskW n))), .int .u64 (lI (x ||| (maskW F ^^^ maskW n)))]) (by simp [results, Tryd.results20, go_sem, *]) rfl ⟨rfl, bset2 kB (by omega) _ _⟩
  obtain ⟨⟨p0, p1, p2, -, -, -⟩, -, -⟩ := id L0
  go_region_with (first
    | (go_at_call 42; go_loud (skip; refine (KM _ _).mono ?_; rintro e w1 ⟨rfl, hb1⟩; have L1 : LS w x n w1 := LS.below (by first | exact L1 | exact L1.al _ | exact L0.drew | exact (L0.al _).drew) hb1; (try have Z1 := At.below Z1 hb1); (try have Z1 := At.below (at_new0 _) hb1); (try (refine (fun (Z1 : At w1 (w.heap.size + 1 + 1) 0#128) => ?_) (At.below (at_new0d _ _ ?_) hb1); rotate_left; (focus (simp; done)))); obtain ⟨p0, p1, p2, -, -, -⟩ := id L1.1; have g1 := L1.2.1.2.2.2.2; have l1 := cell_in p0; have n1 : ¬ w1.heap.size = w.heap.size := (by omega)))
    | (go_at_call 41; refine (xor_any _ _ _).mono ?_; rintro e w2 ⟨rfl, hb2⟩; have L2 : LS w x n w2 := LS.below (by first | exact L1 | exact L1.al _) hb2; (try have Z1 := At.below Z1 hb2); (try have Z1 := At.below (at_new0 _) hb2); (try obtain ⟨z0, z1, z2, z3, z4⟩ := id Z1)))
  all_goals first
    | exact tail _ _ (Z1.set _) (L2.set (by omega) _ _)
    | exact tail _ _ (at_new w2 _ _ _ rfl) (L2.al _)
end Go.Proofs.YtkgfeegcdohkdabDoor
