/-
  What the calls of package addr's beside, Next and Prev do.
-/
import Derived.Test.YtldjeabdoooihaaAdrB
namespace Go.Proofs.Ytldjeabdoooihaa
open Go.RowKit
set_option linter.unusedSimpArgs false
set_option linter.unusedVariables false

theorem At.drew {w : World} {B : Nat} {x : BitVec 128} (h : At w B x) : At w.drew B x := h
theorem at_zero {w : World} {B : Nat} (h0 : w.cell? ⟨B, 0, none⟩ = some (.int .u64 0)) (h1 : w.cell? ⟨B, 1, none⟩ = some (.int .u64 0)) (f0 : w.frozen? ⟨B, 0, none⟩ = false) (f1 : w.frozen? ⟨B, 1, none⟩ = false) (z : BitVec 128) :
    At ((w.setCell ⟨B, 0, none⟩ (.int .u64 (hI z))).setCell ⟨B, 1, none⟩ (.int .u64 (lI z))) B z :=
  At.set (x := 0#128) z ⟨by rw [hI_zero]; exact h0, by rw [lI_zero]; exact h1, f0, f1, cell_in h0⟩

set_option maxHeartbeats 4000000 in
theorem besideAdd_yes (F : Int) (x y z : BitVec 128) (ov : Bool) (w : World) (KR : ∀ w, Calls Try.prog 53 #[.int .i64 F, .agg #[.int .u64 (hI x), .int .u64 (lI x)]] w fun e w' => e = .returned (.int .i64 0) ∧ Below w.heap.size w w')
    (KS : ∀ w, Calls Try.prog 54 #[.int .i64 F] w fun e w' => e = .returned (.agg #[.int .u64 (hI y), .int .u64 (lI y)]) ∧ Below w.heap.size w w')
    (KM : ∀ w, Calls Try.prog 30 #[.agg #[.int .u64 (hI x), .int .u64 (lI x)], .agg #[.int .u64 (hI y), .int .u64 (lI y)]] w fun e w' => e = .returned (.tuple #[.agg #[.int .u64 (hI z), .int .u64 (lI z)], .bool ov]) ∧ Below w.heap.size w w') :
    Calls Try.prog 29 #[.int .i64 F, .agg #[.int .u64 (hI x), .int .u64 (lI x)], .func (.func 30) #[] #[]] w fun e w' => e = .returned (.tuple #[.agg #[.int .u64 (hI (if ov = true then 0#128 else z)), .int .u64 (lI (if ov = true then 0#128 else z))], .bool (!ov)]) ∧ Below w.heap.size w w' := by
  go_enter Try.func29, Try.ntmps29
  go_wp2_with fail
  refine (KR _).mono ?_
  rintro e w1 ⟨rfl, hb1⟩
  clear KR
  have hX := ((at_new w w.heap.size x 24 rfl).below (bl1 _ (.cells #[.int .u64 0, .int .u64 0] 24))).below hb1
  have hZ := (at_new (w.alloc (.cells #[.int .u64 (hI x), .int .u64 (lI x)] 24)) (w.heap.size + 1) 0#128 24 (by simp)).below hb1
  have kB := keepb hb1 (bl2 w _ _)
  clear hb1
  obtain ⟨x0, x1, x2, x3, x4⟩ := id hX
  have z4 := hZ.2.2.2.2
  have n1 : ¬ w1.heap.size = w.heap.size := by omega
  go_wp2_with fail
  rename_i Q' K hK
  have tail : ∀ (N : Nat) (W : World), At W N z → At W (w.heap.size + 1) 0#128 → Below w.heap.size w W → ¬ N = w.heap.size + 1 → (Exit.then K Q') .normal { tmps := #[.int .i64 F, .agg #[.int .u64 (hI x), .int .u64 (lI x)], .func (.func 30) #[] #[], undef, .pointer (some ⟨w.heap.size, 0, none⟩), undef, .pointer (some ⟨w.heap.size + 1, 0, none⟩), .bool false, .pointer (some ⟨N, 0, none⟩), .bool ov, .int .i64 F, .agg #[.int .u64 (hI x), .int .u64 (lI x)], .int .i64 0, .bool false, undef, .tuple #[.agg #[.int .u64 (hI z), .int .u64 (lI z)], .bool ov], .func (.func 30) #[] #[], .agg #[.int .u64 (hI x), .int .u64 (lI x)], .int .i64 F, .agg #[.int .u64 (hI y), .int .u64 (lI y)], .tuple #[.agg #[.int .u64 (hI z), .int .u64 (lI z)], .bool ov], .agg #[.int .u64 (hI z), .int .u64 (lI z)], .bool ov, undef, undef, undef], defers := [] } W := by
    intro N W hN hZ' hB' hn
    obtain ⟨a0, a1, a2, a3, a4⟩ := hN
    obtain ⟨b0, b1, b2, b3, b4⟩ := hZ'
    clear x0 x1 x2 x3 x4 hX hZ KS KM
    cases ov
    · go_wp2
      exact bodyPost_ret (v := .tuple #[.agg #[.int .u64 (hI z), .int .u64 (lI z)], .bool true]) (by simp [results, Try.results29, go_sem, *]) rfl ⟨by simp [hI_zero, lI_zero], bset2 hB' (by omega) _ _⟩
    · go_wp2
      exact bodyPost_ret (v := .tuple #[.agg #[.int .u64 0, .int .u64 0], .bool false]) (by simp [results, Try.results29, go_sem, *]) rfl ⟨by simp [hI_zero, lI_zero], bset2 hB' (by omega) _ _⟩
  go_region_with (first | (go_at_call 54; refine (KS _).mono ?_; rintro e w2 ⟨rfl, hb2⟩; have p0 : w2.cell? ⟨w.heap.size, 0, none⟩ = some (.int .u64 (hI x)) := keepc hb2 (by simp [go_sem, *]); have p1 : w2.cell? ⟨w.heap.size, 1, none⟩ = some (.int .u64 (lI x)) := keepc hb2 (by simp [go_sem, *]); have n3 : ¬ w2.heap.size = w.heap.size := (fun e => by have := cell_in p0; omega); have l3 := cell_in p0; (try (refine (fun (c0 : w2.cell? ⟨w1.heap.size, 0, none⟩ = some (.int .u64 0)) => ?_) (keepc hb2 ?_); rotate_left; (focus (simp [go_sem]; done)))); (try (refine (fun (c1 : w2.cell? ⟨w1.heap.size, 1, none⟩ = some (.int .u64 0)) => ?_) (keepc hb2 ?_); rotate_left; (focus (simp [go_sem]; done)))); (try (refine (fun (g0 : w2.frozen? ⟨w1.heap.size, 0, none⟩ = false) => ?_) (keepf hb2 (v := .int .u64 0) ?_ ?_); rotate_left; (focus (simp [go_sem]; done)); (focus (simp [go_sem]; done)))); (try (refine (fun (g1 : w2.frozen? ⟨w1.heap.size, 1, none⟩ = false) => ?_) (keepf hb2 (v := .int .u64 0) ?_ ?_); rotate_left; (focus (simp [go_sem]; done)); (focus (simp [go_sem]; done)))); have hZ2 : At w2 (w.heap.size + 1) 0#128 := At.below (by first | exact hZ.drew | exact (hZ.below (bl1 _ _)).drew | exact hZ | exact hZ.below (bl1 _ _)) hb2; have kB2 : Below w.heap.size w w2 := keepb hb2 (by first | exact kB.drew | exact (kB.alloc (by omega) _).drew | exact kB | exact kB.alloc (by omega) _)) | (go_at_call 30; refine (KM _).mono ?_; rintro e w3 ⟨rfl, hb3⟩; (try (have d0 := keepc hb3 c0; have d1 := keepc hb3 c1; have e0 := keepf hb3 c0 g0; have e1 := keepf hb3 c1 g1)); (try (refine (fun (d2 : w3.cell? ⟨w2.heap.size, 0, none⟩ = some (.int .u64 0)) => ?_) (keepc hb3 ?_); rotate_left; (focus (simp [go_sem]; done)))); (try (refine (fun (d3 : w3.cell? ⟨w2.heap.size, 1, none⟩ = some (.int .u64 0)) => ?_) (keepc hb3 ?_); rotate_left; (focus (simp [go_sem]; done)))); (try (refine (fun (e2 : w3.frozen? ⟨w2.heap.size, 0, none⟩ = false) => ?_) (keepf hb3 (v := .int .u64 0) ?_ ?_); rotate_left; (focus (simp [go_sem]; done)); (focus (simp [go_sem]; done)))); (try (refine (fun (e3 : w3.frozen? ⟨w2.heap.size, 1, none⟩ = false) => ?_) (keepf hb3 (v := .int .u64 0) ?_ ?_); rotate_left; (focus (simp [go_sem]; done)); (focus (simp [go_sem]; done)))); have hZ3 : At w3 (w.heap.size + 1) 0#128 := At.below (by first | exact hZ2 | exact hZ2.below (bl1 _ _)) hb3; have kB3 : Below w.heap.size w w3 := keepb hb3 (by first | exact kB2 | exact kB2.alloc kB2.size _)))
  all_goals
    have z5 := hZ3.2.2.2.2
    have z6 := hZ2.2.2.2.2
  all_goals first
    | exact tail w3.heap.size _ (at_new w3 w3.heap.size z _ rfl) (hZ3.below (bl1 _ _)) (kB3.alloc kB3.size _) (Nat.ne_of_gt z5)
    | exact tail w2.heap.size _ (at_zero d2 d3 e2 e3 z) (hZ3.other _ _ (Nat.ne_of_lt z6)) (bset2 kB3 kB2.size _ _) (Nat.ne_of_gt z6)
    | exact tail w1.heap.size _ (at_zero d0 d1 e0 e1 z) (hZ3.other _ _ (Nat.ne_of_lt z4)) (bset2 kB3 kB.size _ _) (Nat.ne_of_gt z4)

set_option maxHeartbeats 4000000 in
theorem besideAdd_no (F : Int) (x : BitVec 128) (r : Int) (w : World) (hr : ¬ r = 0) (KR : ∀ w, Calls Try.prog 53 #[.int .i64 F, .agg #[.int .u64 (hI x), .int .u64 (lI x)]] w fun e w' => e = .returned (.int .i64 r) ∧ Below w.heap.size w w') :
    Calls Try.prog 29 #[.int .i64 F, .agg #[.int .u64 (hI x), .int .u64 (lI x)], .func (.func 30) #[] #[]] w fun e w' => e = .returned (.tuple #[.agg #[.int .u64 0, .int .u64 0], .bool false]) ∧ Below w.heap.size w w' := by
  have hb : (r != 0) = true := by simp [hr]
  go_enter Try.func29, Try.ntmps29
  go_wp2_with fail
  refine (KR _).mono ?_
  rintro e w1 ⟨rfl, hb1⟩
  clear KR
  have hZ := (at_new (w.alloc (.cells #[.int .u64 (hI x), .int .u64 (lI x)] 24)) (w.heap.size + 1) 0#128 24 (by simp)).below hb1
  have kB := keepb hb1 (bl2 w _ _)
  clear hb1
  obtain ⟨z0, z1, z2, z3, z4⟩ := hZ
  go_wp2
  exact bodyPost_ret (v := .tuple #[.agg #[.int .u64 0, .int .u64 0], .bool false]) (by simp [results, Try.results29, go_sem, *]) rfl ⟨rfl, bset2 kB (by omega) _ _⟩

theorem besideAdd_any (F : Int) (x : BitVec 128) (w : World) :
    Calls Try.prog 29 #[.int .i64 F, .agg #[.int .u64 (hI x), .int .u64 (lI x)], .func (.func 30) #[] #[]] w fun e w' => e = .returned (.tuple #[.agg #[.int .u64 (hI (nextV F x)), .int .u64 (lI (nextV F x))], .bool (nextB F x)]) ∧ Below w.heap.size w w' := by
  have KR := fun w => aright_any F x w
  by_cases hr : rightE F x = 0
  · have hf := (right0 F x hr).1
    have hF : 0 ≤ F ∧ F ≤ 128 := by rcases fam_ways F hf with rfl | rfl <;> omega
    rw [hr] at KR
    have h := besideAdd_yes F x (stepW F) (x + stepW F) (overB x (stepW F)) w KR (fun w => step_any F w hF.1 hF.2) (fun w => add_any x (stepW F) w)
    have e1 : nextB F x = !overB x (stepW F) := by unfold nextB; simp [hr]
    have e2 : nextV F x = if overB x (stepW F) = true then 0#128 else x + stepW F := by
      unfold nextV; rw [e1]; cases overB x (stepW F) <;> rfl
    rw [e1, e2]; exact h
  · have h := besideAdd_no F x (rightE F x) w hr KR
    have e1 : nextB F x = false := by unfold nextB; simp [hr]
    have e2 : nextV F x = 0#128 := by unfold nextV; rw [e1]; rfl
    rw [e1, e2, hI_zero, lI_zero]; exact h

set_option maxHeartbeats 1000000 in
theorem anext_any (F : Int) (x : BitVec 128) (w : World) :
    Calls Try.prog 10 #[.int .i64 F, .agg #[.int .u64 (hI x), .int .u64 (lI x)]] w fun e w' => e = .returned (.tuple #[.agg #[.int .u64 (hI (nextV F x)), .int .u64 (lI (nextV F x))], .bool (nextB F x)]) ∧ Below w.heap.size w w' := by
  have KB := fun w => besideAdd_any F x w
  generalize nextV F x = y at *
  generalize nextB F x = b at *
  go_enter Try.func10, Try.ntmps10
  go_wp2_with fail
  refine (KB _).mono ?_
  rintro e w1 ⟨rfl, hb1⟩
  clear KB
  have hZ := (at_new (w.alloc (.cells #[.int .u64 (hI x), .int .u64 (lI x)] 24)) (w.heap.size + 1) 0#128 24 (by simp)).below hb1
  have kB := keepb hb1 (bl2 w _ _)
  clear hb1
  obtain ⟨z0, z1, z2, z3, z4⟩ := hZ
  go_wp2
  exact bodyPost_ret (v := .tuple #[.agg #[.int .u64 (hI y), .int .u64 (lI y)], .bool b]) (by simp [results, Try.results10, go_sem, *]) rfl ⟨rfl, bset2 kB (by omega) _ _⟩

set_option maxHeartbeats 4000000 in
theorem besideSub_yes (F : Int) (x y z : BitVec 128) (ov : Bool) (w : World) (KR : ∀ w, Calls Try.prog 53 #[.int .i64 F, .agg #[.int .u64 (hI x), .int .u64 (lI x)]] w fun e w' => e = .returned (.int .i64 0) ∧ Below w.heap.size w w')
    (KS : ∀ w, Calls Try.prog 54 #[.int .i64 F] w fun e w' => e = .returned (.agg #[.int .u64 (hI y), .int .u64 (lI y)]) ∧ Below w.heap.size w w')
    (KM : ∀ w, Calls Try.prog 31 #[.agg #[.int .u64 (hI x), .int .u64 (lI x)], .agg #[.int .u64 (hI y), .int .u64 (lI y)]] w fun e w' => e = .returned (.tuple #[.agg #[.int .u64 (hI z), .int .u64 (lI z)], .bool ov]) ∧ Below w.heap.size w w') :
    Calls Try.prog 29 #[.int .i64 F, .agg #[.int .u64 (hI x), .int .u64 (lI x)], .func (.func 31) #[] #[]] w fun e w' => e = .returned (.tuple #[.agg #[.int .u64 (hI (if ov = true then 0#128 else z)), .int .u64 (lI (if ov = true then 0#128 else z))], .bool (!ov)]) ∧ Below w.heap.size w w' := by
  go_enter Try.func29, Try.ntmps29
  go_wp2_with fail
  refine (KR _).mono ?_
  rintro e w1 ⟨rfl, hb1⟩
  clear KR
  have hX := ((at_new w w.heap.size x 24 rfl).below (bl1 _ (.cells #[.int .u64 0, .int .u64 0] 24))).below hb1
  have hZ := (at_new (w.alloc (.cells #[.int .u64 (hI x), .int .u64 (lI x)] 24)) (w.heap.size + 1) 0#128 24 (by simp)).below hb1
  have kB := keepb hb1 (bl2 w _ _)
  clear hb1
  obtain ⟨x0, x1, x2, x3, x4⟩ := id hX
  have z4 := hZ.2.2.2.2
  have n1 : ¬ w1.heap.size = w.heap.size := by omega
  go_wp2_with fail
  rename_i Q' K hK
  have tail : ∀ (N : Nat) (W : World), At W N z → At W (w.heap.size + 1) 0#128 → Below w.heap.size w W → ¬ N = w.heap.size + 1 → (Exit.then K Q') .normal { tmps := #[.int .i64 F, .agg #[.int .u64 (hI x), .int .u64 (lI x)], .func (.func 31) #[] #[], undef, .pointer (some ⟨w.heap.size, 0, none⟩), undef, .pointer (some ⟨w.heap.size + 1, 0, none⟩), .bool false, .pointer (some ⟨N, 0, none⟩), .bool ov, .int .i64 F, .agg #[.int .u64 (hI x), .int .u64 (lI x)], .int .i64 0, .bool false, undef, .tuple #[.agg #[.int .u64 (hI z), .int .u64 (lI z)], .bool ov], .func (.func 31) #[] #[], .agg #[.int .u64 (hI x), .int .u64 (lI x)], .int .i64 F, .agg #[.int .u64 (hI y), .int .u64 (lI y)], .tuple #[.agg #[.int .u64 (hI z), .int .u64 (lI z)], .bool ov], .agg #[.int .u64 (hI z), .int .u64 (lI z)], .bool ov, undef, undef, undef], defers := [] } W := by
    intro N W hN hZ' hB' hn
    obtain ⟨a0, a1, a2, a3, a4⟩ := hN
    obtain ⟨b0, b1, b2, b3, b4⟩ := hZ'
    clear x0 x1 x2 x3 x4 hX hZ KS KM
    cases ov
    · go_wp2
      exact bodyPost_ret (v := .tuple #[.agg #[.int .u64 (hI z), .int .u64 (lI z)], .bool true]) (by simp [results, Try.results29, go_sem, *]) rfl ⟨by simp [hI_zero, lI_zero], bset2 hB' (by omega) _ _⟩
    · go_wp2
      exact bodyPost_ret (v := .tuple #[.agg #[.int .u64 0, .int .u64 0], .bool false]) (by simp [results, Try.results29, go_sem, *]) rfl ⟨by simp [hI_zero, lI_zero], bset2 hB' (by omega) _ _⟩
  go_region_with (first | (go_at_call 54; refine (KS _).mono ?_; rintro e w2 ⟨rfl, hb2⟩; have p0 : w2.cell? ⟨w.heap.size, 0, none⟩ = some (.int .u64 (hI x)) := keepc hb2 (by simp [go_sem, *]); have p1 : w2.cell? ⟨w.heap.size, 1, none⟩ = some (.int .u64 (lI x)) := keepc hb2 (by simp [go_sem, *]); have n3 : ¬ w2.heap.size = w.heap.size := (fun e => by have := cell_in p0; omega); have l3 := cell_in p0; (try (refine (fun (c0 : w2.cell? ⟨w1.heap.size, 0, none⟩ = some (.int .u64 0)) => ?_) (keepc hb2 ?_); rotate_left; (focus (simp [go_sem]; done)))); (try (refine (fun (c1 : w2.cell? ⟨w1.heap.size, 1, none⟩ = some (.int .u64 0)) => ?_) (keepc hb2 ?_); rotate_left; (focus (simp [go_sem]; done)))); (try (refine (fun (g0 : w2.frozen? ⟨w1.heap.size, 0, none⟩ = false) => ?_) (keepf hb2 (v := .int .u64 0) ?_ ?_); rotate_left; (focus (simp [go_sem]; done)); (focus (simp [go_sem]; done)))); (try (refine (fun (g1 : w2.frozen? ⟨w1.heap.size, 1, none⟩ = false) => ?_) (keepf hb2 (v := .int .u64 0) ?_ ?_); rotate_left; (focus (simp [go_sem]; done)); (focus (simp [go_sem]; done)))); have hZ2 : At w2 (w.heap.size + 1) 0#128 := At.below (by first | exact hZ.drew | exact (hZ.below (bl1 _ _)).drew | exact hZ | exact hZ.below (bl1 _ _)) hb2; have kB2 : Below w.heap.size w w2 := keepb hb2 (by first | exact kB.drew | exact (kB.alloc (by omega) _).drew | exact kB | exact kB.alloc (by omega) _)) | (go_at_call 31; refine (KM _).mono ?_; rintro e w3 ⟨rfl, hb3⟩; (try (have d0 := keepc hb3 c0; have d1 := keepc hb3 c1; have e0 := keepf hb3 c0 g0; have e1 := keepf hb3 c1 g1)); (try (refine (fun (d2 : w3.cell? ⟨w2.heap.size, 0, none⟩ = some (.int .u64 0)) => ?_) (keepc hb3 ?_); rotate_left; (focus (simp [go_sem]; done)))); (try (refine (fun (d3 : w3.cell? ⟨w2.heap.size, 1, none⟩ = some (.int .u64 0)) => ?_) (keepc hb3 ?_); rotate_left; (focus (simp [go_sem]; done)))); (try (refine (fun (e2 : w3.frozen? ⟨w2.heap.size, 0, none⟩ = false) => ?_) (keepf hb3 (v := .int .u64 0) ?_ ?_); rotate_left; (focus (simp [go_sem]; done)); (focus (simp [go_sem]; done)))); (try (refine (fun (e3 : w3.frozen? ⟨w2.heap.size, 1, none⟩ = false) => ?_) (keepf hb3 (v := .int .u64 0) ?_ ?_); rotate_left; (focus (simp [go_sem]; done)); (focus (simp [go_sem]; done)))); have hZ3 : At w3 (w.heap.size + 1) 0#128 := At.below (by first | exact hZ2 | exact hZ2.below (bl1 _ _)) hb3; have kB3 : Below w.heap.size w w3 := keepb hb3 (by first | exact kB2 | exact kB2.alloc kB2.size _)))
  all_goals
    have z5 := hZ3.2.2.2.2
    have z6 := hZ2.2.2.2.2
  all_goals first
    | exact tail w3.heap.size _ (at_new w3 w3.heap.size z _ rfl) (hZ3.below (bl1 _ _)) (kB3.alloc kB3.size _) (Nat.ne_of_gt z5)
    | exact tail w2.heap.size _ (at_zero d2 d3 e2 e3 z) (hZ3.other _ _ (Nat.ne_of_lt z6)) (bset2 kB3 kB2.size _ _) (Nat.ne_of_gt z6)
    | exact tail w1.heap.size _ (at_zero d0 d1 e0 e1 z) (hZ3.other _ _ (Nat.ne_of_lt z4)) (bset2 kB3 kB.size _ _) (Nat.ne_of_gt z4)

set_option maxHeartbeats 4000000 in
theorem besideSub_no (F : Int) (x : BitVec 128) (r : Int) (w : World) (hr : ¬ r = 0) (KR : ∀ w, Calls Try.prog 53 #[.int .i64 F, .agg #[.int .u64 (hI x), .int .u64 (lI x)]] w fun e w' => e = .returned (.int .i64 r) ∧ Below w.heap.size w w') :
    Calls Try.prog 29 #[.int .i64 F, .agg #[.int .u64 (hI x), .int .u64 (lI x)], .func (.func 31) #[] #[]] w fun e w' => e = .returned (.tuple #[.agg #[.int .u64 0, .int .u64 0], .bool false]) ∧ Below w.heap.size w w' := by
  have hb : (r != 0) = true := by simp [hr]
  go_enter Try.func29, Try.ntmps29
  go_wp2_with fail
  refine (KR _).mono ?_
  rintro e w1 ⟨rfl, hb1⟩
  clear KR
  have hZ := (at_new (w.alloc (.cells #[.int .u64 (hI x), .int .u64 (lI x)] 24)) (w.heap.size + 1) 0#128 24 (by simp)).below hb1
  have kB := keepb hb1 (bl2 w _ _)
  clear hb1
  obtain ⟨z0, z1, z2, z3, z4⟩ := hZ
  go_wp2
  exact bodyPost_ret (v := .tuple #[.agg #[.int .u64 0, .int .u64 0], .bool false]) (by simp [results, Try.results29, go_sem, *]) rfl ⟨rfl, bset2 kB (by omega) _ _⟩

theorem besideSub_any (F : Int) (x : BitVec 128) (w : World) :
    Calls Try.prog 29 #[.int .i64 F, .agg #[.int .u64 (hI x), .int .u64 (lI x)], .func (.func 31) #[] #[]] w fun e w' => e = .returned (.tuple #[.agg #[.int .u64 (hI (prevV F x)), .int .u64 (lI (prevV F x))], .bool (prevB F x)]) ∧ Below w.heap.size w w' := by
  have KR := fun w => aright_any F x w
  by_cases hr : rightE F x = 0
  · have hf := (right0 F x hr).1
    have hF : 0 ≤ F ∧ F ≤ 128 := by rcases fam_ways F hf with rfl | rfl <;> omega
    rw [hr] at KR
    have h := besideSub_yes F x (stepW F) (x - stepW F) (underB x (stepW F)) w KR (fun w => step_any F w hF.1 hF.2) (fun w => sub_any x (stepW F) w)
    have e1 : prevB F x = !underB x (stepW F) := by unfold prevB; simp [hr]
    have e2 : prevV F x = if underB x (stepW F) = true then 0#128 else x - stepW F := by
      unfold prevV; rw [e1]; cases underB x (stepW F) <;> rfl
    rw [e1, e2]; exact h
  · have h := besideSub_no F x (rightE F x) w hr KR
    have e1 : prevB F x = false := by unfold prevB; simp [hr]
    have e2 : prevV F x = 0#128 := by unfold prevV; rw [e1]; rfl
    rw [e1, e2, hI_zero, lI_zero]; exact h

set_option maxHeartbeats 1000000 in
theorem aprev_any (F : Int) (x : BitVec 128) (w : World) :
    Calls Try.prog 11 #[.int .i64 F, .agg #[.int .u64 (hI x), .int .u64 (lI x)]] w fun e w' => e = .returned (.tuple #[.agg #[.int .u64 (hI (prevV F x)), .int .u64 (lI (prevV F x))], .bool (prevB F x)]) ∧ Below w.heap.size w w' := by
  have KB := fun w => besideSub_any F x w
  generalize prevV F x = y at *
  generalize prevB F x = b at *
  go_enter Try.func11, Try.ntmps11
  go_wp2_with fail
  refine (KB _).mono ?_
  rintro e w1 ⟨rfl, hb1⟩
  clear KB
  have hZ := (at_new (w.alloc (.cells #[.int .u64 (hI x), .int .u64 (lI x)] 24)) (w.heap.size + 1) 0#128 24 (by simp)).below hb1
  have kB := keepb hb1 (bl2 w _ _)
  clear hb1
  obtain ⟨z0, z1, z2, z3, z4⟩ := hZ
  go_wp2
  exact bodyPost_ret (v := .tuple #[.agg #[.int .u64 (hI y), .int .u64 (lI y)], .bool b]) (by simp [results, Try.results11, go_sem, *]) rfl ⟨rfl, bset2 kB (by omega) _ _⟩

end Go.Proofs.Ytldjeabdoooihaa
