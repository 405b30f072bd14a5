/-
  Part 3 of the proof: 3 texts, one behind the other.
-/
import Derived.Test.YtonagfmkplbooaaGreatDoorPart2
import Derived.Test.YtonagfmkplbooaaGreatDoorPart1
/-
  What the calls of package addr's beside, Next and Prev do.
-/
namespace Go.Proofs.YtonagfmkplbooaaGreatDoor
open Go.RowKit
set_option linter.unusedSimpArgs false
set_option linter.unusedVariables false

theorem At.drew {w : World} {B : Nat} {x : BitVec 128} (h : At w B x) : At w.drew B x := h
theorem at_zero {w : World} {B : Nat} (h0 : w.cell? ⟨B, 0, none⟩ = some (.int .u64 0)) (h1 : w.cell? ⟨B, 1, none⟩ = some (.int .u64 0)) (f0 : w.frozen? ⟨B, 0, none⟩ = false) (f1 : w.frozen? ⟨B, 1, none⟩ = false) (z : BitVec 128) :
    At ((w.setCell ⟨B, 0, none⟩ (.int .u64 (hI z))).setCell ⟨B, 1, none⟩ (.int .u64 (lI z))) B z :=
  At.set (x := 0#128) z ⟨by rw [hI_zero]; exact h0, by rw [lI_zero]; exact h1, f0, f1, cell_in h0⟩

set_option maxHeartbeats 4000000 in
theorem besideAdd_yes (F : Int) (x y z : BitVec 128) (ov : Bool) (w : World) (KR : ∀ w, Calls Tryz.prog 91 #[.int .i64 F, .agg #[.int .u64 (hI x), .int .u64 (lI x)]] w fun e w' => e = .returned (.int .i64 0) ∧ Below w.heap.size w w')
    (KS : ∀ w, Calls Tryz.prog 97 #[.int .i64 F] w fun e w' => e = .returned (.agg #[.int .u64 (hI y), .int .u64 (lI y)]) ∧ Below w.heap.size w w')
    (KM : ∀ w, Calls Tryz.prog 94 #[.agg #[.int .u64 (hI x), .int .u64 (lI x)], .agg #[.int .u64 (hI y), .int .u64 (lI y)]] w fun e w' => e = .returned (.tuple #[.agg #[.int .u64 (hI z), .int .u64 (lI z)], .bool ov]) ∧ Below w.heap.size w w') :
    Calls Tryz.prog 89 #[.int .i64 F, .agg #[.int .u64 (hI x), .int .u64 (lI x)], .func (.func 94) #[] #[]] w fun e w' => e = .returned (.tuple #[.agg #[.int .u64 (hI (if ov = true then 0#128 else z)), .int .u64 (lI (if ov = true then 0#128 else z))], .bool (!ov)]) ∧ Below w.heap.size w w' := by
  go_enter Tryz.func89, Tryz.ntmps89
  go_wp2_with fail
  refine (KR _).mono ?_
  rintro e w1 ⟨rfl, hb1⟩
  clear KR
  have hX := ((at_new w w.heap.size x 27 rfl).below (bl1 _ (.cells #[.int .u64 0, .int .u64 0] 27))).below hb1
  have hZ := (at_new (w.alloc (.cells #[.int .u64 (hI x), .int .u64 (lI x)] 27)) (w.heap.size + 1) 0#128 27 (by simp)).below hb1
  have kB := keepb hb1 (bl2 w _ _)
  clear hb1
  obtain ⟨x0, x1, x2, x3, x4⟩ := id hX
  have z4 := hZ.2.2.2.2
  have n1 : ¬ w1.heap.size = w.heap.size := by omega
  go_wp2_with fail
  rename_i Q' K hK
  have tail : ∀ (N : Nat) (W : World), At W N z → At W (w.heap.size + 1) 0#128 → Below w.heap.size w W → ¬ N = w.heap.size + 1 → (Exit.then K Q') .normal { tmps := #[.int .i64 F, .agg #[.int .u64 (hI x), .int .u64 (lI x)], .func (.func 94) #[] #[], undef, .pointer (some ⟨w.heap.size, 0, none⟩), undef, .pointer (some ⟨w.heap.size + 1, 0, none⟩), .bool false, .pointer (some ⟨N, 0, none⟩), .bool ov, .int .i64 F, .agg #[.int .u64 (hI x), .int .u64 (lI x)], .int .i64 0, .bool false, undef, .tuple #[.agg #[.int .u64 (hI z), .int .u64 (lI z)], .bool ov], .func (.func 94) #[] #[], .agg #[.int .u64 (hI x), .int .u64 (lI x)], .int .i64 F, .agg #[.int .u64 (hI y), .int .u64 (lI y)], .tuple #[.agg #[.int .u64 (hI z), .int .u64 (lI z)], .bool ov], .agg #[.int .u64 (hI z), .int .u64 (lI z)], .bool ov, undef, undef, undef], defers := [] } W := by
    intro N W hN hZ' hB' hn
    obtain ⟨a0, a1, a2, a3, a4⟩ := hN
    obtain ⟨b0, b1, b2, b3, b4⟩ := hZ'
    clear x0 x1 x2 x3 x4 hX hZ KS KM
    cases ov
    · go_wp2
      exact bodyPost_ret (v := .tuple #[.agg #[.int .u64 (hI z), .int .u64 (lI z)], .bool true]) (by simp [results, Tryz.results89, go_sem, *]) rfl ⟨by simp [hI_zero, lI_zero], bset2 hB' (by omega) _ _⟩
    · go_wp2
      exact bodyPost_ret (v := .tuple #[.agg #[.int .u64 0, .int .u64 0], .bool false]) (by simp [results, Tryz.results89, go_sem, *]) rfl ⟨by simp [hI_zero, lI_zero], bset2 hB' (by omega) _ _⟩
  go_region_with (first | (go_at_call 97; refine (KS _).mono ?_; rintro e w2 ⟨rfl, hb2⟩; have p0 : w2.cell? ⟨w.heap.size, 0, none⟩ = some (.int .u64 (hI x)) := keepc hb2 (by simp [go_sem, *]); have p1 : w2.cell? ⟨w.heap.size, 1, none⟩ = some (.int .u64 (lI x)) := keepc hb2 (by simp [go_sem, *]); have n3 : ¬ w2.heap.size = w.heap.size := (fun e => by have := cell_in p0; omega); have l3 := cell_in p0; (try (refine (fun (c0 : w2.cell? ⟨w1.heap.size, 0, none⟩ = some (.int .u64 0)) => ?_) (keepc hb2 ?_); rotate_left; (focus (simp [go_sem]; done)))); (try (refine (fun (c1 : w2.cell? ⟨w1.heap.size, 1, none⟩ = some (.int .u64 0)) => ?_) (keepc hb2 ?_); rotate_left; (focus (simp [go_sem]; done)))); (try (refine (fun (g0 : w2.frozen? ⟨w1.heap.size, 0, none⟩ = false) => ?_) (keepf hb2 (v := .int .u64 0) ?_ ?_); rotate_left; (focus (simp [go_sem]; done)); (focus (simp [go_sem]; done)))); (try (refine (fun (g1 : w2.frozen? ⟨w1.heap.size, 1, none⟩ = false) => ?_) (keepf hb2 (v := .int .u64 0) ?_ ?_); rotate_left; (focus (simp [go_sem]; done)); (focus (simp [go_sem]; done)))); have hZ2 : At w2 (w.heap.size + 1) 0#128 := At.below (by first | exact hZ.drew | exact (hZ.below (bl1 _ _)).drew | exact hZ | exact hZ.below (bl1 _ _)) hb2; have kB2 : Below w.heap.size w w2 := keepb hb2 (by first | exact kB.drew | exact (kB.alloc (by omega) _).drew | exact kB | exact kB.alloc (by omega) _)) | (go_at_call 94; refine (KM _).mono ?_; rintro e w3 ⟨rfl, hb3⟩; (try (have d0 := keepc hb3 c0; have d1 := keepc hb3 c1; have e0 := keepf hb3 c0 g0; have e1 := keepf hb3 c1 g1)); (try (refine (fun (d2 : w3.cell? ⟨w2.heap.size, 0, none⟩ = some (.int .u64 0)) => ?_) (keepc hb3 ?_); rotate_left; (focus (simp [go_sem]; done)))); (try (refine (fun (d3 : w3.cell? ⟨w2.heap.size, 1, none⟩ = some (.int .u64 0)) => ?_) (keepc hb3 ?_); rotate_left; (focus (simp [go_sem]; done)))); (try (refine (fun (e2 : w3.frozen? ⟨w2.heap.size, 0, none⟩ = false) => ?_) (keepf hb3 (v := .int .u64 0) ?_ ?_); rotate_left; (focus (simp [go_sem]; done)); (focus (simp [go_sem]; done)))); (try (refine (fun (e3 : w3.frozen? ⟨w2.heap.size, 1, none⟩ = false) => ?_) (keepf hb3 (v := .int .u64 0) ?_ ?_); rotate_left; (focus (simp [go_sem]; done)); (focus (simp [go_sem]; done)))); have hZ3 : At w3 (w.heap.size + 1) 0#128 := At.below (by first | exact hZ2 | exact hZ2.below (bl1 _ _)) hb3; have kB3 : Below w.heap.size w w3 := keepb hb3 (by first | exact kB2 | exact kB2.alloc kB2.size _)))
  all_goals
    have z5 := hZ3.2.2.2.2
    have z6 := hZ2.2.2.2.2
  all_goals first
    | exact tail w3.heap.size _ (at_new w3 w3.heap.size z _ rfl) (hZ3.below (bl1 _ _)) (kB3.alloc kB3.size _) (Nat.ne_of_gt z5)
    | exact tail w2.heap.size _ (at_zero d2 d3 e2 e3 z) (hZ3.other _ _ (Nat.ne_of_lt z6)) (bset2 kB3 kB2.size _ _) (Nat.ne_of_gt z6)
    | exact tail w1.heap.size _ (at_zero d0 d1 e0 e1 z) (hZ3.other _ _ (Nat.ne_of_lt z4)) (bset2 kB3 kB.size _ _) (Nat.ne_of_gt z4)

set_option maxHeartbeats 4000000 in
theorem besideAdd_no (F : Int) (x : BitVec 128) (r : Int) (w : World) (hr : ¬ r = 0) (KR : ∀ w, Calls Tryz.prog 91 #[.int .i64 F, .agg #[.int .u64 (hI x), .int .u64 (lI x)]] w fun e w' => e = .returned (.int .i64 r) ∧ Below w.heap.size w w') :
    Calls Tryz.prog 89 #[.int .i64 F, .agg #[.int .u64 (hI x), .int .u64 (lI x)], .func (.func 94) #[] #[]] w fun e w' => e = .returned (.tuple #[.agg #[.int .u64 0, .int .u64 0], .bool false]) ∧ Below w.heap.size w w' := by
  have hb : (r != 0) = true := by simp [hr]
  go_enter Tryz.func89, Tryz.ntmps89
  go_wp2_with fail
  refine (KR _).mono ?_
  rintro e w1 ⟨rfl, hb1⟩
  clear KR
  have hZ := (at_new (w.alloc (.cells #[.int .u64 (hI x), .int .u64 (lI x)] 27)) (w.heap.size + 1) 0#128 27 (by simp)).below hb1
  have kB := keepb hb1 (bl2 w _ _)
  clear hb1
  obtain ⟨z0, z1, z2, z3, z4⟩ := hZ
  go_wp2
  exact bodyPost_ret (v := .tuple #[.agg #[.int .u64 0, .int .u64 0], .bool false]) (by simp [results, Tryz.results89, go_sem, *]) rfl ⟨rfl, bset2 kB (by omega) _ _⟩

theorem besideAdd_any (F : Int) (x : BitVec 128) (w : World) :
    Calls Tryz.prog 89 #[.int .i64 F, .agg #[.int .u64 (hI x), .int .u64 (lI x)], .func (.func 94) #[] #[]] w fun e w' => e = .returned (.tuple #[.agg #[.int .u64 (hI (nextV F x)), .int .u64 (lI (nextV F x))], .bool (nextB F x)]) ∧ Below w.heap.size w w' := by
  have KR := fun w => aright_any F x w
  by_cases hr : rightE F x = 0
  · have hf := (right0 F x hr).1
    have hF : 0 ≤ F ∧ F ≤ 128 := by rcases fam_ways F hf with rfl | rfl <;> omega
    rw [hr] at KR
    have h := besideAdd_yes F x (stepW F) (x + stepW F) (overB x (stepW F)) w KR (fun w => step_any F w hF.1 hF.2) (fun w => add_any x (stepW F) w)
    have e1 : nextB F x = !overB x (stepW F) := by unfold nextB; simp [hr]
    have e2 : nextV F x = if overB x (stepW F) = true then 0#128 else x + stepW F := by
      unfold nextV; rw [e1]; cases overB x (stepW F) <;> rfl
    rw [e1, e2]; exact h
  · have h := besideAdd_no F x (rightE F x) w hr KR
    have e1 : nextB F x = false := by unfold nextB; simp [hr]
    have e2 : nextV F x = 0#128 := by unfold nextV; rw [e1]; rfl
    rw [e1, e2, hI_zero, lI_zero]; exact h

set_option maxHeartbeats 1000000 in
theorem anext_any (F : Int) (x : BitVec 128) (w : World) :
    Calls Tryz.prog 69 #[.int .i64 F, .agg #[.int .u64 (hI x), .int .u64 (lI x)]] w fun e w' => e = .returned (.tuple #[.agg #[.int .u64 (hI (nextV F x)), .int .u64 (lI (nextV F x))], .bool (nextB F x)]) ∧ Below w.heap.size w w' := by
  have KB := fun w => besideAdd_any F x w
  generalize nextV F x = y at *
  generalize nextB F x = b at *
  go_enter Tryz.func69, Tryz.ntmps69
  go_wp2_with fail
  refine (KB _).mono ?_
  rintro e w1 ⟨rfl, hb1⟩
  clear KB
  have hZ := (at_new (w.alloc (.cells #[.int .u64 (hI x), .int .u64 (lI x)] 27)) (w.heap.size + 1) 0#128 27 (by simp)).below hb1
  have kB := keepb hb1 (bl2 w _ _)
  clear hb1
  obtain ⟨z0, z1, z2, z3, z4⟩ := hZ
  go_wp2
  exact bodyPost_ret (v := .tuple #[.agg #[.int .u64 (hI y), .int .u64 (lI y)], .bool b]) (by simp [results, Tryz.results69, go_sem, *]) rfl ⟨rfl, bset2 kB (by omega) _ _⟩

set_option maxHeartbeats 4000000 in
theorem besideSub_yes (F : Int) (x y z : BitVec 128) (ov : Bool) (w : World) (KR : ∀ w, Calls Tryz.prog 91 #[.int .i64 F, .agg #[.int .u64 (hI x), .int .u64 (lI x)]] w fun e w' => e = .returned (.int .i64 0) ∧ Below w.heap.size w w')
    (KS : ∀ w, Calls Tryz.prog 97 #[.int .i64 F] w fun e w' => e = .returned (.agg #[.int .u64 (hI y), .int .u64 (lI y)]) ∧ Below w.heap.size w w')
    (KM : ∀ w, Calls Tryz.prog 90 #[.agg #[.int .u64 (hI x), .int .u64 (lI x)], .agg #[.int .u64 (hI y), .int .u64 (lI y)]] w fun e w' => e = .returned (.tuple #[.agg #[.int .u64 (hI z), .int .u64 (lI z)], .bool ov]) ∧ Below w.heap.size w w') :
    Calls Tryz.prog 89 #[.int .i64 F, .agg #[.int .u64 (hI x), .int .u64 (lI x)], .func (.func 90) #[] #[]] w fun e w' => e = .returned (.tuple #[.agg #[.int .u64 (hI (if ov = true then 0#128 else z)), .int .u64 (lI (if ov = true then 0#128 else z))], .bool (!ov)]) ∧ Below w.heap.size w w' := by
  go_enter Tryz.func89, Tryz.ntmps89
  go_wp2_with fail
  refine (KR _).mono ?_
  rintro e w1 ⟨rfl, hb1⟩
  clear KR
  have hX := ((at_new w w.heap.size x 27 rfl).below (bl1 _ (.cells #[.int .u64 0, .int .u64 0] 27))).below hb1
  have hZ := (at_new (w.alloc (.cells #[.int .u64 (hI x), .int .u64 (lI x)] 27)) (w.heap.size + 1) 0#128 27 (by simp)).below hb1
  have kB := keepb hb1 (bl2 w _ _)
  clear hb1
  obtain ⟨x0, x1, x2, x3, x4⟩ := id hX
  have z4 := hZ.2.2.2.2
  have n1 : ¬ w1.heap.size = w.heap.size := by omega
  go_wp2_with fail
  rename_i Q' K hK
  have tail : ∀ (N : Nat) (W : World), At W N z → At W (w.heap.size + 1) 0#128 → Below w.heap.size w W → ¬ N = w.heap.size + 1 → (Exit.then K Q') .normal { tmps := #[.int .i64 F, .agg #[.int .u64 (hI x), .int .u64 (lI x)], .func (.func 90) #[] #[], undef, .pointer (some ⟨w.heap.size, 0, none⟩), undef, .pointer (some ⟨w.heap.size + 1, 0, none⟩), .bool false, .pointer (some ⟨N, 0, none⟩), .bool ov, .int .i64 F, .agg #[.int .u64 (hI x), .int .u64 (lI x)], .int .i64 0, .bool false, undef, .tuple #[.agg #[.int .u64 (hI z), .int .u64 (lI z)], .bool ov], .func (.func 90) #[] #[], .agg #[.int .u64 (hI x), .int .u64 (lI x)], .int .i64 F, .agg #[.int .u64 (hI y), .int .u64 (lI y)], .tuple #[.agg #[.int .u64 (hI z), .int .u64 (lI z)], .bool ov], .agg #[.int .u64 (hI z), .int .u64 (lI z)], .bool ov, undef, undef, undef], defers := [] } W := by
    intro N W hN hZ' hB' hn
    obtain ⟨a0, a1, a2, a3, a4⟩ := hN
    obtain ⟨b0, b1, b2, b3, b4⟩ := hZ'
    clear x0 x1 x2 x3 x4 hX hZ KS KM
    cases ov
    · go_wp2
      exact bodyPost_ret (v := .tuple #[.agg #[.int .u64 (hI z), .int .u64 (lI z)], .bool true]) (by simp [results, Tryz.results89, go_sem, *]) rfl ⟨by simp [hI_zero, lI_zero], bset2 hB' (by omega) _ _⟩
    · go_wp2
      exact bodyPost_ret (v := .tuple #[.agg #[.int .u64 0, .int .u64 0], .bool false]) (by simp [results, Tryz.results89, go_sem, *]) rfl ⟨by simp [hI_zero, lI_zero], bset2 hB' (by omega) _ _⟩
  go_region_with (first | (go_at_call 97; refine (KS _).mono ?_; rintro e w2 ⟨rfl, hb2⟩; have p0 : w2.cell? ⟨w.heap.size, 0, none⟩ = some (.int .u64 (hI x)) := keepc hb2 (by simp [go_sem, *]); have p1 : w2.cell? ⟨w.heap.size, 1, none⟩ = some (.int .u64 (lI x)) := keepc hb2 (by simp [go_sem, *]); have n3 : ¬ w2.heap.size = w.heap.size := (fun e => by have := cell_in p0; omega); have l3 := cell_in p0; (try (refine (fun (c0 : w2.cell? ⟨w1.heap.size, 0, none⟩ = some (.int .u64 0)) => ?_) (keepc hb2 ?_); rotate_left; (focus (simp [go_sem]; done)))); (try (refine (fun (c1 : w2.cell? ⟨w1.heap.size, 1, none⟩ = some (.int .u64 0)) => ?_) (keepc hb2 ?_); rotate_left; (focus (simp [go_sem]; done)))); (try (refine (fun (g0 : w2.frozen? ⟨w1.heap.size, 0, none⟩ = false) => ?_) (keepf hb2 (v := .int .u64 0) ?_ ?_); rotate_left; (focus (simp [go_sem]; done)); (focus (simp [go_sem]; done)))); (try (refine (fun (g1 : w2.frozen? ⟨w1.heap.size, 1, none⟩ = false) => ?_) (keepf hb2 (v := .int .u64 0) ?_ ?_); rotate_left; (focus (simp [go_sem]; done)); (focus (simp [go_sem]; done)))); have hZ2 : At w2 (w.heap.size + 1) 0#128 := At.below (by first | exact hZ.drew | exact (hZ.below (bl1 _ _)).drew | exact hZ | exact hZ.below (bl1 _ _)) hb2; have kB2 : Below w.heap.size w w2 := keepb hb2 (by first | exact kB.drew | exact (kB.alloc (by omega) _).drew | exact kB | exact kB.alloc (by omega) _)) | (go_at_call 90; refine (KM _).mono ?_; rintro e w3 ⟨rfl, hb3⟩; (try (have d0 := keepc hb3 c0; have d1 := keepc hb3 c1; have e0 := keepf hb3 c0 g0; have e1 := keepf hb3 c1 g1)); (try (refine (fun (d2 : w3.cell? ⟨w2.heap.size, 0, none⟩ = some (.int .u64 0)) => ?_) (keepc hb3 ?_); rotate_left; (focus (simp [go_sem]; done)))); (try (refine (fun (d3 : w3.cell? ⟨w2.heap.size, 1, none⟩ = some (.int .u64 0)) => ?_) (keepc hb3 ?_); rotate_left; (focus (simp [go_sem]; done)))); (try (refine (fun (e2 : w3.frozen? ⟨w2.heap.size, 0, none⟩ = false) => ?_) (keepf hb3 (v := .int .u64 0) ?_ ?_); rotate_left; (focus (simp [go_sem]; done)); (focus (simp [go_sem]; done)))); (try (refine (fun (e3 : w3.frozen? ⟨w2.heap.size, 1, none⟩ = false) => ?_) (keepf hb3 (v := .int .u64 0) ?_ ?_); rotate_left; (focus (simp [go_sem]; done)); (focus (simp [go_sem]; done)))); have hZ3 : At w3 (w.heap.size + 1) 0#128 := At.below (by first | exact hZ2 | exact hZ2.below (bl1 _ _)) hb3; have kB3 : Below w.heap.size w w3 := keepb hb3 (by first | exact kB2 | exact kB2.alloc kB2.size _)))
  all_goals
    have z5 := hZ3.2.2.2.2
    have z6 := hZ2.2.2.2.2
  all_goals first
    | exact tail w3.heap.size _ (at_new w3 w3.heap.size z _ rfl) (hZ3.below (bl1 _ _)) (kB3.alloc kB3.size _) (Nat.ne_of_gt z5)
    | exact tail w2.heap.size _ (at_zero d2 d3 e2 e3 z) (hZ3.other _ _ (Nat.ne_of_lt z6)) (bset2 kB3 kB2.size _ _) (Nat.ne_of_gt z6)
    | exact tail w1.heap.size _ (at_zero d0 d1 e0 e1 z) (hZ3.other _ _ (Nat.ne_of_lt z4)) (bset2 kB3 kB.size _ _) (Nat.ne_of_gt z4)

set_option maxHeartbeats 4000000 in
theorem besideSub_no (F : Int) (x : BitVec 128) (r : Int) (w : World) (hr : ¬ r = 0) (KR : ∀ w, Calls Tryz.prog 91 #[.int .i64 F, .agg #[.int .u64 (hI x), .int .u64 (lI x)]] w fun e w' => e = .returned (.int .i64 r) ∧ Below w.heap.size w w') :
    Calls Tryz.prog 89 #[.int .i64 F, .agg #[.int .u64 (hI x), .int .u64 (lI x)], .func (.func 90) #[] #[]] w fun e w' => e = .returned (.tuple #[.agg #[.int .u64 0, .int .u64 0], .bool false]) ∧ Below w.heap.size w w' := by
  have hb : (r != 0) = true := by simp [hr]
  go_enter Tryz.func89, Tryz.ntmps89
  go_wp2_with fail
  refine (KR _).mono ?_
  rintro e w1 ⟨rfl, hb1⟩
  clear KR
  have hZ := (at_new (w.alloc (.cells #[.int .u64 (hI x), .int .u64 (lI x)] 27)) (w.heap.size + 1) 0#128 27 (by simp)).below hb1
  have kB := keepb hb1 (bl2 w _ _)
  clear hb1
  obtain ⟨z0, z1, z2, z3, z4⟩ := hZ
  go_wp2
  exact bodyPost_ret (v := .tuple #[.agg #[.int .u64 0, .int .u64 0], .bool false]) (by simp [results, Tryz.results89, go_sem, *]) rfl ⟨rfl, bset2 kB (by omega) _ _⟩

theorem besideSub_any (F : Int) (x : BitVec 128) (w : World) :
    Calls Tryz.prog 89 #[.int .i64 F, .agg #[.int .u64 (hI x), .int .u64 (lI x)], .func (.func 90) #[] #[]] w fun e w' => e = .returned (.tuple #[.agg #[.int .u64 (hI (prevV F x)), .int .u64 (lI (prevV F x))], .bool (prevB F x)]) ∧ Below w.heap.size w w' := by
  have KR := fun w => aright_any F x w
  by_cases hr : rightE F x = 0
  · have hf := (right0 F x hr).1
    have hF : 0 ≤ F ∧ F ≤ 128 := by rcases fam_ways F hf with rfl | rfl <;> omega
    rw [hr] at KR
    have h := besideSub_yes F x (stepW F) (x - stepW F) (underB x (stepW F)) w KR (fun w => step_any F w hF.1 hF.2) (fun w => sub_any x (stepW F) w)
    have e1 : prevB F x = !underB x (stepW F) := by unfold prevB; simp [hr]
    have e2 : prevV F x = if underB x (stepW F) = true then 0#128 else x - stepW F := by
      unfold prevV; rw [e1]; cases underB x (stepW F) <;> rfl
    rw [e1, e2]; exact h
  · have h := besideSub_no F x (rightE F x) w hr KR
    have e1 : prevB F x = false := by unfold prevB; simp [hr]
    have e2 : prevV F x = 0#128 := by unfold prevV; rw [e1]; rfl
    rw [e1, e2, hI_zero, lI_zero]; exact h

set_option maxHeartbeats 1000000 in
theorem aprev_any (F : Int) (x : BitVec 128) (w : World) :
    Calls Tryz.prog 65 #[.int .i64 F, .agg #[.int .u64 (hI x), .int .u64 (lI x)]] w fun e w' => e = .returned (.tuple #[.agg #[.int .u64 (hI (prevV F x)), .int .u64 (lI (prevV F x))], .bool (prevB F x)]) ∧ Below w.heap.size w w' := by
  have KB := fun w => besideSub_any F x w
  generalize prevV F x = y at *
  generalize prevB F x = b at *
  go_enter Tryz.func65, Tryz.ntmps65
  go_wp2_with fail
  refine (KB _).mono ?_
  rintro e w1 ⟨rfl, hb1⟩
  clear KB
  have hZ := (at_new (w.alloc (.cells #[.int .u64 (hI x), .int .u64 (lI x)] 27)) (w.heap.size + 1) 0#128 27 (by simp)).below hb1
  have kB := keepb hb1 (bl2 w _ _)
  clear hb1
  obtain ⟨z0, z1, z2, z3, z4⟩ := hZ
  go_wp2
  exact bodyPost_ret (v := .tuple #[.agg #[.int .u64 (hI y), .int .u64 (lI y)], .bool b]) (by simp [results, Tryz.results65, go_sem, *]) rfl ⟨rfl, bset2 kB (by omega) _ _⟩

end Go.Proofs.YtonagfmkplbooaaGreatDoor
/-
  Segments in memory, with their next hops; rows of them; what is told of a list of them.
-/
namespace Go.Proofs.YtonagfmkplbooaaGreatDoor
open Go.RowKit
set_option linter.unusedSimpArgs false
set_option linter.unusedVariables false

/-- A segment: its first, its last address, its next hop. -/
abbrev Sg := (BitVec 128 × BitVec 128) × Int
/-- A segment in memory. -/
def AtG (w : World) (B : Nat) (x y : BitVec 128) (h : Int) : Prop := w.cell? ⟨B, 0, none⟩ = some (.int .u64 (hI x)) ∧ w.cell? ⟨B, 1, none⟩ = some (.int .u64 (lI x)) ∧ w.cell? ⟨B, 2, none⟩ = some (.int .u64 (hI y)) ∧ w.cell? ⟨B, 3, none⟩ = some (.int .u64 (lI y)) ∧ w.cell? ⟨B, 4, none⟩ = some (.int .i64 h) ∧ w.frozen? ⟨B, 0, none⟩ = false ∧ w.frozen? ⟨B, 1, none⟩ = false ∧ w.frozen? ⟨B, 2, none⟩ = false ∧ w.frozen? ⟨B, 3, none⟩ = false ∧ w.frozen? ⟨B, 4, none⟩ = false
theorem AtG.below {w w' : World} {B : Nat} {x y : BitVec 128} {h : Int} (g : AtG w B x y h) (hb : Below w.heap.size w w') : AtG w' B x y h := by
  obtain ⟨a0, a1, a2, a3, a4, b0, b1, b2, b3, b4⟩ := g
  exact ⟨keepc hb a0, keepc hb a1, keepc hb a2, keepc hb a3, keepc hb a4, keepf hb a0 b0, keepf hb a1 b1, keepf hb a2 b2, keepf hb a3 b3, keepf hb a4 b4⟩
theorem atg_new (w : World) (B : Nat) (x y : BitVec 128) (h : Int) (T : TypeId) (e : B = w.heap.size) : AtG (w.alloc (.cells #[.int .u64 (hI x), .int .u64 (lI x), .int .u64 (hI y), .int .u64 (lI y), .int .i64 h] T)) B x y h := by
  subst e
  refine ⟨?_, ?_, ?_, ?_, ?_, ?_, ?_, ?_, ?_, ?_⟩ <;> simp [go_sem]
theorem AtG.lt {W : World} {B : Nat} {x y : BitVec 128} {h : Int} (g : AtG W B x y h) : B < W.heap.size := cell_in g.1
def rowG : List Sg → List Value
  | [] => []
  | p :: l => .int .u64 (hI p.1.1) :: .int .u64 (lI p.1.1) :: .int .u64 (hI p.1.2) :: .int .u64 (lI p.1.2) :: .int .i64 p.2 :: rowG l
theorem rowG_app : ∀ l m, rowG (l ++ m) = rowG l ++ rowG m := by
  intro l
  induction l with
  | nil => intro m; rfl
  | cons p l ih => intro m; simp [rowG, ih]
theorem rowG_one (l : List Sg) (x y : BitVec 128) (h : Int) : rowG (l ++ [((x, y), h)]) = rowG l ++ [.int .u64 (hI x), .int .u64 (lI x), .int .u64 (hI y), .int .u64 (lI y), .int .i64 h] := by rw [rowG_app]; rfl
theorem rowG_len : ∀ l, (rowG l).length = l.length * 5 := by
  intro l
  induction l with
  | nil => rfl
  | cons p l ih => simp only [rowG, List.length_cons, ih]; omega
theorem rowG_cell (l : List Sg) : ∀ u ∈ rowG l, u.oneCell' = true := by
  induction l with
  | nil => intro u hu; cases hu
  | cons p l ih =>
    intro u hu
    simp only [rowG, List.mem_cons] at hu
    rcases hu with rfl | rfl | rfl | rfl | rfl | hu
    all_goals first | rfl | exact ih u hu
theorem rowG_get : ∀ (l : List Sg) (j : Nat) (hj : j < l.length), (rowG l)[j * 5]? = some (.int .u64 (hI l[j].1.1)) ∧ (rowG l)[j * 5 + 1]? = some (.int .u64 (lI l[j].1.1)) ∧ (rowG l)[j * 5 + 2]? = some (.int .u64 (hI l[j].1.2)) ∧ (rowG l)[j * 5 + 3]? = some (.int .u64 (lI l[j].1.2)) ∧ (rowG l)[j * 5 + 4]? = some (.int .i64 l[j].2) := by
  intro l
  induction l with
  | nil => intro j hj; simp at hj
  | cons p l ih =>
    intro j hj
    cases j with
    | zero => simp [rowG]
    | succ j =>
      have := ih j (by simpa using hj)
      rw [show (j + 1) * 5 = j * 5 + 5 by omega, show j * 5 + 5 + 1 = j * 5 + 1 + 5 by omega, show j * 5 + 5 + 2 = j * 5 + 2 + 5 by omega, show j * 5 + 5 + 3 = j * 5 + 3 + 5 by omega, show j * 5 + 5 + 4 = j * 5 + 4 + 5 by omega]
      simpa [rowG] using this
theorem rwg_cells {W : World} {b off : Nat} {l : List Sg} (h : ∀ j u, (rowG l)[j]? = some u → W.cell? ⟨b, off + j, none⟩ = some u) (k : Nat) (hk : k < l.length) :
    W.cell? ⟨b, off + k * 5, none⟩ = some (.int .u64 (hI l[k].1.1)) ∧ W.cell? ⟨b, off + k * 5 + 1, none⟩ = some (.int .u64 (lI l[k].1.1)) ∧ W.cell? ⟨b, off + k * 5 + 2, none⟩ = some (.int .u64 (hI l[k].1.2)) ∧ W.cell? ⟨b, off + k * 5 + 3, none⟩ = some (.int .u64 (lI l[k].1.2)) ∧ W.cell? ⟨b, off + k * 5 + 4, none⟩ = some (.int .i64 l[k].2) := by
  obtain ⟨a0, a1, a2, a3, a4⟩ := rowG_get l k hk
  exact ⟨h _ _ a0, h _ _ a1, h _ _ a2, h _ _ a3, h _ _ a4⟩
theorem ownG_cells {W : World} {base n g c : Nat} {l : List Sg} (h : W.ownsRow base 47 5 (.slice (some ⟨g, 0, none⟩) n c) n (rowG l)) (j : Nat) (hj : j < l.length) :
    W.cell? ⟨g, j * 5, none⟩ = some (.int .u64 (hI l[j].1.1)) ∧ W.cell? ⟨g, j * 5 + 1, none⟩ = some (.int .u64 (lI l[j].1.1)) ∧ W.cell? ⟨g, j * 5 + 2, none⟩ = some (.int .u64 (hI l[j].1.2)) ∧ W.cell? ⟨g, j * 5 + 3, none⟩ = some (.int .u64 (lI l[j].1.2)) ∧ W.cell? ⟨g, j * 5 + 4, none⟩ = some (.int .i64 l[j].2) := by
  obtain ⟨a0, a1, a2, a3, a4⟩ := rowG_get l j hj
  have f := fun k u => h.cells (g := g) rfl k u
  exact ⟨by have := f _ _ a0; rwa [addA, Nat.zero_add] at this, by have := f _ _ a1; rwa [addA, Nat.zero_add] at this, by have := f _ _ a2; rwa [addA, Nat.zero_add] at this, by have := f _ _ a3; rwa [addA, Nat.zero_add] at this, by have := f _ _ a4; rwa [addA, Nat.zero_add] at this⟩
theorem Tryz.infoG : (Tryz.prog.info? 47).map (fun i => (i.zero, i.size, i.bytes)) = some (some (.agg #[.int .u64 0, .int .u64 0, .int .u64 0, .int .u64 0, .int .i64 0]), 5, 40) := by kernel_rfl
theorem newsG (W : World) (a b c d e : Value) (t : TypeId) : ∀ j u, [a, b, c, d, e][j]? = some u → (W.alloc (.cells #[a, b, c, d, e] t)).cell? ((⟨W.heap.size, 0, none⟩ : Addr).add j) = some u := by
  intro j u hj
  match j, hj with
  | 0, hj => simp at hj; subst hj; simp [Addr.add, go_sem]
  | 1, hj => simp at hj; subst hj; simp [Addr.add, go_sem]
  | 2, hj => simp at hj; subst hj; simp [Addr.add, go_sem]
  | 3, hj => simp at hj; subst hj; simp [Addr.add, go_sem]
  | 4, hj => simp at hj; subst hj; simp [Addr.add, go_sem]
theorem fiveG (a b c d e : Int) : ∀ u ∈ [Value.int .u64 a, Value.int .u64 b, Value.int .u64 c, Value.int .u64 d, Value.int .i64 e], u.oneCell' = true := by
  intro u hu; simp at hu; rcases hu with rfl | rfl | rfl | rfl | rfl <;> rfl
/-- A list of segments in memory, whosever it is. -/
def RwG (W : World) (v : Value) (l : List Sg) : Prop := ∃ ao c, v = .slice ao l.length c ∧ (l = [] ∨ ∃ b off, ao = some ⟨b, off, none⟩ ∧ ∀ j u, (rowG l)[j]? = some u → W.cell? ⟨b, off + j, none⟩ = some u)
theorem RwG.below {W W' : World} {v : Value} {l : List Sg} (h : RwG W v l) (hb : Below W.heap.size W W') : RwG W' v l := by
  obtain ⟨ao, c, e, h⟩ := h
  refine ⟨ao, c, e, h.imp id ?_⟩
  rintro ⟨b, off, e', hc⟩
  exact ⟨b, off, e', fun j u hj => keepc hb (hc j u hj)⟩
theorem row_rwg {W : World} {v : Value} {l : List Sg} (h : Row W 5 v l.length (rowG l)) : RwG W v l := by
  obtain ⟨-, ao, c, e, -, h⟩ := h
  refine ⟨ao, c, e, ?_⟩
  rcases h with ⟨-, -, h⟩ | h
  · exact .inl (List.length_eq_zero_iff.mp h)
  · exact .inr h
theorem own_rwg {W : World} {base : Nat} {v : Value} {l : List Sg} (h : W.ownsRow base 47 5 v l.length (rowG l)) : RwG W v l := row_rwg (own_row h)
/-- The error of one segment. -/
def sgE (F : Int) (s : Sg) : Int := if rightE F s.1.1 = 0 then (if rightE F s.1.2 = 0 then (if s.2 < 0 then 15 else if 65535 < s.2 then 15 else if cmpZ s.1.2 s.1.1 < 0 then 19 else 0) else 6) else 6
def moO (F : Int) : Option Sg → Bool
  | none => true
  | some s => nextB F s.1.2
def nxO (F : Int) : Option Sg → BitVec 128
  | none => 0#128
  | some s => nextV F s.1.2
/-- The error of segments behind one, or behind none. -/
def sgsGo (F : Int) : Option Sg → List Sg → Int
  | p, [] => if moO F p = true then 19 else 0
  | p, s :: l => if sgE F s = 0 then (if moO F p = true then (if (s.1.1 == nxO F p) = true then (if p.map (·.2) = some s.2 then 19 else sgsGo F (some s) l) else 19) else 19) else sgE F s
def sgsE (F : Int) (l : List Sg) : Int := if fam F = true then (if l = [] then 2 else sgsGo F none l) else 11
end Go.Proofs.YtonagfmkplbooaaGreatDoor
/-
  Plain numbers, more: how many noughts stand first; what a stretch of bits is; a stretch laid in bit by bit.
-/
namespace Go.Proofs.YtonagfmkplbooaaGreatDoor
open Go.RowKit
set_option linter.unusedSimpArgs false
set_option linter.unusedVariables false

/-- How many noughts stand first. -/
def leadN (z : BitVec 128) : Nat := if z.toNat = 0 then 128 else 127 - z.toNat.log2
theorem lead_char (z : BitVec 128) (k : Nat) (hk : k ≤ 128) (h1 : z.toNat < 2 ^ (128 - k)) (h2 : k = 128 ∨ 2 ^ (127 - k) ≤ z.toNat) : leadN z = k := by
  unfold leadN
  split
  · rename_i h
    rcases h2 with h2 | h2
    · exact h2.symm
    · rw [h] at h2; have := Nat.two_pow_pos (127 - k); omega
  · rename_i h
    have hlt : z.toNat.log2 < 128 - k := (Nat.log2_lt h).mpr h1
    rcases h2 with h2 | h2
    · subst h2; simp at hlt
    · have := (Nat.le_log2 h).mpr h2; omega
theorem bit_step (z : BitVec 128) (k : Nat) (hk : k < 128) (h : z.toNat < 2 ^ (128 - k)) : (z.getLsbD (127 - k) = false → z.toNat < 2 ^ (128 - (k + 1))) ∧ (z.getLsbD (127 - k) = true → 2 ^ (127 - k) ≤ z.toNat) := by
  have e : 128 - k = (127 - k) + 1 := by omega
  have e2 : 128 - (k + 1) = 127 - k := by omega
  rw [e, Nat.pow_succ] at h
  rw [e2]
  have t : z.getLsbD (127 - k) = decide (z.toNat / 2 ^ (127 - k) % 2 = 1) := by
    unfold BitVec.getLsbD; rw [Nat.testBit_eq_decide_div_mod_eq]
  have hd : z.toNat / 2 ^ (127 - k) < 2 := by
    apply Nat.div_lt_of_lt_mul; omega
  constructor
  · intro hf
    rw [t] at hf
    have hq := of_decide_eq_false hf
    have : z.toNat / 2 ^ (127 - k) = 0 := by
      generalize z.toNat / 2 ^ (127 - k) = q at hq hd
      omega
    rcases Nat.div_eq_zero_iff.mp this with h0 | h0
    · have := Nat.two_pow_pos (127 - k); omega
    · exact h0
  · intro hf
    rw [t] at hf; simp at hf
    apply Classical.byContradiction; intro hn
    have : z.toNat / 2 ^ (127 - k) = 0 := Nat.div_eq_of_lt (by omega)
    omega
theorem bitZ_eq (x y : BitVec 128) (k : Nat) (hk : k < 128) : bitZ x (k : Int) = bitZ y (k : Int) ↔ (x ^^^ y).getLsbD (127 - k) = false := by
  have e : (127 - (k : Int)).toNat = 127 - k := by omega
  unfold bitZ
  rw [bitB_in x k (by omega) (by omega), bitB_in y k (by omega) (by omega), e, BitVec.getLsbD_xor]
  cases x.getLsbD (127 - k) <;> cases y.getLsbD (127 - k) <;> simp

/-- Is there such a stretch? -/
def fitB (f n : Int) : Bool := decide (0 ≤ f) && decide (f ≤ 128) && decide (0 ≤ n) && decide (n ≤ 128 - f)
theorem fitB_t {f n : Int} (h : fitB f n = true) : 0 ≤ f ∧ f ≤ 128 ∧ 0 ≤ n ∧ n ≤ 128 - f := by
  unfold fitB at h; simp at h; omega
theorem lead_wide (v : BitVec 128) (n : Int) (h0 : 0 ≤ n) (h1 : n ≤ 128) : ((leadN v : Nat) : Int) < 128 - n ↔ ¬ v >>> n.toNat = 0#128 := by
  have hv := v.isLt
  have key : v >>> n.toNat = 0#128 ↔ v.toNat < 2 ^ n.toNat := by
    constructor
    · intro h
      have := congrArg BitVec.toNat h
      rw [BitVec.toNat_ushiftRight, Nat.shiftRight_eq_div_pow] at this
      have this2 : v.toNat / 2 ^ n.toNat = 0 := this
      rcases Nat.div_eq_zero_iff.mp this2 with h0 | h0
      · have := Nat.two_pow_pos n.toNat; omega
      · exact h0
    · intro h
      apply BitVec.eq_of_toNat_eq
      rw [BitVec.toNat_ushiftRight, Nat.shiftRight_eq_div_pow, Nat.div_eq_of_lt h]; rfl
  rw [key]
  unfold leadN
  split
  · rename_i h
    rw [h]; have := Nat.two_pow_pos n.toNat
    constructor
    · intro; omega
    · intro; omega
  · rename_i h
    have hl : v.toNat.log2 < 128 := (Nat.log2_lt h).mpr hv
    have := Nat.log2_lt (k := n.toNat) h
    constructor
    · intro g g2
      have := this.mpr g2; omega
    · intro g
      have : ¬ v.toNat.log2 < n.toNat := fun q => g (this.mp q)
      omega

/-- The stretch from f on, n bits long, as a number. -/
def readW (x : BitVec 128) (f n : Int) : BitVec 128 := (x <<< f.toNat) >>> (128 - n).toNat
/-- x with v laid into that stretch. -/
def withW (x : BitVec 128) (f n : Int) (v : BitVec 128) : BitVec 128 := x ^^^ ((readW x f n ^^^ v) <<< (128 - f - n).toNat)
theorem readW_bit (x : BitVec 128) (f n : Int) (h : fitB f n = true) (j : Nat) : (readW x f n).getLsbD j = (decide (j < n.toNat) && x.getLsbD ((128 - f - n).toNat + j)) := by
  obtain ⟨h0, h1, h2, h3⟩ := fitB_t h
  unfold readW
  simp only [BitVec.getLsbD_ushiftRight, BitVec.getLsbD_shiftLeft]
  by_cases c : j < n.toNat
  · have a : (128 - n).toNat + j < 128 := by omega
    have b : ¬ (128 - n).toNat + j < f.toNat := by omega
    have e : (128 - n).toNat + j - f.toNat = (128 - f - n).toNat + j := by omega
    simp only [a, b, e, c, decide_true, decide_false, Bool.true_and, Bool.not_false]
  · have a : ¬ (128 - n).toNat + j < 128 := by omega
    simp only [a, c, decide_false, Bool.false_and]
theorem small_bit (v : BitVec 128) (n : Nat) (h : v >>> n = 0#128) (j : Nat) (hj : n ≤ j) : v.getLsbD j = false := by
  have := congrArg (fun z => z.getLsbD (j - n)) h
  simp only [BitVec.getLsbD_ushiftRight, BitVec.getLsbD_zero] at this
  have e : n + (j - n) = j := by omega
  rw [e] at this; exact this
theorem withW_bit (x v : BitVec 128) (f n : Int) (h : fitB f n = true) (hv : v >>> n.toNat = 0#128) (j : Nat) (hj : j < 128) :
    (withW x f n v).getLsbD j = if (128 - f - n).toNat ≤ j ∧ j < (128 - f - n).toNat + n.toNat then v.getLsbD (j - (128 - f - n).toNat) else x.getLsbD j := by
  obtain ⟨h0, h1, h2, h3⟩ := fitB_t h
  unfold withW
  simp only [BitVec.getLsbD_xor, BitVec.getLsbD_shiftLeft, hj, decide_true, Bool.true_and]
  by_cases c : j < (128 - f - n).toNat
  · have d : ¬ ((128 - f - n).toNat ≤ j ∧ j < (128 - f - n).toNat + n.toNat) := by omega
    simp only [c, d, decide_true, Bool.not_true, Bool.false_and, Bool.xor_false, if_false]
  · rw [readW_bit x f n h]
    have e : (128 - f - n).toNat + (j - (128 - f - n).toNat) = j := by omega
    rw [e]
    by_cases d : j < (128 - f - n).toNat + n.toNat
    · have a : (128 - f - n).toNat ≤ j ∧ j < (128 - f - n).toNat + n.toNat := by omega
      have b : j - (128 - f - n).toNat < n.toNat := by omega
      simp only [a, b, c, and_self, if_true, decide_true, decide_false, Bool.not_false, Bool.true_and]
      cases x.getLsbD j <;> simp
    · have a : ¬ ((128 - f - n).toNat ≤ j ∧ j < (128 - f - n).toNat + n.toNat) := by omega
      have b : ¬ j - (128 - f - n).toNat < n.toNat := by omega
      rw [small_bit v n.toNat hv (j - (128 - f - n).toNat) (by omega)]
      simp only [a, b, if_false, decide_false, Bool.false_and, Bool.xor_false, Bool.and_false]
/-- The first k bits of the stretch are laid in. -/
def foldStepW (x v : BitVec 128) (f n : Int) : Nat → BitVec 128
  | 0 => x
  | k + 1 => putW (foldStepW x v f n k) (f + k) (bitZ v (128 - n + k))
theorem stepW_bit (x v : BitVec 128) (f n : Int) (h : fitB f n = true) (k : Nat) (hk : (k : Int) ≤ n) (j : Nat) (hj : j < 128) :
    (foldStepW x v f n k).getLsbD j = if (128 - f).toNat - k ≤ j ∧ j < (128 - f).toNat then v.getLsbD (j - (128 - f - n).toNat) else x.getLsbD j := by
  obtain ⟨h0, h1, h2, h3⟩ := fitB_t h
  induction k with
  | zero =>
    have : ¬ ((128 - f).toNat - 0 ≤ j ∧ j < (128 - f).toNat) := by omega
    rw [if_neg this]; rfl
  | succ k ih =>
    unfold foldStepW
    rw [putW_bit _ _ _ (bitZ_01 _ _) (by omega) (by omega) _ hj, ih (by omega)]
    have t : decide (bitZ v (128 - n + k) = 1) = v.getLsbD (n - 1 - k).toNat := by
      unfold bitZ
      rw [bitB_in v _ (by omega) (by omega)]
      have e : (127 - (128 - n + (k : Int))).toNat = (n - 1 - k).toNat := by omega
      rw [e]; cases v.getLsbD (n - 1 - k).toNat <;> simp
    rw [t]
    by_cases c : j = (127 - (f + k)).toNat
    · have a : (128 - f).toNat - (k + 1) ≤ j ∧ j < (128 - f).toNat := by omega
      have e : (n - 1 - k).toNat = j - (128 - f - n).toNat := by omega
      rw [if_pos c, if_pos a, e]
    · rw [if_neg c]
      by_cases a : (128 - f).toNat - k ≤ j ∧ j < (128 - f).toNat
      · rw [if_pos a, if_pos (by omega)]
      · rw [if_neg a, if_neg (by omega)]
theorem step_with (x v : BitVec 128) (f n : Int) (h : fitB f n = true) (hv : v >>> n.toNat = 0#128) (k : Nat) (hk : (k : Int) = n) : foldStepW x v f n k = withW x f n v := by
  obtain ⟨h0, h1, h2, h3⟩ := fitB_t h
  apply BitVec.eq_of_getLsbD_eq; intro j hj
  rw [stepW_bit x v f n h k (by omega) j hj, withW_bit x v f n h hv j hj]
  by_cases a : (128 - f).toNat - k ≤ j ∧ j < (128 - f).toNat
  · rw [if_pos a, if_pos (by omega)]
  · rw [if_neg a, if_neg (by omega)]
end Go.Proofs.YtonagfmkplbooaaGreatDoor
