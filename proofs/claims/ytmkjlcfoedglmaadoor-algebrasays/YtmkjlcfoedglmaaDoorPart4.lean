/-
  Part 4 of the proof: 5 texts, one behind the other.
-/
import Derived.Test.YtmkjlcfoedglmaaDoorPart2
import Derived.Test.YtmkjlcfoedglmaaDoorPart1
import Derived.Deep.QuietTactic
import Derived.BigQuiet
/-
  What the calls of package addr's beside, Next and Prev do.
-/
namespace Go.Proofs.YtmkjlcfoedglmaaDoor
open Go.RowKit
set_option linter.unusedSimpArgs false
set_option linter.unusedVariables false

theorem At.drew {w : World} {B : Nat} {x : BitVec 128} (h : At w B x) : At w.drew B x := h
theorem at_zero {w : World} {B : Nat} (h0 : w.cell? ⟨B, 0, none⟩ = some (.int .u64 0)) (h1 : w.cell? ⟨B, 1, none⟩ = some (.int .u64 0)) (f0 : w.frozen? ⟨B, 0, none⟩ = false) (f1 : w.frozen? ⟨B, 1, none⟩ = false) (z : BitVec 128) :
    At ((w.setCell ⟨B, 0, none⟩ (.int .u64 (hI z))).setCell ⟨B, 1, none⟩ (.int .u64 (lI z))) B z :=
  At.set (x := 0#128) z ⟨by rw [hI_zero]; exact h0, by rw [lI_zero]; exact h1, f0, f1, cell_in h0⟩

set_option maxHeartbeats 4000000 in
theorem besideAdd_yes (F : Int) (x y z : BitVec 128) (ov : Bool) (w : World) (KR : ∀ w, Calls Tryd.prog 75 #[.int .i64 F, .agg #[.int .u64 (hI x), .int .u64 (lI x)]] w fun e w' => e = .returned (.int .i64 0) ∧ Below w.heap.size w w')
    (KS : ∀ w, Calls Tryd.prog 90 #[.int .i64 F] w fun e w' => e = .returned (.agg #[.int .u64 (hI y), .int .u64 (lI y)]) ∧ Below w.heap.size w w')
    (KM : ∀ w, Calls Tryd.prog 77 #[.agg #[.int .u64 (hI x), .int .u64 (lI x)], .agg #[.int .u64 (hI y), .int .u64 (lI y)]] w fun e w' => e = .returned (.tuple #[.agg #[.int .u64 (hI z), .int .u64 (lI z)], .bool ov]) ∧ Below w.heap.size w w') :
    Calls Tryd.prog 76 #[.int .i64 F, .agg #[.int .u64 (hI x), .int .u64 (lI x)], .func (.func 77) #[] #[]] w fun e w' => e = .returned (.tuple #[.agg #[.int .u64 (hI (if ov = true then 0#128 else z)), .int .u64 (lI (if ov = true then 0#128 else z))], .bool (!ov)]) ∧ Below w.heap.size w w' := by
  go_enter Tryd.func76, Tryd.ntmps76
  go_wp2_with fail
  refine (KR _).mono ?_
  rintro e w1 ⟨rfl, hb1⟩
  clear KR
  have hX := ((at_new w w.heap.size x 27 rfl).below (bl1 _ (.cells #[.int .u64 0, .int .u64 0] 27))).below hb1
  have hZ := (at_new (w.alloc (.cells #[.int .u64 (hI x), .int .u64 (lI x)] 27)) (w.heap.size + 1) 0#128 27 (by simp)).below hb1
  have kB := keepb hb1 (bl2 w _ _)
  clear hb1
  obtain ⟨x0, x1, x2, x3, x4⟩ := id hX
  have z4 := hZ.2.2.2.2
  have n1 : ¬ w1.heap.size = w.heap.size := by omega
  go_wp2_with fail
  rename_i Q' K hK
  have tail : ∀ (N : Nat) (W : World), At W N z → At W (w.heap.size + 1) 0#128 → Below w.heap.size w W → ¬ N = w.heap.size + 1 → (Exit.then K Q') .normal { tmps := #[.int .i64 F, .agg #[.int .u64 (hI x), .int .u64 (lI x)], .func (.func 77) #[] #[], undef, .pointer (some ⟨w.heap.size, 0, none⟩), undef, .pointer (some ⟨w.heap.size + 1, 0, none⟩), .bool false, .pointer (some ⟨N, 0, none⟩), .bool ov, .int .i64 F, .agg #[.int .u64 (hI x), .int .u64 (lI x)], .int .i64 0, .bool false, undef, .tuple #[.agg #[.int .u64 (hI z), .int .u64 (lI z)], .bool ov], .func (.func 77) #[] #[], .agg #[.int .u64 (hI x), .int .u64 (lI x)], .int .i64 F, .agg #[.int .u64 (hI y), .int .u64 (lI y)], .tuple #[.agg #[.int .u64 (hI z), .int .u64 (lI z)], .bool ov], .agg #[.int .u64 (hI z), .int .u64 (lI z)], .bool ov, undef, undef, undef], defers := [] } W := by
    intro N W hN hZ' hB' hn
    obtain ⟨a0, a1, a2, a3, a4⟩ := hN
    obtain ⟨b0, b1, b2, b3, b4⟩ := hZ'
    clear x0 x1 x2 x3 x4 hX hZ KS KM
    cases ov
    · go_wp2
      exact bodyPost_ret (v := .tuple #[.agg #[.int .u64 (hI z), .int .u64 (lI z)], .bool true]) (by simp [results, Tryd.results76, go_sem, *]) rfl ⟨by simp [hI_zero, lI_zero], bset2 hB' (by omega) _ _⟩
    · go_wp2
      exact bodyPost_ret (v := .tuple #[.agg #[.int .u64 0, .int .u64 0], .bool false]) (by simp [results, Tryd.results76, go_sem, *]) rfl ⟨by simp [hI_zero, lI_zero], bset2 hB' (by omega) _ _⟩
  go_region_with (first | (go_at_call 90; refine (KS _).mono ?_; rintro e w2 ⟨rfl, hb2⟩; have p0 : w2.cell? ⟨w.heap.size, 0, none⟩ = some (.int .u64 (hI x)) := keepc hb2 (by simp [go_sem, *]); have p1 : w2.cell? ⟨w.heap.size, 1, none⟩ = some (.int .u64 (lI x)) := keepc hb2 (by simp [go_sem, *]); have n3 : ¬ w2.heap.size = w.heap.size := (fun e => by have := cell_in p0; omega); have l3 := cell_in p0; (try (refine (fun (c0 : w2.cell? ⟨w1.heap.size, 0, none⟩ = some (.int .u64 0)) => ?_) (keepc hb2 ?_); rotate_left; (focus (simp [go_sem]; done)))); (try (refine (fun (c1 : w2.cell? ⟨w1.heap.size, 1, none⟩ = some (.int .u64 0)) => ?_) (keepc hb2 ?_); rotate_left; (focus (simp [go_sem]; done)))); (try (refine (fun (g0 : w2.frozen? ⟨w1.heap.size, 0, none⟩ = false) => ?_) (keepf hb2 (v := .int .u64 0) ?_ ?_); rotate_left; (focus (simp [go_sem]; done)); (focus (simp [go_sem]; done)))); (try (refine (fun (g1 : w2.frozen? ⟨w1.heap.size, 1, none⟩ = false) => ?_) (keepf hb2 (v := .int .u64 0) ?_ ?_); rotate_left; (focus (simp [go_sem]; done)); (focus (simp [go_sem]; done)))); have hZ2 : At w2 (w.heap.size + 1) 0#128 := At.below (by first | exact hZ.drew | exact (hZ.below (bl1 _ _)).drew | exact hZ | exact hZ.below (bl1 _ _)) hb2; have kB2 : Below w.heap.size w w2 := keepb hb2 (by first | exact kB.drew | exact (kB.alloc (by omega) _).drew | exact kB | exact kB.alloc (by omega) _)) | (go_at_call 77; refine (KM _).mono ?_; rintro e w3 ⟨rfl, hb3⟩; (try (have d0 := keepc hb3 c0; have d1 := keepc hb3 c1; have e0 := keepf hb3 c0 g0; have e1 := keepf hb3 c1 g1)); (try (refine (fun (d2 : w3.cell? ⟨w2.heap.size, 0, none⟩ = some (.int .u64 0)) => ?_) (keepc hb3 ?_); rotate_left; (focus (simp [go_sem]; done)))); (try (refine (fun (d3 : w3.cell? ⟨w2.heap.size, 1, none⟩ = some (.int .u64 0)) => ?_) (keepc hb3 ?_); rotate_left; (focus (simp [go_sem]; done)))); (try (refine (fun (e2 : w3.frozen? ⟨w2.heap.size, 0, none⟩ = false) => ?_) (keepf hb3 (v := .int .u64 0) ?_ ?_); rotate_left; (focus (simp [go_sem]; done)); (focus (simp [go_sem]; done)))); (try (refine (fun (e3 : w3.frozen? ⟨w2.heap.size, 1, none⟩ = false) => ?_) (keepf hb3 (v := .int .u64 0) ?_ ?_); rotate_left; (focus (simp [go_sem]; done)); (focus (simp [go_sem]; done)))); have hZ3 : At w3 (w.heap.size + 1) 0#128 := At.below (by first | exact hZ2 | exact hZ2.below (bl1 _ _)) hb3; have kB3 : Below w.heap.size w w3 := keepb hb3 (by first | exact kB2 | exact kB2.alloc kB2.size _)))
  all_goals
    have z5 := hZ3.2.2.2.2
    have z6 := hZ2.2.2.2.2
  all_goals first
    | exact tail w3.heap.size _ (at_new w3 w3.heap.size z _ rfl) (hZ3.below (bl1 _ _)) (kB3.alloc kB3.size _) (Nat.ne_of_gt z5)
    | exact tail w2.heap.size _ (at_zero d2 d3 e2 e3 z) (hZ3.other _ _ (Nat.ne_of_lt z6)) (bset2 kB3 kB2.size _ _) (Nat.ne_of_gt z6)
    | exact tail w1.heap.size _ (at_zero d0 d1 e0 e1 z) (hZ3.other _ _ (Nat.ne_of_lt z4)) (bset2 kB3 kB.size _ _) (Nat.ne_of_gt z4)

set_option maxHeartbeats 4000000 in
theorem besideAdd_no (F : Int) (x : BitVec 128) (r : Int) (w : World) (hr : ¬ r = 0) (KR : ∀ w, Calls Tryd.prog 75 #[.int .i64 F, .agg #[.int .u64 (hI x), .int .u64 (lI x)]] w fun e w' => e = .returned (.int .i64 r) ∧ Below w.heap.size w w') :
    Calls Tryd.prog 76 #[.int .i64 F, .agg #[.int .u64 (hI x), .int .u64 (lI x)], .func (.func 77) #[] #[]] w fun e w' => e = .returned (.tuple #[.agg #[.int .u64 0, .int .u64 0], .bool false]) ∧ Below w.heap.size w w' := by
  have hb : (r != 0) = true := by simp [hr]
  go_enter Tryd.func76, Tryd.ntmps76
  go_wp2_with fail
  refine (KR _).mono ?_
  rintro e w1 ⟨rfl, hb1⟩
  clear KR
  have hZ := (at_new (w.alloc (.cells #[.int .u64 (hI x), .int .u64 (lI x)] 27)) (w.heap.size + 1) 0#128 27 (by simp)).below hb1
  have kB := keepb hb1 (bl2 w _ _)
  clear hb1
  obtain ⟨z0, z1, z2, z3, z4⟩ := hZ
  go_wp2
  exact bodyPost_ret (v := .tuple #[.agg #[.int .u64 0, .int .u64 0], .bool false]) (by simp [results, Tryd.results76, go_sem, *]) rfl ⟨rfl, bset2 kB (by omega) _ _⟩

theorem besideAdd_any (F : Int) (x : BitVec 128) (w : World) :
    Calls Tryd.prog 76 #[.int .i64 F, .agg #[.int .u64 (hI x), .int .u64 (lI x)], .func (.func 77) #[] #[]] w fun e w' => e = .returned (.tuple #[.agg #[.int .u64 (hI (nextV F x)), .int .u64 (lI (nextV F x))], .bool (nextB F x)]) ∧ Below w.heap.size w w' := by
  have KR := fun w => aright_any F x w
  by_cases hr : rightE F x = 0
  · have hf := (right0 F x hr).1
    have hF : 0 ≤ F ∧ F ≤ 128 := by rcases fam_ways F hf with rfl | rfl <;> omega
    rw [hr] at KR
    have h := besideAdd_yes F x (stepW F) (x + stepW F) (overB x (stepW F)) w KR (fun w => step_any F w hF.1 hF.2) (fun w => add_any x (stepW F) w)
    have e1 : nextB F x = !overB x (stepW F) := by unfold nextB; simp [hr]
    have e2 : nextV F x = if overB x (stepW F) = true then 0#128 else x + stepW F := by
      unfold nextV; rw [e1]; cases overB x (stepW F) <;> rfl
    rw [e1, e2]; exact h
  · have h := besideAdd_no F x (rightE F x) w hr KR
    have e1 : nextB F x = false := by unfold nextB; simp [hr]
    have e2 : nextV F x = 0#128 := by unfold nextV; rw [e1]; rfl
    rw [e1, e2, hI_zero, lI_zero]; exact h

set_option maxHeartbeats 1000000 in
theorem anext_any (F : Int) (x : BitVec 128) (w : World) :
    Calls Tryd.prog 60 #[.int .i64 F, .agg #[.int .u64 (hI x), .int .u64 (lI x)]] w fun e w' => e = .returned (.tuple #[.agg #[.int .u64 (hI (nextV F x)), .int .u64 (lI (nextV F x))], .bool (nextB F x)]) ∧ Below w.heap.size w w' := by
  have KB := fun w => besideAdd_any F x w
  generalize nextV F x = y at *
  generalize nextB F x = b at *
  go_enter Tryd.func60, Tryd.ntmps60
  go_wp2_with fail
  refine (KB _).mono ?_
  rintro e w1 ⟨rfl, hb1⟩
  clear KB
  have hZ := (at_new (w.alloc (.cells #[.int .u64 (hI x), .int .u64 (lI x)] 27)) (w.heap.size + 1) 0#128 27 (by simp)).below hb1
  have kB := keepb hb1 (bl2 w _ _)
  clear hb1
  obtain ⟨z0, z1, z2, z3, z4⟩ := hZ
  go_wp2
  exact bodyPost_ret (v := .tuple #[.agg #[.int .u64 (hI y), .int .u64 (lI y)], .bool b]) (by simp [results, Tryd.results60, go_sem, *]) rfl ⟨rfl, bset2 kB (by omega) _ _⟩

set_option maxHeartbeats 4000000 in
theorem besideSub_yes (F : Int) (x y z : BitVec 128) (ov : Bool) (w : World) (KR : ∀ w, Calls Tryd.prog 75 #[.int .i64 F, .agg #[.int .u64 (hI x), .int .u64 (lI x)]] w fun e w' => e = .returned (.int .i64 0) ∧ Below w.heap.size w w')
    (KS : ∀ w, Calls Tryd.prog 90 #[.int .i64 F] w fun e w' => e = .returned (.agg #[.int .u64 (hI y), .int .u64 (lI y)]) ∧ Below w.heap.size w w')
    (KM : ∀ w, Calls Tryd.prog 87 #[.agg #[.int .u64 (hI x), .int .u64 (lI x)], .agg #[.int .u64 (hI y), .int .u64 (lI y)]] w fun e w' => e = .returned (.tuple #[.agg #[.int .u64 (hI z), .int .u64 (lI z)], .bool ov]) ∧ Below w.heap.size w w') :
    Calls Tryd.prog 76 #[.int .i64 F, .agg #[.int .u64 (hI x), .int .u64 (lI x)], .func (.func 87) #[] #[]] w fun e w' => e = .returned (.tuple #[.agg #[.int .u64 (hI (if ov = true then 0#128 else z)), .int .u64 (lI (if ov = true then 0#128 else z))], .bool (!ov)]) ∧ Below w.heap.size w w' := by
  go_enter Tryd.func76, Tryd.ntmps76
  go_wp2_with fail
  refine (KR _).mono ?_
  rintro e w1 ⟨rfl, hb1⟩
  clear KR
  have hX := ((at_new w w.heap.size x 27 rfl).below (bl1 _ (.cells #[.int .u64 0, .int .u64 0] 27))).below hb1
  have hZ := (at_new (w.alloc (.cells #[.int .u64 (hI x), .int .u64 (lI x)] 27)) (w.heap.size + 1) 0#128 27 (by simp)).below hb1
  have kB := keepb hb1 (bl2 w _ _)
  clear hb1
  obtain ⟨x0, x1, x2, x3, x4⟩ := id hX
  have z4 := hZ.2.2.2.2
  have n1 : ¬ w1.heap.size = w.heap.size := by omega
  go_wp2_with fail
  rename_i Q' K hK
  have tail : ∀ (N : Nat) (W : World), At W N z → At W (w.heap.size + 1) 0#128 → Below w.heap.size w W → ¬ N = w.heap.size + 1 → (Exit.then K Q') .normal { tmps := #[.int .i64 F, .agg #[.int .u64 (hI x), .int .u64 (lI x)], .func (.func 87) #[] #[], undef, .pointer (some ⟨w.heap.size, 0, none⟩), undef, .pointer (some ⟨w.heap.size + 1, 0, none⟩), .bool false, .pointer (some ⟨N, 0, none⟩), .bool ov, .int .i64 F, .agg #[.int .u64 (hI x), .int .u64 (lI x)], .int .i64 0, .bool false, undef, .tuple #[.agg #[.int .u64 (hI z), .int .u64 (lI z)], .bool ov], .func (.func 87) #[] #[], .agg #[.int .u64 (hI x), .int .u64 (lI x)], .int .i64 F, .agg #[.int .u64 (hI y), .int .u64 (lI y)], .tuple #[.agg #[.int .u64 (hI z), .int .u64 (lI z)], .bool ov], .agg #[.int .u64 (hI z), .int .u64 (lI z)], .bool ov, undef, undef, undef], defers := [] } W := by
    intro N W hN hZ' hB' hn
    obtain ⟨a0, a1, a2, a3, a4⟩ := hN
    obtain ⟨b0, b1, b2, b3, b4⟩ := hZ'
    clear x0 x1 x2 x3 x4 hX hZ KS KM
    cases ov
    · go_wp2
      exact bodyPost_ret (v := .tuple #[.agg #[.int .u64 (hI z), .int .u64 (lI z)], .bool true]) (by simp [results, Tryd.results76, go_sem, *]) rfl ⟨by simp [hI_zero, lI_zero], bset2 hB' (by omega) _ _⟩
    · go_wp2
      exact bodyPost_ret (v := .tuple #[.agg #[.int .u64 0, .int .u64 0], .bool false]) (by simp [results, Tryd.results76, go_sem, *]) rfl ⟨by simp [hI_zero, lI_zero], bset2 hB' (by omega) _ _⟩
  go_region_with (first | (go_at_call 90; refine (KS _).mono ?_; rintro e w2 ⟨rfl, hb2⟩; have p0 : w2.cell? ⟨w.heap.size, 0, none⟩ = some (.int .u64 (hI x)) := keepc hb2 (by simp [go_sem, *]); have p1 : w2.cell? ⟨w.heap.size, 1, none⟩ = some (.int .u64 (lI x)) := keepc hb2 (by simp [go_sem, *]); have n3 : ¬ w2.heap.size = w.heap.size := (fun e => by have := cell_in p0; omega); have l3 := cell_in p0; (try (refine (fun (c0 : w2.cell? ⟨w1.heap.size, 0, none⟩ = some (.int .u64 0)) => ?_) (keepc hb2 ?_); rotate_left; (focus (simp [go_sem]; done)))); (try (refine (fun (c1 : w2.cell? ⟨w1.heap.size, 1, none⟩ = some (.int .u64 0)) => ?_) (keepc hb2 ?_); rotate_left; (focus (simp [go_sem]; done)))); (try (refine (fun (g0 : w2.frozen? ⟨w1.heap.size, 0, none⟩ = false) => ?_) (keepf hb2 (v := .int .u64 0) ?_ ?_); rotate_left; (focus (simp [go_sem]; done)); (focus (simp [go_sem]; done)))); (try (refine (fun (g1 : w2.frozen? ⟨w1.heap.size, 1, none⟩ = false) => ?_) (keepf hb2 (v := .int .u64 0) ?_ ?_); rotate_left; (focus (simp [go_sem]; done)); (focus (simp [go_sem]; done)))); have hZ2 : At w2 (w.heap.size + 1) 0#128 := At.below (by first | exact hZ.drew | exact (hZ.below (bl1 _ _)).drew | exact hZ | exact hZ.below (bl1 _ _)) hb2; have kB2 : Below w.heap.size w w2 := keepb hb2 (by first | exact kB.drew | exact (kB.alloc (by omega) _).drew | exact kB | exact kB.alloc (by omega) _)) | (go_at_call 87; refine (KM _).mono ?_; rintro e w3 ⟨rfl, hb3⟩; (try (have d0 := keepc hb3 c0; have d1 := keepc hb3 c1; have e0 := keepf hb3 c0 g0; have e1 := keepf hb3 c1 g1)); (try (refine (fun (d2 : w3.cell? ⟨w2.heap.size, 0, none⟩ = some (.int .u64 0)) => ?_) (keepc hb3 ?_); rotate_left; (focus (simp [go_sem]; done)))); (try (refine (fun (d3 : w3.cell? ⟨w2.heap.size, 1, none⟩ = some (.int .u64 0)) => ?_) (keepc hb3 ?_); rotate_left; (focus (simp [go_sem]; done)))); (try (refine (fun (e2 : w3.frozen? ⟨w2.heap.size, 0, none⟩ = false) => ?_) (keepf hb3 (v := .int .u64 0) ?_ ?_); rotate_left; (focus (simp [go_sem]; done)); (focus (simp [go_sem]; done)))); (try (refine (fun (e3 : w3.frozen? ⟨w2.heap.size, 1, none⟩ = false) => ?_) (keepf hb3 (v := .int .u64 0) ?_ ?_); rotate_left; (focus (simp [go_sem]; done)); (focus (simp [go_sem]; done)))); have hZ3 : At w3 (w.heap.size + 1) 0#128 := At.below (by first | exact hZ2 | exact hZ2.below (bl1 _ _)) hb3; have kB3 : Below w.heap.size w w3 := keepb hb3 (by first | exact kB2 | exact kB2.alloc kB2.size _)))
  all_goals
    have z5 := hZ3.2.2.2.2
    have z6 := hZ2.2.2.2.2
  all_goals first
    | exact tail w3.heap.size _ (at_new w3 w3.heap.size z _ rfl) (hZ3.below (bl1 _ _)) (kB3.alloc kB3.size _) (Nat.ne_of_gt z5)
    | exact tail w2.heap.size _ (at_zero d2 d3 e2 e3 z) (hZ3.other _ _ (Nat.ne_of_lt z6)) (bset2 kB3 kB2.size _ _) (Nat.ne_of_gt z6)
    | exact tail w1.heap.size _ (at_zero d0 d1 e0 e1 z) (hZ3.other _ _ (Nat.ne_of_lt z4)) (bset2 kB3 kB.size _ _) (Nat.ne_of_gt z4)

set_option maxHeartbeats 4000000 in
theorem besideSub_no (F : Int) (x : BitVec 128) (r : Int) (w : World) (hr : ¬ r = 0) (KR : ∀ w, Calls Tryd.prog 75 #[.int .i64 F, .agg #[.int .u64 (hI x), .int .u64 (lI x)]] w fun e w' => e = .returned (.int .i64 r) ∧ Below w.heap.size w w') :
    Calls Tryd.prog 76 #[.int .i64 F, .agg #[.int .u64 (hI x), .int .u64 (lI x)], .func (.func 87) #[] #[]] w fun e w' => e = .returned (.tuple #[.agg #[.int .u64 0, .int .u64 0], .bool false]) ∧ Below w.heap.size w w' := by
  have hb : (r != 0) = true := by simp [hr]
  go_enter Tryd.func76, Tryd.ntmps76
  go_wp2_with fail
  refine (KR _).mono ?_
  rintro e w1 ⟨rfl, hb1⟩
  clear KR
  have hZ := (at_new (w.alloc (.cells #[.int .u64 (hI x), .int .u64 (lI x)] 27)) (w.heap.size + 1) 0#128 27 (by simp)).below hb1
  have kB := keepb hb1 (bl2 w _ _)
  clear hb1
  obtain ⟨z0, z1, z2, z3, z4⟩ := hZ
  go_wp2
  exact bodyPost_ret (v := .tuple #[.agg #[.int .u64 0, .int .u64 0], .bool false]) (by simp [results, Tryd.results76, go_sem, *]) rfl ⟨rfl, bset2 kB (by omega) _ _⟩

theorem besideSub_any (F : Int) (x : BitVec 128) (w : World) :
    Calls Tryd.prog 76 #[.int .i64 F, .agg #[.int .u64 (hI x), .int .u64 (lI x)], .func (.func 87) #[] #[]] w fun e w' => e = .returned (.tuple #[.agg #[.int .u64 (hI (prevV F x)), .int .u64 (lI (prevV F x))], .bool (prevB F x)]) ∧ Below w.heap.size w w' := by
  have KR := fun w => aright_any F x w
  by_cases hr : rightE F x = 0
  · have hf := (right0 F x hr).1
    have hF : 0 ≤ F ∧ F ≤ 128 := by rcases fam_ways F hf with rfl | rfl <;> omega
    rw [hr] at KR
    have h := besideSub_yes F x (stepW F) (x - stepW F) (underB x (stepW F)) w KR (fun w => step_any F w hF.1 hF.2) (fun w => sub_any x (stepW F) w)
    have e1 : prevB F x = !underB x (stepW F) := by unfold prevB; simp [hr]
    have e2 : prevV F x = if underB x (stepW F) = true then 0#128 else x - stepW F := by
      unfold prevV; rw [e1]; cases underB x (stepW F) <;> rfl
    rw [e1, e2]; exact h
  · have h := besideSub_no F x (rightE F x) w hr KR
    have e1 : prevB F x = false := by unfold prevB; simp [hr]
    have e2 : prevV F x = 0#128 := by unfold prevV; rw [e1]; rfl
    rw [e1, e2, hI_zero, lI_zero]; exact h

set_option maxHeartbeats 1000000 in
theorem aprev_any (F : Int) (x : BitVec 128) (w : World) :
    Calls Tryd.prog 72 #[.int .i64 F, .agg #[.int .u64 (hI x), .int .u64 (lI x)]] w fun e w' => e = .returned (.tuple #[.agg #[.int .u64 (hI (prevV F x)), .int .u64 (lI (prevV F x))], .bool (prevB F x)]) ∧ Below w.heap.size w w' := by
  have KB := fun w => besideSub_any F x w
  generalize prevV F x = y at *
  generalize prevB F x = b at *
  go_enter Tryd.func72, Tryd.ntmps72
  go_wp2_with fail
  refine (KB _).mono ?_
  rintro e w1 ⟨rfl, hb1⟩
  clear KB
  have hZ := (at_new (w.alloc (.cells #[.int .u64 (hI x), .int .u64 (lI x)] 27)) (w.heap.size + 1) 0#128 27 (by simp)).below hb1
  have kB := keepb hb1 (bl2 w _ _)
  clear hb1
  obtain ⟨z0, z1, z2, z3, z4⟩ := hZ
  go_wp2
  exact bodyPost_ret (v := .tuple #[.agg #[.int .u64 (hI y), .int .u64 (lI y)], .bool b]) (by simp [results, Tryd.results72, go_sem, *]) rfl ⟨rfl, bset2 kB (by omega) _ _⟩

end Go.Proofs.YtmkjlcfoedglmaaDoor
/-
  What each call of turnpikeref1's Add and Sub does.
-/
namespace Go.Proofs.YtmkjlcfoedglmaaDoor
open Go.RowKit
set_option linter.unusedSimpArgs false
set_option linter.unusedVariables false

/-- The sum of the upper halves, as it wraps. -/
def hs (x y : BitVec 128) : Int := IntKind.u64.wrap (hI x + hI y)
theorem wrapu (n : Int) : IntKind.u64.wrap n = n % 18446744073709551616 := by simp [IntKind.wrap, IntKind.bits, IntKind.signed]
theorem lo_sum (x y : BitVec 128) : IntKind.u64.wrap (lI x + lI y) = lI (x + y) := by
  rw [wrapu, lIN, lIN, lIN, BitVec.toNat_add]; omega
theorem hi_sum1 (x y : BitVec 128) (h : lI (x + y) < lI x) : IntKind.u64.wrap (hs x y + 1) = hI (x + y) := by
  unfold hs; rw [wrapu, wrapu]; rw [lIN, lIN, BitVec.toNat_add] at h; rw [hIN, hIN, hIN, BitVec.toNat_add]
  have := x.isLt; have := y.isLt; omega
theorem hi_sum0 (x y : BitVec 128) (h : ¬ lI (x + y) < lI x) : IntKind.u64.wrap (hs x y) = hI (x + y) := by
  unfold hs; rw [wrapu, wrapu]; rw [lIN, lIN, BitVec.toNat_add] at h; rw [hIN, hIN, hIN, BitVec.toNat_add]
  have := x.isLt; have := y.isLt; omega
theorem over_of (x y : BitVec 128) : overB x y = (decide (hs x y < hI x) || decide (hI (x + y) < hs x y)) := by
  rw [Bool.eq_iff_iff]; simp only [Bool.or_eq_true, decide_eq_true_eq]
  unfold overB hs; simp only [decide_eq_true_eq]; rw [wrapu, hIN, hIN, hIN, BitVec.toNat_add]
  have := x.isLt; have := y.isLt; omega

set_option maxHeartbeats 1000000 in
theorem radd_any (x y : BitVec 128) (w : World) :
    Calls Tryd.prog 29 #[.agg #[.int .u64 (hI x), .int .u64 (lI x)], .agg #[.int .u64 (hI y), .int .u64 (lI y)]] w fun e w' => e = .returned (.tuple #[.agg #[.int .u64 (hI (x + y)), .int .u64 (lI (x + y))], .bool (overB x y)]) ∧ Below w.heap.size w w' := by
  have e1 := lo_sum x y
  have e2 : IntKind.u64.wrap (hI x + hI y) = hs x y := rfl
  have ov : (hs x y < hI x ∧ overB x y = true) ∨ (¬ hs x y < hI x ∧ hI (x + y) < hs x y ∧ overB x y = true) ∨ (¬ hs x y < hI x ∧ ¬ hI (x + y) < hs x y ∧ overB x y = false) := by
    rw [over_of]
    by_cases c : hs x y < hI x
    · exact Or.inl ⟨c, by simp [c]⟩
    · by_cases d : hI (x + y) < hs x y
      · exact Or.inr (Or.inl ⟨c, d, by simp [d]⟩)
      · exact Or.inr (Or.inr ⟨c, d, by simp [c, d]⟩)
  by_cases h : lI (x + y) < lI x
  · have e3 := hi_sum1 x y h
    rcases ov with ⟨c, ov⟩ | ⟨c, d, ov⟩ | ⟨c, d, ov⟩
    · rw [ov]; clear ov
      go_enter Tryd.func29, Tryd.ntmps29
      go_wp2
      exact bodyPost_ret (v := .tuple #[.agg #[.int .u64 (hI (x + y)), .int .u64 (lI (x + y))], .bool true]) (by simp [results, Tryd.results29, go_sem]) rfl ⟨rfl, bl3 _ _ _ _⟩
    · rw [ov]; clear ov
      go_enter Tryd.func29, Tryd.ntmps29
      go_wp2
      exact bodyPost_ret (v := .tuple #[.agg #[.int .u64 (hI (x + y)), .int .u64 (lI (x + y))], .bool true]) (by simp [results, Tryd.results29, go_sem]) rfl ⟨rfl, bl3 _ _ _ _⟩
    · rw [ov]; clear ov
      go_enter Tryd.func29, Tryd.ntmps29
      go_wp2
      exact bodyPost_ret (v := .tuple #[.agg #[.int .u64 (hI (x + y)), .int .u64 (lI (x + y))], .bool false]) (by simp [results, Tryd.results29, go_sem]) rfl ⟨rfl, bl3 _ _ _ _⟩
  · have e3 := hi_sum0 x y h
    rcases ov with ⟨c, ov⟩ | ⟨c, d, ov⟩ | ⟨c, d, ov⟩
    · rw [ov]; clear ov
      go_enter Tryd.func29, Tryd.ntmps29
      go_wp2
      exact bodyPost_ret (v := .tuple #[.agg #[.int .u64 (hI (x + y)), .int .u64 (lI (x + y))], .bool true]) (by simp [results, Tryd.results29, go_sem]) rfl ⟨rfl, bl3 _ _ _ _⟩
    · rw [ov]; clear ov
      go_enter Tryd.func29, Tryd.ntmps29
      go_wp2
      exact bodyPost_ret (v := .tuple #[.agg #[.int .u64 (hI (x + y)), .int .u64 (lI (x + y))], .bool true]) (by simp [results, Tryd.results29, go_sem]) rfl ⟨rfl, bl3 _ _ _ _⟩
    · rw [ov]; clear ov
      go_enter Tryd.func29, Tryd.ntmps29
      go_wp2
      exact bodyPost_ret (v := .tuple #[.agg #[.int .u64 (hI (x + y)), .int .u64 (lI (x + y))], .bool false]) (by simp [results, Tryd.results29, go_sem]) rfl ⟨rfl, bl3 _ _ _ _⟩

/-- The difference of the upper halves, as it wraps. -/
def hd (x y : BitVec 128) : Int := IntKind.u64.wrap (hI x - hI y)
theorem lo_dif (x y : BitVec 128) : IntKind.u64.wrap (lI x - lI y) = lI (x - y) := by
  rw [wrapu, lIN, lIN, lIN, BitVec.toNat_sub]
  have := x.isLt; have := y.isLt; omega
theorem hi_dif1 (x y : BitVec 128) (h : lI x < lI y) : IntKind.u64.wrap (hd x y - 1) = hI (x - y) := by
  unfold hd; rw [wrapu, wrapu]; rw [lIN, lIN] at h; rw [hIN, hIN, hIN, BitVec.toNat_sub]
  have := x.isLt; have := y.isLt; omega
theorem hi_dif0 (x y : BitVec 128) (h : ¬ lI x < lI y) : IntKind.u64.wrap (hd x y) = hI (x - y) := by
  unfold hd; rw [wrapu, wrapu]; rw [lIN, lIN] at h; rw [hIN, hIN, hIN, BitVec.toNat_sub]
  have := x.isLt; have := y.isLt; omega
theorem cmp_under (x y : BitVec 128) : decide (cmpZ x y < 0) = underB x y := by
  rw [Bool.eq_iff_iff]; simp only [decide_eq_true_eq]; exact cmp_lt x y

end Go.Proofs.YtmkjlcfoedglmaaDoor
/-
  A region that draws its order and whose calls make memory: one walk of the text's order, in a class of worlds.
-/
namespace Go.Proofs.YtmkjlcfoedglmaaDoor
open Go.RowKit
set_option linter.unusedSimpArgs false
set_option linter.unusedVariables false

theorem q_run {P : Program} {ops : Array Oper} {C : World → Prop} {Q : Act → Prop} {a : Act} {o : Oper} {rest : List Oper} {v : Value}
    (hw : Region.wanted o (yielded ops a.tmps) = true) (h : ∀ w, C w → (execOp a.eval o).run P w = .ok (.value v) w) (k : wpQuiet P ops C Q rest (a.put o.dst v)) : wpQuiet P ops C Q (o :: rest) a := by
  refine wpQuiet_step (fun K hK => ?_)
  rw [if_pos hw]
  refine ⟨v, fun w hC => ?_, hK _ k⟩
  unfold Oper.quietAt; rw [h w hC]; exact ⟨rfl, rfl⟩
theorem q_skip {P : Program} {ops : Array Oper} {C : World → Prop} {Q : Act → Prop} {a : Act} {o : Oper} {rest : List Oper}
    (hw : Region.wanted o (yielded ops a.tmps) = false) (k : wpQuiet P ops C Q rest (a.put o.dst undef)) : wpQuiet P ops C Q (o :: rest) a := by
  refine wpQuiet_step (fun K hK => ?_)
  rw [if_neg (by rw [hw]; decide)]
  exact hK _ k
theorem q_call {P : Program} {ops : Array Oper} {C : World → Prop} {Q : Act → Prop} {a : Act} {o : Oper} {rest : List Oper} {v : Value} {f : FuncId} {args : Array Value}
    (hw : Region.wanted o (yielded ops a.tmps) = true) (h : ∀ w, C w → (execOp a.eval o).run P w = .ok (.enter f args) w) (hc : ∀ w, C w → Calls P f args w fun e w' => e = .returned v ∧ C w') (k : wpQuiet P ops C Q rest (a.put o.dst v)) : wpQuiet P ops C Q (o :: rest) a := by
  refine wpQuiet_step (fun K hK => ?_)
  rw [if_pos hw]
  refine ⟨v, fun w hC => ?_, hK _ k⟩
  unfold Oper.quietAt; rw [h w hC]; exact ⟨rfl, hc w hC⟩
theorem q_region {P : Program} {C : World → Prop} {id : Nat} {Q : Exit → Act → World → Prop} {a : Act} {w : World} {l : List Oper} (hm : P.follows .mixedOrders = true) (hB : Region.lexB .any l.toArray = true) (hC : C w.drew)
    (h : wpQuiet P l.toArray C (fun a' => ∀ w', C w' → Q .normal a' w') l a) : (Code.region id l.toArray true).wp P Q a w :=
  wp_region_quiet (C := C) hm hB hC (by simpa using h)
end Go.Proofs.YtmkjlcfoedglmaaDoor
/-
  What the calls of turnpikeref2's IsFamily, Right, Last, one, Next and Prev do.
-/
namespace Go.Proofs.YtmkjlcfoedglmaaDoor
open Go.RowKit
set_option linter.unusedSimpArgs false
set_option linter.unusedVariables false

theorem isFamily_any (F : Int) (w : World) :
    Calls Tryd.prog 37 #[.int .i64 F] w fun e w' => e = .returned (.bool (fam F)) ∧ w' = w := by
  unfold fam
  by_cases h1 : F = 32
  · subst h1
    go_enter Tryd.func37, Tryd.ntmps37
    go_wp2
    go_ret
    exact ⟨rfl, rfl⟩
  · have b1 : (F == 32) = false := by simp [h1]
    have b2 : (F == 128) = decide (F = 128) := by rw [Bool.eq_iff_iff]; simp
    rw [show decide (F = 32) = false by simp [h1], Bool.false_or]
    go_enter Tryd.func37, Tryd.ntmps37
    go_wp2
    go_ret
    exact ⟨rfl, rfl⟩

theorem put0K (i : Int) (w : World) (h0 : 0 ≤ i) (h1 : i ≤ 127) :
    Calls Tryd.prog 27 #[.agg #[.int .u64 0, .int .u64 0], .int .i64 i, .int .i64 1] w fun e w' => e = .returned (.agg #[.int .u64 (hI (putW 0#128 i 1)), .int .u64 (lI (putW 0#128 i 1))]) ∧ Below w.heap.size w w' := by
  have h := put_any 0#128 i 1 w (Or.inr rfl) h0 h1
  rw [hI_zero, lI_zero] at h
  exact h
set_option maxHeartbeats 1000000 in
theorem rone_any (F : Int) (w : World) (hf : fam F = true) :
    Calls Tryd.prog 30 #[.int .i64 F] w fun e w' => e = .returned (.agg #[.int .u64 (hI (stepW F)), .int .u64 (lI (stepW F))]) ∧ Below w.heap.size w w' := by
  have hF : 32 ≤ F ∧ F ≤ 128 := by rcases fam_ways F hf with rfl | rfl <;> omega
  have KP := fun w => put0K (F - 1) w (by omega) (by omega)
  rw [put_step F hf] at KP
  have hu : IntKind.i64.wrap (F - 1) = F - 1 := by rw [IntKind.wrap_i64]; omega
  clear hf
  generalize stepW F = y at *
  go_enter Tryd.func30, Tryd.ntmps30
  go_wp2_with fail
  refine (KP _).mono ?_
  rintro e w1 ⟨rfl, hb1⟩
  have hZ := (at_new w w.heap.size 0#128 27 rfl).below hb1
  have kB := keepb hb1 (bl1 w _)
  obtain ⟨z0, z1, z2, z3, z4⟩ := hZ
  clear hb1 KP
  go_wp2
  exact bodyPost_ret (v := .agg #[.int .u64 (hI y), .int .u64 (lI y)]) (by simp [results, Tryd.results30, go_sem, *]) rfl ⟨rfl, bset2 kB (Nat.le_refl _) _ _⟩

theorem three (y x : BitVec 128) : ((hI y == hI x) = true ∧ (lI y == lI x) = true ∧ y = x) ∨ ((hI y == hI x) = false ∧ ¬ y = x) ∨ ((hI y == hI x) = true ∧ (lI y == lI x) = false ∧ ¬ y = x) := by
  by_cases e : y = x
  · exact Or.inl ⟨by simp [e], by simp [e], e⟩
  · by_cases e1 : hI y = hI x
    · exact Or.inr (Or.inr ⟨by simp [e1], by simp; exact fun e2 => e (eq_ints e1 e2), e⟩)
    · exact Or.inr (Or.inl ⟨by simp [e1], e⟩)
theorem three0 (y : BitVec 128) : ((hI y == 0) = true ∧ (lI y == 0) = true ∧ y = 0#128) ∨ ((hI y == 0) = false ∧ ¬ y = 0#128) ∨ ((hI y == 0) = true ∧ (lI y == 0) = false ∧ ¬ y = 0#128) := by
  have h := three y 0#128
  rw [hI_zero, lI_zero] at h; exact h

set_option maxHeartbeats 1000000 in
theorem rright_any (F : Int) (x : BitVec 128) (w : World) :
    Calls Tryd.prog 28 #[.int .i64 F, .agg #[.int .u64 (hI x), .int .u64 (lI x)]] w fun e w' => e = .returned (.int .i64 (rightE F x)) ∧ Below w.heap.size w w' := by
  have KI := fun w => isFamily_any F w
  unfold rightE
  cases h : fam F
  · rw [if_neg (by simp)]
    rw [h] at KI
    go_enter Tryd.func28, Tryd.ntmps28
    go_wp2_with fail
    refine (KI _).mono ?_
    rintro e w1 ⟨rfl, rfl⟩
    clear KI
    go_wp2
    go_ret
    exact ⟨rfl, bl1 _ _⟩
  · rw [if_pos rfl]
    rw [h] at KI
    have ha := and_not_mask F x
    have KA := fun w => rand_any x (~~~(maskW F)) w
    generalize x &&& ~~~(maskW F) = y at *
    have fin : ∀ (v : Int), v = (if x &&& maskW F = x then 0 else 6) → ((hI y == 0) = true ∧ (lI y == 0) = true ∧ v = 0 ∨ (hI y == 0) = false ∧ v = 6 ∨ (hI y == 0) = true ∧ (lI y == 0) = false ∧ v = 6) := by
      intro v hv
      rcases three0 y with ⟨a, b, c⟩ | ⟨a, c⟩ | ⟨a, b, c⟩
      · rw [if_pos (ha.mp c)] at hv; exact Or.inl ⟨a, b, hv⟩
      · rw [if_neg (fun q => c (ha.mpr q))] at hv; exact Or.inr (Or.inl ⟨a, hv⟩)
      · rw [if_neg (fun q => c (ha.mpr q))] at hv; exact Or.inr (Or.inr ⟨a, b, hv⟩)
    clear ha h
    generalize (if x &&& maskW F = x then (0 : Int) else 6) = v at *
    rcases fin v rfl with ⟨q1, q2, rfl⟩ | ⟨q1, rfl⟩ | ⟨q1, q2, rfl⟩
    all_goals
      clear fin
      go_enter Tryd.func28, Tryd.ntmps28
      go_wp2_with fail
      refine (KI _).mono ?_
      rintro e w1 ⟨rfl, rfl⟩
      clear KI
      have kB := (bl1 w (.cells #[.int .u64 (hI x), .int .u64 (lI x)] 27)).drew
      go_wp2_with fail
      go_region_held3 (fun w' => w'.cell? ⟨w.heap.size, 0, none⟩ = some (.int .u64 (hI x)) ∧ w'.cell? ⟨w.heap.size, 1, none⟩ = some (.int .u64 (lI x)) ∧ Below w.heap.size w w')
        (first
          | (obtain ⟨k1, k2, k9⟩ := ‹_ ∧ _›; exact ⟨keepc hb4 k1, keepc hb4 k2, keepb hb4 k9⟩)
          | (obtain ⟨k1, k2, k9⟩ := ‹_ ∧ _›; exact ⟨keepc hb3 k1, keepc hb3 k2, keepb hb3 k9⟩)
          | (obtain ⟨k1, k2, k9⟩ := ‹_ ∧ _›; exact ⟨keepc hb2 k1, keepc hb2 k2, keepb hb2 k9⟩)
          | exact ⟨by simp [go_sem], by simp [go_sem], kB⟩)
        (first
          | (go_at_call 10; refine (rmask_any _ _).mono ?_; rintro e w2 ⟨rfl, hb2⟩)
          | (go_at_call 57; refine (rnot_any _ _).mono ?_; rintro e w3 ⟨rfl, hb3⟩)
          | (go_at_call 50; refine (KA _).mono ?_; rintro e w4 ⟨rfl, hb4⟩))
      obtain ⟨-, -, kB3⟩ := ‹_ ∧ _›
      go_wp2
      go_ret
      exact ⟨rfl, kB3⟩
end Go.Proofs.YtmkjlcfoedglmaaDoor
/-
  What each call of turnpikeref1's Common, Lead, fits, Field and With does.
-/
namespace Go.Proofs.YtmkjlcfoedglmaaDoor
open Go.RowKit
set_option linter.unusedSimpArgs false
set_option linter.unusedVariables false

/-- The variable at block B reads as the word x. -/
def Rd (w : World) (B : Nat) (x : BitVec 128) : Prop := w.cell? ⟨B, 0, none⟩ = some (.int .u64 (hI x)) ∧ w.cell? ⟨B, 1, none⟩ = some (.int .u64 (lI x))
theorem Rd.keep {W w' : World} {B : Nat} {x : BitVec 128} (h : Rd W B x) (hb : Below W.heap.size W w') : Rd w' B x := ⟨keepc hb h.1, keepc hb h.2⟩
theorem Rd.alloc {W : World} {B : Nat} {x : BitVec 128} (h : Rd W B x) (o : Obj) : Rd (W.alloc o) B x := h.keep (bl1 W o)
theorem Rd.new (W : World) (x : BitVec 128) (t : TypeId) : Rd (W.alloc (.cells #[.int .u64 (hI x), .int .u64 (lI x)] t)) W.heap.size x := by
  constructor <;> simp [go_sem]
/-- The word that the variable at block B holds, under a name that no rule opens. -/
def rdW (w : World) (B : Nat) : BitVec 128 := mkW (intOf (cv w B 0)) (intOf (cv w B 1))
theorem Rd.word {w : World} {B : Nat} {x : BitVec 128} (h : Rd w B x) : rdW w B = x := by
  unfold rdW cv; rw [h.1, h.2]; exact mk_ints x

theorem Rd.self {w : World} {B : Nat} {x : BitVec 128} (h : Rd w B x) : Rd w B (rdW w B) := by rw [h.word]; exact h

set_option maxHeartbeats 2000000 in
theorem common_any (x y : BitVec 128) (w : World) :
    Calls Tryd.prog 47 #[.agg #[.int .u64 (hI x), .int .u64 (lI x)], .agg #[.int .u64 (hI y), .int .u64 (lI y)]] w fun e w' => e = .returned (.int .i64 ((leadN (x ^^^ y) : Nat) : Int)) ∧ Below w.heap.size w w' := by
  go_enter Tryd.func47, Tryd.ntmps47
  go_wp2
  go_loopw [5] (fun i wr => ∃ k : Nat, k ≤ 128 ∧ i = .int .i64 k ∧ Hid ((x ^^^ y).toNat < 2 ^ (128 - k)) ∧ Rd wr w.heap.size x ∧ Rd wr (w.heap.size + 1) y ∧ Below w.heap.size w wr)
    (fun i _ => 128 - (intOf i).toNat)
  case atStart =>
    refine ⟨0, by omega, rfl, (x ^^^ y).isLt, ?_, ?_, bl2 _ _ _⟩
    · exact (Rd.new w x _).alloc _
    · have := Rd.new (w.alloc (.cells #[.int .u64 (hI x), .int .u64 (lI x)] 27)) y 27
      simpa using this
  case round =>
    obtain ⟨k, hk, rfl, hz, X, Y, hB⟩ := hrel
    have hbl := hB.drew
    by_cases hlt : (k : Int) < 128
    · have hst := bit_step (x ^^^ y) k (by omega) hz.out
      have hbe := bitZ_eq x y k (by omega)
      by_cases c : bitZ x (k : Int) = bitZ y (k : Int)
      · have hz' : Hid ((x ^^^ y).toNat < 2 ^ (128 - (k + 1))) := hst.1 (hbe.mp c)
        have hc : (bitZ x (k : Int) == bitZ y (k : Int)) = true := by simpa using c
        clear hst hbe hz c
        go_wp2
        go_region_held3 (fun w' => w'.cell? ⟨w.heap.size, 0, none⟩ = some (.int .u64 (hI x)) ∧ w'.cell? ⟨w.heap.size, 1, none⟩ = some (.int .u64 (lI x)) ∧ w'.cell? ⟨w.heap.size + 1, 0, none⟩ = some (.int .u64 (hI y)) ∧ w'.cell? ⟨w.heap.size + 1, 1, none⟩ = some (.int .u64 (lI y)) ∧ Below w.heap.size w w')
          (first
            | (obtain ⟨k1, k2, k3, k4, k9⟩ := ‹_ ∧ _›; exact ⟨keepc hb1 k1, keepc hb1 k2, keepc hb1 k3, keepc hb1 k4, keepb hb1 k9⟩)
            | exact ⟨X.1, X.2, Y.1, Y.2, hbl⟩)
          (first | (go_at_call 40; refine (rbit_any _ _ _).mono ?_; rintro e w1 ⟨rfl, hb1⟩))
        obtain ⟨k1, k2, k3, k4, kB⟩ := ‹_ ∧ _›
        go_wp2
        go_roundw
        case rel => exact ⟨k + 1, by omega, by go_num, hz', ⟨k1, k2⟩, ⟨k3, k4⟩, kB⟩
        case measure => simp [intOf]; omega
      · have hz' : Hid (2 ^ (127 - k) ≤ (x ^^^ y).toNat) := by
          apply hst.2
          cases hh : (x ^^^ y).getLsbD (127 - k)
          · exact absurd (hbe.mpr hh) c
          · rfl
        have hc : (bitZ x (k : Int) == bitZ y (k : Int)) = false := by simpa using c
        have HL : Hid (leadN (x ^^^ y) = k) := lead_char _ _ hk hz.out (Or.inr hz'.out)
        clear hst hbe hz hz' c
        go_wp2
        go_region_held3 (fun w' => w'.cell? ⟨w.heap.size, 0, none⟩ = some (.int .u64 (hI x)) ∧ w'.cell? ⟨w.heap.size, 1, none⟩ = some (.int .u64 (lI x)) ∧ w'.cell? ⟨w.heap.size + 1, 0, none⟩ = some (.int .u64 (hI y)) ∧ w'.cell? ⟨w.heap.size + 1, 1, none⟩ = some (.int .u64 (lI y)) ∧ Below w.heap.size w w')
          (first
            | (obtain ⟨k1, k2, k3, k4, k9⟩ := ‹_ ∧ _›; exact ⟨keepc hb1 k1, keepc hb1 k2, keepc hb1 k3, keepc hb1 k4, keepb hb1 k9⟩)
            | exact ⟨X.1, X.2, Y.1, Y.2, hbl⟩)
          (first | (go_at_call 40; refine (rbit_any _ _ _).mono ?_; rintro e w1 ⟨rfl, hb1⟩))
        obtain ⟨k1, k2, k3, k4, kB⟩ := ‹_ ∧ _›
        go_wp2
        go_ret
        exact ⟨by rw [HL.out]; rfl, kB⟩
    · have hk8 : k = 128 := by omega
      have HL : Hid (leadN (x ^^^ y) = k) := lead_char _ _ hk hz.out (Or.inl hk8)
      have hd : decide ((k : Int) < 128) = false := by simpa using hlt
      clear hlt hz hk8
      go_wp2
      go_quiet (fail)
      go_wp2
      go_ret
      exact ⟨by rw [HL.out]; rfl, below_drewN hB _⟩

end Go.Proofs.YtmkjlcfoedglmaaDoor
