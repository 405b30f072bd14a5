/-
  Part 22 of the proof: 3 texts, one behind the other.
-/
import Derived.Test.YtmkjlcfoedglmaaPart4
import Derived.Test.YtmkjlcfoedglmaaPart21
import Derived.Test.YtmkjlcfoedglmaaPart9
import Derived.Test.YtmkjlcfoedglmaaPart5
import Derived.Test.YtmkjlcfoedglmaaPart11
/-
  What the calls of turnpikeref2's Next and Prev do where there is none, and of Prev.
-/
namespace Go.Proofs.Ytmkjlcfoedglmaa
open Go.RowKit
set_option linter.unusedSimpArgs false
set_option linter.unusedVariables false

set_option maxHeartbeats 4000000 in
theorem rnext_no (F r : Int) (x : BitVec 128) (w : World) (hr : ¬ r = 0)
    (KR : ∀ w, Calls Try.prog 52 #[.int .i64 F, .agg #[.int .u64 (hI x), .int .u64 (lI x)]] w fun e w' => e = .returned (.int .i64 r) ∧ Below w.heap.size w w') :
    Calls Try.prog 35 #[.int .i64 F, .agg #[.int .u64 (hI x), .int .u64 (lI x)]] w fun e w' => e = .returned (.tuple #[.agg #[.int .u64 0, .int .u64 0], .bool false]) ∧ Below w.heap.size w w' := by
  have kB := (bl2 w (.cells #[.int .u64 (hI x), .int .u64 (lI x)] 40) (.cells #[.int .u64 0, .int .u64 0] 40)).drew
  have hrb : (r != 0) = true := by simp [hr]
  go_enter Try.func35, Try.ntmps35
  go_wp2_with fail
  refine q_region (C := (fun w' => w'.cell? ⟨w.heap.size, 0, none⟩ = some (.int .u64 (hI x)) ∧ w'.cell? ⟨w.heap.size, 1, none⟩ = some (.int .u64 (lI x)) ∧ w'.cell? ⟨w.heap.size + 1, 0, none⟩ = some (.int .u64 0) ∧ w'.cell? ⟨w.heap.size + 1, 1, none⟩ = some (.int .u64 0) ∧ w'.frozen? ⟨w.heap.size + 1, 0, none⟩ = false ∧ w'.frozen? ⟨w.heap.size + 1, 1, none⟩ = false ∧ Below w.heap.size w w')) (by kernel_rfl) (by kernel_rfl) ⟨by simp [go_sem], by simp [go_sem], by simp [go_sem], by simp [go_sem], by simp [go_sem], by simp [go_sem], kB⟩ ?_
  clear kB
  refine q_run (v := .int .i64 F) (by rfl) ?_ ?_
  · (intro w1 hC; obtain ⟨c1, c2, c3, c4, c5, c6, c7⟩ := hC; go_simp; first | done | (simp; done) | (simp [*]; done) | (simp; omega) | rfl)
  simp only [Act.put, List.setIfInBounds_toArray, List.set_cons_zero, List.set_cons_succ]
  refine q_run (v := .agg #[.int .u64 (hI x), .int .u64 (lI x)]) (by rfl) ?_ ?_
  · (intro w1 hC; obtain ⟨c1, c2, c3, c4, c5, c6, c7⟩ := hC; go_simp; first | done | (simp; done) | (simp [*]; done) | (simp; omega) | rfl)
  simp only [Act.put, List.setIfInBounds_toArray, List.set_cons_zero, List.set_cons_succ]
  refine q_call (v := .int .i64 r) (f := 52) (args := #[.int .i64 F, .agg #[.int .u64 (hI x), .int .u64 (lI x)]]) (by rfl) ?_ ?_ ?_
  · (intro w1 hC; obtain ⟨c1, c2, c3, c4, c5, c6, c7⟩ := hC; go_simp)
  · exact fun w1 hC => (KR w1).mono fun e w' ⟨he, hb⟩ => ⟨he, keepc hb hC.1, keepc hb hC.2.1, keepc hb hC.2.2.1, keepc hb hC.2.2.2.1, keepf hb hC.2.2.1 hC.2.2.2.2.1, keepf hb hC.2.2.2.1 hC.2.2.2.2.2.1, keepb hb hC.2.2.2.2.2.2⟩
  simp only [Act.put, List.setIfInBounds_toArray, List.set_cons_zero, List.set_cons_succ]
  refine q_run (v := .bool true) (by rfl) ?_ ?_
  · (intro w1 hC; obtain ⟨c1, c2, c3, c4, c5, c6, c7⟩ := hC; go_simp; first | done | (simp; done) | (simp [*]; done) | (simp; omega) | rfl)
  simp only [Act.put, List.setIfInBounds_toArray, List.set_cons_zero, List.set_cons_succ]
  refine q_run (v := .bool true) (by rfl) ?_ ?_
  · (intro w1 hC; obtain ⟨c1, c2, c3, c4, c5, c6, c7⟩ := hC; go_simp; first | done | (simp; done) | (simp [*]; done) | (simp; omega) | rfl)
  simp only [Act.put, List.setIfInBounds_toArray, List.set_cons_zero, List.set_cons_succ]
  refine q_skip (by rfl) ?_
  simp only [Act.put, List.setIfInBounds_toArray, List.set_cons_zero, List.set_cons_succ]
  refine q_skip (by rfl) ?_
  simp only [Act.put, List.setIfInBounds_toArray, List.set_cons_zero, List.set_cons_succ]
  refine q_skip (by rfl) ?_
  simp only [Act.put, List.setIfInBounds_toArray, List.set_cons_zero, List.set_cons_succ]
  refine q_skip (by rfl) ?_
  simp only [Act.put, List.setIfInBounds_toArray, List.set_cons_zero, List.set_cons_succ]
  refine q_run (v := .bool true) (by rfl) ?_ ?_
  · (intro w1 hC; obtain ⟨c1, c2, c3, c4, c5, c6, c7⟩ := hC; go_simp; first | done | (simp; done) | (simp [*]; done) | (simp; omega) | rfl)
  simp only [Act.put, List.setIfInBounds_toArray, List.set_cons_zero, List.set_cons_succ]
  refine wpQuiet_nil ?_
  intro w1 hC
  obtain ⟨x0, x1, o0, o1, o2, o3, kB⟩ := hC
  clear KR
  go_wp2
  exact bodyPost_ret (v := .tuple #[.agg #[.int .u64 0, .int .u64 0], .bool false]) (by simp [results, Try.results35, go_sem, *]) rfl ⟨rfl, bset2 kB (by omega) _ _⟩

set_option maxHeartbeats 4000000 in
theorem rnext_last (F : Int) (x : BitVec 128) (w : World)
    (KR : ∀ w, Calls Try.prog 52 #[.int .i64 F, .agg #[.int .u64 (hI x), .int .u64 (lI x)]] w fun e w' => e = .returned (.int .i64 0) ∧ Below w.heap.size w w')
    (KK : ∀ w, Calls Try.prog 53 #[.int .i64 F] w fun e w' => e = .returned (.agg #[.int .u64 (hI x), .int .u64 (lI x)]) ∧ Below w.heap.size w w') :
    Calls Try.prog 35 #[.int .i64 F, .agg #[.int .u64 (hI x), .int .u64 (lI x)]] w fun e w' => e = .returned (.tuple #[.agg #[.int .u64 0, .int .u64 0], .bool false]) ∧ Below w.heap.size w w' := by
  have kB := (bl2 w (.cells #[.int .u64 (hI x), .int .u64 (lI x)] 40) (.cells #[.int .u64 0, .int .u64 0] 40)).drew
  go_enter Try.func35, Try.ntmps35
  go_wp2_with fail
  refine q_region (C := (fun w' => w'.cell? ⟨w.heap.size, 0, none⟩ = some (.int .u64 (hI x)) ∧ w'.cell? ⟨w.heap.size, 1, none⟩ = some (.int .u64 (lI x)) ∧ w'.cell? ⟨w.heap.size + 1, 0, none⟩ = some (.int .u64 0) ∧ w'.cell? ⟨w.heap.size + 1, 1, none⟩ = some (.int .u64 0) ∧ w'.frozen? ⟨w.heap.size + 1, 0, none⟩ = false ∧ w'.frozen? ⟨w.heap.size + 1, 1, none⟩ = false ∧ Below w.heap.size w w')) (by kernel_rfl) (by kernel_rfl) ⟨by simp [go_sem], by simp [go_sem], by simp [go_sem], by simp [go_sem], by simp [go_sem], by simp [go_sem], kB⟩ ?_
  clear kB
  refine q_run (v := .int .i64 F) (by rfl) ?_ ?_
  · (intro w1 hC; obtain ⟨c1, c2, c3, c4, c5, c6, c7⟩ := hC; go_simp; first | done | (simp; done) | (simp [*]; done) | (simp; omega) | rfl)
  simp only [Act.put, List.setIfInBounds_toArray, List.set_cons_zero, List.set_cons_succ]
  refine q_run (v := .agg #[.int .u64 (hI x), .int .u64 (lI x)]) (by rfl) ?_ ?_
  · (intro w1 hC; obtain ⟨c1, c2, c3, c4, c5, c6, c7⟩ := hC; go_simp; first | done | (simp; done) | (simp [*]; done) | (simp; omega) | rfl)
  simp only [Act.put, List.setIfInBounds_toArray, List.set_cons_zero, List.set_cons_succ]
  refine q_call (v := .int .i64 0) (f := 52) (args := #[.int .i64 F, .agg #[.int .u64 (hI x), .int .u64 (lI x)]]) (by rfl) ?_ ?_ ?_
  · (intro w1 hC; obtain ⟨c1, c2, c3, c4, c5, c6, c7⟩ := hC; go_simp)
  · exact fun w1 hC => (KR w1).mono fun e w' ⟨he, hb⟩ => ⟨he, keepc hb hC.1, keepc hb hC.2.1, keepc hb hC.2.2.1, keepc hb hC.2.2.2.1, keepf hb hC.2.2.1 hC.2.2.2.2.1, keepf hb hC.2.2.2.1 hC.2.2.2.2.2.1, keepb hb hC.2.2.2.2.2.2⟩
  simp only [Act.put, List.setIfInBounds_toArray, List.set_cons_zero, List.set_cons_succ]
  refine q_run (v := .bool false) (by rfl) ?_ ?_
  · (intro w1 hC; obtain ⟨c1, c2, c3, c4, c5, c6, c7⟩ := hC; go_simp; first | done | (simp; done) | (simp [*]; done) | (simp; omega) | rfl)
  simp only [Act.put, List.setIfInBounds_toArray, List.set_cons_zero, List.set_cons_succ]
  refine q_run (v := .bool false) (by rfl) ?_ ?_
  · (intro w1 hC; obtain ⟨c1, c2, c3, c4, c5, c6, c7⟩ := hC; go_simp; first | done | (simp; done) | (simp [*]; done) | (simp; omega) | rfl)
  simp only [Act.put, List.setIfInBounds_toArray, List.set_cons_zero, List.set_cons_succ]
  refine q_run (v := .agg #[.int .u64 (hI x), .int .u64 (lI x)]) (by rfl) ?_ ?_
  · (intro w1 hC; obtain ⟨c1, c2, c3, c4, c5, c6, c7⟩ := hC; go_simp; first | done | (simp; done) | (simp [*]; done) | (simp; omega) | rfl)
  simp only [Act.put, List.setIfInBounds_toArray, List.set_cons_zero, List.set_cons_succ]
  refine q_run (v := .int .i64 F) (by rfl) ?_ ?_
  · (intro w1 hC; obtain ⟨c1, c2, c3, c4, c5, c6, c7⟩ := hC; go_simp; first | done | (simp; done) | (simp [*]; done) | (simp; omega) | rfl)
  simp only [Act.put, List.setIfInBounds_toArray, List.set_cons_zero, List.set_cons_succ]
  refine q_call (v := .agg #[.int .u64 (hI x), .int .u64 (lI x)]) (f := 53) (args := #[.int .i64 F]) (by rfl) ?_ ?_ ?_
  · (intro w1 hC; obtain ⟨c1, c2, c3, c4, c5, c6, c7⟩ := hC; go_simp)
  · exact fun w1 hC => (KK w1).mono fun e w' ⟨he, hb⟩ => ⟨he, keepc hb hC.1, keepc hb hC.2.1, keepc hb hC.2.2.1, keepc hb hC.2.2.2.1, keepf hb hC.2.2.1 hC.2.2.2.2.1, keepf hb hC.2.2.2.1 hC.2.2.2.2.2.1, keepb hb hC.2.2.2.2.2.2⟩
  simp only [Act.put, List.setIfInBounds_toArray, List.set_cons_zero, List.set_cons_succ]
  refine q_run (v := .bool true) (by rfl) ?_ ?_
  · (intro w1 hC; obtain ⟨c1, c2, c3, c4, c5, c6, c7⟩ := hC; go_simp; first | done | (simp; done) | (simp [*]; done) | (simp; omega) | rfl)
  simp only [Act.put, List.setIfInBounds_toArray, List.set_cons_zero, List.set_cons_succ]
  refine q_run (v := .bool true) (by rfl) ?_ ?_
  · (intro w1 hC; obtain ⟨c1, c2, c3, c4, c5, c6, c7⟩ := hC; go_simp; first | done | (simp; done) | (simp [*]; done) | (simp; omega) | rfl)
  simp only [Act.put, List.setIfInBounds_toArray, List.set_cons_zero, List.set_cons_succ]
  refine wpQuiet_nil ?_
  intro w1 hC
  obtain ⟨x0, x1, o0, o1, o2, o3, kB⟩ := hC
  clear KR KK
  go_wp2
  exact bodyPost_ret (v := .tuple #[.agg #[.int .u64 0, .int .u64 0], .bool false]) (by simp [results, Try.results35, go_sem, *]) rfl ⟨rfl, bset2 kB (by omega) _ _⟩

set_option maxHeartbeats 4000000 in
theorem rprev_no (F r : Int) (x : BitVec 128) (w : World) (hr : ¬ r = 0 ∨ r = 0 ∧ x = 0#128)
    (KR : ∀ w, Calls Try.prog 52 #[.int .i64 F, .agg #[.int .u64 (hI x), .int .u64 (lI x)]] w fun e w' => e = .returned (.int .i64 r) ∧ Below w.heap.size w w') :
    Calls Try.prog 39 #[.int .i64 F, .agg #[.int .u64 (hI x), .int .u64 (lI x)]] w fun e w' => e = .returned (.tuple #[.agg #[.int .u64 0, .int .u64 0], .bool false]) ∧ Below w.heap.size w w' := by
  rcases hr with hr | ⟨rfl, rfl⟩
  · have hrb : (r != 0) = true := by simp [hr]
    go_enter Try.func39, Try.ntmps39
    go_wp2_with fail
    refine (KR _).mono ?_
    rintro e w1 ⟨rfl, hb1⟩
    clear KR
    have hX := ((at_new w w.heap.size x 40 rfl).below (bl1 _ (.cells #[.int .u64 0, .int .u64 0] 40))).below hb1
    have hZ := (at_new (w.alloc (.cells #[.int .u64 (hI x), .int .u64 (lI x)] 40)) (w.heap.size + 1) 0#128 40 (by simp)).below hb1
    have kB := keepb hb1 (bl2 w _ _)
    clear hb1
    obtain ⟨x0, x1, x2, x3, x4⟩ := hX
    obtain ⟨z0, z1, z2, z3, z4⟩ := hZ
    go_wp2
    exact bodyPost_ret (v := .tuple #[.agg #[.int .u64 0, .int .u64 0], .bool false]) (by simp [results, Try.results39, go_sem, *]) rfl ⟨rfl, bset2 kB (by omega) _ _⟩
  · rw [hI_zero, lI_zero] at KR
    rw [hI_zero, lI_zero]
    go_enter Try.func39, Try.ntmps39
    go_wp2_with fail
    refine (KR _).mono ?_
    rintro e w1 ⟨rfl, hb1⟩
    clear KR
    have x0 : w1.cell? ⟨w.heap.size, 0, none⟩ = some (.int .u64 0) := keepc hb1 (by simp [go_sem])
    have x1 : w1.cell? ⟨w.heap.size, 1, none⟩ = some (.int .u64 0) := keepc hb1 (by simp [go_sem])
    have z0 : w1.cell? ⟨w.heap.size + 1, 0, none⟩ = some (.int .u64 0) := keepc hb1 (by simp [go_sem])
    have z1 : w1.cell? ⟨w.heap.size + 1, 1, none⟩ = some (.int .u64 0) := keepc hb1 (by simp [go_sem])
    have z2 : w1.frozen? ⟨w.heap.size + 1, 0, none⟩ = false := keepf hb1 (v := .int .u64 0) (by simp [go_sem]) (by simp [go_sem])
    have z3 : w1.frozen? ⟨w.heap.size + 1, 1, none⟩ = false := keepf hb1 (v := .int .u64 0) (by simp [go_sem]) (by simp [go_sem])
    have kB := keepb hb1 (bl2 w _ _)
    clear hb1
    go_wp2
    exact bodyPost_ret (v := .tuple #[.agg #[.int .u64 0, .int .u64 0], .bool false]) (by simp [results, Try.results39, go_sem, *]) rfl ⟨rfl, bset2 kB (by omega) _ _⟩

set_option maxHeartbeats 4000000 in
theorem rprev_yes (F : Int) (x y z : BitVec 128) (ov : Bool) (w : World) (q : (hI x == 0) = false ∨ (hI x == 0) = true ∧ (lI x == 0) = false)
    (KR : ∀ w, Calls Try.prog 52 #[.int .i64 F, .agg #[.int .u64 (hI x), .int .u64 (lI x)]] w fun e w' => e = .returned (.int .i64 0) ∧ Below w.heap.size w w')
    (KS : ∀ w, Calls Try.prog 55 #[.int .i64 F] w fun e w' => e = .returned (.agg #[.int .u64 (hI y), .int .u64 (lI y)]) ∧ Below w.heap.size w w')
    (KM : ∀ w, Calls Try.prog 60 #[.agg #[.int .u64 (hI x), .int .u64 (lI x)], .agg #[.int .u64 (hI y), .int .u64 (lI y)]] w fun e w' => e = .returned (.tuple #[.agg #[.int .u64 (hI z), .int .u64 (lI z)], .bool ov]) ∧ Below w.heap.size w w') :
    Calls Try.prog 39 #[.int .i64 F, .agg #[.int .u64 (hI x), .int .u64 (lI x)]] w fun e w' => e = .returned (.tuple #[.agg #[.int .u64 (hI z), .int .u64 (lI z)], .bool true]) ∧ Below w.heap.size w w' := by
  rcases q with q1 | ⟨q1, q2⟩
  all_goals
    go_enter Try.func39, Try.ntmps39
    go_wp2_with fail
    refine (KR _).mono ?_
    rintro e w1 ⟨rfl, hb1⟩
    clear KR
    have hX := ((at_new w w.heap.size x 40 rfl).below (bl1 _ (.cells #[.int .u64 0, .int .u64 0] 40))).below hb1
    have hZ := (at_new (w.alloc (.cells #[.int .u64 (hI x), .int .u64 (lI x)] 40)) (w.heap.size + 1) 0#128 40 (by simp)).below hb1
    have kB := keepb hb1 (bl2 w _ _)
    clear hb1
    obtain ⟨x0, x1, x2, x3, x4⟩ := hX
    have z4 := hZ.2.2.2.2
    have n1 : ¬ w1.heap.size = w.heap.size := by omega
    go_wp2_with fail
    rename_i Q' K hK
    have tail : ∀ (N : Nat) (W : World), At W N z → At W (w.heap.size + 1) 0#128 → Below w.heap.size w W → ¬ N = w.heap.size + 1 → (Exit.then K Q') .normal { tmps := #[.int .i64 F, .agg #[.int .u64 (hI x), .int .u64 (lI x)], undef, .pointer (some ⟨w.heap.size, 0, none⟩), .pointer (some ⟨w.heap.size + 1, 0, none⟩), .bool false, .pointer (some ⟨N, 0, none⟩), .bool ov, .int .i64 F, .agg #[.int .u64 (hI x), .int .u64 (lI x)], .int .i64 0, .bool false, .bool false, .agg #[.int .u64 (hI x), .int .u64 (lI x)], .agg #[.int .u64 0, .int .u64 0], .bool false, .bool false, undef, .tuple #[.agg #[.int .u64 (hI z), .int .u64 (lI z)], .bool ov], .agg #[.int .u64 (hI x), .int .u64 (lI x)], .int .i64 F, .agg #[.int .u64 (hI y), .int .u64 (lI y)], .tuple #[.agg #[.int .u64 (hI z), .int .u64 (lI z)], .bool ov], .agg #[.int .u64 (hI z), .int .u64 (lI z)], .bool ov, undef], defers := [] } W := by
      intro N W hN hZ' hB' hn
      obtain ⟨a0, a1, a2, a3, a4⟩ := hN
      obtain ⟨b0, b1, b2, b3, b4⟩ := hZ'
      clear x0 x1 x4 hZ KS KM
      go_wp2
      exact bodyPost_ret (v := .tuple #[.agg #[.int .u64 (hI z), .int .u64 (lI z)], .bool true]) (by simp [results, Try.results39, go_sem, *]) rfl ⟨rfl, bset2 hB' (by omega) _ _⟩
    go_region_with (first | (go_at_call 55; refine (KS _).mono ?_; rintro e w2 ⟨rfl, hb2⟩; have p0 : w2.cell? ⟨w.heap.size, 0, none⟩ = some (.int .u64 (hI x)) := keepc hb2 (by simp [go_sem, *]); have p1 : w2.cell? ⟨w.heap.size, 1, none⟩ = some (.int .u64 (lI x)) := keepc hb2 (by simp [go_sem, *]); have n3 : ¬ w2.heap.size = w.heap.size := (fun e => by have := cell_in p0; omega); have l3 := cell_in p0; (try (refine (fun (c0 : w2.cell? ⟨w1.heap.size, 0, none⟩ = some (.int .u64 0)) => ?_) (keepc hb2 ?_); rotate_left; (focus (simp [go_sem]; done)))); (try (refine (fun (c1 : w2.cell? ⟨w1.heap.size, 1, none⟩ = some (.int .u64 0)) => ?_) (keepc hb2 ?_); rotate_left; (focus (simp [go_sem]; done)))); (try (refine (fun (g0 : w2.frozen? ⟨w1.heap.size, 0, none⟩ = false) => ?_) (keepf hb2 (v := .int .u64 0) ?_ ?_); rotate_left; (focus (simp [go_sem]; done)); (focus (simp [go_sem]; done)))); (try (refine (fun (g1 : w2.frozen? ⟨w1.heap.size, 1, none⟩ = false) => ?_) (keepf hb2 (v := .int .u64 0) ?_ ?_); rotate_left; (focus (simp [go_sem]; done)); (focus (simp [go_sem]; done)))); have hZ2 : At w2 (w.heap.size + 1) 0#128 := At.below (by first | exact hZ.drew | exact (hZ.below (bl1 _ _)).drew | exact hZ | exact hZ.below (bl1 _ _)) hb2; have kB2 : Below w.heap.size w w2 := keepb hb2 (by first | exact kB.drew | exact (kB.alloc (by omega) _).drew | exact kB | exact kB.alloc (by omega) _)) | (go_at_call 60; refine (KM _).mono ?_; rintro e w3 ⟨rfl, hb3⟩; (try (have d0 := keepc hb3 c0; have d1 := keepc hb3 c1; have e0 := keepf hb3 c0 g0; have e1 := keepf hb3 c1 g1)); (try (refine (fun (d2 : w3.cell? ⟨w2.heap.size, 0, none⟩ = some (.int .u64 0)) => ?_) (keepc hb3 ?_); rotate_left; (focus (simp [go_sem]; done)))); (try (refine (fun (d3 : w3.cell? ⟨w2.heap.size, 1, none⟩ = some (.int .u64 0)) => ?_) (keepc hb3 ?_); rotate_left; (focus (simp [go_sem]; done)))); (try (refine (fun (e2 : w3.frozen? ⟨w2.heap.size, 0, none⟩ = false) => ?_) (keepf hb3 (v := .int .u64 0) ?_ ?_); rotate_left; (focus (simp [go_sem]; done)); (focus (simp [go_sem]; done)))); (try (refine (fun (e3 : w3.frozen? ⟨w2.heap.size, 1, none⟩ = false) => ?_) (keepf hb3 (v := .int .u64 0) ?_ ?_); rotate_left; (focus (simp [go_sem]; done)); (focus (simp [go_sem]; done)))); have hZ3 : At w3 (w.heap.size + 1) 0#128 := At.below (by first | exact hZ2 | exact hZ2.below (bl1 _ _)) hb3; have kB3 : Below w.heap.size w w3 := keepb hb3 (by first | exact kB2 | exact kB2.alloc kB2.size _)))
    all_goals
      have z5 := hZ3.2.2.2.2
      have z6 := hZ2.2.2.2.2
    all_goals first
      | exact tail w3.heap.size _ (at_new w3 w3.heap.size z _ rfl) (hZ3.below (bl1 _ _)) (kB3.alloc kB3.size _) (Nat.ne_of_gt z5)
      | exact tail w2.heap.size _ (at_zero d2 d3 e2 e3 z) (hZ3.other _ _ (Nat.ne_of_lt z6)) (bset2 kB3 kB2.size _ _) (Nat.ne_of_gt z6)
      | exact tail w1.heap.size _ (at_zero d0 d1 e0 e1 z) (hZ3.other _ _ (Nat.ne_of_lt z4)) (bset2 kB3 kB.size _ _) (Nat.ne_of_gt z4)
end Go.Proofs.Ytmkjlcfoedglmaa
/-
  What the calls of turnpikeref2's Next and Prev do, of any word.
-/
namespace Go.Proofs.Ytmkjlcfoedglmaa
open Go.RowKit
set_option linter.unusedSimpArgs false
set_option linter.unusedVariables false

theorem rnext_any (F : Int) (x : BitVec 128) (w : World) :
    Calls Try.prog 35 #[.int .i64 F, .agg #[.int .u64 (hI x), .int .u64 (lI x)]] w fun e w' => e = .returned (.tuple #[.agg #[.int .u64 (hI (nextV F x)), .int .u64 (lI (nextV F x))], .bool (nextB F x)]) ∧ Below w.heap.size w w' := by
  have KR := fun w => rright_any F x w
  by_cases hr : rightE F x = 0
  · obtain ⟨hf, hm⟩ := right0 F x hr
    rw [hr] at KR
    have ho := over_step F x hf hm
    have KK := fun w => rmask_any F w
    by_cases e : x = maskW F
    · have e1 : nextB F x = false := by unfold nextB; rw [ho]; simp [e]
      have e2 : nextV F x = 0#128 := by unfold nextV; rw [e1]; rfl
      rw [e1, e2, hI_zero, lI_zero]
      rw [← e] at KK
      exact rnext_last F x w KR KK
    · have e1 : nextB F x = true := by unfold nextB; rw [ho]; simp [e, hr]
      have e2 : nextV F x = x + stepW F := by unfold nextV; rw [e1]; rfl
      rw [e1, e2]
      refine rnext_yes F x (maskW F) (stepW F) (x + stepW F) (overB x (stepW F)) w ?_ KR KK (fun w => rone_any F w hf) (fun w => radd_any x (stepW F) w)
      rcases three x (maskW F) with ⟨a, b, c⟩ | ⟨a, c⟩ | ⟨a, b, c⟩
      · exact absurd c e
      · exact Or.inl a
      · exact Or.inr ⟨a, b⟩
  · have e1 : nextB F x = false := by unfold nextB; simp [hr]
    have e2 : nextV F x = 0#128 := by unfold nextV; rw [e1]; rfl
    rw [e1, e2, hI_zero, lI_zero]
    exact rnext_no F (rightE F x) x w hr KR
theorem rprev_any (F : Int) (x : BitVec 128) (w : World) :
    Calls Try.prog 39 #[.int .i64 F, .agg #[.int .u64 (hI x), .int .u64 (lI x)]] w fun e w' => e = .returned (.tuple #[.agg #[.int .u64 (hI (prevV F x)), .int .u64 (lI (prevV F x))], .bool (prevB F x)]) ∧ Below w.heap.size w w' := by
  have KR := fun w => rright_any F x w
  by_cases hr : rightE F x = 0
  · obtain ⟨hf, hm⟩ := right0 F x hr
    have ho := under_step F x hf hm
    by_cases e : x = 0#128
    · have e1 : prevB F x = false := by unfold prevB; rw [ho]; simp [e]
      have e2 : prevV F x = 0#128 := by unfold prevV; rw [e1]; rfl
      rw [e1, e2, hI_zero, lI_zero]
      exact rprev_no F (rightE F x) x w (Or.inr ⟨hr, e⟩) KR
    · have e1 : prevB F x = true := by unfold prevB; rw [ho]; simp [e, hr]
      have e2 : prevV F x = x - stepW F := by unfold prevV; rw [e1]; rfl
      rw [e1, e2]
      rw [hr] at KR
      refine rprev_yes F x (stepW F) (x - stepW F) (underB x (stepW F)) w ?_ KR (fun w => rone_any F w hf) (fun w => rsub_any x (stepW F) w)
      rcases three0 x with ⟨a, b, c⟩ | ⟨a, c⟩ | ⟨a, b, c⟩
      · exact absurd c e
      · exact Or.inl a
      · exact Or.inr ⟨a, b⟩
  · have e1 : prevB F x = false := by unfold prevB; simp [hr]
    have e2 : prevV F x = 0#128 := by unfold prevV; rw [e1]; rfl
    rw [e1, e2, hI_zero, lI_zero]
    exact rprev_no F (rightE F x) x w (Or.inl hr) KR
end Go.Proofs.Ytmkjlcfoedglmaa
/-
  What the call of turnpikeref6's edges does.
-/
namespace Go.Proofs.Ytmkjlcfoedglmaa
open Go.RowKit
set_option linter.unusedSimpArgs false
set_option linter.unusedVariables false

/-- Words in order with 0 and both ends of each route. -/
def EdS (F : Int) (S : List (BitVec 128)) (l : List Rte) (T : List (BitVec 128)) : Prop := T.Pairwise (fun a b => a.toNat < b.toNat) ∧ (∀ y, y ∈ T ↔ (y ∈ S ∨ y = 0#128 ∨ ∃ r ∈ l, y = r.1.1 ∨ (nextB F (lastW F r.1.1 r.1.2) = true ∧ y = nextV F (lastW F r.1.1 r.1.2)))) ∧ T.length ≤ S.length + 1 + 2 * l.length
theorem eds_zero (F : Int) (S T : List (BitVec 128)) (h : PutS S 0#128 T) : EdS F S [] T := by
  refine ⟨h.1, fun y => ?_, by have := h.2.2; simp; omega⟩
  rw [h.2.1 y]
  constructor
  · rintro (q | q)
    · exact .inr (.inl q)
    · exact .inl q
  · rintro (q | q | ⟨r, hr, -⟩)
    · exact .inr q
    · exact .inl q
    · cases hr
/-- One route more: its first address, and the one behind its last. -/
theorem eds_one (F : Int) (S : List (BitVec 128)) (l : List Rte) (r : Rte) (T0 T1 : List (BitVec 128)) (h : EdS F S l T0) (h1 : PutS T0 r.1.1 T1) :
    (nextB F (lastW F r.1.1 r.1.2) = true → ∀ T2, PutS T1 (nextV F (lastW F r.1.1 r.1.2)) T2 → EdS F S (l ++ [r]) T2) ∧ (nextB F (lastW F r.1.1 r.1.2) = false → EdS F S (l ++ [r]) T1) := by
  constructor
  · intro hb T2 h2
    refine ⟨h2.1, fun y => ?_, by have := h.2.2; have := h1.2.2; have := h2.2.2; simp; omega⟩
    rw [h2.2.1 y, h1.2.1 y, h.2.1 y]
    constructor
    · rintro (q | q | q | q | ⟨r', hr, q⟩)
      · exact .inr (.inr ⟨r, by simp, .inr ⟨hb, q⟩⟩)
      · exact .inr (.inr ⟨r, by simp, .inl q⟩)
      · exact .inl q
      · exact .inr (.inl q)
      · exact .inr (.inr ⟨r', List.mem_append_left _ hr, q⟩)
    · rintro (q | q | ⟨r', hr, q⟩)
      · exact .inr (.inr (.inl q))
      · exact .inr (.inr (.inr (.inl q)))
      · rcases List.mem_append.mp hr with hr | hr
        · exact .inr (.inr (.inr (.inr ⟨r', hr, q⟩)))
        · have : r' = r := by simpa using hr
          subst this
          rcases q with q | ⟨-, q⟩
          · exact .inr (.inl q)
          · exact .inl q
  · intro hb
    refine ⟨h1.1, fun y => ?_, by have := h.2.2; have := h1.2.2; simp; omega⟩
    rw [h1.2.1 y, h.2.1 y]
    constructor
    · rintro (q | q | q | ⟨r', hr, q⟩)
      · exact .inr (.inr ⟨r, by simp, .inl q⟩)
      · exact .inl q
      · exact .inr (.inl q)
      · exact .inr (.inr ⟨r', List.mem_append_left _ hr, q⟩)
    · rintro (q | q | ⟨r', hr, q⟩)
      · exact .inr (.inl q)
      · exact .inr (.inr (.inl q))
      · rcases List.mem_append.mp hr with hr | hr
        · exact .inr (.inr (.inr ⟨r', hr, q⟩))
        · have : r' = r := by simpa using hr
          subst this
          rcases q with q | ⟨q, -⟩
          · exact .inl q
          · rw [hb] at q; cases q
/-- What is known between two calls of put. -/
structure EgI (w0 w : World) (lv : Value) (F : Int) (v rv : Value) (T : List (BitVec 128)) (W : World) : Prop where
  own : W.ownsRow w0.heap.size 40 2 rv T.length (rowW T)
  t : AtU W w.heap.size F v
  gr : w.grownBy W lv.ownBlock
  ob : ∀ z, rv.ownBlock = some z → lv.ownBlock = some z ∨ w.heap.size + 1 ≤ z
  ol : ∀ z, lv.ownBlock = some z → w0.heap.size ≤ z ∧ z < w.heap.size
  bel : Below w0.heap.size w0 W
  b0 : w0.heap.size ≤ w.heap.size
theorem EgI.bs {w0 w : World} {lv : Value} {F : Int} {v rv : Value} {T : List (BitVec 128)} {W : World} (k : EgI w0 w lv F v rv T W) : w0.heap.size ≤ W.heap.size := k.bel.size
theorem EgI.below {w0 w : World} {lv : Value} {F : Int} {v rv : Value} {T : List (BitVec 128)} {W W' : World} (k : EgI w0 w lv F v rv T W) (hb : Below W.heap.size W W') : EgI w0 w lv F v rv T W' :=
  ⟨own_below hb k.own, k.t.heap (hb.block _ k.t.lt), k.gr.trans (below_grown hb), k.ob, k.ol, keepb hb k.bel, k.b0⟩
theorem EgI.put {w0 w : World} {lv : Value} {F : Int} {v rv rv' : Value} {T T' : List (BitVec 128)} {W W' : World} (k : EgI w0 w lv F v rv T W) (h : PtO w0.heap.size rv T' W rv' W') : EgI w0 w lv F v rv' T' W' := by
  obtain ⟨h1, h2, h3⟩ := h
  have hT := k.t.lt
  refine ⟨h1, k.t.heap (h2.block _ hT (fun e => ?_)), ⟨by rw [h2.os, k.gr.os], by rw [h2.tape, k.gr.tape], by rw [h2.output, k.gr.output], Nat.le_trans k.gr.size h2.size, fun z q1 q2 => ?_⟩, fun z e => ?_, k.ol, k.bel.grown h2 k.bel.size (fun z e => (k.own.lt z e).1), k.b0⟩
  · rcases k.ob _ e.symm with q | q
    · have := (k.ol _ q).2; omega
    · omega
  · rw [h2.block z (by have := k.gr.size; omega) (fun e => ?_), k.gr.block z q1 q2]
    rcases k.ob z e.symm with q | q
    · exact q2 q.symm
    · omega
  · rcases h3 z e with q | q
    · exact k.ob z q
    · exact .inr (by omega)
theorem EgI.set2 {w0 w : World} {lv : Value} {F : Int} {v rv : Value} {T : List (BitVec 128)} {W : World} (k : EgI w0 w lv F v rv T W) {M : Nat} (hM : w.heap.size + 1 ≤ M) (hne : rv.ownBlock ≠ some M) (a b : Value) : EgI w0 w lv F v rv T ((W.setCell ⟨M, 0, none⟩ a).setCell ⟨M, 1, none⟩ b) := by
  have b0 := k.b0
  refine ⟨own_heap k.own (fun g e => ?_), k.t.heap (by rw [hSet _ (by omega), hSet _ (by omega)]), grown_set2 k.gr (.inr (by omega)) _ _ _ _, k.ob, k.ol, bset2 k.bel (by omega) _ _, k.b0⟩
  have : ¬ g = M := fun q => hne (by rw [e, q])
  rw [hSet _ this, hSet _ this]
/-- The same, with the prefix that is asked. -/
def EgD (w0 w : World) (lv : Value) (F : Int) (v rv : Value) (T : List (BitVec 128)) (px : BitVec 128) (pn : Int) (N : Nat) (W : World) : Prop := EgI w0 w lv F v rv T W ∧ AtP W N px pn ∧ w.heap.size < N ∧ N < W.heap.size
theorem EgD.below {w0 w : World} {lv : Value} {F : Int} {v rv : Value} {T : List (BitVec 128)} {px : BitVec 128} {pn : Int} {N : Nat} {W W' : World} (k : EgD w0 w lv F v rv T px pn N W) (hb : Below W.heap.size W W') : EgD w0 w lv F v rv T px pn N W' := ⟨k.1.below hb, k.2.1.below hb, k.2.2.1, Nat.lt_of_lt_of_le k.2.2.2 hb.size⟩
theorem EgD.drew {w0 w : World} {lv : Value} {F : Int} {v rv : Value} {T : List (BitVec 128)} {px : BitVec 128} {pn : Int} {N : Nat} {W : World} (k : EgD w0 w lv F v rv T px pn N W) : EgD w0 w lv F v rv T px pn N W.drew := k.below (below_drewN (Below.refl _ _) 1)
theorem AtP.heapE {W W' : World} {B : Nat} {x : BitVec 128} {n : Int} (k : AtP W B x n) (e : W'.heap[B]? = W.heap[B]?) : AtP W' B x n := by
  obtain ⟨h0, h1, h2, f0, f1, f2⟩ := k
  exact ⟨by rw [cellH e]; exact h0, by rw [cellH e]; exact h1, by rw [cellH e]; exact h2, by rw [frozH e]; exact f0, by rw [frozH e]; exact f1, by rw [frozH e]; exact f2⟩
theorem EgD.set2 {w0 w : World} {lv : Value} {F : Int} {v rv : Value} {T : List (BitVec 128)} {px : BitVec 128} {pn : Int} {N : Nat} {W : World} (k : EgD w0 w lv F v rv T px pn N W) {M : Nat} (hM : N < M) (hne : rv.ownBlock ≠ some M) (a b : Value) : EgD w0 w lv F v rv T px pn N ((W.setCell ⟨M, 0, none⟩ a).setCell ⟨M, 1, none⟩ b) := by
  have h1 := k.2.2.1
  refine ⟨k.1.set2 (by omega) hne a b, k.2.1.heapE (by rw [hSet _ (by omega), hSet _ (by omega)]), h1, ?_⟩
  have := (bset2 (C := M) (Below.refl 0 W) (Nat.zero_le _) a b).size
  have := k.2.2.2
  omega
theorem at_zeroE (W : World) : At (W.alloc (.cells #[.int .u64 0, .int .u64 0] 40)) W.heap.size 0#128 := by
  have := at_new W W.heap.size 0#128 40 rfl
  rwa [hI_zero, lI_zero] at this
theorem At.setE {W : World} {B : Nat} {x : BitVec 128} (k : At W B x) (y : BitVec 128) : At ((W.setCell ⟨B, 0, none⟩ (.int .u64 (hI y))).setCell ⟨B, 1, none⟩ (.int .u64 (lI y))) B y := by
  obtain ⟨c0, c1, f0, f1, h⟩ := k
  refine ⟨?_, ?_, ?_, ?_, ?_⟩ <;> simp [go_sem, c0, c1, f0, f1, h]
set_option maxRecDepth 20000 in
set_option maxHeartbeats 16000000 in
theorem redges_any (w0 : World) (F : Int) (v : Value) (l : List Rte) (lv : Value) (S : List (BitVec 128)) (w : World) (hB0 : Below w0.heap.size w0 w) (hv : RwR w0 v l) (hown : w.ownsRow w0.heap.size 40 2 lv S.length (rowW S)) (hS : S.Pairwise (fun a b => a.toNat < b.toNat)) (hl : S.length + 1 + 2 * l.length ≤ 100000000) (hL : ∀ r ∈ l, Rt F r.1.1 r.1.2) :
    Calls Try.prog 18 #[lv, .agg #[.int .i64 F, v]] w fun e w' => ∃ v' T, e = .returned v' ∧ EdS F S l T ∧ PtO w0.heap.size lv T w v' w' ∧ Below w0.heap.size w0 w' := by
  obtain ⟨ao, c, rfl, hv⟩ := hv
  have HV : Hid (l = [] ∨ ∃ b off, ao = some ⟨b, off, none⟩ ∧ ∀ j u, (rowR l)[j]? = some u → w0.cell? ⟨b, off + j, none⟩ = some u) := hv
  have b0 := bl1 w (.cells #[.int .i64 F, .slice ao l.length c] 24)
  have HI0 : Hid (EgI w0 w lv F (.slice ao l.length c) lv S (w.alloc (.cells #[.int .i64 F, .slice ao l.length c] 24))) := hidR ⟨own_below b0 hown, atu_new w w.heap.size F _ 24 rfl, below_grown b0, fun z e => .inl e, fun z e => hown.lt z e, keepb b0 hB0, hB0.size⟩
  have K0 := rput_any w0.heap.size lv S 0#128 _ HI0.out.own HI0.out.bs (by omega) hS
  rw [hI_zero, lI_zero] at K0
  obtain ⟨lo, lc, rfl⟩ := own_form hown
  have HL : Hid (∀ r ∈ l, Rt F r.1.1 r.1.2) := hidR hL
  clear hv b0 hown hB0 hS hL
  go_enter Try.func18, Try.ntmps18
  go_wp2_with fail
  refine K0.mono ?_
  rintro e w1 ⟨rv1, T1, rfl, hp, ho⟩
  have HI1 := hidR (HI0.out.put ho)
  have HS1 := hidR (eds_zero F S T1 hp)
  clear K0 hp ho HI0
  go_wp2_with fail
  go_loopw [0, 5] (fun rv i wr => ∃ (k : Nat) (rv' : Value) (T : List (BitVec 128)), k ≤ l.length ∧ i = .int .i64 k ∧ rv' = rv ∧ Hid (EdS F S (l.take k) T) ∧ Hid (EgI w0 w (.slice lo S.length lc) F (.slice ao l.length c) rv' T wr)) (fun _ i _ => l.length - (intOf i).toNat)
  case atStart => exact ⟨0, rv1, T1, by omega, rfl, rfl, by simpa using HS1, HI1⟩
  case round =>
    clear HI1 HS1
    obtain ⟨k, rv, T, hk, rfl, rfl, HSk, HI⟩ := hrel
    obtain ⟨t0, t1, -, -⟩ := HI.out.t
    by_cases hlt : (k : Int) < (l.length : Int)
    · have hks : k < l.length := by omega
      rcases HV.out with e | ⟨b, off, rfl, hc⟩
      · rw [e] at hks; simp at hks
      · obtain ⟨x0, x1, x2, x3⟩ := rwr_cells hc k hks
        have x0 := keepc HI.out.bel x0
        have x1 := keepc HI.out.bel x1
        have x2 := keepc HI.out.bel x2
        have x3 := keepc HI.out.bel x3
        have HTK : Hid (l.take (k + 1) = l.take k ++ [l[k]]) := hidR (List.take_succ_eq_append_getElem hks)
        have KL := fun w => rplast_any F l[k].1.1 l[k].1.2 w
        rw [last_eq F l[k].1.1 l[k].1.2 (HL.out l[k] (List.getElem_mem hks)).1 (HL.out l[k] (List.getElem_mem hks)).2.1] at KL
        have KN := fun w => rnext_any F (lastW F l[k].1.1 l[k].1.2) w
        have HO1 : Hid (∀ T0 T1, EdS F S (l.take k) T0 → PutS T0 l[k].1.1 T1 → (nextB F (lastW F l[k].1.1 l[k].1.2) = true → ∀ T2, PutS T1 (nextV F (lastW F l[k].1.1 l[k].1.2)) T2 → EdS F S (l.take k ++ [l[k]]) T2) ∧ (nextB F (lastW F l[k].1.1 l[k].1.2) = false → EdS F S (l.take k ++ [l[k]]) T1)) := hidR (fun T0 T1 h h1 => eds_one F S (l.take k) l[k] T0 T1 h h1)
        have mk : IntKind.i64.wrap ((k : Int) + 1) = (k : Int) + 1 := by rw [IntKind.wrap_i64]; omega
        have hTl : T.length ≤ S.length + 1 + 2 * k := by have := HSk.out.2.2; rw [List.length_take] at this; omega
        clear hc
        revert KL KN HO1 HTK
        generalize hR0 : l[k] = R0 at *
        clear hR0
        obtain ⟨⟨px, pn⟩, ph⟩ := R0
        dsimp only at x0 x1 x2 x3 ⊢
        generalize hnb : nextB F (lastW F px pn) = nb
        generalize hnx : nextV F (lastW F px pn) = nx
        generalize lastW F px pn = la at *
        intro HTK KL KN HO1
        have HNB : Hid (nb = nb) := hidR rfl
        clear hnb hnx
        have HI1 := hidR (HI.out.below (bl1 wr (.cells #[.int .u64 (hI px), .int .u64 (lI px), .int .i64 pn] 48)))
        have hpn := atp_new wr wr.heap.size px pn 48 rfl
        have HPN := hidR hpn
        obtain ⟨p0, p1, p2, -, -, -⟩ := hpn
        have HN0 : Hid (w.heap.size < wr.heap.size) := hidR HI.out.t.lt
        have HNE : Hid (rv.ownBlock ≠ some wr.heap.size) := hidR (fun e => by have := (HI.out.own.lt _ e).2; omega)
        have KP := rput_any w0.heap.size rv T px _ HI1.out.own HI1.out.bs (by omega) HSk.out.1
        clear HI x3
        go_wp2_with fail
        refine KP.mono ?_
        rintro e w3 ⟨rv3, T3, rfl, hp3, ho3⟩
        have HD1 := hidR (HO1.out T T3 HSk.out hp3)
        have HEA := hidR hp3.1
        have HEL : Hid (T3.length + 1 ≤ 100000000 + 2) := hidR (by have := hp3.2.2; omega)
        have HD : Hid (EgD w0 w (.slice lo S.length lc) F (.slice (some ⟨b, off, none⟩) l.length c) rv3 T3 px pn wr.heap.size w3) := hidR ⟨HI1.out.put ho3, HPN.out.heapE (ho3.2.1.block _ (by simp) (fun e => HNE.out e.symm)), HN0.out, by have := ho3.2.1.size; simp at this; omega⟩
        clear KP hp3 ho3 HI1 HPN p0 p1 p2 HN0 HNE HSk HO1 hTl x0 x1 x2 t0 t1
        generalize wr.heap.size = N at *
        go_wp2_with fail
        refine two_region 12 10 11 (alOk (qpOk 12 10 (by decide) (fun N => by kernel_rfl) (by kernel_rfl) (by kernel_rfl) (by kernel_rfl) (by kernel_rfl)) (by decide) rfl rfl (by kernel_rfl)) (alOk (qpOk 12 11 (by decide) (fun N => by kernel_rfl) (by kernel_rfl) (by kernel_rfl) (by kernel_rfl) (by kernel_rfl)) (by decide) rfl rfl (by kernel_rfl)) (by decide) (by kernel_rfl) rfl (D := EgD w0 w (.slice lo S.length lc) F (.slice (some ⟨b, off, none⟩) l.length c) rv3 T3 px pn N) (C1 := fun M W => EgD w0 w (.slice lo S.length lc) F (.slice (some ⟨b, off, none⟩) l.length c) rv3 T3 px pn N W ∧ At W M 0#128 ∧ N < M ∧ rv3.ownBlock ≠ some M) (C2 := fun M W => EgD w0 w (.slice lo S.length lc) F (.slice (some ⟨b, off, none⟩) l.length c) rv3 T3 px pn N W ∧ At W M nx ∧ N < M ∧ rv3.ownBlock ≠ some M) (obj := .cells #[.int .u64 0, .int .u64 0] 40) [some 30, some 31, some 32, some 33, some 34, some 35, some 36, some 29, some 37, some 38, some 7, none] (fun M => [.pointer (some ⟨w.heap.size, 0, none⟩), .int .i64 F, .pointer (some ⟨w.heap.size, 0, none⟩), .int .i64 F, .agg #[.int .u64 (hI px), .int .u64 (lI px), .int .i64 pn], .agg #[.int .u64 (hI la), .int .u64 (lI la)], .tuple #[.agg #[.int .u64 (hI nx), .int .u64 (lI nx)], .bool nb], .tuple #[.agg #[.int .u64 (hI nx), .int .u64 (lI nx)], .bool nb], .agg #[.int .u64 (hI nx), .int .u64 (lI nx)], .bool nb, .pointer (some ⟨M, 0, none⟩), undef]) 7 [7, 37] (by kernel_rfl) (fun N => by kernel_rfl) rfl ?hA ?hAd (by kernel_rfl) ?hal ?hC ?hst HD.out.drew ?walk ?fin
        case hA => intro N; simp only [putAll, Act.put, List.setIfInBounds_toArray, List.set_cons_zero, List.set_cons_succ]; rfl
        case hAd => intro N; simp only [putAll, Act.put, List.setIfInBounds_toArray, List.set_cons_zero, List.set_cons_succ]; rfl
        case hal => intro W a _; go_simp
        case hC => intro W h; exact ⟨h.below (bl1 W _), at_zeroE W, h.2.2.2, fun e => by have := (h.1.own.lt _ e).2; omega⟩
        case hst =>
          intro M W a' hC hr K Q' hK
          have e7 : a'.tmps[7]? = some (.pointer (some ⟨M, 0, none⟩)) := (hr 7 (by simp)).trans (by simp only [putAll, Act.put, List.setIfInBounds_toArray, List.set_cons_zero, List.set_cons_succ]; rfl)
          have e37 : a'.tmps[37]? = some (.agg #[.int .u64 (hI nx), .int .u64 (lI nx)]) := (hr 37 (by simp)).trans (by simp only [putAll, Act.put, List.setIfInBounds_toArray, List.set_cons_zero, List.set_cons_succ]; rfl)
          obtain ⟨hE, hZ, hN1, hN2⟩ := hC
          obtain ⟨z0, z1, z2, z3, z4⟩ := id hZ
          have hK' := hK _ ⟨hE.set2 hN1 hN2 (.int .u64 (hI nx)) (.int .u64 (lI nx)), hZ.setE nx, hN1, hN2⟩
          unfold Oper.wp
          simp [execOp, e7, e37, go_sem, z0, z1, z2, z3, Oper.upon]
          exact hK'
        case walk =>
          intro M X hX
          have hXD : ∀ W, X W → AtU W w.heap.size F (.slice (some ⟨b, off, none⟩) l.length c) ∧ AtP W N px pn := by
            rcases hX with rfl | rfl | rfl
            · exact fun W h => ⟨h.1.t, h.2.1⟩
            · exact fun W h => ⟨h.1.1.t, h.1.2.1⟩
            · exact fun W h => ⟨h.1.1.t, h.1.2.1⟩
          have hXb : ∀ W W', X W → Below W.heap.size W W' → X W' := by
            rcases hX with rfl | rfl | rfl
            · exact fun W W' h hb => h.below hb
            · exact fun W W' h hb => ⟨h.1.below hb, h.2.1.below hb, h.2.2⟩
            · exact fun W W' h hb => ⟨h.1.below hb, h.2.1.below hb, h.2.2⟩
          clear hX HD
          dsimp only [rep, List.take, List.modify, List.modifyTailIdx, List.modifyTailIdx.go, List.modifyHead]
          refine q_run (v := .pointer (some ⟨w.heap.size, 0, none⟩)) (by rfl) ?_ ?_
          · (intro w1 hC; obtain ⟨⟨t0, t1, -, -⟩, ⟨p0, p1, p2, -, -, -⟩⟩ := hXD w1 hC; clear hC; go_simp; first | done | (simp; done) | (simp [*]; done) | omega | (simp; omega) | (rw [IntKind.wrap_i64]; omega) | (intro hx; omega) | rfl)
          simp only [Act.put, List.setIfInBounds_toArray, List.set_cons_zero, List.set_cons_succ]
          refine q_run (v := .int .i64 F) (by rfl) ?_ ?_
          · (intro w1 hC; obtain ⟨⟨t0, t1, -, -⟩, ⟨p0, p1, p2, -, -, -⟩⟩ := hXD w1 hC; clear hC; go_simp; first | done | (simp; done) | (simp [*]; done) | omega | (simp; omega) | (rw [IntKind.wrap_i64]; omega) | (intro hx; omega) | rfl)
          simp only [Act.put, List.setIfInBounds_toArray, List.set_cons_zero, List.set_cons_succ]
          refine q_run (v := .pointer (some ⟨w.heap.size, 0, none⟩)) (by rfl) ?_ ?_
          · (intro w1 hC; obtain ⟨⟨t0, t1, -, -⟩, ⟨p0, p1, p2, -, -, -⟩⟩ := hXD w1 hC; clear hC; go_simp; first | done | (simp; done) | (simp [*]; done) | omega | (simp; omega) | (rw [IntKind.wrap_i64]; omega) | (intro hx; omega) | rfl)
          simp only [Act.put, List.setIfInBounds_toArray, List.set_cons_zero, List.set_cons_succ]
          refine q_run (v := .int .i64 F) (by rfl) ?_ ?_
          · (intro w1 hC; obtain ⟨⟨t0, t1, -, -⟩, ⟨p0, p1, p2, -, -, -⟩⟩ := hXD w1 hC; clear hC; go_simp; first | done | (simp; done) | (simp [*]; done) | omega | (simp; omega) | (rw [IntKind.wrap_i64]; omega) | (intro hx; omega) | rfl)
          simp only [Act.put, List.setIfInBounds_toArray, List.set_cons_zero, List.set_cons_succ]
          refine q_run (v := .agg #[.int .u64 (hI px), .int .u64 (lI px), .int .i64 pn]) (by rfl) ?_ ?_
          · (intro w1 hC; obtain ⟨⟨t0, t1, -, -⟩, ⟨p0, p1, p2, -, -, -⟩⟩ := hXD w1 hC; clear hC; go_simp; first | done | (simp; done) | (simp [*]; done) | omega | (simp; omega) | (rw [IntKind.wrap_i64]; omega) | (intro hx; omega) | rfl)
          simp only [Act.put, List.setIfInBounds_toArray, List.set_cons_zero, List.set_cons_succ]
          refine q_call (v := .agg #[.int .u64 (hI la), .int .u64 (lI la)]) (f := 36) (args := #[.int .i64 F, .agg #[.int .u64 (hI px), .int .u64 (lI px), .int .i64 pn]]) (by rfl) ?_ ?_ ?_
          · (intro w1 hC; clear hC; go_simp)
          · exact fun w1 hC => (KL w1).mono fun e w' ⟨he, hb⟩ => ⟨he, hXb w1 _ hC hb⟩
          simp only [Act.put, List.setIfInBounds_toArray, List.set_cons_zero, List.set_cons_succ]
          refine q_call (v := .tuple #[.agg #[.int .u64 (hI nx), .int .u64 (lI nx)], .bool nb]) (f := 35) (args := #[.int .i64 F, .agg #[.int .u64 (hI la), .int .u64 (lI la)]]) (by rfl) ?_ ?_ ?_
          · (intro w1 hC; clear hC; go_simp)
          · exact fun w1 hC => (KN w1).mono fun e w' ⟨he, hb⟩ => ⟨he, hXb w1 _ hC hb⟩
          simp only [Act.put, List.setIfInBounds_toArray, List.set_cons_zero, List.set_cons_succ]
          refine q_run (v := .tuple #[.agg #[.int .u64 (hI nx), .int .u64 (lI nx)], .bool nb]) (by rfl) ?_ ?_
          · (intro w1 hC; obtain ⟨⟨t0, t1, -, -⟩, ⟨p0, p1, p2, -, -, -⟩⟩ := hXD w1 hC; clear hC; go_simp; first | done | (simp; done) | (simp [*]; done) | omega | (simp; omega) | (rw [IntKind.wrap_i64]; omega) | (intro hx; omega) | rfl)
          simp only [Act.put, List.setIfInBounds_toArray, List.set_cons_zero, List.set_cons_succ]
          refine q_run (v := .agg #[.int .u64 (hI nx), .int .u64 (lI nx)]) (by rfl) ?_ ?_
          · (intro w1 hC; obtain ⟨⟨t0, t1, -, -⟩, ⟨p0, p1, p2, -, -, -⟩⟩ := hXD w1 hC; clear hC; go_simp; first | done | (simp; done) | (simp [*]; done) | omega | (simp; omega) | (rw [IntKind.wrap_i64]; omega) | (intro hx; omega) | rfl)
          simp only [Act.put, List.setIfInBounds_toArray, List.set_cons_zero, List.set_cons_succ]
          refine q_run (v := .bool nb) (by rfl) ?_ ?_
          · (intro w1 hC; obtain ⟨⟨t0, t1, -, -⟩, ⟨p0, p1, p2, -, -, -⟩⟩ := hXD w1 hC; clear hC; go_simp; first | done | (simp; done) | (simp [*]; done) | omega | (simp; omega) | (rw [IntKind.wrap_i64]; omega) | (intro hx; omega) | rfl)
          simp only [Act.put, List.setIfInBounds_toArray, List.set_cons_zero, List.set_cons_succ]
          refine q_run (v := .pointer (some ⟨M, 0, none⟩)) (by rfl) ?_ ?_
          · (intro w1 hC; obtain ⟨⟨t0, t1, -, -⟩, ⟨p0, p1, p2, -, -, -⟩⟩ := hXD w1 hC; clear hC; go_simp; first | done | (simp; done) | (simp [*]; done) | omega | (simp; omega) | (rw [IntKind.wrap_i64]; omega) | (intro hx; omega) | rfl)
          simp only [Act.put, List.setIfInBounds_toArray, List.set_cons_zero, List.set_cons_succ]
          refine q_run (v := undef) (by rfl) ?_ ?_
          · (intro w1 hC; go_simp)
          refine wpQuiet_nil ?_
          simp only [putAll, Act.put, List.setIfInBounds_toArray, List.set_cons_zero, List.set_cons_succ]
        case fin =>
          intro M W hC
          obtain ⟨hE, hX, -, -⟩ := hC
          have HE := hidR hE.1
          have HX := hidR hX
          simp only [putAll, Act.put, List.setIfInBounds_toArray, List.set_cons_zero, List.set_cons_succ]
          dsimp only [List.drop]
          clear hE hX HD KL KN
          cases nb with
          | false =>
            have HS2 : Hid (EdS F S (l.take (k + 1)) T3) := hidR (by rw [HTK.out]; exact HD1.out.2 (by simp))
            go_wp2
            go_roundw
            case rel => exact ⟨k + 1, rv3, T3, by omega, by go_num, rfl, HS2, HE⟩
            case measure => simp [intOf]; omega
          | true =>
            obtain ⟨x0, x1, -⟩ := HX.out
            have KP := rput_any w0.heap.size rv3 T3 nx W HE.out.own HE.out.bs (by have := HEL.out; omega) HEA.out
            clear HX
            go_wp2_with fail
            refine KP.mono ?_
            rintro e w5 ⟨rv5, T5, rfl, hp5, ho5⟩
            have HE5 := hidR (HE.out.put ho5)
            have HS2 : Hid (EdS F S (l.take (k + 1)) T5) := hidR (by rw [HTK.out]; exact HD1.out.1 (by simp) T5 hp5)
            clear KP hp5 ho5 HE x0 x1
            go_wp2
            go_roundw
            case rel => exact ⟨k + 1, rv5, T5, by omega, by go_num, rfl, HS2, HE5⟩
            case measure => simp [intOf]; omega
    · have hd : ¬ k < l.length := by omega
      have HE : Hid (EdS F S l T) := hidR (by have := HSk.out; rwa [List.take_of_length_le (by omega)] at this)
      obtain ⟨ro, rc, rfl⟩ := own_form HI.out.own
      have HR : Hid (PtO w0.heap.size (.slice lo S.length lc) T w (.slice ro T.length rc) wr ∧ Below w0.heap.size w0 wr) := hidR ⟨⟨HI.out.own, HI.out.gr, fun z e => (HI.out.ob z e).imp id (fun q => by omega)⟩, HI.out.bel⟩
      clear HI HSk
      go_wp2
      go_ret
      first | exact ⟨_, T, rfl, HE.out, HR.out⟩ | exact ⟨_, rfl, T, HE.out, HR.out⟩
end Go.Proofs.Ytmkjlcfoedglmaa
