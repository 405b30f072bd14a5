/-
  Part 23 of the proof: 2 texts, one behind the other.
-/
import Derived.Test.YtonagfmkplbooaaGreatDoorPart5
import Derived.Test.YtonagfmkplbooaaGreatDoorPart22
/-
  What the calls of turnpikeref2's Next and Prev do where there is none, and of Prev.
-/
namespace Go.Proofs.YtonagfmkplbooaaGreatDoor
open Go.RowKit
set_option linter.unusedSimpArgs false
set_option linter.unusedVariables false

set_option maxHeartbeats 4000000 in
theorem rnext_no (F r : Int) (x : BitVec 128) (w : World) (hr : ¬ r = 0)
    (KR : ∀ w, Calls Tryz.prog 74 #[.int .i64 F, .agg #[.int .u64 (hI x), .int .u64 (lI x)]] w fun e w' => e = .returned (.int .i64 r) ∧ Below w.heap.size w w') :
    Calls Tryz.prog 50 #[.int .i64 F, .agg #[.int .u64 (hI x), .int .u64 (lI x)]] w fun e w' => e = .returned (.tuple #[.agg #[.int .u64 0, .int .u64 0], .bool false]) ∧ Below w.heap.size w w' := by
  have kB := (bl2 w (.cells #[.int .u64 (hI x), .int .u64 (lI x)] 27) (.cells #[.int .u64 0, .int .u64 0] 27)).drew
  have hrb : (r != 0) = true := by simp [hr]
  go_enter Tryz.func50, Tryz.ntmps50
  go_wp2_with fail
  refine q_region (C := (fun w' => w'.cell? ⟨w.heap.size, 0, none⟩ = some (.int .u64 (hI x)) ∧ w'.cell? ⟨w.heap.size, 1, none⟩ = some (.int .u64 (lI x)) ∧ w'.cell? ⟨w.heap.size + 1, 0, none⟩ = some (.int .u64 0) ∧ w'.cell? ⟨w.heap.size + 1, 1, none⟩ = some (.int .u64 0) ∧ w'.frozen? ⟨w.heap.size + 1, 0, none⟩ = false ∧ w'.frozen? ⟨w.heap.size + 1, 1, none⟩ = false ∧ Below w.heap.size w w')) (by kernel_rfl) (by kernel_rfl) ⟨by simp [go_sem], by simp [go_sem], by simp [go_sem], by simp [go_sem], by simp [go_sem], by simp [go_sem], kB⟩ ?_
  clear kB
  refine q_run (v := .int .i64 F) (by rfl) ?_ ?_
  · (intro w1 hC; obtain ⟨c1, c2, c3, c4, c5, c6, c7⟩ := hC; go_simp; first | done | (simp; done) | (simp [*]; done) | (simp; omega) | rfl)
  simp only [Act.put, List.setIfInBounds_toArray, List.set_cons_zero, List.set_cons_succ]
  refine q_run (v := .agg #[.int .u64 (hI x), .int .u64 (lI x)]) (by rfl) ?_ ?_
  · (intro w1 hC; obtain ⟨c1, c2, c3, c4, c5, c6, c7⟩ := hC; go_simp; first | done | (simp; done) | (simp [*]; done) | (simp; omega) | rfl)
  simp only [Act.put, List.setIfInBounds_toArray, List.set_cons_zero, List.set_cons_succ]
  refine q_call (v := .int .i64 r) (f := 74) (args := #[.int .i64 F, .agg #[.int .u64 (hI x), .int .u64 (lI x)]]) (by rfl) ?_ ?_ ?_
  · (intro w1 hC; obtain ⟨c1, c2, c3, c4, c5, c6, c7⟩ := hC; go_simp)
  · exact fun w1 hC => (KR w1).mono fun e w' ⟨he, hb⟩ => ⟨he, keepc hb hC.1, keepc hb hC.2.1, keepc hb hC.2.2.1, keepc hb hC.2.2.2.1, keepf hb hC.2.2.1 hC.2.2.2.2.1, keepf hb hC.2.2.2.1 hC.2.2.2.2.2.1, keepb hb hC.2.2.2.2.2.2⟩
  simp only [Act.put, List.setIfInBounds_toArray, List.set_cons_zero, List.set_cons_succ]
  refine q_run (v := .bool true) (by rfl) ?_ ?_
  · (intro w1 hC; obtain ⟨c1, c2, c3, c4, c5, c6, c7⟩ := hC; go_simp; first | done | (simp; done) | (simp [*]; done) | (simp; omega) | rfl)
  simp only [Act.put, List.setIfInBounds_toArray, List.set_cons_zero, List.set_cons_succ]
  refine q_run (v := .bool true) (by rfl) ?_ ?_
  · (intro w1 hC; obtain ⟨c1, c2, c3, c4, c5, c6, c7⟩ := hC; go_simp; first | done | (simp; done) | (simp [*]; done) | (simp; omega) | rfl)
  simp only [Act.put, List.setIfInBounds_toArray, List.set_cons_zero, List.set_cons_succ]
  refine q_skip (by rfl) ?_
  simp only [Act.put, List.setIfInBounds_toArray, List.set_cons_zero, List.set_cons_succ]
  refine q_skip (by rfl) ?_
  simp only [Act.put, List.setIfInBounds_toArray, List.set_cons_zero, List.set_cons_succ]
  refine q_skip (by rfl) ?_
  simp only [Act.put, List.setIfInBounds_toArray, List.set_cons_zero, List.set_cons_succ]
  refine q_skip (by rfl) ?_
  simp only [Act.put, List.setIfInBounds_toArray, List.set_cons_zero, List.set_cons_succ]
  refine q_run (v := .bool true) (by rfl) ?_ ?_
  · (intro w1 hC; obtain ⟨c1, c2, c3, c4, c5, c6, c7⟩ := hC; go_simp; first | done | (simp; done) | (simp [*]; done) | (simp; omega) | rfl)
  simp only [Act.put, List.setIfInBounds_toArray, List.set_cons_zero, List.set_cons_succ]
  refine wpQuiet_nil ?_
  intro w1 hC
  obtain ⟨x0, x1, o0, o1, o2, o3, kB⟩ := hC
  clear KR
  go_wp2
  exact bodyPost_ret (v := .tuple #[.agg #[.int .u64 0, .int .u64 0], .bool false]) (by simp [results, Tryz.results50, go_sem, *]) rfl ⟨rfl, bset2 kB (by omega) _ _⟩

set_option maxHeartbeats 4000000 in
theorem rnext_last (F : Int) (x : BitVec 128) (w : World)
    (KR : ∀ w, Calls Tryz.prog 74 #[.int .i64 F, .agg #[.int .u64 (hI x), .int .u64 (lI x)]] w fun e w' => e = .returned (.int .i64 0) ∧ Below w.heap.size w w')
    (KK : ∀ w, Calls Tryz.prog 48 #[.int .i64 F] w fun e w' => e = .returned (.agg #[.int .u64 (hI x), .int .u64 (lI x)]) ∧ Below w.heap.size w w') :
    Calls Tryz.prog 50 #[.int .i64 F, .agg #[.int .u64 (hI x), .int .u64 (lI x)]] w fun e w' => e = .returned (.tuple #[.agg #[.int .u64 0, .int .u64 0], .bool false]) ∧ Below w.heap.size w w' := by
  have kB := (bl2 w (.cells #[.int .u64 (hI x), .int .u64 (lI x)] 27) (.cells #[.int .u64 0, .int .u64 0] 27)).drew
  go_enter Tryz.func50, Tryz.ntmps50
  go_wp2_with fail
  refine q_region (C := (fun w' => w'.cell? ⟨w.heap.size, 0, none⟩ = some (.int .u64 (hI x)) ∧ w'.cell? ⟨w.heap.size, 1, none⟩ = some (.int .u64 (lI x)) ∧ w'.cell? ⟨w.heap.size + 1, 0, none⟩ = some (.int .u64 0) ∧ w'.cell? ⟨w.heap.size + 1, 1, none⟩ = some (.int .u64 0) ∧ w'.frozen? ⟨w.heap.size + 1, 0, none⟩ = false ∧ w'.frozen? ⟨w.heap.size + 1, 1, none⟩ = false ∧ Below w.heap.size w w')) (by kernel_rfl) (by kernel_rfl) ⟨by simp [go_sem], by simp [go_sem], by simp [go_sem], by simp [go_sem], by simp [go_sem], by simp [go_sem], kB⟩ ?_
  clear kB
  refine q_run (v := .int .i64 F) (by rfl) ?_ ?_
  · (intro w1 hC; obtain ⟨c1, c2, c3, c4, c5, c6, c7⟩ := hC; go_simp; first | done | (simp; done) | (simp [*]; done) | (simp; omega) | rfl)
  simp only [Act.put, List.setIfInBounds_toArray, List.set_cons_zero, List.set_cons_succ]
  refine q_run (v := .agg #[.int .u64 (hI x), .int .u64 (lI x)]) (by rfl) ?_ ?_
  · (intro w1 hC; obtain ⟨c1, c2, c3, c4, c5, c6, c7⟩ := hC; go_simp; first | done | (simp; done) | (simp [*]; done) | (simp; omega) | rfl)
  simp only [Act.put, List.setIfInBounds_toArray, List.set_cons_zero, List.set_cons_succ]
  refine q_call (v := .int .i64 0) (f := 74) (args := #[.int .i64 F, .agg #[.int .u64 (hI x), .int .u64 (lI x)]]) (by rfl) ?_ ?_ ?_
  · (intro w1 hC; obtain ⟨c1, c2, c3, c4, c5, c6, c7⟩ := hC; go_simp)
  · exact fun w1 hC => (KR w1).mono fun e w' ⟨he, hb⟩ => ⟨he, keepc hb hC.1, keepc hb hC.2.1, keepc hb hC.2.2.1, keepc hb hC.2.2.2.1, keepf hb hC.2.2.1 hC.2.2.2.2.1, keepf hb hC.2.2.2.1 hC.2.2.2.2.2.1, keepb hb hC.2.2.2.2.2.2⟩
  simp only [Act.put, List.setIfInBounds_toArray, List.set_cons_zero, List.set_cons_succ]
  refine q_run (v := .bool false) (by rfl) ?_ ?_
  · (intro w1 hC; obtain ⟨c1, c2, c3, c4, c5, c6, c7⟩ := hC; go_simp; first | done | (simp; done) | (simp [*]; done) | (simp; omega) | rfl)
  simp only [Act.put, List.setIfInBounds_toArray, List.set_cons_zero, List.set_cons_succ]
  refine q_run (v := .bool false) (by rfl) ?_ ?_
  · (intro w1 hC; obtain ⟨c1, c2, c3, c4, c5, c6, c7⟩ := hC; go_simp; first | done | (simp; done) | (simp [*]; done) | (simp; omega) | rfl)
  simp only [Act.put, List.setIfInBounds_toArray, List.set_cons_zero, List.set_cons_succ]
  refine q_run (v := .agg #[.int .u64 (hI x), .int .u64 (lI x)]) (by rfl) ?_ ?_
  · (intro w1 hC; obtain ⟨c1, c2, c3, c4, c5, c6, c7⟩ := hC; go_simp; first | done | (simp; done) | (simp [*]; done) | (simp; omega) | rfl)
  simp only [Act.put, List.setIfInBounds_toArray, List.set_cons_zero, List.set_cons_succ]
  refine q_run (v := .int .i64 F) (by rfl) ?_ ?_
  · (intro w1 hC; obtain ⟨c1, c2, c3, c4, c5, c6, c7⟩ := hC; go_simp; first | done | (simp; done) | (simp [*]; done) | (simp; omega) | rfl)
  simp only [Act.put, List.setIfInBounds_toArray, List.set_cons_zero, List.set_cons_succ]
  refine q_call (v := .agg #[.int .u64 (hI x), .int .u64 (lI x)]) (f := 48) (args := #[.int .i64 F]) (by rfl) ?_ ?_ ?_
  · (intro w1 hC; obtain ⟨c1, c2, c3, c4, c5, c6, c7⟩ := hC; go_simp)
  · exact fun w1 hC => (KK w1).mono fun e w' ⟨he, hb⟩ => ⟨he, keepc hb hC.1, keepc hb hC.2.1, keepc hb hC.2.2.1, keepc hb hC.2.2.2.1, keepf hb hC.2.2.1 hC.2.2.2.2.1, keepf hb hC.2.2.2.1 hC.2.2.2.2.2.1, keepb hb hC.2.2.2.2.2.2⟩
  simp only [Act.put, List.setIfInBounds_toArray, List.set_cons_zero, List.set_cons_succ]
  refine q_run (v := .bool true) (by rfl) ?_ ?_
  · (intro w1 hC; obtain ⟨c1, c2, c3, c4, c5, c6, c7⟩ := hC; go_simp; first | done | (simp; done) | (simp [*]; done) | (simp; omega) | rfl)
  simp only [Act.put, List.setIfInBounds_toArray, List.set_cons_zero, List.set_cons_succ]
  refine q_run (v := .bool true) (by rfl) ?_ ?_
  · (intro w1 hC; obtain ⟨c1, c2, c3, c4, c5, c6, c7⟩ := hC; go_simp; first | done | (simp; done) | (simp [*]; done) | (simp; omega) | rfl)
  simp only [Act.put, List.setIfInBounds_toArray, List.set_cons_zero, List.set_cons_succ]
  refine wpQuiet_nil ?_
  intro w1 hC
  obtain ⟨x0, x1, o0, o1, o2, o3, kB⟩ := hC
  clear KR KK
  go_wp2
  exact bodyPost_ret (v := .tuple #[.agg #[.int .u64 0, .int .u64 0], .bool false]) (by simp [results, Tryz.results50, go_sem, *]) rfl ⟨rfl, bset2 kB (by omega) _ _⟩

set_option maxHeartbeats 4000000 in
theorem rprev_no (F r : Int) (x : BitVec 128) (w : World) (hr : ¬ r = 0 ∨ r = 0 ∧ x = 0#128)
    (KR : ∀ w, Calls Tryz.prog 74 #[.int .i64 F, .agg #[.int .u64 (hI x), .int .u64 (lI x)]] w fun e w' => e = .returned (.int .i64 r) ∧ Below w.heap.size w w') :
    Calls Tryz.prog 57 #[.int .i64 F, .agg #[.int .u64 (hI x), .int .u64 (lI x)]] w fun e w' => e = .returned (.tuple #[.agg #[.int .u64 0, .int .u64 0], .bool false]) ∧ Below w.heap.size w w' := by
  rcases hr with hr | ⟨rfl, rfl⟩
  · have hrb : (r != 0) = true := by simp [hr]
    go_enter Tryz.func57, Tryz.ntmps57
    go_wp2_with fail
    refine (KR _).mono ?_
    rintro e w1 ⟨rfl, hb1⟩
    clear KR
    have hX := ((at_new w w.heap.size x 27 rfl).below (bl1 _ (.cells #[.int .u64 0, .int .u64 0] 27))).below hb1
    have hZ := (at_new (w.alloc (.cells #[.int .u64 (hI x), .int .u64 (lI x)] 27)) (w.heap.size + 1) 0#128 27 (by simp)).below hb1
    have kB := keepb hb1 (bl2 w _ _)
    clear hb1
    obtain ⟨x0, x1, x2, x3, x4⟩ := hX
    obtain ⟨z0, z1, z2, z3, z4⟩ := hZ
    go_wp2
    exact bodyPost_ret (v := .tuple #[.agg #[.int .u64 0, .int .u64 0], .bool false]) (by simp [results, Tryz.results57, go_sem, *]) rfl ⟨rfl, bset2 kB (by omega) _ _⟩
  · rw [hI_zero, lI_zero] at KR
    rw [hI_zero, lI_zero]
    go_enter Tryz.func57, Tryz.ntmps57
    go_wp2_with fail
    refine (KR _).mono ?_
    rintro e w1 ⟨rfl, hb1⟩
    clear KR
    have x0 : w1.cell? ⟨w.heap.size, 0, none⟩ = some (.int .u64 0) := keepc hb1 (by simp [go_sem])
    have x1 : w1.cell? ⟨w.heap.size, 1, none⟩ = some (.int .u64 0) := keepc hb1 (by simp [go_sem])
    have z0 : w1.cell? ⟨w.heap.size + 1, 0, none⟩ = some (.int .u64 0) := keepc hb1 (by simp [go_sem])
    have z1 : w1.cell? ⟨w.heap.size + 1, 1, none⟩ = some (.int .u64 0) := keepc hb1 (by simp [go_sem])
    have z2 : w1.frozen? ⟨w.heap.size + 1, 0, none⟩ = false := keepf hb1 (v := .int .u64 0) (by simp [go_sem]) (by simp [go_sem])
    have z3 : w1.frozen? ⟨w.heap.size + 1, 1, none⟩ = false := keepf hb1 (v := .int .u64 0) (by simp [go_sem]) (by simp [go_sem])
    have kB := keepb hb1 (bl2 w _ _)
    clear hb1
    go_wp2
    exact bodyPost_ret (v := .tuple #[.agg #[.int .u64 0, .int .u64 0], .bool false]) (by simp [results, Tryz.results57, go_sem, *]) rfl ⟨rfl, bset2 kB (by omega) _ _⟩

set_option maxHeartbeats 4000000 in
theorem rprev_yes (F : Int) (x y z : BitVec 128) (ov : Bool) (w : World) (q : (hI x == 0) = false ∨ (hI x == 0) = true ∧ (lI x == 0) = false)
    (KR : ∀ w, Calls Tryz.prog 74 #[.int .i64 F, .agg #[.int .u64 (hI x), .int .u64 (lI x)]] w fun e w' => e = .returned (.int .i64 0) ∧ Below w.heap.size w w')
    (KS : ∀ w, Calls Tryz.prog 76 #[.int .i64 F] w fun e w' => e = .returned (.agg #[.int .u64 (hI y), .int .u64 (lI y)]) ∧ Below w.heap.size w w')
    (KM : ∀ w, Calls Tryz.prog 81 #[.agg #[.int .u64 (hI x), .int .u64 (lI x)], .agg #[.int .u64 (hI y), .int .u64 (lI y)]] w fun e w' => e = .returned (.tuple #[.agg #[.int .u64 (hI z), .int .u64 (lI z)], .bool ov]) ∧ Below w.heap.size w w') :
    Calls Tryz.prog 57 #[.int .i64 F, .agg #[.int .u64 (hI x), .int .u64 (lI x)]] w fun e w' => e = .returned (.tuple #[.agg #[.int .u64 (hI z), .int .u64 (lI z)], .bool true]) ∧ Below w.heap.size w w' := by
  rcases q with q1 | ⟨q1, q2⟩
  all_goals
    go_enter Tryz.func57, Tryz.ntmps57
    go_wp2_with fail
    refine (KR _).mono ?_
    rintro e w1 ⟨rfl, hb1⟩
    clear KR
    have hX := ((at_new w w.heap.size x 27 rfl).below (bl1 _ (.cells #[.int .u64 0, .int .u64 0] 27))).below hb1
    have hZ := (at_new (w.alloc (.cells #[.int .u64 (hI x), .int .u64 (lI x)] 27)) (w.heap.size + 1) 0#128 27 (by simp)).below hb1
    have kB := keepb hb1 (bl2 w _ _)
    clear hb1
    obtain ⟨x0, x1, x2, x3, x4⟩ := hX
    have z4 := hZ.2.2.2.2
    have n1 : ¬ w1.heap.size = w.heap.size := by omega
    go_wp2_with fail
    rename_i Q' K hK
    have tail : ∀ (N : Nat) (W : World), At W N z → At W (w.heap.size + 1) 0#128 → Below w.heap.size w W → ¬ N = w.heap.size + 1 → (Exit.then K Q') .normal { tmps := #[.int .i64 F, .agg #[.int .u64 (hI x), .int .u64 (lI x)], undef, .pointer (some ⟨w.heap.size, 0, none⟩), .pointer (some ⟨w.heap.size + 1, 0, none⟩), .bool false, .pointer (some ⟨N, 0, none⟩), .bool ov, .int .i64 F, .agg #[.int .u64 (hI x), .int .u64 (lI x)], .int .i64 0, .bool false, .bool false, .agg #[.int .u64 (hI x), .int .u64 (lI x)], .agg #[.int .u64 0, .int .u64 0], .bool false, .bool false, undef, .tuple #[.agg #[.int .u64 (hI z), .int .u64 (lI z)], .bool ov], .agg #[.int .u64 (hI x), .int .u64 (lI x)], .int .i64 F, .agg #[.int .u64 (hI y), .int .u64 (lI y)], .tuple #[.agg #[.int .u64 (hI z), .int .u64 (lI z)], .bool ov], .agg #[.int .u64 (hI z), .int .u64 (lI z)], .bool ov, undef], defers := [] } W := by
      intro N W hN hZ' hB' hn
      obtain ⟨a0, a1, a2, a3, a4⟩ := hN
      obtain ⟨b0, b1, b2, b3, b4⟩ := hZ'
      clear x0 x1 x4 hZ KS KM
      go_wp2
      exact bodyPost_ret (v := .tuple #[.agg #[.int .u64 (hI z), .int .u64 (lI z)], .bool true]) (by simp [results, Tryz.results57, go_sem, *]) rfl ⟨rfl, bset2 hB' (by omega) _ _⟩
    go_region_with (first | (go_at_call 76; refine (KS _).mono ?_; rintro e w2 ⟨rfl, hb2⟩; have p0 : w2.cell? ⟨w.heap.size, 0, none⟩ = some (.int .u64 (hI x)) := keepc hb2 (by simp [go_sem, *]); have p1 : w2.cell? ⟨w.heap.size, 1, none⟩ = some (.int .u64 (lI x)) := keepc hb2 (by simp [go_sem, *]); have n3 : ¬ w2.heap.size = w.heap.size := (fun e => by have := cell_in p0; omega); have l3 := cell_in p0; (try (refine (fun (c0 : w2.cell? ⟨w1.heap.size, 0, none⟩ = some (.int .u64 0)) => ?_) (keepc hb2 ?_); rotate_left; (focus (simp [go_sem]; done)))); (try (refine (fun (c1 : w2.cell? ⟨w1.heap.size, 1, none⟩ = some (.int .u64 0)) => ?_) (keepc hb2 ?_); rotate_left; (focus (simp [go_sem]; done)))); (try (refine (fun (g0 : w2.frozen? ⟨w1.heap.size, 0, none⟩ = false) => ?_) (keepf hb2 (v := .int .u64 0) ?_ ?_); rotate_left; (focus (simp [go_sem]; done)); (focus (simp [go_sem]; done)))); (try (refine (fun (g1 : w2.frozen? ⟨w1.heap.size, 1, none⟩ = false) => ?_) (keepf hb2 (v := .int .u64 0) ?_ ?_); rotate_left; (focus (simp [go_sem]; done)); (focus (simp [go_sem]; done)))); have hZ2 : At w2 (w.heap.size + 1) 0#128 := At.below (by first | exact hZ.drew | exact (hZ.below (bl1 _ _)).drew | exact hZ | exact hZ.below (bl1 _ _)) hb2; have kB2 : Below w.heap.size w w2 := keepb hb2 (by first | exact kB.drew | exact (kB.alloc (by omega) _).drew | exact kB | exact kB.alloc (by omega) _)) | (go_at_call 81; refine (KM _).mono ?_; rintro e w3 ⟨rfl, hb3⟩; (try (have d0 := keepc hb3 c0; have d1 := keepc hb3 c1; have e0 := keepf hb3 c0 g0; have e1 := keepf hb3 c1 g1)); (try (refine (fun (d2 : w3.cell? ⟨w2.heap.size, 0, none⟩ = some (.int .u64 0)) => ?_) (keepc hb3 ?_); rotate_left; (focus (simp [go_sem]; done)))); (try (refine (fun (d3 : w3.cell? ⟨w2.heap.size, 1, none⟩ = some (.int .u64 0)) => ?_) (keepc hb3 ?_); rotate_left; (focus (simp [go_sem]; done)))); (try (refine (fun (e2 : w3.frozen? ⟨w2.heap.size, 0, none⟩ = false) => ?_) (keepf hb3 (v := .int .u64 0) ?_ ?_); rotate_left; (focus (simp [go_sem]; done)); (focus (simp [go_sem]; done)))); (try (refine (fun (e3 : w3.frozen? ⟨w2.heap.size, 1, none⟩ = false) => ?_) (keepf hb3 (v := .int .u64 0) ?_ ?_); rotate_left; (focus (simp [go_sem]; done)); (focus (simp [go_sem]; done)))); have hZ3 : At w3 (w.heap.size + 1) 0#128 := At.below (by first | exact hZ2 | exact hZ2.below (bl1 _ _)) hb3; have kB3 : Below w.heap.size w w3 := keepb hb3 (by first | exact kB2 | exact kB2.alloc kB2.size _)))
    all_goals
      have z5 := hZ3.2.2.2.2
      have z6 := hZ2.2.2.2.2
    all_goals first
      | exact tail w3.heap.size _ (at_new w3 w3.heap.size z _ rfl) (hZ3.below (bl1 _ _)) (kB3.alloc kB3.size _) (Nat.ne_of_gt z5)
      | exact tail w2.heap.size _ (at_zero d2 d3 e2 e3 z) (hZ3.other _ _ (Nat.ne_of_lt z6)) (bset2 kB3 kB2.size _ _) (Nat.ne_of_gt z6)
      | exact tail w1.heap.size _ (at_zero d0 d1 e0 e1 z) (hZ3.other _ _ (Nat.ne_of_lt z4)) (bset2 kB3 kB.size _ _) (Nat.ne_of_gt z4)
end Go.Proofs.YtonagfmkplbooaaGreatDoor
/-
  What the calls of turnpikeref2's Next and Prev do, of any word.
-/
namespace Go.Proofs.YtonagfmkplbooaaGreatDoor
open Go.RowKit
set_option linter.unusedSimpArgs false
set_option linter.unusedVariables false

theorem rnext_any (F : Int) (x : BitVec 128) (w : World) :
    Calls Tryz.prog 50 #[.int .i64 F, .agg #[.int .u64 (hI x), .int .u64 (lI x)]] w fun e w' => e = .returned (.tuple #[.agg #[.int .u64 (hI (nextV F x)), .int .u64 (lI (nextV F x))], .bool (nextB F x)]) ∧ Below w.heap.size w w' := by
  have KR := fun w => rright_any F x w
  by_cases hr : rightE F x = 0
  · obtain ⟨hf, hm⟩ := right0 F x hr
    rw [hr] at KR
    have ho := over_step F x hf hm
    have KK := fun w => rmask_any F w
    by_cases e : x = maskW F
    · have e1 : nextB F x = false := by unfold nextB; rw [ho]; simp [e]
      have e2 : nextV F x = 0#128 := by unfold nextV; rw [e1]; rfl
      rw [e1, e2, hI_zero, lI_zero]
      rw [← e] at KK
      exact rnext_last F x w KR KK
    · have e1 : nextB F x = true := by unfold nextB; rw [ho]; simp [e, hr]
      have e2 : nextV F x = x + stepW F := by unfold nextV; rw [e1]; rfl
      rw [e1, e2]
      refine rnext_yes F x (maskW F) (stepW F) (x + stepW F) (overB x (stepW F)) w ?_ KR KK (fun w => rone_any F w hf) (fun w => radd_any x (stepW F) w)
      rcases three x (maskW F) with ⟨a, b, c⟩ | ⟨a, c⟩ | ⟨a, b, c⟩
      · exact absurd c e
      · exact Or.inl a
      · exact Or.inr ⟨a, b⟩
  · have e1 : nextB F x = false := by unfold nextB; simp [hr]
    have e2 : nextV F x = 0#128 := by unfold nextV; rw [e1]; rfl
    rw [e1, e2, hI_zero, lI_zero]
    exact rnext_no F (rightE F x) x w hr KR
theorem rprev_any (F : Int) (x : BitVec 128) (w : World) :
    Calls Tryz.prog 57 #[.int .i64 F, .agg #[.int .u64 (hI x), .int .u64 (lI x)]] w fun e w' => e = .returned (.tuple #[.agg #[.int .u64 (hI (prevV F x)), .int .u64 (lI (prevV F x))], .bool (prevB F x)]) ∧ Below w.heap.size w w' := by
  have KR := fun w => rright_any F x w
  by_cases hr : rightE F x = 0
  · obtain ⟨hf, hm⟩ := right0 F x hr
    have ho := under_step F x hf hm
    by_cases e : x = 0#128
    · have e1 : prevB F x = false := by unfold prevB; rw [ho]; simp [e]
      have e2 : prevV F x = 0#128 := by unfold prevV; rw [e1]; rfl
      rw [e1, e2, hI_zero, lI_zero]
      exact rprev_no F (rightE F x) x w (Or.inr ⟨hr, e⟩) KR
    · have e1 : prevB F x = true := by unfold prevB; rw [ho]; simp [e, hr]
      have e2 : prevV F x = x - stepW F := by unfold prevV; rw [e1]; rfl
      rw [e1, e2]
      rw [hr] at KR
      refine rprev_yes F x (stepW F) (x - stepW F) (underB x (stepW F)) w ?_ KR (fun w => rone_any F w hf) (fun w => rsub_any x (stepW F) w)
      rcases three0 x with ⟨a, b, c⟩ | ⟨a, c⟩ | ⟨a, b, c⟩
      · exact absurd c e
      · exact Or.inl a
      · exact Or.inr ⟨a, b⟩
  · have e1 : prevB F x = false := by unfold prevB; simp [hr]
    have e2 : prevV F x = 0#128 := by unfold prevV; rw [e1]; rfl
    rw [e1, e2, hI_zero, lI_zero]
    exact rprev_no F (rightE F x) x w (Or.inl hr) KR
end Go.Proofs.YtonagfmkplbooaaGreatDoor
