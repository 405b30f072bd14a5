/-
  What the calls of turnpikeref2's Next and Prev do.
-/
import Derived.Test.YtldjeabdoooihaaRefA
namespace Go.Proofs.Ytldjeabdoooihaa
open Go.RowKit
set_option linter.unusedSimpArgs false
set_option linter.unusedVariables false

set_option maxHeartbeats 4000000 in
theorem rnext_yes (F : Int) (x m y z : BitVec 128) (ov : Bool) (w : World) (q : (hI x == hI m) = false ∨ (hI x == hI m) = true ∧ (lI x == lI m) = false)
    (KR : ∀ w, Calls Try.prog 33 #[.int .i64 F, .agg #[.int .u64 (hI x), .int .u64 (lI x)]] w fun e w' => e = .returned (.int .i64 0) ∧ Below w.heap.size w w')
    (KK : ∀ w, Calls Try.prog 34 #[.int .i64 F] w fun e w' => e = .returned (.agg #[.int .u64 (hI m), .int .u64 (lI m)]) ∧ Below w.heap.size w w')
    (KS : ∀ w, Calls Try.prog 36 #[.int .i64 F] w fun e w' => e = .returned (.agg #[.int .u64 (hI y), .int .u64 (lI y)]) ∧ Below w.heap.size w w')
    (KM : ∀ w, Calls Try.prog 35 #[.agg #[.int .u64 (hI x), .int .u64 (lI x)], .agg #[.int .u64 (hI y), .int .u64 (lI y)]] w fun e w' => e = .returned (.tuple #[.agg #[.int .u64 (hI z), .int .u64 (lI z)], .bool ov]) ∧ Below w.heap.size w w') :
    Calls Try.prog 13 #[.int .i64 F, .agg #[.int .u64 (hI x), .int .u64 (lI x)]] w fun e w' => e = .returned (.tuple #[.agg #[.int .u64 (hI z), .int .u64 (lI z)], .bool true]) ∧ Below w.heap.size w w' := by
  have kB := (bl2 w (.cells #[.int .u64 (hI x), .int .u64 (lI x)] 24) (.cells #[.int .u64 0, .int .u64 0] 24)).drew
  rcases q with q1 | ⟨q1, q2⟩
  all_goals
    go_enter Try.func13, Try.ntmps13
    go_wp2_with fail
    refine q_region (C := (fun w' => w'.cell? ⟨w.heap.size, 0, none⟩ = some (.int .u64 (hI x)) ∧ w'.cell? ⟨w.heap.size, 1, none⟩ = some (.int .u64 (lI x)) ∧ w'.cell? ⟨w.heap.size + 1, 0, none⟩ = some (.int .u64 0) ∧ w'.cell? ⟨w.heap.size + 1, 1, none⟩ = some (.int .u64 0) ∧ w'.frozen? ⟨w.heap.size + 1, 0, none⟩ = false ∧ w'.frozen? ⟨w.heap.size + 1, 1, none⟩ = false ∧ Below w.heap.size w w')) (by kernel_rfl) (by kernel_rfl) ⟨by simp [go_sem], by simp [go_sem], by simp [go_sem], by simp [go_sem], by simp [go_sem], by simp [go_sem], kB⟩ ?_
    clear kB
    refine q_run (v := .int .i64 F) (by rfl) ?_ ?_
    · (intro w1 hC; obtain ⟨c1, c2, c3, c4, c5, c6, c7⟩ := hC; go_simp; first | done | (simp; done) | (simp [*]; done) | (simp; omega) | rfl)
    simp only [Act.put, List.setIfInBounds_toArray, List.set_cons_zero, List.set_cons_succ]
    refine q_run (v := .agg #[.int .u64 (hI x), .int .u64 (lI x)]) (by rfl) ?_ ?_
    · (intro w1 hC; obtain ⟨c1, c2, c3, c4, c5, c6, c7⟩ := hC; go_simp; first | done | (simp; done) | (simp [*]; done) | (simp; omega) | rfl)
    simp only [Act.put, List.setIfInBounds_toArray, List.set_cons_zero, List.set_cons_succ]
    refine q_call (v := .int .i64 0) (f := 33) (args := #[.int .i64 F, .agg #[.int .u64 (hI x), .int .u64 (lI x)]]) (by rfl) ?_ ?_ ?_
    · (intro w1 hC; obtain ⟨c1, c2, c3, c4, c5, c6, c7⟩ := hC; go_simp)
    · exact fun w1 hC => (KR w1).mono fun e w' ⟨he, hb⟩ => ⟨he, keepc hb hC.1, keepc hb hC.2.1, keepc hb hC.2.2.1, keepc hb hC.2.2.2.1, keepf hb hC.2.2.1 hC.2.2.2.2.1, keepf hb hC.2.2.2.1 hC.2.2.2.2.2.1, keepb hb hC.2.2.2.2.2.2⟩
    simp only [Act.put, List.setIfInBounds_toArray, List.set_cons_zero, List.set_cons_succ]
    refine q_run (v := .bool false) (by rfl) ?_ ?_
    · (intro w1 hC; obtain ⟨c1, c2, c3, c4, c5, c6, c7⟩ := hC; go_simp; first | done | (simp; done) | (simp [*]; done) | (simp; omega) | rfl)
    simp only [Act.put, List.setIfInBounds_toArray, List.set_cons_zero, List.set_cons_succ]
    refine q_run (v := .bool false) (by rfl) ?_ ?_
    · (intro w1 hC; obtain ⟨c1, c2, c3, c4, c5, c6, c7⟩ := hC; go_simp; first | done | (simp; done) | (simp [*]; done) | (simp; omega) | rfl)
    simp only [Act.put, List.setIfInBounds_toArray, List.set_cons_zero, List.set_cons_succ]
    refine q_run (v := .agg #[.int .u64 (hI x), .int .u64 (lI x)]) (by rfl) ?_ ?_
    · (intro w1 hC; obtain ⟨c1, c2, c3, c4, c5, c6, c7⟩ := hC; go_simp; first | done | (simp; done) | (simp [*]; done) | (simp; omega) | rfl)
    simp only [Act.put, List.setIfInBounds_toArray, List.set_cons_zero, List.set_cons_succ]
    refine q_run (v := .int .i64 F) (by rfl) ?_ ?_
    · (intro w1 hC; obtain ⟨c1, c2, c3, c4, c5, c6, c7⟩ := hC; go_simp; first | done | (simp; done) | (simp [*]; done) | (simp; omega) | rfl)
    simp only [Act.put, List.setIfInBounds_toArray, List.set_cons_zero, List.set_cons_succ]
    refine q_call (v := .agg #[.int .u64 (hI m), .int .u64 (lI m)]) (f := 34) (args := #[.int .i64 F]) (by rfl) ?_ ?_ ?_
    · (intro w1 hC; obtain ⟨c1, c2, c3, c4, c5, c6, c7⟩ := hC; go_simp)
    · exact fun w1 hC => (KK w1).mono fun e w' ⟨he, hb⟩ => ⟨he, keepc hb hC.1, keepc hb hC.2.1, keepc hb hC.2.2.1, keepc hb hC.2.2.2.1, keepf hb hC.2.2.1 hC.2.2.2.2.1, keepf hb hC.2.2.2.1 hC.2.2.2.2.2.1, keepb hb hC.2.2.2.2.2.2⟩
    simp only [Act.put, List.setIfInBounds_toArray, List.set_cons_zero, List.set_cons_succ]
    refine q_run (v := .bool false) (by rfl) ?_ ?_
    · (intro w1 hC; obtain ⟨c1, c2, c3, c4, c5, c6, c7⟩ := hC; go_simp; first | done | (simp; done) | (simp [*]; done) | (simp; omega) | rfl)
    simp only [Act.put, List.setIfInBounds_toArray, List.set_cons_zero, List.set_cons_succ]
    refine q_run (v := .bool false) (by rfl) ?_ ?_
    · (intro w1 hC; obtain ⟨c1, c2, c3, c4, c5, c6, c7⟩ := hC; go_simp; first | done | (simp; done) | (simp [*]; done) | (simp; omega) | rfl)
    simp only [Act.put, List.setIfInBounds_toArray, List.set_cons_zero, List.set_cons_succ]
    refine wpQuiet_nil ?_
    intro w1 hC
    obtain ⟨x0, x1, o0, o1, o2, o3, kB⟩ := hC
    have hZ : At w1 (w.heap.size + 1) 0#128 := ⟨by rw [hI_zero]; exact o0, by rw [lI_zero]; exact o1, o2, o3, cell_in o0⟩
    have z4 := cell_in o0
    have x4 := cell_in x0
    have n1 : ¬ w1.heap.size = w.heap.size := by omega
    clear o0 o1 o2 o3
    go_wp2_with fail
    rename_i Q' K hK
    have tail : ∀ (N : Nat) (W : World), At W N z → At W (w.heap.size + 1) 0#128 → Below w.heap.size w W → ¬ N = w.heap.size + 1 → (Exit.then K Q') .normal { tmps := #[.int .i64 F, .agg #[.int .u64 (hI x), .int .u64 (lI x)], undef, .pointer (some ⟨w.heap.size, 0, none⟩), .pointer (some ⟨w.heap.size + 1, 0, none⟩), .bool false, .pointer (some ⟨N, 0, none⟩), .bool ov, .int .i64 F, .agg #[.int .u64 (hI x), .int .u64 (lI x)], .int .i64 0, .bool false, .bool false, .agg #[.int .u64 (hI x), .int .u64 (lI x)], .int .i64 F, .agg #[.int .u64 (hI m), .int .u64 (lI m)], .bool false, .bool false, undef, .tuple #[.agg #[.int .u64 (hI z), .int .u64 (lI z)], .bool ov], .agg #[.int .u64 (hI x), .int .u64 (lI x)], .int .i64 F, .agg #[.int .u64 (hI y), .int .u64 (lI y)], .tuple #[.agg #[.int .u64 (hI z), .int .u64 (lI z)], .bool ov], .agg #[.int .u64 (hI z), .int .u64 (lI z)], .bool ov, undef], defers := [] } W := by
      intro N W hN hZ' hB' hn
      obtain ⟨a0, a1, a2, a3, a4⟩ := hN
      obtain ⟨b0, b1, b2, b3, b4⟩ := hZ'
      clear x0 x1 x4 hZ KR KK KS KM
      go_wp2
      exact bodyPost_ret (v := .tuple #[.agg #[.int .u64 (hI z), .int .u64 (lI z)], .bool true]) (by simp [results, Try.results13, go_sem, *]) rfl ⟨rfl, bset2 hB' (by omega) _ _⟩
    go_region_with (first | (go_at_call 36; refine (KS _).mono ?_; rintro e w2 ⟨rfl, hb2⟩; have p0 : w2.cell? ⟨w.heap.size, 0, none⟩ = some (.int .u64 (hI x)) := keepc hb2 (by simp [go_sem, *]); have p1 : w2.cell? ⟨w.heap.size, 1, none⟩ = some (.int .u64 (lI x)) := keepc hb2 (by simp [go_sem, *]); have n3 : ¬ w2.heap.size = w.heap.size := (fun e => by have := cell_in p0; omega); have l3 := cell_in p0; (try (refine (fun (c0 : w2.cell? ⟨w1.heap.size, 0, none⟩ = some (.int .u64 0)) => ?_) (keepc hb2 ?_); rotate_left; (focus (simp [go_sem]; done)))); (try (refine (fun (c1 : w2.cell? ⟨w1.heap.size, 1, none⟩ = some (.int .u64 0)) => ?_) (keepc hb2 ?_); rotate_left; (focus (simp [go_sem]; done)))); (try (refine (fun (g0 : w2.frozen? ⟨w1.heap.size, 0, none⟩ = false) => ?_) (keepf hb2 (v := .int .u64 0) ?_ ?_); rotate_left; (focus (simp [go_sem]; done)); (focus (simp [go_sem]; done)))); (try (refine (fun (g1 : w2.frozen? ⟨w1.heap.size, 1, none⟩ = false) => ?_) (keepf hb2 (v := .int .u64 0) ?_ ?_); rotate_left; (focus (simp [go_sem]; done)); (focus (simp [go_sem]; done)))); have hZ2 : At w2 (w.heap.size + 1) 0#128 := At.below (by first | exact hZ.drew | exact (hZ.below (bl1 _ _)).drew | exact hZ | exact hZ.below (bl1 _ _)) hb2; have kB2 : Below w.heap.size w w2 := keepb hb2 (by first | exact kB.drew | exact (kB.alloc (by omega) _).drew | exact kB | exact kB.alloc (by omega) _)) | (go_at_call 35; refine (KM _).mono ?_; rintro e w3 ⟨rfl, hb3⟩; (try (have d0 := keepc hb3 c0; have d1 := keepc hb3 c1; have e0 := keepf hb3 c0 g0; have e1 := keepf hb3 c1 g1)); (try (refine (fun (d2 : w3.cell? ⟨w2.heap.size, 0, none⟩ = some (.int .u64 0)) => ?_) (keepc hb3 ?_); rotate_left; (focus (simp [go_sem]; done)))); (try (refine (fun (d3 : w3.cell? ⟨w2.heap.size, 1, none⟩ = some (.int .u64 0)) => ?_) (keepc hb3 ?_); rotate_left; (focus (simp [go_sem]; done)))); (try (refine (fun (e2 : w3.frozen? ⟨w2.heap.size, 0, none⟩ = false) => ?_) (keepf hb3 (v := .int .u64 0) ?_ ?_); rotate_left; (focus (simp [go_sem]; done)); (focus (simp [go_sem]; done)))); (try (refine (fun (e3 : w3.frozen? ⟨w2.heap.size, 1, none⟩ = false) => ?_) (keepf hb3 (v := .int .u64 0) ?_ ?_); rotate_left; (focus (simp [go_sem]; done)); (focus (simp [go_sem]; done)))); have hZ3 : At w3 (w.heap.size + 1) 0#128 := At.below (by first | exact hZ2 | exact hZ2.below (bl1 _ _)) hb3; have kB3 : Below w.heap.size w w3 := keepb hb3 (by first | exact kB2 | exact kB2.alloc kB2.size _)))
    all_goals
      have z5 := hZ3.2.2.2.2
      have z6 := hZ2.2.2.2.2
    all_goals first
      | exact tail w3.heap.size _ (at_new w3 w3.heap.size z _ rfl) (hZ3.below (bl1 _ _)) (kB3.alloc kB3.size _) (Nat.ne_of_gt z5)
      | exact tail w2.heap.size _ (at_zero d2 d3 e2 e3 z) (hZ3.other _ _ (Nat.ne_of_lt z6)) (bset2 kB3 kB2.size _ _) (Nat.ne_of_gt z6)
      | exact tail w1.heap.size _ (at_zero d0 d1 e0 e1 z) (hZ3.other _ _ (Nat.ne_of_lt z4)) (bset2 kB3 kB.size _ _) (Nat.ne_of_gt z4)
end Go.Proofs.Ytldjeabdoooihaa
