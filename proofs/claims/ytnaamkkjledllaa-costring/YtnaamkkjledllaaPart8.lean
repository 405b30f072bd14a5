/-
  Part 8 of the proof: 1 texts, one behind the other.
-/
import Derived.Test.YtnaamkkjledllaaPart7
/-
  The law CostRing: sums know no order.
-/
namespace Go.Proofs.Ytnaamkkjledllaa
open Go.RowKit
set_option linter.unusedSimpArgs false
set_option linter.unusedVariables false


theorem Kcs.three (w : World) (x0 x1 x2 y0 y1 y2 z0 z1 z2 : Int) : Kcs w (((w.alloc (.cells #[.int .u64 x0, .int .u64 x1, .int .u64 x2] 24)).alloc (.cells #[.int .u64 y0, .int .u64 y1, .int .u64 y2] 24)).alloc (.cells #[.int .u64 z0, .int .u64 z1, .int .u64 z2] 24)) [(w.heap.size + 1 + 1, z0, z1, z2), (w.heap.size + 1, y0, y1, y2), (w.heap.size, x0, x1, x2)] := by
  have h := Kcs.new (a := z0) (b := z1) (c := z2) (Kcs.new (a := y0) (b := y1) (c := y2) (Kcs.one w x0 x1 x2) (Below.refl _ _)) (Below.refl _ _)
  simpa using h
theorem cmpN_neg (N M : Nat) : cmpN N M = -cmpN M N := by
  unfold cmpN
  by_cases h : N = M
  · subst h; simp
  · have h' : ¬ M = N := fun e => h e.symm
    rw [if_neg h, if_neg h']
    by_cases g : N < M
    · rw [if_pos g, if_neg (by omega)]
    · rw [if_neg g, if_pos (by omega)]; rfl
theorem cmpN_bd (N M : Nat) : -1 ≤ cmpN N M ∧ cmpN N M ≤ 1 := by
  unfold cmpN; split
  · omega
  · split <;> omega
theorem cmpN_le (N M : Nat) : cmpN N M ≤ 0 ↔ N ≤ M := by
  unfold cmpN; split
  · omega
  · split <;> omega
theorem cmpN_zero (N M : Nat) : cmpN N M = 0 ↔ N = M := by
  unfold cmpN; split
  · simp [*]
  · split <;> simp [*]
set_option maxRecDepth 20000 in
set_option maxHeartbeats 16000000 in
theorem costRing_any (N M K : Nat) (w : World) (hN : N < 6277101735386680763835789423207666416102355444464034512896) (hM : M < 6277101735386680763835789423207666416102355444464034512896) (hK : K < 6277101735386680763835789423207666416102355444464034512896) :
    Calls Try.prog 6 #[costV N, costV M, costV K] w fun e w' => e = .returned (.bool true) ∧ Below w.heap.size w w' := by
  have KK := known9_any
  have KAB := fun w => cmp9_any N M w
  have KBA := fun w => cmp9_any M N w
  have KBC := fun w => cmp9_any M K w
  have KAC := fun w => cmp9_any N K w
  have n1 : IntKind.i64.wrap (0 - cmpN M N) = cmpN N M := by have := cmpN_neg N M; have := cmpN_bd N M; rw [IntKind.wrap_i64]; omega
  have n2 : IntKind.i64.wrap (-cmpN M N) = cmpN N M := by have := cmpN_neg N M; have := cmpN_bd N M; rw [IntKind.wrap_i64]; omega
  obtain ⟨z1, hz1⟩ : ∃ b : Bool, (cmpN N M == 0) = b := ⟨_, rfl⟩
  have hq1 := eqC_any (cost0 N) (cost1 N) (cost2 N) (cost0 M) (cost1 M) (cost2 M)
  rw [eq9_cost, show decide (N = M) = z1 by rw [← hz1, Bool.eq_iff_iff]; simp [cmpN_zero]] at hq1
  have l1 := cmpN_le N M
  have l2 := cmpN_le M K
  have l3 := cmpN_le N K
  by_cases c1 : N + M < 6277101735386680763835789423207666416102355444464034512896
  · have KS := fun w => add_in N M w c1
    have KS2 := fun w => add_in M N w (by omega)
    rw [Nat.add_comm M N] at KS2
    have KSA := fun w => cmp9_any (N + M) N w
    have l4 := cmpN_le N (N + M)
    have l5 := cmpN_neg (N + M) N
    have d5 : decide (cmpN (N + M) N < 0) = false := decide_eq_false (by have := l4.mpr (by omega); omega)
    obtain ⟨z2, hz2⟩ : ∃ b : Bool, (cmpN (N + M) N == 0) = b := ⟨_, rfl⟩
    have hq2 := eqC_any (cost0 M) (cost1 M) (cost2 M) (cost0 0) (cost1 0) (cost2 0)
    rw [eq9_cost, cost_zero.1, cost_zero.2.1, cost_zero.2.2, show decide (M = 0) = z2 by rw [← hz2, Bool.eq_iff_iff]; simp [cmpN_zero]] at hq2
    clear l4 l5
    generalize cmpN (N + M) N = csa at *
    by_cases c2 : M + K < 6277101735386680763835789423207666416102355444464034512896
    · by_cases c3 : N + M + K < 6277101735386680763835789423207666416102355444464034512896
      · have KU := fun w => add_in (N + M) K w c3
        have KT := fun w => add_in M K w c2
        have KV := fun w => add_in N (M + K) w (by omega)
        rw [← Nat.add_assoc] at KV
        clear c1 c2 c3
        unfold costV at *
        generalize cost0 (N + M + K) = u0 at *
        generalize cost1 (N + M + K) = u1 at *
        generalize cost2 (N + M + K) = u2 at *
        generalize cost0 (N + M) = s0 at *
        generalize cost1 (N + M) = s1 at *
        generalize cost2 (N + M) = s2 at *
        generalize cost0 (M + K) = t0 at *
        generalize cost1 (M + K) = t1 at *
        generalize cost2 (M + K) = t2 at *
        generalize cost0 N = x0 at *
        generalize cost1 N = x1 at *
        generalize cost2 N = x2 at *
        generalize cost0 M = y0 at *
        generalize cost1 M = y1 at *
        generalize cost2 M = y2 at *
        generalize cost0 K = z0' at *
        generalize cost1 K = z1' at *
        generalize cost2 K = z2' at *
        have q3 := eqC_same 0 0 0
        have q4 := eqC_same s0 s1 s2
        have q5 := eqC_same u0 u1 u2
        by_cases o1 : N ≤ M
        · by_cases o2 : M ≤ K
          · have d1 : decide (cmpN N M ≤ 0) = true := decide_eq_true (l1.mpr o1)
            have d2 : decide (cmpN M K ≤ 0) = true := decide_eq_true (l2.mpr o2)
            have d3 : decide (0 < cmpN N K) = false := decide_eq_false (by have := l3.mpr (by omega); omega)
            clear l1 l2 l3 hN hM hK o1 o2
            generalize cmpN N M = cab at *
            generalize cmpN M N = cba at *
            generalize cmpN M K = cbc at *
            generalize cmpN N K = cac at *
            have H0 := hid9 (Kcs.three w x0 x1 x2 y0 y1 y2 z0' z1' z2')
            go_enter Try.func6, Try.ntmps6
            go_wp2_with fail
            revert H0
            generalize ((w.alloc (.cells #[.int .u64 x0, .int .u64 x1, .int .u64 x2] 24)).alloc (.cells #[.int .u64 y0, .int .u64 y1, .int .u64 y2] 24)).alloc (.cells #[.int .u64 z0', .int .u64 z1', .int .u64 z2'] 24) = W0
            intro H0
            refine (KK _).mono ?_
            rintro e v1 ⟨rfl, hb⟩
            have H1 := hid9 (Kcs.below H0.out hb)
            clear H0 hb
            obtain ⟨f00, f01, f02, -, -, -⟩ := (H1.out.1.2.2).1
            obtain ⟨f10, f11, f12, -, -, -⟩ := (H1.out.1.2).1
            go_wp2_with fail
            clear f00 f01 f02 f10 f11 f12
            refine (KS _).mono ?_
            rintro e v2 ⟨rfl, hb⟩
            have H2 := hid9 (Kcs.new (a := s0) (b := s1) (c := s2) H1.out hb)
            clear H1 hb
            obtain ⟨f00, f01, f02, -, -, -⟩ := (H2.out.1.2.2.2).1
            obtain ⟨f10, f11, f12, -, -, -⟩ := (H2.out.1.2.2).1
            go_wp2_with fail
            clear f00 f01 f02 f10 f11 f12
            revert H2
            generalize v2.alloc (.cells #[.int .u64 s0, .int .u64 s1, .int .u64 s2] 24) = W2
            generalize v2.heap.size = N2
            intro H2
            refine (KS2 _).mono ?_
            rintro e v3 ⟨rfl, hb⟩
            have H3 := hid9 (Kcs.new (a := s0) (b := s1) (c := s2) H2.out hb)
            clear H2 hb
            go_wp2_with fail
            revert H3
            generalize v3.alloc (.cells #[.int .u64 s0, .int .u64 s1, .int .u64 s2] 24) = W3
            generalize v3.heap.size = N3
            intro H3
            refine qw_region (C := fun W => Kcs w W [(N3, s0, s1, s2), (N2, s0, s1, s2), (w.heap.size + 1 + 1, z0', z1', z2'), (w.heap.size + 1, y0, y1, y2), (w.heap.size, x0, x1, x2)]) (by kernel_rfl) (by kernel_rfl) H3.out.drew ?_
            refine qw_run (v := .int .i64 (0)) (by rfl) ?_ ?_
            · (intro w1 hC; obtain ⟨⟨⟨g00, g01, g02, -, -, -⟩, ⟨g10, g11, g12, -, -, -⟩, ⟨g20, g21, g22, -, -, -⟩, ⟨g30, g31, g32, -, -, -⟩, ⟨g40, g41, g42, -, -, -⟩, -⟩, -⟩ := hC; go_simp; first | done | (simp; done) | (simp [*]; done) | omega | (simp; omega) | (rw [IntKind.wrap_i64]; omega) | (intro hx; omega) | rfl)
            simp only [Act.put, List.setIfInBounds_toArray, List.set_cons_zero, List.set_cons_succ]
            refine qw_run (v := .int .i64 (0)) (by rfl) ?_ ?_
            · (intro w1 hC; obtain ⟨⟨⟨g00, g01, g02, -, -, -⟩, ⟨g10, g11, g12, -, -, -⟩, ⟨g20, g21, g22, -, -, -⟩, ⟨g30, g31, g32, -, -, -⟩, ⟨g40, g41, g42, -, -, -⟩, -⟩, -⟩ := hC; go_simp; first | done | (simp; done) | (simp [*]; done) | omega | (simp; omega) | (rw [IntKind.wrap_i64]; omega) | (intro hx; omega) | rfl)
            simp only [Act.put, List.setIfInBounds_toArray, List.set_cons_zero, List.set_cons_succ]
            refine qw_run (v := .bool false) (by rfl) ?_ ?_
            · (intro w1 hC; obtain ⟨⟨⟨g00, g01, g02, -, -, -⟩, ⟨g10, g11, g12, -, -, -⟩, ⟨g20, g21, g22, -, -, -⟩, ⟨g30, g31, g32, -, -, -⟩, ⟨g40, g41, g42, -, -, -⟩, -⟩, -⟩ := hC; go_simp; first | done | (simp; done) | (simp [*]; done) | omega | (simp; omega) | (rw [IntKind.wrap_i64]; omega) | (intro hx; omega) | rfl)
            simp only [Act.put, List.setIfInBounds_toArray, List.set_cons_zero, List.set_cons_succ]
            refine qw_run (v := .bool false) (by rfl) ?_ ?_
            · (intro w1 hC; obtain ⟨⟨⟨g00, g01, g02, -, -, -⟩, ⟨g10, g11, g12, -, -, -⟩, ⟨g20, g21, g22, -, -, -⟩, ⟨g30, g31, g32, -, -, -⟩, ⟨g40, g41, g42, -, -, -⟩, -⟩, -⟩ := hC; go_simp; first | done | (simp; done) | (simp [*]; done) | omega | (simp; omega) | (rw [IntKind.wrap_i64]; omega) | (intro hx; omega) | rfl)
            simp only [Act.put, List.setIfInBounds_toArray, List.set_cons_zero, List.set_cons_succ]
            refine qw_run (v := .agg #[.int .u64 s0, .int .u64 s1, .int .u64 s2]) (by rfl) ?_ ?_
            · (intro w1 hC; obtain ⟨⟨⟨g00, g01, g02, -, -, -⟩, ⟨g10, g11, g12, -, -, -⟩, ⟨g20, g21, g22, -, -, -⟩, ⟨g30, g31, g32, -, -, -⟩, ⟨g40, g41, g42, -, -, -⟩, -⟩, -⟩ := hC; go_simp; first | done | (simp; done) | (simp [*]; done) | omega | (simp; omega) | (rw [IntKind.wrap_i64]; omega) | (intro hx; omega) | rfl)
            simp only [Act.put, List.setIfInBounds_toArray, List.set_cons_zero, List.set_cons_succ]
            refine qw_run (v := .agg #[.int .u64 s0, .int .u64 s1, .int .u64 s2]) (by rfl) ?_ ?_
            · (intro w1 hC; obtain ⟨⟨⟨g00, g01, g02, -, -, -⟩, ⟨g10, g11, g12, -, -, -⟩, ⟨g20, g21, g22, -, -, -⟩, ⟨g30, g31, g32, -, -, -⟩, ⟨g40, g41, g42, -, -, -⟩, -⟩, -⟩ := hC; go_simp; first | done | (simp; done) | (simp [*]; done) | omega | (simp; omega) | (rw [IntKind.wrap_i64]; omega) | (intro hx; omega) | rfl)
            simp only [Act.put, List.setIfInBounds_toArray, List.set_cons_zero, List.set_cons_succ]
            refine qw_run (v := .bool false) (by rfl) ?_ ?_
            · (intro w1 hC; obtain ⟨⟨⟨g00, g01, g02, -, -, -⟩, ⟨g10, g11, g12, -, -, -⟩, ⟨g20, g21, g22, -, -, -⟩, ⟨g30, g31, g32, -, -, -⟩, ⟨g40, g41, g42, -, -, -⟩, -⟩, -⟩ := hC; go_simp; first | done | (simp; done) | (simp [*]; done) | omega | (simp; omega) | (rw [IntKind.wrap_i64]; omega) | (intro hx; omega) | rfl)
            simp only [Act.put, List.setIfInBounds_toArray, List.set_cons_zero, List.set_cons_succ]
            refine qw_run (v := .bool false) (by rfl) ?_ ?_
            · (intro w1 hC; obtain ⟨⟨⟨g00, g01, g02, -, -, -⟩, ⟨g10, g11, g12, -, -, -⟩, ⟨g20, g21, g22, -, -, -⟩, ⟨g30, g31, g32, -, -, -⟩, ⟨g40, g41, g42, -, -, -⟩, -⟩, -⟩ := hC; go_simp; first | done | (simp; done) | (simp [*]; done) | omega | (simp; omega) | (rw [IntKind.wrap_i64]; omega) | (intro hx; omega) | rfl)
            simp only [Act.put, List.setIfInBounds_toArray, List.set_cons_zero, List.set_cons_succ]
            refine qw_run (v := .bool false) (by rfl) ?_ ?_
            · (intro w1 hC; obtain ⟨⟨⟨g00, g01, g02, -, -, -⟩, ⟨g10, g11, g12, -, -, -⟩, ⟨g20, g21, g22, -, -, -⟩, ⟨g30, g31, g32, -, -, -⟩, ⟨g40, g41, g42, -, -, -⟩, -⟩, -⟩ := hC; go_simp; first | done | (simp; done) | (simp [*]; done) | omega | (simp; omega) | (rw [IntKind.wrap_i64]; omega) | (intro hx; omega) | rfl)
            simp only [Act.put, List.setIfInBounds_toArray, List.set_cons_zero, List.set_cons_succ]
            refine qw_run (v := .agg #[.int .u64 x0, .int .u64 x1, .int .u64 x2]) (by rfl) ?_ ?_
            · (intro w1 hC; obtain ⟨⟨⟨g00, g01, g02, -, -, -⟩, ⟨g10, g11, g12, -, -, -⟩, ⟨g20, g21, g22, -, -, -⟩, ⟨g30, g31, g32, -, -, -⟩, ⟨g40, g41, g42, -, -, -⟩, -⟩, -⟩ := hC; go_simp; first | done | (simp; done) | (simp [*]; done) | omega | (simp; omega) | (rw [IntKind.wrap_i64]; omega) | (intro hx; omega) | rfl)
            simp only [Act.put, List.setIfInBounds_toArray, List.set_cons_zero, List.set_cons_succ]
            refine qw_run (v := .agg #[.int .u64 y0, .int .u64 y1, .int .u64 y2]) (by rfl) ?_ ?_
            · (intro w1 hC; obtain ⟨⟨⟨g00, g01, g02, -, -, -⟩, ⟨g10, g11, g12, -, -, -⟩, ⟨g20, g21, g22, -, -, -⟩, ⟨g30, g31, g32, -, -, -⟩, ⟨g40, g41, g42, -, -, -⟩, -⟩, -⟩ := hC; go_simp; first | done | (simp; done) | (simp [*]; done) | omega | (simp; omega) | (rw [IntKind.wrap_i64]; omega) | (intro hx; omega) | rfl)
            simp only [Act.put, List.setIfInBounds_toArray, List.set_cons_zero, List.set_cons_succ]
            refine qw_call (v := .int .i64 (cab)) (f := 18) (args := #[.agg #[.int .u64 x0, .int .u64 x1, .int .u64 x2], .agg #[.int .u64 y0, .int .u64 y1, .int .u64 y2]]) (by rfl) ?_ ?_ ?_
            · (intro w1 hC; clear hC; go_simp)
            · exact fun w1 hC => (KAB w1).mono fun e w' ⟨he, hb⟩ => ⟨he, Kcs.below hC hb⟩
            simp only [Act.put, List.setIfInBounds_toArray, List.set_cons_zero, List.set_cons_succ]
            refine qw_run (v := .agg #[.int .u64 y0, .int .u64 y1, .int .u64 y2]) (by rfl) ?_ ?_
            · (intro w1 hC; obtain ⟨⟨⟨g00, g01, g02, -, -, -⟩, ⟨g10, g11, g12, -, -, -⟩, ⟨g20, g21, g22, -, -, -⟩, ⟨g30, g31, g32, -, -, -⟩, ⟨g40, g41, g42, -, -, -⟩, -⟩, -⟩ := hC; go_simp; first | done | (simp; done) | (simp [*]; done) | omega | (simp; omega) | (rw [IntKind.wrap_i64]; omega) | (intro hx; omega) | rfl)
            simp only [Act.put, List.setIfInBounds_toArray, List.set_cons_zero, List.set_cons_succ]
            refine qw_run (v := .agg #[.int .u64 x0, .int .u64 x1, .int .u64 x2]) (by rfl) ?_ ?_
            · (intro w1 hC; obtain ⟨⟨⟨g00, g01, g02, -, -, -⟩, ⟨g10, g11, g12, -, -, -⟩, ⟨g20, g21, g22, -, -, -⟩, ⟨g30, g31, g32, -, -, -⟩, ⟨g40, g41, g42, -, -, -⟩, -⟩, -⟩ := hC; go_simp; first | done | (simp; done) | (simp [*]; done) | omega | (simp; omega) | (rw [IntKind.wrap_i64]; omega) | (intro hx; omega) | rfl)
            simp only [Act.put, List.setIfInBounds_toArray, List.set_cons_zero, List.set_cons_succ]
            refine qw_call (v := .int .i64 (cba)) (f := 18) (args := #[.agg #[.int .u64 y0, .int .u64 y1, .int .u64 y2], .agg #[.int .u64 x0, .int .u64 x1, .int .u64 x2]]) (by rfl) ?_ ?_ ?_
            · (intro w1 hC; clear hC; go_simp)
            · exact fun w1 hC => (KBA w1).mono fun e w' ⟨he, hb⟩ => ⟨he, Kcs.below hC hb⟩
            simp only [Act.put, List.setIfInBounds_toArray, List.set_cons_zero, List.set_cons_succ]
            refine qw_run (v := .int .i64 (cab)) (by rfl) ?_ ?_
            · (intro w1 hC; obtain ⟨⟨⟨g00, g01, g02, -, -, -⟩, ⟨g10, g11, g12, -, -, -⟩, ⟨g20, g21, g22, -, -, -⟩, ⟨g30, g31, g32, -, -, -⟩, ⟨g40, g41, g42, -, -, -⟩, -⟩, -⟩ := hC; go_simp; first | done | (simp; done) | (simp [*]; done) | omega | (simp; omega) | (rw [IntKind.wrap_i64]; omega) | (intro hx; omega) | rfl)
            simp only [Act.put, List.setIfInBounds_toArray, List.set_cons_zero, List.set_cons_succ]
            refine qw_run (v := .bool false) (by rfl) ?_ ?_
            · (intro w1 hC; obtain ⟨⟨⟨g00, g01, g02, -, -, -⟩, ⟨g10, g11, g12, -, -, -⟩, ⟨g20, g21, g22, -, -, -⟩, ⟨g30, g31, g32, -, -, -⟩, ⟨g40, g41, g42, -, -, -⟩, -⟩, -⟩ := hC; go_simp; first | done | (simp; done) | (simp [*]; done) | omega | (simp; omega) | (rw [IntKind.wrap_i64]; omega) | (intro hx; omega) | rfl)
            simp only [Act.put, List.setIfInBounds_toArray, List.set_cons_zero, List.set_cons_succ]
            refine qw_run (v := .bool false) (by rfl) ?_ ?_
            · (intro w1 hC; obtain ⟨⟨⟨g00, g01, g02, -, -, -⟩, ⟨g10, g11, g12, -, -, -⟩, ⟨g20, g21, g22, -, -, -⟩, ⟨g30, g31, g32, -, -, -⟩, ⟨g40, g41, g42, -, -, -⟩, -⟩, -⟩ := hC; go_simp; first | done | (simp; done) | (simp [*]; done) | omega | (simp; omega) | (rw [IntKind.wrap_i64]; omega) | (intro hx; omega) | rfl)
            simp only [Act.put, List.setIfInBounds_toArray, List.set_cons_zero, List.set_cons_succ]
            refine qw_run (v := .bool false) (by rfl) ?_ ?_
            · (intro w1 hC; obtain ⟨⟨⟨g00, g01, g02, -, -, -⟩, ⟨g10, g11, g12, -, -, -⟩, ⟨g20, g21, g22, -, -, -⟩, ⟨g30, g31, g32, -, -, -⟩, ⟨g40, g41, g42, -, -, -⟩, -⟩, -⟩ := hC; go_simp; first | done | (simp; done) | (simp [*]; done) | omega | (simp; omega) | (rw [IntKind.wrap_i64]; omega) | (intro hx; omega) | rfl)
            simp only [Act.put, List.setIfInBounds_toArray, List.set_cons_zero, List.set_cons_succ]
            refine qw_run (v := .agg #[.int .u64 x0, .int .u64 x1, .int .u64 x2]) (by rfl) ?_ ?_
            · (intro w1 hC; obtain ⟨⟨⟨g00, g01, g02, -, -, -⟩, ⟨g10, g11, g12, -, -, -⟩, ⟨g20, g21, g22, -, -, -⟩, ⟨g30, g31, g32, -, -, -⟩, ⟨g40, g41, g42, -, -, -⟩, -⟩, -⟩ := hC; go_simp; first | done | (simp; done) | (simp [*]; done) | omega | (simp; omega) | (rw [IntKind.wrap_i64]; omega) | (intro hx; omega) | rfl)
            simp only [Act.put, List.setIfInBounds_toArray, List.set_cons_zero, List.set_cons_succ]
            refine qw_run (v := .agg #[.int .u64 y0, .int .u64 y1, .int .u64 y2]) (by rfl) ?_ ?_
            · (intro w1 hC; obtain ⟨⟨⟨g00, g01, g02, -, -, -⟩, ⟨g10, g11, g12, -, -, -⟩, ⟨g20, g21, g22, -, -, -⟩, ⟨g30, g31, g32, -, -, -⟩, ⟨g40, g41, g42, -, -, -⟩, -⟩, -⟩ := hC; go_simp; first | done | (simp; done) | (simp [*]; done) | omega | (simp; omega) | (rw [IntKind.wrap_i64]; omega) | (intro hx; omega) | rfl)
            simp only [Act.put, List.setIfInBounds_toArray, List.set_cons_zero, List.set_cons_succ]
            refine qw_call (v := .int .i64 (cab)) (f := 18) (args := #[.agg #[.int .u64 x0, .int .u64 x1, .int .u64 x2], .agg #[.int .u64 y0, .int .u64 y1, .int .u64 y2]]) (by rfl) ?_ ?_ ?_
            · (intro w1 hC; clear hC; go_simp)
            · exact fun w1 hC => (KAB w1).mono fun e w' ⟨he, hb⟩ => ⟨he, Kcs.below hC hb⟩
            simp only [Act.put, List.setIfInBounds_toArray, List.set_cons_zero, List.set_cons_succ]
            refine qw_run (v := .bool (z1)) (by rfl) ?_ ?_
            · (intro w1 hC; obtain ⟨⟨⟨g00, g01, g02, -, -, -⟩, ⟨g10, g11, g12, -, -, -⟩, ⟨g20, g21, g22, -, -, -⟩, ⟨g30, g31, g32, -, -, -⟩, ⟨g40, g41, g42, -, -, -⟩, -⟩, -⟩ := hC; go_simp; first | done | (simp; done) | (simp [*]; done) | omega | (simp; omega) | (rw [IntKind.wrap_i64]; omega) | (intro hx; omega) | rfl)
            simp only [Act.put, List.setIfInBounds_toArray, List.set_cons_zero, List.set_cons_succ]
            refine qw_run (v := .agg #[.int .u64 x0, .int .u64 x1, .int .u64 x2]) (by rfl) ?_ ?_
            · (intro w1 hC; obtain ⟨⟨⟨g00, g01, g02, -, -, -⟩, ⟨g10, g11, g12, -, -, -⟩, ⟨g20, g21, g22, -, -, -⟩, ⟨g30, g31, g32, -, -, -⟩, ⟨g40, g41, g42, -, -, -⟩, -⟩, -⟩ := hC; go_simp; first | done | (simp; done) | (simp [*]; done) | omega | (simp; omega) | (rw [IntKind.wrap_i64]; omega) | (intro hx; omega) | rfl)
            simp only [Act.put, List.setIfInBounds_toArray, List.set_cons_zero, List.set_cons_succ]
            refine qw_run (v := .agg #[.int .u64 y0, .int .u64 y1, .int .u64 y2]) (by rfl) ?_ ?_
            · (intro w1 hC; obtain ⟨⟨⟨g00, g01, g02, -, -, -⟩, ⟨g10, g11, g12, -, -, -⟩, ⟨g20, g21, g22, -, -, -⟩, ⟨g30, g31, g32, -, -, -⟩, ⟨g40, g41, g42, -, -, -⟩, -⟩, -⟩ := hC; go_simp; first | done | (simp; done) | (simp [*]; done) | omega | (simp; omega) | (rw [IntKind.wrap_i64]; omega) | (intro hx; omega) | rfl)
            simp only [Act.put, List.setIfInBounds_toArray, List.set_cons_zero, List.set_cons_succ]
            refine qw_run (v := .bool (z1)) (by rfl) ?_ ?_
            · (intro w1 hC; obtain ⟨⟨⟨g00, g01, g02, -, -, -⟩, ⟨g10, g11, g12, -, -, -⟩, ⟨g20, g21, g22, -, -, -⟩, ⟨g30, g31, g32, -, -, -⟩, ⟨g40, g41, g42, -, -, -⟩, -⟩, -⟩ := hC; go_simp; first | done | (simp; done) | (simp [*]; done) | omega | (simp; omega) | (rw [IntKind.wrap_i64]; omega) | (intro hx; omega) | rfl)
            simp only [Act.put, List.setIfInBounds_toArray, List.set_cons_zero, List.set_cons_succ]
            refine qw_run (v := .bool false) (by rfl) ?_ ?_
            · (intro w1 hC; obtain ⟨⟨⟨g00, g01, g02, -, -, -⟩, ⟨g10, g11, g12, -, -, -⟩, ⟨g20, g21, g22, -, -, -⟩, ⟨g30, g31, g32, -, -, -⟩, ⟨g40, g41, g42, -, -, -⟩, -⟩, -⟩ := hC; go_simp; first | done | (simp; done) | (simp [*]; done) | omega | (simp; omega) | (rw [IntKind.wrap_i64]; omega) | (intro hx; omega) | rfl)
            simp only [Act.put, List.setIfInBounds_toArray, List.set_cons_zero, List.set_cons_succ]
            refine qw_run (v := .bool false) (by rfl) ?_ ?_
            · (intro w1 hC; obtain ⟨⟨⟨g00, g01, g02, -, -, -⟩, ⟨g10, g11, g12, -, -, -⟩, ⟨g20, g21, g22, -, -, -⟩, ⟨g30, g31, g32, -, -, -⟩, ⟨g40, g41, g42, -, -, -⟩, -⟩, -⟩ := hC; go_simp; first | done | (simp; done) | (simp [*]; done) | omega | (simp; omega) | (rw [IntKind.wrap_i64]; omega) | (intro hx; omega) | rfl)
            simp only [Act.put, List.setIfInBounds_toArray, List.set_cons_zero, List.set_cons_succ]
            refine qw_nil ?_
            intro v3r hC
            have Hr3 := hid9 hC
            clear H3 hC
            obtain ⟨f00, f01, f02, -, -, -⟩ := (Hr3.out.1.2.2.2.2).1
            obtain ⟨f10, f11, f12, -, -, -⟩ := (Hr3.out.1.2.2.2).1
            go_wp2_with fail
            clear f00 f01 f02 f10 f11 f12
            refine (KAB _).mono ?_
            rintro e v4 ⟨rfl, hb⟩
            have H4 := hid9 (Kcs.below Hr3.out hb)
            clear Hr3 hb
            obtain ⟨f00, f01, f02, -, -, -⟩ := (H4.out.1.2.2.2).1
            obtain ⟨f10, f11, f12, -, -, -⟩ := (H4.out.1.2.2).1
            go_wp2_with fail
            clear f00 f01 f02 f10 f11 f12
            refine (KBC _).mono ?_
            rintro e v5 ⟨rfl, hb⟩
            have H5 := hid9 (Kcs.below H4.out hb)
            clear H4 hb
            obtain ⟨f00, f01, f02, -, -, -⟩ := (H5.out.1.2.2.2.2).1
            obtain ⟨f10, f11, f12, -, -, -⟩ := (H5.out.1.2.2).1
            go_wp2_with fail
            clear f00 f01 f02 f10 f11 f12
            refine (KAC _).mono ?_
            rintro e v6 ⟨rfl, hb⟩
            have H6 := hid9 (Kcs.below H5.out hb)
            clear H5 hb
            go_wp2_with fail
            refine qw_region (C := fun W => Kcs w W [(N3, s0, s1, s2), (N2, s0, s1, s2), (w.heap.size + 1 + 1, z0', z1', z2'), (w.heap.size + 1, y0, y1, y2), (w.heap.size, x0, x1, x2)]) (by kernel_rfl) (by kernel_rfl) H6.out.drew ?_
            refine qw_run (v := .agg #[.int .u64 s0, .int .u64 s1, .int .u64 s2]) (by rfl) ?_ ?_
            · (intro w1 hC; obtain ⟨⟨⟨g00, g01, g02, -, -, -⟩, ⟨g10, g11, g12, -, -, -⟩, ⟨g20, g21, g22, -, -, -⟩, ⟨g30, g31, g32, -, -, -⟩, ⟨g40, g41, g42, -, -, -⟩, -⟩, -⟩ := hC; go_simp; first | done | (simp; done) | (simp [*]; done) | omega | (simp; omega) | (rw [IntKind.wrap_i64]; omega) | (intro hx; omega) | rfl)
            simp only [Act.put, List.setIfInBounds_toArray, List.set_cons_zero, List.set_cons_succ]
            refine qw_run (v := .agg #[.int .u64 x0, .int .u64 x1, .int .u64 x2]) (by rfl) ?_ ?_
            · (intro w1 hC; obtain ⟨⟨⟨g00, g01, g02, -, -, -⟩, ⟨g10, g11, g12, -, -, -⟩, ⟨g20, g21, g22, -, -, -⟩, ⟨g30, g31, g32, -, -, -⟩, ⟨g40, g41, g42, -, -, -⟩, -⟩, -⟩ := hC; go_simp; first | done | (simp; done) | (simp [*]; done) | omega | (simp; omega) | (rw [IntKind.wrap_i64]; omega) | (intro hx; omega) | rfl)
            simp only [Act.put, List.setIfInBounds_toArray, List.set_cons_zero, List.set_cons_succ]
            refine qw_call (v := .int .i64 (csa)) (f := 18) (args := #[.agg #[.int .u64 s0, .int .u64 s1, .int .u64 s2], .agg #[.int .u64 x0, .int .u64 x1, .int .u64 x2]]) (by rfl) ?_ ?_ ?_
            · (intro w1 hC; clear hC; go_simp)
            · exact fun w1 hC => (KSA w1).mono fun e w' ⟨he, hb⟩ => ⟨he, Kcs.below hC hb⟩
            simp only [Act.put, List.setIfInBounds_toArray, List.set_cons_zero, List.set_cons_succ]
            refine qw_run (v := .bool false) (by rfl) ?_ ?_
            · (intro w1 hC; obtain ⟨⟨⟨g00, g01, g02, -, -, -⟩, ⟨g10, g11, g12, -, -, -⟩, ⟨g20, g21, g22, -, -, -⟩, ⟨g30, g31, g32, -, -, -⟩, ⟨g40, g41, g42, -, -, -⟩, -⟩, -⟩ := hC; go_simp; first | done | (simp; done) | (simp [*]; done) | omega | (simp; omega) | (rw [IntKind.wrap_i64]; omega) | (intro hx; omega) | rfl)
            simp only [Act.put, List.setIfInBounds_toArray, List.set_cons_zero, List.set_cons_succ]
            refine qw_run (v := .bool false) (by rfl) ?_ ?_
            · (intro w1 hC; obtain ⟨⟨⟨g00, g01, g02, -, -, -⟩, ⟨g10, g11, g12, -, -, -⟩, ⟨g20, g21, g22, -, -, -⟩, ⟨g30, g31, g32, -, -, -⟩, ⟨g40, g41, g42, -, -, -⟩, -⟩, -⟩ := hC; go_simp; first | done | (simp; done) | (simp [*]; done) | omega | (simp; omega) | (rw [IntKind.wrap_i64]; omega) | (intro hx; omega) | rfl)
            simp only [Act.put, List.setIfInBounds_toArray, List.set_cons_zero, List.set_cons_succ]
            refine qw_run (v := .agg #[.int .u64 s0, .int .u64 s1, .int .u64 s2]) (by rfl) ?_ ?_
            · (intro w1 hC; obtain ⟨⟨⟨g00, g01, g02, -, -, -⟩, ⟨g10, g11, g12, -, -, -⟩, ⟨g20, g21, g22, -, -, -⟩, ⟨g30, g31, g32, -, -, -⟩, ⟨g40, g41, g42, -, -, -⟩, -⟩, -⟩ := hC; go_simp; first | done | (simp; done) | (simp [*]; done) | omega | (simp; omega) | (rw [IntKind.wrap_i64]; omega) | (intro hx; omega) | rfl)
            simp only [Act.put, List.setIfInBounds_toArray, List.set_cons_zero, List.set_cons_succ]
            refine qw_run (v := .agg #[.int .u64 x0, .int .u64 x1, .int .u64 x2]) (by rfl) ?_ ?_
            · (intro w1 hC; obtain ⟨⟨⟨g00, g01, g02, -, -, -⟩, ⟨g10, g11, g12, -, -, -⟩, ⟨g20, g21, g22, -, -, -⟩, ⟨g30, g31, g32, -, -, -⟩, ⟨g40, g41, g42, -, -, -⟩, -⟩, -⟩ := hC; go_simp; first | done | (simp; done) | (simp [*]; done) | omega | (simp; omega) | (rw [IntKind.wrap_i64]; omega) | (intro hx; omega) | rfl)
            simp only [Act.put, List.setIfInBounds_toArray, List.set_cons_zero, List.set_cons_succ]
            refine qw_call (v := .int .i64 (csa)) (f := 18) (args := #[.agg #[.int .u64 s0, .int .u64 s1, .int .u64 s2], .agg #[.int .u64 x0, .int .u64 x1, .int .u64 x2]]) (by rfl) ?_ ?_ ?_
            · (intro w1 hC; clear hC; go_simp)
            · exact fun w1 hC => (KSA w1).mono fun e w' ⟨he, hb⟩ => ⟨he, Kcs.below hC hb⟩
            simp only [Act.put, List.setIfInBounds_toArray, List.set_cons_zero, List.set_cons_succ]
            refine qw_run (v := .bool (z2)) (by rfl) ?_ ?_
            · (intro w1 hC; obtain ⟨⟨⟨g00, g01, g02, -, -, -⟩, ⟨g10, g11, g12, -, -, -⟩, ⟨g20, g21, g22, -, -, -⟩, ⟨g30, g31, g32, -, -, -⟩, ⟨g40, g41, g42, -, -, -⟩, -⟩, -⟩ := hC; go_simp; first | done | (simp; done) | (simp [*]; done) | omega | (simp; omega) | (rw [IntKind.wrap_i64]; omega) | (intro hx; omega) | rfl)
            simp only [Act.put, List.setIfInBounds_toArray, List.set_cons_zero, List.set_cons_succ]
            refine qw_run (v := .agg #[.int .u64 y0, .int .u64 y1, .int .u64 y2]) (by rfl) ?_ ?_
            · (intro w1 hC; obtain ⟨⟨⟨g00, g01, g02, -, -, -⟩, ⟨g10, g11, g12, -, -, -⟩, ⟨g20, g21, g22, -, -, -⟩, ⟨g30, g31, g32, -, -, -⟩, ⟨g40, g41, g42, -, -, -⟩, -⟩, -⟩ := hC; go_simp; first | done | (simp; done) | (simp [*]; done) | omega | (simp; omega) | (rw [IntKind.wrap_i64]; omega) | (intro hx; omega) | rfl)
            simp only [Act.put, List.setIfInBounds_toArray, List.set_cons_zero, List.set_cons_succ]
            refine qw_run (v := .agg #[.int .u64 0, .int .u64 0, .int .u64 0]) (by rfl) ?_ ?_
            · (intro w1 hC; obtain ⟨⟨⟨g00, g01, g02, -, -, -⟩, ⟨g10, g11, g12, -, -, -⟩, ⟨g20, g21, g22, -, -, -⟩, ⟨g30, g31, g32, -, -, -⟩, ⟨g40, g41, g42, -, -, -⟩, -⟩, -⟩ := hC; go_simp; first | done | (simp; done) | (simp [*]; done) | omega | (simp; omega) | (rw [IntKind.wrap_i64]; omega) | (intro hx; omega) | rfl)
            simp only [Act.put, List.setIfInBounds_toArray, List.set_cons_zero, List.set_cons_succ]
            refine qw_run (v := .bool (z2)) (by rfl) ?_ ?_
            · (intro w1 hC; obtain ⟨⟨⟨g00, g01, g02, -, -, -⟩, ⟨g10, g11, g12, -, -, -⟩, ⟨g20, g21, g22, -, -, -⟩, ⟨g30, g31, g32, -, -, -⟩, ⟨g40, g41, g42, -, -, -⟩, -⟩, -⟩ := hC; go_simp; first | done | (simp; done) | (simp [*]; done) | omega | (simp; omega) | (rw [IntKind.wrap_i64]; omega) | (intro hx; omega) | rfl)
            simp only [Act.put, List.setIfInBounds_toArray, List.set_cons_zero, List.set_cons_succ]
            refine qw_run (v := .bool false) (by rfl) ?_ ?_
            · (intro w1 hC; obtain ⟨⟨⟨g00, g01, g02, -, -, -⟩, ⟨g10, g11, g12, -, -, -⟩, ⟨g20, g21, g22, -, -, -⟩, ⟨g30, g31, g32, -, -, -⟩, ⟨g40, g41, g42, -, -, -⟩, -⟩, -⟩ := hC; go_simp; first | done | (simp; done) | (simp [*]; done) | omega | (simp; omega) | (rw [IntKind.wrap_i64]; omega) | (intro hx; omega) | rfl)
            simp only [Act.put, List.setIfInBounds_toArray, List.set_cons_zero, List.set_cons_succ]
            refine qw_run (v := .bool false) (by rfl) ?_ ?_
            · (intro w1 hC; obtain ⟨⟨⟨g00, g01, g02, -, -, -⟩, ⟨g10, g11, g12, -, -, -⟩, ⟨g20, g21, g22, -, -, -⟩, ⟨g30, g31, g32, -, -, -⟩, ⟨g40, g41, g42, -, -, -⟩, -⟩, -⟩ := hC; go_simp; first | done | (simp; done) | (simp [*]; done) | omega | (simp; omega) | (rw [IntKind.wrap_i64]; omega) | (intro hx; omega) | rfl)
            simp only [Act.put, List.setIfInBounds_toArray, List.set_cons_zero, List.set_cons_succ]
            refine qw_nil ?_
            intro v7r hC
            have Hr7 := hid9 hC
            clear H6 hC
            obtain ⟨f00, f01, f02, -, -, -⟩ := (Hr7.out.1.2).1
            obtain ⟨f10, f11, f12, -, -, -⟩ := (Hr7.out.1.2.2).1
            go_wp2_with fail
            clear f00 f01 f02 f10 f11 f12
            refine (KU _).mono ?_
            rintro e v8 ⟨rfl, hb⟩
            have H8 := hid9 (Kcs.new (a := u0) (b := u1) (c := u2) Hr7.out hb)
            clear Hr7 hb
            obtain ⟨f00, f01, f02, -, -, -⟩ := (H8.out.1.2.2.2.2).1
            obtain ⟨f10, f11, f12, -, -, -⟩ := (H8.out.1.2.2.2).1
            go_wp2_with fail
            clear f00 f01 f02 f10 f11 f12
            revert H8
            generalize v8.alloc (.cells #[.int .u64 u0, .int .u64 u1, .int .u64 u2] 24) = W8
            generalize v8.heap.size = N8
            intro H8
            refine (KT _).mono ?_
            rintro e v9 ⟨rfl, hb⟩
            have H9 := hid9 (Kcs.new (a := t0) (b := t1) (c := t2) H8.out hb)
            clear H8 hb
            obtain ⟨f00, f01, f02, -, -, -⟩ := (H9.out.1.2.2.2.2.2.2).1
            go_wp2_with fail
            clear f00 f01 f02
            revert H9
            generalize v9.alloc (.cells #[.int .u64 t0, .int .u64 t1, .int .u64 t2] 24) = W9
            generalize v9.heap.size = N9
            intro H9
            refine (KV _).mono ?_
            rintro e v10 ⟨rfl, hb⟩
            have H10 := hid9 (Kcs.new (a := u0) (b := u1) (c := u2) H9.out hb)
            clear H9 hb
            obtain ⟨f00, f01, f02, -, -, -⟩ := (H10.out.1.2.2).1
            obtain ⟨f10, f11, f12, -, -, -⟩ := (H10.out.1).1
            go_wp2
            go_ret
            exact ⟨rfl, H10.out.2⟩
          · have d1 : decide (cmpN N M ≤ 0) = true := decide_eq_true (l1.mpr o1)
            have d2 : decide (cmpN M K ≤ 0) = false := decide_eq_false (fun h => o2 (l2.mp h))
            clear l1 l2 l3 hN hM hK o1 o2
            generalize cmpN N M = cab at *
            generalize cmpN M N = cba at *
            generalize cmpN M K = cbc at *
            generalize cmpN N K = cac at *
            have H0 := hid9 (Kcs.three w x0 x1 x2 y0 y1 y2 z0' z1' z2')
            go_enter Try.func6, Try.ntmps6
            go_wp2_with fail
            revert H0
            generalize ((w.alloc (.cells #[.int .u64 x0, .int .u64 x1, .int .u64 x2] 24)).alloc (.cells #[.int .u64 y0, .int .u64 y1, .int .u64 y2] 24)).alloc (.cells #[.int .u64 z0', .int .u64 z1', .int .u64 z2'] 24) = W0
            intro H0
            refine (KK _).mono ?_
            rintro e v1 ⟨rfl, hb⟩
            have H1 := hid9 (Kcs.below H0.out hb)
            clear H0 hb
            obtain ⟨f00, f01, f02, -, -, -⟩ := (H1.out.1.2.2).1
            obtain ⟨f10, f11, f12, -, -, -⟩ := (H1.out.1.2).1
            go_wp2_with fail
            clear f00 f01 f02 f10 f11 f12
            refine (KS _).mono ?_
            rintro e v2 ⟨rfl, hb⟩
            have H2 := hid9 (Kcs.new (a := s0) (b := s1) (c := s2) H1.out hb)
            clear H1 hb
            obtain ⟨f00, f01, f02, -, -, -⟩ := (H2.out.1.2.2.2).1
            obtain ⟨f10, f11, f12, -, -, -⟩ := (H2.out.1.2.2).1
            go_wp2_with fail
            clear f00 f01 f02 f10 f11 f12
            revert H2
            generalize v2.alloc (.cells #[.int .u64 s0, .int .u64 s1, .int .u64 s2] 24) = W2
            generalize v2.heap.size = N2
            intro H2
            refine (KS2 _).mono ?_
            rintro e v3 ⟨rfl, hb⟩
            have H3 := hid9 (Kcs.new (a := s0) (b := s1) (c := s2) H2.out hb)
            clear H2 hb
            go_wp2_with fail
            revert H3
            generalize v3.alloc (.cells #[.int .u64 s0, .int .u64 s1, .int .u64 s2] 24) = W3
            generalize v3.heap.size = N3
            intro H3
            refine qw_region (C := fun W => Kcs w W [(N3, s0, s1, s2), (N2, s0, s1, s2), (w.heap.size + 1 + 1, z0', z1', z2'), (w.heap.size + 1, y0, y1, y2), (w.heap.size, x0, x1, x2)]) (by kernel_rfl) (by kernel_rfl) H3.out.drew ?_
            refine qw_run (v := .int .i64 (0)) (by rfl) ?_ ?_
            · (intro w1 hC; obtain ⟨⟨⟨g00, g01, g02, -, -, -⟩, ⟨g10, g11, g12, -, -, -⟩, ⟨g20, g21, g22, -, -, -⟩, ⟨g30, g31, g32, -, -, -⟩, ⟨g40, g41, g42, -, -, -⟩, -⟩, -⟩ := hC; go_simp; first | done | (simp; done) | (simp [*]; done) | omega | (simp; omega) | (rw [IntKind.wrap_i64]; omega) | (intro hx; omega) | rfl)
            simp only [Act.put, List.setIfInBounds_toArray, List.set_cons_zero, List.set_cons_succ]
            refine qw_run (v := .int .i64 (0)) (by rfl) ?_ ?_
            · (intro w1 hC; obtain ⟨⟨⟨g00, g01, g02, -, -, -⟩, ⟨g10, g11, g12, -, -, -⟩, ⟨g20, g21, g22, -, -, -⟩, ⟨g30, g31, g32, -, -, -⟩, ⟨g40, g41, g42, -, -, -⟩, -⟩, -⟩ := hC; go_simp; first | done | (simp; done) | (simp [*]; done) | omega | (simp; omega) | (rw [IntKind.wrap_i64]; omega) | (intro hx; omega) | rfl)
            simp only [Act.put, List.setIfInBounds_toArray, List.set_cons_zero, List.set_cons_succ]
            refine qw_run (v := .bool false) (by rfl) ?_ ?_
            · (intro w1 hC; obtain ⟨⟨⟨g00, g01, g02, -, -, -⟩, ⟨g10, g11, g12, -, -, -⟩, ⟨g20, g21, g22, -, -, -⟩, ⟨g30, g31, g32, -, -, -⟩, ⟨g40, g41, g42, -, -, -⟩, -⟩, -⟩ := hC; go_simp; first | done | (simp; done) | (simp [*]; done) | omega | (simp; omega) | (rw [IntKind.wrap_i64]; omega) | (intro hx; omega) | rfl)
            simp only [Act.put, List.setIfInBounds_toArray, List.set_cons_zero, List.set_cons_succ]
            refine qw_run (v := .bool false) (by rfl) ?_ ?_
            · (intro w1 hC; obtain ⟨⟨⟨g00, g01, g02, -, -, -⟩, ⟨g10, g11, g12, -, -, -⟩, ⟨g20, g21, g22, -, -, -⟩, ⟨g30, g31, g32, -, -, -⟩, ⟨g40, g41, g42, -, -, -⟩, -⟩, -⟩ := hC; go_simp; first | done | (simp; done) | (simp [*]; done) | omega | (simp; omega) | (rw [IntKind.wrap_i64]; omega) | (intro hx; omega) | rfl)
            simp only [Act.put, List.setIfInBounds_toArray, List.set_cons_zero, List.set_cons_succ]
            refine qw_run (v := .agg #[.int .u64 s0, .int .u64 s1, .int .u64 s2]) (by rfl) ?_ ?_
            · (intro w1 hC; obtain ⟨⟨⟨g00, g01, g02, -, -, -⟩, ⟨g10, g11, g12, -, -, -⟩, ⟨g20, g21, g22, -, -, -⟩, ⟨g30, g31, g32, -, -, -⟩, ⟨g40, g41, g42, -, -, -⟩, -⟩, -⟩ := hC; go_simp; first | done | (simp; done) | (simp [*]; done) | omega | (simp; omega) | (rw [IntKind.wrap_i64]; omega) | (intro hx; omega) | rfl)
            simp only [Act.put, List.setIfInBounds_toArray, List.set_cons_zero, List.set_cons_succ]
            refine qw_run (v := .agg #[.int .u64 s0, .int .u64 s1, .int .u64 s2]) (by rfl) ?_ ?_
            · (intro w1 hC; obtain ⟨⟨⟨g00, g01, g02, -, -, -⟩, ⟨g10, g11, g12, -, -, -⟩, ⟨g20, g21, g22, -, -, -⟩, ⟨g30, g31, g32, -, -, -⟩, ⟨g40, g41, g42, -, -, -⟩, -⟩, -⟩ := hC; go_simp; first | done | (simp; done) | (simp [*]; done) | omega | (simp; omega) | (rw [IntKind.wrap_i64]; omega) | (intro hx; omega) | rfl)
            simp only [Act.put, List.setIfInBounds_toArray, List.set_cons_zero, List.set_cons_succ]
            refine qw_run (v := .bool false) (by rfl) ?_ ?_
            · (intro w1 hC; obtain ⟨⟨⟨g00, g01, g02, -, -, -⟩, ⟨g10, g11, g12, -, -, -⟩, ⟨g20, g21, g22, -, -, -⟩, ⟨g30, g31, g32, -, -, -⟩, ⟨g40, g41, g42, -, -, -⟩, -⟩, -⟩ := hC; go_simp; first | done | (simp; done) | (simp [*]; done) | omega | (simp; omega) | (rw [IntKind.wrap_i64]; omega) | (intro hx; omega) | rfl)
            simp only [Act.put, List.setIfInBounds_toArray, List.set_cons_zero, List.set_cons_succ]
            refine qw_run (v := .bool false) (by rfl) ?_ ?_
            · (intro w1 hC; obtain ⟨⟨⟨g00, g01, g02, -, -, -⟩, ⟨g10, g11, g12, -, -, -⟩, ⟨g20, g21, g22, -, -, -⟩, ⟨g30, g31, g32, -, -, -⟩, ⟨g40, g41, g42, -, -, -⟩, -⟩, -⟩ := hC; go_simp; first | done | (simp; done) | (simp [*]; done) | omega | (simp; omega) | (rw [IntKind.wrap_i64]; omega) | (intro hx; omega) | rfl)
            simp only [Act.put, List.setIfInBounds_toArray, List.set_cons_zero, List.set_cons_succ]
            refine qw_run (v := .bool false) (by rfl) ?_ ?_
            · (intro w1 hC; obtain ⟨⟨⟨g00, g01, g02, -, -, -⟩, ⟨g10, g11, g12, -, -, -⟩, ⟨g20, g21, g22, -, -, -⟩, ⟨g30, g31, g32, -, -, -⟩, ⟨g40, g41, g42, -, -, -⟩, -⟩, -⟩ := hC; go_simp; first | done | (simp; done) | (simp [*]; done) | omega | (simp; omega) | (rw [IntKind.wrap_i64]; omega) | (intro hx; omega) | rfl)
            simp only [Act.put, List.setIfInBounds_toArray, List.set_cons_zero, List.set_cons_succ]
            refine qw_run (v := .agg #[.int .u64 x0, .int .u64 x1, .int .u64 x2]) (by rfl) ?_ ?_
            · (intro w1 hC; obtain ⟨⟨⟨g00, g01, g02, -, -, -⟩, ⟨g10, g11, g12, -, -, -⟩, ⟨g20, g21, g22, -, -, -⟩, ⟨g30, g31, g32, -, -, -⟩, ⟨g40, g41, g42, -, -, -⟩, -⟩, -⟩ := hC; go_simp; first | done | (simp; done) | (simp [*]; done) | omega | (simp; omega) | (rw [IntKind.wrap_i64]; omega) | (intro hx; omega) | rfl)
            simp only [Act.put, List.setIfInBounds_toArray, List.set_cons_zero, List.set_cons_succ]
            refine qw_run (v := .agg #[.int .u64 y0, .int .u64 y1, .int .u64 y2]) (by rfl) ?_ ?_
            · (intro w1 hC; obtain ⟨⟨⟨g00, g01, g02, -, -, -⟩, ⟨g10, g11, g12, -, -, -⟩, ⟨g20, g21, g22, -, -, -⟩, ⟨g30, g31, g32, -, -, -⟩, ⟨g40, g41, g42, -, -, -⟩, -⟩, -⟩ := hC; go_simp; first | done | (simp; done) | (simp [*]; done) | omega | (simp; omega) | (rw [IntKind.wrap_i64]; omega) | (intro hx; omega) | rfl)
            simp only [Act.put, List.setIfInBounds_toArray, List.set_cons_zero, List.set_cons_succ]
            refine qw_call (v := .int .i64 (cab)) (f := 18) (args := #[.agg #[.int .u64 x0, .int .u64 x1, .int .u64 x2], .agg #[.int .u64 y0, .int .u64 y1, .int .u64 y2]]) (by rfl) ?_ ?_ ?_
            · (intro w1 hC; clear hC; go_simp)
            · exact fun w1 hC => (KAB w1).mono fun e w' ⟨he, hb⟩ => ⟨he, Kcs.below hC hb⟩
            simp only [Act.put, List.setIfInBounds_toArray, List.set_cons_zero, List.set_cons_succ]
            refine qw_run (v := .agg #[.int .u64 y0, .int .u64 y1, .int .u64 y2]) (by rfl) ?_ ?_
            · (intro w1 hC; obtain ⟨⟨⟨g00, g01, g02, -, -, -⟩, ⟨g10, g11, g12, -, -, -⟩, ⟨g20, g21, g22, -, -, -⟩, ⟨g30, g31, g32, -, -, -⟩, ⟨g40, g41, g42, -, -, -⟩, -⟩, -⟩ := hC; go_simp; first | done | (simp; done) | (simp [*]; done) | omega | (simp; omega) | (rw [IntKind.wrap_i64]; omega) | (intro hx; omega) | rfl)
            simp only [Act.put, List.setIfInBounds_toArray, List.set_cons_zero, List.set_cons_succ]
            refine qw_run (v := .agg #[.int .u64 x0, .int .u64 x1, .int .u64 x2]) (by rfl) ?_ ?_
            · (intro w1 hC; obtain ⟨⟨⟨g00, g01, g02, -, -, -⟩, ⟨g10, g11, g12, -, -, -⟩, ⟨g20, g21, g22, -, -, -⟩, ⟨g30, g31, g32, -, -, -⟩, ⟨g40, g41, g42, -, -, -⟩, -⟩, -⟩ := hC; go_simp; first | done | (simp; done) | (simp [*]; done) | omega | (simp; omega) | (rw [IntKind.wrap_i64]; omega) | (intro hx; omega) | rfl)
            simp only [Act.put, List.setIfInBounds_toArray, List.set_cons_zero, List.set_cons_succ]
            refine qw_call (v := .int .i64 (cba)) (f := 18) (args := #[.agg #[.int .u64 y0, .int .u64 y1, .int .u64 y2], .agg #[.int .u64 x0, .int .u64 x1, .int .u64 x2]]) (by rfl) ?_ ?_ ?_
            · (intro w1 hC; clear hC; go_simp)
            · exact fun w1 hC => (KBA w1).mono fun e w' ⟨he, hb⟩ => ⟨he, Kcs.below hC hb⟩
            simp only [Act.put, List.setIfInBounds_toArray, List.set_cons_zero, List.set_cons_succ]
            refine qw_run (v := .int .i64 (cab)) (by rfl) ?_ ?_
            · (intro w1 hC; obtain ⟨⟨⟨g00, g01, g02, -, -, -⟩, ⟨g10, g11, g12, -, -, -⟩, ⟨g20, g21, g22, -, -, -⟩, ⟨g30, g31, g32, -, -, -⟩, ⟨g40, g41, g42, -, -, -⟩, -⟩, -⟩ := hC; go_simp; first | done | (simp; done) | (simp [*]; done) | omega | (simp; omega) | (rw [IntKind.wrap_i64]; omega) | (intro hx; omega) | rfl)
            simp only [Act.put, List.setIfInBounds_toArray, List.set_cons_zero, List.set_cons_succ]
            refine qw_run (v := .bool false) (by rfl) ?_ ?_
            · (intro w1 hC; obtain ⟨⟨⟨g00, g01, g02, -, -, -⟩, ⟨g10, g11, g12, -, -, -⟩, ⟨g20, g21, g22, -, -, -⟩, ⟨g30, g31, g32, -, -, -⟩, ⟨g40, g41, g42, -, -, -⟩, -⟩, -⟩ := hC; go_simp; first | done | (simp; done) | (simp [*]; done) | omega | (simp; omega) | (rw [IntKind.wrap_i64]; omega) | (intro hx; omega) | rfl)
            simp only [Act.put, List.setIfInBounds_toArray, List.set_cons_zero, List.set_cons_succ]
            refine qw_run (v := .bool false) (by rfl) ?_ ?_
            · (intro w1 hC; obtain ⟨⟨⟨g00, g01, g02, -, -, -⟩, ⟨g10, g11, g12, -, -, -⟩, ⟨g20, g21, g22, -, -, -⟩, ⟨g30, g31, g32, -, -, -⟩, ⟨g40, g41, g42, -, -, -⟩, -⟩, -⟩ := hC; go_simp; first | done | (simp; done) | (simp [*]; done) | omega | (simp; omega) | (rw [IntKind.wrap_i64]; omega) | (intro hx; omega) | rfl)
            simp only [Act.put, List.setIfInBounds_toArray, List.set_cons_zero, List.set_cons_succ]
            refine qw_run (v := .bool false) (by rfl) ?_ ?_
            · (intro w1 hC; obtain ⟨⟨⟨g00, g01, g02, -, -, -⟩, ⟨g10, g11, g12, -, -, -⟩, ⟨g20, g21, g22, -, -, -⟩, ⟨g30, g31, g32, -, -, -⟩, ⟨g40, g41, g42, -, -, -⟩, -⟩, -⟩ := hC; go_simp; first | done | (simp; done) | (simp [*]; done) | omega | (simp; omega) | (rw [IntKind.wrap_i64]; omega) | (intro hx; omega) | rfl)
            simp only [Act.put, List.setIfInBounds_toArray, List.set_cons_zero, List.set_cons_succ]
            refine qw_run (v := .agg #[.int .u64 x0, .int .u64 x1, .int .u64 x2]) (by rfl) ?_ ?_
            · (intro w1 hC; obtain ⟨⟨⟨g00, g01, g02, -, -, -⟩, ⟨g10, g11, g12, -, -, -⟩, ⟨g20, g21, g22, -, -, -⟩, ⟨g30, g31, g32, -, -, -⟩, ⟨g40, g41, g42, -, -, -⟩, -⟩, -⟩ := hC; go_simp; first | done | (simp; done) | (simp [*]; done) | omega | (simp; omega) | (rw [IntKind.wrap_i64]; omega) | (intro hx; omega) | rfl)
            simp only [Act.put, List.setIfInBounds_toArray, List.set_cons_zero, List.set_cons_succ]
            refine qw_run (v := .agg #[.int .u64 y0, .int .u64 y1, .int .u64 y2]) (by rfl) ?_ ?_
            · (intro w1 hC; obtain ⟨⟨⟨g00, g01, g02, -, -, -⟩, ⟨g10, g11, g12, -, -, -⟩, ⟨g20, g21, g22, -, -, -⟩, ⟨g30, g31, g32, -, -, -⟩, ⟨g40, g41, g42, -, -, -⟩, -⟩, -⟩ := hC; go_simp; first | done | (simp; done) | (simp [*]; done) | omega | (simp; omega) | (rw [IntKind.wrap_i64]; omega) | (intro hx; omega) | rfl)
            simp only [Act.put, List.setIfInBounds_toArray, List.set_cons_zero, List.set_cons_succ]
            refine qw_call (v := .int .i64 (cab)) (f := 18) (args := #[.agg #[.int .u64 x0, .int .u64 x1, .int .u64 x2], .agg #[.int .u64 y0, .int .u64 y1, .int .u64 y2]]) (by rfl) ?_ ?_ ?_
            · (intro w1 hC; clear hC; go_simp)
            · exact fun w1 hC => (KAB w1).mono fun e w' ⟨he, hb⟩ => ⟨he, Kcs.below hC hb⟩
            simp only [Act.put, List.setIfInBounds_toArray, List.set_cons_zero, List.set_cons_succ]
            refine qw_run (v := .bool (z1)) (by rfl) ?_ ?_
            · (intro w1 hC; obtain ⟨⟨⟨g00, g01, g02, -, -, -⟩, ⟨g10, g11, g12, -, -, -⟩, ⟨g20, g21, g22, -, -, -⟩, ⟨g30, g31, g32, -, -, -⟩, ⟨g40, g41, g42, -, -, -⟩, -⟩, -⟩ := hC; go_simp; first | done | (simp; done) | (simp [*]; done) | omega | (simp; omega) | (rw [IntKind.wrap_i64]; omega) | (intro hx; omega) | rfl)
            simp only [Act.put, List.setIfInBounds_toArray, List.set_cons_zero, List.set_cons_succ]
            refine qw_run (v := .agg #[.int .u64 x0, .int .u64 x1, .int .u64 x2]) (by rfl) ?_ ?_
            · (intro w1 hC; obtain ⟨⟨⟨g00, g01, g02, -, -, -⟩, ⟨g10, g11, g12, -, -, -⟩, ⟨g20, g21, g22, -, -, -⟩, ⟨g30, g31, g32, -, -, -⟩, ⟨g40, g41, g42, -, -, -⟩, -⟩, -⟩ := hC; go_simp; first | done | (simp; done) | (simp [*]; done) | omega | (simp; omega) | (rw [IntKind.wrap_i64]; omega) | (intro hx; omega) | rfl)
            simp only [Act.put, List.setIfInBounds_toArray, List.set_cons_zero, List.set_cons_succ]
            refine qw_run (v := .agg #[.int .u64 y0, .int .u64 y1, .int .u64 y2]) (by rfl) ?_ ?_
            · (intro w1 hC; obtain ⟨⟨⟨g00, g01, g02, -, -, -⟩, ⟨g10, g11, g12, -, -, -⟩, ⟨g20, g21, g22, -, -, -⟩, ⟨g30, g31, g32, -, -, -⟩, ⟨g40, g41, g42, -, -, -⟩, -⟩, -⟩ := hC; go_simp; first | done | (simp; done) | (simp [*]; done) | omega | (simp; omega) | (rw [IntKind.wrap_i64]; omega) | (intro hx; omega) | rfl)
            simp only [Act.put, List.setIfInBounds_toArray, List.set_cons_zero, List.set_cons_succ]
            refine qw_run (v := .bool (z1)) (by rfl) ?_ ?_
            · (intro w1 hC; obtain ⟨⟨⟨g00, g01, g02, -, -, -⟩, ⟨g10, g11, g12, -, -, -⟩, ⟨g20, g21, g22, -, -, -⟩, ⟨g30, g31, g32, -, -, -⟩, ⟨g40, g41, g42, -, -, -⟩, -⟩, -⟩ := hC; go_simp; first | done | (simp; done) | (simp [*]; done) | omega | (simp; omega) | (rw [IntKind.wrap_i64]; omega) | (intro hx; omega) | rfl)
            simp only [Act.put, List.setIfInBounds_toArray, List.set_cons_zero, List.set_cons_succ]
            refine qw_run (v := .bool false) (by rfl) ?_ ?_
            · (intro w1 hC; obtain ⟨⟨⟨g00, g01, g02, -, -, -⟩, ⟨g10, g11, g12, -, -, -⟩, ⟨g20, g21, g22, -, -, -⟩, ⟨g30, g31, g32, -, -, -⟩, ⟨g40, g41, g42, -, -, -⟩, -⟩, -⟩ := hC; go_simp; first | done | (simp; done) | (simp [*]; done) | omega | (simp; omega) | (rw [IntKind.wrap_i64]; omega) | (intro hx; omega) | rfl)
            simp only [Act.put, List.setIfInBounds_toArray, List.set_cons_zero, List.set_cons_succ]
            refine qw_run (v := .bool false) (by rfl) ?_ ?_
            · (intro w1 hC; obtain ⟨⟨⟨g00, g01, g02, -, -, -⟩, ⟨g10, g11, g12, -, -, -⟩, ⟨g20, g21, g22, -, -, -⟩, ⟨g30, g31, g32, -, -, -⟩, ⟨g40, g41, g42, -, -, -⟩, -⟩, -⟩ := hC; go_simp; first | done | (simp; done) | (simp [*]; done) | omega | (simp; omega) | (rw [IntKind.wrap_i64]; omega) | (intro hx; omega) | rfl)
            simp only [Act.put, List.setIfInBounds_toArray, List.set_cons_zero, List.set_cons_succ]
            refine qw_nil ?_
            intro v3r hC
            have Hr3 := hid9 hC
            clear H3 hC
            obtain ⟨f00, f01, f02, -, -, -⟩ := (Hr3.out.1.2.2.2.2).1
            obtain ⟨f10, f11, f12, -, -, -⟩ := (Hr3.out.1.2.2.2).1
            go_wp2_with fail
            clear f00 f01 f02 f10 f11 f12
            refine (KAB _).mono ?_
            rintro e v4 ⟨rfl, hb⟩
            have H4 := hid9 (Kcs.below Hr3.out hb)
            clear Hr3 hb
            obtain ⟨f00, f01, f02, -, -, -⟩ := (H4.out.1.2.2.2).1
            obtain ⟨f10, f11, f12, -, -, -⟩ := (H4.out.1.2.2).1
            go_wp2_with fail
            clear f00 f01 f02 f10 f11 f12
            refine (KBC _).mono ?_
            rintro e v5 ⟨rfl, hb⟩
            have H5 := hid9 (Kcs.below H4.out hb)
            clear H4 hb
            go_wp2_with fail
            refine qw_region (C := fun W => Kcs w W [(N3, s0, s1, s2), (N2, s0, s1, s2), (w.heap.size + 1 + 1, z0', z1', z2'), (w.heap.size + 1, y0, y1, y2), (w.heap.size, x0, x1, x2)]) (by kernel_rfl) (by kernel_rfl) H5.out.drew ?_
            refine qw_run (v := .agg #[.int .u64 s0, .int .u64 s1, .int .u64 s2]) (by rfl) ?_ ?_
            · (intro w1 hC; obtain ⟨⟨⟨g00, g01, g02, -, -, -⟩, ⟨g10, g11, g12, -, -, -⟩, ⟨g20, g21, g22, -, -, -⟩, ⟨g30, g31, g32, -, -, -⟩, ⟨g40, g41, g42, -, -, -⟩, -⟩, -⟩ := hC; go_simp; first | done | (simp; done) | (simp [*]; done) | omega | (simp; omega) | (rw [IntKind.wrap_i64]; omega) | (intro hx; omega) | rfl)
            simp only [Act.put, List.setIfInBounds_toArray, List.set_cons_zero, List.set_cons_succ]
            refine qw_run (v := .agg #[.int .u64 x0, .int .u64 x1, .int .u64 x2]) (by rfl) ?_ ?_
            · (intro w1 hC; obtain ⟨⟨⟨g00, g01, g02, -, -, -⟩, ⟨g10, g11, g12, -, -, -⟩, ⟨g20, g21, g22, -, -, -⟩, ⟨g30, g31, g32, -, -, -⟩, ⟨g40, g41, g42, -, -, -⟩, -⟩, -⟩ := hC; go_simp; first | done | (simp; done) | (simp [*]; done) | omega | (simp; omega) | (rw [IntKind.wrap_i64]; omega) | (intro hx; omega) | rfl)
            simp only [Act.put, List.setIfInBounds_toArray, List.set_cons_zero, List.set_cons_succ]
            refine qw_call (v := .int .i64 (csa)) (f := 18) (args := #[.agg #[.int .u64 s0, .int .u64 s1, .int .u64 s2], .agg #[.int .u64 x0, .int .u64 x1, .int .u64 x2]]) (by rfl) ?_ ?_ ?_
            · (intro w1 hC; clear hC; go_simp)
            · exact fun w1 hC => (KSA w1).mono fun e w' ⟨he, hb⟩ => ⟨he, Kcs.below hC hb⟩
            simp only [Act.put, List.setIfInBounds_toArray, List.set_cons_zero, List.set_cons_succ]
            refine qw_run (v := .bool false) (by rfl) ?_ ?_
            · (intro w1 hC; obtain ⟨⟨⟨g00, g01, g02, -, -, -⟩, ⟨g10, g11, g12, -, -, -⟩, ⟨g20, g21, g22, -, -, -⟩, ⟨g30, g31, g32, -, -, -⟩, ⟨g40, g41, g42, -, -, -⟩, -⟩, -⟩ := hC; go_simp; first | done | (simp; done) | (simp [*]; done) | omega | (simp; omega) | (rw [IntKind.wrap_i64]; omega) | (intro hx; omega) | rfl)
            simp only [Act.put, List.setIfInBounds_toArray, List.set_cons_zero, List.set_cons_succ]
            refine qw_run (v := .bool false) (by rfl) ?_ ?_
            · (intro w1 hC; obtain ⟨⟨⟨g00, g01, g02, -, -, -⟩, ⟨g10, g11, g12, -, -, -⟩, ⟨g20, g21, g22, -, -, -⟩, ⟨g30, g31, g32, -, -, -⟩, ⟨g40, g41, g42, -, -, -⟩, -⟩, -⟩ := hC; go_simp; first | done | (simp; done) | (simp [*]; done) | omega | (simp; omega) | (rw [IntKind.wrap_i64]; omega) | (intro hx; omega) | rfl)
            simp only [Act.put, List.setIfInBounds_toArray, List.set_cons_zero, List.set_cons_succ]
            refine qw_run (v := .agg #[.int .u64 s0, .int .u64 s1, .int .u64 s2]) (by rfl) ?_ ?_
            · (intro w1 hC; obtain ⟨⟨⟨g00, g01, g02, -, -, -⟩, ⟨g10, g11, g12, -, -, -⟩, ⟨g20, g21, g22, -, -, -⟩, ⟨g30, g31, g32, -, -, -⟩, ⟨g40, g41, g42, -, -, -⟩, -⟩, -⟩ := hC; go_simp; first | done | (simp; done) | (simp [*]; done) | omega | (simp; omega) | (rw [IntKind.wrap_i64]; omega) | (intro hx; omega) | rfl)
            simp only [Act.put, List.setIfInBounds_toArray, List.set_cons_zero, List.set_cons_succ]
            refine qw_run (v := .agg #[.int .u64 x0, .int .u64 x1, .int .u64 x2]) (by rfl) ?_ ?_
            · (intro w1 hC; obtain ⟨⟨⟨g00, g01, g02, -, -, -⟩, ⟨g10, g11, g12, -, -, -⟩, ⟨g20, g21, g22, -, -, -⟩, ⟨g30, g31, g32, -, -, -⟩, ⟨g40, g41, g42, -, -, -⟩, -⟩, -⟩ := hC; go_simp; first | done | (simp; done) | (simp [*]; done) | omega | (simp; omega) | (rw [IntKind.wrap_i64]; omega) | (intro hx; omega) | rfl)
            simp only [Act.put, List.setIfInBounds_toArray, List.set_cons_zero, List.set_cons_succ]
            refine qw_call (v := .int .i64 (csa)) (f := 18) (args := #[.agg #[.int .u64 s0, .int .u64 s1, .int .u64 s2], .agg #[.int .u64 x0, .int .u64 x1, .int .u64 x2]]) (by rfl) ?_ ?_ ?_
            · (intro w1 hC; clear hC; go_simp)
            · exact fun w1 hC => (KSA w1).mono fun e w' ⟨he, hb⟩ => ⟨he, Kcs.below hC hb⟩
            simp only [Act.put, List.setIfInBounds_toArray, List.set_cons_zero, List.set_cons_succ]
            refine qw_run (v := .bool (z2)) (by rfl) ?_ ?_
            · (intro w1 hC; obtain ⟨⟨⟨g00, g01, g02, -, -, -⟩, ⟨g10, g11, g12, -, -, -⟩, ⟨g20, g21, g22, -, -, -⟩, ⟨g30, g31, g32, -, -, -⟩, ⟨g40, g41, g42, -, -, -⟩, -⟩, -⟩ := hC; go_simp; first | done | (simp; done) | (simp [*]; done) | omega | (simp; omega) | (rw [IntKind.wrap_i64]; omega) | (intro hx; omega) | rfl)
            simp only [Act.put, List.setIfInBounds_toArray, List.set_cons_zero, List.set_cons_succ]
            refine qw_run (v := .agg #[.int .u64 y0, .int .u64 y1, .int .u64 y2]) (by rfl) ?_ ?_
            · (intro w1 hC; obtain ⟨⟨⟨g00, g01, g02, -, -, -⟩, ⟨g10, g11, g12, -, -, -⟩, ⟨g20, g21, g22, -, -, -⟩, ⟨g30, g31, g32, -, -, -⟩, ⟨g40, g41, g42, -, -, -⟩, -⟩, -⟩ := hC; go_simp; first | done | (simp; done) | (simp [*]; done) | omega | (simp; omega) | (rw [IntKind.wrap_i64]; omega) | (intro hx; omega) | rfl)
            simp only [Act.put, List.setIfInBounds_toArray, List.set_cons_zero, List.set_cons_succ]
            refine qw_run (v := .agg #[.int .u64 0, .int .u64 0, .int .u64 0]) (by rfl) ?_ ?_
            · (intro w1 hC; obtain ⟨⟨⟨g00, g01, g02, -, -, -⟩, ⟨g10, g11, g12, -, -, -⟩, ⟨g20, g21, g22, -, -, -⟩, ⟨g30, g31, g32, -, -, -⟩, ⟨g40, g41, g42, -, -, -⟩, -⟩, -⟩ := hC; go_simp; first | done | (simp; done) | (simp [*]; done) | omega | (simp; omega) | (rw [IntKind.wrap_i64]; omega) | (intro hx; omega) | rfl)
            simp only [Act.put, List.setIfInBounds_toArray, List.set_cons_zero, List.set_cons_succ]
            refine qw_run (v := .bool (z2)) (by rfl) ?_ ?_
            · (intro w1 hC; obtain ⟨⟨⟨g00, g01, g02, -, -, -⟩, ⟨g10, g11, g12, -, -, -⟩, ⟨g20, g21, g22, -, -, -⟩, ⟨g30, g31, g32, -, -, -⟩, ⟨g40, g41, g42, -, -, -⟩, -⟩, -⟩ := hC; go_simp; first | done | (simp; done) | (simp [*]; done) | omega | (simp; omega) | (rw [IntKind.wrap_i64]; omega) | (intro hx; omega) | rfl)
            simp only [Act.put, List.setIfInBounds_toArray, List.set_cons_zero, List.set_cons_succ]
            refine qw_run (v := .bool false) (by rfl) ?_ ?_
            · (intro w1 hC; obtain ⟨⟨⟨g00, g01, g02, -, -, -⟩, ⟨g10, g11, g12, -, -, -⟩, ⟨g20, g21, g22, -, -, -⟩, ⟨g30, g31, g32, -, -, -⟩, ⟨g40, g41, g42, -, -, -⟩, -⟩, -⟩ := hC; go_simp; first | done | (simp; done) | (simp [*]; done) | omega | (simp; omega) | (rw [IntKind.wrap_i64]; omega) | (intro hx; omega) | rfl)
            simp only [Act.put, List.setIfInBounds_toArray, List.set_cons_zero, List.set_cons_succ]
            refine qw_run (v := .bool false) (by rfl) ?_ ?_
            · (intro w1 hC; obtain ⟨⟨⟨g00, g01, g02, -, -, -⟩, ⟨g10, g11, g12, -, -, -⟩, ⟨g20, g21, g22, -, -, -⟩, ⟨g30, g31, g32, -, -, -⟩, ⟨g40, g41, g42, -, -, -⟩, -⟩, -⟩ := hC; go_simp; first | done | (simp; done) | (simp [*]; done) | omega | (simp; omega) | (rw [IntKind.wrap_i64]; omega) | (intro hx; omega) | rfl)
            simp only [Act.put, List.setIfInBounds_toArray, List.set_cons_zero, List.set_cons_succ]
            refine qw_nil ?_
            intro v6r hC
            have Hr6 := hid9 hC
            clear H5 hC
            obtain ⟨f00, f01, f02, -, -, -⟩ := (Hr6.out.1.2).1
            obtain ⟨f10, f11, f12, -, -, -⟩ := (Hr6.out.1.2.2).1
            go_wp2_with fail
            clear f00 f01 f02 f10 f11 f12
            refine (KU _).mono ?_
            rintro e v7 ⟨rfl, hb⟩
            have H7 := hid9 (Kcs.new (a := u0) (b := u1) (c := u2) Hr6.out hb)
            clear Hr6 hb
            obtain ⟨f00, f01, f02, -, -, -⟩ := (H7.out.1.2.2.2.2).1
            obtain ⟨f10, f11, f12, -, -, -⟩ := (H7.out.1.2.2.2).1
            go_wp2_with fail
            clear f00 f01 f02 f10 f11 f12
            revert H7
            generalize v7.alloc (.cells #[.int .u64 u0, .int .u64 u1, .int .u64 u2] 24) = W7
            generalize v7.heap.size = N7
            intro H7
            refine (KT _).mono ?_
            rintro e v8 ⟨rfl, hb⟩
            have H8 := hid9 (Kcs.new (a := t0) (b := t1) (c := t2) H7.out hb)
            clear H7 hb
            obtain ⟨f00, f01, f02, -, -, -⟩ := (H8.out.1.2.2.2.2.2.2).1
            go_wp2_with fail
            clear f00 f01 f02
            revert H8
            generalize v8.alloc (.cells #[.int .u64 t0, .int .u64 t1, .int .u64 t2] 24) = W8
            generalize v8.heap.size = N8
            intro H8
            refine (KV _).mono ?_
            rintro e v9 ⟨rfl, hb⟩
            have H9 := hid9 (Kcs.new (a := u0) (b := u1) (c := u2) H8.out hb)
            clear H8 hb
            obtain ⟨f00, f01, f02, -, -, -⟩ := (H9.out.1.2.2).1
            obtain ⟨f10, f11, f12, -, -, -⟩ := (H9.out.1).1
            go_wp2
            go_ret
            exact ⟨rfl, H9.out.2⟩
        · have d1 : decide (cmpN N M ≤ 0) = false := decide_eq_false (fun h => o1 (l1.mp h))
          clear l1 l2 l3 hN hM hK o1
          generalize cmpN N M = cab at *
          generalize cmpN M N = cba at *
          generalize cmpN M K = cbc at *
          generalize cmpN N K = cac at *
          have H0 := hid9 (Kcs.three w x0 x1 x2 y0 y1 y2 z0' z1' z2')
          go_enter Try.func6, Try.ntmps6
          go_wp2_with fail
          revert H0
          generalize ((w.alloc (.cells #[.int .u64 x0, .int .u64 x1, .int .u64 x2] 24)).alloc (.cells #[.int .u64 y0, .int .u64 y1, .int .u64 y2] 24)).alloc (.cells #[.int .u64 z0', .int .u64 z1', .int .u64 z2'] 24) = W0
          intro H0
          refine (KK _).mono ?_
          rintro e v1 ⟨rfl, hb⟩
          have H1 := hid9 (Kcs.below H0.out hb)
          clear H0 hb
          obtain ⟨f00, f01, f02, -, -, -⟩ := (H1.out.1.2.2).1
          obtain ⟨f10, f11, f12, -, -, -⟩ := (H1.out.1.2).1
          go_wp2_with fail
          clear f00 f01 f02 f10 f11 f12
          refine (KS _).mono ?_
          rintro e v2 ⟨rfl, hb⟩
          have H2 := hid9 (Kcs.new (a := s0) (b := s1) (c := s2) H1.out hb)
          clear H1 hb
          obtain ⟨f00, f01, f02, -, -, -⟩ := (H2.out.1.2.2.2).1
          obtain ⟨f10, f11, f12, -, -, -⟩ := (H2.out.1.2.2).1
          go_wp2_with fail
          clear f00 f01 f02 f10 f11 f12
          revert H2
          generalize v2.alloc (.cells #[.int .u64 s0, .int .u64 s1, .int .u64 s2] 24) = W2
          generalize v2.heap.size = N2
          intro H2
          refine (KS2 _).mono ?_
          rintro e v3 ⟨rfl, hb⟩
          have H3 := hid9 (Kcs.new (a := s0) (b := s1) (c := s2) H2.out hb)
          clear H2 hb
          go_wp2_with fail
          revert H3
          generalize v3.alloc (.cells #[.int .u64 s0, .int .u64 s1, .int .u64 s2] 24) = W3
          generalize v3.heap.size = N3
          intro H3
          refine qw_region (C := fun W => Kcs w W [(N3, s0, s1, s2), (N2, s0, s1, s2), (w.heap.size + 1 + 1, z0', z1', z2'), (w.heap.size + 1, y0, y1, y2), (w.heap.size, x0, x1, x2)]) (by kernel_rfl) (by kernel_rfl) H3.out.drew ?_
          refine qw_run (v := .int .i64 (0)) (by rfl) ?_ ?_
          · (intro w1 hC; obtain ⟨⟨⟨g00, g01, g02, -, -, -⟩, ⟨g10, g11, g12, -, -, -⟩, ⟨g20, g21, g22, -, -, -⟩, ⟨g30, g31, g32, -, -, -⟩, ⟨g40, g41, g42, -, -, -⟩, -⟩, -⟩ := hC; go_simp; first | done | (simp; done) | (simp [*]; done) | omega | (simp; omega) | (rw [IntKind.wrap_i64]; omega) | (intro hx; omega) | rfl)
          simp only [Act.put, List.setIfInBounds_toArray, List.set_cons_zero, List.set_cons_succ]
          refine qw_run (v := .int .i64 (0)) (by rfl) ?_ ?_
          · (intro w1 hC; obtain ⟨⟨⟨g00, g01, g02, -, -, -⟩, ⟨g10, g11, g12, -, -, -⟩, ⟨g20, g21, g22, -, -, -⟩, ⟨g30, g31, g32, -, -, -⟩, ⟨g40, g41, g42, -, -, -⟩, -⟩, -⟩ := hC; go_simp; first | done | (simp; done) | (simp [*]; done) | omega | (simp; omega) | (rw [IntKind.wrap_i64]; omega) | (intro hx; omega) | rfl)
          simp only [Act.put, List.setIfInBounds_toArray, List.set_cons_zero, List.set_cons_succ]
          refine qw_run (v := .bool false) (by rfl) ?_ ?_
          · (intro w1 hC; obtain ⟨⟨⟨g00, g01, g02, -, -, -⟩, ⟨g10, g11, g12, -, -, -⟩, ⟨g20, g21, g22, -, -, -⟩, ⟨g30, g31, g32, -, -, -⟩, ⟨g40, g41, g42, -, -, -⟩, -⟩, -⟩ := hC; go_simp; first | done | (simp; done) | (simp [*]; done) | omega | (simp; omega) | (rw [IntKind.wrap_i64]; omega) | (intro hx; omega) | rfl)
          simp only [Act.put, List.setIfInBounds_toArray, List.set_cons_zero, List.set_cons_succ]
          refine qw_run (v := .bool false) (by rfl) ?_ ?_
          · (intro w1 hC; obtain ⟨⟨⟨g00, g01, g02, -, -, -⟩, ⟨g10, g11, g12, -, -, -⟩, ⟨g20, g21, g22, -, -, -⟩, ⟨g30, g31, g32, -, -, -⟩, ⟨g40, g41, g42, -, -, -⟩, -⟩, -⟩ := hC; go_simp; first | done | (simp; done) | (simp [*]; done) | omega | (simp; omega) | (rw [IntKind.wrap_i64]; omega) | (intro hx; omega) | rfl)
          simp only [Act.put, List.setIfInBounds_toArray, List.set_cons_zero, List.set_cons_succ]
          refine qw_run (v := .agg #[.int .u64 s0, .int .u64 s1, .int .u64 s2]) (by rfl) ?_ ?_
          · (intro w1 hC; obtain ⟨⟨⟨g00, g01, g02, -, -, -⟩, ⟨g10, g11, g12, -, -, -⟩, ⟨g20, g21, g22, -, -, -⟩, ⟨g30, g31, g32, -, -, -⟩, ⟨g40, g41, g42, -, -, -⟩, -⟩, -⟩ := hC; go_simp; first | done | (simp; done) | (simp [*]; done) | omega | (simp; omega) | (rw [IntKind.wrap_i64]; omega) | (intro hx; omega) | rfl)
          simp only [Act.put, List.setIfInBounds_toArray, List.set_cons_zero, List.set_cons_succ]
          refine qw_run (v := .agg #[.int .u64 s0, .int .u64 s1, .int .u64 s2]) (by rfl) ?_ ?_
          · (intro w1 hC; obtain ⟨⟨⟨g00, g01, g02, -, -, -⟩, ⟨g10, g11, g12, -, -, -⟩, ⟨g20, g21, g22, -, -, -⟩, ⟨g30, g31, g32, -, -, -⟩, ⟨g40, g41, g42, -, -, -⟩, -⟩, -⟩ := hC; go_simp; first | done | (simp; done) | (simp [*]; done) | omega | (simp; omega) | (rw [IntKind.wrap_i64]; omega) | (intro hx; omega) | rfl)
          simp only [Act.put, List.setIfInBounds_toArray, List.set_cons_zero, List.set_cons_succ]
          refine qw_run (v := .bool false) (by rfl) ?_ ?_
          · (intro w1 hC; obtain ⟨⟨⟨g00, g01, g02, -, -, -⟩, ⟨g10, g11, g12, -, -, -⟩, ⟨g20, g21, g22, -, -, -⟩, ⟨g30, g31, g32, -, -, -⟩, ⟨g40, g41, g42, -, -, -⟩, -⟩, -⟩ := hC; go_simp; first | done | (simp; done) | (simp [*]; done) | omega | (simp; omega) | (rw [IntKind.wrap_i64]; omega) | (intro hx; omega) | rfl)
          simp only [Act.put, List.setIfInBounds_toArray, List.set_cons_zero, List.set_cons_succ]
          refine qw_run (v := .bool false) (by rfl) ?_ ?_
          · (intro w1 hC; obtain ⟨⟨⟨g00, g01, g02, -, -, -⟩, ⟨g10, g11, g12, -, -, -⟩, ⟨g20, g21, g22, -, -, -⟩, ⟨g30, g31, g32, -, -, -⟩, ⟨g40, g41, g42, -, -, -⟩, -⟩, -⟩ := hC; go_simp; first | done | (simp; done) | (simp [*]; done) | omega | (simp; omega) | (rw [IntKind.wrap_i64]; omega) | (intro hx; omega) | rfl)
          simp only [Act.put, List.setIfInBounds_toArray, List.set_cons_zero, List.set_cons_succ]
          refine qw_run (v := .bool false) (by rfl) ?_ ?_
          · (intro w1 hC; obtain ⟨⟨⟨g00, g01, g02, -, -, -⟩, ⟨g10, g11, g12, -, -, -⟩, ⟨g20, g21, g22, -, -, -⟩, ⟨g30, g31, g32, -, -, -⟩, ⟨g40, g41, g42, -, -, -⟩, -⟩, -⟩ := hC; go_simp; first | done | (simp; done) | (simp [*]; done) | omega | (simp; omega) | (rw [IntKind.wrap_i64]; omega) | (intro hx; omega) | rfl)
          simp only [Act.put, List.setIfInBounds_toArray, List.set_cons_zero, List.set_cons_succ]
          refine qw_run (v := .agg #[.int .u64 x0, .int .u64 x1, .int .u64 x2]) (by rfl) ?_ ?_
          · (intro w1 hC; obtain ⟨⟨⟨g00, g01, g02, -, -, -⟩, ⟨g10, g11, g12, -, -, -⟩, ⟨g20, g21, g22, -, -, -⟩, ⟨g30, g31, g32, -, -, -⟩, ⟨g40, g41, g42, -, -, -⟩, -⟩, -⟩ := hC; go_simp; first | done | (simp; done) | (simp [*]; done) | omega | (simp; omega) | (rw [IntKind.wrap_i64]; omega) | (intro hx; omega) | rfl)
          simp only [Act.put, List.setIfInBounds_toArray, List.set_cons_zero, List.set_cons_succ]
          refine qw_run (v := .agg #[.int .u64 y0, .int .u64 y1, .int .u64 y2]) (by rfl) ?_ ?_
          · (intro w1 hC; obtain ⟨⟨⟨g00, g01, g02, -, -, -⟩, ⟨g10, g11, g12, -, -, -⟩, ⟨g20, g21, g22, -, -, -⟩, ⟨g30, g31, g32, -, -, -⟩, ⟨g40, g41, g42, -, -, -⟩, -⟩, -⟩ := hC; go_simp; first | done | (simp; done) | (simp [*]; done) | omega | (simp; omega) | (rw [IntKind.wrap_i64]; omega) | (intro hx; omega) | rfl)
          simp only [Act.put, List.setIfInBounds_toArray, List.set_cons_zero, List.set_cons_succ]
          refine qw_call (v := .int .i64 (cab)) (f := 18) (args := #[.agg #[.int .u64 x0, .int .u64 x1, .int .u64 x2], .agg #[.int .u64 y0, .int .u64 y1, .int .u64 y2]]) (by rfl) ?_ ?_ ?_
          · (intro w1 hC; clear hC; go_simp)
          · exact fun w1 hC => (KAB w1).mono fun e w' ⟨he, hb⟩ => ⟨he, Kcs.below hC hb⟩
          simp only [Act.put, List.setIfInBounds_toArray, List.set_cons_zero, List.set_cons_succ]
          refine qw_run (v := .agg #[.int .u64 y0, .int .u64 y1, .int .u64 y2]) (by rfl) ?_ ?_
          · (intro w1 hC; obtain ⟨⟨⟨g00, g01, g02, -, -, -⟩, ⟨g10, g11, g12, -, -, -⟩, ⟨g20, g21, g22, -, -, -⟩, ⟨g30, g31, g32, -, -, -⟩, ⟨g40, g41, g42, -, -, -⟩, -⟩, -⟩ := hC; go_simp; first | done | (simp; done) | (simp [*]; done) | omega | (simp; omega) | (rw [IntKind.wrap_i64]; omega) | (intro hx; omega) | rfl)
          simp only [Act.put, List.setIfInBounds_toArray, List.set_cons_zero, List.set_cons_succ]
          refine qw_run (v := .agg #[.int .u64 x0, .int .u64 x1, .int .u64 x2]) (by rfl) ?_ ?_
          · (intro w1 hC; obtain ⟨⟨⟨g00, g01, g02, -, -, -⟩, ⟨g10, g11, g12, -, -, -⟩, ⟨g20, g21, g22, -, -, -⟩, ⟨g30, g31, g32, -, -, -⟩, ⟨g40, g41, g42, -, -, -⟩, -⟩, -⟩ := hC; go_simp; first | done | (simp; done) | (simp [*]; done) | omega | (simp; omega) | (rw [IntKind.wrap_i64]; omega) | (intro hx; omega) | rfl)
          simp only [Act.put, List.setIfInBounds_toArray, List.set_cons_zero, List.set_cons_succ]
          refine qw_call (v := .int .i64 (cba)) (f := 18) (args := #[.agg #[.int .u64 y0, .int .u64 y1, .int .u64 y2], .agg #[.int .u64 x0, .int .u64 x1, .int .u64 x2]]) (by rfl) ?_ ?_ ?_
          · (intro w1 hC; clear hC; go_simp)
          · exact fun w1 hC => (KBA w1).mono fun e w' ⟨he, hb⟩ => ⟨he, Kcs.below hC hb⟩
          simp only [Act.put, List.setIfInBounds_toArray, List.set_cons_zero, List.set_cons_succ]
          refine qw_run (v := .int .i64 (cab)) (by rfl) ?_ ?_
          · (intro w1 hC; obtain ⟨⟨⟨g00, g01, g02, -, -, -⟩, ⟨g10, g11, g12, -, -, -⟩, ⟨g20, g21, g22, -, -, -⟩, ⟨g30, g31, g32, -, -, -⟩, ⟨g40, g41, g42, -, -, -⟩, -⟩, -⟩ := hC; go_simp; first | done | (simp; done) | (simp [*]; done) | omega | (simp; omega) | (rw [IntKind.wrap_i64]; omega) | (intro hx; omega) | rfl)
          simp only [Act.put, List.setIfInBounds_toArray, List.set_cons_zero, List.set_cons_succ]
          refine qw_run (v := .bool false) (by rfl) ?_ ?_
          · (intro w1 hC; obtain ⟨⟨⟨g00, g01, g02, -, -, -⟩, ⟨g10, g11, g12, -, -, -⟩, ⟨g20, g21, g22, -, -, -⟩, ⟨g30, g31, g32, -, -, -⟩, ⟨g40, g41, g42, -, -, -⟩, -⟩, -⟩ := hC; go_simp; first | done | (simp; done) | (simp [*]; done) | omega | (simp; omega) | (rw [IntKind.wrap_i64]; omega) | (intro hx; omega) | rfl)
          simp only [Act.put, List.setIfInBounds_toArray, List.set_cons_zero, List.set_cons_succ]
          refine qw_run (v := .bool false) (by rfl) ?_ ?_
          · (intro w1 hC; obtain ⟨⟨⟨g00, g01, g02, -, -, -⟩, ⟨g10, g11, g12, -, -, -⟩, ⟨g20, g21, g22, -, -, -⟩, ⟨g30, g31, g32, -, -, -⟩, ⟨g40, g41, g42, -, -, -⟩, -⟩, -⟩ := hC; go_simp; first | done | (simp; done) | (simp [*]; done) | omega | (simp; omega) | (rw [IntKind.wrap_i64]; omega) | (intro hx; omega) | rfl)
          simp only [Act.put, List.setIfInBounds_toArray, List.set_cons_zero, List.set_cons_succ]
          refine qw_run (v := .bool false) (by rfl) ?_ ?_
          · (intro w1 hC; obtain ⟨⟨⟨g00, g01, g02, -, -, -⟩, ⟨g10, g11, g12, -, -, -⟩, ⟨g20, g21, g22, -, -, -⟩, ⟨g30, g31, g32, -, -, -⟩, ⟨g40, g41, g42, -, -, -⟩, -⟩, -⟩ := hC; go_simp; first | done | (simp; done) | (simp [*]; done) | omega | (simp; omega) | (rw [IntKind.wrap_i64]; omega) | (intro hx; omega) | rfl)
          simp only [Act.put, List.setIfInBounds_toArray, List.set_cons_zero, List.set_cons_succ]
          refine qw_run (v := .agg #[.int .u64 x0, .int .u64 x1, .int .u64 x2]) (by rfl) ?_ ?_
          · (intro w1 hC; obtain ⟨⟨⟨g00, g01, g02, -, -, -⟩, ⟨g10, g11, g12, -, -, -⟩, ⟨g20, g21, g22, -, -, -⟩, ⟨g30, g31, g32, -, -, -⟩, ⟨g40, g41, g42, -, -, -⟩, -⟩, -⟩ := hC; go_simp; first | done | (simp; done) | (simp [*]; done) | omega | (simp; omega) | (rw [IntKind.wrap_i64]; omega) | (intro hx; omega) | rfl)
          simp only [Act.put, List.setIfInBounds_toArray, List.set_cons_zero, List.set_cons_succ]
          refine qw_run (v := .agg #[.int .u64 y0, .int .u64 y1, .int .u64 y2]) (by rfl) ?_ ?_
          · (intro w1 hC; obtain ⟨⟨⟨g00, g01, g02, -, -, -⟩, ⟨g10, g11, g12, -, -, -⟩, ⟨g20, g21, g22, -, -, -⟩, ⟨g30, g31, g32, -, -, -⟩, ⟨g40, g41, g42, -, -, -⟩, -⟩, -⟩ := hC; go_simp; first | done | (simp; done) | (simp [*]; done) | omega | (simp; omega) | (rw [IntKind.wrap_i64]; omega) | (intro hx; omega) | rfl)
          simp only [Act.put, List.setIfInBounds_toArray, List.set_cons_zero, List.set_cons_succ]
          refine qw_call (v := .int .i64 (cab)) (f := 18) (args := #[.agg #[.int .u64 x0, .int .u64 x1, .int .u64 x2], .agg #[.int .u64 y0, .int .u64 y1, .int .u64 y2]]) (by rfl) ?_ ?_ ?_
          · (intro w1 hC; clear hC; go_simp)
          · exact fun w1 hC => (KAB w1).mono fun e w' ⟨he, hb⟩ => ⟨he, Kcs.below hC hb⟩
          simp only [Act.put, List.setIfInBounds_toArray, List.set_cons_zero, List.set_cons_succ]
          refine qw_run (v := .bool (z1)) (by rfl) ?_ ?_
          · (intro w1 hC; obtain ⟨⟨⟨g00, g01, g02, -, -, -⟩, ⟨g10, g11, g12, -, -, -⟩, ⟨g20, g21, g22, -, -, -⟩, ⟨g30, g31, g32, -, -, -⟩, ⟨g40, g41, g42, -, -, -⟩, -⟩, -⟩ := hC; go_simp; first | done | (simp; done) | (simp [*]; done) | omega | (simp; omega) | (rw [IntKind.wrap_i64]; omega) | (intro hx; omega) | rfl)
          simp only [Act.put, List.setIfInBounds_toArray, List.set_cons_zero, List.set_cons_succ]
          refine qw_run (v := .agg #[.int .u64 x0, .int .u64 x1, .int .u64 x2]) (by rfl) ?_ ?_
          · (intro w1 hC; obtain ⟨⟨⟨g00, g01, g02, -, -, -⟩, ⟨g10, g11, g12, -, -, -⟩, ⟨g20, g21, g22, -, -, -⟩, ⟨g30, g31, g32, -, -, -⟩, ⟨g40, g41, g42, -, -, -⟩, -⟩, -⟩ := hC; go_simp; first | done | (simp; done) | (simp [*]; done) | omega | (simp; omega) | (rw [IntKind.wrap_i64]; omega) | (intro hx; omega) | rfl)
          simp only [Act.put, List.setIfInBounds_toArray, List.set_cons_zero, List.set_cons_succ]
          refine qw_run (v := .agg #[.int .u64 y0, .int .u64 y1, .int .u64 y2]) (by rfl) ?_ ?_
          · (intro w1 hC; obtain ⟨⟨⟨g00, g01, g02, -, -, -⟩, ⟨g10, g11, g12, -, -, -⟩, ⟨g20, g21, g22, -, -, -⟩, ⟨g30, g31, g32, -, -, -⟩, ⟨g40, g41, g42, -, -, -⟩, -⟩, -⟩ := hC; go_simp; first | done | (simp; done) | (simp [*]; done) | omega | (simp; omega) | (rw [IntKind.wrap_i64]; omega) | (intro hx; omega) | rfl)
          simp only [Act.put, List.setIfInBounds_toArray, List.set_cons_zero, List.set_cons_succ]
          refine qw_run (v := .bool (z1)) (by rfl) ?_ ?_
          · (intro w1 hC; obtain ⟨⟨⟨g00, g01, g02, -, -, -⟩, ⟨g10, g11, g12, -, -, -⟩, ⟨g20, g21, g22, -, -, -⟩, ⟨g30, g31, g32, -, -, -⟩, ⟨g40, g41, g42, -, -, -⟩, -⟩, -⟩ := hC; go_simp; first | done | (simp; done) | (simp [*]; done) | omega | (simp; omega) | (rw [IntKind.wrap_i64]; omega) | (intro hx; omega) | rfl)
          simp only [Act.put, List.setIfInBounds_toArray, List.set_cons_zero, List.set_cons_succ]
          refine qw_run (v := .bool false) (by rfl) ?_ ?_
          · (intro w1 hC; obtain ⟨⟨⟨g00, g01, g02, -, -, -⟩, ⟨g10, g11, g12, -, -, -⟩, ⟨g20, g21, g22, -, -, -⟩, ⟨g30, g31, g32, -, -, -⟩, ⟨g40, g41, g42, -, -, -⟩, -⟩, -⟩ := hC; go_simp; first | done | (simp; done) | (simp [*]; done) | omega | (simp; omega) | (rw [IntKind.wrap_i64]; omega) | (intro hx; omega) | rfl)
          simp only [Act.put, List.setIfInBounds_toArray, List.set_cons_zero, List.set_cons_succ]
          refine qw_run (v := .bool false) (by rfl) ?_ ?_
          · (intro w1 hC; obtain ⟨⟨⟨g00, g01, g02, -, -, -⟩, ⟨g10, g11, g12, -, -, -⟩, ⟨g20, g21, g22, -, -, -⟩, ⟨g30, g31, g32, -, -, -⟩, ⟨g40, g41, g42, -, -, -⟩, -⟩, -⟩ := hC; go_simp; first | done | (simp; done) | (simp [*]; done) | omega | (simp; omega) | (rw [IntKind.wrap_i64]; omega) | (intro hx; omega) | rfl)
          simp only [Act.put, List.setIfInBounds_toArray, List.set_cons_zero, List.set_cons_succ]
          refine qw_nil ?_
          intro v3r hC
          have Hr3 := hid9 hC
          clear H3 hC
          obtain ⟨f00, f01, f02, -, -, -⟩ := (Hr3.out.1.2.2.2.2).1
          obtain ⟨f10, f11, f12, -, -, -⟩ := (Hr3.out.1.2.2.2).1
          go_wp2_with fail
          clear f00 f01 f02 f10 f11 f12
          refine (KAB _).mono ?_
          rintro e v4 ⟨rfl, hb⟩
          have H4 := hid9 (Kcs.below Hr3.out hb)
          clear Hr3 hb
          go_wp2_with fail
          refine qw_region (C := fun W => Kcs w W [(N3, s0, s1, s2), (N2, s0, s1, s2), (w.heap.size + 1 + 1, z0', z1', z2'), (w.heap.size + 1, y0, y1, y2), (w.heap.size, x0, x1, x2)]) (by kernel_rfl) (by kernel_rfl) H4.out.drew ?_
          refine qw_run (v := .agg #[.int .u64 s0, .int .u64 s1, .int .u64 s2]) (by rfl) ?_ ?_
          · (intro w1 hC; obtain ⟨⟨⟨g00, g01, g02, -, -, -⟩, ⟨g10, g11, g12, -, -, -⟩, ⟨g20, g21, g22, -, -, -⟩, ⟨g30, g31, g32, -, -, -⟩, ⟨g40, g41, g42, -, -, -⟩, -⟩, -⟩ := hC; go_simp; first | done | (simp; done) | (simp [*]; done) | omega | (simp; omega) | (rw [IntKind.wrap_i64]; omega) | (intro hx; omega) | rfl)
          simp only [Act.put, List.setIfInBounds_toArray, List.set_cons_zero, List.set_cons_succ]
          refine qw_run (v := .agg #[.int .u64 x0, .int .u64 x1, .int .u64 x2]) (by rfl) ?_ ?_
          · (intro w1 hC; obtain ⟨⟨⟨g00, g01, g02, -, -, -⟩, ⟨g10, g11, g12, -, -, -⟩, ⟨g20, g21, g22, -, -, -⟩, ⟨g30, g31, g32, -, -, -⟩, ⟨g40, g41, g42, -, -, -⟩, -⟩, -⟩ := hC; go_simp; first | done | (simp; done) | (simp [*]; done) | omega | (simp; omega) | (rw [IntKind.wrap_i64]; omega) | (intro hx; omega) | rfl)
          simp only [Act.put, List.setIfInBounds_toArray, List.set_cons_zero, List.set_cons_succ]
          refine qw_call (v := .int .i64 (csa)) (f := 18) (args := #[.agg #[.int .u64 s0, .int .u64 s1, .int .u64 s2], .agg #[.int .u64 x0, .int .u64 x1, .int .u64 x2]]) (by rfl) ?_ ?_ ?_
          · (intro w1 hC; clear hC; go_simp)
          · exact fun w1 hC => (KSA w1).mono fun e w' ⟨he, hb⟩ => ⟨he, Kcs.below hC hb⟩
          simp only [Act.put, List.setIfInBounds_toArray, List.set_cons_zero, List.set_cons_succ]
          refine qw_run (v := .bool false) (by rfl) ?_ ?_
          · (intro w1 hC; obtain ⟨⟨⟨g00, g01, g02, -, -, -⟩, ⟨g10, g11, g12, -, -, -⟩, ⟨g20, g21, g22, -, -, -⟩, ⟨g30, g31, g32, -, -, -⟩, ⟨g40, g41, g42, -, -, -⟩, -⟩, -⟩ := hC; go_simp; first | done | (simp; done) | (simp [*]; done) | omega | (simp; omega) | (rw [IntKind.wrap_i64]; omega) | (intro hx; omega) | rfl)
          simp only [Act.put, List.setIfInBounds_toArray, List.set_cons_zero, List.set_cons_succ]
          refine qw_run (v := .bool false) (by rfl) ?_ ?_
          · (intro w1 hC; obtain ⟨⟨⟨g00, g01, g02, -, -, -⟩, ⟨g10, g11, g12, -, -, -⟩, ⟨g20, g21, g22, -, -, -⟩, ⟨g30, g31, g32, -, -, -⟩, ⟨g40, g41, g42, -, -, -⟩, -⟩, -⟩ := hC; go_simp; first | done | (simp; done) | (simp [*]; done) | omega | (simp; omega) | (rw [IntKind.wrap_i64]; omega) | (intro hx; omega) | rfl)
          simp only [Act.put, List.setIfInBounds_toArray, List.set_cons_zero, List.set_cons_succ]
          refine qw_run (v := .agg #[.int .u64 s0, .int .u64 s1, .int .u64 s2]) (by rfl) ?_ ?_
          · (intro w1 hC; obtain ⟨⟨⟨g00, g01, g02, -, -, -⟩, ⟨g10, g11, g12, -, -, -⟩, ⟨g20, g21, g22, -, -, -⟩, ⟨g30, g31, g32, -, -, -⟩, ⟨g40, g41, g42, -, -, -⟩, -⟩, -⟩ := hC; go_simp; first | done | (simp; done) | (simp [*]; done) | omega | (simp; omega) | (rw [IntKind.wrap_i64]; omega) | (intro hx; omega) | rfl)
          simp only [Act.put, List.setIfInBounds_toArray, List.set_cons_zero, List.set_cons_succ]
          refine qw_run (v := .agg #[.int .u64 x0, .int .u64 x1, .int .u64 x2]) (by rfl) ?_ ?_
          · (intro w1 hC; obtain ⟨⟨⟨g00, g01, g02, -, -, -⟩, ⟨g10, g11, g12, -, -, -⟩, ⟨g20, g21, g22, -, -, -⟩, ⟨g30, g31, g32, -, -, -⟩, ⟨g40, g41, g42, -, -, -⟩, -⟩, -⟩ := hC; go_simp; first | done | (simp; done) | (simp [*]; done) | omega | (simp; omega) | (rw [IntKind.wrap_i64]; omega) | (intro hx; omega) | rfl)
          simp only [Act.put, List.setIfInBounds_toArray, List.set_cons_zero, List.set_cons_succ]
          refine qw_call (v := .int .i64 (csa)) (f := 18) (args := #[.agg #[.int .u64 s0, .int .u64 s1, .int .u64 s2], .agg #[.int .u64 x0, .int .u64 x1, .int .u64 x2]]) (by rfl) ?_ ?_ ?_
          · (intro w1 hC; clear hC; go_simp)
          · exact fun w1 hC => (KSA w1).mono fun e w' ⟨he, hb⟩ => ⟨he, Kcs.below hC hb⟩
          simp only [Act.put, List.setIfInBounds_toArray, List.set_cons_zero, List.set_cons_succ]
          refine qw_run (v := .bool (z2)) (by rfl) ?_ ?_
          · (intro w1 hC; obtain ⟨⟨⟨g00, g01, g02, -, -, -⟩, ⟨g10, g11, g12, -, -, -⟩, ⟨g20, g21, g22, -, -, -⟩, ⟨g30, g31, g32, -, -, -⟩, ⟨g40, g41, g42, -, -, -⟩, -⟩, -⟩ := hC; go_simp; first | done | (simp; done) | (simp [*]; done) | omega | (simp; omega) | (rw [IntKind.wrap_i64]; omega) | (intro hx; omega) | rfl)
          simp only [Act.put, List.setIfInBounds_toArray, List.set_cons_zero, List.set_cons_succ]
          refine qw_run (v := .agg #[.int .u64 y0, .int .u64 y1, .int .u64 y2]) (by rfl) ?_ ?_
          · (intro w1 hC; obtain ⟨⟨⟨g00, g01, g02, -, -, -⟩, ⟨g10, g11, g12, -, -, -⟩, ⟨g20, g21, g22, -, -, -⟩, ⟨g30, g31, g32, -, -, -⟩, ⟨g40, g41, g42, -, -, -⟩, -⟩, -⟩ := hC; go_simp; first | done | (simp; done) | (simp [*]; done) | omega | (simp; omega) | (rw [IntKind.wrap_i64]; omega) | (intro hx; omega) | rfl)
          simp only [Act.put, List.setIfInBounds_toArray, List.set_cons_zero, List.set_cons_succ]
          refine qw_run (v := .agg #[.int .u64 0, .int .u64 0, .int .u64 0]) (by rfl) ?_ ?_
          · (intro w1 hC; obtain ⟨⟨⟨g00, g01, g02, -, -, -⟩, ⟨g10, g11, g12, -, -, -⟩, ⟨g20, g21, g22, -, -, -⟩, ⟨g30, g31, g32, -, -, -⟩, ⟨g40, g41, g42, -, -, -⟩, -⟩, -⟩ := hC; go_simp; first | done | (simp; done) | (simp [*]; done) | omega | (simp; omega) | (rw [IntKind.wrap_i64]; omega) | (intro hx; omega) | rfl)
          simp only [Act.put, List.setIfInBounds_toArray, List.set_cons_zero, List.set_cons_succ]
          refine qw_run (v := .bool (z2)) (by rfl) ?_ ?_
          · (intro w1 hC; obtain ⟨⟨⟨g00, g01, g02, -, -, -⟩, ⟨g10, g11, g12, -, -, -⟩, ⟨g20, g21, g22, -, -, -⟩, ⟨g30, g31, g32, -, -, -⟩, ⟨g40, g41, g42, -, -, -⟩, -⟩, -⟩ := hC; go_simp; first | done | (simp; done) | (simp [*]; done) | omega | (simp; omega) | (rw [IntKind.wrap_i64]; omega) | (intro hx; omega) | rfl)
          simp only [Act.put, List.setIfInBounds_toArray, List.set_cons_zero, List.set_cons_succ]
          refine qw_run (v := .bool false) (by rfl) ?_ ?_
          · (intro w1 hC; obtain ⟨⟨⟨g00, g01, g02, -, -, -⟩, ⟨g10, g11, g12, -, -, -⟩, ⟨g20, g21, g22, -, -, -⟩, ⟨g30, g31, g32, -, -, -⟩, ⟨g40, g41, g42, -, -, -⟩, -⟩, -⟩ := hC; go_simp; first | done | (simp; done) | (simp [*]; done) | omega | (simp; omega) | (rw [IntKind.wrap_i64]; omega) | (intro hx; omega) | rfl)
          simp only [Act.put, List.setIfInBounds_toArray, List.set_cons_zero, List.set_cons_succ]
          refine qw_run (v := .bool false) (by rfl) ?_ ?_
          · (intro w1 hC; obtain ⟨⟨⟨g00, g01, g02, -, -, -⟩, ⟨g10, g11, g12, -, -, -⟩, ⟨g20, g21, g22, -, -, -⟩, ⟨g30, g31, g32, -, -, -⟩, ⟨g40, g41, g42, -, -, -⟩, -⟩, -⟩ := hC; go_simp; first | done | (simp; done) | (simp [*]; done) | omega | (simp; omega) | (rw [IntKind.wrap_i64]; omega) | (intro hx; omega) | rfl)
          simp only [Act.put, List.setIfInBounds_toArray, List.set_cons_zero, List.set_cons_succ]
          refine qw_nil ?_
          intro v5r hC
          have Hr5 := hid9 hC
          clear H4 hC
          obtain ⟨f00, f01, f02, -, -, -⟩ := (Hr5.out.1.2).1
          obtain ⟨f10, f11, f12, -, -, -⟩ := (Hr5.out.1.2.2).1
          go_wp2_with fail
          clear f00 f01 f02 f10 f11 f12
          refine (KU _).mono ?_
          rintro e v6 ⟨rfl, hb⟩
          have H6 := hid9 (Kcs.new (a := u0) (b := u1) (c := u2) Hr5.out hb)
          clear Hr5 hb
          obtain ⟨f00, f01, f02, -, -, -⟩ := (H6.out.1.2.2.2.2).1
          obtain ⟨f10, f11, f12, -, -, -⟩ := (H6.out.1.2.2.2).1
          go_wp2_with fail
          clear f00 f01 f02 f10 f11 f12
          revert H6
          generalize v6.alloc (.cells #[.int .u64 u0, .int .u64 u1, .int .u64 u2] 24) = W6
          generalize v6.heap.size = N6
          intro H6
          refine (KT _).mono ?_
          rintro e v7 ⟨rfl, hb⟩
          have H7 := hid9 (Kcs.new (a := t0) (b := t1) (c := t2) H6.out hb)
          clear H6 hb
          obtain ⟨f00, f01, f02, -, -, -⟩ := (H7.out.1.2.2.2.2.2.2).1
          go_wp2_with fail
          clear f00 f01 f02
          revert H7
          generalize v7.alloc (.cells #[.int .u64 t0, .int .u64 t1, .int .u64 t2] 24) = W7
          generalize v7.heap.size = N7
          intro H7
          refine (KV _).mono ?_
          rintro e v8 ⟨rfl, hb⟩
          have H8 := hid9 (Kcs.new (a := u0) (b := u1) (c := u2) H7.out hb)
          clear H7 hb
          obtain ⟨f00, f01, f02, -, -, -⟩ := (H8.out.1.2.2).1
          obtain ⟨f10, f11, f12, -, -, -⟩ := (H8.out.1).1
          go_wp2
          go_ret
          exact ⟨rfl, H8.out.2⟩
      · have KU := fun w => add_out (N + M) K w c1 hK c3
        have KT := fun w => add_in M K w c2
        have KV := fun w => add_out N (M + K) w hN c2 (by omega)
        clear c1 c2 c3
        unfold costV at *
        generalize cost0 (N + M) = s0 at *
        generalize cost1 (N + M) = s1 at *
        generalize cost2 (N + M) = s2 at *
        generalize cost0 (M + K) = t0 at *
        generalize cost1 (M + K) = t1 at *
        generalize cost2 (M + K) = t2 at *
        generalize cost0 N = x0 at *
        generalize cost1 N = x1 at *
        generalize cost2 N = x2 at *
        generalize cost0 M = y0 at *
        generalize cost1 M = y1 at *
        generalize cost2 M = y2 at *
        generalize cost0 K = z0' at *
        generalize cost1 K = z1' at *
        generalize cost2 K = z2' at *
        have q3 := eqC_same 0 0 0
        have q4 := eqC_same s0 s1 s2
        by_cases o1 : N ≤ M
        · by_cases o2 : M ≤ K
          · have d1 : decide (cmpN N M ≤ 0) = true := decide_eq_true (l1.mpr o1)
            have d2 : decide (cmpN M K ≤ 0) = true := decide_eq_true (l2.mpr o2)
            have d3 : decide (0 < cmpN N K) = false := decide_eq_false (by have := l3.mpr (by omega); omega)
            clear l1 l2 l3 hN hM hK o1 o2
            generalize cmpN N M = cab at *
            generalize cmpN M N = cba at *
            generalize cmpN M K = cbc at *
            generalize cmpN N K = cac at *
            have H0 := hid9 (Kcs.three w x0 x1 x2 y0 y1 y2 z0' z1' z2')
            go_enter Try.func6, Try.ntmps6
            go_wp2_with fail
            revert H0
            generalize ((w.alloc (.cells #[.int .u64 x0, .int .u64 x1, .int .u64 x2] 24)).alloc (.cells #[.int .u64 y0, .int .u64 y1, .int .u64 y2] 24)).alloc (.cells #[.int .u64 z0', .int .u64 z1', .int .u64 z2'] 24) = W0
            intro H0
            refine (KK _).mono ?_
            rintro e v1 ⟨rfl, hb⟩
            have H1 := hid9 (Kcs.below H0.out hb)
            clear H0 hb
            obtain ⟨f00, f01, f02, -, -, -⟩ := (H1.out.1.2.2).1
            obtain ⟨f10, f11, f12, -, -, -⟩ := (H1.out.1.2).1
            go_wp2_with fail
            clear f00 f01 f02 f10 f11 f12
            refine (KS _).mono ?_
            rintro e v2 ⟨rfl, hb⟩
            have H2 := hid9 (Kcs.new (a := s0) (b := s1) (c := s2) H1.out hb)
            clear H1 hb
            obtain ⟨f00, f01, f02, -, -, -⟩ := (H2.out.1.2.2.2).1
            obtain ⟨f10, f11, f12, -, -, -⟩ := (H2.out.1.2.2).1
            go_wp2_with fail
            clear f00 f01 f02 f10 f11 f12
            revert H2
            generalize v2.alloc (.cells #[.int .u64 s0, .int .u64 s1, .int .u64 s2] 24) = W2
            generalize v2.heap.size = N2
            intro H2
            refine (KS2 _).mono ?_
            rintro e v3 ⟨rfl, hb⟩
            have H3 := hid9 (Kcs.new (a := s0) (b := s1) (c := s2) H2.out hb)
            clear H2 hb
            go_wp2_with fail
            revert H3
            generalize v3.alloc (.cells #[.int .u64 s0, .int .u64 s1, .int .u64 s2] 24) = W3
            generalize v3.heap.size = N3
            intro H3
            refine qw_region (C := fun W => Kcs w W [(N3, s0, s1, s2), (N2, s0, s1, s2), (w.heap.size + 1 + 1, z0', z1', z2'), (w.heap.size + 1, y0, y1, y2), (w.heap.size, x0, x1, x2)]) (by kernel_rfl) (by kernel_rfl) H3.out.drew ?_
            refine qw_run (v := .int .i64 (0)) (by rfl) ?_ ?_
            · (intro w1 hC; obtain ⟨⟨⟨g00, g01, g02, -, -, -⟩, ⟨g10, g11, g12, -, -, -⟩, ⟨g20, g21, g22, -, -, -⟩, ⟨g30, g31, g32, -, -, -⟩, ⟨g40, g41, g42, -, -, -⟩, -⟩, -⟩ := hC; go_simp; first | done | (simp; done) | (simp [*]; done) | omega | (simp; omega) | (rw [IntKind.wrap_i64]; omega) | (intro hx; omega) | rfl)
            simp only [Act.put, List.setIfInBounds_toArray, List.set_cons_zero, List.set_cons_succ]
            refine qw_run (v := .int .i64 (0)) (by rfl) ?_ ?_
            · (intro w1 hC; obtain ⟨⟨⟨g00, g01, g02, -, -, -⟩, ⟨g10, g11, g12, -, -, -⟩, ⟨g20, g21, g22, -, -, -⟩, ⟨g30, g31, g32, -, -, -⟩, ⟨g40, g41, g42, -, -, -⟩, -⟩, -⟩ := hC; go_simp; first | done | (simp; done) | (simp [*]; done) | omega | (simp; omega) | (rw [IntKind.wrap_i64]; omega) | (intro hx; omega) | rfl)
            simp only [Act.put, List.setIfInBounds_toArray, List.set_cons_zero, List.set_cons_succ]
            refine qw_run (v := .bool false) (by rfl) ?_ ?_
            · (intro w1 hC; obtain ⟨⟨⟨g00, g01, g02, -, -, -⟩, ⟨g10, g11, g12, -, -, -⟩, ⟨g20, g21, g22, -, -, -⟩, ⟨g30, g31, g32, -, -, -⟩, ⟨g40, g41, g42, -, -, -⟩, -⟩, -⟩ := hC; go_simp; first | done | (simp; done) | (simp [*]; done) | omega | (simp; omega) | (rw [IntKind.wrap_i64]; omega) | (intro hx; omega) | rfl)
            simp only [Act.put, List.setIfInBounds_toArray, List.set_cons_zero, List.set_cons_succ]
            refine qw_run (v := .bool false) (by rfl) ?_ ?_
            · (intro w1 hC; obtain ⟨⟨⟨g00, g01, g02, -, -, -⟩, ⟨g10, g11, g12, -, -, -⟩, ⟨g20, g21, g22, -, -, -⟩, ⟨g30, g31, g32, -, -, -⟩, ⟨g40, g41, g42, -, -, -⟩, -⟩, -⟩ := hC; go_simp; first | done | (simp; done) | (simp [*]; done) | omega | (simp; omega) | (rw [IntKind.wrap_i64]; omega) | (intro hx; omega) | rfl)
            simp only [Act.put, List.setIfInBounds_toArray, List.set_cons_zero, List.set_cons_succ]
            refine qw_run (v := .agg #[.int .u64 s0, .int .u64 s1, .int .u64 s2]) (by rfl) ?_ ?_
            · (intro w1 hC; obtain ⟨⟨⟨g00, g01, g02, -, -, -⟩, ⟨g10, g11, g12, -, -, -⟩, ⟨g20, g21, g22, -, -, -⟩, ⟨g30, g31, g32, -, -, -⟩, ⟨g40, g41, g42, -, -, -⟩, -⟩, -⟩ := hC; go_simp; first | done | (simp; done) | (simp [*]; done) | omega | (simp; omega) | (rw [IntKind.wrap_i64]; omega) | (intro hx; omega) | rfl)
            simp only [Act.put, List.setIfInBounds_toArray, List.set_cons_zero, List.set_cons_succ]
            refine qw_run (v := .agg #[.int .u64 s0, .int .u64 s1, .int .u64 s2]) (by rfl) ?_ ?_
            · (intro w1 hC; obtain ⟨⟨⟨g00, g01, g02, -, -, -⟩, ⟨g10, g11, g12, -, -, -⟩, ⟨g20, g21, g22, -, -, -⟩, ⟨g30, g31, g32, -, -, -⟩, ⟨g40, g41, g42, -, -, -⟩, -⟩, -⟩ := hC; go_simp; first | done | (simp; done) | (simp [*]; done) | omega | (simp; omega) | (rw [IntKind.wrap_i64]; omega) | (intro hx; omega) | rfl)
            simp only [Act.put, List.setIfInBounds_toArray, List.set_cons_zero, List.set_cons_succ]
            refine qw_run (v := .bool false) (by rfl) ?_ ?_
            · (intro w1 hC; obtain ⟨⟨⟨g00, g01, g02, -, -, -⟩, ⟨g10, g11, g12, -, -, -⟩, ⟨g20, g21, g22, -, -, -⟩, ⟨g30, g31, g32, -, -, -⟩, ⟨g40, g41, g42, -, -, -⟩, -⟩, -⟩ := hC; go_simp; first | done | (simp; done) | (simp [*]; done) | omega | (simp; omega) | (rw [IntKind.wrap_i64]; omega) | (intro hx; omega) | rfl)
            simp only [Act.put, List.setIfInBounds_toArray, List.set_cons_zero, List.set_cons_succ]
            refine qw_run (v := .bool false) (by rfl) ?_ ?_
            · (intro w1 hC; obtain ⟨⟨⟨g00, g01, g02, -, -, -⟩, ⟨g10, g11, g12, -, -, -⟩, ⟨g20, g21, g22, -, -, -⟩, ⟨g30, g31, g32, -, -, -⟩, ⟨g40, g41, g42, -, -, -⟩, -⟩, -⟩ := hC; go_simp; first | done | (simp; done) | (simp [*]; done) | omega | (simp; omega) | (rw [IntKind.wrap_i64]; omega) | (intro hx; omega) | rfl)
            simp only [Act.put, List.setIfInBounds_toArray, List.set_cons_zero, List.set_cons_succ]
            refine qw_run (v := .bool false) (by rfl) ?_ ?_
            · (intro w1 hC; obtain ⟨⟨⟨g00, g01, g02, -, -, -⟩, ⟨g10, g11, g12, -, -, -⟩, ⟨g20, g21, g22, -, -, -⟩, ⟨g30, g31, g32, -, -, -⟩, ⟨g40, g41, g42, -, -, -⟩, -⟩, -⟩ := hC; go_simp; first | done | (simp; done) | (simp [*]; done) | omega | (simp; omega) | (rw [IntKind.wrap_i64]; omega) | (intro hx; omega) | rfl)
            simp only [Act.put, List.setIfInBounds_toArray, List.set_cons_zero, List.set_cons_succ]
            refine qw_run (v := .agg #[.int .u64 x0, .int .u64 x1, .int .u64 x2]) (by rfl) ?_ ?_
            · (intro w1 hC; obtain ⟨⟨⟨g00, g01, g02, -, -, -⟩, ⟨g10, g11, g12, -, -, -⟩, ⟨g20, g21, g22, -, -, -⟩, ⟨g30, g31, g32, -, -, -⟩, ⟨g40, g41, g42, -, -, -⟩, -⟩, -⟩ := hC; go_simp; first | done | (simp; done) | (simp [*]; done) | omega | (simp; omega) | (rw [IntKind.wrap_i64]; omega) | (intro hx; omega) | rfl)
            simp only [Act.put, List.setIfInBounds_toArray, List.set_cons_zero, List.set_cons_succ]
            refine qw_run (v := .agg #[.int .u64 y0, .int .u64 y1, .int .u64 y2]) (by rfl) ?_ ?_
            · (intro w1 hC; obtain ⟨⟨⟨g00, g01, g02, -, -, -⟩, ⟨g10, g11, g12, -, -, -⟩, ⟨g20, g21, g22, -, -, -⟩, ⟨g30, g31, g32, -, -, -⟩, ⟨g40, g41, g42, -, -, -⟩, -⟩, -⟩ := hC; go_simp; first | done | (simp; done) | (simp [*]; done) | omega | (simp; omega) | (rw [IntKind.wrap_i64]; omega) | (intro hx; omega) | rfl)
            simp only [Act.put, List.setIfInBounds_toArray, List.set_cons_zero, List.set_cons_succ]
            refine qw_call (v := .int .i64 (cab)) (f := 18) (args := #[.agg #[.int .u64 x0, .int .u64 x1, .int .u64 x2], .agg #[.int .u64 y0, .int .u64 y1, .int .u64 y2]]) (by rfl) ?_ ?_ ?_
            · (intro w1 hC; clear hC; go_simp)
            · exact fun w1 hC => (KAB w1).mono fun e w' ⟨he, hb⟩ => ⟨he, Kcs.below hC hb⟩
            simp only [Act.put, List.setIfInBounds_toArray, List.set_cons_zero, List.set_cons_succ]
            refine qw_run (v := .agg #[.int .u64 y0, .int .u64 y1, .int .u64 y2]) (by rfl) ?_ ?_
            · (intro w1 hC; obtain ⟨⟨⟨g00, g01, g02, -, -, -⟩, ⟨g10, g11, g12, -, -, -⟩, ⟨g20, g21, g22, -, -, -⟩, ⟨g30, g31, g32, -, -, -⟩, ⟨g40, g41, g42, -, -, -⟩, -⟩, -⟩ := hC; go_simp; first | done | (simp; done) | (simp [*]; done) | omega | (simp; omega) | (rw [IntKind.wrap_i64]; omega) | (intro hx; omega) | rfl)
            simp only [Act.put, List.setIfInBounds_toArray, List.set_cons_zero, List.set_cons_succ]
            refine qw_run (v := .agg #[.int .u64 x0, .int .u64 x1, .int .u64 x2]) (by rfl) ?_ ?_
            · (intro w1 hC; obtain ⟨⟨⟨g00, g01, g02, -, -, -⟩, ⟨g10, g11, g12, -, -, -⟩, ⟨g20, g21, g22, -, -, -⟩, ⟨g30, g31, g32, -, -, -⟩, ⟨g40, g41, g42, -, -, -⟩, -⟩, -⟩ := hC; go_simp; first | done | (simp; done) | (simp [*]; done) | omega | (simp; omega) | (rw [IntKind.wrap_i64]; omega) | (intro hx; omega) | rfl)
            simp only [Act.put, List.setIfInBounds_toArray, List.set_cons_zero, List.set_cons_succ]
            refine qw_call (v := .int .i64 (cba)) (f := 18) (args := #[.agg #[.int .u64 y0, .int .u64 y1, .int .u64 y2], .agg #[.int .u64 x0, .int .u64 x1, .int .u64 x2]]) (by rfl) ?_ ?_ ?_
            · (intro w1 hC; clear hC; go_simp)
            · exact fun w1 hC => (KBA w1).mono fun e w' ⟨he, hb⟩ => ⟨he, Kcs.below hC hb⟩
            simp only [Act.put, List.setIfInBounds_toArray, List.set_cons_zero, List.set_cons_succ]
            refine qw_run (v := .int .i64 (cab)) (by rfl) ?_ ?_
            · (intro w1 hC; obtain ⟨⟨⟨g00, g01, g02, -, -, -⟩, ⟨g10, g11, g12, -, -, -⟩, ⟨g20, g21, g22, -, -, -⟩, ⟨g30, g31, g32, -, -, -⟩, ⟨g40, g41, g42, -, -, -⟩, -⟩, -⟩ := hC; go_simp; first | done | (simp; done) | (simp [*]; done) | omega | (simp; omega) | (rw [IntKind.wrap_i64]; omega) | (intro hx; omega) | rfl)
            simp only [Act.put, List.setIfInBounds_toArray, List.set_cons_zero, List.set_cons_succ]
            refine qw_run (v := .bool false) (by rfl) ?_ ?_
            · (intro w1 hC; obtain ⟨⟨⟨g00, g01, g02, -, -, -⟩, ⟨g10, g11, g12, -, -, -⟩, ⟨g20, g21, g22, -, -, -⟩, ⟨g30, g31, g32, -, -, -⟩, ⟨g40, g41, g42, -, -, -⟩, -⟩, -⟩ := hC; go_simp; first | done | (simp; done) | (simp [*]; done) | omega | (simp; omega) | (rw [IntKind.wrap_i64]; omega) | (intro hx; omega) | rfl)
            simp only [Act.put, List.setIfInBounds_toArray, List.set_cons_zero, List.set_cons_succ]
            refine qw_run (v := .bool false) (by rfl) ?_ ?_
            · (intro w1 hC; obtain ⟨⟨⟨g00, g01, g02, -, -, -⟩, ⟨g10, g11, g12, -, -, -⟩, ⟨g20, g21, g22, -, -, -⟩, ⟨g30, g31, g32, -, -, -⟩, ⟨g40, g41, g42, -, -, -⟩, -⟩, -⟩ := hC; go_simp; first | done | (simp; done) | (simp [*]; done) | omega | (simp; omega) | (rw [IntKind.wrap_i64]; omega) | (intro hx; omega) | rfl)
            simp only [Act.put, List.setIfInBounds_toArray, List.set_cons_zero, List.set_cons_succ]
            refine qw_run (v := .bool false) (by rfl) ?_ ?_
            · (intro w1 hC; obtain ⟨⟨⟨g00, g01, g02, -, -, -⟩, ⟨g10, g11, g12, -, -, -⟩, ⟨g20, g21, g22, -, -, -⟩, ⟨g30, g31, g32, -, -, -⟩, ⟨g40, g41, g42, -, -, -⟩, -⟩, -⟩ := hC; go_simp; first | done | (simp; done) | (simp [*]; done) | omega | (simp; omega) | (rw [IntKind.wrap_i64]; omega) | (intro hx; omega) | rfl)
            simp only [Act.put, List.setIfInBounds_toArray, List.set_cons_zero, List.set_cons_succ]
            refine qw_run (v := .agg #[.int .u64 x0, .int .u64 x1, .int .u64 x2]) (by rfl) ?_ ?_
            · (intro w1 hC; obtain ⟨⟨⟨g00, g01, g02, -, -, -⟩, ⟨g10, g11, g12, -, -, -⟩, ⟨g20, g21, g22, -, -, -⟩, ⟨g30, g31, g32, -, -, -⟩, ⟨g40, g41, g42, -, -, -⟩, -⟩, -⟩ := hC; go_simp; first | done | (simp; done) | (simp [*]; done) | omega | (simp; omega) | (rw [IntKind.wrap_i64]; omega) | (intro hx; omega) | rfl)
            simp only [Act.put, List.setIfInBounds_toArray, List.set_cons_zero, List.set_cons_succ]
            refine qw_run (v := .agg #[.int .u64 y0, .int .u64 y1, .int .u64 y2]) (by rfl) ?_ ?_
            · (intro w1 hC; obtain ⟨⟨⟨g00, g01, g02, -, -, -⟩, ⟨g10, g11, g12, -, -, -⟩, ⟨g20, g21, g22, -, -, -⟩, ⟨g30, g31, g32, -, -, -⟩, ⟨g40, g41, g42, -, -, -⟩, -⟩, -⟩ := hC; go_simp; first | done | (simp; done) | (simp [*]; done) | omega | (simp; omega) | (rw [IntKind.wrap_i64]; omega) | (intro hx; omega) | rfl)
            simp only [Act.put, List.setIfInBounds_toArray, List.set_cons_zero, List.set_cons_succ]
            refine qw_call (v := .int .i64 (cab)) (f := 18) (args := #[.agg #[.int .u64 x0, .int .u64 x1, .int .u64 x2], .agg #[.int .u64 y0, .int .u64 y1, .int .u64 y2]]) (by rfl) ?_ ?_ ?_
            · (intro w1 hC; clear hC; go_simp)
            · exact fun w1 hC => (KAB w1).mono fun e w' ⟨he, hb⟩ => ⟨he, Kcs.below hC hb⟩
            simp only [Act.put, List.setIfInBounds_toArray, List.set_cons_zero, List.set_cons_succ]
            refine qw_run (v := .bool (z1)) (by rfl) ?_ ?_
            · (intro w1 hC; obtain ⟨⟨⟨g00, g01, g02, -, -, -⟩, ⟨g10, g11, g12, -, -, -⟩, ⟨g20, g21, g22, -, -, -⟩, ⟨g30, g31, g32, -, -, -⟩, ⟨g40, g41, g42, -, -, -⟩, -⟩, -⟩ := hC; go_simp; first | done | (simp; done) | (simp [*]; done) | omega | (simp; omega) | (rw [IntKind.wrap_i64]; omega) | (intro hx; omega) | rfl)
            simp only [Act.put, List.setIfInBounds_toArray, List.set_cons_zero, List.set_cons_succ]
            refine qw_run (v := .agg #[.int .u64 x0, .int .u64 x1, .int .u64 x2]) (by rfl) ?_ ?_
            · (intro w1 hC; obtain ⟨⟨⟨g00, g01, g02, -, -, -⟩, ⟨g10, g11, g12, -, -, -⟩, ⟨g20, g21, g22, -, -, -⟩, ⟨g30, g31, g32, -, -, -⟩, ⟨g40, g41, g42, -, -, -⟩, -⟩, -⟩ := hC; go_simp; first | done | (simp; done) | (simp [*]; done) | omega | (simp; omega) | (rw [IntKind.wrap_i64]; omega) | (intro hx; omega) | rfl)
            simp only [Act.put, List.setIfInBounds_toArray, List.set_cons_zero, List.set_cons_succ]
            refine qw_run (v := .agg #[.int .u64 y0, .int .u64 y1, .int .u64 y2]) (by rfl) ?_ ?_
            · (intro w1 hC; obtain ⟨⟨⟨g00, g01, g02, -, -, -⟩, ⟨g10, g11, g12, -, -, -⟩, ⟨g20, g21, g22, -, -, -⟩, ⟨g30, g31, g32, -, -, -⟩, ⟨g40, g41, g42, -, -, -⟩, -⟩, -⟩ := hC; go_simp; first | done | (simp; done) | (simp [*]; done) | omega | (simp; omega) | (rw [IntKind.wrap_i64]; omega) | (intro hx; omega) | rfl)
            simp only [Act.put, List.setIfInBounds_toArray, List.set_cons_zero, List.set_cons_succ]
            refine qw_run (v := .bool (z1)) (by rfl) ?_ ?_
            · (intro w1 hC; obtain ⟨⟨⟨g00, g01, g02, -, -, -⟩, ⟨g10, g11, g12, -, -, -⟩, ⟨g20, g21, g22, -, -, -⟩, ⟨g30, g31, g32, -, -, -⟩, ⟨g40, g41, g42, -, -, -⟩, -⟩, -⟩ := hC; go_simp; first | done | (simp; done) | (simp [*]; done) | omega | (simp; omega) | (rw [IntKind.wrap_i64]; omega) | (intro hx; omega) | rfl)
            simp only [Act.put, List.setIfInBounds_toArray, List.set_cons_zero, List.set_cons_succ]
            refine qw_run (v := .bool false) (by rfl) ?_ ?_
            · (intro w1 hC; obtain ⟨⟨⟨g00, g01, g02, -, -, -⟩, ⟨g10, g11, g12, -, -, -⟩, ⟨g20, g21, g22, -, -, -⟩, ⟨g30, g31, g32, -, -, -⟩, ⟨g40, g41, g42, -, -, -⟩, -⟩, -⟩ := hC; go_simp; first | done | (simp; done) | (simp [*]; done) | omega | (simp; omega) | (rw [IntKind.wrap_i64]; omega) | (intro hx; omega) | rfl)
            simp only [Act.put, List.setIfInBounds_toArray, List.set_cons_zero, List.set_cons_succ]
            refine qw_run (v := .bool false) (by rfl) ?_ ?_
            · (intro w1 hC; obtain ⟨⟨⟨g00, g01, g02, -, -, -⟩, ⟨g10, g11, g12, -, -, -⟩, ⟨g20, g21, g22, -, -, -⟩, ⟨g30, g31, g32, -, -, -⟩, ⟨g40, g41, g42, -, -, -⟩, -⟩, -⟩ := hC; go_simp; first | done | (simp; done) | (simp [*]; done) | omega | (simp; omega) | (rw [IntKind.wrap_i64]; omega) | (intro hx; omega) | rfl)
            simp only [Act.put, List.setIfInBounds_toArray, List.set_cons_zero, List.set_cons_succ]
            refine qw_nil ?_
            intro v3r hC
            have Hr3 := hid9 hC
            clear H3 hC
            obtain ⟨f00, f01, f02, -, -, -⟩ := (Hr3.out.1.2.2.2.2).1
            obtain ⟨f10, f11, f12, -, -, -⟩ := (Hr3.out.1.2.2.2).1
            go_wp2_with fail
            clear f00 f01 f02 f10 f11 f12
            refine (KAB _).mono ?_
            rintro e v4 ⟨rfl, hb⟩
            have H4 := hid9 (Kcs.below Hr3.out hb)
            clear Hr3 hb
            obtain ⟨f00, f01, f02, -, -, -⟩ := (H4.out.1.2.2.2).1
            obtain ⟨f10, f11, f12, -, -, -⟩ := (H4.out.1.2.2).1
            go_wp2_with fail
            clear f00 f01 f02 f10 f11 f12
            refine (KBC _).mono ?_
            rintro e v5 ⟨rfl, hb⟩
            have H5 := hid9 (Kcs.below H4.out hb)
            clear H4 hb
            obtain ⟨f00, f01, f02, -, -, -⟩ := (H5.out.1.2.2.2.2).1
            obtain ⟨f10, f11, f12, -, -, -⟩ := (H5.out.1.2.2).1
            go_wp2_with fail
            clear f00 f01 f02 f10 f11 f12
            refine (KAC _).mono ?_
            rintro e v6 ⟨rfl, hb⟩
            have H6 := hid9 (Kcs.below H5.out hb)
            clear H5 hb
            go_wp2_with fail
            refine qw_region (C := fun W => Kcs w W [(N3, s0, s1, s2), (N2, s0, s1, s2), (w.heap.size + 1 + 1, z0', z1', z2'), (w.heap.size + 1, y0, y1, y2), (w.heap.size, x0, x1, x2)]) (by kernel_rfl) (by kernel_rfl) H6.out.drew ?_
            refine qw_run (v := .agg #[.int .u64 s0, .int .u64 s1, .int .u64 s2]) (by rfl) ?_ ?_
            · (intro w1 hC; obtain ⟨⟨⟨g00, g01, g02, -, -, -⟩, ⟨g10, g11, g12, -, -, -⟩, ⟨g20, g21, g22, -, -, -⟩, ⟨g30, g31, g32, -, -, -⟩, ⟨g40, g41, g42, -, -, -⟩, -⟩, -⟩ := hC; go_simp; first | done | (simp; done) | (simp [*]; done) | omega | (simp; omega) | (rw [IntKind.wrap_i64]; omega) | (intro hx; omega) | rfl)
            simp only [Act.put, List.setIfInBounds_toArray, List.set_cons_zero, List.set_cons_succ]
            refine qw_run (v := .agg #[.int .u64 x0, .int .u64 x1, .int .u64 x2]) (by rfl) ?_ ?_
            · (intro w1 hC; obtain ⟨⟨⟨g00, g01, g02, -, -, -⟩, ⟨g10, g11, g12, -, -, -⟩, ⟨g20, g21, g22, -, -, -⟩, ⟨g30, g31, g32, -, -, -⟩, ⟨g40, g41, g42, -, -, -⟩, -⟩, -⟩ := hC; go_simp; first | done | (simp; done) | (simp [*]; done) | omega | (simp; omega) | (rw [IntKind.wrap_i64]; omega) | (intro hx; omega) | rfl)
            simp only [Act.put, List.setIfInBounds_toArray, List.set_cons_zero, List.set_cons_succ]
            refine qw_call (v := .int .i64 (csa)) (f := 18) (args := #[.agg #[.int .u64 s0, .int .u64 s1, .int .u64 s2], .agg #[.int .u64 x0, .int .u64 x1, .int .u64 x2]]) (by rfl) ?_ ?_ ?_
            · (intro w1 hC; clear hC; go_simp)
            · exact fun w1 hC => (KSA w1).mono fun e w' ⟨he, hb⟩ => ⟨he, Kcs.below hC hb⟩
            simp only [Act.put, List.setIfInBounds_toArray, List.set_cons_zero, List.set_cons_succ]
            refine qw_run (v := .bool false) (by rfl) ?_ ?_
            · (intro w1 hC; obtain ⟨⟨⟨g00, g01, g02, -, -, -⟩, ⟨g10, g11, g12, -, -, -⟩, ⟨g20, g21, g22, -, -, -⟩, ⟨g30, g31, g32, -, -, -⟩, ⟨g40, g41, g42, -, -, -⟩, -⟩, -⟩ := hC; go_simp; first | done | (simp; done) | (simp [*]; done) | omega | (simp; omega) | (rw [IntKind.wrap_i64]; omega) | (intro hx; omega) | rfl)
            simp only [Act.put, List.setIfInBounds_toArray, List.set_cons_zero, List.set_cons_succ]
            refine qw_run (v := .bool false) (by rfl) ?_ ?_
            · (intro w1 hC; obtain ⟨⟨⟨g00, g01, g02, -, -, -⟩, ⟨g10, g11, g12, -, -, -⟩, ⟨g20, g21, g22, -, -, -⟩, ⟨g30, g31, g32, -, -, -⟩, ⟨g40, g41, g42, -, -, -⟩, -⟩, -⟩ := hC; go_simp; first | done | (simp; done) | (simp [*]; done) | omega | (simp; omega) | (rw [IntKind.wrap_i64]; omega) | (intro hx; omega) | rfl)
            simp only [Act.put, List.setIfInBounds_toArray, List.set_cons_zero, List.set_cons_succ]
            refine qw_run (v := .agg #[.int .u64 s0, .int .u64 s1, .int .u64 s2]) (by rfl) ?_ ?_
            · (intro w1 hC; obtain ⟨⟨⟨g00, g01, g02, -, -, -⟩, ⟨g10, g11, g12, -, -, -⟩, ⟨g20, g21, g22, -, -, -⟩, ⟨g30, g31, g32, -, -, -⟩, ⟨g40, g41, g42, -, -, -⟩, -⟩, -⟩ := hC; go_simp; first | done | (simp; done) | (simp [*]; done) | omega | (simp; omega) | (rw [IntKind.wrap_i64]; omega) | (intro hx; omega) | rfl)
            simp only [Act.put, List.setIfInBounds_toArray, List.set_cons_zero, List.set_cons_succ]
            refine qw_run (v := .agg #[.int .u64 x0, .int .u64 x1, .int .u64 x2]) (by rfl) ?_ ?_
            · (intro w1 hC; obtain ⟨⟨⟨g00, g01, g02, -, -, -⟩, ⟨g10, g11, g12, -, -, -⟩, ⟨g20, g21, g22, -, -, -⟩, ⟨g30, g31, g32, -, -, -⟩, ⟨g40, g41, g42, -, -, -⟩, -⟩, -⟩ := hC; go_simp; first | done | (simp; done) | (simp [*]; done) | omega | (simp; omega) | (rw [IntKind.wrap_i64]; omega) | (intro hx; omega) | rfl)
            simp only [Act.put, List.setIfInBounds_toArray, List.set_cons_zero, List.set_cons_succ]
            refine qw_call (v := .int .i64 (csa)) (f := 18) (args := #[.agg #[.int .u64 s0, .int .u64 s1, .int .u64 s2], .agg #[.int .u64 x0, .int .u64 x1, .int .u64 x2]]) (by rfl) ?_ ?_ ?_
            · (intro w1 hC; clear hC; go_simp)
            · exact fun w1 hC => (KSA w1).mono fun e w' ⟨he, hb⟩ => ⟨he, Kcs.below hC hb⟩
            simp only [Act.put, List.setIfInBounds_toArray, List.set_cons_zero, List.set_cons_succ]
            refine qw_run (v := .bool (z2)) (by rfl) ?_ ?_
            · (intro w1 hC; obtain ⟨⟨⟨g00, g01, g02, -, -, -⟩, ⟨g10, g11, g12, -, -, -⟩, ⟨g20, g21, g22, -, -, -⟩, ⟨g30, g31, g32, -, -, -⟩, ⟨g40, g41, g42, -, -, -⟩, -⟩, -⟩ := hC; go_simp; first | done | (simp; done) | (simp [*]; done) | omega | (simp; omega) | (rw [IntKind.wrap_i64]; omega) | (intro hx; omega) | rfl)
            simp only [Act.put, List.setIfInBounds_toArray, List.set_cons_zero, List.set_cons_succ]
            refine qw_run (v := .agg #[.int .u64 y0, .int .u64 y1, .int .u64 y2]) (by rfl) ?_ ?_
            · (intro w1 hC; obtain ⟨⟨⟨g00, g01, g02, -, -, -⟩, ⟨g10, g11, g12, -, -, -⟩, ⟨g20, g21, g22, -, -, -⟩, ⟨g30, g31, g32, -, -, -⟩, ⟨g40, g41, g42, -, -, -⟩, -⟩, -⟩ := hC; go_simp; first | done | (simp; done) | (simp [*]; done) | omega | (simp; omega) | (rw [IntKind.wrap_i64]; omega) | (intro hx; omega) | rfl)
            simp only [Act.put, List.setIfInBounds_toArray, List.set_cons_zero, List.set_cons_succ]
            refine qw_run (v := .agg #[.int .u64 0, .int .u64 0, .int .u64 0]) (by rfl) ?_ ?_
            · (intro w1 hC; obtain ⟨⟨⟨g00, g01, g02, -, -, -⟩, ⟨g10, g11, g12, -, -, -⟩, ⟨g20, g21, g22, -, -, -⟩, ⟨g30, g31, g32, -, -, -⟩, ⟨g40, g41, g42, -, -, -⟩, -⟩, -⟩ := hC; go_simp; first | done | (simp; done) | (simp [*]; done) | omega | (simp; omega) | (rw [IntKind.wrap_i64]; omega) | (intro hx; omega) | rfl)
            simp only [Act.put, List.setIfInBounds_toArray, List.set_cons_zero, List.set_cons_succ]
            refine qw_run (v := .bool (z2)) (by rfl) ?_ ?_
            · (intro w1 hC; obtain ⟨⟨⟨g00, g01, g02, -, -, -⟩, ⟨g10, g11, g12, -, -, -⟩, ⟨g20, g21, g22, -, -, -⟩, ⟨g30, g31, g32, -, -, -⟩, ⟨g40, g41, g42, -, -, -⟩, -⟩, -⟩ := hC; go_simp; first | done | (simp; done) | (simp [*]; done) | omega | (simp; omega) | (rw [IntKind.wrap_i64]; omega) | (intro hx; omega) | rfl)
            simp only [Act.put, List.setIfInBounds_toArray, List.set_cons_zero, List.set_cons_succ]
            refine qw_run (v := .bool false) (by rfl) ?_ ?_
            · (intro w1 hC; obtain ⟨⟨⟨g00, g01, g02, -, -, -⟩, ⟨g10, g11, g12, -, -, -⟩, ⟨g20, g21, g22, -, -, -⟩, ⟨g30, g31, g32, -, -, -⟩, ⟨g40, g41, g42, -, -, -⟩, -⟩, -⟩ := hC; go_simp; first | done | (simp; done) | (simp [*]; done) | omega | (simp; omega) | (rw [IntKind.wrap_i64]; omega) | (intro hx; omega) | rfl)
            simp only [Act.put, List.setIfInBounds_toArray, List.set_cons_zero, List.set_cons_succ]
            refine qw_run (v := .bool false) (by rfl) ?_ ?_
            · (intro w1 hC; obtain ⟨⟨⟨g00, g01, g02, -, -, -⟩, ⟨g10, g11, g12, -, -, -⟩, ⟨g20, g21, g22, -, -, -⟩, ⟨g30, g31, g32, -, -, -⟩, ⟨g40, g41, g42, -, -, -⟩, -⟩, -⟩ := hC; go_simp; first | done | (simp; done) | (simp [*]; done) | omega | (simp; omega) | (rw [IntKind.wrap_i64]; omega) | (intro hx; omega) | rfl)
            simp only [Act.put, List.setIfInBounds_toArray, List.set_cons_zero, List.set_cons_succ]
            refine qw_nil ?_
            intro v7r hC
            have Hr7 := hid9 hC
            clear H6 hC
            obtain ⟨f00, f01, f02, -, -, -⟩ := (Hr7.out.1.2).1
            obtain ⟨f10, f11, f12, -, -, -⟩ := (Hr7.out.1.2.2).1
            go_wp2_with fail
            clear f00 f01 f02 f10 f11 f12
            refine (KU _).mono ?_
            rintro e v8 ⟨rfl, hb⟩
            have H8 := hid9 (Kcs.new (a := 0) (b := 0) (c := 0) Hr7.out hb)
            clear Hr7 hb
            obtain ⟨f00, f01, f02, -, -, -⟩ := (H8.out.1.2.2.2.2).1
            obtain ⟨f10, f11, f12, -, -, -⟩ := (H8.out.1.2.2.2).1
            go_wp2_with fail
            clear f00 f01 f02 f10 f11 f12
            revert H8
            generalize v8.alloc (.cells #[.int .u64 0, .int .u64 0, .int .u64 0] 24) = W8
            generalize v8.heap.size = N8
            intro H8
            refine (KT _).mono ?_
            rintro e v9 ⟨rfl, hb⟩
            have H9 := hid9 (Kcs.new (a := t0) (b := t1) (c := t2) H8.out hb)
            clear H8 hb
            obtain ⟨f00, f01, f02, -, -, -⟩ := (H9.out.1.2.2.2.2.2.2).1
            go_wp2_with fail
            clear f00 f01 f02
            revert H9
            generalize v9.alloc (.cells #[.int .u64 t0, .int .u64 t1, .int .u64 t2] 24) = W9
            generalize v9.heap.size = N9
            intro H9
            refine (KV _).mono ?_
            rintro e v10 ⟨rfl, hb⟩
            have H10 := hid9 (Kcs.new (a := 0) (b := 0) (c := 0) H9.out hb)
            clear H9 hb
            obtain ⟨f00, f01, f02, -, -, -⟩ := (H10.out.1.2.2).1
            obtain ⟨f10, f11, f12, -, -, -⟩ := (H10.out.1).1
            go_wp2
            go_ret
            exact ⟨rfl, H10.out.2⟩
          · have d1 : decide (cmpN N M ≤ 0) = true := decide_eq_true (l1.mpr o1)
            have d2 : decide (cmpN M K ≤ 0) = false := decide_eq_false (fun h => o2 (l2.mp h))
            clear l1 l2 l3 hN hM hK o1 o2
            generalize cmpN N M = cab at *
            generalize cmpN M N = cba at *
            generalize cmpN M K = cbc at *
            generalize cmpN N K = cac at *
            have H0 := hid9 (Kcs.three w x0 x1 x2 y0 y1 y2 z0' z1' z2')
            go_enter Try.func6, Try.ntmps6
            go_wp2_with fail
            revert H0
            generalize ((w.alloc (.cells #[.int .u64 x0, .int .u64 x1, .int .u64 x2] 24)).alloc (.cells #[.int .u64 y0, .int .u64 y1, .int .u64 y2] 24)).alloc (.cells #[.int .u64 z0', .int .u64 z1', .int .u64 z2'] 24) = W0
            intro H0
            refine (KK _).mono ?_
            rintro e v1 ⟨rfl, hb⟩
            have H1 := hid9 (Kcs.below H0.out hb)
            clear H0 hb
            obtain ⟨f00, f01, f02, -, -, -⟩ := (H1.out.1.2.2).1
            obtain ⟨f10, f11, f12, -, -, -⟩ := (H1.out.1.2).1
            go_wp2_with fail
            clear f00 f01 f02 f10 f11 f12
            refine (KS _).mono ?_
            rintro e v2 ⟨rfl, hb⟩
            have H2 := hid9 (Kcs.new (a := s0) (b := s1) (c := s2) H1.out hb)
            clear H1 hb
            obtain ⟨f00, f01, f02, -, -, -⟩ := (H2.out.1.2.2.2).1
            obtain ⟨f10, f11, f12, -, -, -⟩ := (H2.out.1.2.2).1
            go_wp2_with fail
            clear f00 f01 f02 f10 f11 f12
            revert H2
            generalize v2.alloc (.cells #[.int .u64 s0, .int .u64 s1, .int .u64 s2] 24) = W2
            generalize v2.heap.size = N2
            intro H2
            refine (KS2 _).mono ?_
            rintro e v3 ⟨rfl, hb⟩
            have H3 := hid9 (Kcs.new (a := s0) (b := s1) (c := s2) H2.out hb)
            clear H2 hb
            go_wp2_with fail
            revert H3
            generalize v3.alloc (.cells #[.int .u64 s0, .int .u64 s1, .int .u64 s2] 24) = W3
            generalize v3.heap.size = N3
            intro H3
            refine qw_region (C := fun W => Kcs w W [(N3, s0, s1, s2), (N2, s0, s1, s2), (w.heap.size + 1 + 1, z0', z1', z2'), (w.heap.size + 1, y0, y1, y2), (w.heap.size, x0, x1, x2)]) (by kernel_rfl) (by kernel_rfl) H3.out.drew ?_
            refine qw_run (v := .int .i64 (0)) (by rfl) ?_ ?_
            · (intro w1 hC; obtain ⟨⟨⟨g00, g01, g02, -, -, -⟩, ⟨g10, g11, g12, -, -, -⟩, ⟨g20, g21, g22, -, -, -⟩, ⟨g30, g31, g32, -, -, -⟩, ⟨g40, g41, g42, -, -, -⟩, -⟩, -⟩ := hC; go_simp; first | done | (simp; done) | (simp [*]; done) | omega | (simp; omega) | (rw [IntKind.wrap_i64]; omega) | (intro hx; omega) | rfl)
            simp only [Act.put, List.setIfInBounds_toArray, List.set_cons_zero, List.set_cons_succ]
            refine qw_run (v := .int .i64 (0)) (by rfl) ?_ ?_
            · (intro w1 hC; obtain ⟨⟨⟨g00, g01, g02, -, -, -⟩, ⟨g10, g11, g12, -, -, -⟩, ⟨g20, g21, g22, -, -, -⟩, ⟨g30, g31, g32, -, -, -⟩, ⟨g40, g41, g42, -, -, -⟩, -⟩, -⟩ := hC; go_simp; first | done | (simp; done) | (simp [*]; done) | omega | (simp; omega) | (rw [IntKind.wrap_i64]; omega) | (intro hx; omega) | rfl)
            simp only [Act.put, List.setIfInBounds_toArray, List.set_cons_zero, List.set_cons_succ]
            refine qw_run (v := .bool false) (by rfl) ?_ ?_
            · (intro w1 hC; obtain ⟨⟨⟨g00, g01, g02, -, -, -⟩, ⟨g10, g11, g12, -, -, -⟩, ⟨g20, g21, g22, -, -, -⟩, ⟨g30, g31, g32, -, -, -⟩, ⟨g40, g41, g42, -, -, -⟩, -⟩, -⟩ := hC; go_simp; first | done | (simp; done) | (simp [*]; done) | omega | (simp; omega) | (rw [IntKind.wrap_i64]; omega) | (intro hx; omega) | rfl)
            simp only [Act.put, List.setIfInBounds_toArray, List.set_cons_zero, List.set_cons_succ]
            refine qw_run (v := .bool false) (by rfl) ?_ ?_
            · (intro w1 hC; obtain ⟨⟨⟨g00, g01, g02, -, -, -⟩, ⟨g10, g11, g12, -, -, -⟩, ⟨g20, g21, g22, -, -, -⟩, ⟨g30, g31, g32, -, -, -⟩, ⟨g40, g41, g42, -, -, -⟩, -⟩, -⟩ := hC; go_simp; first | done | (simp; done) | (simp [*]; done) | omega | (simp; omega) | (rw [IntKind.wrap_i64]; omega) | (intro hx; omega) | rfl)
            simp only [Act.put, List.setIfInBounds_toArray, List.set_cons_zero, List.set_cons_succ]
            refine qw_run (v := .agg #[.int .u64 s0, .int .u64 s1, .int .u64 s2]) (by rfl) ?_ ?_
            · (intro w1 hC; obtain ⟨⟨⟨g00, g01, g02, -, -, -⟩, ⟨g10, g11, g12, -, -, -⟩, ⟨g20, g21, g22, -, -, -⟩, ⟨g30, g31, g32, -, -, -⟩, ⟨g40, g41, g42, -, -, -⟩, -⟩, -⟩ := hC; go_simp; first | done | (simp; done) | (simp [*]; done) | omega | (simp; omega) | (rw [IntKind.wrap_i64]; omega) | (intro hx; omega) | rfl)
            simp only [Act.put, List.setIfInBounds_toArray, List.set_cons_zero, List.set_cons_succ]
            refine qw_run (v := .agg #[.int .u64 s0, .int .u64 s1, .int .u64 s2]) (by rfl) ?_ ?_
            · (intro w1 hC; obtain ⟨⟨⟨g00, g01, g02, -, -, -⟩, ⟨g10, g11, g12, -, -, -⟩, ⟨g20, g21, g22, -, -, -⟩, ⟨g30, g31, g32, -, -, -⟩, ⟨g40, g41, g42, -, -, -⟩, -⟩, -⟩ := hC; go_simp; first | done | (simp; done) | (simp [*]; done) | omega | (simp; omega) | (rw [IntKind.wrap_i64]; omega) | (intro hx; omega) | rfl)
            simp only [Act.put, List.setIfInBounds_toArray, List.set_cons_zero, List.set_cons_succ]
            refine qw_run (v := .bool false) (by rfl) ?_ ?_
            · (intro w1 hC; obtain ⟨⟨⟨g00, g01, g02, -, -, -⟩, ⟨g10, g11, g12, -, -, -⟩, ⟨g20, g21, g22, -, -, -⟩, ⟨g30, g31, g32, -, -, -⟩, ⟨g40, g41, g42, -, -, -⟩, -⟩, -⟩ := hC; go_simp; first | done | (simp; done) | (simp [*]; done) | omega | (simp; omega) | (rw [IntKind.wrap_i64]; omega) | (intro hx; omega) | rfl)
            simp only [Act.put, List.setIfInBounds_toArray, List.set_cons_zero, List.set_cons_succ]
            refine qw_run (v := .bool false) (by rfl) ?_ ?_
            · (intro w1 hC; obtain ⟨⟨⟨g00, g01, g02, -, -, -⟩, ⟨g10, g11, g12, -, -, -⟩, ⟨g20, g21, g22, -, -, -⟩, ⟨g30, g31, g32, -, -, -⟩, ⟨g40, g41, g42, -, -, -⟩, -⟩, -⟩ := hC; go_simp; first | done | (simp; done) | (simp [*]; done) | omega | (simp; omega) | (rw [IntKind.wrap_i64]; omega) | (intro hx; omega) | rfl)
            simp only [Act.put, List.setIfInBounds_toArray, List.set_cons_zero, List.set_cons_succ]
            refine qw_run (v := .bool false) (by rfl) ?_ ?_
            · (intro w1 hC; obtain ⟨⟨⟨g00, g01, g02, -, -, -⟩, ⟨g10, g11, g12, -, -, -⟩, ⟨g20, g21, g22, -, -, -⟩, ⟨g30, g31, g32, -, -, -⟩, ⟨g40, g41, g42, -, -, -⟩, -⟩, -⟩ := hC; go_simp; first | done | (simp; done) | (simp [*]; done) | omega | (simp; omega) | (rw [IntKind.wrap_i64]; omega) | (intro hx; omega) | rfl)
            simp only [Act.put, List.setIfInBounds_toArray, List.set_cons_zero, List.set_cons_succ]
            refine qw_run (v := .agg #[.int .u64 x0, .int .u64 x1, .int .u64 x2]) (by rfl) ?_ ?_
            · (intro w1 hC; obtain ⟨⟨⟨g00, g01, g02, -, -, -⟩, ⟨g10, g11, g12, -, -, -⟩, ⟨g20, g21, g22, -, -, -⟩, ⟨g30, g31, g32, -, -, -⟩, ⟨g40, g41, g42, -, -, -⟩, -⟩, -⟩ := hC; go_simp; first | done | (simp; done) | (simp [*]; done) | omega | (simp; omega) | (rw [IntKind.wrap_i64]; omega) | (intro hx; omega) | rfl)
            simp only [Act.put, List.setIfInBounds_toArray, List.set_cons_zero, List.set_cons_succ]
            refine qw_run (v := .agg #[.int .u64 y0, .int .u64 y1, .int .u64 y2]) (by rfl) ?_ ?_
            · (intro w1 hC; obtain ⟨⟨⟨g00, g01, g02, -, -, -⟩, ⟨g10, g11, g12, -, -, -⟩, ⟨g20, g21, g22, -, -, -⟩, ⟨g30, g31, g32, -, -, -⟩, ⟨g40, g41, g42, -, -, -⟩, -⟩, -⟩ := hC; go_simp; first | done | (simp; done) | (simp [*]; done) | omega | (simp; omega) | (rw [IntKind.wrap_i64]; omega) | (intro hx; omega) | rfl)
            simp only [Act.put, List.setIfInBounds_toArray, List.set_cons_zero, List.set_cons_succ]
            refine qw_call (v := .int .i64 (cab)) (f := 18) (args := #[.agg #[.int .u64 x0, .int .u64 x1, .int .u64 x2], .agg #[.int .u64 y0, .int .u64 y1, .int .u64 y2]]) (by rfl) ?_ ?_ ?_
            · (intro w1 hC; clear hC; go_simp)
            · exact fun w1 hC => (KAB w1).mono fun e w' ⟨he, hb⟩ => ⟨he, Kcs.below hC hb⟩
            simp only [Act.put, List.setIfInBounds_toArray, List.set_cons_zero, List.set_cons_succ]
            refine qw_run (v := .agg #[.int .u64 y0, .int .u64 y1, .int .u64 y2]) (by rfl) ?_ ?_
            · (intro w1 hC; obtain ⟨⟨⟨g00, g01, g02, -, -, -⟩, ⟨g10, g11, g12, -, -, -⟩, ⟨g20, g21, g22, -, -, -⟩, ⟨g30, g31, g32, -, -, -⟩, ⟨g40, g41, g42, -, -, -⟩, -⟩, -⟩ := hC; go_simp; first | done | (simp; done) | (simp [*]; done) | omega | (simp; omega) | (rw [IntKind.wrap_i64]; omega) | (intro hx; omega) | rfl)
            simp only [Act.put, List.setIfInBounds_toArray, List.set_cons_zero, List.set_cons_succ]
            refine qw_run (v := .agg #[.int .u64 x0, .int .u64 x1, .int .u64 x2]) (by rfl) ?_ ?_
            · (intro w1 hC; obtain ⟨⟨⟨g00, g01, g02, -, -, -⟩, ⟨g10, g11, g12, -, -, -⟩, ⟨g20, g21, g22, -, -, -⟩, ⟨g30, g31, g32, -, -, -⟩, ⟨g40, g41, g42, -, -, -⟩, -⟩, -⟩ := hC; go_simp; first | done | (simp; done) | (simp [*]; done) | omega | (simp; omega) | (rw [IntKind.wrap_i64]; omega) | (intro hx; omega) | rfl)
            simp only [Act.put, List.setIfInBounds_toArray, List.set_cons_zero, List.set_cons_succ]
            refine qw_call (v := .int .i64 (cba)) (f := 18) (args := #[.agg #[.int .u64 y0, .int .u64 y1, .int .u64 y2], .agg #[.int .u64 x0, .int .u64 x1, .int .u64 x2]]) (by rfl) ?_ ?_ ?_
            · (intro w1 hC; clear hC; go_simp)
            · exact fun w1 hC => (KBA w1).mono fun e w' ⟨he, hb⟩ => ⟨he, Kcs.below hC hb⟩
            simp only [Act.put, List.setIfInBounds_toArray, List.set_cons_zero, List.set_cons_succ]
            refine qw_run (v := .int .i64 (cab)) (by rfl) ?_ ?_
            · (intro w1 hC; obtain ⟨⟨⟨g00, g01, g02, -, -, -⟩, ⟨g10, g11, g12, -, -, -⟩, ⟨g20, g21, g22, -, -, -⟩, ⟨g30, g31, g32, -, -, -⟩, ⟨g40, g41, g42, -, -, -⟩, -⟩, -⟩ := hC; go_simp; first | done | (simp; done) | (simp [*]; done) | omega | (simp; omega) | (rw [IntKind.wrap_i64]; omega) | (intro hx; omega) | rfl)
            simp only [Act.put, List.setIfInBounds_toArray, List.set_cons_zero, List.set_cons_succ]
            refine qw_run (v := .bool false) (by rfl) ?_ ?_
            · (intro w1 hC; obtain ⟨⟨⟨g00, g01, g02, -, -, -⟩, ⟨g10, g11, g12, -, -, -⟩, ⟨g20, g21, g22, -, -, -⟩, ⟨g30, g31, g32, -, -, -⟩, ⟨g40, g41, g42, -, -, -⟩, -⟩, -⟩ := hC; go_simp; first | done | (simp; done) | (simp [*]; done) | omega | (simp; omega) | (rw [IntKind.wrap_i64]; omega) | (intro hx; omega) | rfl)
            simp only [Act.put, List.setIfInBounds_toArray, List.set_cons_zero, List.set_cons_succ]
            refine qw_run (v := .bool false) (by rfl) ?_ ?_
            · (intro w1 hC; obtain ⟨⟨⟨g00, g01, g02, -, -, -⟩, ⟨g10, g11, g12, -, -, -⟩, ⟨g20, g21, g22, -, -, -⟩, ⟨g30, g31, g32, -, -, -⟩, ⟨g40, g41, g42, -, -, -⟩, -⟩, -⟩ := hC; go_simp; first | done | (simp; done) | (simp [*]; done) | omega | (simp; omega) | (rw [IntKind.wrap_i64]; omega) | (intro hx; omega) | rfl)
            simp only [Act.put, List.setIfInBounds_toArray, List.set_cons_zero, List.set_cons_succ]
            refine qw_run (v := .bool false) (by rfl) ?_ ?_
            · (intro w1 hC; obtain ⟨⟨⟨g00, g01, g02, -, -, -⟩, ⟨g10, g11, g12, -, -, -⟩, ⟨g20, g21, g22, -, -, -⟩, ⟨g30, g31, g32, -, -, -⟩, ⟨g40, g41, g42, -, -, -⟩, -⟩, -⟩ := hC; go_simp; first | done | (simp; done) | (simp [*]; done) | omega | (simp; omega) | (rw [IntKind.wrap_i64]; omega) | (intro hx; omega) | rfl)
            simp only [Act.put, List.setIfInBounds_toArray, List.set_cons_zero, List.set_cons_succ]
            refine qw_run (v := .agg #[.int .u64 x0, .int .u64 x1, .int .u64 x2]) (by rfl) ?_ ?_
            · (intro w1 hC; obtain ⟨⟨⟨g00, g01, g02, -, -, -⟩, ⟨g10, g11, g12, -, -, -⟩, ⟨g20, g21, g22, -, -, -⟩, ⟨g30, g31, g32, -, -, -⟩, ⟨g40, g41, g42, -, -, -⟩, -⟩, -⟩ := hC; go_simp; first | done | (simp; done) | (simp [*]; done) | omega | (simp; omega) | (rw [IntKind.wrap_i64]; omega) | (intro hx; omega) | rfl)
            simp only [Act.put, List.setIfInBounds_toArray, List.set_cons_zero, List.set_cons_succ]
            refine qw_run (v := .agg #[.int .u64 y0, .int .u64 y1, .int .u64 y2]) (by rfl) ?_ ?_
            · (intro w1 hC; obtain ⟨⟨⟨g00, g01, g02, -, -, -⟩, ⟨g10, g11, g12, -, -, -⟩, ⟨g20, g21, g22, -, -, -⟩, ⟨g30, g31, g32, -, -, -⟩, ⟨g40, g41, g42, -, -, -⟩, -⟩, -⟩ := hC; go_simp; first | done | (simp; done) | (simp [*]; done) | omega | (simp; omega) | (rw [IntKind.wrap_i64]; omega) | (intro hx; omega) | rfl)
            simp only [Act.put, List.setIfInBounds_toArray, List.set_cons_zero, List.set_cons_succ]
            refine qw_call (v := .int .i64 (cab)) (f := 18) (args := #[.agg #[.int .u64 x0, .int .u64 x1, .int .u64 x2], .agg #[.int .u64 y0, .int .u64 y1, .int .u64 y2]]) (by rfl) ?_ ?_ ?_
            · (intro w1 hC; clear hC; go_simp)
            · exact fun w1 hC => (KAB w1).mono fun e w' ⟨he, hb⟩ => ⟨he, Kcs.below hC hb⟩
            simp only [Act.put, List.setIfInBounds_toArray, List.set_cons_zero, List.set_cons_succ]
            refine qw_run (v := .bool (z1)) (by rfl) ?_ ?_
            · (intro w1 hC; obtain ⟨⟨⟨g00, g01, g02, -, -, -⟩, ⟨g10, g11, g12, -, -, -⟩, ⟨g20, g21, g22, -, -, -⟩, ⟨g30, g31, g32, -, -, -⟩, ⟨g40, g41, g42, -, -, -⟩, -⟩, -⟩ := hC; go_simp; first | done | (simp; done) | (simp [*]; done) | omega | (simp; omega) | (rw [IntKind.wrap_i64]; omega) | (intro hx; omega) | rfl)
            simp only [Act.put, List.setIfInBounds_toArray, List.set_cons_zero, List.set_cons_succ]
            refine qw_run (v := .agg #[.int .u64 x0, .int .u64 x1, .int .u64 x2]) (by rfl) ?_ ?_
            · (intro w1 hC; obtain ⟨⟨⟨g00, g01, g02, -, -, -⟩, ⟨g10, g11, g12, -, -, -⟩, ⟨g20, g21, g22, -, -, -⟩, ⟨g30, g31, g32, -, -, -⟩, ⟨g40, g41, g42, -, -, -⟩, -⟩, -⟩ := hC; go_simp; first | done | (simp; done) | (simp [*]; done) | omega | (simp; omega) | (rw [IntKind.wrap_i64]; omega) | (intro hx; omega) | rfl)
            simp only [Act.put, List.setIfInBounds_toArray, List.set_cons_zero, List.set_cons_succ]
            refine qw_run (v := .agg #[.int .u64 y0, .int .u64 y1, .int .u64 y2]) (by rfl) ?_ ?_
            · (intro w1 hC; obtain ⟨⟨⟨g00, g01, g02, -, -, -⟩, ⟨g10, g11, g12, -, -, -⟩, ⟨g20, g21, g22, -, -, -⟩, ⟨g30, g31, g32, -, -, -⟩, ⟨g40, g41, g42, -, -, -⟩, -⟩, -⟩ := hC; go_simp; first | done | (simp; done) | (simp [*]; done) | omega | (simp; omega) | (rw [IntKind.wrap_i64]; omega) | (intro hx; omega) | rfl)
            simp only [Act.put, List.setIfInBounds_toArray, List.set_cons_zero, List.set_cons_succ]
            refine qw_run (v := .bool (z1)) (by rfl) ?_ ?_
            · (intro w1 hC; obtain ⟨⟨⟨g00, g01, g02, -, -, -⟩, ⟨g10, g11, g12, -, -, -⟩, ⟨g20, g21, g22, -, -, -⟩, ⟨g30, g31, g32, -, -, -⟩, ⟨g40, g41, g42, -, -, -⟩, -⟩, -⟩ := hC; go_simp; first | done | (simp; done) | (simp [*]; done) | omega | (simp; omega) | (rw [IntKind.wrap_i64]; omega) | (intro hx; omega) | rfl)
            simp only [Act.put, List.setIfInBounds_toArray, List.set_cons_zero, List.set_cons_succ]
            refine qw_run (v := .bool false) (by rfl) ?_ ?_
            · (intro w1 hC; obtain ⟨⟨⟨g00, g01, g02, -, -, -⟩, ⟨g10, g11, g12, -, -, -⟩, ⟨g20, g21, g22, -, -, -⟩, ⟨g30, g31, g32, -, -, -⟩, ⟨g40, g41, g42, -, -, -⟩, -⟩, -⟩ := hC; go_simp; first | done | (simp; done) | (simp [*]; done) | omega | (simp; omega) | (rw [IntKind.wrap_i64]; omega) | (intro hx; omega) | rfl)
            simp only [Act.put, List.setIfInBounds_toArray, List.set_cons_zero, List.set_cons_succ]
            refine qw_run (v := .bool false) (by rfl) ?_ ?_
            · (intro w1 hC; obtain ⟨⟨⟨g00, g01, g02, -, -, -⟩, ⟨g10, g11, g12, -, -, -⟩, ⟨g20, g21, g22, -, -, -⟩, ⟨g30, g31, g32, -, -, -⟩, ⟨g40, g41, g42, -, -, -⟩, -⟩, -⟩ := hC; go_simp; first | done | (simp; done) | (simp [*]; done) | omega | (simp; omega) | (rw [IntKind.wrap_i64]; omega) | (intro hx; omega) | rfl)
            simp only [Act.put, List.setIfInBounds_toArray, List.set_cons_zero, List.set_cons_succ]
            refine qw_nil ?_
            intro v3r hC
            have Hr3 := hid9 hC
            clear H3 hC
            obtain ⟨f00, f01, f02, -, -, -⟩ := (Hr3.out.1.2.2.2.2).1
            obtain ⟨f10, f11, f12, -, -, -⟩ := (Hr3.out.1.2.2.2).1
            go_wp2_with fail
            clear f00 f01 f02 f10 f11 f12
            refine (KAB _).mono ?_
            rintro e v4 ⟨rfl, hb⟩
            have H4 := hid9 (Kcs.below Hr3.out hb)
            clear Hr3 hb
            obtain ⟨f00, f01, f02, -, -, -⟩ := (H4.out.1.2.2.2).1
            obtain ⟨f10, f11, f12, -, -, -⟩ := (H4.out.1.2.2).1
            go_wp2_with fail
            clear f00 f01 f02 f10 f11 f12
            refine (KBC _).mono ?_
            rintro e v5 ⟨rfl, hb⟩
            have H5 := hid9 (Kcs.below H4.out hb)
            clear H4 hb
            go_wp2_with fail
            refine qw_region (C := fun W => Kcs w W [(N3, s0, s1, s2), (N2, s0, s1, s2), (w.heap.size + 1 + 1, z0', z1', z2'), (w.heap.size + 1, y0, y1, y2), (w.heap.size, x0, x1, x2)]) (by kernel_rfl) (by kernel_rfl) H5.out.drew ?_
            refine qw_run (v := .agg #[.int .u64 s0, .int .u64 s1, .int .u64 s2]) (by rfl) ?_ ?_
            · (intro w1 hC; obtain ⟨⟨⟨g00, g01, g02, -, -, -⟩, ⟨g10, g11, g12, -, -, -⟩, ⟨g20, g21, g22, -, -, -⟩, ⟨g30, g31, g32, -, -, -⟩, ⟨g40, g41, g42, -, -, -⟩, -⟩, -⟩ := hC; go_simp; first | done | (simp; done) | (simp [*]; done) | omega | (simp; omega) | (rw [IntKind.wrap_i64]; omega) | (intro hx; omega) | rfl)
            simp only [Act.put, List.setIfInBounds_toArray, List.set_cons_zero, List.set_cons_succ]
            refine qw_run (v := .agg #[.int .u64 x0, .int .u64 x1, .int .u64 x2]) (by rfl) ?_ ?_
            · (intro w1 hC; obtain ⟨⟨⟨g00, g01, g02, -, -, -⟩, ⟨g10, g11, g12, -, -, -⟩, ⟨g20, g21, g22, -, -, -⟩, ⟨g30, g31, g32, -, -, -⟩, ⟨g40, g41, g42, -, -, -⟩, -⟩, -⟩ := hC; go_simp; first | done | (simp; done) | (simp [*]; done) | omega | (simp; omega) | (rw [IntKind.wrap_i64]; omega) | (intro hx; omega) | rfl)
            simp only [Act.put, List.setIfInBounds_toArray, List.set_cons_zero, List.set_cons_succ]
            refine qw_call (v := .int .i64 (csa)) (f := 18) (args := #[.agg #[.int .u64 s0, .int .u64 s1, .int .u64 s2], .agg #[.int .u64 x0, .int .u64 x1, .int .u64 x2]]) (by rfl) ?_ ?_ ?_
            · (intro w1 hC; clear hC; go_simp)
            · exact fun w1 hC => (KSA w1).mono fun e w' ⟨he, hb⟩ => ⟨he, Kcs.below hC hb⟩
            simp only [Act.put, List.setIfInBounds_toArray, List.set_cons_zero, List.set_cons_succ]
            refine qw_run (v := .bool false) (by rfl) ?_ ?_
            · (intro w1 hC; obtain ⟨⟨⟨g00, g01, g02, -, -, -⟩, ⟨g10, g11, g12, -, -, -⟩, ⟨g20, g21, g22, -, -, -⟩, ⟨g30, g31, g32, -, -, -⟩, ⟨g40, g41, g42, -, -, -⟩, -⟩, -⟩ := hC; go_simp; first | done | (simp; done) | (simp [*]; done) | omega | (simp; omega) | (rw [IntKind.wrap_i64]; omega) | (intro hx; omega) | rfl)
            simp only [Act.put, List.setIfInBounds_toArray, List.set_cons_zero, List.set_cons_succ]
            refine qw_run (v := .bool false) (by rfl) ?_ ?_
            · (intro w1 hC; obtain ⟨⟨⟨g00, g01, g02, -, -, -⟩, ⟨g10, g11, g12, -, -, -⟩, ⟨g20, g21, g22, -, -, -⟩, ⟨g30, g31, g32, -, -, -⟩, ⟨g40, g41, g42, -, -, -⟩, -⟩, -⟩ := hC; go_simp; first | done | (simp; done) | (simp [*]; done) | omega | (simp; omega) | (rw [IntKind.wrap_i64]; omega) | (intro hx; omega) | rfl)
            simp only [Act.put, List.setIfInBounds_toArray, List.set_cons_zero, List.set_cons_succ]
            refine qw_run (v := .agg #[.int .u64 s0, .int .u64 s1, .int .u64 s2]) (by rfl) ?_ ?_
            · (intro w1 hC; obtain ⟨⟨⟨g00, g01, g02, -, -, -⟩, ⟨g10, g11, g12, -, -, -⟩, ⟨g20, g21, g22, -, -, -⟩, ⟨g30, g31, g32, -, -, -⟩, ⟨g40, g41, g42, -, -, -⟩, -⟩, -⟩ := hC; go_simp; first | done | (simp; done) | (simp [*]; done) | omega | (simp; omega) | (rw [IntKind.wrap_i64]; omega) | (intro hx; omega) | rfl)
            simp only [Act.put, List.setIfInBounds_toArray, List.set_cons_zero, List.set_cons_succ]
            refine qw_run (v := .agg #[.int .u64 x0, .int .u64 x1, .int .u64 x2]) (by rfl) ?_ ?_
            · (intro w1 hC; obtain ⟨⟨⟨g00, g01, g02, -, -, -⟩, ⟨g10, g11, g12, -, -, -⟩, ⟨g20, g21, g22, -, -, -⟩, ⟨g30, g31, g32, -, -, -⟩, ⟨g40, g41, g42, -, -, -⟩, -⟩, -⟩ := hC; go_simp; first | done | (simp; done) | (simp [*]; done) | omega | (simp; omega) | (rw [IntKind.wrap_i64]; omega) | (intro hx; omega) | rfl)
            simp only [Act.put, List.setIfInBounds_toArray, List.set_cons_zero, List.set_cons_succ]
            refine qw_call (v := .int .i64 (csa)) (f := 18) (args := #[.agg #[.int .u64 s0, .int .u64 s1, .int .u64 s2], .agg #[.int .u64 x0, .int .u64 x1, .int .u64 x2]]) (by rfl) ?_ ?_ ?_
            · (intro w1 hC; clear hC; go_simp)
            · exact fun w1 hC => (KSA w1).mono fun e w' ⟨he, hb⟩ => ⟨he, Kcs.below hC hb⟩
            simp only [Act.put, List.setIfInBounds_toArray, List.set_cons_zero, List.set_cons_succ]
            refine qw_run (v := .bool (z2)) (by rfl) ?_ ?_
            · (intro w1 hC; obtain ⟨⟨⟨g00, g01, g02, -, -, -⟩, ⟨g10, g11, g12, -, -, -⟩, ⟨g20, g21, g22, -, -, -⟩, ⟨g30, g31, g32, -, -, -⟩, ⟨g40, g41, g42, -, -, -⟩, -⟩, -⟩ := hC; go_simp; first | done | (simp; done) | (simp [*]; done) | omega | (simp; omega) | (rw [IntKind.wrap_i64]; omega) | (intro hx; omega) | rfl)
            simp only [Act.put, List.setIfInBounds_toArray, List.set_cons_zero, List.set_cons_succ]
            refine qw_run (v := .agg #[.int .u64 y0, .int .u64 y1, .int .u64 y2]) (by rfl) ?_ ?_
            · (intro w1 hC; obtain ⟨⟨⟨g00, g01, g02, -, -, -⟩, ⟨g10, g11, g12, -, -, -⟩, ⟨g20, g21, g22, -, -, -⟩, ⟨g30, g31, g32, -, -, -⟩, ⟨g40, g41, g42, -, -, -⟩, -⟩, -⟩ := hC; go_simp; first | done | (simp; done) | (simp [*]; done) | omega | (simp; omega) | (rw [IntKind.wrap_i64]; omega) | (intro hx; omega) | rfl)
            simp only [Act.put, List.setIfInBounds_toArray, List.set_cons_zero, List.set_cons_succ]
            refine qw_run (v := .agg #[.int .u64 0, .int .u64 0, .int .u64 0]) (by rfl) ?_ ?_
            · (intro w1 hC; obtain ⟨⟨⟨g00, g01, g02, -, -, -⟩, ⟨g10, g11, g12, -, -, -⟩, ⟨g20, g21, g22, -, -, -⟩, ⟨g30, g31, g32, -, -, -⟩, ⟨g40, g41, g42, -, -, -⟩, -⟩, -⟩ := hC; go_simp; first | done | (simp; done) | (simp [*]; done) | omega | (simp; omega) | (rw [IntKind.wrap_i64]; omega) | (intro hx; omega) | rfl)
            simp only [Act.put, List.setIfInBounds_toArray, List.set_cons_zero, List.set_cons_succ]
            refine qw_run (v := .bool (z2)) (by rfl) ?_ ?_
            · (intro w1 hC; obtain ⟨⟨⟨g00, g01, g02, -, -, -⟩, ⟨g10, g11, g12, -, -, -⟩, ⟨g20, g21, g22, -, -, -⟩, ⟨g30, g31, g32, -, -, -⟩, ⟨g40, g41, g42, -, -, -⟩, -⟩, -⟩ := hC; go_simp; first | done | (simp; done) | (simp [*]; done) | omega | (simp; omega) | (rw [IntKind.wrap_i64]; omega) | (intro hx; omega) | rfl)
            simp only [Act.put, List.setIfInBounds_toArray, List.set_cons_zero, List.set_cons_succ]
            refine qw_run (v := .bool false) (by rfl) ?_ ?_
            · (intro w1 hC; obtain ⟨⟨⟨g00, g01, g02, -, -, -⟩, ⟨g10, g11, g12, -, -, -⟩, ⟨g20, g21, g22, -, -, -⟩, ⟨g30, g31, g32, -, -, -⟩, ⟨g40, g41, g42, -, -, -⟩, -⟩, -⟩ := hC; go_simp; first | done | (simp; done) | (simp [*]; done) | omega | (simp; omega) | (rw [IntKind.wrap_i64]; omega) | (intro hx; omega) | rfl)
            simp only [Act.put, List.setIfInBounds_toArray, List.set_cons_zero, List.set_cons_succ]
            refine qw_run (v := .bool false) (by rfl) ?_ ?_
            · (intro w1 hC; obtain ⟨⟨⟨g00, g01, g02, -, -, -⟩, ⟨g10, g11, g12, -, -, -⟩, ⟨g20, g21, g22, -, -, -⟩, ⟨g30, g31, g32, -, -, -⟩, ⟨g40, g41, g42, -, -, -⟩, -⟩, -⟩ := hC; go_simp; first | done | (simp; done) | (simp [*]; done) | omega | (simp; omega) | (rw [IntKind.wrap_i64]; omega) | (intro hx; omega) | rfl)
            simp only [Act.put, List.setIfInBounds_toArray, List.set_cons_zero, List.set_cons_succ]
            refine qw_nil ?_
            intro v6r hC
            have Hr6 := hid9 hC
            clear H5 hC
            obtain ⟨f00, f01, f02, -, -, -⟩ := (Hr6.out.1.2).1
            obtain ⟨f10, f11, f12, -, -, -⟩ := (Hr6.out.1.2.2).1
            go_wp2_with fail
            clear f00 f01 f02 f10 f11 f12
            refine (KU _).mono ?_
            rintro e v7 ⟨rfl, hb⟩
            have H7 := hid9 (Kcs.new (a := 0) (b := 0) (c := 0) Hr6.out hb)
            clear Hr6 hb
            obtain ⟨f00, f01, f02, -, -, -⟩ := (H7.out.1.2.2.2.2).1
            obtain ⟨f10, f11, f12, -, -, -⟩ := (H7.out.1.2.2.2).1
            go_wp2_with fail
            clear f00 f01 f02 f10 f11 f12
            revert H7
            generalize v7.alloc (.cells #[.int .u64 0, .int .u64 0, .int .u64 0] 24) = W7
            generalize v7.heap.size = N7
            intro H7
            refine (KT _).mono ?_
            rintro e v8 ⟨rfl, hb⟩
            have H8 := hid9 (Kcs.new (a := t0) (b := t1) (c := t2) H7.out hb)
            clear H7 hb
            obtain ⟨f00, f01, f02, -, -, -⟩ := (H8.out.1.2.2.2.2.2.2).1
            go_wp2_with fail
            clear f00 f01 f02
            revert H8
            generalize v8.alloc (.cells #[.int .u64 t0, .int .u64 t1, .int .u64 t2] 24) = W8
            generalize v8.heap.size = N8
            intro H8
            refine (KV _).mono ?_
            rintro e v9 ⟨rfl, hb⟩
            have H9 := hid9 (Kcs.new (a := 0) (b := 0) (c := 0) H8.out hb)
            clear H8 hb
            obtain ⟨f00, f01, f02, -, -, -⟩ := (H9.out.1.2.2).1
            obtain ⟨f10, f11, f12, -, -, -⟩ := (H9.out.1).1
            go_wp2
            go_ret
            exact ⟨rfl, H9.out.2⟩
        · have d1 : decide (cmpN N M ≤ 0) = false := decide_eq_false (fun h => o1 (l1.mp h))
          clear l1 l2 l3 hN hM hK o1
          generalize cmpN N M = cab at *
          generalize cmpN M N = cba at *
          generalize cmpN M K = cbc at *
          generalize cmpN N K = cac at *
          have H0 := hid9 (Kcs.three w x0 x1 x2 y0 y1 y2 z0' z1' z2')
          go_enter Try.func6, Try.ntmps6
          go_wp2_with fail
          revert H0
          generalize ((w.alloc (.cells #[.int .u64 x0, .int .u64 x1, .int .u64 x2] 24)).alloc (.cells #[.int .u64 y0, .int .u64 y1, .int .u64 y2] 24)).alloc (.cells #[.int .u64 z0', .int .u64 z1', .int .u64 z2'] 24) = W0
          intro H0
          refine (KK _).mono ?_
          rintro e v1 ⟨rfl, hb⟩
          have H1 := hid9 (Kcs.below H0.out hb)
          clear H0 hb
          obtain ⟨f00, f01, f02, -, -, -⟩ := (H1.out.1.2.2).1
          obtain ⟨f10, f11, f12, -, -, -⟩ := (H1.out.1.2).1
          go_wp2_with fail
          clear f00 f01 f02 f10 f11 f12
          refine (KS _).mono ?_
          rintro e v2 ⟨rfl, hb⟩
          have H2 := hid9 (Kcs.new (a := s0) (b := s1) (c := s2) H1.out hb)
          clear H1 hb
          obtain ⟨f00, f01, f02, -, -, -⟩ := (H2.out.1.2.2.2).1
          obtain ⟨f10, f11, f12, -, -, -⟩ := (H2.out.1.2.2).1
          go_wp2_with fail
          clear f00 f01 f02 f10 f11 f12
          revert H2
          generalize v2.alloc (.cells #[.int .u64 s0, .int .u64 s1, .int .u64 s2] 24) = W2
          generalize v2.heap.size = N2
          intro H2
          refine (KS2 _).mono ?_
          rintro e v3 ⟨rfl, hb⟩
          have H3 := hid9 (Kcs.new (a := s0) (b := s1) (c := s2) H2.out hb)
          clear H2 hb
          go_wp2_with fail
          revert H3
          generalize v3.alloc (.cells #[.int .u64 s0, .int .u64 s1, .int .u64 s2] 24) = W3
          generalize v3.heap.size = N3
          intro H3
          refine qw_region (C := fun W => Kcs w W [(N3, s0, s1, s2), (N2, s0, s1, s2), (w.heap.size + 1 + 1, z0', z1', z2'), (w.heap.size + 1, y0, y1, y2), (w.heap.size, x0, x1, x2)]) (by kernel_rfl) (by kernel_rfl) H3.out.drew ?_
          refine qw_run (v := .int .i64 (0)) (by rfl) ?_ ?_
          · (intro w1 hC; obtain ⟨⟨⟨g00, g01, g02, -, -, -⟩, ⟨g10, g11, g12, -, -, -⟩, ⟨g20, g21, g22, -, -, -⟩, ⟨g30, g31, g32, -, -, -⟩, ⟨g40, g41, g42, -, -, -⟩, -⟩, -⟩ := hC; go_simp; first | done | (simp; done) | (simp [*]; done) | omega | (simp; omega) | (rw [IntKind.wrap_i64]; omega) | (intro hx; omega) | rfl)
          simp only [Act.put, List.setIfInBounds_toArray, List.set_cons_zero, List.set_cons_succ]
          refine qw_run (v := .int .i64 (0)) (by rfl) ?_ ?_
          · (intro w1 hC; obtain ⟨⟨⟨g00, g01, g02, -, -, -⟩, ⟨g10, g11, g12, -, -, -⟩, ⟨g20, g21, g22, -, -, -⟩, ⟨g30, g31, g32, -, -, -⟩, ⟨g40, g41, g42, -, -, -⟩, -⟩, -⟩ := hC; go_simp; first | done | (simp; done) | (simp [*]; done) | omega | (simp; omega) | (rw [IntKind.wrap_i64]; omega) | (intro hx; omega) | rfl)
          simp only [Act.put, List.setIfInBounds_toArray, List.set_cons_zero, List.set_cons_succ]
          refine qw_run (v := .bool false) (by rfl) ?_ ?_
          · (intro w1 hC; obtain ⟨⟨⟨g00, g01, g02, -, -, -⟩, ⟨g10, g11, g12, -, -, -⟩, ⟨g20, g21, g22, -, -, -⟩, ⟨g30, g31, g32, -, -, -⟩, ⟨g40, g41, g42, -, -, -⟩, -⟩, -⟩ := hC; go_simp; first | done | (simp; done) | (simp [*]; done) | omega | (simp; omega) | (rw [IntKind.wrap_i64]; omega) | (intro hx; omega) | rfl)
          simp only [Act.put, List.setIfInBounds_toArray, List.set_cons_zero, List.set_cons_succ]
          refine qw_run (v := .bool false) (by rfl) ?_ ?_
          · (intro w1 hC; obtain ⟨⟨⟨g00, g01, g02, -, -, -⟩, ⟨g10, g11, g12, -, -, -⟩, ⟨g20, g21, g22, -, -, -⟩, ⟨g30, g31, g32, -, -, -⟩, ⟨g40, g41, g42, -, -, -⟩, -⟩, -⟩ := hC; go_simp; first | done | (simp; done) | (simp [*]; done) | omega | (simp; omega) | (rw [IntKind.wrap_i64]; omega) | (intro hx; omega) | rfl)
          simp only [Act.put, List.setIfInBounds_toArray, List.set_cons_zero, List.set_cons_succ]
          refine qw_run (v := .agg #[.int .u64 s0, .int .u64 s1, .int .u64 s2]) (by rfl) ?_ ?_
          · (intro w1 hC; obtain ⟨⟨⟨g00, g01, g02, -, -, -⟩, ⟨g10, g11, g12, -, -, -⟩, ⟨g20, g21, g22, -, -, -⟩, ⟨g30, g31, g32, -, -, -⟩, ⟨g40, g41, g42, -, -, -⟩, -⟩, -⟩ := hC; go_simp; first | done | (simp; done) | (simp [*]; done) | omega | (simp; omega) | (rw [IntKind.wrap_i64]; omega) | (intro hx; omega) | rfl)
          simp only [Act.put, List.setIfInBounds_toArray, List.set_cons_zero, List.set_cons_succ]
          refine qw_run (v := .agg #[.int .u64 s0, .int .u64 s1, .int .u64 s2]) (by rfl) ?_ ?_
          · (intro w1 hC; obtain ⟨⟨⟨g00, g01, g02, -, -, -⟩, ⟨g10, g11, g12, -, -, -⟩, ⟨g20, g21, g22, -, -, -⟩, ⟨g30, g31, g32, -, -, -⟩, ⟨g40, g41, g42, -, -, -⟩, -⟩, -⟩ := hC; go_simp; first | done | (simp; done) | (simp [*]; done) | omega | (simp; omega) | (rw [IntKind.wrap_i64]; omega) | (intro hx; omega) | rfl)
          simp only [Act.put, List.setIfInBounds_toArray, List.set_cons_zero, List.set_cons_succ]
          refine qw_run (v := .bool false) (by rfl) ?_ ?_
          · (intro w1 hC; obtain ⟨⟨⟨g00, g01, g02, -, -, -⟩, ⟨g10, g11, g12, -, -, -⟩, ⟨g20, g21, g22, -, -, -⟩, ⟨g30, g31, g32, -, -, -⟩, ⟨g40, g41, g42, -, -, -⟩, -⟩, -⟩ := hC; go_simp; first | done | (simp; done) | (simp [*]; done) | omega | (simp; omega) | (rw [IntKind.wrap_i64]; omega) | (intro hx; omega) | rfl)
          simp only [Act.put, List.setIfInBounds_toArray, List.set_cons_zero, List.set_cons_succ]
          refine qw_run (v := .bool false) (by rfl) ?_ ?_
          · (intro w1 hC; obtain ⟨⟨⟨g00, g01, g02, -, -, -⟩, ⟨g10, g11, g12, -, -, -⟩, ⟨g20, g21, g22, -, -, -⟩, ⟨g30, g31, g32, -, -, -⟩, ⟨g40, g41, g42, -, -, -⟩, -⟩, -⟩ := hC; go_simp; first | done | (simp; done) | (simp [*]; done) | omega | (simp; omega) | (rw [IntKind.wrap_i64]; omega) | (intro hx; omega) | rfl)
          simp only [Act.put, List.setIfInBounds_toArray, List.set_cons_zero, List.set_cons_succ]
          refine qw_run (v := .bool false) (by rfl) ?_ ?_
          · (intro w1 hC; obtain ⟨⟨⟨g00, g01, g02, -, -, -⟩, ⟨g10, g11, g12, -, -, -⟩, ⟨g20, g21, g22, -, -, -⟩, ⟨g30, g31, g32, -, -, -⟩, ⟨g40, g41, g42, -, -, -⟩, -⟩, -⟩ := hC; go_simp; first | done | (simp; done) | (simp [*]; done) | omega | (simp; omega) | (rw [IntKind.wrap_i64]; omega) | (intro hx; omega) | rfl)
          simp only [Act.put, List.setIfInBounds_toArray, List.set_cons_zero, List.set_cons_succ]
          refine qw_run (v := .agg #[.int .u64 x0, .int .u64 x1, .int .u64 x2]) (by rfl) ?_ ?_
          · (intro w1 hC; obtain ⟨⟨⟨g00, g01, g02, -, -, -⟩, ⟨g10, g11, g12, -, -, -⟩, ⟨g20, g21, g22, -, -, -⟩, ⟨g30, g31, g32, -, -, -⟩, ⟨g40, g41, g42, -, -, -⟩, -⟩, -⟩ := hC; go_simp; first | done | (simp; done) | (simp [*]; done) | omega | (simp; omega) | (rw [IntKind.wrap_i64]; omega) | (intro hx; omega) | rfl)
          simp only [Act.put, List.setIfInBounds_toArray, List.set_cons_zero, List.set_cons_succ]
          refine qw_run (v := .agg #[.int .u64 y0, .int .u64 y1, .int .u64 y2]) (by rfl) ?_ ?_
          · (intro w1 hC; obtain ⟨⟨⟨g00, g01, g02, -, -, -⟩, ⟨g10, g11, g12, -, -, -⟩, ⟨g20, g21, g22, -, -, -⟩, ⟨g30, g31, g32, -, -, -⟩, ⟨g40, g41, g42, -, -, -⟩, -⟩, -⟩ := hC; go_simp; first | done | (simp; done) | (simp [*]; done) | omega | (simp; omega) | (rw [IntKind.wrap_i64]; omega) | (intro hx; omega) | rfl)
          simp only [Act.put, List.setIfInBounds_toArray, List.set_cons_zero, List.set_cons_succ]
          refine qw_call (v := .int .i64 (cab)) (f := 18) (args := #[.agg #[.int .u64 x0, .int .u64 x1, .int .u64 x2], .agg #[.int .u64 y0, .int .u64 y1, .int .u64 y2]]) (by rfl) ?_ ?_ ?_
          · (intro w1 hC; clear hC; go_simp)
          · exact fun w1 hC => (KAB w1).mono fun e w' ⟨he, hb⟩ => ⟨he, Kcs.below hC hb⟩
          simp only [Act.put, List.setIfInBounds_toArray, List.set_cons_zero, List.set_cons_succ]
          refine qw_run (v := .agg #[.int .u64 y0, .int .u64 y1, .int .u64 y2]) (by rfl) ?_ ?_
          · (intro w1 hC; obtain ⟨⟨⟨g00, g01, g02, -, -, -⟩, ⟨g10, g11, g12, -, -, -⟩, ⟨g20, g21, g22, -, -, -⟩, ⟨g30, g31, g32, -, -, -⟩, ⟨g40, g41, g42, -, -, -⟩, -⟩, -⟩ := hC; go_simp; first | done | (simp; done) | (simp [*]; done) | omega | (simp; omega) | (rw [IntKind.wrap_i64]; omega) | (intro hx; omega) | rfl)
          simp only [Act.put, List.setIfInBounds_toArray, List.set_cons_zero, List.set_cons_succ]
          refine qw_run (v := .agg #[.int .u64 x0, .int .u64 x1, .int .u64 x2]) (by rfl) ?_ ?_
          · (intro w1 hC; obtain ⟨⟨⟨g00, g01, g02, -, -, -⟩, ⟨g10, g11, g12, -, -, -⟩, ⟨g20, g21, g22, -, -, -⟩, ⟨g30, g31, g32, -, -, -⟩, ⟨g40, g41, g42, -, -, -⟩, -⟩, -⟩ := hC; go_simp; first | done | (simp; done) | (simp [*]; done) | omega | (simp; omega) | (rw [IntKind.wrap_i64]; omega) | (intro hx; omega) | rfl)
          simp only [Act.put, List.setIfInBounds_toArray, List.set_cons_zero, List.set_cons_succ]
          refine qw_call (v := .int .i64 (cba)) (f := 18) (args := #[.agg #[.int .u64 y0, .int .u64 y1, .int .u64 y2], .agg #[.int .u64 x0, .int .u64 x1, .int .u64 x2]]) (by rfl) ?_ ?_ ?_
          · (intro w1 hC; clear hC; go_simp)
          · exact fun w1 hC => (KBA w1).mono fun e w' ⟨he, hb⟩ => ⟨he, Kcs.below hC hb⟩
          simp only [Act.put, List.setIfInBounds_toArray, List.set_cons_zero, List.set_cons_succ]
          refine qw_run (v := .int .i64 (cab)) (by rfl) ?_ ?_
          · (intro w1 hC; obtain ⟨⟨⟨g00, g01, g02, -, -, -⟩, ⟨g10, g11, g12, -, -, -⟩, ⟨g20, g21, g22, -, -, -⟩, ⟨g30, g31, g32, -, -, -⟩, ⟨g40, g41, g42, -, -, -⟩, -⟩, -⟩ := hC; go_simp; first | done | (simp; done) | (simp [*]; done) | omega | (simp; omega) | (rw [IntKind.wrap_i64]; omega) | (intro hx; omega) | rfl)
          simp only [Act.put, List.setIfInBounds_toArray, List.set_cons_zero, List.set_cons_succ]
          refine qw_run (v := .bool false) (by rfl) ?_ ?_
          · (intro w1 hC; obtain ⟨⟨⟨g00, g01, g02, -, -, -⟩, ⟨g10, g11, g12, -, -, -⟩, ⟨g20, g21, g22, -, -, -⟩, ⟨g30, g31, g32, -, -, -⟩, ⟨g40, g41, g42, -, -, -⟩, -⟩, -⟩ := hC; go_simp; first | done | (simp; done) | (simp [*]; done) | omega | (simp; omega) | (rw [IntKind.wrap_i64]; omega) | (intro hx; omega) | rfl)
          simp only [Act.put, List.setIfInBounds_toArray, List.set_cons_zero, List.set_cons_succ]
          refine qw_run (v := .bool false) (by rfl) ?_ ?_
          · (intro w1 hC; obtain ⟨⟨⟨g00, g01, g02, -, -, -⟩, ⟨g10, g11, g12, -, -, -⟩, ⟨g20, g21, g22, -, -, -⟩, ⟨g30, g31, g32, -, -, -⟩, ⟨g40, g41, g42, -, -, -⟩, -⟩, -⟩ := hC; go_simp; first | done | (simp; done) | (simp [*]; done) | omega | (simp; omega) | (rw [IntKind.wrap_i64]; omega) | (intro hx; omega) | rfl)
          simp only [Act.put, List.setIfInBounds_toArray, List.set_cons_zero, List.set_cons_succ]
          refine qw_run (v := .bool false) (by rfl) ?_ ?_
          · (intro w1 hC; obtain ⟨⟨⟨g00, g01, g02, -, -, -⟩, ⟨g10, g11, g12, -, -, -⟩, ⟨g20, g21, g22, -, -, -⟩, ⟨g30, g31, g32, -, -, -⟩, ⟨g40, g41, g42, -, -, -⟩, -⟩, -⟩ := hC; go_simp; first | done | (simp; done) | (simp [*]; done) | omega | (simp; omega) | (rw [IntKind.wrap_i64]; omega) | (intro hx; omega) | rfl)
          simp only [Act.put, List.setIfInBounds_toArray, List.set_cons_zero, List.set_cons_succ]
          refine qw_run (v := .agg #[.int .u64 x0, .int .u64 x1, .int .u64 x2]) (by rfl) ?_ ?_
          · (intro w1 hC; obtain ⟨⟨⟨g00, g01, g02, -, -, -⟩, ⟨g10, g11, g12, -, -, -⟩, ⟨g20, g21, g22, -, -, -⟩, ⟨g30, g31, g32, -, -, -⟩, ⟨g40, g41, g42, -, -, -⟩, -⟩, -⟩ := hC; go_simp; first | done | (simp; done) | (simp [*]; done) | omega | (simp; omega) | (rw [IntKind.wrap_i64]; omega) | (intro hx; omega) | rfl)
          simp only [Act.put, List.setIfInBounds_toArray, List.set_cons_zero, List.set_cons_succ]
          refine qw_run (v := .agg #[.int .u64 y0, .int .u64 y1, .int .u64 y2]) (by rfl) ?_ ?_
          · (intro w1 hC; obtain ⟨⟨⟨g00, g01, g02, -, -, -⟩, ⟨g10, g11, g12, -, -, -⟩, ⟨g20, g21, g22, -, -, -⟩, ⟨g30, g31, g32, -, -, -⟩, ⟨g40, g41, g42, -, -, -⟩, -⟩, -⟩ := hC; go_simp; first | done | (simp; done) | (simp [*]; done) | omega | (simp; omega) | (rw [IntKind.wrap_i64]; omega) | (intro hx; omega) | rfl)
          simp only [Act.put, List.setIfInBounds_toArray, List.set_cons_zero, List.set_cons_succ]
          refine qw_call (v := .int .i64 (cab)) (f := 18) (args := #[.agg #[.int .u64 x0, .int .u64 x1, .int .u64 x2], .agg #[.int .u64 y0, .int .u64 y1, .int .u64 y2]]) (by rfl) ?_ ?_ ?_
          · (intro w1 hC; clear hC; go_simp)
          · exact fun w1 hC => (KAB w1).mono fun e w' ⟨he, hb⟩ => ⟨he, Kcs.below hC hb⟩
          simp only [Act.put, List.setIfInBounds_toArray, List.set_cons_zero, List.set_cons_succ]
          refine qw_run (v := .bool (z1)) (by rfl) ?_ ?_
          · (intro w1 hC; obtain ⟨⟨⟨g00, g01, g02, -, -, -⟩, ⟨g10, g11, g12, -, -, -⟩, ⟨g20, g21, g22, -, -, -⟩, ⟨g30, g31, g32, -, -, -⟩, ⟨g40, g41, g42, -, -, -⟩, -⟩, -⟩ := hC; go_simp; first | done | (simp; done) | (simp [*]; done) | omega | (simp; omega) | (rw [IntKind.wrap_i64]; omega) | (intro hx; omega) | rfl)
          simp only [Act.put, List.setIfInBounds_toArray, List.set_cons_zero, List.set_cons_succ]
          refine qw_run (v := .agg #[.int .u64 x0, .int .u64 x1, .int .u64 x2]) (by rfl) ?_ ?_
          · (intro w1 hC; obtain ⟨⟨⟨g00, g01, g02, -, -, -⟩, ⟨g10, g11, g12, -, -, -⟩, ⟨g20, g21, g22, -, -, -⟩, ⟨g30, g31, g32, -, -, -⟩, ⟨g40, g41, g42, -, -, -⟩, -⟩, -⟩ := hC; go_simp; first | done | (simp; done) | (simp [*]; done) | omega | (simp; omega) | (rw [IntKind.wrap_i64]; omega) | (intro hx; omega) | rfl)
          simp only [Act.put, List.setIfInBounds_toArray, List.set_cons_zero, List.set_cons_succ]
          refine qw_run (v := .agg #[.int .u64 y0, .int .u64 y1, .int .u64 y2]) (by rfl) ?_ ?_
          · (intro w1 hC; obtain ⟨⟨⟨g00, g01, g02, -, -, -⟩, ⟨g10, g11, g12, -, -, -⟩, ⟨g20, g21, g22, -, -, -⟩, ⟨g30, g31, g32, -, -, -⟩, ⟨g40, g41, g42, -, -, -⟩, -⟩, -⟩ := hC; go_simp; first | done | (simp; done) | (simp [*]; done) | omega | (simp; omega) | (rw [IntKind.wrap_i64]; omega) | (intro hx; omega) | rfl)
          simp only [Act.put, List.setIfInBounds_toArray, List.set_cons_zero, List.set_cons_succ]
          refine qw_run (v := .bool (z1)) (by rfl) ?_ ?_
          · (intro w1 hC; obtain ⟨⟨⟨g00, g01, g02, -, -, -⟩, ⟨g10, g11, g12, -, -, -⟩, ⟨g20, g21, g22, -, -, -⟩, ⟨g30, g31, g32, -, -, -⟩, ⟨g40, g41, g42, -, -, -⟩, -⟩, -⟩ := hC; go_simp; first | done | (simp; done) | (simp [*]; done) | omega | (simp; omega) | (rw [IntKind.wrap_i64]; omega) | (intro hx; omega) | rfl)
          simp only [Act.put, List.setIfInBounds_toArray, List.set_cons_zero, List.set_cons_succ]
          refine qw_run (v := .bool false) (by rfl) ?_ ?_
          · (intro w1 hC; obtain ⟨⟨⟨g00, g01, g02, -, -, -⟩, ⟨g10, g11, g12, -, -, -⟩, ⟨g20, g21, g22, -, -, -⟩, ⟨g30, g31, g32, -, -, -⟩, ⟨g40, g41, g42, -, -, -⟩, -⟩, -⟩ := hC; go_simp; first | done | (simp; done) | (simp [*]; done) | omega | (simp; omega) | (rw [IntKind.wrap_i64]; omega) | (intro hx; omega) | rfl)
          simp only [Act.put, List.setIfInBounds_toArray, List.set_cons_zero, List.set_cons_succ]
          refine qw_run (v := .bool false) (by rfl) ?_ ?_
          · (intro w1 hC; obtain ⟨⟨⟨g00, g01, g02, -, -, -⟩, ⟨g10, g11, g12, -, -, -⟩, ⟨g20, g21, g22, -, -, -⟩, ⟨g30, g31, g32, -, -, -⟩, ⟨g40, g41, g42, -, -, -⟩, -⟩, -⟩ := hC; go_simp; first | done | (simp; done) | (simp [*]; done) | omega | (simp; omega) | (rw [IntKind.wrap_i64]; omega) | (intro hx; omega) | rfl)
          simp only [Act.put, List.setIfInBounds_toArray, List.set_cons_zero, List.set_cons_succ]
          refine qw_nil ?_
          intro v3r hC
          have Hr3 := hid9 hC
          clear H3 hC
          obtain ⟨f00, f01, f02, -, -, -⟩ := (Hr3.out.1.2.2.2.2).1
          obtain ⟨f10, f11, f12, -, -, -⟩ := (Hr3.out.1.2.2.2).1
          go_wp2_with fail
          clear f00 f01 f02 f10 f11 f12
          refine (KAB _).mono ?_
          rintro e v4 ⟨rfl, hb⟩
          have H4 := hid9 (Kcs.below Hr3.out hb)
          clear Hr3 hb
          go_wp2_with fail
          refine qw_region (C := fun W => Kcs w W [(N3, s0, s1, s2), (N2, s0, s1, s2), (w.heap.size + 1 + 1, z0', z1', z2'), (w.heap.size + 1, y0, y1, y2), (w.heap.size, x0, x1, x2)]) (by kernel_rfl) (by kernel_rfl) H4.out.drew ?_
          refine qw_run (v := .agg #[.int .u64 s0, .int .u64 s1, .int .u64 s2]) (by rfl) ?_ ?_
          · (intro w1 hC; obtain ⟨⟨⟨g00, g01, g02, -, -, -⟩, ⟨g10, g11, g12, -, -, -⟩, ⟨g20, g21, g22, -, -, -⟩, ⟨g30, g31, g32, -, -, -⟩, ⟨g40, g41, g42, -, -, -⟩, -⟩, -⟩ := hC; go_simp; first | done | (simp; done) | (simp [*]; done) | omega | (simp; omega) | (rw [IntKind.wrap_i64]; omega) | (intro hx; omega) | rfl)
          simp only [Act.put, List.setIfInBounds_toArray, List.set_cons_zero, List.set_cons_succ]
          refine qw_run (v := .agg #[.int .u64 x0, .int .u64 x1, .int .u64 x2]) (by rfl) ?_ ?_
          · (intro w1 hC; obtain ⟨⟨⟨g00, g01, g02, -, -, -⟩, ⟨g10, g11, g12, -, -, -⟩, ⟨g20, g21, g22, -, -, -⟩, ⟨g30, g31, g32, -, -, -⟩, ⟨g40, g41, g42, -, -, -⟩, -⟩, -⟩ := hC; go_simp; first | done | (simp; done) | (simp [*]; done) | omega | (simp; omega) | (rw [IntKind.wrap_i64]; omega) | (intro hx; omega) | rfl)
          simp only [Act.put, List.setIfInBounds_toArray, List.set_cons_zero, List.set_cons_succ]
          refine qw_call (v := .int .i64 (csa)) (f := 18) (args := #[.agg #[.int .u64 s0, .int .u64 s1, .int .u64 s2], .agg #[.int .u64 x0, .int .u64 x1, .int .u64 x2]]) (by rfl) ?_ ?_ ?_
          · (intro w1 hC; clear hC; go_simp)
          · exact fun w1 hC => (KSA w1).mono fun e w' ⟨he, hb⟩ => ⟨he, Kcs.below hC hb⟩
          simp only [Act.put, List.setIfInBounds_toArray, List.set_cons_zero, List.set_cons_succ]
          refine qw_run (v := .bool false) (by rfl) ?_ ?_
          · (intro w1 hC; obtain ⟨⟨⟨g00, g01, g02, -, -, -⟩, ⟨g10, g11, g12, -, -, -⟩, ⟨g20, g21, g22, -, -, -⟩, ⟨g30, g31, g32, -, -, -⟩, ⟨g40, g41, g42, -, -, -⟩, -⟩, -⟩ := hC; go_simp; first | done | (simp; done) | (simp [*]; done) | omega | (simp; omega) | (rw [IntKind.wrap_i64]; omega) | (intro hx; omega) | rfl)
          simp only [Act.put, List.setIfInBounds_toArray, List.set_cons_zero, List.set_cons_succ]
          refine qw_run (v := .bool false) (by rfl) ?_ ?_
          · (intro w1 hC; obtain ⟨⟨⟨g00, g01, g02, -, -, -⟩, ⟨g10, g11, g12, -, -, -⟩, ⟨g20, g21, g22, -, -, -⟩, ⟨g30, g31, g32, -, -, -⟩, ⟨g40, g41, g42, -, -, -⟩, -⟩, -⟩ := hC; go_simp; first | done | (simp; done) | (simp [*]; done) | omega | (simp; omega) | (rw [IntKind.wrap_i64]; omega) | (intro hx; omega) | rfl)
          simp only [Act.put, List.setIfInBounds_toArray, List.set_cons_zero, List.set_cons_succ]
          refine qw_run (v := .agg #[.int .u64 s0, .int .u64 s1, .int .u64 s2]) (by rfl) ?_ ?_
          · (intro w1 hC; obtain ⟨⟨⟨g00, g01, g02, -, -, -⟩, ⟨g10, g11, g12, -, -, -⟩, ⟨g20, g21, g22, -, -, -⟩, ⟨g30, g31, g32, -, -, -⟩, ⟨g40, g41, g42, -, -, -⟩, -⟩, -⟩ := hC; go_simp; first | done | (simp; done) | (simp [*]; done) | omega | (simp; omega) | (rw [IntKind.wrap_i64]; omega) | (intro hx; omega) | rfl)
          simp only [Act.put, List.setIfInBounds_toArray, List.set_cons_zero, List.set_cons_succ]
          refine qw_run (v := .agg #[.int .u64 x0, .int .u64 x1, .int .u64 x2]) (by rfl) ?_ ?_
          · (intro w1 hC; obtain ⟨⟨⟨g00, g01, g02, -, -, -⟩, ⟨g10, g11, g12, -, -, -⟩, ⟨g20, g21, g22, -, -, -⟩, ⟨g30, g31, g32, -, -, -⟩, ⟨g40, g41, g42, -, -, -⟩, -⟩, -⟩ := hC; go_simp; first | done | (simp; done) | (simp [*]; done) | omega | (simp; omega) | (rw [IntKind.wrap_i64]; omega) | (intro hx; omega) | rfl)
          simp only [Act.put, List.setIfInBounds_toArray, List.set_cons_zero, List.set_cons_succ]
          refine qw_call (v := .int .i64 (csa)) (f := 18) (args := #[.agg #[.int .u64 s0, .int .u64 s1, .int .u64 s2], .agg #[.int .u64 x0, .int .u64 x1, .int .u64 x2]]) (by rfl) ?_ ?_ ?_
          · (intro w1 hC; clear hC; go_simp)
          · exact fun w1 hC => (KSA w1).mono fun e w' ⟨he, hb⟩ => ⟨he, Kcs.below hC hb⟩
          simp only [Act.put, List.setIfInBounds_toArray, List.set_cons_zero, List.set_cons_succ]
          refine qw_run (v := .bool (z2)) (by rfl) ?_ ?_
          · (intro w1 hC; obtain ⟨⟨⟨g00, g01, g02, -, -, -⟩, ⟨g10, g11, g12, -, -, -⟩, ⟨g20, g21, g22, -, -, -⟩, ⟨g30, g31, g32, -, -, -⟩, ⟨g40, g41, g42, -, -, -⟩, -⟩, -⟩ := hC; go_simp; first | done | (simp; done) | (simp [*]; done) | omega | (simp; omega) | (rw [IntKind.wrap_i64]; omega) | (intro hx; omega) | rfl)
          simp only [Act.put, List.setIfInBounds_toArray, List.set_cons_zero, List.set_cons_succ]
          refine qw_run (v := .agg #[.int .u64 y0, .int .u64 y1, .int .u64 y2]) (by rfl) ?_ ?_
          · (intro w1 hC; obtain ⟨⟨⟨g00, g01, g02, -, -, -⟩, ⟨g10, g11, g12, -, -, -⟩, ⟨g20, g21, g22, -, -, -⟩, ⟨g30, g31, g32, -, -, -⟩, ⟨g40, g41, g42, -, -, -⟩, -⟩, -⟩ := hC; go_simp; first | done | (simp; done) | (simp [*]; done) | omega | (simp; omega) | (rw [IntKind.wrap_i64]; omega) | (intro hx; omega) | rfl)
          simp only [Act.put, List.setIfInBounds_toArray, List.set_cons_zero, List.set_cons_succ]
          refine qw_run (v := .agg #[.int .u64 0, .int .u64 0, .int .u64 0]) (by rfl) ?_ ?_
          · (intro w1 hC; obtain ⟨⟨⟨g00, g01, g02, -, -, -⟩, ⟨g10, g11, g12, -, -, -⟩, ⟨g20, g21, g22, -, -, -⟩, ⟨g30, g31, g32, -, -, -⟩, ⟨g40, g41, g42, -, -, -⟩, -⟩, -⟩ := hC; go_simp; first | done | (simp; done) | (simp [*]; done) | omega | (simp; omega) | (rw [IntKind.wrap_i64]; omega) | (intro hx; omega) | rfl)
          simp only [Act.put, List.setIfInBounds_toArray, List.set_cons_zero, List.set_cons_succ]
          refine qw_run (v := .bool (z2)) (by rfl) ?_ ?_
          · (intro w1 hC; obtain ⟨⟨⟨g00, g01, g02, -, -, -⟩, ⟨g10, g11, g12, -, -, -⟩, ⟨g20, g21, g22, -, -, -⟩, ⟨g30, g31, g32, -, -, -⟩, ⟨g40, g41, g42, -, -, -⟩, -⟩, -⟩ := hC; go_simp; first | done | (simp; done) | (simp [*]; done) | omega | (simp; omega) | (rw [IntKind.wrap_i64]; omega) | (intro hx; omega) | rfl)
          simp only [Act.put, List.setIfInBounds_toArray, List.set_cons_zero, List.set_cons_succ]
          refine qw_run (v := .bool false) (by rfl) ?_ ?_
          · (intro w1 hC; obtain ⟨⟨⟨g00, g01, g02, -, -, -⟩, ⟨g10, g11, g12, -, -, -⟩, ⟨g20, g21, g22, -, -, -⟩, ⟨g30, g31, g32, -, -, -⟩, ⟨g40, g41, g42, -, -, -⟩, -⟩, -⟩ := hC; go_simp; first | done | (simp; done) | (simp [*]; done) | omega | (simp; omega) | (rw [IntKind.wrap_i64]; omega) | (intro hx; omega) | rfl)
          simp only [Act.put, List.setIfInBounds_toArray, List.set_cons_zero, List.set_cons_succ]
          refine qw_run (v := .bool false) (by rfl) ?_ ?_
          · (intro w1 hC; obtain ⟨⟨⟨g00, g01, g02, -, -, -⟩, ⟨g10, g11, g12, -, -, -⟩, ⟨g20, g21, g22, -, -, -⟩, ⟨g30, g31, g32, -, -, -⟩, ⟨g40, g41, g42, -, -, -⟩, -⟩, -⟩ := hC; go_simp; first | done | (simp; done) | (simp [*]; done) | omega | (simp; omega) | (rw [IntKind.wrap_i64]; omega) | (intro hx; omega) | rfl)
          simp only [Act.put, List.setIfInBounds_toArray, List.set_cons_zero, List.set_cons_succ]
          refine qw_nil ?_
          intro v5r hC
          have Hr5 := hid9 hC
          clear H4 hC
          obtain ⟨f00, f01, f02, -, -, -⟩ := (Hr5.out.1.2).1
          obtain ⟨f10, f11, f12, -, -, -⟩ := (Hr5.out.1.2.2).1
          go_wp2_with fail
          clear f00 f01 f02 f10 f11 f12
          refine (KU _).mono ?_
          rintro e v6 ⟨rfl, hb⟩
          have H6 := hid9 (Kcs.new (a := 0) (b := 0) (c := 0) Hr5.out hb)
          clear Hr5 hb
          obtain ⟨f00, f01, f02, -, -, -⟩ := (H6.out.1.2.2.2.2).1
          obtain ⟨f10, f11, f12, -, -, -⟩ := (H6.out.1.2.2.2).1
          go_wp2_with fail
          clear f00 f01 f02 f10 f11 f12
          revert H6
          generalize v6.alloc (.cells #[.int .u64 0, .int .u64 0, .int .u64 0] 24) = W6
          generalize v6.heap.size = N6
          intro H6
          refine (KT _).mono ?_
          rintro e v7 ⟨rfl, hb⟩
          have H7 := hid9 (Kcs.new (a := t0) (b := t1) (c := t2) H6.out hb)
          clear H6 hb
          obtain ⟨f00, f01, f02, -, -, -⟩ := (H7.out.1.2.2.2.2.2.2).1
          go_wp2_with fail
          clear f00 f01 f02
          revert H7
          generalize v7.alloc (.cells #[.int .u64 t0, .int .u64 t1, .int .u64 t2] 24) = W7
          generalize v7.heap.size = N7
          intro H7
          refine (KV _).mono ?_
          rintro e v8 ⟨rfl, hb⟩
          have H8 := hid9 (Kcs.new (a := 0) (b := 0) (c := 0) H7.out hb)
          clear H7 hb
          obtain ⟨f00, f01, f02, -, -, -⟩ := (H8.out.1.2.2).1
          obtain ⟨f10, f11, f12, -, -, -⟩ := (H8.out.1).1
          go_wp2
          go_ret
          exact ⟨rfl, H8.out.2⟩
    · have KU := fun w => add_out (N + M) K w c1 hK (by omega)
      have KT := fun w => add_out M K w hM hK c2
      clear c1 c2
      unfold costV at *
      generalize cost0 (N + M) = s0 at *
      generalize cost1 (N + M) = s1 at *
      generalize cost2 (N + M) = s2 at *
      generalize cost0 N = x0 at *
      generalize cost1 N = x1 at *
      generalize cost2 N = x2 at *
      generalize cost0 M = y0 at *
      generalize cost1 M = y1 at *
      generalize cost2 M = y2 at *
      generalize cost0 K = z0' at *
      generalize cost1 K = z1' at *
      generalize cost2 K = z2' at *
      have q3 := eqC_same 0 0 0
      have q4 := eqC_same s0 s1 s2
      by_cases o1 : N ≤ M
      · by_cases o2 : M ≤ K
        · have d1 : decide (cmpN N M ≤ 0) = true := decide_eq_true (l1.mpr o1)
          have d2 : decide (cmpN M K ≤ 0) = true := decide_eq_true (l2.mpr o2)
          have d3 : decide (0 < cmpN N K) = false := decide_eq_false (by have := l3.mpr (by omega); omega)
          clear l1 l2 l3 hN hM hK o1 o2
          generalize cmpN N M = cab at *
          generalize cmpN M N = cba at *
          generalize cmpN M K = cbc at *
          generalize cmpN N K = cac at *
          have H0 := hid9 (Kcs.three w x0 x1 x2 y0 y1 y2 z0' z1' z2')
          go_enter Try.func6, Try.ntmps6
          go_wp2_with fail
          revert H0
          generalize ((w.alloc (.cells #[.int .u64 x0, .int .u64 x1, .int .u64 x2] 24)).alloc (.cells #[.int .u64 y0, .int .u64 y1, .int .u64 y2] 24)).alloc (.cells #[.int .u64 z0', .int .u64 z1', .int .u64 z2'] 24) = W0
          intro H0
          refine (KK _).mono ?_
          rintro e v1 ⟨rfl, hb⟩
          have H1 := hid9 (Kcs.below H0.out hb)
          clear H0 hb
          obtain ⟨f00, f01, f02, -, -, -⟩ := (H1.out.1.2.2).1
          obtain ⟨f10, f11, f12, -, -, -⟩ := (H1.out.1.2).1
          go_wp2_with fail
          clear f00 f01 f02 f10 f11 f12
          refine (KS _).mono ?_
          rintro e v2 ⟨rfl, hb⟩
          have H2 := hid9 (Kcs.new (a := s0) (b := s1) (c := s2) H1.out hb)
          clear H1 hb
          obtain ⟨f00, f01, f02, -, -, -⟩ := (H2.out.1.2.2.2).1
          obtain ⟨f10, f11, f12, -, -, -⟩ := (H2.out.1.2.2).1
          go_wp2_with fail
          clear f00 f01 f02 f10 f11 f12
          revert H2
          generalize v2.alloc (.cells #[.int .u64 s0, .int .u64 s1, .int .u64 s2] 24) = W2
          generalize v2.heap.size = N2
          intro H2
          refine (KS2 _).mono ?_
          rintro e v3 ⟨rfl, hb⟩
          have H3 := hid9 (Kcs.new (a := s0) (b := s1) (c := s2) H2.out hb)
          clear H2 hb
          go_wp2_with fail
          revert H3
          generalize v3.alloc (.cells #[.int .u64 s0, .int .u64 s1, .int .u64 s2] 24) = W3
          generalize v3.heap.size = N3
          intro H3
          refine qw_region (C := fun W => Kcs w W [(N3, s0, s1, s2), (N2, s0, s1, s2), (w.heap.size + 1 + 1, z0', z1', z2'), (w.heap.size + 1, y0, y1, y2), (w.heap.size, x0, x1, x2)]) (by kernel_rfl) (by kernel_rfl) H3.out.drew ?_
          refine qw_run (v := .int .i64 (0)) (by rfl) ?_ ?_
          · (intro w1 hC; obtain ⟨⟨⟨g00, g01, g02, -, -, -⟩, ⟨g10, g11, g12, -, -, -⟩, ⟨g20, g21, g22, -, -, -⟩, ⟨g30, g31, g32, -, -, -⟩, ⟨g40, g41, g42, -, -, -⟩, -⟩, -⟩ := hC; go_simp; first | done | (simp; done) | (simp [*]; done) | omega | (simp; omega) | (rw [IntKind.wrap_i64]; omega) | (intro hx; omega) | rfl)
          simp only [Act.put, List.setIfInBounds_toArray, List.set_cons_zero, List.set_cons_succ]
          refine qw_run (v := .int .i64 (0)) (by rfl) ?_ ?_
          · (intro w1 hC; obtain ⟨⟨⟨g00, g01, g02, -, -, -⟩, ⟨g10, g11, g12, -, -, -⟩, ⟨g20, g21, g22, -, -, -⟩, ⟨g30, g31, g32, -, -, -⟩, ⟨g40, g41, g42, -, -, -⟩, -⟩, -⟩ := hC; go_simp; first | done | (simp; done) | (simp [*]; done) | omega | (simp; omega) | (rw [IntKind.wrap_i64]; omega) | (intro hx; omega) | rfl)
          simp only [Act.put, List.setIfInBounds_toArray, List.set_cons_zero, List.set_cons_succ]
          refine qw_run (v := .bool false) (by rfl) ?_ ?_
          · (intro w1 hC; obtain ⟨⟨⟨g00, g01, g02, -, -, -⟩, ⟨g10, g11, g12, -, -, -⟩, ⟨g20, g21, g22, -, -, -⟩, ⟨g30, g31, g32, -, -, -⟩, ⟨g40, g41, g42, -, -, -⟩, -⟩, -⟩ := hC; go_simp; first | done | (simp; done) | (simp [*]; done) | omega | (simp; omega) | (rw [IntKind.wrap_i64]; omega) | (intro hx; omega) | rfl)
          simp only [Act.put, List.setIfInBounds_toArray, List.set_cons_zero, List.set_cons_succ]
          refine qw_run (v := .bool false) (by rfl) ?_ ?_
          · (intro w1 hC; obtain ⟨⟨⟨g00, g01, g02, -, -, -⟩, ⟨g10, g11, g12, -, -, -⟩, ⟨g20, g21, g22, -, -, -⟩, ⟨g30, g31, g32, -, -, -⟩, ⟨g40, g41, g42, -, -, -⟩, -⟩, -⟩ := hC; go_simp; first | done | (simp; done) | (simp [*]; done) | omega | (simp; omega) | (rw [IntKind.wrap_i64]; omega) | (intro hx; omega) | rfl)
          simp only [Act.put, List.setIfInBounds_toArray, List.set_cons_zero, List.set_cons_succ]
          refine qw_run (v := .agg #[.int .u64 s0, .int .u64 s1, .int .u64 s2]) (by rfl) ?_ ?_
          · (intro w1 hC; obtain ⟨⟨⟨g00, g01, g02, -, -, -⟩, ⟨g10, g11, g12, -, -, -⟩, ⟨g20, g21, g22, -, -, -⟩, ⟨g30, g31, g32, -, -, -⟩, ⟨g40, g41, g42, -, -, -⟩, -⟩, -⟩ := hC; go_simp; first | done | (simp; done) | (simp [*]; done) | omega | (simp; omega) | (rw [IntKind.wrap_i64]; omega) | (intro hx; omega) | rfl)
          simp only [Act.put, List.setIfInBounds_toArray, List.set_cons_zero, List.set_cons_succ]
          refine qw_run (v := .agg #[.int .u64 s0, .int .u64 s1, .int .u64 s2]) (by rfl) ?_ ?_
          · (intro w1 hC; obtain ⟨⟨⟨g00, g01, g02, -, -, -⟩, ⟨g10, g11, g12, -, -, -⟩, ⟨g20, g21, g22, -, -, -⟩, ⟨g30, g31, g32, -, -, -⟩, ⟨g40, g41, g42, -, -, -⟩, -⟩, -⟩ := hC; go_simp; first | done | (simp; done) | (simp [*]; done) | omega | (simp; omega) | (rw [IntKind.wrap_i64]; omega) | (intro hx; omega) | rfl)
          simp only [Act.put, List.setIfInBounds_toArray, List.set_cons_zero, List.set_cons_succ]
          refine qw_run (v := .bool false) (by rfl) ?_ ?_
          · (intro w1 hC; obtain ⟨⟨⟨g00, g01, g02, -, -, -⟩, ⟨g10, g11, g12, -, -, -⟩, ⟨g20, g21, g22, -, -, -⟩, ⟨g30, g31, g32, -, -, -⟩, ⟨g40, g41, g42, -, -, -⟩, -⟩, -⟩ := hC; go_simp; first | done | (simp; done) | (simp [*]; done) | omega | (simp; omega) | (rw [IntKind.wrap_i64]; omega) | (intro hx; omega) | rfl)
          simp only [Act.put, List.setIfInBounds_toArray, List.set_cons_zero, List.set_cons_succ]
          refine qw_run (v := .bool false) (by rfl) ?_ ?_
          · (intro w1 hC; obtain ⟨⟨⟨g00, g01, g02, -, -, -⟩, ⟨g10, g11, g12, -, -, -⟩, ⟨g20, g21, g22, -, -, -⟩, ⟨g30, g31, g32, -, -, -⟩, ⟨g40, g41, g42, -, -, -⟩, -⟩, -⟩ := hC; go_simp; first | done | (simp; done) | (simp [*]; done) | omega | (simp; omega) | (rw [IntKind.wrap_i64]; omega) | (intro hx; omega) | rfl)
          simp only [Act.put, List.setIfInBounds_toArray, List.set_cons_zero, List.set_cons_succ]
          refine qw_run (v := .bool false) (by rfl) ?_ ?_
          · (intro w1 hC; obtain ⟨⟨⟨g00, g01, g02, -, -, -⟩, ⟨g10, g11, g12, -, -, -⟩, ⟨g20, g21, g22, -, -, -⟩, ⟨g30, g31, g32, -, -, -⟩, ⟨g40, g41, g42, -, -, -⟩, -⟩, -⟩ := hC; go_simp; first | done | (simp; done) | (simp [*]; done) | omega | (simp; omega) | (rw [IntKind.wrap_i64]; omega) | (intro hx; omega) | rfl)
          simp only [Act.put, List.setIfInBounds_toArray, List.set_cons_zero, List.set_cons_succ]
          refine qw_run (v := .agg #[.int .u64 x0, .int .u64 x1, .int .u64 x2]) (by rfl) ?_ ?_
          · (intro w1 hC; obtain ⟨⟨⟨g00, g01, g02, -, -, -⟩, ⟨g10, g11, g12, -, -, -⟩, ⟨g20, g21, g22, -, -, -⟩, ⟨g30, g31, g32, -, -, -⟩, ⟨g40, g41, g42, -, -, -⟩, -⟩, -⟩ := hC; go_simp; first | done | (simp; done) | (simp [*]; done) | omega | (simp; omega) | (rw [IntKind.wrap_i64]; omega) | (intro hx; omega) | rfl)
          simp only [Act.put, List.setIfInBounds_toArray, List.set_cons_zero, List.set_cons_succ]
          refine qw_run (v := .agg #[.int .u64 y0, .int .u64 y1, .int .u64 y2]) (by rfl) ?_ ?_
          · (intro w1 hC; obtain ⟨⟨⟨g00, g01, g02, -, -, -⟩, ⟨g10, g11, g12, -, -, -⟩, ⟨g20, g21, g22, -, -, -⟩, ⟨g30, g31, g32, -, -, -⟩, ⟨g40, g41, g42, -, -, -⟩, -⟩, -⟩ := hC; go_simp; first | done | (simp; done) | (simp [*]; done) | omega | (simp; omega) | (rw [IntKind.wrap_i64]; omega) | (intro hx; omega) | rfl)
          simp only [Act.put, List.setIfInBounds_toArray, List.set_cons_zero, List.set_cons_succ]
          refine qw_call (v := .int .i64 (cab)) (f := 18) (args := #[.agg #[.int .u64 x0, .int .u64 x1, .int .u64 x2], .agg #[.int .u64 y0, .int .u64 y1, .int .u64 y2]]) (by rfl) ?_ ?_ ?_
          · (intro w1 hC; clear hC; go_simp)
          · exact fun w1 hC => (KAB w1).mono fun e w' ⟨he, hb⟩ => ⟨he, Kcs.below hC hb⟩
          simp only [Act.put, List.setIfInBounds_toArray, List.set_cons_zero, List.set_cons_succ]
          refine qw_run (v := .agg #[.int .u64 y0, .int .u64 y1, .int .u64 y2]) (by rfl) ?_ ?_
          · (intro w1 hC; obtain ⟨⟨⟨g00, g01, g02, -, -, -⟩, ⟨g10, g11, g12, -, -, -⟩, ⟨g20, g21, g22, -, -, -⟩, ⟨g30, g31, g32, -, -, -⟩, ⟨g40, g41, g42, -, -, -⟩, -⟩, -⟩ := hC; go_simp; first | done | (simp; done) | (simp [*]; done) | omega | (simp; omega) | (rw [IntKind.wrap_i64]; omega) | (intro hx; omega) | rfl)
          simp only [Act.put, List.setIfInBounds_toArray, List.set_cons_zero, List.set_cons_succ]
          refine qw_run (v := .agg #[.int .u64 x0, .int .u64 x1, .int .u64 x2]) (by rfl) ?_ ?_
          · (intro w1 hC; obtain ⟨⟨⟨g00, g01, g02, -, -, -⟩, ⟨g10, g11, g12, -, -, -⟩, ⟨g20, g21, g22, -, -, -⟩, ⟨g30, g31, g32, -, -, -⟩, ⟨g40, g41, g42, -, -, -⟩, -⟩, -⟩ := hC; go_simp; first | done | (simp; done) | (simp [*]; done) | omega | (simp; omega) | (rw [IntKind.wrap_i64]; omega) | (intro hx; omega) | rfl)
          simp only [Act.put, List.setIfInBounds_toArray, List.set_cons_zero, List.set_cons_succ]
          refine qw_call (v := .int .i64 (cba)) (f := 18) (args := #[.agg #[.int .u64 y0, .int .u64 y1, .int .u64 y2], .agg #[.int .u64 x0, .int .u64 x1, .int .u64 x2]]) (by rfl) ?_ ?_ ?_
          · (intro w1 hC; clear hC; go_simp)
          · exact fun w1 hC => (KBA w1).mono fun e w' ⟨he, hb⟩ => ⟨he, Kcs.below hC hb⟩
          simp only [Act.put, List.setIfInBounds_toArray, List.set_cons_zero, List.set_cons_succ]
          refine qw_run (v := .int .i64 (cab)) (by rfl) ?_ ?_
          · (intro w1 hC; obtain ⟨⟨⟨g00, g01, g02, -, -, -⟩, ⟨g10, g11, g12, -, -, -⟩, ⟨g20, g21, g22, -, -, -⟩, ⟨g30, g31, g32, -, -, -⟩, ⟨g40, g41, g42, -, -, -⟩, -⟩, -⟩ := hC; go_simp; first | done | (simp; done) | (simp [*]; done) | omega | (simp; omega) | (rw [IntKind.wrap_i64]; omega) | (intro hx; omega) | rfl)
          simp only [Act.put, List.setIfInBounds_toArray, List.set_cons_zero, List.set_cons_succ]
          refine qw_run (v := .bool false) (by rfl) ?_ ?_
          · (intro w1 hC; obtain ⟨⟨⟨g00, g01, g02, -, -, -⟩, ⟨g10, g11, g12, -, -, -⟩, ⟨g20, g21, g22, -, -, -⟩, ⟨g30, g31, g32, -, -, -⟩, ⟨g40, g41, g42, -, -, -⟩, -⟩, -⟩ := hC; go_simp; first | done | (simp; done) | (simp [*]; done) | omega | (simp; omega) | (rw [IntKind.wrap_i64]; omega) | (intro hx; omega) | rfl)
          simp only [Act.put, List.setIfInBounds_toArray, List.set_cons_zero, List.set_cons_succ]
          refine qw_run (v := .bool false) (by rfl) ?_ ?_
          · (intro w1 hC; obtain ⟨⟨⟨g00, g01, g02, -, -, -⟩, ⟨g10, g11, g12, -, -, -⟩, ⟨g20, g21, g22, -, -, -⟩, ⟨g30, g31, g32, -, -, -⟩, ⟨g40, g41, g42, -, -, -⟩, -⟩, -⟩ := hC; go_simp; first | done | (simp; done) | (simp [*]; done) | omega | (simp; omega) | (rw [IntKind.wrap_i64]; omega) | (intro hx; omega) | rfl)
          simp only [Act.put, List.setIfInBounds_toArray, List.set_cons_zero, List.set_cons_succ]
          refine qw_run (v := .bool false) (by rfl) ?_ ?_
          · (intro w1 hC; obtain ⟨⟨⟨g00, g01, g02, -, -, -⟩, ⟨g10, g11, g12, -, -, -⟩, ⟨g20, g21, g22, -, -, -⟩, ⟨g30, g31, g32, -, -, -⟩, ⟨g40, g41, g42, -, -, -⟩, -⟩, -⟩ := hC; go_simp; first | done | (simp; done) | (simp [*]; done) | omega | (simp; omega) | (rw [IntKind.wrap_i64]; omega) | (intro hx; omega) | rfl)
          simp only [Act.put, List.setIfInBounds_toArray, List.set_cons_zero, List.set_cons_succ]
          refine qw_run (v := .agg #[.int .u64 x0, .int .u64 x1, .int .u64 x2]) (by rfl) ?_ ?_
          · (intro w1 hC; obtain ⟨⟨⟨g00, g01, g02, -, -, -⟩, ⟨g10, g11, g12, -, -, -⟩, ⟨g20, g21, g22, -, -, -⟩, ⟨g30, g31, g32, -, -, -⟩, ⟨g40, g41, g42, -, -, -⟩, -⟩, -⟩ := hC; go_simp; first | done | (simp; done) | (simp [*]; done) | omega | (simp; omega) | (rw [IntKind.wrap_i64]; omega) | (intro hx; omega) | rfl)
          simp only [Act.put, List.setIfInBounds_toArray, List.set_cons_zero, List.set_cons_succ]
          refine qw_run (v := .agg #[.int .u64 y0, .int .u64 y1, .int .u64 y2]) (by rfl) ?_ ?_
          · (intro w1 hC; obtain ⟨⟨⟨g00, g01, g02, -, -, -⟩, ⟨g10, g11, g12, -, -, -⟩, ⟨g20, g21, g22, -, -, -⟩, ⟨g30, g31, g32, -, -, -⟩, ⟨g40, g41, g42, -, -, -⟩, -⟩, -⟩ := hC; go_simp; first | done | (simp; done) | (simp [*]; done) | omega | (simp; omega) | (rw [IntKind.wrap_i64]; omega) | (intro hx; omega) | rfl)
          simp only [Act.put, List.setIfInBounds_toArray, List.set_cons_zero, List.set_cons_succ]
          refine qw_call (v := .int .i64 (cab)) (f := 18) (args := #[.agg #[.int .u64 x0, .int .u64 x1, .int .u64 x2], .agg #[.int .u64 y0, .int .u64 y1, .int .u64 y2]]) (by rfl) ?_ ?_ ?_
          · (intro w1 hC; clear hC; go_simp)
          · exact fun w1 hC => (KAB w1).mono fun e w' ⟨he, hb⟩ => ⟨he, Kcs.below hC hb⟩
          simp only [Act.put, List.setIfInBounds_toArray, List.set_cons_zero, List.set_cons_succ]
          refine qw_run (v := .bool (z1)) (by rfl) ?_ ?_
          · (intro w1 hC; obtain ⟨⟨⟨g00, g01, g02, -, -, -⟩, ⟨g10, g11, g12, -, -, -⟩, ⟨g20, g21, g22, -, -, -⟩, ⟨g30, g31, g32, -, -, -⟩, ⟨g40, g41, g42, -, -, -⟩, -⟩, -⟩ := hC; go_simp; first | done | (simp; done) | (simp [*]; done) | omega | (simp; omega) | (rw [IntKind.wrap_i64]; omega) | (intro hx; omega) | rfl)
          simp only [Act.put, List.setIfInBounds_toArray, List.set_cons_zero, List.set_cons_succ]
          refine qw_run (v := .agg #[.int .u64 x0, .int .u64 x1, .int .u64 x2]) (by rfl) ?_ ?_
          · (intro w1 hC; obtain ⟨⟨⟨g00, g01, g02, -, -, -⟩, ⟨g10, g11, g12, -, -, -⟩, ⟨g20, g21, g22, -, -, -⟩, ⟨g30, g31, g32, -, -, -⟩, ⟨g40, g41, g42, -, -, -⟩, -⟩, -⟩ := hC; go_simp; first | done | (simp; done) | (simp [*]; done) | omega | (simp; omega) | (rw [IntKind.wrap_i64]; omega) | (intro hx; omega) | rfl)
          simp only [Act.put, List.setIfInBounds_toArray, List.set_cons_zero, List.set_cons_succ]
          refine qw_run (v := .agg #[.int .u64 y0, .int .u64 y1, .int .u64 y2]) (by rfl) ?_ ?_
          · (intro w1 hC; obtain ⟨⟨⟨g00, g01, g02, -, -, -⟩, ⟨g10, g11, g12, -, -, -⟩, ⟨g20, g21, g22, -, -, -⟩, ⟨g30, g31, g32, -, -, -⟩, ⟨g40, g41, g42, -, -, -⟩, -⟩, -⟩ := hC; go_simp; first | done | (simp; done) | (simp [*]; done) | omega | (simp; omega) | (rw [IntKind.wrap_i64]; omega) | (intro hx; omega) | rfl)
          simp only [Act.put, List.setIfInBounds_toArray, List.set_cons_zero, List.set_cons_succ]
          refine qw_run (v := .bool (z1)) (by rfl) ?_ ?_
          · (intro w1 hC; obtain ⟨⟨⟨g00, g01, g02, -, -, -⟩, ⟨g10, g11, g12, -, -, -⟩, ⟨g20, g21, g22, -, -, -⟩, ⟨g30, g31, g32, -, -, -⟩, ⟨g40, g41, g42, -, -, -⟩, -⟩, -⟩ := hC; go_simp; first | done | (simp; done) | (simp [*]; done) | omega | (simp; omega) | (rw [IntKind.wrap_i64]; omega) | (intro hx; omega) | rfl)
          simp only [Act.put, List.setIfInBounds_toArray, List.set_cons_zero, List.set_cons_succ]
          refine qw_run (v := .bool false) (by rfl) ?_ ?_
          · (intro w1 hC; obtain ⟨⟨⟨g00, g01, g02, -, -, -⟩, ⟨g10, g11, g12, -, -, -⟩, ⟨g20, g21, g22, -, -, -⟩, ⟨g30, g31, g32, -, -, -⟩, ⟨g40, g41, g42, -, -, -⟩, -⟩, -⟩ := hC; go_simp; first | done | (simp; done) | (simp [*]; done) | omega | (simp; omega) | (rw [IntKind.wrap_i64]; omega) | (intro hx; omega) | rfl)
          simp only [Act.put, List.setIfInBounds_toArray, List.set_cons_zero, List.set_cons_succ]
          refine qw_run (v := .bool false) (by rfl) ?_ ?_
          · (intro w1 hC; obtain ⟨⟨⟨g00, g01, g02, -, -, -⟩, ⟨g10, g11, g12, -, -, -⟩, ⟨g20, g21, g22, -, -, -⟩, ⟨g30, g31, g32, -, -, -⟩, ⟨g40, g41, g42, -, -, -⟩, -⟩, -⟩ := hC; go_simp; first | done | (simp; done) | (simp [*]; done) | omega | (simp; omega) | (rw [IntKind.wrap_i64]; omega) | (intro hx; omega) | rfl)
          simp only [Act.put, List.setIfInBounds_toArray, List.set_cons_zero, List.set_cons_succ]
          refine qw_nil ?_
          intro v3r hC
          have Hr3 := hid9 hC
          clear H3 hC
          obtain ⟨f00, f01, f02, -, -, -⟩ := (Hr3.out.1.2.2.2.2).1
          obtain ⟨f10, f11, f12, -, -, -⟩ := (Hr3.out.1.2.2.2).1
          go_wp2_with fail
          clear f00 f01 f02 f10 f11 f12
          refine (KAB _).mono ?_
          rintro e v4 ⟨rfl, hb⟩
          have H4 := hid9 (Kcs.below Hr3.out hb)
          clear Hr3 hb
          obtain ⟨f00, f01, f02, -, -, -⟩ := (H4.out.1.2.2.2).1
          obtain ⟨f10, f11, f12, -, -, -⟩ := (H4.out.1.2.2).1
          go_wp2_with fail
          clear f00 f01 f02 f10 f11 f12
          refine (KBC _).mono ?_
          rintro e v5 ⟨rfl, hb⟩
          have H5 := hid9 (Kcs.below H4.out hb)
          clear H4 hb
          obtain ⟨f00, f01, f02, -, -, -⟩ := (H5.out.1.2.2.2.2).1
          obtain ⟨f10, f11, f12, -, -, -⟩ := (H5.out.1.2.2).1
          go_wp2_with fail
          clear f00 f01 f02 f10 f11 f12
          refine (KAC _).mono ?_
          rintro e v6 ⟨rfl, hb⟩
          have H6 := hid9 (Kcs.below H5.out hb)
          clear H5 hb
          go_wp2_with fail
          refine qw_region (C := fun W => Kcs w W [(N3, s0, s1, s2), (N2, s0, s1, s2), (w.heap.size + 1 + 1, z0', z1', z2'), (w.heap.size + 1, y0, y1, y2), (w.heap.size, x0, x1, x2)]) (by kernel_rfl) (by kernel_rfl) H6.out.drew ?_
          refine qw_run (v := .agg #[.int .u64 s0, .int .u64 s1, .int .u64 s2]) (by rfl) ?_ ?_
          · (intro w1 hC; obtain ⟨⟨⟨g00, g01, g02, -, -, -⟩, ⟨g10, g11, g12, -, -, -⟩, ⟨g20, g21, g22, -, -, -⟩, ⟨g30, g31, g32, -, -, -⟩, ⟨g40, g41, g42, -, -, -⟩, -⟩, -⟩ := hC; go_simp; first | done | (simp; done) | (simp [*]; done) | omega | (simp; omega) | (rw [IntKind.wrap_i64]; omega) | (intro hx; omega) | rfl)
          simp only [Act.put, List.setIfInBounds_toArray, List.set_cons_zero, List.set_cons_succ]
          refine qw_run (v := .agg #[.int .u64 x0, .int .u64 x1, .int .u64 x2]) (by rfl) ?_ ?_
          · (intro w1 hC; obtain ⟨⟨⟨g00, g01, g02, -, -, -⟩, ⟨g10, g11, g12, -, -, -⟩, ⟨g20, g21, g22, -, -, -⟩, ⟨g30, g31, g32, -, -, -⟩, ⟨g40, g41, g42, -, -, -⟩, -⟩, -⟩ := hC; go_simp; first | done | (simp; done) | (simp [*]; done) | omega | (simp; omega) | (rw [IntKind.wrap_i64]; omega) | (intro hx; omega) | rfl)
          simp only [Act.put, List.setIfInBounds_toArray, List.set_cons_zero, List.set_cons_succ]
          refine qw_call (v := .int .i64 (csa)) (f := 18) (args := #[.agg #[.int .u64 s0, .int .u64 s1, .int .u64 s2], .agg #[.int .u64 x0, .int .u64 x1, .int .u64 x2]]) (by rfl) ?_ ?_ ?_
          · (intro w1 hC; clear hC; go_simp)
          · exact fun w1 hC => (KSA w1).mono fun e w' ⟨he, hb⟩ => ⟨he, Kcs.below hC hb⟩
          simp only [Act.put, List.setIfInBounds_toArray, List.set_cons_zero, List.set_cons_succ]
          refine qw_run (v := .bool false) (by rfl) ?_ ?_
          · (intro w1 hC; obtain ⟨⟨⟨g00, g01, g02, -, -, -⟩, ⟨g10, g11, g12, -, -, -⟩, ⟨g20, g21, g22, -, -, -⟩, ⟨g30, g31, g32, -, -, -⟩, ⟨g40, g41, g42, -, -, -⟩, -⟩, -⟩ := hC; go_simp; first | done | (simp; done) | (simp [*]; done) | omega | (simp; omega) | (rw [IntKind.wrap_i64]; omega) | (intro hx; omega) | rfl)
          simp only [Act.put, List.setIfInBounds_toArray, List.set_cons_zero, List.set_cons_succ]
          refine qw_run (v := .bool false) (by rfl) ?_ ?_
          · (intro w1 hC; obtain ⟨⟨⟨g00, g01, g02, -, -, -⟩, ⟨g10, g11, g12, -, -, -⟩, ⟨g20, g21, g22, -, -, -⟩, ⟨g30, g31, g32, -, -, -⟩, ⟨g40, g41, g42, -, -, -⟩, -⟩, -⟩ := hC; go_simp; first | done | (simp; done) | (simp [*]; done) | omega | (simp; omega) | (rw [IntKind.wrap_i64]; omega) | (intro hx; omega) | rfl)
          simp only [Act.put, List.setIfInBounds_toArray, List.set_cons_zero, List.set_cons_succ]
          refine qw_run (v := .agg #[.int .u64 s0, .int .u64 s1, .int .u64 s2]) (by rfl) ?_ ?_
          · (intro w1 hC; obtain ⟨⟨⟨g00, g01, g02, -, -, -⟩, ⟨g10, g11, g12, -, -, -⟩, ⟨g20, g21, g22, -, -, -⟩, ⟨g30, g31, g32, -, -, -⟩, ⟨g40, g41, g42, -, -, -⟩, -⟩, -⟩ := hC; go_simp; first | done | (simp; done) | (simp [*]; done) | omega | (simp; omega) | (rw [IntKind.wrap_i64]; omega) | (intro hx; omega) | rfl)
          simp only [Act.put, List.setIfInBounds_toArray, List.set_cons_zero, List.set_cons_succ]
          refine qw_run (v := .agg #[.int .u64 x0, .int .u64 x1, .int .u64 x2]) (by rfl) ?_ ?_
          · (intro w1 hC; obtain ⟨⟨⟨g00, g01, g02, -, -, -⟩, ⟨g10, g11, g12, -, -, -⟩, ⟨g20, g21, g22, -, -, -⟩, ⟨g30, g31, g32, -, -, -⟩, ⟨g40, g41, g42, -, -, -⟩, -⟩, -⟩ := hC; go_simp; first | done | (simp; done) | (simp [*]; done) | omega | (simp; omega) | (rw [IntKind.wrap_i64]; omega) | (intro hx; omega) | rfl)
          simp only [Act.put, List.setIfInBounds_toArray, List.set_cons_zero, List.set_cons_succ]
          refine qw_call (v := .int .i64 (csa)) (f := 18) (args := #[.agg #[.int .u64 s0, .int .u64 s1, .int .u64 s2], .agg #[.int .u64 x0, .int .u64 x1, .int .u64 x2]]) (by rfl) ?_ ?_ ?_
          · (intro w1 hC; clear hC; go_simp)
          · exact fun w1 hC => (KSA w1).mono fun e w' ⟨he, hb⟩ => ⟨he, Kcs.below hC hb⟩
          simp only [Act.put, List.setIfInBounds_toArray, List.set_cons_zero, List.set_cons_succ]
          refine qw_run (v := .bool (z2)) (by rfl) ?_ ?_
          · (intro w1 hC; obtain ⟨⟨⟨g00, g01, g02, -, -, -⟩, ⟨g10, g11, g12, -, -, -⟩, ⟨g20, g21, g22, -, -, -⟩, ⟨g30, g31, g32, -, -, -⟩, ⟨g40, g41, g42, -, -, -⟩, -⟩, -⟩ := hC; go_simp; first | done | (simp; done) | (simp [*]; done) | omega | (simp; omega) | (rw [IntKind.wrap_i64]; omega) | (intro hx; omega) | rfl)
          simp only [Act.put, List.setIfInBounds_toArray, List.set_cons_zero, List.set_cons_succ]
          refine qw_run (v := .agg #[.int .u64 y0, .int .u64 y1, .int .u64 y2]) (by rfl) ?_ ?_
          · (intro w1 hC; obtain ⟨⟨⟨g00, g01, g02, -, -, -⟩, ⟨g10, g11, g12, -, -, -⟩, ⟨g20, g21, g22, -, -, -⟩, ⟨g30, g31, g32, -, -, -⟩, ⟨g40, g41, g42, -, -, -⟩, -⟩, -⟩ := hC; go_simp; first | done | (simp; done) | (simp [*]; done) | omega | (simp; omega) | (rw [IntKind.wrap_i64]; omega) | (intro hx; omega) | rfl)
          simp only [Act.put, List.setIfInBounds_toArray, List.set_cons_zero, List.set_cons_succ]
          refine qw_run (v := .agg #[.int .u64 0, .int .u64 0, .int .u64 0]) (by rfl) ?_ ?_
          · (intro w1 hC; obtain ⟨⟨⟨g00, g01, g02, -, -, -⟩, ⟨g10, g11, g12, -, -, -⟩, ⟨g20, g21, g22, -, -, -⟩, ⟨g30, g31, g32, -, -, -⟩, ⟨g40, g41, g42, -, -, -⟩, -⟩, -⟩ := hC; go_simp; first | done | (simp; done) | (simp [*]; done) | omega | (simp; omega) | (rw [IntKind.wrap_i64]; omega) | (intro hx; omega) | rfl)
          simp only [Act.put, List.setIfInBounds_toArray, List.set_cons_zero, List.set_cons_succ]
          refine qw_run (v := .bool (z2)) (by rfl) ?_ ?_
          · (intro w1 hC; obtain ⟨⟨⟨g00, g01, g02, -, -, -⟩, ⟨g10, g11, g12, -, -, -⟩, ⟨g20, g21, g22, -, -, -⟩, ⟨g30, g31, g32, -, -, -⟩, ⟨g40, g41, g42, -, -, -⟩, -⟩, -⟩ := hC; go_simp; first | done | (simp; done) | (simp [*]; done) | omega | (simp; omega) | (rw [IntKind.wrap_i64]; omega) | (intro hx; omega) | rfl)
          simp only [Act.put, List.setIfInBounds_toArray, List.set_cons_zero, List.set_cons_succ]
          refine qw_run (v := .bool false) (by rfl) ?_ ?_
          · (intro w1 hC; obtain ⟨⟨⟨g00, g01, g02, -, -, -⟩, ⟨g10, g11, g12, -, -, -⟩, ⟨g20, g21, g22, -, -, -⟩, ⟨g30, g31, g32, -, -, -⟩, ⟨g40, g41, g42, -, -, -⟩, -⟩, -⟩ := hC; go_simp; first | done | (simp; done) | (simp [*]; done) | omega | (simp; omega) | (rw [IntKind.wrap_i64]; omega) | (intro hx; omega) | rfl)
          simp only [Act.put, List.setIfInBounds_toArray, List.set_cons_zero, List.set_cons_succ]
          refine qw_run (v := .bool false) (by rfl) ?_ ?_
          · (intro w1 hC; obtain ⟨⟨⟨g00, g01, g02, -, -, -⟩, ⟨g10, g11, g12, -, -, -⟩, ⟨g20, g21, g22, -, -, -⟩, ⟨g30, g31, g32, -, -, -⟩, ⟨g40, g41, g42, -, -, -⟩, -⟩, -⟩ := hC; go_simp; first | done | (simp; done) | (simp [*]; done) | omega | (simp; omega) | (rw [IntKind.wrap_i64]; omega) | (intro hx; omega) | rfl)
          simp only [Act.put, List.setIfInBounds_toArray, List.set_cons_zero, List.set_cons_succ]
          refine qw_nil ?_
          intro v7r hC
          have Hr7 := hid9 hC
          clear H6 hC
          obtain ⟨f00, f01, f02, -, -, -⟩ := (Hr7.out.1.2).1
          obtain ⟨f10, f11, f12, -, -, -⟩ := (Hr7.out.1.2.2).1
          go_wp2_with fail
          clear f00 f01 f02 f10 f11 f12
          refine (KU _).mono ?_
          rintro e v8 ⟨rfl, hb⟩
          have H8 := hid9 (Kcs.new (a := 0) (b := 0) (c := 0) Hr7.out hb)
          clear Hr7 hb
          obtain ⟨f00, f01, f02, -, -, -⟩ := (H8.out.1.2.2.2.2).1
          obtain ⟨f10, f11, f12, -, -, -⟩ := (H8.out.1.2.2.2).1
          go_wp2_with fail
          clear f00 f01 f02 f10 f11 f12
          revert H8
          generalize v8.alloc (.cells #[.int .u64 0, .int .u64 0, .int .u64 0] 24) = W8
          generalize v8.heap.size = N8
          intro H8
          refine (KT _).mono ?_
          rintro e v9 ⟨rfl, hb⟩
          have H9 := hid9 (Kcs.new (a := 0) (b := 0) (c := 0) H8.out hb)
          clear H8 hb
          go_wp2
          go_ret
          exact ⟨rfl, H9.out.2⟩
        · have d1 : decide (cmpN N M ≤ 0) = true := decide_eq_true (l1.mpr o1)
          have d2 : decide (cmpN M K ≤ 0) = false := decide_eq_false (fun h => o2 (l2.mp h))
          clear l1 l2 l3 hN hM hK o1 o2
          generalize cmpN N M = cab at *
          generalize cmpN M N = cba at *
          generalize cmpN M K = cbc at *
          generalize cmpN N K = cac at *
          have H0 := hid9 (Kcs.three w x0 x1 x2 y0 y1 y2 z0' z1' z2')
          go_enter Try.func6, Try.ntmps6
          go_wp2_with fail
          revert H0
          generalize ((w.alloc (.cells #[.int .u64 x0, .int .u64 x1, .int .u64 x2] 24)).alloc (.cells #[.int .u64 y0, .int .u64 y1, .int .u64 y2] 24)).alloc (.cells #[.int .u64 z0', .int .u64 z1', .int .u64 z2'] 24) = W0
          intro H0
          refine (KK _).mono ?_
          rintro e v1 ⟨rfl, hb⟩
          have H1 := hid9 (Kcs.below H0.out hb)
          clear H0 hb
          obtain ⟨f00, f01, f02, -, -, -⟩ := (H1.out.1.2.2).1
          obtain ⟨f10, f11, f12, -, -, -⟩ := (H1.out.1.2).1
          go_wp2_with fail
          clear f00 f01 f02 f10 f11 f12
          refine (KS _).mono ?_
          rintro e v2 ⟨rfl, hb⟩
          have H2 := hid9 (Kcs.new (a := s0) (b := s1) (c := s2) H1.out hb)
          clear H1 hb
          obtain ⟨f00, f01, f02, -, -, -⟩ := (H2.out.1.2.2.2).1
          obtain ⟨f10, f11, f12, -, -, -⟩ := (H2.out.1.2.2).1
          go_wp2_with fail
          clear f00 f01 f02 f10 f11 f12
          revert H2
          generalize v2.alloc (.cells #[.int .u64 s0, .int .u64 s1, .int .u64 s2] 24) = W2
          generalize v2.heap.size = N2
          intro H2
          refine (KS2 _).mono ?_
          rintro e v3 ⟨rfl, hb⟩
          have H3 := hid9 (Kcs.new (a := s0) (b := s1) (c := s2) H2.out hb)
          clear H2 hb
          go_wp2_with fail
          revert H3
          generalize v3.alloc (.cells #[.int .u64 s0, .int .u64 s1, .int .u64 s2] 24) = W3
          generalize v3.heap.size = N3
          intro H3
          refine qw_region (C := fun W => Kcs w W [(N3, s0, s1, s2), (N2, s0, s1, s2), (w.heap.size + 1 + 1, z0', z1', z2'), (w.heap.size + 1, y0, y1, y2), (w.heap.size, x0, x1, x2)]) (by kernel_rfl) (by kernel_rfl) H3.out.drew ?_
          refine qw_run (v := .int .i64 (0)) (by rfl) ?_ ?_
          · (intro w1 hC; obtain ⟨⟨⟨g00, g01, g02, -, -, -⟩, ⟨g10, g11, g12, -, -, -⟩, ⟨g20, g21, g22, -, -, -⟩, ⟨g30, g31, g32, -, -, -⟩, ⟨g40, g41, g42, -, -, -⟩, -⟩, -⟩ := hC; go_simp; first | done | (simp; done) | (simp [*]; done) | omega | (simp; omega) | (rw [IntKind.wrap_i64]; omega) | (intro hx; omega) | rfl)
          simp only [Act.put, List.setIfInBounds_toArray, List.set_cons_zero, List.set_cons_succ]
          refine qw_run (v := .int .i64 (0)) (by rfl) ?_ ?_
          · (intro w1 hC; obtain ⟨⟨⟨g00, g01, g02, -, -, -⟩, ⟨g10, g11, g12, -, -, -⟩, ⟨g20, g21, g22, -, -, -⟩, ⟨g30, g31, g32, -, -, -⟩, ⟨g40, g41, g42, -, -, -⟩, -⟩, -⟩ := hC; go_simp; first | done | (simp; done) | (simp [*]; done) | omega | (simp; omega) | (rw [IntKind.wrap_i64]; omega) | (intro hx; omega) | rfl)
          simp only [Act.put, List.setIfInBounds_toArray, List.set_cons_zero, List.set_cons_succ]
          refine qw_run (v := .bool false) (by rfl) ?_ ?_
          · (intro w1 hC; obtain ⟨⟨⟨g00, g01, g02, -, -, -⟩, ⟨g10, g11, g12, -, -, -⟩, ⟨g20, g21, g22, -, -, -⟩, ⟨g30, g31, g32, -, -, -⟩, ⟨g40, g41, g42, -, -, -⟩, -⟩, -⟩ := hC; go_simp; first | done | (simp; done) | (simp [*]; done) | omega | (simp; omega) | (rw [IntKind.wrap_i64]; omega) | (intro hx; omega) | rfl)
          simp only [Act.put, List.setIfInBounds_toArray, List.set_cons_zero, List.set_cons_succ]
          refine qw_run (v := .bool false) (by rfl) ?_ ?_
          · (intro w1 hC; obtain ⟨⟨⟨g00, g01, g02, -, -, -⟩, ⟨g10, g11, g12, -, -, -⟩, ⟨g20, g21, g22, -, -, -⟩, ⟨g30, g31, g32, -, -, -⟩, ⟨g40, g41, g42, -, -, -⟩, -⟩, -⟩ := hC; go_simp; first | done | (simp; done) | (simp [*]; done) | omega | (simp; omega) | (rw [IntKind.wrap_i64]; omega) | (intro hx; omega) | rfl)
          simp only [Act.put, List.setIfInBounds_toArray, List.set_cons_zero, List.set_cons_succ]
          refine qw_run (v := .agg #[.int .u64 s0, .int .u64 s1, .int .u64 s2]) (by rfl) ?_ ?_
          · (intro w1 hC; obtain ⟨⟨⟨g00, g01, g02, -, -, -⟩, ⟨g10, g11, g12, -, -, -⟩, ⟨g20, g21, g22, -, -, -⟩, ⟨g30, g31, g32, -, -, -⟩, ⟨g40, g41, g42, -, -, -⟩, -⟩, -⟩ := hC; go_simp; first | done | (simp; done) | (simp [*]; done) | omega | (simp; omega) | (rw [IntKind.wrap_i64]; omega) | (intro hx; omega) | rfl)
          simp only [Act.put, List.setIfInBounds_toArray, List.set_cons_zero, List.set_cons_succ]
          refine qw_run (v := .agg #[.int .u64 s0, .int .u64 s1, .int .u64 s2]) (by rfl) ?_ ?_
          · (intro w1 hC; obtain ⟨⟨⟨g00, g01, g02, -, -, -⟩, ⟨g10, g11, g12, -, -, -⟩, ⟨g20, g21, g22, -, -, -⟩, ⟨g30, g31, g32, -, -, -⟩, ⟨g40, g41, g42, -, -, -⟩, -⟩, -⟩ := hC; go_simp; first | done | (simp; done) | (simp [*]; done) | omega | (simp; omega) | (rw [IntKind.wrap_i64]; omega) | (intro hx; omega) | rfl)
          simp only [Act.put, List.setIfInBounds_toArray, List.set_cons_zero, List.set_cons_succ]
          refine qw_run (v := .bool false) (by rfl) ?_ ?_
          · (intro w1 hC; obtain ⟨⟨⟨g00, g01, g02, -, -, -⟩, ⟨g10, g11, g12, -, -, -⟩, ⟨g20, g21, g22, -, -, -⟩, ⟨g30, g31, g32, -, -, -⟩, ⟨g40, g41, g42, -, -, -⟩, -⟩, -⟩ := hC; go_simp; first | done | (simp; done) | (simp [*]; done) | omega | (simp; omega) | (rw [IntKind.wrap_i64]; omega) | (intro hx; omega) | rfl)
          simp only [Act.put, List.setIfInBounds_toArray, List.set_cons_zero, List.set_cons_succ]
          refine qw_run (v := .bool false) (by rfl) ?_ ?_
          · (intro w1 hC; obtain ⟨⟨⟨g00, g01, g02, -, -, -⟩, ⟨g10, g11, g12, -, -, -⟩, ⟨g20, g21, g22, -, -, -⟩, ⟨g30, g31, g32, -, -, -⟩, ⟨g40, g41, g42, -, -, -⟩, -⟩, -⟩ := hC; go_simp; first | done | (simp; done) | (simp [*]; done) | omega | (simp; omega) | (rw [IntKind.wrap_i64]; omega) | (intro hx; omega) | rfl)
          simp only [Act.put, List.setIfInBounds_toArray, List.set_cons_zero, List.set_cons_succ]
          refine qw_run (v := .bool false) (by rfl) ?_ ?_
          · (intro w1 hC; obtain ⟨⟨⟨g00, g01, g02, -, -, -⟩, ⟨g10, g11, g12, -, -, -⟩, ⟨g20, g21, g22, -, -, -⟩, ⟨g30, g31, g32, -, -, -⟩, ⟨g40, g41, g42, -, -, -⟩, -⟩, -⟩ := hC; go_simp; first | done | (simp; done) | (simp [*]; done) | omega | (simp; omega) | (rw [IntKind.wrap_i64]; omega) | (intro hx; omega) | rfl)
          simp only [Act.put, List.setIfInBounds_toArray, List.set_cons_zero, List.set_cons_succ]
          refine qw_run (v := .agg #[.int .u64 x0, .int .u64 x1, .int .u64 x2]) (by rfl) ?_ ?_
          · (intro w1 hC; obtain ⟨⟨⟨g00, g01, g02, -, -, -⟩, ⟨g10, g11, g12, -, -, -⟩, ⟨g20, g21, g22, -, -, -⟩, ⟨g30, g31, g32, -, -, -⟩, ⟨g40, g41, g42, -, -, -⟩, -⟩, -⟩ := hC; go_simp; first | done | (simp; done) | (simp [*]; done) | omega | (simp; omega) | (rw [IntKind.wrap_i64]; omega) | (intro hx; omega) | rfl)
          simp only [Act.put, List.setIfInBounds_toArray, List.set_cons_zero, List.set_cons_succ]
          refine qw_run (v := .agg #[.int .u64 y0, .int .u64 y1, .int .u64 y2]) (by rfl) ?_ ?_
          · (intro w1 hC; obtain ⟨⟨⟨g00, g01, g02, -, -, -⟩, ⟨g10, g11, g12, -, -, -⟩, ⟨g20, g21, g22, -, -, -⟩, ⟨g30, g31, g32, -, -, -⟩, ⟨g40, g41, g42, -, -, -⟩, -⟩, -⟩ := hC; go_simp; first | done | (simp; done) | (simp [*]; done) | omega | (simp; omega) | (rw [IntKind.wrap_i64]; omega) | (intro hx; omega) | rfl)
          simp only [Act.put, List.setIfInBounds_toArray, List.set_cons_zero, List.set_cons_succ]
          refine qw_call (v := .int .i64 (cab)) (f := 18) (args := #[.agg #[.int .u64 x0, .int .u64 x1, .int .u64 x2], .agg #[.int .u64 y0, .int .u64 y1, .int .u64 y2]]) (by rfl) ?_ ?_ ?_
          · (intro w1 hC; clear hC; go_simp)
          · exact fun w1 hC => (KAB w1).mono fun e w' ⟨he, hb⟩ => ⟨he, Kcs.below hC hb⟩
          simp only [Act.put, List.setIfInBounds_toArray, List.set_cons_zero, List.set_cons_succ]
          refine qw_run (v := .agg #[.int .u64 y0, .int .u64 y1, .int .u64 y2]) (by rfl) ?_ ?_
          · (intro w1 hC; obtain ⟨⟨⟨g00, g01, g02, -, -, -⟩, ⟨g10, g11, g12, -, -, -⟩, ⟨g20, g21, g22, -, -, -⟩, ⟨g30, g31, g32, -, -, -⟩, ⟨g40, g41, g42, -, -, -⟩, -⟩, -⟩ := hC; go_simp; first | done | (simp; done) | (simp [*]; done) | omega | (simp; omega) | (rw [IntKind.wrap_i64]; omega) | (intro hx; omega) | rfl)
          simp only [Act.put, List.setIfInBounds_toArray, List.set_cons_zero, List.set_cons_succ]
          refine qw_run (v := .agg #[.int .u64 x0, .int .u64 x1, .int .u64 x2]) (by rfl) ?_ ?_
          · (intro w1 hC; obtain ⟨⟨⟨g00, g01, g02, -, -, -⟩, ⟨g10, g11, g12, -, -, -⟩, ⟨g20, g21, g22, -, -, -⟩, ⟨g30, g31, g32, -, -, -⟩, ⟨g40, g41, g42, -, -, -⟩, -⟩, -⟩ := hC; go_simp; first | done | (simp; done) | (simp [*]; done) | omega | (simp; omega) | (rw [IntKind.wrap_i64]; omega) | (intro hx; omega) | rfl)
          simp only [Act.put, List.setIfInBounds_toArray, List.set_cons_zero, List.set_cons_succ]
          refine qw_call (v := .int .i64 (cba)) (f := 18) (args := #[.agg #[.int .u64 y0, .int .u64 y1, .int .u64 y2], .agg #[.int .u64 x0, .int .u64 x1, .int .u64 x2]]) (by rfl) ?_ ?_ ?_
          · (intro w1 hC; clear hC; go_simp)
          · exact fun w1 hC => (KBA w1).mono fun e w' ⟨he, hb⟩ => ⟨he, Kcs.below hC hb⟩
          simp only [Act.put, List.setIfInBounds_toArray, List.set_cons_zero, List.set_cons_succ]
          refine qw_run (v := .int .i64 (cab)) (by rfl) ?_ ?_
          · (intro w1 hC; obtain ⟨⟨⟨g00, g01, g02, -, -, -⟩, ⟨g10, g11, g12, -, -, -⟩, ⟨g20, g21, g22, -, -, -⟩, ⟨g30, g31, g32, -, -, -⟩, ⟨g40, g41, g42, -, -, -⟩, -⟩, -⟩ := hC; go_simp; first | done | (simp; done) | (simp [*]; done) | omega | (simp; omega) | (rw [IntKind.wrap_i64]; omega) | (intro hx; omega) | rfl)
          simp only [Act.put, List.setIfInBounds_toArray, List.set_cons_zero, List.set_cons_succ]
          refine qw_run (v := .bool false) (by rfl) ?_ ?_
          · (intro w1 hC; obtain ⟨⟨⟨g00, g01, g02, -, -, -⟩, ⟨g10, g11, g12, -, -, -⟩, ⟨g20, g21, g22, -, -, -⟩, ⟨g30, g31, g32, -, -, -⟩, ⟨g40, g41, g42, -, -, -⟩, -⟩, -⟩ := hC; go_simp; first | done | (simp; done) | (simp [*]; done) | omega | (simp; omega) | (rw [IntKind.wrap_i64]; omega) | (intro hx; omega) | rfl)
          simp only [Act.put, List.setIfInBounds_toArray, List.set_cons_zero, List.set_cons_succ]
          refine qw_run (v := .bool false) (by rfl) ?_ ?_
          · (intro w1 hC; obtain ⟨⟨⟨g00, g01, g02, -, -, -⟩, ⟨g10, g11, g12, -, -, -⟩, ⟨g20, g21, g22, -, -, -⟩, ⟨g30, g31, g32, -, -, -⟩, ⟨g40, g41, g42, -, -, -⟩, -⟩, -⟩ := hC; go_simp; first | done | (simp; done) | (simp [*]; done) | omega | (simp; omega) | (rw [IntKind.wrap_i64]; omega) | (intro hx; omega) | rfl)
          simp only [Act.put, List.setIfInBounds_toArray, List.set_cons_zero, List.set_cons_succ]
          refine qw_run (v := .bool false) (by rfl) ?_ ?_
          · (intro w1 hC; obtain ⟨⟨⟨g00, g01, g02, -, -, -⟩, ⟨g10, g11, g12, -, -, -⟩, ⟨g20, g21, g22, -, -, -⟩, ⟨g30, g31, g32, -, -, -⟩, ⟨g40, g41, g42, -, -, -⟩, -⟩, -⟩ := hC; go_simp; first | done | (simp; done) | (simp [*]; done) | omega | (simp; omega) | (rw [IntKind.wrap_i64]; omega) | (intro hx; omega) | rfl)
          simp only [Act.put, List.setIfInBounds_toArray, List.set_cons_zero, List.set_cons_succ]
          refine qw_run (v := .agg #[.int .u64 x0, .int .u64 x1, .int .u64 x2]) (by rfl) ?_ ?_
          · (intro w1 hC; obtain ⟨⟨⟨g00, g01, g02, -, -, -⟩, ⟨g10, g11, g12, -, -, -⟩, ⟨g20, g21, g22, -, -, -⟩, ⟨g30, g31, g32, -, -, -⟩, ⟨g40, g41, g42, -, -, -⟩, -⟩, -⟩ := hC; go_simp; first | done | (simp; done) | (simp [*]; done) | omega | (simp; omega) | (rw [IntKind.wrap_i64]; omega) | (intro hx; omega) | rfl)
          simp only [Act.put, List.setIfInBounds_toArray, List.set_cons_zero, List.set_cons_succ]
          refine qw_run (v := .agg #[.int .u64 y0, .int .u64 y1, .int .u64 y2]) (by rfl) ?_ ?_
          · (intro w1 hC; obtain ⟨⟨⟨g00, g01, g02, -, -, -⟩, ⟨g10, g11, g12, -, -, -⟩, ⟨g20, g21, g22, -, -, -⟩, ⟨g30, g31, g32, -, -, -⟩, ⟨g40, g41, g42, -, -, -⟩, -⟩, -⟩ := hC; go_simp; first | done | (simp; done) | (simp [*]; done) | omega | (simp; omega) | (rw [IntKind.wrap_i64]; omega) | (intro hx; omega) | rfl)
          simp only [Act.put, List.setIfInBounds_toArray, List.set_cons_zero, List.set_cons_succ]
          refine qw_call (v := .int .i64 (cab)) (f := 18) (args := #[.agg #[.int .u64 x0, .int .u64 x1, .int .u64 x2], .agg #[.int .u64 y0, .int .u64 y1, .int .u64 y2]]) (by rfl) ?_ ?_ ?_
          · (intro w1 hC; clear hC; go_simp)
          · exact fun w1 hC => (KAB w1).mono fun e w' ⟨he, hb⟩ => ⟨he, Kcs.below hC hb⟩
          simp only [Act.put, List.setIfInBounds_toArray, List.set_cons_zero, List.set_cons_succ]
          refine qw_run (v := .bool (z1)) (by rfl) ?_ ?_
          · (intro w1 hC; obtain ⟨⟨⟨g00, g01, g02, -, -, -⟩, ⟨g10, g11, g12, -, -, -⟩, ⟨g20, g21, g22, -, -, -⟩, ⟨g30, g31, g32, -, -, -⟩, ⟨g40, g41, g42, -, -, -⟩, -⟩, -⟩ := hC; go_simp; first | done | (simp; done) | (simp [*]; done) | omega | (simp; omega) | (rw [IntKind.wrap_i64]; omega) | (intro hx; omega) | rfl)
          simp only [Act.put, List.setIfInBounds_toArray, List.set_cons_zero, List.set_cons_succ]
          refine qw_run (v := .agg #[.int .u64 x0, .int .u64 x1, .int .u64 x2]) (by rfl) ?_ ?_
          · (intro w1 hC; obtain ⟨⟨⟨g00, g01, g02, -, -, -⟩, ⟨g10, g11, g12, -, -, -⟩, ⟨g20, g21, g22, -, -, -⟩, ⟨g30, g31, g32, -, -, -⟩, ⟨g40, g41, g42, -, -, -⟩, -⟩, -⟩ := hC; go_simp; first | done | (simp; done) | (simp [*]; done) | omega | (simp; omega) | (rw [IntKind.wrap_i64]; omega) | (intro hx; omega) | rfl)
          simp only [Act.put, List.setIfInBounds_toArray, List.set_cons_zero, List.set_cons_succ]
          refine qw_run (v := .agg #[.int .u64 y0, .int .u64 y1, .int .u64 y2]) (by rfl) ?_ ?_
          · (intro w1 hC; obtain ⟨⟨⟨g00, g01, g02, -, -, -⟩, ⟨g10, g11, g12, -, -, -⟩, ⟨g20, g21, g22, -, -, -⟩, ⟨g30, g31, g32, -, -, -⟩, ⟨g40, g41, g42, -, -, -⟩, -⟩, -⟩ := hC; go_simp; first | done | (simp; done) | (simp [*]; done) | omega | (simp; omega) | (rw [IntKind.wrap_i64]; omega) | (intro hx; omega) | rfl)
          simp only [Act.put, List.setIfInBounds_toArray, List.set_cons_zero, List.set_cons_succ]
          refine qw_run (v := .bool (z1)) (by rfl) ?_ ?_
          · (intro w1 hC; obtain ⟨⟨⟨g00, g01, g02, -, -, -⟩, ⟨g10, g11, g12, -, -, -⟩, ⟨g20, g21, g22, -, -, -⟩, ⟨g30, g31, g32, -, -, -⟩, ⟨g40, g41, g42, -, -, -⟩, -⟩, -⟩ := hC; go_simp; first | done | (simp; done) | (simp [*]; done) | omega | (simp; omega) | (rw [IntKind.wrap_i64]; omega) | (intro hx; omega) | rfl)
          simp only [Act.put, List.setIfInBounds_toArray, List.set_cons_zero, List.set_cons_succ]
          refine qw_run (v := .bool false) (by rfl) ?_ ?_
          · (intro w1 hC; obtain ⟨⟨⟨g00, g01, g02, -, -, -⟩, ⟨g10, g11, g12, -, -, -⟩, ⟨g20, g21, g22, -, -, -⟩, ⟨g30, g31, g32, -, -, -⟩, ⟨g40, g41, g42, -, -, -⟩, -⟩, -⟩ := hC; go_simp; first | done | (simp; done) | (simp [*]; done) | omega | (simp; omega) | (rw [IntKind.wrap_i64]; omega) | (intro hx; omega) | rfl)
          simp only [Act.put, List.setIfInBounds_toArray, List.set_cons_zero, List.set_cons_succ]
          refine qw_run (v := .bool false) (by rfl) ?_ ?_
          · (intro w1 hC; obtain ⟨⟨⟨g00, g01, g02, -, -, -⟩, ⟨g10, g11, g12, -, -, -⟩, ⟨g20, g21, g22, -, -, -⟩, ⟨g30, g31, g32, -, -, -⟩, ⟨g40, g41, g42, -, -, -⟩, -⟩, -⟩ := hC; go_simp; first | done | (simp; done) | (simp [*]; done) | omega | (simp; omega) | (rw [IntKind.wrap_i64]; omega) | (intro hx; omega) | rfl)
          simp only [Act.put, List.setIfInBounds_toArray, List.set_cons_zero, List.set_cons_succ]
          refine qw_nil ?_
          intro v3r hC
          have Hr3 := hid9 hC
          clear H3 hC
          obtain ⟨f00, f01, f02, -, -, -⟩ := (Hr3.out.1.2.2.2.2).1
          obtain ⟨f10, f11, f12, -, -, -⟩ := (Hr3.out.1.2.2.2).1
          go_wp2_with fail
          clear f00 f01 f02 f10 f11 f12
          refine (KAB _).mono ?_
          rintro e v4 ⟨rfl, hb⟩
          have H4 := hid9 (Kcs.below Hr3.out hb)
          clear Hr3 hb
          obtain ⟨f00, f01, f02, -, -, -⟩ := (H4.out.1.2.2.2).1
          obtain ⟨f10, f11, f12, -, -, -⟩ := (H4.out.1.2.2).1
          go_wp2_with fail
          clear f00 f01 f02 f10 f11 f12
          refine (KBC _).mono ?_
          rintro e v5 ⟨rfl, hb⟩
          have H5 := hid9 (Kcs.below H4.out hb)
          clear H4 hb
          go_wp2_with fail
          refine qw_region (C := fun W => Kcs w W [(N3, s0, s1, s2), (N2, s0, s1, s2), (w.heap.size + 1 + 1, z0', z1', z2'), (w.heap.size + 1, y0, y1, y2), (w.heap.size, x0, x1, x2)]) (by kernel_rfl) (by kernel_rfl) H5.out.drew ?_
          refine qw_run (v := .agg #[.int .u64 s0, .int .u64 s1, .int .u64 s2]) (by rfl) ?_ ?_
          · (intro w1 hC; obtain ⟨⟨⟨g00, g01, g02, -, -, -⟩, ⟨g10, g11, g12, -, -, -⟩, ⟨g20, g21, g22, -, -, -⟩, ⟨g30, g31, g32, -, -, -⟩, ⟨g40, g41, g42, -, -, -⟩, -⟩, -⟩ := hC; go_simp; first | done | (simp; done) | (simp [*]; done) | omega | (simp; omega) | (rw [IntKind.wrap_i64]; omega) | (intro hx; omega) | rfl)
          simp only [Act.put, List.setIfInBounds_toArray, List.set_cons_zero, List.set_cons_succ]
          refine qw_run (v := .agg #[.int .u64 x0, .int .u64 x1, .int .u64 x2]) (by rfl) ?_ ?_
          · (intro w1 hC; obtain ⟨⟨⟨g00, g01, g02, -, -, -⟩, ⟨g10, g11, g12, -, -, -⟩, ⟨g20, g21, g22, -, -, -⟩, ⟨g30, g31, g32, -, -, -⟩, ⟨g40, g41, g42, -, -, -⟩, -⟩, -⟩ := hC; go_simp; first | done | (simp; done) | (simp [*]; done) | omega | (simp; omega) | (rw [IntKind.wrap_i64]; omega) | (intro hx; omega) | rfl)
          simp only [Act.put, List.setIfInBounds_toArray, List.set_cons_zero, List.set_cons_succ]
          refine qw_call (v := .int .i64 (csa)) (f := 18) (args := #[.agg #[.int .u64 s0, .int .u64 s1, .int .u64 s2], .agg #[.int .u64 x0, .int .u64 x1, .int .u64 x2]]) (by rfl) ?_ ?_ ?_
          · (intro w1 hC; clear hC; go_simp)
          · exact fun w1 hC => (KSA w1).mono fun e w' ⟨he, hb⟩ => ⟨he, Kcs.below hC hb⟩
          simp only [Act.put, List.setIfInBounds_toArray, List.set_cons_zero, List.set_cons_succ]
          refine qw_run (v := .bool false) (by rfl) ?_ ?_
          · (intro w1 hC; obtain ⟨⟨⟨g00, g01, g02, -, -, -⟩, ⟨g10, g11, g12, -, -, -⟩, ⟨g20, g21, g22, -, -, -⟩, ⟨g30, g31, g32, -, -, -⟩, ⟨g40, g41, g42, -, -, -⟩, -⟩, -⟩ := hC; go_simp; first | done | (simp; done) | (simp [*]; done) | omega | (simp; omega) | (rw [IntKind.wrap_i64]; omega) | (intro hx; omega) | rfl)
          simp only [Act.put, List.setIfInBounds_toArray, List.set_cons_zero, List.set_cons_succ]
          refine qw_run (v := .bool false) (by rfl) ?_ ?_
          · (intro w1 hC; obtain ⟨⟨⟨g00, g01, g02, -, -, -⟩, ⟨g10, g11, g12, -, -, -⟩, ⟨g20, g21, g22, -, -, -⟩, ⟨g30, g31, g32, -, -, -⟩, ⟨g40, g41, g42, -, -, -⟩, -⟩, -⟩ := hC; go_simp; first | done | (simp; done) | (simp [*]; done) | omega | (simp; omega) | (rw [IntKind.wrap_i64]; omega) | (intro hx; omega) | rfl)
          simp only [Act.put, List.setIfInBounds_toArray, List.set_cons_zero, List.set_cons_succ]
          refine qw_run (v := .agg #[.int .u64 s0, .int .u64 s1, .int .u64 s2]) (by rfl) ?_ ?_
          · (intro w1 hC; obtain ⟨⟨⟨g00, g01, g02, -, -, -⟩, ⟨g10, g11, g12, -, -, -⟩, ⟨g20, g21, g22, -, -, -⟩, ⟨g30, g31, g32, -, -, -⟩, ⟨g40, g41, g42, -, -, -⟩, -⟩, -⟩ := hC; go_simp; first | done | (simp; done) | (simp [*]; done) | omega | (simp; omega) | (rw [IntKind.wrap_i64]; omega) | (intro hx; omega) | rfl)
          simp only [Act.put, List.setIfInBounds_toArray, List.set_cons_zero, List.set_cons_succ]
          refine qw_run (v := .agg #[.int .u64 x0, .int .u64 x1, .int .u64 x2]) (by rfl) ?_ ?_
          · (intro w1 hC; obtain ⟨⟨⟨g00, g01, g02, -, -, -⟩, ⟨g10, g11, g12, -, -, -⟩, ⟨g20, g21, g22, -, -, -⟩, ⟨g30, g31, g32, -, -, -⟩, ⟨g40, g41, g42, -, -, -⟩, -⟩, -⟩ := hC; go_simp; first | done | (simp; done) | (simp [*]; done) | omega | (simp; omega) | (rw [IntKind.wrap_i64]; omega) | (intro hx; omega) | rfl)
          simp only [Act.put, List.setIfInBounds_toArray, List.set_cons_zero, List.set_cons_succ]
          refine qw_call (v := .int .i64 (csa)) (f := 18) (args := #[.agg #[.int .u64 s0, .int .u64 s1, .int .u64 s2], .agg #[.int .u64 x0, .int .u64 x1, .int .u64 x2]]) (by rfl) ?_ ?_ ?_
          · (intro w1 hC; clear hC; go_simp)
          · exact fun w1 hC => (KSA w1).mono fun e w' ⟨he, hb⟩ => ⟨he, Kcs.below hC hb⟩
          simp only [Act.put, List.setIfInBounds_toArray, List.set_cons_zero, List.set_cons_succ]
          refine qw_run (v := .bool (z2)) (by rfl) ?_ ?_
          · (intro w1 hC; obtain ⟨⟨⟨g00, g01, g02, -, -, -⟩, ⟨g10, g11, g12, -, -, -⟩, ⟨g20, g21, g22, -, -, -⟩, ⟨g30, g31, g32, -, -, -⟩, ⟨g40, g41, g42, -, -, -⟩, -⟩, -⟩ := hC; go_simp; first | done | (simp; done) | (simp [*]; done) | omega | (simp; omega) | (rw [IntKind.wrap_i64]; omega) | (intro hx; omega) | rfl)
          simp only [Act.put, List.setIfInBounds_toArray, List.set_cons_zero, List.set_cons_succ]
          refine qw_run (v := .agg #[.int .u64 y0, .int .u64 y1, .int .u64 y2]) (by rfl) ?_ ?_
          · (intro w1 hC; obtain ⟨⟨⟨g00, g01, g02, -, -, -⟩, ⟨g10, g11, g12, -, -, -⟩, ⟨g20, g21, g22, -, -, -⟩, ⟨g30, g31, g32, -, -, -⟩, ⟨g40, g41, g42, -, -, -⟩, -⟩, -⟩ := hC; go_simp; first | done | (simp; done) | (simp [*]; done) | omega | (simp; omega) | (rw [IntKind.wrap_i64]; omega) | (intro hx; omega) | rfl)
          simp only [Act.put, List.setIfInBounds_toArray, List.set_cons_zero, List.set_cons_succ]
          refine qw_run (v := .agg #[.int .u64 0, .int .u64 0, .int .u64 0]) (by rfl) ?_ ?_
          · (intro w1 hC; obtain ⟨⟨⟨g00, g01, g02, -, -, -⟩, ⟨g10, g11, g12, -, -, -⟩, ⟨g20, g21, g22, -, -, -⟩, ⟨g30, g31, g32, -, -, -⟩, ⟨g40, g41, g42, -, -, -⟩, -⟩, -⟩ := hC; go_simp; first | done | (simp; done) | (simp [*]; done) | omega | (simp; omega) | (rw [IntKind.wrap_i64]; omega) | (intro hx; omega) | rfl)
          simp only [Act.put, List.setIfInBounds_toArray, List.set_cons_zero, List.set_cons_succ]
          refine qw_run (v := .bool (z2)) (by rfl) ?_ ?_
          · (intro w1 hC; obtain ⟨⟨⟨g00, g01, g02, -, -, -⟩, ⟨g10, g11, g12, -, -, -⟩, ⟨g20, g21, g22, -, -, -⟩, ⟨g30, g31, g32, -, -, -⟩, ⟨g40, g41, g42, -, -, -⟩, -⟩, -⟩ := hC; go_simp; first | done | (simp; done) | (simp [*]; done) | omega | (simp; omega) | (rw [IntKind.wrap_i64]; omega) | (intro hx; omega) | rfl)
          simp only [Act.put, List.setIfInBounds_toArray, List.set_cons_zero, List.set_cons_succ]
          refine qw_run (v := .bool false) (by rfl) ?_ ?_
          · (intro w1 hC; obtain ⟨⟨⟨g00, g01, g02, -, -, -⟩, ⟨g10, g11, g12, -, -, -⟩, ⟨g20, g21, g22, -, -, -⟩, ⟨g30, g31, g32, -, -, -⟩, ⟨g40, g41, g42, -, -, -⟩, -⟩, -⟩ := hC; go_simp; first | done | (simp; done) | (simp [*]; done) | omega | (simp; omega) | (rw [IntKind.wrap_i64]; omega) | (intro hx; omega) | rfl)
          simp only [Act.put, List.setIfInBounds_toArray, List.set_cons_zero, List.set_cons_succ]
          refine qw_run (v := .bool false) (by rfl) ?_ ?_
          · (intro w1 hC; obtain ⟨⟨⟨g00, g01, g02, -, -, -⟩, ⟨g10, g11, g12, -, -, -⟩, ⟨g20, g21, g22, -, -, -⟩, ⟨g30, g31, g32, -, -, -⟩, ⟨g40, g41, g42, -, -, -⟩, -⟩, -⟩ := hC; go_simp; first | done | (simp; done) | (simp [*]; done) | omega | (simp; omega) | (rw [IntKind.wrap_i64]; omega) | (intro hx; omega) | rfl)
          simp only [Act.put, List.setIfInBounds_toArray, List.set_cons_zero, List.set_cons_succ]
          refine qw_nil ?_
          intro v6r hC
          have Hr6 := hid9 hC
          clear H5 hC
          obtain ⟨f00, f01, f02, -, -, -⟩ := (Hr6.out.1.2).1
          obtain ⟨f10, f11, f12, -, -, -⟩ := (Hr6.out.1.2.2).1
          go_wp2_with fail
          clear f00 f01 f02 f10 f11 f12
          refine (KU _).mono ?_
          rintro e v7 ⟨rfl, hb⟩
          have H7 := hid9 (Kcs.new (a := 0) (b := 0) (c := 0) Hr6.out hb)
          clear Hr6 hb
          obtain ⟨f00, f01, f02, -, -, -⟩ := (H7.out.1.2.2.2.2).1
          obtain ⟨f10, f11, f12, -, -, -⟩ := (H7.out.1.2.2.2).1
          go_wp2_with fail
          clear f00 f01 f02 f10 f11 f12
          revert H7
          generalize v7.alloc (.cells #[.int .u64 0, .int .u64 0, .int .u64 0] 24) = W7
          generalize v7.heap.size = N7
          intro H7
          refine (KT _).mono ?_
          rintro e v8 ⟨rfl, hb⟩
          have H8 := hid9 (Kcs.new (a := 0) (b := 0) (c := 0) H7.out hb)
          clear H7 hb
          go_wp2
          go_ret
          exact ⟨rfl, H8.out.2⟩
      · have d1 : decide (cmpN N M ≤ 0) = false := decide_eq_false (fun h => o1 (l1.mp h))
        clear l1 l2 l3 hN hM hK o1
        generalize cmpN N M = cab at *
        generalize cmpN M N = cba at *
        generalize cmpN M K = cbc at *
        generalize cmpN N K = cac at *
        have H0 := hid9 (Kcs.three w x0 x1 x2 y0 y1 y2 z0' z1' z2')
        go_enter Try.func6, Try.ntmps6
        go_wp2_with fail
        revert H0
        generalize ((w.alloc (.cells #[.int .u64 x0, .int .u64 x1, .int .u64 x2] 24)).alloc (.cells #[.int .u64 y0, .int .u64 y1, .int .u64 y2] 24)).alloc (.cells #[.int .u64 z0', .int .u64 z1', .int .u64 z2'] 24) = W0
        intro H0
        refine (KK _).mono ?_
        rintro e v1 ⟨rfl, hb⟩
        have H1 := hid9 (Kcs.below H0.out hb)
        clear H0 hb
        obtain ⟨f00, f01, f02, -, -, -⟩ := (H1.out.1.2.2).1
        obtain ⟨f10, f11, f12, -, -, -⟩ := (H1.out.1.2).1
        go_wp2_with fail
        clear f00 f01 f02 f10 f11 f12
        refine (KS _).mono ?_
        rintro e v2 ⟨rfl, hb⟩
        have H2 := hid9 (Kcs.new (a := s0) (b := s1) (c := s2) H1.out hb)
        clear H1 hb
        obtain ⟨f00, f01, f02, -, -, -⟩ := (H2.out.1.2.2.2).1
        obtain ⟨f10, f11, f12, -, -, -⟩ := (H2.out.1.2.2).1
        go_wp2_with fail
        clear f00 f01 f02 f10 f11 f12
        revert H2
        generalize v2.alloc (.cells #[.int .u64 s0, .int .u64 s1, .int .u64 s2] 24) = W2
        generalize v2.heap.size = N2
        intro H2
        refine (KS2 _).mono ?_
        rintro e v3 ⟨rfl, hb⟩
        have H3 := hid9 (Kcs.new (a := s0) (b := s1) (c := s2) H2.out hb)
        clear H2 hb
        go_wp2_with fail
        revert H3
        generalize v3.alloc (.cells #[.int .u64 s0, .int .u64 s1, .int .u64 s2] 24) = W3
        generalize v3.heap.size = N3
        intro H3
        refine qw_region (C := fun W => Kcs w W [(N3, s0, s1, s2), (N2, s0, s1, s2), (w.heap.size + 1 + 1, z0', z1', z2'), (w.heap.size + 1, y0, y1, y2), (w.heap.size, x0, x1, x2)]) (by kernel_rfl) (by kernel_rfl) H3.out.drew ?_
        refine qw_run (v := .int .i64 (0)) (by rfl) ?_ ?_
        · (intro w1 hC; obtain ⟨⟨⟨g00, g01, g02, -, -, -⟩, ⟨g10, g11, g12, -, -, -⟩, ⟨g20, g21, g22, -, -, -⟩, ⟨g30, g31, g32, -, -, -⟩, ⟨g40, g41, g42, -, -, -⟩, -⟩, -⟩ := hC; go_simp; first | done | (simp; done) | (simp [*]; done) | omega | (simp; omega) | (rw [IntKind.wrap_i64]; omega) | (intro hx; omega) | rfl)
        simp only [Act.put, List.setIfInBounds_toArray, List.set_cons_zero, List.set_cons_succ]
        refine qw_run (v := .int .i64 (0)) (by rfl) ?_ ?_
        · (intro w1 hC; obtain ⟨⟨⟨g00, g01, g02, -, -, -⟩, ⟨g10, g11, g12, -, -, -⟩, ⟨g20, g21, g22, -, -, -⟩, ⟨g30, g31, g32, -, -, -⟩, ⟨g40, g41, g42, -, -, -⟩, -⟩, -⟩ := hC; go_simp; first | done | (simp; done) | (simp [*]; done) | omega | (simp; omega) | (rw [IntKind.wrap_i64]; omega) | (intro hx; omega) | rfl)
        simp only [Act.put, List.setIfInBounds_toArray, List.set_cons_zero, List.set_cons_succ]
        refine qw_run (v := .bool false) (by rfl) ?_ ?_
        · (intro w1 hC; obtain ⟨⟨⟨g00, g01, g02, -, -, -⟩, ⟨g10, g11, g12, -, -, -⟩, ⟨g20, g21, g22, -, -, -⟩, ⟨g30, g31, g32, -, -, -⟩, ⟨g40, g41, g42, -, -, -⟩, -⟩, -⟩ := hC; go_simp; first | done | (simp; done) | (simp [*]; done) | omega | (simp; omega) | (rw [IntKind.wrap_i64]; omega) | (intro hx; omega) | rfl)
        simp only [Act.put, List.setIfInBounds_toArray, List.set_cons_zero, List.set_cons_succ]
        refine qw_run (v := .bool false) (by rfl) ?_ ?_
        · (intro w1 hC; obtain ⟨⟨⟨g00, g01, g02, -, -, -⟩, ⟨g10, g11, g12, -, -, -⟩, ⟨g20, g21, g22, -, -, -⟩, ⟨g30, g31, g32, -, -, -⟩, ⟨g40, g41, g42, -, -, -⟩, -⟩, -⟩ := hC; go_simp; first | done | (simp; done) | (simp [*]; done) | omega | (simp; omega) | (rw [IntKind.wrap_i64]; omega) | (intro hx; omega) | rfl)
        simp only [Act.put, List.setIfInBounds_toArray, List.set_cons_zero, List.set_cons_succ]
        refine qw_run (v := .agg #[.int .u64 s0, .int .u64 s1, .int .u64 s2]) (by rfl) ?_ ?_
        · (intro w1 hC; obtain ⟨⟨⟨g00, g01, g02, -, -, -⟩, ⟨g10, g11, g12, -, -, -⟩, ⟨g20, g21, g22, -, -, -⟩, ⟨g30, g31, g32, -, -, -⟩, ⟨g40, g41, g42, -, -, -⟩, -⟩, -⟩ := hC; go_simp; first | done | (simp; done) | (simp [*]; done) | omega | (simp; omega) | (rw [IntKind.wrap_i64]; omega) | (intro hx; omega) | rfl)
        simp only [Act.put, List.setIfInBounds_toArray, List.set_cons_zero, List.set_cons_succ]
        refine qw_run (v := .agg #[.int .u64 s0, .int .u64 s1, .int .u64 s2]) (by rfl) ?_ ?_
        · (intro w1 hC; obtain ⟨⟨⟨g00, g01, g02, -, -, -⟩, ⟨g10, g11, g12, -, -, -⟩, ⟨g20, g21, g22, -, -, -⟩, ⟨g30, g31, g32, -, -, -⟩, ⟨g40, g41, g42, -, -, -⟩, -⟩, -⟩ := hC; go_simp; first | done | (simp; done) | (simp [*]; done) | omega | (simp; omega) | (rw [IntKind.wrap_i64]; omega) | (intro hx; omega) | rfl)
        simp only [Act.put, List.setIfInBounds_toArray, List.set_cons_zero, List.set_cons_succ]
        refine qw_run (v := .bool false) (by rfl) ?_ ?_
        · (intro w1 hC; obtain ⟨⟨⟨g00, g01, g02, -, -, -⟩, ⟨g10, g11, g12, -, -, -⟩, ⟨g20, g21, g22, -, -, -⟩, ⟨g30, g31, g32, -, -, -⟩, ⟨g40, g41, g42, -, -, -⟩, -⟩, -⟩ := hC; go_simp; first | done | (simp; done) | (simp [*]; done) | omega | (simp; omega) | (rw [IntKind.wrap_i64]; omega) | (intro hx; omega) | rfl)
        simp only [Act.put, List.setIfInBounds_toArray, List.set_cons_zero, List.set_cons_succ]
        refine qw_run (v := .bool false) (by rfl) ?_ ?_
        · (intro w1 hC; obtain ⟨⟨⟨g00, g01, g02, -, -, -⟩, ⟨g10, g11, g12, -, -, -⟩, ⟨g20, g21, g22, -, -, -⟩, ⟨g30, g31, g32, -, -, -⟩, ⟨g40, g41, g42, -, -, -⟩, -⟩, -⟩ := hC; go_simp; first | done | (simp; done) | (simp [*]; done) | omega | (simp; omega) | (rw [IntKind.wrap_i64]; omega) | (intro hx; omega) | rfl)
        simp only [Act.put, List.setIfInBounds_toArray, List.set_cons_zero, List.set_cons_succ]
        refine qw_run (v := .bool false) (by rfl) ?_ ?_
        · (intro w1 hC; obtain ⟨⟨⟨g00, g01, g02, -, -, -⟩, ⟨g10, g11, g12, -, -, -⟩, ⟨g20, g21, g22, -, -, -⟩, ⟨g30, g31, g32, -, -, -⟩, ⟨g40, g41, g42, -, -, -⟩, -⟩, -⟩ := hC; go_simp; first | done | (simp; done) | (simp [*]; done) | omega | (simp; omega) | (rw [IntKind.wrap_i64]; omega) | (intro hx; omega) | rfl)
        simp only [Act.put, List.setIfInBounds_toArray, List.set_cons_zero, List.set_cons_succ]
        refine qw_run (v := .agg #[.int .u64 x0, .int .u64 x1, .int .u64 x2]) (by rfl) ?_ ?_
        · (intro w1 hC; obtain ⟨⟨⟨g00, g01, g02, -, -, -⟩, ⟨g10, g11, g12, -, -, -⟩, ⟨g20, g21, g22, -, -, -⟩, ⟨g30, g31, g32, -, -, -⟩, ⟨g40, g41, g42, -, -, -⟩, -⟩, -⟩ := hC; go_simp; first | done | (simp; done) | (simp [*]; done) | omega | (simp; omega) | (rw [IntKind.wrap_i64]; omega) | (intro hx; omega) | rfl)
        simp only [Act.put, List.setIfInBounds_toArray, List.set_cons_zero, List.set_cons_succ]
        refine qw_run (v := .agg #[.int .u64 y0, .int .u64 y1, .int .u64 y2]) (by rfl) ?_ ?_
        · (intro w1 hC; obtain ⟨⟨⟨g00, g01, g02, -, -, -⟩, ⟨g10, g11, g12, -, -, -⟩, ⟨g20, g21, g22, -, -, -⟩, ⟨g30, g31, g32, -, -, -⟩, ⟨g40, g41, g42, -, -, -⟩, -⟩, -⟩ := hC; go_simp; first | done | (simp; done) | (simp [*]; done) | omega | (simp; omega) | (rw [IntKind.wrap_i64]; omega) | (intro hx; omega) | rfl)
        simp only [Act.put, List.setIfInBounds_toArray, List.set_cons_zero, List.set_cons_succ]
        refine qw_call (v := .int .i64 (cab)) (f := 18) (args := #[.agg #[.int .u64 x0, .int .u64 x1, .int .u64 x2], .agg #[.int .u64 y0, .int .u64 y1, .int .u64 y2]]) (by rfl) ?_ ?_ ?_
        · (intro w1 hC; clear hC; go_simp)
        · exact fun w1 hC => (KAB w1).mono fun e w' ⟨he, hb⟩ => ⟨he, Kcs.below hC hb⟩
        simp only [Act.put, List.setIfInBounds_toArray, List.set_cons_zero, List.set_cons_succ]
        refine qw_run (v := .agg #[.int .u64 y0, .int .u64 y1, .int .u64 y2]) (by rfl) ?_ ?_
        · (intro w1 hC; obtain ⟨⟨⟨g00, g01, g02, -, -, -⟩, ⟨g10, g11, g12, -, -, -⟩, ⟨g20, g21, g22, -, -, -⟩, ⟨g30, g31, g32, -, -, -⟩, ⟨g40, g41, g42, -, -, -⟩, -⟩, -⟩ := hC; go_simp; first | done | (simp; done) | (simp [*]; done) | omega | (simp; omega) | (rw [IntKind.wrap_i64]; omega) | (intro hx; omega) | rfl)
        simp only [Act.put, List.setIfInBounds_toArray, List.set_cons_zero, List.set_cons_succ]
        refine qw_run (v := .agg #[.int .u64 x0, .int .u64 x1, .int .u64 x2]) (by rfl) ?_ ?_
        · (intro w1 hC; obtain ⟨⟨⟨g00, g01, g02, -, -, -⟩, ⟨g10, g11, g12, -, -, -⟩, ⟨g20, g21, g22, -, -, -⟩, ⟨g30, g31, g32, -, -, -⟩, ⟨g40, g41, g42, -, -, -⟩, -⟩, -⟩ := hC; go_simp; first | done | (simp; done) | (simp [*]; done) | omega | (simp; omega) | (rw [IntKind.wrap_i64]; omega) | (intro hx; omega) | rfl)
        simp only [Act.put, List.setIfInBounds_toArray, List.set_cons_zero, List.set_cons_succ]
        refine qw_call (v := .int .i64 (cba)) (f := 18) (args := #[.agg #[.int .u64 y0, .int .u64 y1, .int .u64 y2], .agg #[.int .u64 x0, .int .u64 x1, .int .u64 x2]]) (by rfl) ?_ ?_ ?_
        · (intro w1 hC; clear hC; go_simp)
        · exact fun w1 hC => (KBA w1).mono fun e w' ⟨he, hb⟩ => ⟨he, Kcs.below hC hb⟩
        simp only [Act.put, List.setIfInBounds_toArray, List.set_cons_zero, List.set_cons_succ]
        refine qw_run (v := .int .i64 (cab)) (by rfl) ?_ ?_
        · (intro w1 hC; obtain ⟨⟨⟨g00, g01, g02, -, -, -⟩, ⟨g10, g11, g12, -, -, -⟩, ⟨g20, g21, g22, -, -, -⟩, ⟨g30, g31, g32, -, -, -⟩, ⟨g40, g41, g42, -, -, -⟩, -⟩, -⟩ := hC; go_simp; first | done | (simp; done) | (simp [*]; done) | omega | (simp; omega) | (rw [IntKind.wrap_i64]; omega) | (intro hx; omega) | rfl)
        simp only [Act.put, List.setIfInBounds_toArray, List.set_cons_zero, List.set_cons_succ]
        refine qw_run (v := .bool false) (by rfl) ?_ ?_
        · (intro w1 hC; obtain ⟨⟨⟨g00, g01, g02, -, -, -⟩, ⟨g10, g11, g12, -, -, -⟩, ⟨g20, g21, g22, -, -, -⟩, ⟨g30, g31, g32, -, -, -⟩, ⟨g40, g41, g42, -, -, -⟩, -⟩, -⟩ := hC; go_simp; first | done | (simp; done) | (simp [*]; done) | omega | (simp; omega) | (rw [IntKind.wrap_i64]; omega) | (intro hx; omega) | rfl)
        simp only [Act.put, List.setIfInBounds_toArray, List.set_cons_zero, List.set_cons_succ]
        refine qw_run (v := .bool false) (by rfl) ?_ ?_
        · (intro w1 hC; obtain ⟨⟨⟨g00, g01, g02, -, -, -⟩, ⟨g10, g11, g12, -, -, -⟩, ⟨g20, g21, g22, -, -, -⟩, ⟨g30, g31, g32, -, -, -⟩, ⟨g40, g41, g42, -, -, -⟩, -⟩, -⟩ := hC; go_simp; first | done | (simp; done) | (simp [*]; done) | omega | (simp; omega) | (rw [IntKind.wrap_i64]; omega) | (intro hx; omega) | rfl)
        simp only [Act.put, List.setIfInBounds_toArray, List.set_cons_zero, List.set_cons_succ]
        refine qw_run (v := .bool false) (by rfl) ?_ ?_
        · (intro w1 hC; obtain ⟨⟨⟨g00, g01, g02, -, -, -⟩, ⟨g10, g11, g12, -, -, -⟩, ⟨g20, g21, g22, -, -, -⟩, ⟨g30, g31, g32, -, -, -⟩, ⟨g40, g41, g42, -, -, -⟩, -⟩, -⟩ := hC; go_simp; first | done | (simp; done) | (simp [*]; done) | omega | (simp; omega) | (rw [IntKind.wrap_i64]; omega) | (intro hx; omega) | rfl)
        simp only [Act.put, List.setIfInBounds_toArray, List.set_cons_zero, List.set_cons_succ]
        refine qw_run (v := .agg #[.int .u64 x0, .int .u64 x1, .int .u64 x2]) (by rfl) ?_ ?_
        · (intro w1 hC; obtain ⟨⟨⟨g00, g01, g02, -, -, -⟩, ⟨g10, g11, g12, -, -, -⟩, ⟨g20, g21, g22, -, -, -⟩, ⟨g30, g31, g32, -, -, -⟩, ⟨g40, g41, g42, -, -, -⟩, -⟩, -⟩ := hC; go_simp; first | done | (simp; done) | (simp [*]; done) | omega | (simp; omega) | (rw [IntKind.wrap_i64]; omega) | (intro hx; omega) | rfl)
        simp only [Act.put, List.setIfInBounds_toArray, List.set_cons_zero, List.set_cons_succ]
        refine qw_run (v := .agg #[.int .u64 y0, .int .u64 y1, .int .u64 y2]) (by rfl) ?_ ?_
        · (intro w1 hC; obtain ⟨⟨⟨g00, g01, g02, -, -, -⟩, ⟨g10, g11, g12, -, -, -⟩, ⟨g20, g21, g22, -, -, -⟩, ⟨g30, g31, g32, -, -, -⟩, ⟨g40, g41, g42, -, -, -⟩, -⟩, -⟩ := hC; go_simp; first | done | (simp; done) | (simp [*]; done) | omega | (simp; omega) | (rw [IntKind.wrap_i64]; omega) | (intro hx; omega) | rfl)
        simp only [Act.put, List.setIfInBounds_toArray, List.set_cons_zero, List.set_cons_succ]
        refine qw_call (v := .int .i64 (cab)) (f := 18) (args := #[.agg #[.int .u64 x0, .int .u64 x1, .int .u64 x2], .agg #[.int .u64 y0, .int .u64 y1, .int .u64 y2]]) (by rfl) ?_ ?_ ?_
        · (intro w1 hC; clear hC; go_simp)
        · exact fun w1 hC => (KAB w1).mono fun e w' ⟨he, hb⟩ => ⟨he, Kcs.below hC hb⟩
        simp only [Act.put, List.setIfInBounds_toArray, List.set_cons_zero, List.set_cons_succ]
        refine qw_run (v := .bool (z1)) (by rfl) ?_ ?_
        · (intro w1 hC; obtain ⟨⟨⟨g00, g01, g02, -, -, -⟩, ⟨g10, g11, g12, -, -, -⟩, ⟨g20, g21, g22, -, -, -⟩, ⟨g30, g31, g32, -, -, -⟩, ⟨g40, g41, g42, -, -, -⟩, -⟩, -⟩ := hC; go_simp; first | done | (simp; done) | (simp [*]; done) | omega | (simp; omega) | (rw [IntKind.wrap_i64]; omega) | (intro hx; omega) | rfl)
        simp only [Act.put, List.setIfInBounds_toArray, List.set_cons_zero, List.set_cons_succ]
        refine qw_run (v := .agg #[.int .u64 x0, .int .u64 x1, .int .u64 x2]) (by rfl) ?_ ?_
        · (intro w1 hC; obtain ⟨⟨⟨g00, g01, g02, -, -, -⟩, ⟨g10, g11, g12, -, -, -⟩, ⟨g20, g21, g22, -, -, -⟩, ⟨g30, g31, g32, -, -, -⟩, ⟨g40, g41, g42, -, -, -⟩, -⟩, -⟩ := hC; go_simp; first | done | (simp; done) | (simp [*]; done) | omega | (simp; omega) | (rw [IntKind.wrap_i64]; omega) | (intro hx; omega) | rfl)
        simp only [Act.put, List.setIfInBounds_toArray, List.set_cons_zero, List.set_cons_succ]
        refine qw_run (v := .agg #[.int .u64 y0, .int .u64 y1, .int .u64 y2]) (by rfl) ?_ ?_
        · (intro w1 hC; obtain ⟨⟨⟨g00, g01, g02, -, -, -⟩, ⟨g10, g11, g12, -, -, -⟩, ⟨g20, g21, g22, -, -, -⟩, ⟨g30, g31, g32, -, -, -⟩, ⟨g40, g41, g42, -, -, -⟩, -⟩, -⟩ := hC; go_simp; first | done | (simp; done) | (simp [*]; done) | omega | (simp; omega) | (rw [IntKind.wrap_i64]; omega) | (intro hx; omega) | rfl)
        simp only [Act.put, List.setIfInBounds_toArray, List.set_cons_zero, List.set_cons_succ]
        refine qw_run (v := .bool (z1)) (by rfl) ?_ ?_
        · (intro w1 hC; obtain ⟨⟨⟨g00, g01, g02, -, -, -⟩, ⟨g10, g11, g12, -, -, -⟩, ⟨g20, g21, g22, -, -, -⟩, ⟨g30, g31, g32, -, -, -⟩, ⟨g40, g41, g42, -, -, -⟩, -⟩, -⟩ := hC; go_simp; first | done | (simp; done) | (simp [*]; done) | omega | (simp; omega) | (rw [IntKind.wrap_i64]; omega) | (intro hx; omega) | rfl)
        simp only [Act.put, List.setIfInBounds_toArray, List.set_cons_zero, List.set_cons_succ]
        refine qw_run (v := .bool false) (by rfl) ?_ ?_
        · (intro w1 hC; obtain ⟨⟨⟨g00, g01, g02, -, -, -⟩, ⟨g10, g11, g12, -, -, -⟩, ⟨g20, g21, g22, -, -, -⟩, ⟨g30, g31, g32, -, -, -⟩, ⟨g40, g41, g42, -, -, -⟩, -⟩, -⟩ := hC; go_simp; first | done | (simp; done) | (simp [*]; done) | omega | (simp; omega) | (rw [IntKind.wrap_i64]; omega) | (intro hx; omega) | rfl)
        simp only [Act.put, List.setIfInBounds_toArray, List.set_cons_zero, List.set_cons_succ]
        refine qw_run (v := .bool false) (by rfl) ?_ ?_
        · (intro w1 hC; obtain ⟨⟨⟨g00, g01, g02, -, -, -⟩, ⟨g10, g11, g12, -, -, -⟩, ⟨g20, g21, g22, -, -, -⟩, ⟨g30, g31, g32, -, -, -⟩, ⟨g40, g41, g42, -, -, -⟩, -⟩, -⟩ := hC; go_simp; first | done | (simp; done) | (simp [*]; done) | omega | (simp; omega) | (rw [IntKind.wrap_i64]; omega) | (intro hx; omega) | rfl)
        simp only [Act.put, List.setIfInBounds_toArray, List.set_cons_zero, List.set_cons_succ]
        refine qw_nil ?_
        intro v3r hC
        have Hr3 := hid9 hC
        clear H3 hC
        obtain ⟨f00, f01, f02, -, -, -⟩ := (Hr3.out.1.2.2.2.2).1
        obtain ⟨f10, f11, f12, -, -, -⟩ := (Hr3.out.1.2.2.2).1
        go_wp2_with fail
        clear f00 f01 f02 f10 f11 f12
        refine (KAB _).mono ?_
        rintro e v4 ⟨rfl, hb⟩
        have H4 := hid9 (Kcs.below Hr3.out hb)
        clear Hr3 hb
        go_wp2_with fail
        refine qw_region (C := fun W => Kcs w W [(N3, s0, s1, s2), (N2, s0, s1, s2), (w.heap.size + 1 + 1, z0', z1', z2'), (w.heap.size + 1, y0, y1, y2), (w.heap.size, x0, x1, x2)]) (by kernel_rfl) (by kernel_rfl) H4.out.drew ?_
        refine qw_run (v := .agg #[.int .u64 s0, .int .u64 s1, .int .u64 s2]) (by rfl) ?_ ?_
        · (intro w1 hC; obtain ⟨⟨⟨g00, g01, g02, -, -, -⟩, ⟨g10, g11, g12, -, -, -⟩, ⟨g20, g21, g22, -, -, -⟩, ⟨g30, g31, g32, -, -, -⟩, ⟨g40, g41, g42, -, -, -⟩, -⟩, -⟩ := hC; go_simp; first | done | (simp; done) | (simp [*]; done) | omega | (simp; omega) | (rw [IntKind.wrap_i64]; omega) | (intro hx; omega) | rfl)
        simp only [Act.put, List.setIfInBounds_toArray, List.set_cons_zero, List.set_cons_succ]
        refine qw_run (v := .agg #[.int .u64 x0, .int .u64 x1, .int .u64 x2]) (by rfl) ?_ ?_
        · (intro w1 hC; obtain ⟨⟨⟨g00, g01, g02, -, -, -⟩, ⟨g10, g11, g12, -, -, -⟩, ⟨g20, g21, g22, -, -, -⟩, ⟨g30, g31, g32, -, -, -⟩, ⟨g40, g41, g42, -, -, -⟩, -⟩, -⟩ := hC; go_simp; first | done | (simp; done) | (simp [*]; done) | omega | (simp; omega) | (rw [IntKind.wrap_i64]; omega) | (intro hx; omega) | rfl)
        simp only [Act.put, List.setIfInBounds_toArray, List.set_cons_zero, List.set_cons_succ]
        refine qw_call (v := .int .i64 (csa)) (f := 18) (args := #[.agg #[.int .u64 s0, .int .u64 s1, .int .u64 s2], .agg #[.int .u64 x0, .int .u64 x1, .int .u64 x2]]) (by rfl) ?_ ?_ ?_
        · (intro w1 hC; clear hC; go_simp)
        · exact fun w1 hC => (KSA w1).mono fun e w' ⟨he, hb⟩ => ⟨he, Kcs.below hC hb⟩
        simp only [Act.put, List.setIfInBounds_toArray, List.set_cons_zero, List.set_cons_succ]
        refine qw_run (v := .bool false) (by rfl) ?_ ?_
        · (intro w1 hC; obtain ⟨⟨⟨g00, g01, g02, -, -, -⟩, ⟨g10, g11, g12, -, -, -⟩, ⟨g20, g21, g22, -, -, -⟩, ⟨g30, g31, g32, -, -, -⟩, ⟨g40, g41, g42, -, -, -⟩, -⟩, -⟩ := hC; go_simp; first | done | (simp; done) | (simp [*]; done) | omega | (simp; omega) | (rw [IntKind.wrap_i64]; omega) | (intro hx; omega) | rfl)
        simp only [Act.put, List.setIfInBounds_toArray, List.set_cons_zero, List.set_cons_succ]
        refine qw_run (v := .bool false) (by rfl) ?_ ?_
        · (intro w1 hC; obtain ⟨⟨⟨g00, g01, g02, -, -, -⟩, ⟨g10, g11, g12, -, -, -⟩, ⟨g20, g21, g22, -, -, -⟩, ⟨g30, g31, g32, -, -, -⟩, ⟨g40, g41, g42, -, -, -⟩, -⟩, -⟩ := hC; go_simp; first | done | (simp; done) | (simp [*]; done) | omega | (simp; omega) | (rw [IntKind.wrap_i64]; omega) | (intro hx; omega) | rfl)
        simp only [Act.put, List.setIfInBounds_toArray, List.set_cons_zero, List.set_cons_succ]
        refine qw_run (v := .agg #[.int .u64 s0, .int .u64 s1, .int .u64 s2]) (by rfl) ?_ ?_
        · (intro w1 hC; obtain ⟨⟨⟨g00, g01, g02, -, -, -⟩, ⟨g10, g11, g12, -, -, -⟩, ⟨g20, g21, g22, -, -, -⟩, ⟨g30, g31, g32, -, -, -⟩, ⟨g40, g41, g42, -, -, -⟩, -⟩, -⟩ := hC; go_simp; first | done | (simp; done) | (simp [*]; done) | omega | (simp; omega) | (rw [IntKind.wrap_i64]; omega) | (intro hx; omega) | rfl)
        simp only [Act.put, List.setIfInBounds_toArray, List.set_cons_zero, List.set_cons_succ]
        refine qw_run (v := .agg #[.int .u64 x0, .int .u64 x1, .int .u64 x2]) (by rfl) ?_ ?_
        · (intro w1 hC; obtain ⟨⟨⟨g00, g01, g02, -, -, -⟩, ⟨g10, g11, g12, -, -, -⟩, ⟨g20, g21, g22, -, -, -⟩, ⟨g30, g31, g32, -, -, -⟩, ⟨g40, g41, g42, -, -, -⟩, -⟩, -⟩ := hC; go_simp; first | done | (simp; done) | (simp [*]; done) | omega | (simp; omega) | (rw [IntKind.wrap_i64]; omega) | (intro hx; omega) | rfl)
        simp only [Act.put, List.setIfInBounds_toArray, List.set_cons_zero, List.set_cons_succ]
        refine qw_call (v := .int .i64 (csa)) (f := 18) (args := #[.agg #[.int .u64 s0, .int .u64 s1, .int .u64 s2], .agg #[.int .u64 x0, .int .u64 x1, .int .u64 x2]]) (by rfl) ?_ ?_ ?_
        · (intro w1 hC; clear hC; go_simp)
        · exact fun w1 hC => (KSA w1).mono fun e w' ⟨he, hb⟩ => ⟨he, Kcs.below hC hb⟩
        simp only [Act.put, List.setIfInBounds_toArray, List.set_cons_zero, List.set_cons_succ]
        refine qw_run (v := .bool (z2)) (by rfl) ?_ ?_
        · (intro w1 hC; obtain ⟨⟨⟨g00, g01, g02, -, -, -⟩, ⟨g10, g11, g12, -, -, -⟩, ⟨g20, g21, g22, -, -, -⟩, ⟨g30, g31, g32, -, -, -⟩, ⟨g40, g41, g42, -, -, -⟩, -⟩, -⟩ := hC; go_simp; first | done | (simp; done) | (simp [*]; done) | omega | (simp; omega) | (rw [IntKind.wrap_i64]; omega) | (intro hx; omega) | rfl)
        simp only [Act.put, List.setIfInBounds_toArray, List.set_cons_zero, List.set_cons_succ]
        refine qw_run (v := .agg #[.int .u64 y0, .int .u64 y1, .int .u64 y2]) (by rfl) ?_ ?_
        · (intro w1 hC; obtain ⟨⟨⟨g00, g01, g02, -, -, -⟩, ⟨g10, g11, g12, -, -, -⟩, ⟨g20, g21, g22, -, -, -⟩, ⟨g30, g31, g32, -, -, -⟩, ⟨g40, g41, g42, -, -, -⟩, -⟩, -⟩ := hC; go_simp; first | done | (simp; done) | (simp [*]; done) | omega | (simp; omega) | (rw [IntKind.wrap_i64]; omega) | (intro hx; omega) | rfl)
        simp only [Act.put, List.setIfInBounds_toArray, List.set_cons_zero, List.set_cons_succ]
        refine qw_run (v := .agg #[.int .u64 0, .int .u64 0, .int .u64 0]) (by rfl) ?_ ?_
        · (intro w1 hC; obtain ⟨⟨⟨g00, g01, g02, -, -, -⟩, ⟨g10, g11, g12, -, -, -⟩, ⟨g20, g21, g22, -, -, -⟩, ⟨g30, g31, g32, -, -, -⟩, ⟨g40, g41, g42, -, -, -⟩, -⟩, -⟩ := hC; go_simp; first | done | (simp; done) | (simp [*]; done) | omega | (simp; omega) | (rw [IntKind.wrap_i64]; omega) | (intro hx; omega) | rfl)
        simp only [Act.put, List.setIfInBounds_toArray, List.set_cons_zero, List.set_cons_succ]
        refine qw_run (v := .bool (z2)) (by rfl) ?_ ?_
        · (intro w1 hC; obtain ⟨⟨⟨g00, g01, g02, -, -, -⟩, ⟨g10, g11, g12, -, -, -⟩, ⟨g20, g21, g22, -, -, -⟩, ⟨g30, g31, g32, -, -, -⟩, ⟨g40, g41, g42, -, -, -⟩, -⟩, -⟩ := hC; go_simp; first | done | (simp; done) | (simp [*]; done) | omega | (simp; omega) | (rw [IntKind.wrap_i64]; omega) | (intro hx; omega) | rfl)
        simp only [Act.put, List.setIfInBounds_toArray, List.set_cons_zero, List.set_cons_succ]
        refine qw_run (v := .bool false) (by rfl) ?_ ?_
        · (intro w1 hC; obtain ⟨⟨⟨g00, g01, g02, -, -, -⟩, ⟨g10, g11, g12, -, -, -⟩, ⟨g20, g21, g22, -, -, -⟩, ⟨g30, g31, g32, -, -, -⟩, ⟨g40, g41, g42, -, -, -⟩, -⟩, -⟩ := hC; go_simp; first | done | (simp; done) | (simp [*]; done) | omega | (simp; omega) | (rw [IntKind.wrap_i64]; omega) | (intro hx; omega) | rfl)
        simp only [Act.put, List.setIfInBounds_toArray, List.set_cons_zero, List.set_cons_succ]
        refine qw_run (v := .bool false) (by rfl) ?_ ?_
        · (intro w1 hC; obtain ⟨⟨⟨g00, g01, g02, -, -, -⟩, ⟨g10, g11, g12, -, -, -⟩, ⟨g20, g21, g22, -, -, -⟩, ⟨g30, g31, g32, -, -, -⟩, ⟨g40, g41, g42, -, -, -⟩, -⟩, -⟩ := hC; go_simp; first | done | (simp; done) | (simp [*]; done) | omega | (simp; omega) | (rw [IntKind.wrap_i64]; omega) | (intro hx; omega) | rfl)
        simp only [Act.put, List.setIfInBounds_toArray, List.set_cons_zero, List.set_cons_succ]
        refine qw_nil ?_
        intro v5r hC
        have Hr5 := hid9 hC
        clear H4 hC
        obtain ⟨f00, f01, f02, -, -, -⟩ := (Hr5.out.1.2).1
        obtain ⟨f10, f11, f12, -, -, -⟩ := (Hr5.out.1.2.2).1
        go_wp2_with fail
        clear f00 f01 f02 f10 f11 f12
        refine (KU _).mono ?_
        rintro e v6 ⟨rfl, hb⟩
        have H6 := hid9 (Kcs.new (a := 0) (b := 0) (c := 0) Hr5.out hb)
        clear Hr5 hb
        obtain ⟨f00, f01, f02, -, -, -⟩ := (H6.out.1.2.2.2.2).1
        obtain ⟨f10, f11, f12, -, -, -⟩ := (H6.out.1.2.2.2).1
        go_wp2_with fail
        clear f00 f01 f02 f10 f11 f12
        revert H6
        generalize v6.alloc (.cells #[.int .u64 0, .int .u64 0, .int .u64 0] 24) = W6
        generalize v6.heap.size = N6
        intro H6
        refine (KT _).mono ?_
        rintro e v7 ⟨rfl, hb⟩
        have H7 := hid9 (Kcs.new (a := 0) (b := 0) (c := 0) H6.out hb)
        clear H6 hb
        go_wp2
        go_ret
        exact ⟨rfl, H7.out.2⟩
  · have KS := fun w => add_out N M w hN hM c1
    have KS2 := fun w => add_out M N w hM hN (by omega)
    clear c1
    unfold costV at *
    generalize cost0 N = x0 at *
    generalize cost1 N = x1 at *
    generalize cost2 N = x2 at *
    generalize cost0 M = y0 at *
    generalize cost1 M = y1 at *
    generalize cost2 M = y2 at *
    generalize cost0 K = z0' at *
    generalize cost1 K = z1' at *
    generalize cost2 K = z2' at *
    have q3 := eqC_same 0 0 0
    by_cases o1 : N ≤ M
    · by_cases o2 : M ≤ K
      · have d1 : decide (cmpN N M ≤ 0) = true := decide_eq_true (l1.mpr o1)
        have d2 : decide (cmpN M K ≤ 0) = true := decide_eq_true (l2.mpr o2)
        have d3 : decide (0 < cmpN N K) = false := decide_eq_false (by have := l3.mpr (by omega); omega)
        clear l1 l2 l3 hN hM hK o1 o2
        generalize cmpN N M = cab at *
        generalize cmpN M N = cba at *
        generalize cmpN M K = cbc at *
        generalize cmpN N K = cac at *
        have H0 := hid9 (Kcs.three w x0 x1 x2 y0 y1 y2 z0' z1' z2')
        go_enter Try.func6, Try.ntmps6
        go_wp2_with fail
        revert H0
        generalize ((w.alloc (.cells #[.int .u64 x0, .int .u64 x1, .int .u64 x2] 24)).alloc (.cells #[.int .u64 y0, .int .u64 y1, .int .u64 y2] 24)).alloc (.cells #[.int .u64 z0', .int .u64 z1', .int .u64 z2'] 24) = W0
        intro H0
        refine (KK _).mono ?_
        rintro e v1 ⟨rfl, hb⟩
        have H1 := hid9 (Kcs.below H0.out hb)
        clear H0 hb
        obtain ⟨f00, f01, f02, -, -, -⟩ := (H1.out.1.2.2).1
        obtain ⟨f10, f11, f12, -, -, -⟩ := (H1.out.1.2).1
        go_wp2_with fail
        clear f00 f01 f02 f10 f11 f12
        refine (KS _).mono ?_
        rintro e v2 ⟨rfl, hb⟩
        have H2 := hid9 (Kcs.new (a := 0) (b := 0) (c := 0) H1.out hb)
        clear H1 hb
        obtain ⟨f00, f01, f02, -, -, -⟩ := (H2.out.1.2.2.2).1
        obtain ⟨f10, f11, f12, -, -, -⟩ := (H2.out.1.2.2).1
        go_wp2_with fail
        clear f00 f01 f02 f10 f11 f12
        revert H2
        generalize v2.alloc (.cells #[.int .u64 0, .int .u64 0, .int .u64 0] 24) = W2
        generalize v2.heap.size = N2
        intro H2
        refine (KS2 _).mono ?_
        rintro e v3 ⟨rfl, hb⟩
        have H3 := hid9 (Kcs.new (a := 0) (b := 0) (c := 0) H2.out hb)
        clear H2 hb
        go_wp2_with fail
        revert H3
        generalize v3.alloc (.cells #[.int .u64 0, .int .u64 0, .int .u64 0] 24) = W3
        generalize v3.heap.size = N3
        intro H3
        refine qw_region (C := fun W => Kcs w W [(N3, 0, 0, 0), (N2, 0, 0, 0), (w.heap.size + 1 + 1, z0', z1', z2'), (w.heap.size + 1, y0, y1, y2), (w.heap.size, x0, x1, x2)]) (by kernel_rfl) (by kernel_rfl) H3.out.drew ?_
        refine qw_run (v := .int .i64 (6)) (by rfl) ?_ ?_
        · (intro w1 hC; obtain ⟨⟨⟨g00, g01, g02, -, -, -⟩, ⟨g10, g11, g12, -, -, -⟩, ⟨g20, g21, g22, -, -, -⟩, ⟨g30, g31, g32, -, -, -⟩, ⟨g40, g41, g42, -, -, -⟩, -⟩, -⟩ := hC; go_simp; first | done | (simp; done) | (simp [*]; done) | omega | (simp; omega) | (rw [IntKind.wrap_i64]; omega) | (intro hx; omega) | rfl)
        simp only [Act.put, List.setIfInBounds_toArray, List.set_cons_zero, List.set_cons_succ]
        refine qw_run (v := .int .i64 (6)) (by rfl) ?_ ?_
        · (intro w1 hC; obtain ⟨⟨⟨g00, g01, g02, -, -, -⟩, ⟨g10, g11, g12, -, -, -⟩, ⟨g20, g21, g22, -, -, -⟩, ⟨g30, g31, g32, -, -, -⟩, ⟨g40, g41, g42, -, -, -⟩, -⟩, -⟩ := hC; go_simp; first | done | (simp; done) | (simp [*]; done) | omega | (simp; omega) | (rw [IntKind.wrap_i64]; omega) | (intro hx; omega) | rfl)
        simp only [Act.put, List.setIfInBounds_toArray, List.set_cons_zero, List.set_cons_succ]
        refine qw_run (v := .bool false) (by rfl) ?_ ?_
        · (intro w1 hC; obtain ⟨⟨⟨g00, g01, g02, -, -, -⟩, ⟨g10, g11, g12, -, -, -⟩, ⟨g20, g21, g22, -, -, -⟩, ⟨g30, g31, g32, -, -, -⟩, ⟨g40, g41, g42, -, -, -⟩, -⟩, -⟩ := hC; go_simp; first | done | (simp; done) | (simp [*]; done) | omega | (simp; omega) | (rw [IntKind.wrap_i64]; omega) | (intro hx; omega) | rfl)
        simp only [Act.put, List.setIfInBounds_toArray, List.set_cons_zero, List.set_cons_succ]
        refine qw_run (v := .bool false) (by rfl) ?_ ?_
        · (intro w1 hC; obtain ⟨⟨⟨g00, g01, g02, -, -, -⟩, ⟨g10, g11, g12, -, -, -⟩, ⟨g20, g21, g22, -, -, -⟩, ⟨g30, g31, g32, -, -, -⟩, ⟨g40, g41, g42, -, -, -⟩, -⟩, -⟩ := hC; go_simp; first | done | (simp; done) | (simp [*]; done) | omega | (simp; omega) | (rw [IntKind.wrap_i64]; omega) | (intro hx; omega) | rfl)
        simp only [Act.put, List.setIfInBounds_toArray, List.set_cons_zero, List.set_cons_succ]
        refine qw_run (v := .agg #[.int .u64 0, .int .u64 0, .int .u64 0]) (by rfl) ?_ ?_
        · (intro w1 hC; obtain ⟨⟨⟨g00, g01, g02, -, -, -⟩, ⟨g10, g11, g12, -, -, -⟩, ⟨g20, g21, g22, -, -, -⟩, ⟨g30, g31, g32, -, -, -⟩, ⟨g40, g41, g42, -, -, -⟩, -⟩, -⟩ := hC; go_simp; first | done | (simp; done) | (simp [*]; done) | omega | (simp; omega) | (rw [IntKind.wrap_i64]; omega) | (intro hx; omega) | rfl)
        simp only [Act.put, List.setIfInBounds_toArray, List.set_cons_zero, List.set_cons_succ]
        refine qw_run (v := .agg #[.int .u64 0, .int .u64 0, .int .u64 0]) (by rfl) ?_ ?_
        · (intro w1 hC; obtain ⟨⟨⟨g00, g01, g02, -, -, -⟩, ⟨g10, g11, g12, -, -, -⟩, ⟨g20, g21, g22, -, -, -⟩, ⟨g30, g31, g32, -, -, -⟩, ⟨g40, g41, g42, -, -, -⟩, -⟩, -⟩ := hC; go_simp; first | done | (simp; done) | (simp [*]; done) | omega | (simp; omega) | (rw [IntKind.wrap_i64]; omega) | (intro hx; omega) | rfl)
        simp only [Act.put, List.setIfInBounds_toArray, List.set_cons_zero, List.set_cons_succ]
        refine qw_run (v := .bool false) (by rfl) ?_ ?_
        · (intro w1 hC; obtain ⟨⟨⟨g00, g01, g02, -, -, -⟩, ⟨g10, g11, g12, -, -, -⟩, ⟨g20, g21, g22, -, -, -⟩, ⟨g30, g31, g32, -, -, -⟩, ⟨g40, g41, g42, -, -, -⟩, -⟩, -⟩ := hC; go_simp; first | done | (simp; done) | (simp [*]; done) | omega | (simp; omega) | (rw [IntKind.wrap_i64]; omega) | (intro hx; omega) | rfl)
        simp only [Act.put, List.setIfInBounds_toArray, List.set_cons_zero, List.set_cons_succ]
        refine qw_run (v := .bool false) (by rfl) ?_ ?_
        · (intro w1 hC; obtain ⟨⟨⟨g00, g01, g02, -, -, -⟩, ⟨g10, g11, g12, -, -, -⟩, ⟨g20, g21, g22, -, -, -⟩, ⟨g30, g31, g32, -, -, -⟩, ⟨g40, g41, g42, -, -, -⟩, -⟩, -⟩ := hC; go_simp; first | done | (simp; done) | (simp [*]; done) | omega | (simp; omega) | (rw [IntKind.wrap_i64]; omega) | (intro hx; omega) | rfl)
        simp only [Act.put, List.setIfInBounds_toArray, List.set_cons_zero, List.set_cons_succ]
        refine qw_run (v := .bool false) (by rfl) ?_ ?_
        · (intro w1 hC; obtain ⟨⟨⟨g00, g01, g02, -, -, -⟩, ⟨g10, g11, g12, -, -, -⟩, ⟨g20, g21, g22, -, -, -⟩, ⟨g30, g31, g32, -, -, -⟩, ⟨g40, g41, g42, -, -, -⟩, -⟩, -⟩ := hC; go_simp; first | done | (simp; done) | (simp [*]; done) | omega | (simp; omega) | (rw [IntKind.wrap_i64]; omega) | (intro hx; omega) | rfl)
        simp only [Act.put, List.setIfInBounds_toArray, List.set_cons_zero, List.set_cons_succ]
        refine qw_run (v := .agg #[.int .u64 x0, .int .u64 x1, .int .u64 x2]) (by rfl) ?_ ?_
        · (intro w1 hC; obtain ⟨⟨⟨g00, g01, g02, -, -, -⟩, ⟨g10, g11, g12, -, -, -⟩, ⟨g20, g21, g22, -, -, -⟩, ⟨g30, g31, g32, -, -, -⟩, ⟨g40, g41, g42, -, -, -⟩, -⟩, -⟩ := hC; go_simp; first | done | (simp; done) | (simp [*]; done) | omega | (simp; omega) | (rw [IntKind.wrap_i64]; omega) | (intro hx; omega) | rfl)
        simp only [Act.put, List.setIfInBounds_toArray, List.set_cons_zero, List.set_cons_succ]
        refine qw_run (v := .agg #[.int .u64 y0, .int .u64 y1, .int .u64 y2]) (by rfl) ?_ ?_
        · (intro w1 hC; obtain ⟨⟨⟨g00, g01, g02, -, -, -⟩, ⟨g10, g11, g12, -, -, -⟩, ⟨g20, g21, g22, -, -, -⟩, ⟨g30, g31, g32, -, -, -⟩, ⟨g40, g41, g42, -, -, -⟩, -⟩, -⟩ := hC; go_simp; first | done | (simp; done) | (simp [*]; done) | omega | (simp; omega) | (rw [IntKind.wrap_i64]; omega) | (intro hx; omega) | rfl)
        simp only [Act.put, List.setIfInBounds_toArray, List.set_cons_zero, List.set_cons_succ]
        refine qw_call (v := .int .i64 (cab)) (f := 18) (args := #[.agg #[.int .u64 x0, .int .u64 x1, .int .u64 x2], .agg #[.int .u64 y0, .int .u64 y1, .int .u64 y2]]) (by rfl) ?_ ?_ ?_
        · (intro w1 hC; clear hC; go_simp)
        · exact fun w1 hC => (KAB w1).mono fun e w' ⟨he, hb⟩ => ⟨he, Kcs.below hC hb⟩
        simp only [Act.put, List.setIfInBounds_toArray, List.set_cons_zero, List.set_cons_succ]
        refine qw_run (v := .agg #[.int .u64 y0, .int .u64 y1, .int .u64 y2]) (by rfl) ?_ ?_
        · (intro w1 hC; obtain ⟨⟨⟨g00, g01, g02, -, -, -⟩, ⟨g10, g11, g12, -, -, -⟩, ⟨g20, g21, g22, -, -, -⟩, ⟨g30, g31, g32, -, -, -⟩, ⟨g40, g41, g42, -, -, -⟩, -⟩, -⟩ := hC; go_simp; first | done | (simp; done) | (simp [*]; done) | omega | (simp; omega) | (rw [IntKind.wrap_i64]; omega) | (intro hx; omega) | rfl)
        simp only [Act.put, List.setIfInBounds_toArray, List.set_cons_zero, List.set_cons_succ]
        refine qw_run (v := .agg #[.int .u64 x0, .int .u64 x1, .int .u64 x2]) (by rfl) ?_ ?_
        · (intro w1 hC; obtain ⟨⟨⟨g00, g01, g02, -, -, -⟩, ⟨g10, g11, g12, -, -, -⟩, ⟨g20, g21, g22, -, -, -⟩, ⟨g30, g31, g32, -, -, -⟩, ⟨g40, g41, g42, -, -, -⟩, -⟩, -⟩ := hC; go_simp; first | done | (simp; done) | (simp [*]; done) | omega | (simp; omega) | (rw [IntKind.wrap_i64]; omega) | (intro hx; omega) | rfl)
        simp only [Act.put, List.setIfInBounds_toArray, List.set_cons_zero, List.set_cons_succ]
        refine qw_call (v := .int .i64 (cba)) (f := 18) (args := #[.agg #[.int .u64 y0, .int .u64 y1, .int .u64 y2], .agg #[.int .u64 x0, .int .u64 x1, .int .u64 x2]]) (by rfl) ?_ ?_ ?_
        · (intro w1 hC; clear hC; go_simp)
        · exact fun w1 hC => (KBA w1).mono fun e w' ⟨he, hb⟩ => ⟨he, Kcs.below hC hb⟩
        simp only [Act.put, List.setIfInBounds_toArray, List.set_cons_zero, List.set_cons_succ]
        refine qw_run (v := .int .i64 (cab)) (by rfl) ?_ ?_
        · (intro w1 hC; obtain ⟨⟨⟨g00, g01, g02, -, -, -⟩, ⟨g10, g11, g12, -, -, -⟩, ⟨g20, g21, g22, -, -, -⟩, ⟨g30, g31, g32, -, -, -⟩, ⟨g40, g41, g42, -, -, -⟩, -⟩, -⟩ := hC; go_simp; first | done | (simp; done) | (simp [*]; done) | omega | (simp; omega) | (rw [IntKind.wrap_i64]; omega) | (intro hx; omega) | rfl)
        simp only [Act.put, List.setIfInBounds_toArray, List.set_cons_zero, List.set_cons_succ]
        refine qw_run (v := .bool false) (by rfl) ?_ ?_
        · (intro w1 hC; obtain ⟨⟨⟨g00, g01, g02, -, -, -⟩, ⟨g10, g11, g12, -, -, -⟩, ⟨g20, g21, g22, -, -, -⟩, ⟨g30, g31, g32, -, -, -⟩, ⟨g40, g41, g42, -, -, -⟩, -⟩, -⟩ := hC; go_simp; first | done | (simp; done) | (simp [*]; done) | omega | (simp; omega) | (rw [IntKind.wrap_i64]; omega) | (intro hx; omega) | rfl)
        simp only [Act.put, List.setIfInBounds_toArray, List.set_cons_zero, List.set_cons_succ]
        refine qw_run (v := .bool false) (by rfl) ?_ ?_
        · (intro w1 hC; obtain ⟨⟨⟨g00, g01, g02, -, -, -⟩, ⟨g10, g11, g12, -, -, -⟩, ⟨g20, g21, g22, -, -, -⟩, ⟨g30, g31, g32, -, -, -⟩, ⟨g40, g41, g42, -, -, -⟩, -⟩, -⟩ := hC; go_simp; first | done | (simp; done) | (simp [*]; done) | omega | (simp; omega) | (rw [IntKind.wrap_i64]; omega) | (intro hx; omega) | rfl)
        simp only [Act.put, List.setIfInBounds_toArray, List.set_cons_zero, List.set_cons_succ]
        refine qw_run (v := .bool false) (by rfl) ?_ ?_
        · (intro w1 hC; obtain ⟨⟨⟨g00, g01, g02, -, -, -⟩, ⟨g10, g11, g12, -, -, -⟩, ⟨g20, g21, g22, -, -, -⟩, ⟨g30, g31, g32, -, -, -⟩, ⟨g40, g41, g42, -, -, -⟩, -⟩, -⟩ := hC; go_simp; first | done | (simp; done) | (simp [*]; done) | omega | (simp; omega) | (rw [IntKind.wrap_i64]; omega) | (intro hx; omega) | rfl)
        simp only [Act.put, List.setIfInBounds_toArray, List.set_cons_zero, List.set_cons_succ]
        refine qw_run (v := .agg #[.int .u64 x0, .int .u64 x1, .int .u64 x2]) (by rfl) ?_ ?_
        · (intro w1 hC; obtain ⟨⟨⟨g00, g01, g02, -, -, -⟩, ⟨g10, g11, g12, -, -, -⟩, ⟨g20, g21, g22, -, -, -⟩, ⟨g30, g31, g32, -, -, -⟩, ⟨g40, g41, g42, -, -, -⟩, -⟩, -⟩ := hC; go_simp; first | done | (simp; done) | (simp [*]; done) | omega | (simp; omega) | (rw [IntKind.wrap_i64]; omega) | (intro hx; omega) | rfl)
        simp only [Act.put, List.setIfInBounds_toArray, List.set_cons_zero, List.set_cons_succ]
        refine qw_run (v := .agg #[.int .u64 y0, .int .u64 y1, .int .u64 y2]) (by rfl) ?_ ?_
        · (intro w1 hC; obtain ⟨⟨⟨g00, g01, g02, -, -, -⟩, ⟨g10, g11, g12, -, -, -⟩, ⟨g20, g21, g22, -, -, -⟩, ⟨g30, g31, g32, -, -, -⟩, ⟨g40, g41, g42, -, -, -⟩, -⟩, -⟩ := hC; go_simp; first | done | (simp; done) | (simp [*]; done) | omega | (simp; omega) | (rw [IntKind.wrap_i64]; omega) | (intro hx; omega) | rfl)
        simp only [Act.put, List.setIfInBounds_toArray, List.set_cons_zero, List.set_cons_succ]
        refine qw_call (v := .int .i64 (cab)) (f := 18) (args := #[.agg #[.int .u64 x0, .int .u64 x1, .int .u64 x2], .agg #[.int .u64 y0, .int .u64 y1, .int .u64 y2]]) (by rfl) ?_ ?_ ?_
        · (intro w1 hC; clear hC; go_simp)
        · exact fun w1 hC => (KAB w1).mono fun e w' ⟨he, hb⟩ => ⟨he, Kcs.below hC hb⟩
        simp only [Act.put, List.setIfInBounds_toArray, List.set_cons_zero, List.set_cons_succ]
        refine qw_run (v := .bool (z1)) (by rfl) ?_ ?_
        · (intro w1 hC; obtain ⟨⟨⟨g00, g01, g02, -, -, -⟩, ⟨g10, g11, g12, -, -, -⟩, ⟨g20, g21, g22, -, -, -⟩, ⟨g30, g31, g32, -, -, -⟩, ⟨g40, g41, g42, -, -, -⟩, -⟩, -⟩ := hC; go_simp; first | done | (simp; done) | (simp [*]; done) | omega | (simp; omega) | (rw [IntKind.wrap_i64]; omega) | (intro hx; omega) | rfl)
        simp only [Act.put, List.setIfInBounds_toArray, List.set_cons_zero, List.set_cons_succ]
        refine qw_run (v := .agg #[.int .u64 x0, .int .u64 x1, .int .u64 x2]) (by rfl) ?_ ?_
        · (intro w1 hC; obtain ⟨⟨⟨g00, g01, g02, -, -, -⟩, ⟨g10, g11, g12, -, -, -⟩, ⟨g20, g21, g22, -, -, -⟩, ⟨g30, g31, g32, -, -, -⟩, ⟨g40, g41, g42, -, -, -⟩, -⟩, -⟩ := hC; go_simp; first | done | (simp; done) | (simp [*]; done) | omega | (simp; omega) | (rw [IntKind.wrap_i64]; omega) | (intro hx; omega) | rfl)
        simp only [Act.put, List.setIfInBounds_toArray, List.set_cons_zero, List.set_cons_succ]
        refine qw_run (v := .agg #[.int .u64 y0, .int .u64 y1, .int .u64 y2]) (by rfl) ?_ ?_
        · (intro w1 hC; obtain ⟨⟨⟨g00, g01, g02, -, -, -⟩, ⟨g10, g11, g12, -, -, -⟩, ⟨g20, g21, g22, -, -, -⟩, ⟨g30, g31, g32, -, -, -⟩, ⟨g40, g41, g42, -, -, -⟩, -⟩, -⟩ := hC; go_simp; first | done | (simp; done) | (simp [*]; done) | omega | (simp; omega) | (rw [IntKind.wrap_i64]; omega) | (intro hx; omega) | rfl)
        simp only [Act.put, List.setIfInBounds_toArray, List.set_cons_zero, List.set_cons_succ]
        refine qw_run (v := .bool (z1)) (by rfl) ?_ ?_
        · (intro w1 hC; obtain ⟨⟨⟨g00, g01, g02, -, -, -⟩, ⟨g10, g11, g12, -, -, -⟩, ⟨g20, g21, g22, -, -, -⟩, ⟨g30, g31, g32, -, -, -⟩, ⟨g40, g41, g42, -, -, -⟩, -⟩, -⟩ := hC; go_simp; first | done | (simp; done) | (simp [*]; done) | omega | (simp; omega) | (rw [IntKind.wrap_i64]; omega) | (intro hx; omega) | rfl)
        simp only [Act.put, List.setIfInBounds_toArray, List.set_cons_zero, List.set_cons_succ]
        refine qw_run (v := .bool false) (by rfl) ?_ ?_
        · (intro w1 hC; obtain ⟨⟨⟨g00, g01, g02, -, -, -⟩, ⟨g10, g11, g12, -, -, -⟩, ⟨g20, g21, g22, -, -, -⟩, ⟨g30, g31, g32, -, -, -⟩, ⟨g40, g41, g42, -, -, -⟩, -⟩, -⟩ := hC; go_simp; first | done | (simp; done) | (simp [*]; done) | omega | (simp; omega) | (rw [IntKind.wrap_i64]; omega) | (intro hx; omega) | rfl)
        simp only [Act.put, List.setIfInBounds_toArray, List.set_cons_zero, List.set_cons_succ]
        refine qw_run (v := .bool false) (by rfl) ?_ ?_
        · (intro w1 hC; obtain ⟨⟨⟨g00, g01, g02, -, -, -⟩, ⟨g10, g11, g12, -, -, -⟩, ⟨g20, g21, g22, -, -, -⟩, ⟨g30, g31, g32, -, -, -⟩, ⟨g40, g41, g42, -, -, -⟩, -⟩, -⟩ := hC; go_simp; first | done | (simp; done) | (simp [*]; done) | omega | (simp; omega) | (rw [IntKind.wrap_i64]; omega) | (intro hx; omega) | rfl)
        simp only [Act.put, List.setIfInBounds_toArray, List.set_cons_zero, List.set_cons_succ]
        refine qw_nil ?_
        intro v3r hC
        have Hr3 := hid9 hC
        clear H3 hC
        obtain ⟨f00, f01, f02, -, -, -⟩ := (Hr3.out.1.2.2.2.2).1
        obtain ⟨f10, f11, f12, -, -, -⟩ := (Hr3.out.1.2.2.2).1
        go_wp2_with fail
        clear f00 f01 f02 f10 f11 f12
        refine (KAB _).mono ?_
        rintro e v4 ⟨rfl, hb⟩
        have H4 := hid9 (Kcs.below Hr3.out hb)
        clear Hr3 hb
        obtain ⟨f00, f01, f02, -, -, -⟩ := (H4.out.1.2.2.2).1
        obtain ⟨f10, f11, f12, -, -, -⟩ := (H4.out.1.2.2).1
        go_wp2_with fail
        clear f00 f01 f02 f10 f11 f12
        refine (KBC _).mono ?_
        rintro e v5 ⟨rfl, hb⟩
        have H5 := hid9 (Kcs.below H4.out hb)
        clear H4 hb
        obtain ⟨f00, f01, f02, -, -, -⟩ := (H5.out.1.2.2.2.2).1
        obtain ⟨f10, f11, f12, -, -, -⟩ := (H5.out.1.2.2).1
        go_wp2_with fail
        clear f00 f01 f02 f10 f11 f12
        refine (KAC _).mono ?_
        rintro e v6 ⟨rfl, hb⟩
        have H6 := hid9 (Kcs.below H5.out hb)
        clear H5 hb
        obtain ⟨f00, f01, f02, -, -, -⟩ := (H6.out.1.2).1
        go_wp2
        go_ret
        exact ⟨rfl, H6.out.2⟩
      · have d1 : decide (cmpN N M ≤ 0) = true := decide_eq_true (l1.mpr o1)
        have d2 : decide (cmpN M K ≤ 0) = false := decide_eq_false (fun h => o2 (l2.mp h))
        clear l1 l2 l3 hN hM hK o1 o2
        generalize cmpN N M = cab at *
        generalize cmpN M N = cba at *
        generalize cmpN M K = cbc at *
        generalize cmpN N K = cac at *
        have H0 := hid9 (Kcs.three w x0 x1 x2 y0 y1 y2 z0' z1' z2')
        go_enter Try.func6, Try.ntmps6
        go_wp2_with fail
        revert H0
        generalize ((w.alloc (.cells #[.int .u64 x0, .int .u64 x1, .int .u64 x2] 24)).alloc (.cells #[.int .u64 y0, .int .u64 y1, .int .u64 y2] 24)).alloc (.cells #[.int .u64 z0', .int .u64 z1', .int .u64 z2'] 24) = W0
        intro H0
        refine (KK _).mono ?_
        rintro e v1 ⟨rfl, hb⟩
        have H1 := hid9 (Kcs.below H0.out hb)
        clear H0 hb
        obtain ⟨f00, f01, f02, -, -, -⟩ := (H1.out.1.2.2).1
        obtain ⟨f10, f11, f12, -, -, -⟩ := (H1.out.1.2).1
        go_wp2_with fail
        clear f00 f01 f02 f10 f11 f12
        refine (KS _).mono ?_
        rintro e v2 ⟨rfl, hb⟩
        have H2 := hid9 (Kcs.new (a := 0) (b := 0) (c := 0) H1.out hb)
        clear H1 hb
        obtain ⟨f00, f01, f02, -, -, -⟩ := (H2.out.1.2.2.2).1
        obtain ⟨f10, f11, f12, -, -, -⟩ := (H2.out.1.2.2).1
        go_wp2_with fail
        clear f00 f01 f02 f10 f11 f12
        revert H2
        generalize v2.alloc (.cells #[.int .u64 0, .int .u64 0, .int .u64 0] 24) = W2
        generalize v2.heap.size = N2
        intro H2
        refine (KS2 _).mono ?_
        rintro e v3 ⟨rfl, hb⟩
        have H3 := hid9 (Kcs.new (a := 0) (b := 0) (c := 0) H2.out hb)
        clear H2 hb
        go_wp2_with fail
        revert H3
        generalize v3.alloc (.cells #[.int .u64 0, .int .u64 0, .int .u64 0] 24) = W3
        generalize v3.heap.size = N3
        intro H3
        refine qw_region (C := fun W => Kcs w W [(N3, 0, 0, 0), (N2, 0, 0, 0), (w.heap.size + 1 + 1, z0', z1', z2'), (w.heap.size + 1, y0, y1, y2), (w.heap.size, x0, x1, x2)]) (by kernel_rfl) (by kernel_rfl) H3.out.drew ?_
        refine qw_run (v := .int .i64 (6)) (by rfl) ?_ ?_
        · (intro w1 hC; obtain ⟨⟨⟨g00, g01, g02, -, -, -⟩, ⟨g10, g11, g12, -, -, -⟩, ⟨g20, g21, g22, -, -, -⟩, ⟨g30, g31, g32, -, -, -⟩, ⟨g40, g41, g42, -, -, -⟩, -⟩, -⟩ := hC; go_simp; first | done | (simp; done) | (simp [*]; done) | omega | (simp; omega) | (rw [IntKind.wrap_i64]; omega) | (intro hx; omega) | rfl)
        simp only [Act.put, List.setIfInBounds_toArray, List.set_cons_zero, List.set_cons_succ]
        refine qw_run (v := .int .i64 (6)) (by rfl) ?_ ?_
        · (intro w1 hC; obtain ⟨⟨⟨g00, g01, g02, -, -, -⟩, ⟨g10, g11, g12, -, -, -⟩, ⟨g20, g21, g22, -, -, -⟩, ⟨g30, g31, g32, -, -, -⟩, ⟨g40, g41, g42, -, -, -⟩, -⟩, -⟩ := hC; go_simp; first | done | (simp; done) | (simp [*]; done) | omega | (simp; omega) | (rw [IntKind.wrap_i64]; omega) | (intro hx; omega) | rfl)
        simp only [Act.put, List.setIfInBounds_toArray, List.set_cons_zero, List.set_cons_succ]
        refine qw_run (v := .bool false) (by rfl) ?_ ?_
        · (intro w1 hC; obtain ⟨⟨⟨g00, g01, g02, -, -, -⟩, ⟨g10, g11, g12, -, -, -⟩, ⟨g20, g21, g22, -, -, -⟩, ⟨g30, g31, g32, -, -, -⟩, ⟨g40, g41, g42, -, -, -⟩, -⟩, -⟩ := hC; go_simp; first | done | (simp; done) | (simp [*]; done) | omega | (simp; omega) | (rw [IntKind.wrap_i64]; omega) | (intro hx; omega) | rfl)
        simp only [Act.put, List.setIfInBounds_toArray, List.set_cons_zero, List.set_cons_succ]
        refine qw_run (v := .bool false) (by rfl) ?_ ?_
        · (intro w1 hC; obtain ⟨⟨⟨g00, g01, g02, -, -, -⟩, ⟨g10, g11, g12, -, -, -⟩, ⟨g20, g21, g22, -, -, -⟩, ⟨g30, g31, g32, -, -, -⟩, ⟨g40, g41, g42, -, -, -⟩, -⟩, -⟩ := hC; go_simp; first | done | (simp; done) | (simp [*]; done) | omega | (simp; omega) | (rw [IntKind.wrap_i64]; omega) | (intro hx; omega) | rfl)
        simp only [Act.put, List.setIfInBounds_toArray, List.set_cons_zero, List.set_cons_succ]
        refine qw_run (v := .agg #[.int .u64 0, .int .u64 0, .int .u64 0]) (by rfl) ?_ ?_
        · (intro w1 hC; obtain ⟨⟨⟨g00, g01, g02, -, -, -⟩, ⟨g10, g11, g12, -, -, -⟩, ⟨g20, g21, g22, -, -, -⟩, ⟨g30, g31, g32, -, -, -⟩, ⟨g40, g41, g42, -, -, -⟩, -⟩, -⟩ := hC; go_simp; first | done | (simp; done) | (simp [*]; done) | omega | (simp; omega) | (rw [IntKind.wrap_i64]; omega) | (intro hx; omega) | rfl)
        simp only [Act.put, List.setIfInBounds_toArray, List.set_cons_zero, List.set_cons_succ]
        refine qw_run (v := .agg #[.int .u64 0, .int .u64 0, .int .u64 0]) (by rfl) ?_ ?_
        · (intro w1 hC; obtain ⟨⟨⟨g00, g01, g02, -, -, -⟩, ⟨g10, g11, g12, -, -, -⟩, ⟨g20, g21, g22, -, -, -⟩, ⟨g30, g31, g32, -, -, -⟩, ⟨g40, g41, g42, -, -, -⟩, -⟩, -⟩ := hC; go_simp; first | done | (simp; done) | (simp [*]; done) | omega | (simp; omega) | (rw [IntKind.wrap_i64]; omega) | (intro hx; omega) | rfl)
        simp only [Act.put, List.setIfInBounds_toArray, List.set_cons_zero, List.set_cons_succ]
        refine qw_run (v := .bool false) (by rfl) ?_ ?_
        · (intro w1 hC; obtain ⟨⟨⟨g00, g01, g02, -, -, -⟩, ⟨g10, g11, g12, -, -, -⟩, ⟨g20, g21, g22, -, -, -⟩, ⟨g30, g31, g32, -, -, -⟩, ⟨g40, g41, g42, -, -, -⟩, -⟩, -⟩ := hC; go_simp; first | done | (simp; done) | (simp [*]; done) | omega | (simp; omega) | (rw [IntKind.wrap_i64]; omega) | (intro hx; omega) | rfl)
        simp only [Act.put, List.setIfInBounds_toArray, List.set_cons_zero, List.set_cons_succ]
        refine qw_run (v := .bool false) (by rfl) ?_ ?_
        · (intro w1 hC; obtain ⟨⟨⟨g00, g01, g02, -, -, -⟩, ⟨g10, g11, g12, -, -, -⟩, ⟨g20, g21, g22, -, -, -⟩, ⟨g30, g31, g32, -, -, -⟩, ⟨g40, g41, g42, -, -, -⟩, -⟩, -⟩ := hC; go_simp; first | done | (simp; done) | (simp [*]; done) | omega | (simp; omega) | (rw [IntKind.wrap_i64]; omega) | (intro hx; omega) | rfl)
        simp only [Act.put, List.setIfInBounds_toArray, List.set_cons_zero, List.set_cons_succ]
        refine qw_run (v := .bool false) (by rfl) ?_ ?_
        · (intro w1 hC; obtain ⟨⟨⟨g00, g01, g02, -, -, -⟩, ⟨g10, g11, g12, -, -, -⟩, ⟨g20, g21, g22, -, -, -⟩, ⟨g30, g31, g32, -, -, -⟩, ⟨g40, g41, g42, -, -, -⟩, -⟩, -⟩ := hC; go_simp; first | done | (simp; done) | (simp [*]; done) | omega | (simp; omega) | (rw [IntKind.wrap_i64]; omega) | (intro hx; omega) | rfl)
        simp only [Act.put, List.setIfInBounds_toArray, List.set_cons_zero, List.set_cons_succ]
        refine qw_run (v := .agg #[.int .u64 x0, .int .u64 x1, .int .u64 x2]) (by rfl) ?_ ?_
        · (intro w1 hC; obtain ⟨⟨⟨g00, g01, g02, -, -, -⟩, ⟨g10, g11, g12, -, -, -⟩, ⟨g20, g21, g22, -, -, -⟩, ⟨g30, g31, g32, -, -, -⟩, ⟨g40, g41, g42, -, -, -⟩, -⟩, -⟩ := hC; go_simp; first | done | (simp; done) | (simp [*]; done) | omega | (simp; omega) | (rw [IntKind.wrap_i64]; omega) | (intro hx; omega) | rfl)
        simp only [Act.put, List.setIfInBounds_toArray, List.set_cons_zero, List.set_cons_succ]
        refine qw_run (v := .agg #[.int .u64 y0, .int .u64 y1, .int .u64 y2]) (by rfl) ?_ ?_
        · (intro w1 hC; obtain ⟨⟨⟨g00, g01, g02, -, -, -⟩, ⟨g10, g11, g12, -, -, -⟩, ⟨g20, g21, g22, -, -, -⟩, ⟨g30, g31, g32, -, -, -⟩, ⟨g40, g41, g42, -, -, -⟩, -⟩, -⟩ := hC; go_simp; first | done | (simp; done) | (simp [*]; done) | omega | (simp; omega) | (rw [IntKind.wrap_i64]; omega) | (intro hx; omega) | rfl)
        simp only [Act.put, List.setIfInBounds_toArray, List.set_cons_zero, List.set_cons_succ]
        refine qw_call (v := .int .i64 (cab)) (f := 18) (args := #[.agg #[.int .u64 x0, .int .u64 x1, .int .u64 x2], .agg #[.int .u64 y0, .int .u64 y1, .int .u64 y2]]) (by rfl) ?_ ?_ ?_
        · (intro w1 hC; clear hC; go_simp)
        · exact fun w1 hC => (KAB w1).mono fun e w' ⟨he, hb⟩ => ⟨he, Kcs.below hC hb⟩
        simp only [Act.put, List.setIfInBounds_toArray, List.set_cons_zero, List.set_cons_succ]
        refine qw_run (v := .agg #[.int .u64 y0, .int .u64 y1, .int .u64 y2]) (by rfl) ?_ ?_
        · (intro w1 hC; obtain ⟨⟨⟨g00, g01, g02, -, -, -⟩, ⟨g10, g11, g12, -, -, -⟩, ⟨g20, g21, g22, -, -, -⟩, ⟨g30, g31, g32, -, -, -⟩, ⟨g40, g41, g42, -, -, -⟩, -⟩, -⟩ := hC; go_simp; first | done | (simp; done) | (simp [*]; done) | omega | (simp; omega) | (rw [IntKind.wrap_i64]; omega) | (intro hx; omega) | rfl)
        simp only [Act.put, List.setIfInBounds_toArray, List.set_cons_zero, List.set_cons_succ]
        refine qw_run (v := .agg #[.int .u64 x0, .int .u64 x1, .int .u64 x2]) (by rfl) ?_ ?_
        · (intro w1 hC; obtain ⟨⟨⟨g00, g01, g02, -, -, -⟩, ⟨g10, g11, g12, -, -, -⟩, ⟨g20, g21, g22, -, -, -⟩, ⟨g30, g31, g32, -, -, -⟩, ⟨g40, g41, g42, -, -, -⟩, -⟩, -⟩ := hC; go_simp; first | done | (simp; done) | (simp [*]; done) | omega | (simp; omega) | (rw [IntKind.wrap_i64]; omega) | (intro hx; omega) | rfl)
        simp only [Act.put, List.setIfInBounds_toArray, List.set_cons_zero, List.set_cons_succ]
        refine qw_call (v := .int .i64 (cba)) (f := 18) (args := #[.agg #[.int .u64 y0, .int .u64 y1, .int .u64 y2], .agg #[.int .u64 x0, .int .u64 x1, .int .u64 x2]]) (by rfl) ?_ ?_ ?_
        · (intro w1 hC; clear hC; go_simp)
        · exact fun w1 hC => (KBA w1).mono fun e w' ⟨he, hb⟩ => ⟨he, Kcs.below hC hb⟩
        simp only [Act.put, List.setIfInBounds_toArray, List.set_cons_zero, List.set_cons_succ]
        refine qw_run (v := .int .i64 (cab)) (by rfl) ?_ ?_
        · (intro w1 hC; obtain ⟨⟨⟨g00, g01, g02, -, -, -⟩, ⟨g10, g11, g12, -, -, -⟩, ⟨g20, g21, g22, -, -, -⟩, ⟨g30, g31, g32, -, -, -⟩, ⟨g40, g41, g42, -, -, -⟩, -⟩, -⟩ := hC; go_simp; first | done | (simp; done) | (simp [*]; done) | omega | (simp; omega) | (rw [IntKind.wrap_i64]; omega) | (intro hx; omega) | rfl)
        simp only [Act.put, List.setIfInBounds_toArray, List.set_cons_zero, List.set_cons_succ]
        refine qw_run (v := .bool false) (by rfl) ?_ ?_
        · (intro w1 hC; obtain ⟨⟨⟨g00, g01, g02, -, -, -⟩, ⟨g10, g11, g12, -, -, -⟩, ⟨g20, g21, g22, -, -, -⟩, ⟨g30, g31, g32, -, -, -⟩, ⟨g40, g41, g42, -, -, -⟩, -⟩, -⟩ := hC; go_simp; first | done | (simp; done) | (simp [*]; done) | omega | (simp; omega) | (rw [IntKind.wrap_i64]; omega) | (intro hx; omega) | rfl)
        simp only [Act.put, List.setIfInBounds_toArray, List.set_cons_zero, List.set_cons_succ]
        refine qw_run (v := .bool false) (by rfl) ?_ ?_
        · (intro w1 hC; obtain ⟨⟨⟨g00, g01, g02, -, -, -⟩, ⟨g10, g11, g12, -, -, -⟩, ⟨g20, g21, g22, -, -, -⟩, ⟨g30, g31, g32, -, -, -⟩, ⟨g40, g41, g42, -, -, -⟩, -⟩, -⟩ := hC; go_simp; first | done | (simp; done) | (simp [*]; done) | omega | (simp; omega) | (rw [IntKind.wrap_i64]; omega) | (intro hx; omega) | rfl)
        simp only [Act.put, List.setIfInBounds_toArray, List.set_cons_zero, List.set_cons_succ]
        refine qw_run (v := .bool false) (by rfl) ?_ ?_
        · (intro w1 hC; obtain ⟨⟨⟨g00, g01, g02, -, -, -⟩, ⟨g10, g11, g12, -, -, -⟩, ⟨g20, g21, g22, -, -, -⟩, ⟨g30, g31, g32, -, -, -⟩, ⟨g40, g41, g42, -, -, -⟩, -⟩, -⟩ := hC; go_simp; first | done | (simp; done) | (simp [*]; done) | omega | (simp; omega) | (rw [IntKind.wrap_i64]; omega) | (intro hx; omega) | rfl)
        simp only [Act.put, List.setIfInBounds_toArray, List.set_cons_zero, List.set_cons_succ]
        refine qw_run (v := .agg #[.int .u64 x0, .int .u64 x1, .int .u64 x2]) (by rfl) ?_ ?_
        · (intro w1 hC; obtain ⟨⟨⟨g00, g01, g02, -, -, -⟩, ⟨g10, g11, g12, -, -, -⟩, ⟨g20, g21, g22, -, -, -⟩, ⟨g30, g31, g32, -, -, -⟩, ⟨g40, g41, g42, -, -, -⟩, -⟩, -⟩ := hC; go_simp; first | done | (simp; done) | (simp [*]; done) | omega | (simp; omega) | (rw [IntKind.wrap_i64]; omega) | (intro hx; omega) | rfl)
        simp only [Act.put, List.setIfInBounds_toArray, List.set_cons_zero, List.set_cons_succ]
        refine qw_run (v := .agg #[.int .u64 y0, .int .u64 y1, .int .u64 y2]) (by rfl) ?_ ?_
        · (intro w1 hC; obtain ⟨⟨⟨g00, g01, g02, -, -, -⟩, ⟨g10, g11, g12, -, -, -⟩, ⟨g20, g21, g22, -, -, -⟩, ⟨g30, g31, g32, -, -, -⟩, ⟨g40, g41, g42, -, -, -⟩, -⟩, -⟩ := hC; go_simp; first | done | (simp; done) | (simp [*]; done) | omega | (simp; omega) | (rw [IntKind.wrap_i64]; omega) | (intro hx; omega) | rfl)
        simp only [Act.put, List.setIfInBounds_toArray, List.set_cons_zero, List.set_cons_succ]
        refine qw_call (v := .int .i64 (cab)) (f := 18) (args := #[.agg #[.int .u64 x0, .int .u64 x1, .int .u64 x2], .agg #[.int .u64 y0, .int .u64 y1, .int .u64 y2]]) (by rfl) ?_ ?_ ?_
        · (intro w1 hC; clear hC; go_simp)
        · exact fun w1 hC => (KAB w1).mono fun e w' ⟨he, hb⟩ => ⟨he, Kcs.below hC hb⟩
        simp only [Act.put, List.setIfInBounds_toArray, List.set_cons_zero, List.set_cons_succ]
        refine qw_run (v := .bool (z1)) (by rfl) ?_ ?_
        · (intro w1 hC; obtain ⟨⟨⟨g00, g01, g02, -, -, -⟩, ⟨g10, g11, g12, -, -, -⟩, ⟨g20, g21, g22, -, -, -⟩, ⟨g30, g31, g32, -, -, -⟩, ⟨g40, g41, g42, -, -, -⟩, -⟩, -⟩ := hC; go_simp; first | done | (simp; done) | (simp [*]; done) | omega | (simp; omega) | (rw [IntKind.wrap_i64]; omega) | (intro hx; omega) | rfl)
        simp only [Act.put, List.setIfInBounds_toArray, List.set_cons_zero, List.set_cons_succ]
        refine qw_run (v := .agg #[.int .u64 x0, .int .u64 x1, .int .u64 x2]) (by rfl) ?_ ?_
        · (intro w1 hC; obtain ⟨⟨⟨g00, g01, g02, -, -, -⟩, ⟨g10, g11, g12, -, -, -⟩, ⟨g20, g21, g22, -, -, -⟩, ⟨g30, g31, g32, -, -, -⟩, ⟨g40, g41, g42, -, -, -⟩, -⟩, -⟩ := hC; go_simp; first | done | (simp; done) | (simp [*]; done) | omega | (simp; omega) | (rw [IntKind.wrap_i64]; omega) | (intro hx; omega) | rfl)
        simp only [Act.put, List.setIfInBounds_toArray, List.set_cons_zero, List.set_cons_succ]
        refine qw_run (v := .agg #[.int .u64 y0, .int .u64 y1, .int .u64 y2]) (by rfl) ?_ ?_
        · (intro w1 hC; obtain ⟨⟨⟨g00, g01, g02, -, -, -⟩, ⟨g10, g11, g12, -, -, -⟩, ⟨g20, g21, g22, -, -, -⟩, ⟨g30, g31, g32, -, -, -⟩, ⟨g40, g41, g42, -, -, -⟩, -⟩, -⟩ := hC; go_simp; first | done | (simp; done) | (simp [*]; done) | omega | (simp; omega) | (rw [IntKind.wrap_i64]; omega) | (intro hx; omega) | rfl)
        simp only [Act.put, List.setIfInBounds_toArray, List.set_cons_zero, List.set_cons_succ]
        refine qw_run (v := .bool (z1)) (by rfl) ?_ ?_
        · (intro w1 hC; obtain ⟨⟨⟨g00, g01, g02, -, -, -⟩, ⟨g10, g11, g12, -, -, -⟩, ⟨g20, g21, g22, -, -, -⟩, ⟨g30, g31, g32, -, -, -⟩, ⟨g40, g41, g42, -, -, -⟩, -⟩, -⟩ := hC; go_simp; first | done | (simp; done) | (simp [*]; done) | omega | (simp; omega) | (rw [IntKind.wrap_i64]; omega) | (intro hx; omega) | rfl)
        simp only [Act.put, List.setIfInBounds_toArray, List.set_cons_zero, List.set_cons_succ]
        refine qw_run (v := .bool false) (by rfl) ?_ ?_
        · (intro w1 hC; obtain ⟨⟨⟨g00, g01, g02, -, -, -⟩, ⟨g10, g11, g12, -, -, -⟩, ⟨g20, g21, g22, -, -, -⟩, ⟨g30, g31, g32, -, -, -⟩, ⟨g40, g41, g42, -, -, -⟩, -⟩, -⟩ := hC; go_simp; first | done | (simp; done) | (simp [*]; done) | omega | (simp; omega) | (rw [IntKind.wrap_i64]; omega) | (intro hx; omega) | rfl)
        simp only [Act.put, List.setIfInBounds_toArray, List.set_cons_zero, List.set_cons_succ]
        refine qw_run (v := .bool false) (by rfl) ?_ ?_
        · (intro w1 hC; obtain ⟨⟨⟨g00, g01, g02, -, -, -⟩, ⟨g10, g11, g12, -, -, -⟩, ⟨g20, g21, g22, -, -, -⟩, ⟨g30, g31, g32, -, -, -⟩, ⟨g40, g41, g42, -, -, -⟩, -⟩, -⟩ := hC; go_simp; first | done | (simp; done) | (simp [*]; done) | omega | (simp; omega) | (rw [IntKind.wrap_i64]; omega) | (intro hx; omega) | rfl)
        simp only [Act.put, List.setIfInBounds_toArray, List.set_cons_zero, List.set_cons_succ]
        refine qw_nil ?_
        intro v3r hC
        have Hr3 := hid9 hC
        clear H3 hC
        obtain ⟨f00, f01, f02, -, -, -⟩ := (Hr3.out.1.2.2.2.2).1
        obtain ⟨f10, f11, f12, -, -, -⟩ := (Hr3.out.1.2.2.2).1
        go_wp2_with fail
        clear f00 f01 f02 f10 f11 f12
        refine (KAB _).mono ?_
        rintro e v4 ⟨rfl, hb⟩
        have H4 := hid9 (Kcs.below Hr3.out hb)
        clear Hr3 hb
        obtain ⟨f00, f01, f02, -, -, -⟩ := (H4.out.1.2.2.2).1
        obtain ⟨f10, f11, f12, -, -, -⟩ := (H4.out.1.2.2).1
        go_wp2_with fail
        clear f00 f01 f02 f10 f11 f12
        refine (KBC _).mono ?_
        rintro e v5 ⟨rfl, hb⟩
        have H5 := hid9 (Kcs.below H4.out hb)
        clear H4 hb
        obtain ⟨f00, f01, f02, -, -, -⟩ := (H5.out.1.2).1
        go_wp2
        go_ret
        exact ⟨rfl, H5.out.2⟩
    · have d1 : decide (cmpN N M ≤ 0) = false := decide_eq_false (fun h => o1 (l1.mp h))
      clear l1 l2 l3 hN hM hK o1
      generalize cmpN N M = cab at *
      generalize cmpN M N = cba at *
      generalize cmpN M K = cbc at *
      generalize cmpN N K = cac at *
      have H0 := hid9 (Kcs.three w x0 x1 x2 y0 y1 y2 z0' z1' z2')
      go_enter Try.func6, Try.ntmps6
      go_wp2_with fail
      revert H0
      generalize ((w.alloc (.cells #[.int .u64 x0, .int .u64 x1, .int .u64 x2] 24)).alloc (.cells #[.int .u64 y0, .int .u64 y1, .int .u64 y2] 24)).alloc (.cells #[.int .u64 z0', .int .u64 z1', .int .u64 z2'] 24) = W0
      intro H0
      refine (KK _).mono ?_
      rintro e v1 ⟨rfl, hb⟩
      have H1 := hid9 (Kcs.below H0.out hb)
      clear H0 hb
      obtain ⟨f00, f01, f02, -, -, -⟩ := (H1.out.1.2.2).1
      obtain ⟨f10, f11, f12, -, -, -⟩ := (H1.out.1.2).1
      go_wp2_with fail
      clear f00 f01 f02 f10 f11 f12
      refine (KS _).mono ?_
      rintro e v2 ⟨rfl, hb⟩
      have H2 := hid9 (Kcs.new (a := 0) (b := 0) (c := 0) H1.out hb)
      clear H1 hb
      obtain ⟨f00, f01, f02, -, -, -⟩ := (H2.out.1.2.2.2).1
      obtain ⟨f10, f11, f12, -, -, -⟩ := (H2.out.1.2.2).1
      go_wp2_with fail
      clear f00 f01 f02 f10 f11 f12
      revert H2
      generalize v2.alloc (.cells #[.int .u64 0, .int .u64 0, .int .u64 0] 24) = W2
      generalize v2.heap.size = N2
      intro H2
      refine (KS2 _).mono ?_
      rintro e v3 ⟨rfl, hb⟩
      have H3 := hid9 (Kcs.new (a := 0) (b := 0) (c := 0) H2.out hb)
      clear H2 hb
      go_wp2_with fail
      revert H3
      generalize v3.alloc (.cells #[.int .u64 0, .int .u64 0, .int .u64 0] 24) = W3
      generalize v3.heap.size = N3
      intro H3
      refine qw_region (C := fun W => Kcs w W [(N3, 0, 0, 0), (N2, 0, 0, 0), (w.heap.size + 1 + 1, z0', z1', z2'), (w.heap.size + 1, y0, y1, y2), (w.heap.size, x0, x1, x2)]) (by kernel_rfl) (by kernel_rfl) H3.out.drew ?_
      refine qw_run (v := .int .i64 (6)) (by rfl) ?_ ?_
      · (intro w1 hC; obtain ⟨⟨⟨g00, g01, g02, -, -, -⟩, ⟨g10, g11, g12, -, -, -⟩, ⟨g20, g21, g22, -, -, -⟩, ⟨g30, g31, g32, -, -, -⟩, ⟨g40, g41, g42, -, -, -⟩, -⟩, -⟩ := hC; go_simp; first | done | (simp; done) | (simp [*]; done) | omega | (simp; omega) | (rw [IntKind.wrap_i64]; omega) | (intro hx; omega) | rfl)
      simp only [Act.put, List.setIfInBounds_toArray, List.set_cons_zero, List.set_cons_succ]
      refine qw_run (v := .int .i64 (6)) (by rfl) ?_ ?_
      · (intro w1 hC; obtain ⟨⟨⟨g00, g01, g02, -, -, -⟩, ⟨g10, g11, g12, -, -, -⟩, ⟨g20, g21, g22, -, -, -⟩, ⟨g30, g31, g32, -, -, -⟩, ⟨g40, g41, g42, -, -, -⟩, -⟩, -⟩ := hC; go_simp; first | done | (simp; done) | (simp [*]; done) | omega | (simp; omega) | (rw [IntKind.wrap_i64]; omega) | (intro hx; omega) | rfl)
      simp only [Act.put, List.setIfInBounds_toArray, List.set_cons_zero, List.set_cons_succ]
      refine qw_run (v := .bool false) (by rfl) ?_ ?_
      · (intro w1 hC; obtain ⟨⟨⟨g00, g01, g02, -, -, -⟩, ⟨g10, g11, g12, -, -, -⟩, ⟨g20, g21, g22, -, -, -⟩, ⟨g30, g31, g32, -, -, -⟩, ⟨g40, g41, g42, -, -, -⟩, -⟩, -⟩ := hC; go_simp; first | done | (simp; done) | (simp [*]; done) | omega | (simp; omega) | (rw [IntKind.wrap_i64]; omega) | (intro hx; omega) | rfl)
      simp only [Act.put, List.setIfInBounds_toArray, List.set_cons_zero, List.set_cons_succ]
      refine qw_run (v := .bool false) (by rfl) ?_ ?_
      · (intro w1 hC; obtain ⟨⟨⟨g00, g01, g02, -, -, -⟩, ⟨g10, g11, g12, -, -, -⟩, ⟨g20, g21, g22, -, -, -⟩, ⟨g30, g31, g32, -, -, -⟩, ⟨g40, g41, g42, -, -, -⟩, -⟩, -⟩ := hC; go_simp; first | done | (simp; done) | (simp [*]; done) | omega | (simp; omega) | (rw [IntKind.wrap_i64]; omega) | (intro hx; omega) | rfl)
      simp only [Act.put, List.setIfInBounds_toArray, List.set_cons_zero, List.set_cons_succ]
      refine qw_run (v := .agg #[.int .u64 0, .int .u64 0, .int .u64 0]) (by rfl) ?_ ?_
      · (intro w1 hC; obtain ⟨⟨⟨g00, g01, g02, -, -, -⟩, ⟨g10, g11, g12, -, -, -⟩, ⟨g20, g21, g22, -, -, -⟩, ⟨g30, g31, g32, -, -, -⟩, ⟨g40, g41, g42, -, -, -⟩, -⟩, -⟩ := hC; go_simp; first | done | (simp; done) | (simp [*]; done) | omega | (simp; omega) | (rw [IntKind.wrap_i64]; omega) | (intro hx; omega) | rfl)
      simp only [Act.put, List.setIfInBounds_toArray, List.set_cons_zero, List.set_cons_succ]
      refine qw_run (v := .agg #[.int .u64 0, .int .u64 0, .int .u64 0]) (by rfl) ?_ ?_
      · (intro w1 hC; obtain ⟨⟨⟨g00, g01, g02, -, -, -⟩, ⟨g10, g11, g12, -, -, -⟩, ⟨g20, g21, g22, -, -, -⟩, ⟨g30, g31, g32, -, -, -⟩, ⟨g40, g41, g42, -, -, -⟩, -⟩, -⟩ := hC; go_simp; first | done | (simp; done) | (simp [*]; done) | omega | (simp; omega) | (rw [IntKind.wrap_i64]; omega) | (intro hx; omega) | rfl)
      simp only [Act.put, List.setIfInBounds_toArray, List.set_cons_zero, List.set_cons_succ]
      refine qw_run (v := .bool false) (by rfl) ?_ ?_
      · (intro w1 hC; obtain ⟨⟨⟨g00, g01, g02, -, -, -⟩, ⟨g10, g11, g12, -, -, -⟩, ⟨g20, g21, g22, -, -, -⟩, ⟨g30, g31, g32, -, -, -⟩, ⟨g40, g41, g42, -, -, -⟩, -⟩, -⟩ := hC; go_simp; first | done | (simp; done) | (simp [*]; done) | omega | (simp; omega) | (rw [IntKind.wrap_i64]; omega) | (intro hx; omega) | rfl)
      simp only [Act.put, List.setIfInBounds_toArray, List.set_cons_zero, List.set_cons_succ]
      refine qw_run (v := .bool false) (by rfl) ?_ ?_
      · (intro w1 hC; obtain ⟨⟨⟨g00, g01, g02, -, -, -⟩, ⟨g10, g11, g12, -, -, -⟩, ⟨g20, g21, g22, -, -, -⟩, ⟨g30, g31, g32, -, -, -⟩, ⟨g40, g41, g42, -, -, -⟩, -⟩, -⟩ := hC; go_simp; first | done | (simp; done) | (simp [*]; done) | omega | (simp; omega) | (rw [IntKind.wrap_i64]; omega) | (intro hx; omega) | rfl)
      simp only [Act.put, List.setIfInBounds_toArray, List.set_cons_zero, List.set_cons_succ]
      refine qw_run (v := .bool false) (by rfl) ?_ ?_
      · (intro w1 hC; obtain ⟨⟨⟨g00, g01, g02, -, -, -⟩, ⟨g10, g11, g12, -, -, -⟩, ⟨g20, g21, g22, -, -, -⟩, ⟨g30, g31, g32, -, -, -⟩, ⟨g40, g41, g42, -, -, -⟩, -⟩, -⟩ := hC; go_simp; first | done | (simp; done) | (simp [*]; done) | omega | (simp; omega) | (rw [IntKind.wrap_i64]; omega) | (intro hx; omega) | rfl)
      simp only [Act.put, List.setIfInBounds_toArray, List.set_cons_zero, List.set_cons_succ]
      refine qw_run (v := .agg #[.int .u64 x0, .int .u64 x1, .int .u64 x2]) (by rfl) ?_ ?_
      · (intro w1 hC; obtain ⟨⟨⟨g00, g01, g02, -, -, -⟩, ⟨g10, g11, g12, -, -, -⟩, ⟨g20, g21, g22, -, -, -⟩, ⟨g30, g31, g32, -, -, -⟩, ⟨g40, g41, g42, -, -, -⟩, -⟩, -⟩ := hC; go_simp; first | done | (simp; done) | (simp [*]; done) | omega | (simp; omega) | (rw [IntKind.wrap_i64]; omega) | (intro hx; omega) | rfl)
      simp only [Act.put, List.setIfInBounds_toArray, List.set_cons_zero, List.set_cons_succ]
      refine qw_run (v := .agg #[.int .u64 y0, .int .u64 y1, .int .u64 y2]) (by rfl) ?_ ?_
      · (intro w1 hC; obtain ⟨⟨⟨g00, g01, g02, -, -, -⟩, ⟨g10, g11, g12, -, -, -⟩, ⟨g20, g21, g22, -, -, -⟩, ⟨g30, g31, g32, -, -, -⟩, ⟨g40, g41, g42, -, -, -⟩, -⟩, -⟩ := hC; go_simp; first | done | (simp; done) | (simp [*]; done) | omega | (simp; omega) | (rw [IntKind.wrap_i64]; omega) | (intro hx; omega) | rfl)
      simp only [Act.put, List.setIfInBounds_toArray, List.set_cons_zero, List.set_cons_succ]
      refine qw_call (v := .int .i64 (cab)) (f := 18) (args := #[.agg #[.int .u64 x0, .int .u64 x1, .int .u64 x2], .agg #[.int .u64 y0, .int .u64 y1, .int .u64 y2]]) (by rfl) ?_ ?_ ?_
      · (intro w1 hC; clear hC; go_simp)
      · exact fun w1 hC => (KAB w1).mono fun e w' ⟨he, hb⟩ => ⟨he, Kcs.below hC hb⟩
      simp only [Act.put, List.setIfInBounds_toArray, List.set_cons_zero, List.set_cons_succ]
      refine qw_run (v := .agg #[.int .u64 y0, .int .u64 y1, .int .u64 y2]) (by rfl) ?_ ?_
      · (intro w1 hC; obtain ⟨⟨⟨g00, g01, g02, -, -, -⟩, ⟨g10, g11, g12, -, -, -⟩, ⟨g20, g21, g22, -, -, -⟩, ⟨g30, g31, g32, -, -, -⟩, ⟨g40, g41, g42, -, -, -⟩, -⟩, -⟩ := hC; go_simp; first | done | (simp; done) | (simp [*]; done) | omega | (simp; omega) | (rw [IntKind.wrap_i64]; omega) | (intro hx; omega) | rfl)
      simp only [Act.put, List.setIfInBounds_toArray, List.set_cons_zero, List.set_cons_succ]
      refine qw_run (v := .agg #[.int .u64 x0, .int .u64 x1, .int .u64 x2]) (by rfl) ?_ ?_
      · (intro w1 hC; obtain ⟨⟨⟨g00, g01, g02, -, -, -⟩, ⟨g10, g11, g12, -, -, -⟩, ⟨g20, g21, g22, -, -, -⟩, ⟨g30, g31, g32, -, -, -⟩, ⟨g40, g41, g42, -, -, -⟩, -⟩, -⟩ := hC; go_simp; first | done | (simp; done) | (simp [*]; done) | omega | (simp; omega) | (rw [IntKind.wrap_i64]; omega) | (intro hx; omega) | rfl)
      simp only [Act.put, List.setIfInBounds_toArray, List.set_cons_zero, List.set_cons_succ]
      refine qw_call (v := .int .i64 (cba)) (f := 18) (args := #[.agg #[.int .u64 y0, .int .u64 y1, .int .u64 y2], .agg #[.int .u64 x0, .int .u64 x1, .int .u64 x2]]) (by rfl) ?_ ?_ ?_
      · (intro w1 hC; clear hC; go_simp)
      · exact fun w1 hC => (KBA w1).mono fun e w' ⟨he, hb⟩ => ⟨he, Kcs.below hC hb⟩
      simp only [Act.put, List.setIfInBounds_toArray, List.set_cons_zero, List.set_cons_succ]
      refine qw_run (v := .int .i64 (cab)) (by rfl) ?_ ?_
      · (intro w1 hC; obtain ⟨⟨⟨g00, g01, g02, -, -, -⟩, ⟨g10, g11, g12, -, -, -⟩, ⟨g20, g21, g22, -, -, -⟩, ⟨g30, g31, g32, -, -, -⟩, ⟨g40, g41, g42, -, -, -⟩, -⟩, -⟩ := hC; go_simp; first | done | (simp; done) | (simp [*]; done) | omega | (simp; omega) | (rw [IntKind.wrap_i64]; omega) | (intro hx; omega) | rfl)
      simp only [Act.put, List.setIfInBounds_toArray, List.set_cons_zero, List.set_cons_succ]
      refine qw_run (v := .bool false) (by rfl) ?_ ?_
      · (intro w1 hC; obtain ⟨⟨⟨g00, g01, g02, -, -, -⟩, ⟨g10, g11, g12, -, -, -⟩, ⟨g20, g21, g22, -, -, -⟩, ⟨g30, g31, g32, -, -, -⟩, ⟨g40, g41, g42, -, -, -⟩, -⟩, -⟩ := hC; go_simp; first | done | (simp; done) | (simp [*]; done) | omega | (simp; omega) | (rw [IntKind.wrap_i64]; omega) | (intro hx; omega) | rfl)
      simp only [Act.put, List.setIfInBounds_toArray, List.set_cons_zero, List.set_cons_succ]
      refine qw_run (v := .bool false) (by rfl) ?_ ?_
      · (intro w1 hC; obtain ⟨⟨⟨g00, g01, g02, -, -, -⟩, ⟨g10, g11, g12, -, -, -⟩, ⟨g20, g21, g22, -, -, -⟩, ⟨g30, g31, g32, -, -, -⟩, ⟨g40, g41, g42, -, -, -⟩, -⟩, -⟩ := hC; go_simp; first | done | (simp; done) | (simp [*]; done) | omega | (simp; omega) | (rw [IntKind.wrap_i64]; omega) | (intro hx; omega) | rfl)
      simp only [Act.put, List.setIfInBounds_toArray, List.set_cons_zero, List.set_cons_succ]
      refine qw_run (v := .bool false) (by rfl) ?_ ?_
      · (intro w1 hC; obtain ⟨⟨⟨g00, g01, g02, -, -, -⟩, ⟨g10, g11, g12, -, -, -⟩, ⟨g20, g21, g22, -, -, -⟩, ⟨g30, g31, g32, -, -, -⟩, ⟨g40, g41, g42, -, -, -⟩, -⟩, -⟩ := hC; go_simp; first | done | (simp; done) | (simp [*]; done) | omega | (simp; omega) | (rw [IntKind.wrap_i64]; omega) | (intro hx; omega) | rfl)
      simp only [Act.put, List.setIfInBounds_toArray, List.set_cons_zero, List.set_cons_succ]
      refine qw_run (v := .agg #[.int .u64 x0, .int .u64 x1, .int .u64 x2]) (by rfl) ?_ ?_
      · (intro w1 hC; obtain ⟨⟨⟨g00, g01, g02, -, -, -⟩, ⟨g10, g11, g12, -, -, -⟩, ⟨g20, g21, g22, -, -, -⟩, ⟨g30, g31, g32, -, -, -⟩, ⟨g40, g41, g42, -, -, -⟩, -⟩, -⟩ := hC; go_simp; first | done | (simp; done) | (simp [*]; done) | omega | (simp; omega) | (rw [IntKind.wrap_i64]; omega) | (intro hx; omega) | rfl)
      simp only [Act.put, List.setIfInBounds_toArray, List.set_cons_zero, List.set_cons_succ]
      refine qw_run (v := .agg #[.int .u64 y0, .int .u64 y1, .int .u64 y2]) (by rfl) ?_ ?_
      · (intro w1 hC; obtain ⟨⟨⟨g00, g01, g02, -, -, -⟩, ⟨g10, g11, g12, -, -, -⟩, ⟨g20, g21, g22, -, -, -⟩, ⟨g30, g31, g32, -, -, -⟩, ⟨g40, g41, g42, -, -, -⟩, -⟩, -⟩ := hC; go_simp; first | done | (simp; done) | (simp [*]; done) | omega | (simp; omega) | (rw [IntKind.wrap_i64]; omega) | (intro hx; omega) | rfl)
      simp only [Act.put, List.setIfInBounds_toArray, List.set_cons_zero, List.set_cons_succ]
      refine qw_call (v := .int .i64 (cab)) (f := 18) (args := #[.agg #[.int .u64 x0, .int .u64 x1, .int .u64 x2], .agg #[.int .u64 y0, .int .u64 y1, .int .u64 y2]]) (by rfl) ?_ ?_ ?_
      · (intro w1 hC; clear hC; go_simp)
      · exact fun w1 hC => (KAB w1).mono fun e w' ⟨he, hb⟩ => ⟨he, Kcs.below hC hb⟩
      simp only [Act.put, List.setIfInBounds_toArray, List.set_cons_zero, List.set_cons_succ]
      refine qw_run (v := .bool (z1)) (by rfl) ?_ ?_
      · (intro w1 hC; obtain ⟨⟨⟨g00, g01, g02, -, -, -⟩, ⟨g10, g11, g12, -, -, -⟩, ⟨g20, g21, g22, -, -, -⟩, ⟨g30, g31, g32, -, -, -⟩, ⟨g40, g41, g42, -, -, -⟩, -⟩, -⟩ := hC; go_simp; first | done | (simp; done) | (simp [*]; done) | omega | (simp; omega) | (rw [IntKind.wrap_i64]; omega) | (intro hx; omega) | rfl)
      simp only [Act.put, List.setIfInBounds_toArray, List.set_cons_zero, List.set_cons_succ]
      refine qw_run (v := .agg #[.int .u64 x0, .int .u64 x1, .int .u64 x2]) (by rfl) ?_ ?_
      · (intro w1 hC; obtain ⟨⟨⟨g00, g01, g02, -, -, -⟩, ⟨g10, g11, g12, -, -, -⟩, ⟨g20, g21, g22, -, -, -⟩, ⟨g30, g31, g32, -, -, -⟩, ⟨g40, g41, g42, -, -, -⟩, -⟩, -⟩ := hC; go_simp; first | done | (simp; done) | (simp [*]; done) | omega | (simp; omega) | (rw [IntKind.wrap_i64]; omega) | (intro hx; omega) | rfl)
      simp only [Act.put, List.setIfInBounds_toArray, List.set_cons_zero, List.set_cons_succ]
      refine qw_run (v := .agg #[.int .u64 y0, .int .u64 y1, .int .u64 y2]) (by rfl) ?_ ?_
      · (intro w1 hC; obtain ⟨⟨⟨g00, g01, g02, -, -, -⟩, ⟨g10, g11, g12, -, -, -⟩, ⟨g20, g21, g22, -, -, -⟩, ⟨g30, g31, g32, -, -, -⟩, ⟨g40, g41, g42, -, -, -⟩, -⟩, -⟩ := hC; go_simp; first | done | (simp; done) | (simp [*]; done) | omega | (simp; omega) | (rw [IntKind.wrap_i64]; omega) | (intro hx; omega) | rfl)
      simp only [Act.put, List.setIfInBounds_toArray, List.set_cons_zero, List.set_cons_succ]
      refine qw_run (v := .bool (z1)) (by rfl) ?_ ?_
      · (intro w1 hC; obtain ⟨⟨⟨g00, g01, g02, -, -, -⟩, ⟨g10, g11, g12, -, -, -⟩, ⟨g20, g21, g22, -, -, -⟩, ⟨g30, g31, g32, -, -, -⟩, ⟨g40, g41, g42, -, -, -⟩, -⟩, -⟩ := hC; go_simp; first | done | (simp; done) | (simp [*]; done) | omega | (simp; omega) | (rw [IntKind.wrap_i64]; omega) | (intro hx; omega) | rfl)
      simp only [Act.put, List.setIfInBounds_toArray, List.set_cons_zero, List.set_cons_succ]
      refine qw_run (v := .bool false) (by rfl) ?_ ?_
      · (intro w1 hC; obtain ⟨⟨⟨g00, g01, g02, -, -, -⟩, ⟨g10, g11, g12, -, -, -⟩, ⟨g20, g21, g22, -, -, -⟩, ⟨g30, g31, g32, -, -, -⟩, ⟨g40, g41, g42, -, -, -⟩, -⟩, -⟩ := hC; go_simp; first | done | (simp; done) | (simp [*]; done) | omega | (simp; omega) | (rw [IntKind.wrap_i64]; omega) | (intro hx; omega) | rfl)
      simp only [Act.put, List.setIfInBounds_toArray, List.set_cons_zero, List.set_cons_succ]
      refine qw_run (v := .bool false) (by rfl) ?_ ?_
      · (intro w1 hC; obtain ⟨⟨⟨g00, g01, g02, -, -, -⟩, ⟨g10, g11, g12, -, -, -⟩, ⟨g20, g21, g22, -, -, -⟩, ⟨g30, g31, g32, -, -, -⟩, ⟨g40, g41, g42, -, -, -⟩, -⟩, -⟩ := hC; go_simp; first | done | (simp; done) | (simp [*]; done) | omega | (simp; omega) | (rw [IntKind.wrap_i64]; omega) | (intro hx; omega) | rfl)
      simp only [Act.put, List.setIfInBounds_toArray, List.set_cons_zero, List.set_cons_succ]
      refine qw_nil ?_
      intro v3r hC
      have Hr3 := hid9 hC
      clear H3 hC
      obtain ⟨f00, f01, f02, -, -, -⟩ := (Hr3.out.1.2.2.2.2).1
      obtain ⟨f10, f11, f12, -, -, -⟩ := (Hr3.out.1.2.2.2).1
      go_wp2_with fail
      clear f00 f01 f02 f10 f11 f12
      refine (KAB _).mono ?_
      rintro e v4 ⟨rfl, hb⟩
      have H4 := hid9 (Kcs.below Hr3.out hb)
      clear Hr3 hb
      obtain ⟨f00, f01, f02, -, -, -⟩ := (H4.out.1.2).1
      go_wp2
      go_ret
      exact ⟨rfl, H4.out.2⟩
end Go.Proofs.Ytnaamkkjledllaa
