/-
  Part 8 of the proof: 1 texts, one behind the other.
-/
import Derived.Test.YtnaamkkjledllaaPart7
/-
  The law CostPows: each power is the one ahead, added to itself.
-/
namespace Go.Proofs.Ytnaamkkjledllaa
open Go.RowKit
set_option linter.unusedSimpArgs false
set_option linter.unusedVariables false


theorem tmod192 (n : Int) : ∃ m : Nat, m < 192 ∧ ((n.tmod 192 < 0 ∧ IntKind.i64.wrap (-n.tmod 192) = (m : Int) ∧ IntKind.i64.wrap (n.tmod 192) = n.tmod 192) ∨ n.tmod 192 = (m : Int)) := by
  have a := Int.tmod_lt_of_pos n (b := 192) (by decide)
  have b : -192 < n.tmod 192 := by
    have e := Int.tmod_eq_emod (a := n) (b := 192)
    have b1 := Int.emod_nonneg n (b := 192) (by decide)
    split at e <;> simp at e <;> omega
  by_cases h : n.tmod 192 < 0
  · refine ⟨(0 - n.tmod 192).toNat, by omega, .inl ⟨h, ?_, ?_⟩⟩ <;> rw [IntKind.wrap_i64] <;> omega
  · exact ⟨(n.tmod 192).toNat, by omega, .inr (by omega)⟩
theorem pow_sum (m : Nat) : 2 ^ m + 2 ^ m = 2 ^ (m + 1) := by rw [Nat.pow_succ]; omega
set_option maxRecDepth 20000 in
set_option maxHeartbeats 16000000 in
theorem costPows_any (n : Int) (w : World) :
    Calls Try.prog 8 #[.int .i64 n] w fun e w' => e = .returned (.bool true) ∧ Below w.heap.size w w' := by
  obtain ⟨m, hm, hway⟩ := tmod192 n
  have KK := known9_any
  have KO := of9_any 1
  have H0 := hid9 (Kcs.nil w)
  have KP := fun w => pow9_any (m : Int) w (by omega) (by omega)
  rw [(pow_in m hm).1, (pow_in m hm).2] at KP
  by_cases c0 : m = 0
  · subst c0
    have KA := fun w => add_in (2 ^ 0) (2 ^ 0) w (by decide)
    rw [pow_sum] at KA
    have KQ := fun w => pow9_any 1 w (by decide) (by decide)
    rw [show powN 1 = 2 ^ (0 + 1) from rfl, show powE 1 = 0 from rfl] at KQ
    rw [cost_0 0 (by decide), show ((2 ^ 0 : Nat) : Int) = 1 from rfl] at KP KA
    rw [show ((0 : Nat) : Int) = 0 from rfl] at *
    unfold costV at KA KQ
    generalize cost0 (2 ^ (0 + 1)) = b0 at *
    generalize cost1 (2 ^ (0 + 1)) = b1 at *
    generalize cost2 (2 ^ (0 + 1)) = b2 at *
    have q1 := eqC_same b0 b1 b2
    have q2 := eqC_same 0 0 1
    clear hm
    rcases hway with ⟨d1, d2, d3⟩ | d2
    · go_enter Try.func8, Try.ntmps8
      go_wp2_with fail
      refine (KK _).mono ?_
      rintro e v1 ⟨rfl, hb⟩
      have H1 := hid9 (Kcs.below H0.out hb)
      clear H0 hb
      go_wp2_with fail
      refine (KP _).mono ?_
      rintro e v2 ⟨rfl, hb⟩
      have H2 := hid9 (Kcs.new (a := 0) (b := 0) (c := 1) H1.out hb)
      clear H1 hb
      go_wp2_with fail
      revert H2
      generalize v2.alloc (.cells #[.int .u64 0, .int .u64 0, .int .u64 1] 24) = W2
      generalize v2.heap.size = N2
      intro H2
      refine (KA _).mono ?_
      rintro e v3 ⟨rfl, hb⟩
      have H3 := hid9 (Kcs.new (a := b0) (b := b1) (c := b2) H2.out hb)
      clear H2 hb
      go_wp2_with fail
      revert H3
      generalize v3.alloc (.cells #[.int .u64 b0, .int .u64 b1, .int .u64 b2] 24) = W3
      generalize v3.heap.size = N3
      intro H3
      refine (KQ _).mono ?_
      rintro e v4 ⟨rfl, hb⟩
      have H4 := hid9 (Kcs.new (a := b0) (b := b1) (c := b2) H3.out hb)
      clear H3 hb
      go_wp2_with fail
      revert H4
      generalize v4.alloc (.cells #[.int .u64 b0, .int .u64 b1, .int .u64 b2] 24) = W4
      generalize v4.heap.size = N4
      intro H4
      refine qw_region (C := fun W => Kcs w W [(N4, b0, b1, b2), (N3, b0, b1, b2), (N2, 0, 0, 1)]) (by kernel_rfl) (by kernel_rfl) H4.out.drew ?_
      refine qw_run (v := .int .i64 (0)) (by rfl) ?_ ?_
      · (intro w1 hC; obtain ⟨⟨⟨g00, g01, g02, -, -, -⟩, ⟨g10, g11, g12, -, -, -⟩, ⟨g20, g21, g22, -, -, -⟩, -⟩, -⟩ := hC; go_simp; first | done | (simp; done) | (simp [*]; done) | omega | (simp; omega) | (rw [IntKind.wrap_i64]; omega) | (intro hx; omega) | rfl)
      simp only [Act.put, List.setIfInBounds_toArray, List.set_cons_zero, List.set_cons_succ]
      refine qw_run (v := .bool false) (by rfl) ?_ ?_
      · (intro w1 hC; obtain ⟨⟨⟨g00, g01, g02, -, -, -⟩, ⟨g10, g11, g12, -, -, -⟩, ⟨g20, g21, g22, -, -, -⟩, -⟩, -⟩ := hC; go_simp; first | done | (simp; done) | (simp [*]; done) | omega | (simp; omega) | (rw [IntKind.wrap_i64]; omega) | (intro hx; omega) | rfl)
      simp only [Act.put, List.setIfInBounds_toArray, List.set_cons_zero, List.set_cons_succ]
      refine qw_run (v := .bool false) (by rfl) ?_ ?_
      · (intro w1 hC; obtain ⟨⟨⟨g00, g01, g02, -, -, -⟩, ⟨g10, g11, g12, -, -, -⟩, ⟨g20, g21, g22, -, -, -⟩, -⟩, -⟩ := hC; go_simp; first | done | (simp; done) | (simp [*]; done) | omega | (simp; omega) | (rw [IntKind.wrap_i64]; omega) | (intro hx; omega) | rfl)
      simp only [Act.put, List.setIfInBounds_toArray, List.set_cons_zero, List.set_cons_succ]
      refine qw_run (v := .int .i64 (0)) (by rfl) ?_ ?_
      · (intro w1 hC; obtain ⟨⟨⟨g00, g01, g02, -, -, -⟩, ⟨g10, g11, g12, -, -, -⟩, ⟨g20, g21, g22, -, -, -⟩, -⟩, -⟩ := hC; go_simp; first | done | (simp; done) | (simp [*]; done) | omega | (simp; omega) | (rw [IntKind.wrap_i64]; omega) | (intro hx; omega) | rfl)
      simp only [Act.put, List.setIfInBounds_toArray, List.set_cons_zero, List.set_cons_succ]
      refine qw_run (v := .bool true) (by rfl) ?_ ?_
      · (intro w1 hC; obtain ⟨⟨⟨g00, g01, g02, -, -, -⟩, ⟨g10, g11, g12, -, -, -⟩, ⟨g20, g21, g22, -, -, -⟩, -⟩, -⟩ := hC; go_simp; first | done | (simp; done) | (simp [*]; done) | omega | (simp; omega) | (rw [IntKind.wrap_i64]; omega) | (intro hx; omega) | rfl)
      simp only [Act.put, List.setIfInBounds_toArray, List.set_cons_zero, List.set_cons_succ]
      refine qw_run (v := .bool true) (by rfl) ?_ ?_
      · (intro w1 hC; obtain ⟨⟨⟨g00, g01, g02, -, -, -⟩, ⟨g10, g11, g12, -, -, -⟩, ⟨g20, g21, g22, -, -, -⟩, -⟩, -⟩ := hC; go_simp; first | done | (simp; done) | (simp [*]; done) | omega | (simp; omega) | (rw [IntKind.wrap_i64]; omega) | (intro hx; omega) | rfl)
      simp only [Act.put, List.setIfInBounds_toArray, List.set_cons_zero, List.set_cons_succ]
      refine qw_run (v := .agg #[.int .u64 0, .int .u64 0, .int .u64 1]) (by rfl) ?_ ?_
      · (intro w1 hC; obtain ⟨⟨⟨g00, g01, g02, -, -, -⟩, ⟨g10, g11, g12, -, -, -⟩, ⟨g20, g21, g22, -, -, -⟩, -⟩, -⟩ := hC; go_simp; first | done | (simp; done) | (simp [*]; done) | omega | (simp; omega) | (rw [IntKind.wrap_i64]; omega) | (intro hx; omega) | rfl)
      simp only [Act.put, List.setIfInBounds_toArray, List.set_cons_zero, List.set_cons_succ]
      refine qw_call (v := .agg #[.int .u64 0, .int .u64 0, .int .u64 1]) (f := 16) (args := #[.int .u64 1]) (by rfl) ?_ ?_ ?_
      · (intro w1 hC; clear hC; go_simp)
      · exact fun w1 hC => (KO w1).mono fun e w' ⟨he, hb⟩ => ⟨he, Kcs.below hC hb⟩
      simp only [Act.put, List.setIfInBounds_toArray, List.set_cons_zero, List.set_cons_succ]
      refine qw_run (v := .bool false) (by rfl) ?_ ?_
      · (intro w1 hC; obtain ⟨⟨⟨g00, g01, g02, -, -, -⟩, ⟨g10, g11, g12, -, -, -⟩, ⟨g20, g21, g22, -, -, -⟩, -⟩, -⟩ := hC; go_simp; first | done | (simp; done) | (simp [*]; done) | omega | (simp; omega) | (rw [IntKind.wrap_i64]; omega) | (intro hx; omega) | rfl)
      simp only [Act.put, List.setIfInBounds_toArray, List.set_cons_zero, List.set_cons_succ]
      refine qw_run (v := .bool false) (by rfl) ?_ ?_
      · (intro w1 hC; obtain ⟨⟨⟨g00, g01, g02, -, -, -⟩, ⟨g10, g11, g12, -, -, -⟩, ⟨g20, g21, g22, -, -, -⟩, -⟩, -⟩ := hC; go_simp; first | done | (simp; done) | (simp [*]; done) | omega | (simp; omega) | (rw [IntKind.wrap_i64]; omega) | (intro hx; omega) | rfl)
      simp only [Act.put, List.setIfInBounds_toArray, List.set_cons_zero, List.set_cons_succ]
      refine qw_run (v := .bool false) (by rfl) ?_ ?_
      · (intro w1 hC; obtain ⟨⟨⟨g00, g01, g02, -, -, -⟩, ⟨g10, g11, g12, -, -, -⟩, ⟨g20, g21, g22, -, -, -⟩, -⟩, -⟩ := hC; go_simp; first | done | (simp; done) | (simp [*]; done) | omega | (simp; omega) | (rw [IntKind.wrap_i64]; omega) | (intro hx; omega) | rfl)
      simp only [Act.put, List.setIfInBounds_toArray, List.set_cons_zero, List.set_cons_succ]
      refine qw_nil ?_
      intro v4r hC
      have Hr4 := hid9 hC
      clear H4 hC
      obtain ⟨f00, f01, f02, -, -, -⟩ := (Hr4.out.1.2).1
      obtain ⟨f10, f11, f12, -, -, -⟩ := (Hr4.out.1).1
      go_wp2
      go_ret
      exact ⟨rfl, Hr4.out.2⟩
    · go_enter Try.func8, Try.ntmps8
      go_wp2_with fail
      refine (KK _).mono ?_
      rintro e v1 ⟨rfl, hb⟩
      have H1 := hid9 (Kcs.below H0.out hb)
      clear H0 hb
      go_wp2_with fail
      refine (KP _).mono ?_
      rintro e v2 ⟨rfl, hb⟩
      have H2 := hid9 (Kcs.new (a := 0) (b := 0) (c := 1) H1.out hb)
      clear H1 hb
      go_wp2_with fail
      revert H2
      generalize v2.alloc (.cells #[.int .u64 0, .int .u64 0, .int .u64 1] 24) = W2
      generalize v2.heap.size = N2
      intro H2
      refine (KA _).mono ?_
      rintro e v3 ⟨rfl, hb⟩
      have H3 := hid9 (Kcs.new (a := b0) (b := b1) (c := b2) H2.out hb)
      clear H2 hb
      go_wp2_with fail
      revert H3
      generalize v3.alloc (.cells #[.int .u64 b0, .int .u64 b1, .int .u64 b2] 24) = W3
      generalize v3.heap.size = N3
      intro H3
      refine (KQ _).mono ?_
      rintro e v4 ⟨rfl, hb⟩
      have H4 := hid9 (Kcs.new (a := b0) (b := b1) (c := b2) H3.out hb)
      clear H3 hb
      go_wp2_with fail
      revert H4
      generalize v4.alloc (.cells #[.int .u64 b0, .int .u64 b1, .int .u64 b2] 24) = W4
      generalize v4.heap.size = N4
      intro H4
      refine qw_region (C := fun W => Kcs w W [(N4, b0, b1, b2), (N3, b0, b1, b2), (N2, 0, 0, 1)]) (by kernel_rfl) (by kernel_rfl) H4.out.drew ?_
      refine qw_run (v := .int .i64 (0)) (by rfl) ?_ ?_
      · (intro w1 hC; obtain ⟨⟨⟨g00, g01, g02, -, -, -⟩, ⟨g10, g11, g12, -, -, -⟩, ⟨g20, g21, g22, -, -, -⟩, -⟩, -⟩ := hC; go_simp; first | done | (simp; done) | (simp [*]; done) | omega | (simp; omega) | (rw [IntKind.wrap_i64]; omega) | (intro hx; omega) | rfl)
      simp only [Act.put, List.setIfInBounds_toArray, List.set_cons_zero, List.set_cons_succ]
      refine qw_run (v := .bool false) (by rfl) ?_ ?_
      · (intro w1 hC; obtain ⟨⟨⟨g00, g01, g02, -, -, -⟩, ⟨g10, g11, g12, -, -, -⟩, ⟨g20, g21, g22, -, -, -⟩, -⟩, -⟩ := hC; go_simp; first | done | (simp; done) | (simp [*]; done) | omega | (simp; omega) | (rw [IntKind.wrap_i64]; omega) | (intro hx; omega) | rfl)
      simp only [Act.put, List.setIfInBounds_toArray, List.set_cons_zero, List.set_cons_succ]
      refine qw_run (v := .bool false) (by rfl) ?_ ?_
      · (intro w1 hC; obtain ⟨⟨⟨g00, g01, g02, -, -, -⟩, ⟨g10, g11, g12, -, -, -⟩, ⟨g20, g21, g22, -, -, -⟩, -⟩, -⟩ := hC; go_simp; first | done | (simp; done) | (simp [*]; done) | omega | (simp; omega) | (rw [IntKind.wrap_i64]; omega) | (intro hx; omega) | rfl)
      simp only [Act.put, List.setIfInBounds_toArray, List.set_cons_zero, List.set_cons_succ]
      refine qw_run (v := .int .i64 (0)) (by rfl) ?_ ?_
      · (intro w1 hC; obtain ⟨⟨⟨g00, g01, g02, -, -, -⟩, ⟨g10, g11, g12, -, -, -⟩, ⟨g20, g21, g22, -, -, -⟩, -⟩, -⟩ := hC; go_simp; first | done | (simp; done) | (simp [*]; done) | omega | (simp; omega) | (rw [IntKind.wrap_i64]; omega) | (intro hx; omega) | rfl)
      simp only [Act.put, List.setIfInBounds_toArray, List.set_cons_zero, List.set_cons_succ]
      refine qw_run (v := .bool true) (by rfl) ?_ ?_
      · (intro w1 hC; obtain ⟨⟨⟨g00, g01, g02, -, -, -⟩, ⟨g10, g11, g12, -, -, -⟩, ⟨g20, g21, g22, -, -, -⟩, -⟩, -⟩ := hC; go_simp; first | done | (simp; done) | (simp [*]; done) | omega | (simp; omega) | (rw [IntKind.wrap_i64]; omega) | (intro hx; omega) | rfl)
      simp only [Act.put, List.setIfInBounds_toArray, List.set_cons_zero, List.set_cons_succ]
      refine qw_run (v := .bool true) (by rfl) ?_ ?_
      · (intro w1 hC; obtain ⟨⟨⟨g00, g01, g02, -, -, -⟩, ⟨g10, g11, g12, -, -, -⟩, ⟨g20, g21, g22, -, -, -⟩, -⟩, -⟩ := hC; go_simp; first | done | (simp; done) | (simp [*]; done) | omega | (simp; omega) | (rw [IntKind.wrap_i64]; omega) | (intro hx; omega) | rfl)
      simp only [Act.put, List.setIfInBounds_toArray, List.set_cons_zero, List.set_cons_succ]
      refine qw_run (v := .agg #[.int .u64 0, .int .u64 0, .int .u64 1]) (by rfl) ?_ ?_
      · (intro w1 hC; obtain ⟨⟨⟨g00, g01, g02, -, -, -⟩, ⟨g10, g11, g12, -, -, -⟩, ⟨g20, g21, g22, -, -, -⟩, -⟩, -⟩ := hC; go_simp; first | done | (simp; done) | (simp [*]; done) | omega | (simp; omega) | (rw [IntKind.wrap_i64]; omega) | (intro hx; omega) | rfl)
      simp only [Act.put, List.setIfInBounds_toArray, List.set_cons_zero, List.set_cons_succ]
      refine qw_call (v := .agg #[.int .u64 0, .int .u64 0, .int .u64 1]) (f := 16) (args := #[.int .u64 1]) (by rfl) ?_ ?_ ?_
      · (intro w1 hC; clear hC; go_simp)
      · exact fun w1 hC => (KO w1).mono fun e w' ⟨he, hb⟩ => ⟨he, Kcs.below hC hb⟩
      simp only [Act.put, List.setIfInBounds_toArray, List.set_cons_zero, List.set_cons_succ]
      refine qw_run (v := .bool false) (by rfl) ?_ ?_
      · (intro w1 hC; obtain ⟨⟨⟨g00, g01, g02, -, -, -⟩, ⟨g10, g11, g12, -, -, -⟩, ⟨g20, g21, g22, -, -, -⟩, -⟩, -⟩ := hC; go_simp; first | done | (simp; done) | (simp [*]; done) | omega | (simp; omega) | (rw [IntKind.wrap_i64]; omega) | (intro hx; omega) | rfl)
      simp only [Act.put, List.setIfInBounds_toArray, List.set_cons_zero, List.set_cons_succ]
      refine qw_run (v := .bool false) (by rfl) ?_ ?_
      · (intro w1 hC; obtain ⟨⟨⟨g00, g01, g02, -, -, -⟩, ⟨g10, g11, g12, -, -, -⟩, ⟨g20, g21, g22, -, -, -⟩, -⟩, -⟩ := hC; go_simp; first | done | (simp; done) | (simp [*]; done) | omega | (simp; omega) | (rw [IntKind.wrap_i64]; omega) | (intro hx; omega) | rfl)
      simp only [Act.put, List.setIfInBounds_toArray, List.set_cons_zero, List.set_cons_succ]
      refine qw_run (v := .bool false) (by rfl) ?_ ?_
      · (intro w1 hC; obtain ⟨⟨⟨g00, g01, g02, -, -, -⟩, ⟨g10, g11, g12, -, -, -⟩, ⟨g20, g21, g22, -, -, -⟩, -⟩, -⟩ := hC; go_simp; first | done | (simp; done) | (simp [*]; done) | omega | (simp; omega) | (rw [IntKind.wrap_i64]; omega) | (intro hx; omega) | rfl)
      simp only [Act.put, List.setIfInBounds_toArray, List.set_cons_zero, List.set_cons_succ]
      refine qw_nil ?_
      intro v4r hC
      have Hr4 := hid9 hC
      clear H4 hC
      obtain ⟨f00, f01, f02, -, -, -⟩ := (Hr4.out.1.2).1
      obtain ⟨f10, f11, f12, -, -, -⟩ := (Hr4.out.1).1
      go_wp2
      go_ret
      exact ⟨rfl, Hr4.out.2⟩
  by_cases c1 : m = 191
  · subst c1
    have KA := fun w => add_out (2 ^ 191) (2 ^ 191) w (by decide) (by decide) (by decide)
    have KQ := fun w => pow9_any 192 w (by decide) (by decide)
    rw [show powN 192 = 0 from rfl, show powE 192 = 1 from rfl, costV_zero] at KQ
    rw [show ((191 : Nat) : Int) = 191 from rfl] at *
    unfold costV at KP KA
    generalize cost0 (2 ^ 191) = a0 at *
    generalize cost1 (2 ^ 191) = a1 at *
    generalize cost2 (2 ^ 191) = a2 at *
    clear hm c0
    rcases hway with ⟨d1, d2, d3⟩ | d2
    · go_enter Try.func8, Try.ntmps8
      go_wp2_with fail
      refine (KK _).mono ?_
      rintro e v1 ⟨rfl, hb⟩
      have H1 := hid9 (Kcs.below H0.out hb)
      clear H0 hb
      go_wp2_with fail
      refine (KP _).mono ?_
      rintro e v2 ⟨rfl, hb⟩
      have H2 := hid9 (Kcs.new (a := a0) (b := a1) (c := a2) H1.out hb)
      clear H1 hb
      go_wp2_with fail
      revert H2
      generalize v2.alloc (.cells #[.int .u64 a0, .int .u64 a1, .int .u64 a2] 24) = W2
      generalize v2.heap.size = N2
      intro H2
      refine (KA _).mono ?_
      rintro e v3 ⟨rfl, hb⟩
      have H3 := hid9 (Kcs.new (a := 0) (b := 0) (c := 0) H2.out hb)
      clear H2 hb
      go_wp2_with fail
      revert H3
      generalize v3.alloc (.cells #[.int .u64 0, .int .u64 0, .int .u64 0] 24) = W3
      generalize v3.heap.size = N3
      intro H3
      refine (KQ _).mono ?_
      rintro e v4 ⟨rfl, hb⟩
      have H4 := hid9 (Kcs.new (a := 0) (b := 0) (c := 0) H3.out hb)
      clear H3 hb
      go_wp2_with fail
      revert H4
      generalize v4.alloc (.cells #[.int .u64 0, .int .u64 0, .int .u64 0] 24) = W4
      generalize v4.heap.size = N4
      intro H4
      refine qw_region (C := fun W => Kcs w W [(N4, 0, 0, 0), (N3, 0, 0, 0), (N2, a0, a1, a2)]) (by kernel_rfl) (by kernel_rfl) H4.out.drew ?_
      refine qw_run (v := .int .i64 (0)) (by rfl) ?_ ?_
      · (intro w1 hC; obtain ⟨⟨⟨g00, g01, g02, -, -, -⟩, ⟨g10, g11, g12, -, -, -⟩, ⟨g20, g21, g22, -, -, -⟩, -⟩, -⟩ := hC; go_simp; first | done | (simp; done) | (simp [*]; done) | omega | (simp; omega) | (rw [IntKind.wrap_i64]; omega) | (intro hx; omega) | rfl)
      simp only [Act.put, List.setIfInBounds_toArray, List.set_cons_zero, List.set_cons_succ]
      refine qw_run (v := .bool false) (by rfl) ?_ ?_
      · (intro w1 hC; obtain ⟨⟨⟨g00, g01, g02, -, -, -⟩, ⟨g10, g11, g12, -, -, -⟩, ⟨g20, g21, g22, -, -, -⟩, -⟩, -⟩ := hC; go_simp; first | done | (simp; done) | (simp [*]; done) | omega | (simp; omega) | (rw [IntKind.wrap_i64]; omega) | (intro hx; omega) | rfl)
      simp only [Act.put, List.setIfInBounds_toArray, List.set_cons_zero, List.set_cons_succ]
      refine qw_run (v := .bool false) (by rfl) ?_ ?_
      · (intro w1 hC; obtain ⟨⟨⟨g00, g01, g02, -, -, -⟩, ⟨g10, g11, g12, -, -, -⟩, ⟨g20, g21, g22, -, -, -⟩, -⟩, -⟩ := hC; go_simp; first | done | (simp; done) | (simp [*]; done) | omega | (simp; omega) | (rw [IntKind.wrap_i64]; omega) | (intro hx; omega) | rfl)
      simp only [Act.put, List.setIfInBounds_toArray, List.set_cons_zero, List.set_cons_succ]
      refine qw_run (v := .int .i64 (191)) (by rfl) ?_ ?_
      · (intro w1 hC; obtain ⟨⟨⟨g00, g01, g02, -, -, -⟩, ⟨g10, g11, g12, -, -, -⟩, ⟨g20, g21, g22, -, -, -⟩, -⟩, -⟩ := hC; go_simp; first | done | (simp; done) | (simp [*]; done) | omega | (simp; omega) | (rw [IntKind.wrap_i64]; omega) | (intro hx; omega) | rfl)
      simp only [Act.put, List.setIfInBounds_toArray, List.set_cons_zero, List.set_cons_succ]
      refine qw_run (v := .bool false) (by rfl) ?_ ?_
      · (intro w1 hC; obtain ⟨⟨⟨g00, g01, g02, -, -, -⟩, ⟨g10, g11, g12, -, -, -⟩, ⟨g20, g21, g22, -, -, -⟩, -⟩, -⟩ := hC; go_simp; first | done | (simp; done) | (simp [*]; done) | omega | (simp; omega) | (rw [IntKind.wrap_i64]; omega) | (intro hx; omega) | rfl)
      simp only [Act.put, List.setIfInBounds_toArray, List.set_cons_zero, List.set_cons_succ]
      refine qw_run (v := .bool false) (by rfl) ?_ ?_
      · (intro w1 hC; obtain ⟨⟨⟨g00, g01, g02, -, -, -⟩, ⟨g10, g11, g12, -, -, -⟩, ⟨g20, g21, g22, -, -, -⟩, -⟩, -⟩ := hC; go_simp; first | done | (simp; done) | (simp [*]; done) | omega | (simp; omega) | (rw [IntKind.wrap_i64]; omega) | (intro hx; omega) | rfl)
      simp only [Act.put, List.setIfInBounds_toArray, List.set_cons_zero, List.set_cons_succ]
      refine qw_skip (by rfl) ?_
      simp only [Act.put, List.setIfInBounds_toArray, List.set_cons_zero, List.set_cons_succ]
      refine qw_skip (by rfl) ?_
      simp only [Act.put, List.setIfInBounds_toArray, List.set_cons_zero, List.set_cons_succ]
      refine qw_skip (by rfl) ?_
      simp only [Act.put, List.setIfInBounds_toArray, List.set_cons_zero, List.set_cons_succ]
      refine qw_run (v := .bool false) (by rfl) ?_ ?_
      · (intro w1 hC; obtain ⟨⟨⟨g00, g01, g02, -, -, -⟩, ⟨g10, g11, g12, -, -, -⟩, ⟨g20, g21, g22, -, -, -⟩, -⟩, -⟩ := hC; go_simp; first | done | (simp; done) | (simp [*]; done) | omega | (simp; omega) | (rw [IntKind.wrap_i64]; omega) | (intro hx; omega) | rfl)
      simp only [Act.put, List.setIfInBounds_toArray, List.set_cons_zero, List.set_cons_succ]
      refine qw_run (v := .bool false) (by rfl) ?_ ?_
      · (intro w1 hC; obtain ⟨⟨⟨g00, g01, g02, -, -, -⟩, ⟨g10, g11, g12, -, -, -⟩, ⟨g20, g21, g22, -, -, -⟩, -⟩, -⟩ := hC; go_simp; first | done | (simp; done) | (simp [*]; done) | omega | (simp; omega) | (rw [IntKind.wrap_i64]; omega) | (intro hx; omega) | rfl)
      simp only [Act.put, List.setIfInBounds_toArray, List.set_cons_zero, List.set_cons_succ]
      refine qw_nil ?_
      intro v4r hC
      have Hr4 := hid9 hC
      clear H4 hC
      obtain ⟨f00, f01, f02, -, -, -⟩ := (Hr4.out.1.2).1
      obtain ⟨f10, f11, f12, -, -, -⟩ := (Hr4.out.1).1
      go_wp2
      go_ret
      exact ⟨rfl, Hr4.out.2⟩
    · go_enter Try.func8, Try.ntmps8
      go_wp2_with fail
      refine (KK _).mono ?_
      rintro e v1 ⟨rfl, hb⟩
      have H1 := hid9 (Kcs.below H0.out hb)
      clear H0 hb
      go_wp2_with fail
      refine (KP _).mono ?_
      rintro e v2 ⟨rfl, hb⟩
      have H2 := hid9 (Kcs.new (a := a0) (b := a1) (c := a2) H1.out hb)
      clear H1 hb
      go_wp2_with fail
      revert H2
      generalize v2.alloc (.cells #[.int .u64 a0, .int .u64 a1, .int .u64 a2] 24) = W2
      generalize v2.heap.size = N2
      intro H2
      refine (KA _).mono ?_
      rintro e v3 ⟨rfl, hb⟩
      have H3 := hid9 (Kcs.new (a := 0) (b := 0) (c := 0) H2.out hb)
      clear H2 hb
      go_wp2_with fail
      revert H3
      generalize v3.alloc (.cells #[.int .u64 0, .int .u64 0, .int .u64 0] 24) = W3
      generalize v3.heap.size = N3
      intro H3
      refine (KQ _).mono ?_
      rintro e v4 ⟨rfl, hb⟩
      have H4 := hid9 (Kcs.new (a := 0) (b := 0) (c := 0) H3.out hb)
      clear H3 hb
      go_wp2_with fail
      revert H4
      generalize v4.alloc (.cells #[.int .u64 0, .int .u64 0, .int .u64 0] 24) = W4
      generalize v4.heap.size = N4
      intro H4
      refine qw_region (C := fun W => Kcs w W [(N4, 0, 0, 0), (N3, 0, 0, 0), (N2, a0, a1, a2)]) (by kernel_rfl) (by kernel_rfl) H4.out.drew ?_
      refine qw_run (v := .int .i64 (0)) (by rfl) ?_ ?_
      · (intro w1 hC; obtain ⟨⟨⟨g00, g01, g02, -, -, -⟩, ⟨g10, g11, g12, -, -, -⟩, ⟨g20, g21, g22, -, -, -⟩, -⟩, -⟩ := hC; go_simp; first | done | (simp; done) | (simp [*]; done) | omega | (simp; omega) | (rw [IntKind.wrap_i64]; omega) | (intro hx; omega) | rfl)
      simp only [Act.put, List.setIfInBounds_toArray, List.set_cons_zero, List.set_cons_succ]
      refine qw_run (v := .bool false) (by rfl) ?_ ?_
      · (intro w1 hC; obtain ⟨⟨⟨g00, g01, g02, -, -, -⟩, ⟨g10, g11, g12, -, -, -⟩, ⟨g20, g21, g22, -, -, -⟩, -⟩, -⟩ := hC; go_simp; first | done | (simp; done) | (simp [*]; done) | omega | (simp; omega) | (rw [IntKind.wrap_i64]; omega) | (intro hx; omega) | rfl)
      simp only [Act.put, List.setIfInBounds_toArray, List.set_cons_zero, List.set_cons_succ]
      refine qw_run (v := .bool false) (by rfl) ?_ ?_
      · (intro w1 hC; obtain ⟨⟨⟨g00, g01, g02, -, -, -⟩, ⟨g10, g11, g12, -, -, -⟩, ⟨g20, g21, g22, -, -, -⟩, -⟩, -⟩ := hC; go_simp; first | done | (simp; done) | (simp [*]; done) | omega | (simp; omega) | (rw [IntKind.wrap_i64]; omega) | (intro hx; omega) | rfl)
      simp only [Act.put, List.setIfInBounds_toArray, List.set_cons_zero, List.set_cons_succ]
      refine qw_run (v := .int .i64 (191)) (by rfl) ?_ ?_
      · (intro w1 hC; obtain ⟨⟨⟨g00, g01, g02, -, -, -⟩, ⟨g10, g11, g12, -, -, -⟩, ⟨g20, g21, g22, -, -, -⟩, -⟩, -⟩ := hC; go_simp; first | done | (simp; done) | (simp [*]; done) | omega | (simp; omega) | (rw [IntKind.wrap_i64]; omega) | (intro hx; omega) | rfl)
      simp only [Act.put, List.setIfInBounds_toArray, List.set_cons_zero, List.set_cons_succ]
      refine qw_run (v := .bool false) (by rfl) ?_ ?_
      · (intro w1 hC; obtain ⟨⟨⟨g00, g01, g02, -, -, -⟩, ⟨g10, g11, g12, -, -, -⟩, ⟨g20, g21, g22, -, -, -⟩, -⟩, -⟩ := hC; go_simp; first | done | (simp; done) | (simp [*]; done) | omega | (simp; omega) | (rw [IntKind.wrap_i64]; omega) | (intro hx; omega) | rfl)
      simp only [Act.put, List.setIfInBounds_toArray, List.set_cons_zero, List.set_cons_succ]
      refine qw_run (v := .bool false) (by rfl) ?_ ?_
      · (intro w1 hC; obtain ⟨⟨⟨g00, g01, g02, -, -, -⟩, ⟨g10, g11, g12, -, -, -⟩, ⟨g20, g21, g22, -, -, -⟩, -⟩, -⟩ := hC; go_simp; first | done | (simp; done) | (simp [*]; done) | omega | (simp; omega) | (rw [IntKind.wrap_i64]; omega) | (intro hx; omega) | rfl)
      simp only [Act.put, List.setIfInBounds_toArray, List.set_cons_zero, List.set_cons_succ]
      refine qw_skip (by rfl) ?_
      simp only [Act.put, List.setIfInBounds_toArray, List.set_cons_zero, List.set_cons_succ]
      refine qw_skip (by rfl) ?_
      simp only [Act.put, List.setIfInBounds_toArray, List.set_cons_zero, List.set_cons_succ]
      refine qw_skip (by rfl) ?_
      simp only [Act.put, List.setIfInBounds_toArray, List.set_cons_zero, List.set_cons_succ]
      refine qw_run (v := .bool false) (by rfl) ?_ ?_
      · (intro w1 hC; obtain ⟨⟨⟨g00, g01, g02, -, -, -⟩, ⟨g10, g11, g12, -, -, -⟩, ⟨g20, g21, g22, -, -, -⟩, -⟩, -⟩ := hC; go_simp; first | done | (simp; done) | (simp [*]; done) | omega | (simp; omega) | (rw [IntKind.wrap_i64]; omega) | (intro hx; omega) | rfl)
      simp only [Act.put, List.setIfInBounds_toArray, List.set_cons_zero, List.set_cons_succ]
      refine qw_run (v := .bool false) (by rfl) ?_ ?_
      · (intro w1 hC; obtain ⟨⟨⟨g00, g01, g02, -, -, -⟩, ⟨g10, g11, g12, -, -, -⟩, ⟨g20, g21, g22, -, -, -⟩, -⟩, -⟩ := hC; go_simp; first | done | (simp; done) | (simp [*]; done) | omega | (simp; omega) | (rw [IntKind.wrap_i64]; omega) | (intro hx; omega) | rfl)
      simp only [Act.put, List.setIfInBounds_toArray, List.set_cons_zero, List.set_cons_succ]
      refine qw_nil ?_
      intro v4r hC
      have Hr4 := hid9 hC
      clear H4 hC
      obtain ⟨f00, f01, f02, -, -, -⟩ := (Hr4.out.1.2).1
      obtain ⟨f10, f11, f12, -, -, -⟩ := (Hr4.out.1).1
      go_wp2
      go_ret
      exact ⟨rfl, Hr4.out.2⟩
  · have hp : 2 ^ (m + 1) ≤ 2 ^ 191 := Nat.pow_le_pow_right (by decide) (by omega)
    have KA := fun w => add_in (2 ^ m) (2 ^ m) w (by rw [pow_sum]; exact Nat.lt_of_le_of_lt hp (by decide))
    have KQ := fun w => pow9_any ((m + 1 : Nat) : Int) w (by omega) (by omega)
    rw [(pow_in (m + 1) (by omega)).1, (pow_in (m + 1) (by omega)).2] at KQ
    rw [pow_sum] at KA
    unfold costV at KP KA KQ
    generalize cost0 (2 ^ (m + 1)) = b0 at *
    generalize cost1 (2 ^ (m + 1)) = b1 at *
    generalize cost2 (2 ^ (m + 1)) = b2 at *
    generalize cost0 (2 ^ m) = a0 at *
    generalize cost1 (2 ^ m) = a1 at *
    generalize cost2 (2 ^ m) = a2 at *
    have q1 := eqC_same b0 b1 b2
    have e1 : IntKind.i64.wrap ((m : Int) + 1) = ((m + 1 : Nat) : Int) := by rw [IntKind.wrap_i64]; omega
    have e2 : ((m : Int) == 0) = false := by simp; omega
    have e3 : ((m : Int) == 191) = false := by simp; omega
    have e4 : ¬ (m : Int) < 0 := by omega
    generalize ((m + 1 : Nat) : Int) = m1 at *
    generalize (m : Int) = m' at *
    clear hm hp c0 c1
    rcases hway with ⟨d1, d2, d3⟩ | d2
    · go_enter Try.func8, Try.ntmps8
      go_wp2_with fail
      refine (KK _).mono ?_
      rintro e v1 ⟨rfl, hb⟩
      have H1 := hid9 (Kcs.below H0.out hb)
      clear H0 hb
      go_wp2_with fail
      refine (KP _).mono ?_
      rintro e v2 ⟨rfl, hb⟩
      have H2 := hid9 (Kcs.new (a := a0) (b := a1) (c := a2) H1.out hb)
      clear H1 hb
      go_wp2_with fail
      revert H2
      generalize v2.alloc (.cells #[.int .u64 a0, .int .u64 a1, .int .u64 a2] 24) = W2
      generalize v2.heap.size = N2
      intro H2
      refine (KA _).mono ?_
      rintro e v3 ⟨rfl, hb⟩
      have H3 := hid9 (Kcs.new (a := b0) (b := b1) (c := b2) H2.out hb)
      clear H2 hb
      go_wp2_with fail
      revert H3
      generalize v3.alloc (.cells #[.int .u64 b0, .int .u64 b1, .int .u64 b2] 24) = W3
      generalize v3.heap.size = N3
      intro H3
      refine (KQ _).mono ?_
      rintro e v4 ⟨rfl, hb⟩
      have H4 := hid9 (Kcs.new (a := b0) (b := b1) (c := b2) H3.out hb)
      clear H3 hb
      go_wp2_with fail
      revert H4
      generalize v4.alloc (.cells #[.int .u64 b0, .int .u64 b1, .int .u64 b2] 24) = W4
      generalize v4.heap.size = N4
      intro H4
      refine qw_region (C := fun W => Kcs w W [(N4, b0, b1, b2), (N3, b0, b1, b2), (N2, a0, a1, a2)]) (by kernel_rfl) (by kernel_rfl) H4.out.drew ?_
      refine qw_run (v := .int .i64 (0)) (by rfl) ?_ ?_
      · (intro w1 hC; obtain ⟨⟨⟨g00, g01, g02, -, -, -⟩, ⟨g10, g11, g12, -, -, -⟩, ⟨g20, g21, g22, -, -, -⟩, -⟩, -⟩ := hC; go_simp; first | done | (simp; done) | (simp [*]; done) | omega | (simp; omega) | (rw [IntKind.wrap_i64]; omega) | (intro hx; omega) | rfl)
      simp only [Act.put, List.setIfInBounds_toArray, List.set_cons_zero, List.set_cons_succ]
      refine qw_run (v := .bool false) (by rfl) ?_ ?_
      · (intro w1 hC; obtain ⟨⟨⟨g00, g01, g02, -, -, -⟩, ⟨g10, g11, g12, -, -, -⟩, ⟨g20, g21, g22, -, -, -⟩, -⟩, -⟩ := hC; go_simp; first | done | (simp; done) | (simp [*]; done) | omega | (simp; omega) | (rw [IntKind.wrap_i64]; omega) | (intro hx; omega) | rfl)
      simp only [Act.put, List.setIfInBounds_toArray, List.set_cons_zero, List.set_cons_succ]
      refine qw_run (v := .bool false) (by rfl) ?_ ?_
      · (intro w1 hC; obtain ⟨⟨⟨g00, g01, g02, -, -, -⟩, ⟨g10, g11, g12, -, -, -⟩, ⟨g20, g21, g22, -, -, -⟩, -⟩, -⟩ := hC; go_simp; first | done | (simp; done) | (simp [*]; done) | omega | (simp; omega) | (rw [IntKind.wrap_i64]; omega) | (intro hx; omega) | rfl)
      simp only [Act.put, List.setIfInBounds_toArray, List.set_cons_zero, List.set_cons_succ]
      refine qw_run (v := .int .i64 (m')) (by rfl) ?_ ?_
      · (intro w1 hC; obtain ⟨⟨⟨g00, g01, g02, -, -, -⟩, ⟨g10, g11, g12, -, -, -⟩, ⟨g20, g21, g22, -, -, -⟩, -⟩, -⟩ := hC; go_simp; first | done | (simp; done) | (simp [*]; done) | omega | (simp; omega) | (rw [IntKind.wrap_i64]; omega) | (intro hx; omega) | rfl)
      simp only [Act.put, List.setIfInBounds_toArray, List.set_cons_zero, List.set_cons_succ]
      refine qw_run (v := .bool false) (by rfl) ?_ ?_
      · (intro w1 hC; obtain ⟨⟨⟨g00, g01, g02, -, -, -⟩, ⟨g10, g11, g12, -, -, -⟩, ⟨g20, g21, g22, -, -, -⟩, -⟩, -⟩ := hC; go_simp; first | done | (simp; done) | (simp [*]; done) | omega | (simp; omega) | (rw [IntKind.wrap_i64]; omega) | (intro hx; omega) | rfl)
      simp only [Act.put, List.setIfInBounds_toArray, List.set_cons_zero, List.set_cons_succ]
      refine qw_run (v := .bool false) (by rfl) ?_ ?_
      · (intro w1 hC; obtain ⟨⟨⟨g00, g01, g02, -, -, -⟩, ⟨g10, g11, g12, -, -, -⟩, ⟨g20, g21, g22, -, -, -⟩, -⟩, -⟩ := hC; go_simp; first | done | (simp; done) | (simp [*]; done) | omega | (simp; omega) | (rw [IntKind.wrap_i64]; omega) | (intro hx; omega) | rfl)
      simp only [Act.put, List.setIfInBounds_toArray, List.set_cons_zero, List.set_cons_succ]
      refine qw_skip (by rfl) ?_
      simp only [Act.put, List.setIfInBounds_toArray, List.set_cons_zero, List.set_cons_succ]
      refine qw_skip (by rfl) ?_
      simp only [Act.put, List.setIfInBounds_toArray, List.set_cons_zero, List.set_cons_succ]
      refine qw_skip (by rfl) ?_
      simp only [Act.put, List.setIfInBounds_toArray, List.set_cons_zero, List.set_cons_succ]
      refine qw_run (v := .bool false) (by rfl) ?_ ?_
      · (intro w1 hC; obtain ⟨⟨⟨g00, g01, g02, -, -, -⟩, ⟨g10, g11, g12, -, -, -⟩, ⟨g20, g21, g22, -, -, -⟩, -⟩, -⟩ := hC; go_simp; first | done | (simp; done) | (simp [*]; done) | omega | (simp; omega) | (rw [IntKind.wrap_i64]; omega) | (intro hx; omega) | rfl)
      simp only [Act.put, List.setIfInBounds_toArray, List.set_cons_zero, List.set_cons_succ]
      refine qw_run (v := .bool false) (by rfl) ?_ ?_
      · (intro w1 hC; obtain ⟨⟨⟨g00, g01, g02, -, -, -⟩, ⟨g10, g11, g12, -, -, -⟩, ⟨g20, g21, g22, -, -, -⟩, -⟩, -⟩ := hC; go_simp; first | done | (simp; done) | (simp [*]; done) | omega | (simp; omega) | (rw [IntKind.wrap_i64]; omega) | (intro hx; omega) | rfl)
      simp only [Act.put, List.setIfInBounds_toArray, List.set_cons_zero, List.set_cons_succ]
      refine qw_nil ?_
      intro v4r hC
      have Hr4 := hid9 hC
      clear H4 hC
      obtain ⟨f00, f01, f02, -, -, -⟩ := (Hr4.out.1.2).1
      obtain ⟨f10, f11, f12, -, -, -⟩ := (Hr4.out.1).1
      go_wp2
      go_ret
      exact ⟨rfl, Hr4.out.2⟩
    · go_enter Try.func8, Try.ntmps8
      go_wp2_with fail
      refine (KK _).mono ?_
      rintro e v1 ⟨rfl, hb⟩
      have H1 := hid9 (Kcs.below H0.out hb)
      clear H0 hb
      go_wp2_with fail
      refine (KP _).mono ?_
      rintro e v2 ⟨rfl, hb⟩
      have H2 := hid9 (Kcs.new (a := a0) (b := a1) (c := a2) H1.out hb)
      clear H1 hb
      go_wp2_with fail
      revert H2
      generalize v2.alloc (.cells #[.int .u64 a0, .int .u64 a1, .int .u64 a2] 24) = W2
      generalize v2.heap.size = N2
      intro H2
      refine (KA _).mono ?_
      rintro e v3 ⟨rfl, hb⟩
      have H3 := hid9 (Kcs.new (a := b0) (b := b1) (c := b2) H2.out hb)
      clear H2 hb
      go_wp2_with fail
      revert H3
      generalize v3.alloc (.cells #[.int .u64 b0, .int .u64 b1, .int .u64 b2] 24) = W3
      generalize v3.heap.size = N3
      intro H3
      refine (KQ _).mono ?_
      rintro e v4 ⟨rfl, hb⟩
      have H4 := hid9 (Kcs.new (a := b0) (b := b1) (c := b2) H3.out hb)
      clear H3 hb
      go_wp2_with fail
      revert H4
      generalize v4.alloc (.cells #[.int .u64 b0, .int .u64 b1, .int .u64 b2] 24) = W4
      generalize v4.heap.size = N4
      intro H4
      refine qw_region (C := fun W => Kcs w W [(N4, b0, b1, b2), (N3, b0, b1, b2), (N2, a0, a1, a2)]) (by kernel_rfl) (by kernel_rfl) H4.out.drew ?_
      refine qw_run (v := .int .i64 (0)) (by rfl) ?_ ?_
      · (intro w1 hC; obtain ⟨⟨⟨g00, g01, g02, -, -, -⟩, ⟨g10, g11, g12, -, -, -⟩, ⟨g20, g21, g22, -, -, -⟩, -⟩, -⟩ := hC; go_simp; first | done | (simp; done) | (simp [*]; done) | omega | (simp; omega) | (rw [IntKind.wrap_i64]; omega) | (intro hx; omega) | rfl)
      simp only [Act.put, List.setIfInBounds_toArray, List.set_cons_zero, List.set_cons_succ]
      refine qw_run (v := .bool false) (by rfl) ?_ ?_
      · (intro w1 hC; obtain ⟨⟨⟨g00, g01, g02, -, -, -⟩, ⟨g10, g11, g12, -, -, -⟩, ⟨g20, g21, g22, -, -, -⟩, -⟩, -⟩ := hC; go_simp; first | done | (simp; done) | (simp [*]; done) | omega | (simp; omega) | (rw [IntKind.wrap_i64]; omega) | (intro hx; omega) | rfl)
      simp only [Act.put, List.setIfInBounds_toArray, List.set_cons_zero, List.set_cons_succ]
      refine qw_run (v := .bool false) (by rfl) ?_ ?_
      · (intro w1 hC; obtain ⟨⟨⟨g00, g01, g02, -, -, -⟩, ⟨g10, g11, g12, -, -, -⟩, ⟨g20, g21, g22, -, -, -⟩, -⟩, -⟩ := hC; go_simp; first | done | (simp; done) | (simp [*]; done) | omega | (simp; omega) | (rw [IntKind.wrap_i64]; omega) | (intro hx; omega) | rfl)
      simp only [Act.put, List.setIfInBounds_toArray, List.set_cons_zero, List.set_cons_succ]
      refine qw_run (v := .int .i64 (m')) (by rfl) ?_ ?_
      · (intro w1 hC; obtain ⟨⟨⟨g00, g01, g02, -, -, -⟩, ⟨g10, g11, g12, -, -, -⟩, ⟨g20, g21, g22, -, -, -⟩, -⟩, -⟩ := hC; go_simp; first | done | (simp; done) | (simp [*]; done) | omega | (simp; omega) | (rw [IntKind.wrap_i64]; omega) | (intro hx; omega) | rfl)
      simp only [Act.put, List.setIfInBounds_toArray, List.set_cons_zero, List.set_cons_succ]
      refine qw_run (v := .bool false) (by rfl) ?_ ?_
      · (intro w1 hC; obtain ⟨⟨⟨g00, g01, g02, -, -, -⟩, ⟨g10, g11, g12, -, -, -⟩, ⟨g20, g21, g22, -, -, -⟩, -⟩, -⟩ := hC; go_simp; first | done | (simp; done) | (simp [*]; done) | omega | (simp; omega) | (rw [IntKind.wrap_i64]; omega) | (intro hx; omega) | rfl)
      simp only [Act.put, List.setIfInBounds_toArray, List.set_cons_zero, List.set_cons_succ]
      refine qw_run (v := .bool false) (by rfl) ?_ ?_
      · (intro w1 hC; obtain ⟨⟨⟨g00, g01, g02, -, -, -⟩, ⟨g10, g11, g12, -, -, -⟩, ⟨g20, g21, g22, -, -, -⟩, -⟩, -⟩ := hC; go_simp; first | done | (simp; done) | (simp [*]; done) | omega | (simp; omega) | (rw [IntKind.wrap_i64]; omega) | (intro hx; omega) | rfl)
      simp only [Act.put, List.setIfInBounds_toArray, List.set_cons_zero, List.set_cons_succ]
      refine qw_skip (by rfl) ?_
      simp only [Act.put, List.setIfInBounds_toArray, List.set_cons_zero, List.set_cons_succ]
      refine qw_skip (by rfl) ?_
      simp only [Act.put, List.setIfInBounds_toArray, List.set_cons_zero, List.set_cons_succ]
      refine qw_skip (by rfl) ?_
      simp only [Act.put, List.setIfInBounds_toArray, List.set_cons_zero, List.set_cons_succ]
      refine qw_run (v := .bool false) (by rfl) ?_ ?_
      · (intro w1 hC; obtain ⟨⟨⟨g00, g01, g02, -, -, -⟩, ⟨g10, g11, g12, -, -, -⟩, ⟨g20, g21, g22, -, -, -⟩, -⟩, -⟩ := hC; go_simp; first | done | (simp; done) | (simp [*]; done) | omega | (simp; omega) | (rw [IntKind.wrap_i64]; omega) | (intro hx; omega) | rfl)
      simp only [Act.put, List.setIfInBounds_toArray, List.set_cons_zero, List.set_cons_succ]
      refine qw_run (v := .bool false) (by rfl) ?_ ?_
      · (intro w1 hC; obtain ⟨⟨⟨g00, g01, g02, -, -, -⟩, ⟨g10, g11, g12, -, -, -⟩, ⟨g20, g21, g22, -, -, -⟩, -⟩, -⟩ := hC; go_simp; first | done | (simp; done) | (simp [*]; done) | omega | (simp; omega) | (rw [IntKind.wrap_i64]; omega) | (intro hx; omega) | rfl)
      simp only [Act.put, List.setIfInBounds_toArray, List.set_cons_zero, List.set_cons_succ]
      refine qw_nil ?_
      intro v4r hC
      have Hr4 := hid9 hC
      clear H4 hC
      obtain ⟨f00, f01, f02, -, -, -⟩ := (Hr4.out.1.2).1
      obtain ⟨f10, f11, f12, -, -, -⟩ := (Hr4.out.1).1
      go_wp2
      go_ret
      exact ⟨rfl, Hr4.out.2⟩
end Go.Proofs.Ytnaamkkjledllaa
