/-
  Part 9 of the proof: 2 texts, one behind the other.
-/
import Derived.Test.YtnaamkkjledllaaPart7
import Derived.Test.YtnaamkkjledllaaPart8
import Derived.Test.YtnaamkkjledllaaRows
import Derived.Test.YtnaamkkjledllaaPart2
import Derived.ProofKit
import Derived.Lib.SmallJoins
import Derived.Laws.IdiomArrays
/-
  The law CostSums: sums, products, powers and the order, as the document has them.
-/
namespace Go.Proofs.Ytnaamkkjledllaa
open Go.RowKit
set_option linter.unusedSimpArgs false
set_option linter.unusedVariables false


set_option maxRecDepth 20000 in
set_option maxHeartbeats 16000000 in
theorem costSums_any (N M n : Nat) (p : Int) (w : World) (hN : N < 6277101735386680763835789423207666416102355444464034512896) (hM : M < 6277101735386680763835789423207666416102355444464034512896) (hn : n < 18446744073709551616) (p0 : -9223372036854775808 ≤ p) (p1 : p ≤ 9223372036854775807) :
    Calls Try.prog 3 #[costV N, costV M, .int .u64 (n : Int), .int .i64 p] w fun e w' => e = .returned (.bool true) ∧ Below w.heap.size w w' := by
  have KK := known9_any
  have KA := fun w => add9_any N M w hN hM
  have KM := fun w => mul9_any N n w hN hn
  have KP := fun w => pow9_any p w p0 p1
  have RA := fun w => raddc_any N M w hN hM
  have RM := fun w => rmul9_any N n w hN hn
  have RP := fun w => rpow9_any p w p0 p1
  have KO := fun w => of9_any (n : Int) w
  have RO := fun w => rof9_any (n : Int) w
  have KC := fun w => cmp9_any N M w
  have RC := fun w => rcmp9_any N M w
  clear hN hM hn p0 p1
  generalize fitE9 (N + M) = es at *
  generalize fitE9 (N * n) = ep at *
  generalize powE p = eq at *
  generalize fitN (N + M) = S at *
  generalize fitN (N * n) = P at *
  generalize powN p = Q at *
  generalize cmpN N M = c at *
  generalize (n : Int) = n' at *
  unfold costV at *
  generalize cost0 N = x0 at *
  generalize cost1 N = x1 at *
  generalize cost2 N = x2 at *
  generalize cost0 M = y0 at *
  generalize cost1 M = y1 at *
  generalize cost2 M = y2 at *
  generalize cost0 S = s0 at *
  generalize cost1 S = s1 at *
  generalize cost2 S = s2 at *
  generalize cost0 P = p0 at *
  generalize cost1 P = p1 at *
  generalize cost2 P = p2 at *
  generalize cost0 Q = q0 at *
  generalize cost1 Q = q1 at *
  generalize cost2 Q = q2 at *
  have h1 := eqC_same s0 s1 s2
  have h2 := eqC_same p0 p1 p2
  have h3 := eqC_same q0 q1 q2
  have h4 := eqC_same 0 0 n'
  have H0 := hid9 (Kcs.two w x0 x1 x2 y0 y1 y2)
  go_enter Try.func3, Try.ntmps3
  go_wp2_with fail
  revert H0
  generalize (w.alloc (.cells #[.int .u64 x0, .int .u64 x1, .int .u64 x2] 24)).alloc (.cells #[.int .u64 y0, .int .u64 y1, .int .u64 y2] 24) = W0
  intro H0
  refine (KA _).mono ?_
  rintro e v1 ⟨rfl, hb⟩
  have H1 := hid9 (Kcs.new (a := s0) (b := s1) (c := s2) H0.out hb)
  clear H0 hb
  obtain ⟨f00, f01, f02, -, -, -⟩ := (H1.out.1.2.2).1
  go_wp2_with fail
  clear f00 f01 f02
  revert H1
  generalize v1.alloc (.cells #[.int .u64 s0, .int .u64 s1, .int .u64 s2] 24) = W1
  generalize v1.heap.size = N1
  intro H1
  refine (KM _).mono ?_
  rintro e v2 ⟨rfl, hb⟩
  have H2 := hid9 (Kcs.new (a := p0) (b := p1) (c := p2) H1.out hb)
  clear H1 hb
  go_wp2_with fail
  revert H2
  generalize v2.alloc (.cells #[.int .u64 p0, .int .u64 p1, .int .u64 p2] 24) = W2
  generalize v2.heap.size = N2
  intro H2
  refine (KP _).mono ?_
  rintro e v3 ⟨rfl, hb⟩
  have H3 := hid9 (Kcs.new (a := q0) (b := q1) (c := q2) H2.out hb)
  clear H2 hb
  obtain ⟨f00, f01, f02, -, -, -⟩ := (H3.out.1.2.2.2.2).1
  obtain ⟨f10, f11, f12, -, -, -⟩ := (H3.out.1.2.2.2).1
  go_wp2_with fail
  clear f00 f01 f02 f10 f11 f12
  revert H3
  generalize v3.alloc (.cells #[.int .u64 q0, .int .u64 q1, .int .u64 q2] 24) = W3
  generalize v3.heap.size = N3
  intro H3
  refine (RA _).mono ?_
  rintro e v4 ⟨rfl, hb⟩
  have H4 := hid9 (Kcs.new (a := s0) (b := s1) (c := s2) H3.out hb)
  clear H3 hb
  obtain ⟨f00, f01, f02, -, -, -⟩ := (H4.out.1.2.2.2.2.2).1
  go_wp2_with fail
  clear f00 f01 f02
  revert H4
  generalize v4.alloc (.cells #[.int .u64 s0, .int .u64 s1, .int .u64 s2] 24) = W4
  generalize v4.heap.size = N4
  intro H4
  refine (RM _).mono ?_
  rintro e v5 ⟨rfl, hb⟩
  have H5 := hid9 (Kcs.new (a := p0) (b := p1) (c := p2) H4.out hb)
  clear H4 hb
  go_wp2_with fail
  revert H5
  generalize v5.alloc (.cells #[.int .u64 p0, .int .u64 p1, .int .u64 p2] 24) = W5
  generalize v5.heap.size = N5
  intro H5
  refine (RP _).mono ?_
  rintro e v6 ⟨rfl, hb⟩
  have H6 := hid9 (Kcs.new (a := q0) (b := q1) (c := q2) H5.out hb)
  clear H5 hb
  go_wp2_with fail
  revert H6
  generalize v6.alloc (.cells #[.int .u64 q0, .int .u64 q1, .int .u64 q2] 24) = W6
  generalize v6.heap.size = N6
  intro H6
  refine qw_region (C := fun W => Kcs w W [(N6, q0, q1, q2), (N5, p0, p1, p2), (N4, s0, s1, s2), (N3, q0, q1, q2), (N2, p0, p1, p2), (N1, s0, s1, s2), (w.heap.size + 1, y0, y1, y2), (w.heap.size, x0, x1, x2)]) (by kernel_rfl) (by kernel_rfl) H6.out.drew ?_
  refine qw_call (v := .bool true) (f := 15) (args := #[]) (by rfl) ?_ ?_ ?_
  · (intro w1 hC; clear hC; go_simp)
  · exact fun w1 hC => (KK w1).mono fun e w' ⟨he, hb⟩ => ⟨he, Kcs.below hC hb⟩
  simp only [Act.put, List.setIfInBounds_toArray, List.set_cons_zero, List.set_cons_succ]
  refine qw_run (v := .bool true) (by rfl) ?_ ?_
  · (intro w1 hC; obtain ⟨⟨⟨g00, g01, g02, -, -, -⟩, ⟨g10, g11, g12, -, -, -⟩, ⟨g20, g21, g22, -, -, -⟩, ⟨g30, g31, g32, -, -, -⟩, ⟨g40, g41, g42, -, -, -⟩, ⟨g50, g51, g52, -, -, -⟩, ⟨g60, g61, g62, -, -, -⟩, ⟨g70, g71, g72, -, -, -⟩, -⟩, -⟩ := hC; go_simp; first | done | (simp; done) | (simp [*]; done) | omega | (simp; omega) | (rw [IntKind.wrap_i64]; omega) | (intro hx; omega) | rfl)
  simp only [Act.put, List.setIfInBounds_toArray, List.set_cons_zero, List.set_cons_succ]
  refine qw_run (v := .agg #[.int .u64 s0, .int .u64 s1, .int .u64 s2]) (by rfl) ?_ ?_
  · (intro w1 hC; obtain ⟨⟨⟨g00, g01, g02, -, -, -⟩, ⟨g10, g11, g12, -, -, -⟩, ⟨g20, g21, g22, -, -, -⟩, ⟨g30, g31, g32, -, -, -⟩, ⟨g40, g41, g42, -, -, -⟩, ⟨g50, g51, g52, -, -, -⟩, ⟨g60, g61, g62, -, -, -⟩, ⟨g70, g71, g72, -, -, -⟩, -⟩, -⟩ := hC; go_simp; first | done | (simp; done) | (simp [*]; done) | omega | (simp; omega) | (rw [IntKind.wrap_i64]; omega) | (intro hx; omega) | rfl)
  simp only [Act.put, List.setIfInBounds_toArray, List.set_cons_zero, List.set_cons_succ]
  refine qw_run (v := .agg #[.int .u64 s0, .int .u64 s1, .int .u64 s2]) (by rfl) ?_ ?_
  · (intro w1 hC; obtain ⟨⟨⟨g00, g01, g02, -, -, -⟩, ⟨g10, g11, g12, -, -, -⟩, ⟨g20, g21, g22, -, -, -⟩, ⟨g30, g31, g32, -, -, -⟩, ⟨g40, g41, g42, -, -, -⟩, ⟨g50, g51, g52, -, -, -⟩, ⟨g60, g61, g62, -, -, -⟩, ⟨g70, g71, g72, -, -, -⟩, -⟩, -⟩ := hC; go_simp; first | done | (simp; done) | (simp [*]; done) | omega | (simp; omega) | (rw [IntKind.wrap_i64]; omega) | (intro hx; omega) | rfl)
  simp only [Act.put, List.setIfInBounds_toArray, List.set_cons_zero, List.set_cons_succ]
  refine qw_run (v := .bool true) (by rfl) ?_ ?_
  · (intro w1 hC; obtain ⟨⟨⟨g00, g01, g02, -, -, -⟩, ⟨g10, g11, g12, -, -, -⟩, ⟨g20, g21, g22, -, -, -⟩, ⟨g30, g31, g32, -, -, -⟩, ⟨g40, g41, g42, -, -, -⟩, ⟨g50, g51, g52, -, -, -⟩, ⟨g60, g61, g62, -, -, -⟩, ⟨g70, g71, g72, -, -, -⟩, -⟩, -⟩ := hC; go_simp; first | done | (simp; done) | (simp [*]; done) | omega | (simp; omega) | (rw [IntKind.wrap_i64]; omega) | (intro hx; omega) | rfl)
  simp only [Act.put, List.setIfInBounds_toArray, List.set_cons_zero, List.set_cons_succ]
  refine qw_run (v := .bool true) (by rfl) ?_ ?_
  · (intro w1 hC; obtain ⟨⟨⟨g00, g01, g02, -, -, -⟩, ⟨g10, g11, g12, -, -, -⟩, ⟨g20, g21, g22, -, -, -⟩, ⟨g30, g31, g32, -, -, -⟩, ⟨g40, g41, g42, -, -, -⟩, ⟨g50, g51, g52, -, -, -⟩, ⟨g60, g61, g62, -, -, -⟩, ⟨g70, g71, g72, -, -, -⟩, -⟩, -⟩ := hC; go_simp; first | done | (simp; done) | (simp [*]; done) | omega | (simp; omega) | (rw [IntKind.wrap_i64]; omega) | (intro hx; omega) | rfl)
  simp only [Act.put, List.setIfInBounds_toArray, List.set_cons_zero, List.set_cons_succ]
  refine qw_run (v := .bool true) (by rfl) ?_ ?_
  · (intro w1 hC; obtain ⟨⟨⟨g00, g01, g02, -, -, -⟩, ⟨g10, g11, g12, -, -, -⟩, ⟨g20, g21, g22, -, -, -⟩, ⟨g30, g31, g32, -, -, -⟩, ⟨g40, g41, g42, -, -, -⟩, ⟨g50, g51, g52, -, -, -⟩, ⟨g60, g61, g62, -, -, -⟩, ⟨g70, g71, g72, -, -, -⟩, -⟩, -⟩ := hC; go_simp; first | done | (simp; done) | (simp [*]; done) | omega | (simp; omega) | (rw [IntKind.wrap_i64]; omega) | (intro hx; omega) | rfl)
  simp only [Act.put, List.setIfInBounds_toArray, List.set_cons_zero, List.set_cons_succ]
  refine qw_run (v := .int .i64 (es)) (by rfl) ?_ ?_
  · (intro w1 hC; obtain ⟨⟨⟨g00, g01, g02, -, -, -⟩, ⟨g10, g11, g12, -, -, -⟩, ⟨g20, g21, g22, -, -, -⟩, ⟨g30, g31, g32, -, -, -⟩, ⟨g40, g41, g42, -, -, -⟩, ⟨g50, g51, g52, -, -, -⟩, ⟨g60, g61, g62, -, -, -⟩, ⟨g70, g71, g72, -, -, -⟩, -⟩, -⟩ := hC; go_simp; first | done | (simp; done) | (simp [*]; done) | omega | (simp; omega) | (rw [IntKind.wrap_i64]; omega) | (intro hx; omega) | rfl)
  simp only [Act.put, List.setIfInBounds_toArray, List.set_cons_zero, List.set_cons_succ]
  refine qw_run (v := .int .i64 (es)) (by rfl) ?_ ?_
  · (intro w1 hC; obtain ⟨⟨⟨g00, g01, g02, -, -, -⟩, ⟨g10, g11, g12, -, -, -⟩, ⟨g20, g21, g22, -, -, -⟩, ⟨g30, g31, g32, -, -, -⟩, ⟨g40, g41, g42, -, -, -⟩, ⟨g50, g51, g52, -, -, -⟩, ⟨g60, g61, g62, -, -, -⟩, ⟨g70, g71, g72, -, -, -⟩, -⟩, -⟩ := hC; go_simp; first | done | (simp; done) | (simp [*]; done) | omega | (simp; omega) | (rw [IntKind.wrap_i64]; omega) | (intro hx; omega) | rfl)
  simp only [Act.put, List.setIfInBounds_toArray, List.set_cons_zero, List.set_cons_succ]
  refine qw_run (v := .bool true) (by rfl) ?_ ?_
  · (intro w1 hC; obtain ⟨⟨⟨g00, g01, g02, -, -, -⟩, ⟨g10, g11, g12, -, -, -⟩, ⟨g20, g21, g22, -, -, -⟩, ⟨g30, g31, g32, -, -, -⟩, ⟨g40, g41, g42, -, -, -⟩, ⟨g50, g51, g52, -, -, -⟩, ⟨g60, g61, g62, -, -, -⟩, ⟨g70, g71, g72, -, -, -⟩, -⟩, -⟩ := hC; go_simp; first | done | (simp; done) | (simp [*]; done) | omega | (simp; omega) | (rw [IntKind.wrap_i64]; omega) | (intro hx; omega) | rfl)
  simp only [Act.put, List.setIfInBounds_toArray, List.set_cons_zero, List.set_cons_succ]
  refine qw_run (v := .bool true) (by rfl) ?_ ?_
  · (intro w1 hC; obtain ⟨⟨⟨g00, g01, g02, -, -, -⟩, ⟨g10, g11, g12, -, -, -⟩, ⟨g20, g21, g22, -, -, -⟩, ⟨g30, g31, g32, -, -, -⟩, ⟨g40, g41, g42, -, -, -⟩, ⟨g50, g51, g52, -, -, -⟩, ⟨g60, g61, g62, -, -, -⟩, ⟨g70, g71, g72, -, -, -⟩, -⟩, -⟩ := hC; go_simp; first | done | (simp; done) | (simp [*]; done) | omega | (simp; omega) | (rw [IntKind.wrap_i64]; omega) | (intro hx; omega) | rfl)
  simp only [Act.put, List.setIfInBounds_toArray, List.set_cons_zero, List.set_cons_succ]
  refine qw_run (v := .bool true) (by rfl) ?_ ?_
  · (intro w1 hC; obtain ⟨⟨⟨g00, g01, g02, -, -, -⟩, ⟨g10, g11, g12, -, -, -⟩, ⟨g20, g21, g22, -, -, -⟩, ⟨g30, g31, g32, -, -, -⟩, ⟨g40, g41, g42, -, -, -⟩, ⟨g50, g51, g52, -, -, -⟩, ⟨g60, g61, g62, -, -, -⟩, ⟨g70, g71, g72, -, -, -⟩, -⟩, -⟩ := hC; go_simp; first | done | (simp; done) | (simp [*]; done) | omega | (simp; omega) | (rw [IntKind.wrap_i64]; omega) | (intro hx; omega) | rfl)
  simp only [Act.put, List.setIfInBounds_toArray, List.set_cons_zero, List.set_cons_succ]
  refine qw_run (v := .agg #[.int .u64 p0, .int .u64 p1, .int .u64 p2]) (by rfl) ?_ ?_
  · (intro w1 hC; obtain ⟨⟨⟨g00, g01, g02, -, -, -⟩, ⟨g10, g11, g12, -, -, -⟩, ⟨g20, g21, g22, -, -, -⟩, ⟨g30, g31, g32, -, -, -⟩, ⟨g40, g41, g42, -, -, -⟩, ⟨g50, g51, g52, -, -, -⟩, ⟨g60, g61, g62, -, -, -⟩, ⟨g70, g71, g72, -, -, -⟩, -⟩, -⟩ := hC; go_simp; first | done | (simp; done) | (simp [*]; done) | omega | (simp; omega) | (rw [IntKind.wrap_i64]; omega) | (intro hx; omega) | rfl)
  simp only [Act.put, List.setIfInBounds_toArray, List.set_cons_zero, List.set_cons_succ]
  refine qw_run (v := .agg #[.int .u64 p0, .int .u64 p1, .int .u64 p2]) (by rfl) ?_ ?_
  · (intro w1 hC; obtain ⟨⟨⟨g00, g01, g02, -, -, -⟩, ⟨g10, g11, g12, -, -, -⟩, ⟨g20, g21, g22, -, -, -⟩, ⟨g30, g31, g32, -, -, -⟩, ⟨g40, g41, g42, -, -, -⟩, ⟨g50, g51, g52, -, -, -⟩, ⟨g60, g61, g62, -, -, -⟩, ⟨g70, g71, g72, -, -, -⟩, -⟩, -⟩ := hC; go_simp; first | done | (simp; done) | (simp [*]; done) | omega | (simp; omega) | (rw [IntKind.wrap_i64]; omega) | (intro hx; omega) | rfl)
  simp only [Act.put, List.setIfInBounds_toArray, List.set_cons_zero, List.set_cons_succ]
  refine qw_run (v := .bool true) (by rfl) ?_ ?_
  · (intro w1 hC; obtain ⟨⟨⟨g00, g01, g02, -, -, -⟩, ⟨g10, g11, g12, -, -, -⟩, ⟨g20, g21, g22, -, -, -⟩, ⟨g30, g31, g32, -, -, -⟩, ⟨g40, g41, g42, -, -, -⟩, ⟨g50, g51, g52, -, -, -⟩, ⟨g60, g61, g62, -, -, -⟩, ⟨g70, g71, g72, -, -, -⟩, -⟩, -⟩ := hC; go_simp; first | done | (simp; done) | (simp [*]; done) | omega | (simp; omega) | (rw [IntKind.wrap_i64]; omega) | (intro hx; omega) | rfl)
  simp only [Act.put, List.setIfInBounds_toArray, List.set_cons_zero, List.set_cons_succ]
  refine qw_run (v := .bool true) (by rfl) ?_ ?_
  · (intro w1 hC; obtain ⟨⟨⟨g00, g01, g02, -, -, -⟩, ⟨g10, g11, g12, -, -, -⟩, ⟨g20, g21, g22, -, -, -⟩, ⟨g30, g31, g32, -, -, -⟩, ⟨g40, g41, g42, -, -, -⟩, ⟨g50, g51, g52, -, -, -⟩, ⟨g60, g61, g62, -, -, -⟩, ⟨g70, g71, g72, -, -, -⟩, -⟩, -⟩ := hC; go_simp; first | done | (simp; done) | (simp [*]; done) | omega | (simp; omega) | (rw [IntKind.wrap_i64]; omega) | (intro hx; omega) | rfl)
  simp only [Act.put, List.setIfInBounds_toArray, List.set_cons_zero, List.set_cons_succ]
  refine qw_run (v := .bool true) (by rfl) ?_ ?_
  · (intro w1 hC; obtain ⟨⟨⟨g00, g01, g02, -, -, -⟩, ⟨g10, g11, g12, -, -, -⟩, ⟨g20, g21, g22, -, -, -⟩, ⟨g30, g31, g32, -, -, -⟩, ⟨g40, g41, g42, -, -, -⟩, ⟨g50, g51, g52, -, -, -⟩, ⟨g60, g61, g62, -, -, -⟩, ⟨g70, g71, g72, -, -, -⟩, -⟩, -⟩ := hC; go_simp; first | done | (simp; done) | (simp [*]; done) | omega | (simp; omega) | (rw [IntKind.wrap_i64]; omega) | (intro hx; omega) | rfl)
  simp only [Act.put, List.setIfInBounds_toArray, List.set_cons_zero, List.set_cons_succ]
  refine qw_run (v := .int .i64 (ep)) (by rfl) ?_ ?_
  · (intro w1 hC; obtain ⟨⟨⟨g00, g01, g02, -, -, -⟩, ⟨g10, g11, g12, -, -, -⟩, ⟨g20, g21, g22, -, -, -⟩, ⟨g30, g31, g32, -, -, -⟩, ⟨g40, g41, g42, -, -, -⟩, ⟨g50, g51, g52, -, -, -⟩, ⟨g60, g61, g62, -, -, -⟩, ⟨g70, g71, g72, -, -, -⟩, -⟩, -⟩ := hC; go_simp; first | done | (simp; done) | (simp [*]; done) | omega | (simp; omega) | (rw [IntKind.wrap_i64]; omega) | (intro hx; omega) | rfl)
  simp only [Act.put, List.setIfInBounds_toArray, List.set_cons_zero, List.set_cons_succ]
  refine qw_run (v := .int .i64 (ep)) (by rfl) ?_ ?_
  · (intro w1 hC; obtain ⟨⟨⟨g00, g01, g02, -, -, -⟩, ⟨g10, g11, g12, -, -, -⟩, ⟨g20, g21, g22, -, -, -⟩, ⟨g30, g31, g32, -, -, -⟩, ⟨g40, g41, g42, -, -, -⟩, ⟨g50, g51, g52, -, -, -⟩, ⟨g60, g61, g62, -, -, -⟩, ⟨g70, g71, g72, -, -, -⟩, -⟩, -⟩ := hC; go_simp; first | done | (simp; done) | (simp [*]; done) | omega | (simp; omega) | (rw [IntKind.wrap_i64]; omega) | (intro hx; omega) | rfl)
  simp only [Act.put, List.setIfInBounds_toArray, List.set_cons_zero, List.set_cons_succ]
  refine qw_run (v := .bool true) (by rfl) ?_ ?_
  · (intro w1 hC; obtain ⟨⟨⟨g00, g01, g02, -, -, -⟩, ⟨g10, g11, g12, -, -, -⟩, ⟨g20, g21, g22, -, -, -⟩, ⟨g30, g31, g32, -, -, -⟩, ⟨g40, g41, g42, -, -, -⟩, ⟨g50, g51, g52, -, -, -⟩, ⟨g60, g61, g62, -, -, -⟩, ⟨g70, g71, g72, -, -, -⟩, -⟩, -⟩ := hC; go_simp; first | done | (simp; done) | (simp [*]; done) | omega | (simp; omega) | (rw [IntKind.wrap_i64]; omega) | (intro hx; omega) | rfl)
  simp only [Act.put, List.setIfInBounds_toArray, List.set_cons_zero, List.set_cons_succ]
  refine qw_run (v := .bool true) (by rfl) ?_ ?_
  · (intro w1 hC; obtain ⟨⟨⟨g00, g01, g02, -, -, -⟩, ⟨g10, g11, g12, -, -, -⟩, ⟨g20, g21, g22, -, -, -⟩, ⟨g30, g31, g32, -, -, -⟩, ⟨g40, g41, g42, -, -, -⟩, ⟨g50, g51, g52, -, -, -⟩, ⟨g60, g61, g62, -, -, -⟩, ⟨g70, g71, g72, -, -, -⟩, -⟩, -⟩ := hC; go_simp; first | done | (simp; done) | (simp [*]; done) | omega | (simp; omega) | (rw [IntKind.wrap_i64]; omega) | (intro hx; omega) | rfl)
  simp only [Act.put, List.setIfInBounds_toArray, List.set_cons_zero, List.set_cons_succ]
  refine qw_run (v := .bool true) (by rfl) ?_ ?_
  · (intro w1 hC; obtain ⟨⟨⟨g00, g01, g02, -, -, -⟩, ⟨g10, g11, g12, -, -, -⟩, ⟨g20, g21, g22, -, -, -⟩, ⟨g30, g31, g32, -, -, -⟩, ⟨g40, g41, g42, -, -, -⟩, ⟨g50, g51, g52, -, -, -⟩, ⟨g60, g61, g62, -, -, -⟩, ⟨g70, g71, g72, -, -, -⟩, -⟩, -⟩ := hC; go_simp; first | done | (simp; done) | (simp [*]; done) | omega | (simp; omega) | (rw [IntKind.wrap_i64]; omega) | (intro hx; omega) | rfl)
  simp only [Act.put, List.setIfInBounds_toArray, List.set_cons_zero, List.set_cons_succ]
  refine qw_run (v := .agg #[.int .u64 q0, .int .u64 q1, .int .u64 q2]) (by rfl) ?_ ?_
  · (intro w1 hC; obtain ⟨⟨⟨g00, g01, g02, -, -, -⟩, ⟨g10, g11, g12, -, -, -⟩, ⟨g20, g21, g22, -, -, -⟩, ⟨g30, g31, g32, -, -, -⟩, ⟨g40, g41, g42, -, -, -⟩, ⟨g50, g51, g52, -, -, -⟩, ⟨g60, g61, g62, -, -, -⟩, ⟨g70, g71, g72, -, -, -⟩, -⟩, -⟩ := hC; go_simp; first | done | (simp; done) | (simp [*]; done) | omega | (simp; omega) | (rw [IntKind.wrap_i64]; omega) | (intro hx; omega) | rfl)
  simp only [Act.put, List.setIfInBounds_toArray, List.set_cons_zero, List.set_cons_succ]
  refine qw_run (v := .agg #[.int .u64 q0, .int .u64 q1, .int .u64 q2]) (by rfl) ?_ ?_
  · (intro w1 hC; obtain ⟨⟨⟨g00, g01, g02, -, -, -⟩, ⟨g10, g11, g12, -, -, -⟩, ⟨g20, g21, g22, -, -, -⟩, ⟨g30, g31, g32, -, -, -⟩, ⟨g40, g41, g42, -, -, -⟩, ⟨g50, g51, g52, -, -, -⟩, ⟨g60, g61, g62, -, -, -⟩, ⟨g70, g71, g72, -, -, -⟩, -⟩, -⟩ := hC; go_simp; first | done | (simp; done) | (simp [*]; done) | omega | (simp; omega) | (rw [IntKind.wrap_i64]; omega) | (intro hx; omega) | rfl)
  simp only [Act.put, List.setIfInBounds_toArray, List.set_cons_zero, List.set_cons_succ]
  refine qw_run (v := .bool true) (by rfl) ?_ ?_
  · (intro w1 hC; obtain ⟨⟨⟨g00, g01, g02, -, -, -⟩, ⟨g10, g11, g12, -, -, -⟩, ⟨g20, g21, g22, -, -, -⟩, ⟨g30, g31, g32, -, -, -⟩, ⟨g40, g41, g42, -, -, -⟩, ⟨g50, g51, g52, -, -, -⟩, ⟨g60, g61, g62, -, -, -⟩, ⟨g70, g71, g72, -, -, -⟩, -⟩, -⟩ := hC; go_simp; first | done | (simp; done) | (simp [*]; done) | omega | (simp; omega) | (rw [IntKind.wrap_i64]; omega) | (intro hx; omega) | rfl)
  simp only [Act.put, List.setIfInBounds_toArray, List.set_cons_zero, List.set_cons_succ]
  refine qw_run (v := .bool true) (by rfl) ?_ ?_
  · (intro w1 hC; obtain ⟨⟨⟨g00, g01, g02, -, -, -⟩, ⟨g10, g11, g12, -, -, -⟩, ⟨g20, g21, g22, -, -, -⟩, ⟨g30, g31, g32, -, -, -⟩, ⟨g40, g41, g42, -, -, -⟩, ⟨g50, g51, g52, -, -, -⟩, ⟨g60, g61, g62, -, -, -⟩, ⟨g70, g71, g72, -, -, -⟩, -⟩, -⟩ := hC; go_simp; first | done | (simp; done) | (simp [*]; done) | omega | (simp; omega) | (rw [IntKind.wrap_i64]; omega) | (intro hx; omega) | rfl)
  simp only [Act.put, List.setIfInBounds_toArray, List.set_cons_zero, List.set_cons_succ]
  refine qw_run (v := .bool true) (by rfl) ?_ ?_
  · (intro w1 hC; obtain ⟨⟨⟨g00, g01, g02, -, -, -⟩, ⟨g10, g11, g12, -, -, -⟩, ⟨g20, g21, g22, -, -, -⟩, ⟨g30, g31, g32, -, -, -⟩, ⟨g40, g41, g42, -, -, -⟩, ⟨g50, g51, g52, -, -, -⟩, ⟨g60, g61, g62, -, -, -⟩, ⟨g70, g71, g72, -, -, -⟩, -⟩, -⟩ := hC; go_simp; first | done | (simp; done) | (simp [*]; done) | omega | (simp; omega) | (rw [IntKind.wrap_i64]; omega) | (intro hx; omega) | rfl)
  simp only [Act.put, List.setIfInBounds_toArray, List.set_cons_zero, List.set_cons_succ]
  refine qw_run (v := .int .i64 (eq)) (by rfl) ?_ ?_
  · (intro w1 hC; obtain ⟨⟨⟨g00, g01, g02, -, -, -⟩, ⟨g10, g11, g12, -, -, -⟩, ⟨g20, g21, g22, -, -, -⟩, ⟨g30, g31, g32, -, -, -⟩, ⟨g40, g41, g42, -, -, -⟩, ⟨g50, g51, g52, -, -, -⟩, ⟨g60, g61, g62, -, -, -⟩, ⟨g70, g71, g72, -, -, -⟩, -⟩, -⟩ := hC; go_simp; first | done | (simp; done) | (simp [*]; done) | omega | (simp; omega) | (rw [IntKind.wrap_i64]; omega) | (intro hx; omega) | rfl)
  simp only [Act.put, List.setIfInBounds_toArray, List.set_cons_zero, List.set_cons_succ]
  refine qw_run (v := .int .i64 (eq)) (by rfl) ?_ ?_
  · (intro w1 hC; obtain ⟨⟨⟨g00, g01, g02, -, -, -⟩, ⟨g10, g11, g12, -, -, -⟩, ⟨g20, g21, g22, -, -, -⟩, ⟨g30, g31, g32, -, -, -⟩, ⟨g40, g41, g42, -, -, -⟩, ⟨g50, g51, g52, -, -, -⟩, ⟨g60, g61, g62, -, -, -⟩, ⟨g70, g71, g72, -, -, -⟩, -⟩, -⟩ := hC; go_simp; first | done | (simp; done) | (simp [*]; done) | omega | (simp; omega) | (rw [IntKind.wrap_i64]; omega) | (intro hx; omega) | rfl)
  simp only [Act.put, List.setIfInBounds_toArray, List.set_cons_zero, List.set_cons_succ]
  refine qw_run (v := .bool true) (by rfl) ?_ ?_
  · (intro w1 hC; obtain ⟨⟨⟨g00, g01, g02, -, -, -⟩, ⟨g10, g11, g12, -, -, -⟩, ⟨g20, g21, g22, -, -, -⟩, ⟨g30, g31, g32, -, -, -⟩, ⟨g40, g41, g42, -, -, -⟩, ⟨g50, g51, g52, -, -, -⟩, ⟨g60, g61, g62, -, -, -⟩, ⟨g70, g71, g72, -, -, -⟩, -⟩, -⟩ := hC; go_simp; first | done | (simp; done) | (simp [*]; done) | omega | (simp; omega) | (rw [IntKind.wrap_i64]; omega) | (intro hx; omega) | rfl)
  simp only [Act.put, List.setIfInBounds_toArray, List.set_cons_zero, List.set_cons_succ]
  refine qw_run (v := .bool true) (by rfl) ?_ ?_
  · (intro w1 hC; obtain ⟨⟨⟨g00, g01, g02, -, -, -⟩, ⟨g10, g11, g12, -, -, -⟩, ⟨g20, g21, g22, -, -, -⟩, ⟨g30, g31, g32, -, -, -⟩, ⟨g40, g41, g42, -, -, -⟩, ⟨g50, g51, g52, -, -, -⟩, ⟨g60, g61, g62, -, -, -⟩, ⟨g70, g71, g72, -, -, -⟩, -⟩, -⟩ := hC; go_simp; first | done | (simp; done) | (simp [*]; done) | omega | (simp; omega) | (rw [IntKind.wrap_i64]; omega) | (intro hx; omega) | rfl)
  simp only [Act.put, List.setIfInBounds_toArray, List.set_cons_zero, List.set_cons_succ]
  refine qw_run (v := .bool true) (by rfl) ?_ ?_
  · (intro w1 hC; obtain ⟨⟨⟨g00, g01, g02, -, -, -⟩, ⟨g10, g11, g12, -, -, -⟩, ⟨g20, g21, g22, -, -, -⟩, ⟨g30, g31, g32, -, -, -⟩, ⟨g40, g41, g42, -, -, -⟩, ⟨g50, g51, g52, -, -, -⟩, ⟨g60, g61, g62, -, -, -⟩, ⟨g70, g71, g72, -, -, -⟩, -⟩, -⟩ := hC; go_simp; first | done | (simp; done) | (simp [*]; done) | omega | (simp; omega) | (rw [IntKind.wrap_i64]; omega) | (intro hx; omega) | rfl)
  simp only [Act.put, List.setIfInBounds_toArray, List.set_cons_zero, List.set_cons_succ]
  refine qw_run (v := .int .u64 n') (by rfl) ?_ ?_
  · (intro w1 hC; obtain ⟨⟨⟨g00, g01, g02, -, -, -⟩, ⟨g10, g11, g12, -, -, -⟩, ⟨g20, g21, g22, -, -, -⟩, ⟨g30, g31, g32, -, -, -⟩, ⟨g40, g41, g42, -, -, -⟩, ⟨g50, g51, g52, -, -, -⟩, ⟨g60, g61, g62, -, -, -⟩, ⟨g70, g71, g72, -, -, -⟩, -⟩, -⟩ := hC; go_simp; first | done | (simp; done) | (simp [*]; done) | omega | (simp; omega) | (rw [IntKind.wrap_i64]; omega) | (intro hx; omega) | rfl)
  simp only [Act.put, List.setIfInBounds_toArray, List.set_cons_zero, List.set_cons_succ]
  refine qw_call (v := .agg #[.int .u64 0, .int .u64 0, .int .u64 n']) (f := 16) (args := #[.int .u64 n']) (by rfl) ?_ ?_ ?_
  · (intro w1 hC; clear hC; go_simp)
  · exact fun w1 hC => (KO w1).mono fun e w' ⟨he, hb⟩ => ⟨he, Kcs.below hC hb⟩
  simp only [Act.put, List.setIfInBounds_toArray, List.set_cons_zero, List.set_cons_succ]
  refine qw_run (v := .int .u64 n') (by rfl) ?_ ?_
  · (intro w1 hC; obtain ⟨⟨⟨g00, g01, g02, -, -, -⟩, ⟨g10, g11, g12, -, -, -⟩, ⟨g20, g21, g22, -, -, -⟩, ⟨g30, g31, g32, -, -, -⟩, ⟨g40, g41, g42, -, -, -⟩, ⟨g50, g51, g52, -, -, -⟩, ⟨g60, g61, g62, -, -, -⟩, ⟨g70, g71, g72, -, -, -⟩, -⟩, -⟩ := hC; go_simp; first | done | (simp; done) | (simp [*]; done) | omega | (simp; omega) | (rw [IntKind.wrap_i64]; omega) | (intro hx; omega) | rfl)
  simp only [Act.put, List.setIfInBounds_toArray, List.set_cons_zero, List.set_cons_succ]
  refine qw_call (v := .agg #[.int .u64 0, .int .u64 0, .int .u64 n']) (f := 17) (args := #[.int .u64 n']) (by rfl) ?_ ?_ ?_
  · (intro w1 hC; clear hC; go_simp)
  · exact fun w1 hC => (RO w1).mono fun e w' ⟨he, hb⟩ => ⟨he, Kcs.below hC hb⟩
  simp only [Act.put, List.setIfInBounds_toArray, List.set_cons_zero, List.set_cons_succ]
  refine qw_run (v := .bool true) (by rfl) ?_ ?_
  · (intro w1 hC; obtain ⟨⟨⟨g00, g01, g02, -, -, -⟩, ⟨g10, g11, g12, -, -, -⟩, ⟨g20, g21, g22, -, -, -⟩, ⟨g30, g31, g32, -, -, -⟩, ⟨g40, g41, g42, -, -, -⟩, ⟨g50, g51, g52, -, -, -⟩, ⟨g60, g61, g62, -, -, -⟩, ⟨g70, g71, g72, -, -, -⟩, -⟩, -⟩ := hC; go_simp; first | done | (simp; done) | (simp [*]; done) | omega | (simp; omega) | (rw [IntKind.wrap_i64]; omega) | (intro hx; omega) | rfl)
  simp only [Act.put, List.setIfInBounds_toArray, List.set_cons_zero, List.set_cons_succ]
  refine qw_run (v := .bool true) (by rfl) ?_ ?_
  · (intro w1 hC; obtain ⟨⟨⟨g00, g01, g02, -, -, -⟩, ⟨g10, g11, g12, -, -, -⟩, ⟨g20, g21, g22, -, -, -⟩, ⟨g30, g31, g32, -, -, -⟩, ⟨g40, g41, g42, -, -, -⟩, ⟨g50, g51, g52, -, -, -⟩, ⟨g60, g61, g62, -, -, -⟩, ⟨g70, g71, g72, -, -, -⟩, -⟩, -⟩ := hC; go_simp; first | done | (simp; done) | (simp [*]; done) | omega | (simp; omega) | (rw [IntKind.wrap_i64]; omega) | (intro hx; omega) | rfl)
  simp only [Act.put, List.setIfInBounds_toArray, List.set_cons_zero, List.set_cons_succ]
  refine qw_run (v := .bool true) (by rfl) ?_ ?_
  · (intro w1 hC; obtain ⟨⟨⟨g00, g01, g02, -, -, -⟩, ⟨g10, g11, g12, -, -, -⟩, ⟨g20, g21, g22, -, -, -⟩, ⟨g30, g31, g32, -, -, -⟩, ⟨g40, g41, g42, -, -, -⟩, ⟨g50, g51, g52, -, -, -⟩, ⟨g60, g61, g62, -, -, -⟩, ⟨g70, g71, g72, -, -, -⟩, -⟩, -⟩ := hC; go_simp; first | done | (simp; done) | (simp [*]; done) | omega | (simp; omega) | (rw [IntKind.wrap_i64]; omega) | (intro hx; omega) | rfl)
  simp only [Act.put, List.setIfInBounds_toArray, List.set_cons_zero, List.set_cons_succ]
  refine qw_run (v := .agg #[.int .u64 x0, .int .u64 x1, .int .u64 x2]) (by rfl) ?_ ?_
  · (intro w1 hC; obtain ⟨⟨⟨g00, g01, g02, -, -, -⟩, ⟨g10, g11, g12, -, -, -⟩, ⟨g20, g21, g22, -, -, -⟩, ⟨g30, g31, g32, -, -, -⟩, ⟨g40, g41, g42, -, -, -⟩, ⟨g50, g51, g52, -, -, -⟩, ⟨g60, g61, g62, -, -, -⟩, ⟨g70, g71, g72, -, -, -⟩, -⟩, -⟩ := hC; go_simp; first | done | (simp; done) | (simp [*]; done) | omega | (simp; omega) | (rw [IntKind.wrap_i64]; omega) | (intro hx; omega) | rfl)
  simp only [Act.put, List.setIfInBounds_toArray, List.set_cons_zero, List.set_cons_succ]
  refine qw_run (v := .agg #[.int .u64 y0, .int .u64 y1, .int .u64 y2]) (by rfl) ?_ ?_
  · (intro w1 hC; obtain ⟨⟨⟨g00, g01, g02, -, -, -⟩, ⟨g10, g11, g12, -, -, -⟩, ⟨g20, g21, g22, -, -, -⟩, ⟨g30, g31, g32, -, -, -⟩, ⟨g40, g41, g42, -, -, -⟩, ⟨g50, g51, g52, -, -, -⟩, ⟨g60, g61, g62, -, -, -⟩, ⟨g70, g71, g72, -, -, -⟩, -⟩, -⟩ := hC; go_simp; first | done | (simp; done) | (simp [*]; done) | omega | (simp; omega) | (rw [IntKind.wrap_i64]; omega) | (intro hx; omega) | rfl)
  simp only [Act.put, List.setIfInBounds_toArray, List.set_cons_zero, List.set_cons_succ]
  refine qw_call (v := .int .i64 (c)) (f := 18) (args := #[.agg #[.int .u64 x0, .int .u64 x1, .int .u64 x2], .agg #[.int .u64 y0, .int .u64 y1, .int .u64 y2]]) (by rfl) ?_ ?_ ?_
  · (intro w1 hC; clear hC; go_simp)
  · exact fun w1 hC => (KC w1).mono fun e w' ⟨he, hb⟩ => ⟨he, Kcs.below hC hb⟩
  simp only [Act.put, List.setIfInBounds_toArray, List.set_cons_zero, List.set_cons_succ]
  refine qw_run (v := .agg #[.int .u64 x0, .int .u64 x1, .int .u64 x2]) (by rfl) ?_ ?_
  · (intro w1 hC; obtain ⟨⟨⟨g00, g01, g02, -, -, -⟩, ⟨g10, g11, g12, -, -, -⟩, ⟨g20, g21, g22, -, -, -⟩, ⟨g30, g31, g32, -, -, -⟩, ⟨g40, g41, g42, -, -, -⟩, ⟨g50, g51, g52, -, -, -⟩, ⟨g60, g61, g62, -, -, -⟩, ⟨g70, g71, g72, -, -, -⟩, -⟩, -⟩ := hC; go_simp; first | done | (simp; done) | (simp [*]; done) | omega | (simp; omega) | (rw [IntKind.wrap_i64]; omega) | (intro hx; omega) | rfl)
  simp only [Act.put, List.setIfInBounds_toArray, List.set_cons_zero, List.set_cons_succ]
  refine qw_run (v := .agg #[.int .u64 y0, .int .u64 y1, .int .u64 y2]) (by rfl) ?_ ?_
  · (intro w1 hC; obtain ⟨⟨⟨g00, g01, g02, -, -, -⟩, ⟨g10, g11, g12, -, -, -⟩, ⟨g20, g21, g22, -, -, -⟩, ⟨g30, g31, g32, -, -, -⟩, ⟨g40, g41, g42, -, -, -⟩, ⟨g50, g51, g52, -, -, -⟩, ⟨g60, g61, g62, -, -, -⟩, ⟨g70, g71, g72, -, -, -⟩, -⟩, -⟩ := hC; go_simp; first | done | (simp; done) | (simp [*]; done) | omega | (simp; omega) | (rw [IntKind.wrap_i64]; omega) | (intro hx; omega) | rfl)
  simp only [Act.put, List.setIfInBounds_toArray, List.set_cons_zero, List.set_cons_succ]
  refine qw_call (v := .int .i64 (c)) (f := 19) (args := #[.agg #[.int .u64 x0, .int .u64 x1, .int .u64 x2], .agg #[.int .u64 y0, .int .u64 y1, .int .u64 y2]]) (by rfl) ?_ ?_ ?_
  · (intro w1 hC; clear hC; go_simp)
  · exact fun w1 hC => (RC w1).mono fun e w' ⟨he, hb⟩ => ⟨he, Kcs.below hC hb⟩
  simp only [Act.put, List.setIfInBounds_toArray, List.set_cons_zero, List.set_cons_succ]
  refine qw_run (v := .bool true) (by rfl) ?_ ?_
  · (intro w1 hC; obtain ⟨⟨⟨g00, g01, g02, -, -, -⟩, ⟨g10, g11, g12, -, -, -⟩, ⟨g20, g21, g22, -, -, -⟩, ⟨g30, g31, g32, -, -, -⟩, ⟨g40, g41, g42, -, -, -⟩, ⟨g50, g51, g52, -, -, -⟩, ⟨g60, g61, g62, -, -, -⟩, ⟨g70, g71, g72, -, -, -⟩, -⟩, -⟩ := hC; go_simp; first | done | (simp; done) | (simp [*]; done) | omega | (simp; omega) | (rw [IntKind.wrap_i64]; omega) | (intro hx; omega) | rfl)
  simp only [Act.put, List.setIfInBounds_toArray, List.set_cons_zero, List.set_cons_succ]
  refine qw_run (v := .bool true) (by rfl) ?_ ?_
  · (intro w1 hC; obtain ⟨⟨⟨g00, g01, g02, -, -, -⟩, ⟨g10, g11, g12, -, -, -⟩, ⟨g20, g21, g22, -, -, -⟩, ⟨g30, g31, g32, -, -, -⟩, ⟨g40, g41, g42, -, -, -⟩, ⟨g50, g51, g52, -, -, -⟩, ⟨g60, g61, g62, -, -, -⟩, ⟨g70, g71, g72, -, -, -⟩, -⟩, -⟩ := hC; go_simp; first | done | (simp; done) | (simp [*]; done) | omega | (simp; omega) | (rw [IntKind.wrap_i64]; omega) | (intro hx; omega) | rfl)
  simp only [Act.put, List.setIfInBounds_toArray, List.set_cons_zero, List.set_cons_succ]
  refine qw_run (v := .bool true) (by rfl) ?_ ?_
  · (intro w1 hC; obtain ⟨⟨⟨g00, g01, g02, -, -, -⟩, ⟨g10, g11, g12, -, -, -⟩, ⟨g20, g21, g22, -, -, -⟩, ⟨g30, g31, g32, -, -, -⟩, ⟨g40, g41, g42, -, -, -⟩, ⟨g50, g51, g52, -, -, -⟩, ⟨g60, g61, g62, -, -, -⟩, ⟨g70, g71, g72, -, -, -⟩, -⟩, -⟩ := hC; go_simp; first | done | (simp; done) | (simp [*]; done) | omega | (simp; omega) | (rw [IntKind.wrap_i64]; omega) | (intro hx; omega) | rfl)
  simp only [Act.put, List.setIfInBounds_toArray, List.set_cons_zero, List.set_cons_succ]
  refine qw_nil ?_
  intro v6r hC
  have Hr6 := hid9 hC
  clear H6 hC
  go_wp2
  go_ret
  exact ⟨rfl, Hr6.out.2⟩
end Go.Proofs.Ytnaamkkjledllaa
/-
  How a number of 192 bits that is handed in reads as data.
-/
namespace Go.Proofs.Ytnaamkkjledllaa
open Go.ChangeShapes Go.WideShapes Go.ChangeAt Go.RowKit Go.Joins
set_option linter.unusedSimpArgs false
set_option linter.unusedVariables false

theorem Try.cellsC : Try.prog.cellsOf 24 = 3 := by kernel_rfl
theorem Try.cellsU9 : Try.prog.cellsOf 22 = 1 := by kernel_rfl
theorem u64_bdC {a : Int} (h : (Lit.int .u64 a).wf = true) : 0 ≤ a ∧ a < 18446744073709551616 := by
  simp [Lit.wf, IntKind.min, IntKind.max, IntKind.signed, IntKind.bits] at h; omega
theorem costV_of {N : Nat} {a b c : Int} (h0 : cost0 N = a) (h1 : cost1 N = b) (h2 : cost2 N = c) : costV N = .agg #[.int .u64 a, .int .u64 b, .int .u64 c] := by unfold costV; rw [h0, h1, h2]
theorem array3c {cs : Array Value} (h : cs.size = 3) : ∃ a b c, cs = #[a, b, c] := by
  obtain ⟨l⟩ := cs
  match l, h with
  | [a, b, c], _ => exact ⟨a, b, c, rfl⟩
section
variable {H : Type} {enc : TypeId × Value → H} {w : World} {base : Nat} {spare : Nat → Bool} {held : Bool}
set_option maxRecDepth 100000 in
theorem open_cost {r : Reach} {b0 : Nat} {v : Value} {d : DataW H} {p : List MemPlace} (hv : Value.okWide Try.prog w r b0 24 v) (h : DataW.Trod enc Try.prog w base spare held 24 v d p) :
    ∃ a b c : Int, v = .agg #[.int .u64 a, .int .u64 b, .int .u64 c] ∧ d = .agg [.lit (.int .u64 a), .lit (.int .u64 b), .lit (.int .u64 c)] ∧ p = [] ∧ (Lit.int .u64 a).wf = true ∧ (Lit.int .u64 b).wf = true ∧ (Lit.int .u64 c).wf = true := by
  obtain ⟨cs, rfl, hsz, _⟩ : ∃ cs, v = .agg cs ∧ cs.size = Try.prog.cellsOf 24 ∧ Row.okWide Try.prog w r b0 24 cs := by
    simpa [Value.okWide, Try.underlying24] using hv
  obtain ⟨c0, c1, c2, rfl⟩ := array3c (hsz.trans Try.cellsC)
  obtain ⟨fuel, hf⟩ := h
  obtain ⟨y0, y1, y2, m, hx, hy0, hy1, hy2⟩ := trod_array3 Try.underlying24 Try.cellsU9 hf
  obtain ⟨a, ea, rfl, wa⟩ := DataW.trod_int Try.underlying22 hy0
  obtain ⟨b, eb, rfl, wb⟩ := DataW.trod_int Try.underlying22 hy1
  obtain ⟨c, ec, rfl, wc⟩ := DataW.trod_int Try.underlying22 hy2
  simp at ea eb ec
  subst ea eb ec
  simp only [Prod.mk.injEq] at hx
  exact ⟨a, b, c, rfl, hx.1, by simpa using hx.2, wa, wb, wc⟩
set_option maxRecDepth 100000 in
theorem shut_cost {a b c : Int} (wa : (Lit.int .u64 a).wf = true) (wb : (Lit.int .u64 b).wf = true) (wc : (Lit.int .u64 c).wf = true) :
    DataW.Trod enc Try.prog w base spare held 24 (.agg #[.int .u64 a, .int .u64 b, .int .u64 c]) (.agg [.lit (.int .u64 a), .lit (.int .u64 b), .lit (.int .u64 c)]) [] := by
  have r3 : List.range 3 = [0, 1, 2] := rfl
  exact ⟨2, by simp [DataW.trod, Value.cells, Try.underlying24, Try.underlying22, Try.cellsC, Try.cellsU9, r3, wa, wb, wc]⟩
end
end Go.Proofs.Ytnaamkkjledllaa
