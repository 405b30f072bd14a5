/-
  The law CostTimes: a product is the sum of as many.
-/
import Derived.Test.YtnaamkkjledllaaWk9
namespace Go.Proofs.Ytnaamkkjledllaa
open Go.RowKit
set_option linter.unusedSimpArgs false
set_option linter.unusedVariables false


set_option maxRecDepth 20000 in
set_option maxHeartbeats 16000000 in
theorem costTimes_any (N n m : Nat) (w : World) (hN : N < 6277101735386680763835789423207666416102355444464034512896) (hn : n < 18446744073709551616) (hm : m < 18446744073709551616) :
    Calls Try.prog 7 #[costV N, .int .u64 (n : Int), .int .u64 (m : Int)] w fun e w' => e = .returned (.bool true) ∧ Below w.heap.size w w' := by
  have hn1 : (n : Int) / 2 = ((n / 2 : Nat) : Int) := by omega
  have hm1 : (m : Int) / 2 = ((m / 2 : Nat) : Int) := by omega
  have hs1 : IntKind.u64.wrap (((n / 2 : Nat) : Int) + ((m / 2 : Nat) : Int)) = ((n / 2 + m / 2 : Nat) : Int) := by rw [IntKind.wrap_u64]; omega
  have hn2 : n / 2 < 9223372036854775808 := by omega
  have hm2 : m / 2 < 9223372036854775808 := by omega
  have ed : N * (n / 2 + m / 2) = N * (n / 2) + N * (m / 2) := Nat.mul_add ..
  have KK := known9_any
  generalize n / 2 = p at *
  generalize m / 2 = q at *
  have HS := fun a b c => hid9 (Kcs.one w a b c)
  by_cases c1 : N * p < 6277101735386680763835789423207666416102355444464034512896
  · by_cases c2 : N * q < 6277101735386680763835789423207666416102355444464034512896
    · by_cases c3 : N * p + N * q < 6277101735386680763835789423207666416102355444464034512896
      · have K1 := fun w => mul_in N p w hN (by omega) c1
        have K2 := fun w => mul_in N q w hN (by omega) c2
        have K3 := fun w => mul_in N (p + q) w hN (by omega) (by rw [ed]; exact c3)
        rw [ed] at K3
        have K4 := fun w => add_in (N * p) (N * q) w c3
        have K5 := fun w => mul_in N 1 w hN (by omega) (by omega)
        have K6 := fun w => mul_in N 0 w hN (by omega) (by omega)
        rw [Nat.mul_one] at K5
        rw [Nat.mul_zero, costV_zero] at K6
        rw [show ((1 : Nat) : Int) = 1 from rfl] at K5
        rw [show ((0 : Nat) : Int) = 0 from rfl] at K6
        clear c1 c2 c3 ed hN hn hm hn2 hm2
        have q1 := eqC_same (cost0 (N * p + N * q)) (cost1 (N * p + N * q)) (cost2 (N * p + N * q))
        have q2 := eqC_same (cost0 N) (cost1 N) (cost2 N)
        have q3 := eqC_same 0 0 0
        unfold costV at *
        generalize cost0 N = x0 at *
        generalize cost1 N = x1 at *
        generalize cost2 N = x2 at *
        generalize cost0 (N * p) = a0 at *
        generalize cost1 (N * p) = a1 at *
        generalize cost2 (N * p) = a2 at *
        generalize cost0 (N * q) = b0 at *
        generalize cost1 (N * q) = b1 at *
        generalize cost2 (N * q) = b2 at *
        generalize cost0 (N * p + N * q) = c0 at *
        generalize cost1 (N * p + N * q) = c1 at *
        generalize cost2 (N * p + N * q) = c2 at *
        have H0 := HS x0 x1 x2
        clear HS
        go_enter Try.func7, Try.ntmps7
        go_wp2_with fail
        revert H0
        generalize w.alloc (.cells #[.int .u64 x0, .int .u64 x1, .int .u64 x2] 24) = W0
        intro H0
        refine (KK _).mono ?_
        rintro e v1 ⟨rfl, hb⟩
        have H1 := hid9 (Kcs.below H0.out hb)
        clear H0 hb
        obtain ⟨f00, f01, f02, -, -, -⟩ := (H1.out.1).1
        go_wp2_with fail
        clear f00 f01 f02
        refine (K1 _).mono ?_
        rintro e v2 ⟨rfl, hb⟩
        have H2 := hid9 (Kcs.new (a := a0) (b := a1) (c := a2) H1.out hb)
        clear H1 hb
        obtain ⟨f00, f01, f02, -, -, -⟩ := (H2.out.1.2).1
        go_wp2_with fail
        clear f00 f01 f02
        revert H2
        generalize v2.alloc (.cells #[.int .u64 a0, .int .u64 a1, .int .u64 a2] 24) = W2
        generalize v2.heap.size = N2
        intro H2
        refine (K2 _).mono ?_
        rintro e v3 ⟨rfl, hb⟩
        have H3 := hid9 (Kcs.new (a := b0) (b := b1) (c := b2) H2.out hb)
        clear H2 hb
        obtain ⟨f00, f01, f02, -, -, -⟩ := (H3.out.1.2.2).1
        go_wp2_with fail
        clear f00 f01 f02
        revert H3
        generalize v3.alloc (.cells #[.int .u64 b0, .int .u64 b1, .int .u64 b2] 24) = W3
        generalize v3.heap.size = N3
        intro H3
        refine (K3 _).mono ?_
        rintro e v4 ⟨rfl, hb⟩
        have H4 := hid9 (Kcs.new (a := c0) (b := c1) (c := c2) H3.out hb)
        clear H3 hb
        obtain ⟨f00, f01, f02, -, -, -⟩ := (H4.out.1.2.2).1
        obtain ⟨f10, f11, f12, -, -, -⟩ := (H4.out.1.2).1
        go_wp2_with fail
        clear f00 f01 f02 f10 f11 f12
        revert H4
        generalize v4.alloc (.cells #[.int .u64 c0, .int .u64 c1, .int .u64 c2] 24) = W4
        generalize v4.heap.size = N4
        intro H4
        refine (K4 _).mono ?_
        rintro e v5 ⟨rfl, hb⟩
        have H5 := hid9 (Kcs.new (a := c0) (b := c1) (c := c2) H4.out hb)
        clear H4 hb
        obtain ⟨f00, f01, f02, -, -, -⟩ := (H5.out.1.2.2.2.2).1
        go_wp2_with fail
        clear f00 f01 f02
        revert H5
        generalize v5.alloc (.cells #[.int .u64 c0, .int .u64 c1, .int .u64 c2] 24) = W5
        generalize v5.heap.size = N5
        intro H5
        refine (K5 _).mono ?_
        rintro e v6 ⟨rfl, hb⟩
        have H6 := hid9 (Kcs.new (a := x0) (b := x1) (c := x2) H5.out hb)
        clear H5 hb
        obtain ⟨f00, f01, f02, -, -, -⟩ := (H6.out.1.2.2.2.2.2).1
        go_wp2_with fail
        clear f00 f01 f02
        revert H6
        generalize v6.alloc (.cells #[.int .u64 x0, .int .u64 x1, .int .u64 x2] 24) = W6
        generalize v6.heap.size = N6
        intro H6
        refine (K6 _).mono ?_
        rintro e v7 ⟨rfl, hb⟩
        have H7 := hid9 (Kcs.new (a := 0) (b := 0) (c := 0) H6.out hb)
        clear H6 hb
        obtain ⟨f00, f01, f02, -, -, -⟩ := (H7.out.1.2.2.2.2.2.2).1
        obtain ⟨f10, f11, f12, -, -, -⟩ := (H7.out.1.2.2).1
        obtain ⟨f20, f21, f22, -, -, -⟩ := (H7.out.1.2.2.2).1
        obtain ⟨f30, f31, f32, -, -, -⟩ := (H7.out.1.2).1
        obtain ⟨f40, f41, f42, -, -, -⟩ := (H7.out.1).1
        go_wp2
        go_ret
        exact ⟨rfl, H7.out.2⟩
      · have K1 := fun w => mul_in N p w hN (by omega) c1
        have K2 := fun w => mul_in N q w hN (by omega) c2
        have K3 := fun w => mul_out N (p + q) w hN (by omega) (by rw [ed]; exact c3)
        have K4 := fun w => add_out (N * p) (N * q) w c1 c2 c3
        clear c1 c2 c3 ed hN hn hm hn2 hm2
        unfold costV at *
        generalize cost0 N = x0 at *
        generalize cost1 N = x1 at *
        generalize cost2 N = x2 at *
        generalize cost0 (N * p) = a0 at *
        generalize cost1 (N * p) = a1 at *
        generalize cost2 (N * p) = a2 at *
        generalize cost0 (N * q) = b0 at *
        generalize cost1 (N * q) = b1 at *
        generalize cost2 (N * q) = b2 at *
        have H0 := HS x0 x1 x2
        clear HS
        go_enter Try.func7, Try.ntmps7
        go_wp2_with fail
        revert H0
        generalize w.alloc (.cells #[.int .u64 x0, .int .u64 x1, .int .u64 x2] 24) = W0
        intro H0
        refine (KK _).mono ?_
        rintro e v1 ⟨rfl, hb⟩
        have H1 := hid9 (Kcs.below H0.out hb)
        clear H0 hb
        obtain ⟨f00, f01, f02, -, -, -⟩ := (H1.out.1).1
        go_wp2_with fail
        clear f00 f01 f02
        refine (K1 _).mono ?_
        rintro e v2 ⟨rfl, hb⟩
        have H2 := hid9 (Kcs.new (a := a0) (b := a1) (c := a2) H1.out hb)
        clear H1 hb
        obtain ⟨f00, f01, f02, -, -, -⟩ := (H2.out.1.2).1
        go_wp2_with fail
        clear f00 f01 f02
        revert H2
        generalize v2.alloc (.cells #[.int .u64 a0, .int .u64 a1, .int .u64 a2] 24) = W2
        generalize v2.heap.size = N2
        intro H2
        refine (K2 _).mono ?_
        rintro e v3 ⟨rfl, hb⟩
        have H3 := hid9 (Kcs.new (a := b0) (b := b1) (c := b2) H2.out hb)
        clear H2 hb
        obtain ⟨f00, f01, f02, -, -, -⟩ := (H3.out.1.2.2).1
        go_wp2_with fail
        clear f00 f01 f02
        revert H3
        generalize v3.alloc (.cells #[.int .u64 b0, .int .u64 b1, .int .u64 b2] 24) = W3
        generalize v3.heap.size = N3
        intro H3
        refine (K3 _).mono ?_
        rintro e v4 ⟨rfl, hb⟩
        have H4 := hid9 (Kcs.new (a := 0) (b := 0) (c := 0) H3.out hb)
        clear H3 hb
        obtain ⟨f00, f01, f02, -, -, -⟩ := (H4.out.1.2.2).1
        obtain ⟨f10, f11, f12, -, -, -⟩ := (H4.out.1.2).1
        go_wp2_with fail
        clear f00 f01 f02 f10 f11 f12
        revert H4
        generalize v4.alloc (.cells #[.int .u64 0, .int .u64 0, .int .u64 0] 24) = W4
        generalize v4.heap.size = N4
        intro H4
        refine (K4 _).mono ?_
        rintro e v5 ⟨rfl, hb⟩
        have H5 := hid9 (Kcs.new (a := 0) (b := 0) (c := 0) H4.out hb)
        clear H4 hb
        go_wp2
        go_ret
        exact ⟨rfl, H5.out.2⟩
    · have K1 := fun w => mul_in N p w hN (by omega) c1
      have K2 := fun w => mul_out N q w hN (by omega) c2
      have K3 := fun w => mul_out N (p + q) w hN (by omega) (by rw [ed]; omega)
      have K4 := fun w => add_in (N * p) 0 w (by omega)
      rw [Nat.add_zero, costV_zero] at K4
      clear c1 c2 ed hN hn hm hn2 hm2
      unfold costV at *
      generalize cost0 N = x0 at *
      generalize cost1 N = x1 at *
      generalize cost2 N = x2 at *
      generalize cost0 (N * p) = a0 at *
      generalize cost1 (N * p) = a1 at *
      generalize cost2 (N * p) = a2 at *
      have H0 := HS x0 x1 x2
      clear HS
      go_enter Try.func7, Try.ntmps7
      go_wp2_with fail
      revert H0
      generalize w.alloc (.cells #[.int .u64 x0, .int .u64 x1, .int .u64 x2] 24) = W0
      intro H0
      refine (KK _).mono ?_
      rintro e v1 ⟨rfl, hb⟩
      have H1 := hid9 (Kcs.below H0.out hb)
      clear H0 hb
      obtain ⟨f00, f01, f02, -, -, -⟩ := (H1.out.1).1
      go_wp2_with fail
      clear f00 f01 f02
      refine (K1 _).mono ?_
      rintro e v2 ⟨rfl, hb⟩
      have H2 := hid9 (Kcs.new (a := a0) (b := a1) (c := a2) H1.out hb)
      clear H1 hb
      obtain ⟨f00, f01, f02, -, -, -⟩ := (H2.out.1.2).1
      go_wp2_with fail
      clear f00 f01 f02
      revert H2
      generalize v2.alloc (.cells #[.int .u64 a0, .int .u64 a1, .int .u64 a2] 24) = W2
      generalize v2.heap.size = N2
      intro H2
      refine (K2 _).mono ?_
      rintro e v3 ⟨rfl, hb⟩
      have H3 := hid9 (Kcs.new (a := 0) (b := 0) (c := 0) H2.out hb)
      clear H2 hb
      obtain ⟨f00, f01, f02, -, -, -⟩ := (H3.out.1.2.2).1
      go_wp2_with fail
      clear f00 f01 f02
      revert H3
      generalize v3.alloc (.cells #[.int .u64 0, .int .u64 0, .int .u64 0] 24) = W3
      generalize v3.heap.size = N3
      intro H3
      refine (K3 _).mono ?_
      rintro e v4 ⟨rfl, hb⟩
      have H4 := hid9 (Kcs.new (a := 0) (b := 0) (c := 0) H3.out hb)
      clear H3 hb
      obtain ⟨f00, f01, f02, -, -, -⟩ := (H4.out.1.2.2).1
      obtain ⟨f10, f11, f12, -, -, -⟩ := (H4.out.1.2).1
      go_wp2_with fail
      clear f00 f01 f02 f10 f11 f12
      revert H4
      generalize v4.alloc (.cells #[.int .u64 0, .int .u64 0, .int .u64 0] 24) = W4
      generalize v4.heap.size = N4
      intro H4
      refine (K4 _).mono ?_
      rintro e v5 ⟨rfl, hb⟩
      have H5 := hid9 (Kcs.new (a := a0) (b := a1) (c := a2) H4.out hb)
      clear H4 hb
      go_wp2
      go_ret
      exact ⟨rfl, H5.out.2⟩
  · have K1 := fun w => mul_out N p w hN (by omega) c1
    have K2 := fun w => mul9_any N q w hN (by omega)
    have K3 := fun w => mul_out N (p + q) w hN (by omega) (by rw [ed]; omega)
    have hM := fitN_lt (N * q)
    generalize fitN (N * q) = M at *
    generalize fitE9 (N * q) = E at *
    have K4 := fun w => add_in 0 M w (by omega)
    rw [Nat.zero_add, costV_zero] at K4
    clear c1 ed hN hn hm hn2 hm2 hM
    unfold costV at *
    generalize cost0 N = x0 at *
    generalize cost1 N = x1 at *
    generalize cost2 N = x2 at *
    generalize cost0 M = b0 at *
    generalize cost1 M = b1 at *
    generalize cost2 M = b2 at *
    have H0 := HS x0 x1 x2
    clear HS
    go_enter Try.func7, Try.ntmps7
    go_wp2_with fail
    revert H0
    generalize w.alloc (.cells #[.int .u64 x0, .int .u64 x1, .int .u64 x2] 24) = W0
    intro H0
    refine (KK _).mono ?_
    rintro e v1 ⟨rfl, hb⟩
    have H1 := hid9 (Kcs.below H0.out hb)
    clear H0 hb
    obtain ⟨f00, f01, f02, -, -, -⟩ := (H1.out.1).1
    go_wp2_with fail
    clear f00 f01 f02
    refine (K1 _).mono ?_
    rintro e v2 ⟨rfl, hb⟩
    have H2 := hid9 (Kcs.new (a := 0) (b := 0) (c := 0) H1.out hb)
    clear H1 hb
    obtain ⟨f00, f01, f02, -, -, -⟩ := (H2.out.1.2).1
    go_wp2_with fail
    clear f00 f01 f02
    revert H2
    generalize v2.alloc (.cells #[.int .u64 0, .int .u64 0, .int .u64 0] 24) = W2
    generalize v2.heap.size = N2
    intro H2
    refine (K2 _).mono ?_
    rintro e v3 ⟨rfl, hb⟩
    have H3 := hid9 (Kcs.new (a := b0) (b := b1) (c := b2) H2.out hb)
    clear H2 hb
    obtain ⟨f00, f01, f02, -, -, -⟩ := (H3.out.1.2.2).1
    go_wp2_with fail
    clear f00 f01 f02
    revert H3
    generalize v3.alloc (.cells #[.int .u64 b0, .int .u64 b1, .int .u64 b2] 24) = W3
    generalize v3.heap.size = N3
    intro H3
    refine (K3 _).mono ?_
    rintro e v4 ⟨rfl, hb⟩
    have H4 := hid9 (Kcs.new (a := 0) (b := 0) (c := 0) H3.out hb)
    clear H3 hb
    obtain ⟨f00, f01, f02, -, -, -⟩ := (H4.out.1.2.2).1
    obtain ⟨f10, f11, f12, -, -, -⟩ := (H4.out.1.2).1
    go_wp2_with fail
    clear f00 f01 f02 f10 f11 f12
    revert H4
    generalize v4.alloc (.cells #[.int .u64 0, .int .u64 0, .int .u64 0] 24) = W4
    generalize v4.heap.size = N4
    intro H4
    refine (K4 _).mono ?_
    rintro e v5 ⟨rfl, hb⟩
    have H5 := hid9 (Kcs.new (a := b0) (b := b1) (c := b2) H4.out hb)
    clear H4 hb
    go_wp2
    go_ret
    exact ⟨rfl, H5.out.2⟩
end Go.Proofs.Ytnaamkkjledllaa
