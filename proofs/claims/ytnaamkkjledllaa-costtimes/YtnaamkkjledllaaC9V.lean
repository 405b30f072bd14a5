/-
  What the call of math/bits.Div64 by ten does.
-/
import Derived.Test.YtnaamkkjledllaaC9B
import Derived.Laws.Bits64b
namespace Go.Proofs.Ytnaamkkjledllaa
open Go.RowKit
set_option linter.unusedSimpArgs false
set_option linter.unusedVariables false

set_option maxRecDepth 20000 in
set_option maxHeartbeats 2000000 in
theorem len10 (w : World) : Calls Try.prog 35 #[.int .u64 10] w fun e w' => e = .returned (.int .i64 4) ∧ w' = w := by
  go_enter Try.func35, Try.ntmps35
  go_wp2
  go_ret
  refine ⟨?_, rfl⟩
  first | kernel_rfl | (simp [wrap64]; done) | decide
theorem lead10 (w : World) : Calls Try.prog 34 #[.int .u64 10] w fun e w' => e = .returned (.int .i64 60) ∧ w' = w := by
  go_enter Try.func34, Try.ntmps34
  go_wp2_with fail
  refine (len10 _).mono ?_
  rintro e w1 ⟨rfl, rfl⟩
  go_wp2
  go_ret
  exact ⟨rfl, rfl⟩
set_option maxRecDepth 20000 in
set_option maxHeartbeats 2000000 in
theorem div10_low (lo : Nat) (w : World) (hlo : lo < 18446744073709551616) :
    Calls Try.prog 33 #[.int .u64 0, .int .u64 (lo : Int), .int .u64 10] w fun e w' => e = .returned (.tuple #[.int .u64 ((lo / 10 : Nat) : Int), .int .u64 ((lo % 10 : Nat) : Int)]) ∧ Below w.heap.size w w' := by
  have HD := hid9 (fun q => below_drewN (Below.refl w.heap.size w) q)
  have e1 : (lo : Int) / 10 = ((lo / 10 : Nat) : Int) := by omega
  have e2 : (lo : Int) % 10 = ((lo % 10 : Nat) : Int) := by omega
  rw [← e1, ← e2]
  clear e1 e2
  go_enter Try.func33, Try.ntmps33
  go_wp2_with fail
  go_quiet (fail)
  go_wp2
  go_ret2
  exact ⟨rfl, HD.out _⟩
theorem or60 (hi lo : Nat) (h1 : hi < 10) (hlo : lo < 18446744073709551616) : bits .or .u64 ((hi : Int) * 1152921504606846976) ((lo : Int) / 16) = (hi : Int) * 1152921504606846976 + (lo : Int) / 16 := by
  have e := bits_or_u64_nat (1152921504606846976 * hi) (lo / 16) (by omega) (by omega)
  have f : 1152921504606846976 * hi ||| lo / 16 = 1152921504606846976 * hi + lo / 16 := (Nat.two_pow_add_eq_or_of_lt (i := 60) (by omega) hi).symm
  rw [f] at e
  have g : (((1152921504606846976 * hi : Nat)) : Int) = (hi : Int) * 1152921504606846976 := by omega
  have k : ((lo / 16 : Nat) : Int) = (lo : Int) / 16 := by omega
  rw [g, k] at e
  rw [e]; omega
theorem and60 (L : Nat) (h : L < 16) : bits .and .u64 ((L : Int) * 1152921504606846976) 4294967295 = 0 := by
  have e := bits_and_u64_nat (1152921504606846976 * L) 4294967295 (by omega) (by omega)
  have f : 1152921504606846976 * L &&& 4294967295 = (1152921504606846976 * L) % 4294967296 := Nat.and_two_pow_sub_one_eq_mod _ 32
  rw [f, show (1152921504606846976 * L) % 4294967296 = 0 by omega] at e
  have g : (((1152921504606846976 * L : Nat)) : Int) = (L : Int) * 1152921504606846976 := by omega
  rw [g] at e
  exact e
set_option maxRecDepth 20000 in
set_option maxHeartbeats 4000000 in
theorem div10_high (hi lo : Nat) (w : World) (h0 : 0 < hi) (h1 : hi < 10) (hlo : lo < 18446744073709551616) :
    Calls Try.prog 33 #[.int .u64 (hi : Int), .int .u64 (lo : Int), .int .u64 10] w fun e w' => e = .returned (.tuple #[.int .u64 (((hi * 18446744073709551616 + lo) / 10 : Nat) : Int), .int .u64 (((hi * 18446744073709551616 + lo) % 10 : Nat) : Int)]) ∧ Below w.heap.size w w' := by
  have d1 : ((hi : Int) == 0) = false := by simp; omega
  have d2 : decide ((10 : Int) ≤ (hi : Int)) = false := by simp; omega
  have f1 : bits .and .u64 11529215046068469760 4294967295 = 0 := by decide +kernel
  have f2 := or60 hi lo h1 hlo
  have f3 : IntKind.u64.wrap ((lo : Int) * 1152921504606846976) = ((lo % 16 : Nat) : Int) * 1152921504606846976 := by rw [IntKind.wrap_u64]; omega
  have f5 := and60 (lo % 16) (by omega)
  have f4 : ((lo % 16 : Nat) : Int) * 1152921504606846976 / 4294967296 = ((lo % 16 : Nat) : Int) * 268435456 := by omega
  have f0 : IntKind.u64.wrap ((hi : Int) * 1152921504606846976) = (hi : Int) * 1152921504606846976 := by rw [IntKind.wrap_u64]; omega
  obtain ⟨U, hU⟩ : ∃ U : Int, U = (hi : Int) * 1152921504606846976 + (lo : Int) / 16 := ⟨_, rfl⟩
  obtain ⟨L, hL⟩ : ∃ L : Int, L = ((lo % 16 : Nat) : Int) * 1152921504606846976 := ⟨_, rfl⟩
  obtain ⟨L1, hL1⟩ : ∃ L1 : Int, L1 = ((lo % 16 : Nat) : Int) * 268435456 := ⟨_, rfl⟩
  rw [← hU] at f2
  rw [← hL] at f3 f4 f5
  rw [← hL1] at f4
  have bU : 0 ≤ U ∧ U < 11529215046068469760 := by omega
  obtain ⟨Q1, hQ1⟩ : ∃ Q : Int, Q = U / 2684354560 := ⟨_, rfl⟩
  have g1 : IntKind.u64.wrap (U.tdiv 2684354560) = Q1 := by rw [Int.tdiv_eq_ediv_of_nonneg bU.1, IntKind.wrap_u64]; omega
  obtain ⟨P1, hP1⟩ : ∃ Q : Int, Q = Q1 * 2684354560 := ⟨_, rfl⟩
  have g2 : IntKind.u64.wrap (Q1 * 2684354560) = P1 := by rw [IntKind.wrap_u64]; omega
  obtain ⟨R1, hR1⟩ : ∃ Q : Int, Q = U - P1 := ⟨_, rfl⟩
  have g3 : IntKind.u64.wrap (U - P1) = R1 := by rw [IntKind.wrap_u64]; omega
  have g4 : decide ((4294967296 : Int) ≤ Q1) = false := by simp; omega
  obtain ⟨A1, hA1⟩ : ∃ Q : Int, Q = R1 * 4294967296 := ⟨_, rfl⟩
  have g5 : IntKind.u64.wrap (4294967296 * R1) = A1 := by rw [IntKind.wrap_u64]; omega
  obtain ⟨V, hV⟩ : ∃ Q : Int, Q = A1 + L1 := ⟨_, rfl⟩
  have g6 : IntKind.u64.wrap (A1 + L1) = V := by rw [IntKind.wrap_u64]; omega
  have g7 : decide (V < 0) = false := by simp; omega
  obtain ⟨z1, k1⟩ : ∃ Q : Int, IntKind.u64.wrap (U * 4294967296) = Q := ⟨_, rfl⟩
  obtain ⟨z2, k2⟩ : ∃ Q : Int, IntKind.u64.wrap (z1 + L1) = Q := ⟨_, rfl⟩
  obtain ⟨z3, k3⟩ : ∃ Q : Int, IntKind.u64.wrap (Q1 * 11529215046068469760) = Q := ⟨_, rfl⟩
  have k4 : IntKind.u64.wrap (z2 - z3) = V := by rw [← k2, ← k1, ← k3, IntKind.wrap_u64, IntKind.wrap_u64, IntKind.wrap_u64, IntKind.wrap_u64]; omega
  obtain ⟨Q0, hQ0⟩ : ∃ Q : Int, Q = V / 2684354560 := ⟨_, rfl⟩
  have l1 : IntKind.u64.wrap (V.tdiv 2684354560) = Q0 := by rw [Int.tdiv_eq_ediv_of_nonneg (by omega), IntKind.wrap_u64]; omega
  obtain ⟨P0, hP0⟩ : ∃ Q : Int, Q = Q0 * 2684354560 := ⟨_, rfl⟩
  have l2 : IntKind.u64.wrap (Q0 * 2684354560) = P0 := by rw [IntKind.wrap_u64]; omega
  obtain ⟨R0, hR0⟩ : ∃ Q : Int, Q = V - P0 := ⟨_, rfl⟩
  have l3 : IntKind.u64.wrap (V - P0) = R0 := by rw [IntKind.wrap_u64]; omega
  have l4 : decide ((4294967296 : Int) ≤ Q0) = false := by simp; omega
  obtain ⟨A0, hA0⟩ : ∃ Q : Int, Q = R0 * 4294967296 := ⟨_, rfl⟩
  have l5 : IntKind.u64.wrap (4294967296 * R0) = A0 := by rw [IntKind.wrap_u64]; omega
  have l6 : IntKind.u64.wrap A0 = A0 := by rw [IntKind.wrap_u64]; omega
  have l7 : decide (A0 < 0) = false := by simp; omega
  obtain ⟨X1, hX1⟩ : ∃ Q : Int, Q = Q1 * 4294967296 := ⟨_, rfl⟩
  have m1 : IntKind.u64.wrap (Q1 * 4294967296) = X1 := by rw [IntKind.wrap_u64]; omega
  have m2 : IntKind.u64.wrap (X1 + Q0) = (((hi * 18446744073709551616 + lo) / 10 : Nat) : Int) := by rw [IntKind.wrap_u64]; omega
  obtain ⟨y1, n1⟩ : ∃ Q : Int, IntKind.u64.wrap (V * 4294967296) = Q := ⟨_, rfl⟩
  obtain ⟨y2, n2⟩ : ∃ Q : Int, IntKind.u64.wrap (Q0 * 11529215046068469760) = Q := ⟨_, rfl⟩
  obtain ⟨y3, hy3⟩ : ∃ Q : Int, Q = R0 * 4294967296 := ⟨_, rfl⟩
  have n0 : IntKind.u64.wrap y1 = y1 := by rw [← n1]; rw [IntKind.wrap_u64, IntKind.wrap_u64]; omega
  have n3 : IntKind.u64.wrap (y1 - y2) = y3 := by rw [← n1, ← n2]; rw [IntKind.wrap_u64, IntKind.wrap_u64, IntKind.wrap_u64]; omega
  have n4 : y3 / 1152921504606846976 = (((hi * 18446744073709551616 + lo) % 10 : Nat) : Int) := by omega
  generalize (((hi * 18446744073709551616 + lo) / 10 : Nat) : Int) = QQ at *
  generalize (((hi * 18446744073709551616 + lo) % 10 : Nat) : Int) = RR at *
  have HB := hid9 (Below.refl w.heap.size w)
  clear hU hL hL1 bU hQ1 hP1 hR1 hA1 hV hQ0 hP0 hR0 hA0 hX1 hy3 h0 h1 hlo
  go_enter Try.func33, Try.ntmps33
  go_wp2_with fail
  refine (lead10 _).mono ?_
  rintro e w1 ⟨rfl, rfl⟩
  go_wp2_with fail
  go_loopw [15, 16] (fun a b wr => a = .int .u64 Q1 ∧ b = .int .u64 R1 ∧ wr = w1) (fun _ _ _ => 0)
  case atStart => exact ⟨by simp [*], by simp [*], rfl⟩
  case round =>
    obtain ⟨rfl, rfl, rfl⟩ := hrel
    go_wp2_with fail
    go_loopw [18, 16] (fun a b wr' => a = .int .u64 Q0 ∧ b = .int .u64 R0 ∧ wr' = wr) (fun _ _ _ => 0)
    case atStart => exact ⟨by simp [*], by simp [*], rfl⟩
    case round =>
      obtain ⟨rfl, rfl, rfl⟩ := hrel
      go_wp2
      go_ret2
      exact ⟨rfl, HB.out⟩
end Go.Proofs.Ytnaamkkjledllaa
