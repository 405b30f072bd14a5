/-
  Plain facts of numbers of 192 bits: sums, products, powers, order.
-/
import Derived.Test.YtnaamkkjledllaaCst
namespace Go.Proofs.Ytnaamkkjledllaa
open Go.RowKit
set_option linter.unusedSimpArgs false
set_option linter.unusedVariables false

theorem div128 (x : Nat) : x / 340282366920938463463374607431768211456 = x / 18446744073709551616 / 18446744073709551616 := by rw [Nat.div_div_eq_div_mul]
theorem cost_split (N : Nat) : (N : Int) = cost0 N * 340282366920938463463374607431768211456 + cost1 N * 18446744073709551616 + cost2 N := by
  unfold cost0 cost1 cost2
  rw [div128]
  omega
theorem cost_eq {N M : Nat} (h0 : cost0 N = cost0 M) (h1 : cost1 N = cost1 M) (h2 : cost2 N = cost2 M) : N = M := by
  have a := cost_split N
  have b := cost_split M
  rw [h0, h1, h2] at a
  omega
theorem cost_mk (x y z : Int) (x0 : 0 ≤ x) (x1 : x < 18446744073709551616) (y0 : 0 ≤ y) (y1 : y < 18446744073709551616) (z0 : 0 ≤ z) (z1 : z < 18446744073709551616) :
    ∃ N : Nat, N < 6277101735386680763835789423207666416102355444464034512896 ∧ cost0 N = x ∧ cost1 N = y ∧ cost2 N = z := by
  refine ⟨x.toNat * 340282366920938463463374607431768211456 + y.toNat * 18446744073709551616 + z.toNat, by omega, ?_, ?_, ?_⟩
  · unfold cost0; omega
  · unfold cost1; omega
  · unfold cost2; omega
theorem costV_inj {N M : Nat} (h : costV N = costV M) : N = M := by
  unfold costV at h
  simp only [Value.agg.injEq, Array.mk.injEq, List.cons.injEq, Value.int.injEq, true_and, and_true] at h
  exact cost_eq h.1 h.2.1 h.2.2
/-- The order of numbers, as Cmp tells it. -/
def cmpN (N M : Nat) : Int := if N = M then 0 else if N < M then -1 else 1
theorem cmpN_self (N : Nat) : cmpN N N = 0 := by simp [cmpN]
/-- What a number is told as, where it may be too great. -/
def fitN (N : Nat) : Nat := if N < 6277101735386680763835789423207666416102355444464034512896 then N else 0
def fitE9 (N : Nat) : Int := if N < 6277101735386680763835789423207666416102355444464034512896 then 0 else 6
theorem fit_in {N : Nat} (h : N < 6277101735386680763835789423207666416102355444464034512896) : fitN N = N ∧ fitE9 N = 0 := by simp [fitN, fitE9, h]
theorem fit_out {N : Nat} (h : ¬ N < 6277101735386680763835789423207666416102355444464034512896) : fitN N = 0 ∧ fitE9 N = 6 := by simp [fitN, fitE9, h]
theorem fitN_lt (N : Nat) : fitN N < 6277101735386680763835789423207666416102355444464034512896 := by
  unfold fitN; split <;> omega
theorem cost_zero : cost0 0 = 0 ∧ cost1 0 = 0 ∧ cost2 0 = 0 := by decide
theorem costV_zero : costV 0 = .agg #[.int .u64 0, .int .u64 0, .int .u64 0] := by
  unfold costV; rw [cost_zero.1, cost_zero.2.1, cost_zero.2.2]
/-- The third digit of a sum, and what is carried out of it. -/
theorem plus_top (N M : Nat) (c : Int) (h : cost0 N + cost0 M + c = cost0 (N + M)) :
    addS (cost0 N) (cost0 M) c = cost0 (N + M) % 18446744073709551616 ∧ addC (cost0 N) (cost0 M) c = cost0 (N + M) / 18446744073709551616 := by
  unfold addS addC; rw [h]; exact ⟨rfl, rfl⟩
theorem top_in (N : Nat) (h : N < 6277101735386680763835789423207666416102355444464034512896) : cost0 N % 18446744073709551616 = cost0 N ∧ cost0 N / 18446744073709551616 = 0 := by
  unfold cost0; omega
theorem top_out (N : Nat) (h : ¬ N < 6277101735386680763835789423207666416102355444464034512896) : ¬ cost0 N / 18446744073709551616 = 0 := by
  unfold cost0; omega
/-- One digit of a product and what is carried into it. -/
def mulP (a n o : Nat) : Nat := a * n + o
theorem mulP_lt (a n o : Nat) (ha : a < 18446744073709551616) (hn : n < 18446744073709551616) (ho : o < 18446744073709551616) :
    mulP a n o < 340282366920938463463374607431768211456 := by
  have : a * n ≤ 18446744073709551615 * 18446744073709551615 := Nat.mul_le_mul (by omega) (by omega)
  unfold mulP; omega
theorem mulP_parts (a n o : Nat) (ha : a < 18446744073709551616) (hn : n < 18446744073709551616) (ho : o < 18446744073709551616) :
    (a * n % 18446744073709551616 + o) % 18446744073709551616 = mulP a n o % 18446744073709551616 ∧
    a * n / 18446744073709551616 + (a * n % 18446744073709551616 + o) / 18446744073709551616 = mulP a n o / 18446744073709551616 ∧ mulP a n o / 18446744073709551616 < 18446744073709551616 := by
  have := mulP_lt a n o ha hn ho
  unfold mulP at *
  generalize a * n = q at *
  omega
/-- The digits of a product and one number more. -/
theorem mul_digits (N n m : Nat) (a0 a1 a2 : Nat) (hN : N = a0 * 340282366920938463463374607431768211456 + a1 * 18446744073709551616 + a2) :
    (mulP a2 n m % 18446744073709551616 = (N * n + m) % 18446744073709551616) ∧
    (mulP a1 n (mulP a2 n m / 18446744073709551616) % 18446744073709551616 = (N * n + m) / 18446744073709551616 % 18446744073709551616) ∧
    (mulP a0 n (mulP a1 n (mulP a2 n m / 18446744073709551616) / 18446744073709551616) = (N * n + m) / 340282366920938463463374607431768211456) := by
  have e : N * n = a0 * n * 340282366920938463463374607431768211456 + a1 * n * 18446744073709551616 + a2 * n := by
    rw [hN, Nat.add_mul, Nat.add_mul, Nat.mul_right_comm, Nat.mul_right_comm a1]
  rw [e, div128]
  unfold mulP
  generalize a0 * n = q0
  generalize a1 * n = q1
  generalize a2 * n = q2
  refine ⟨by omega, by omega, by omega⟩
end Go.Proofs.Ytnaamkkjledllaa
