/-
  Numbers of 192 bits, as a program has them: three numbers of 64 bits, the highest first.
-/
import Derived.Test.YtnaamkkjledllaaFld
namespace Go.Proofs.Ytnaamkkjledllaa
open Go.RowKit
set_option linter.unusedSimpArgs false
set_option linter.unusedVariables false

/-- A number of addresses, as the program has it. -/
def cost0 (N : Nat) : Int := ((N / 340282366920938463463374607431768211456 : Nat) : Int)
def cost1 (N : Nat) : Int := ((N / 18446744073709551616 % 18446744073709551616 : Nat) : Int)
def cost2 (N : Nat) : Int := ((N % 18446744073709551616 : Nat) : Int)
def costV (N : Nat) : Value := .agg #[.int .u64 (cost0 N), .int .u64 (cost1 N), .int .u64 (cost2 N)]
theorem pow_lt64 (m : Nat) (h : m < 64) : 2 ^ m < 18446744073709551616 := by
  have := Nat.pow_lt_pow_right (a := 2) (by decide) h
  simpa using this
theorem wrap_pow (m : Nat) (h : m < 64) : IntKind.u64.wrap ((2 : Int) ^ m) = ((2 ^ m : Nat) : Int) := by
  have := pow_lt64 m h
  have e : ((2 : Int) ^ m) = ((2 ^ m : Nat) : Int) := by simp
  have h0 := Nat.two_pow_pos m
  rw [e, IntKind.wrap_u64]
  generalize 2 ^ m = t at *
  omega
theorem cost_0 (m : Nat) (h : m < 64) : costV (2 ^ m) = .agg #[.int .u64 0, .int .u64 0, .int .u64 ((2 ^ m : Nat) : Int)] := by
  have := pow_lt64 m h
  unfold costV cost0 cost1 cost2
  rw [Nat.div_eq_of_lt (by omega), Nat.div_eq_of_lt this, Nat.mod_eq_of_lt this]
  rfl
theorem cost_1 (m : Nat) (h : m < 64) : costV (2 ^ (m + 64)) = .agg #[.int .u64 0, .int .u64 ((2 ^ m : Nat) : Int), .int .u64 0] := by
  have := pow_lt64 m h
  have e : 2 ^ (m + 64) = 2 ^ m * 18446744073709551616 := by rw [Nat.pow_add]
  unfold costV cost0 cost1 cost2
  rw [e, Nat.mul_mod_left, Nat.mul_div_cancel _ (by decide), Nat.mod_eq_of_lt this, Nat.div_eq_of_lt (by omega)]
  rfl
theorem cost_2 : costV (2 ^ 128) = .agg #[.int .u64 1, .int .u64 0, .int .u64 0] := by
  have a : cost0 (2 ^ 128) = 1 := by decide +kernel
  have b : cost1 (2 ^ 128) = 0 := by decide +kernel
  have c : cost2 (2 ^ 128) = 0 := by decide +kernel
  unfold costV
  rw [a, b, c]
theorem plus_plain (N M : Nat) : addS (cost2 N) (cost2 M) 0 = cost2 (N + M) ∧ addS (cost1 N) (cost1 M) (addC (cost2 N) (cost2 M) 0) = cost1 (N + M) ∧ cost0 N + cost0 M + addC (cost1 N) (cost1 M) (addC (cost2 N) (cost2 M) 0) = cost0 (N + M) := by
  unfold addS addC cost0 cost1 cost2
  refine ⟨?_, ?_, ?_⟩
  · omega
  · omega
  · have e : ∀ x : Nat, x / 340282366920938463463374607431768211456 = x / 18446744073709551616 / 18446744073709551616 := fun x => by rw [Nat.div_div_eq_div_mul]
    rw [e, e, e]
    omega
theorem cost_lo (N : Nat) : 0 ≤ cost0 N ∧ 0 ≤ cost1 N ∧ cost1 N < 18446744073709551616 ∧ 0 ≤ cost2 N ∧ cost2 N < 18446744073709551616 := by
  unfold cost0 cost1 cost2
  omega
theorem cost_up (N : Nat) (h : N < 6277101735386680763835789423207666416102355444464034512896) : cost0 N < 18446744073709551616 := by
  unfold cost0
  omega
/-- A number of addresses in memory. -/
def AtC (w : World) (B : Nat) (x y z : Int) : Prop := w.cell? ⟨B, 0, none⟩ = some (.int .u64 x) ∧ w.cell? ⟨B, 1, none⟩ = some (.int .u64 y) ∧ w.cell? ⟨B, 2, none⟩ = some (.int .u64 z) ∧ w.frozen? ⟨B, 0, none⟩ = false ∧ w.frozen? ⟨B, 1, none⟩ = false ∧ w.frozen? ⟨B, 2, none⟩ = false
theorem AtC.below {w w' : World} {B : Nat} {x y z : Int} (h : AtC w B x y z) (hb : Below w.heap.size w w') : AtC w' B x y z := by
  obtain ⟨h0, h1, h2, h3, h4, h5⟩ := h
  exact ⟨keepc hb h0, keepc hb h1, keepc hb h2, keepf hb h0 h3, keepf hb h1 h4, keepf hb h2 h5⟩
theorem atc_new (w : World) (B : Nat) (x y z : Int) (T : TypeId) (h : B = w.heap.size) : AtC (w.alloc (.cells #[.int .u64 x, .int .u64 y, .int .u64 z] T)) B x y z := by
  subst h
  refine ⟨?_, ?_, ?_, ?_, ?_, ?_⟩ <;> simp [go_sem]
theorem AtC.set {W : World} {B : Nat} {x y z : Int} (h : AtC W B x y z) (x' y' z' : Int) : AtC (((W.setCell ⟨B, 0, none⟩ (.int .u64 x')).setCell ⟨B, 1, none⟩ (.int .u64 y')).setCell ⟨B, 2, none⟩ (.int .u64 z')) B x' y' z' := by
  obtain ⟨a0, a1, a2, a3, a4, a5⟩ := h
  refine ⟨?_, ?_, ?_, ?_, ?_, ?_⟩ <;> simp [go_sem, *]
theorem AtC.lt {W : World} {B : Nat} {x y z : Int} (h : AtC W B x y z) : B < W.heap.size := cell_in h.1
def E9 (w : World) (x0 x1 x2 y0 y1 y2 c0 c1 c2 : Int) (W : World) : Prop := AtC W w.heap.size x0 x1 x2 ∧ AtC W (w.heap.size + 1) y0 y1 y2 ∧ AtC W (w.heap.size + 1 + 1) 0 0 0 ∧ AtC W (w.heap.size + 1 + 1 + 1) c0 c1 c2 ∧ Below w.heap.size w W
theorem E9.drewN {w W : World} {x0 x1 x2 y0 y1 y2 c0 c1 c2 : Int} (h : E9 w x0 x1 x2 y0 y1 y2 c0 c1 c2 W) : ∀ q, E9 w x0 x1 x2 y0 y1 y2 c0 c1 c2 (W.drewN q) := fun q =>
  have hb := below_drewN (Below.refl W.heap.size W) q
  ⟨h.1.below hb, h.2.1.below hb, h.2.2.1.below hb, h.2.2.2.1.below hb, keepb hb h.2.2.2.2⟩
theorem AtC.one0 {W : World} {B : Nat} {x y z : Int} (h : AtC W B x y z) (u : Int) : AtC (W.setCell ⟨B, 0, none⟩ (.int .u64 u)) B u y z := by
  obtain ⟨a0, a1, a2, a3, a4, a5⟩ := h
  refine ⟨?_, ?_, ?_, ?_, ?_, ?_⟩ <;> simp [go_sem, *]
theorem AtC.oth0 {W : World} {B C : Nat} {x y z : Int} (h : AtC W B x y z) (hn : ¬ B = C) (u : Int) : AtC (W.setCell ⟨C, 0, none⟩ (.int .u64 u)) B x y z := by
  have hn' : ¬ C = B := fun e => hn e.symm
  obtain ⟨a0, a1, a2, a3, a4, a5⟩ := h
  refine ⟨?_, ?_, ?_, ?_, ?_, ?_⟩ <;> simp [go_sem, hn, hn', *]
theorem E9.set0 {w : World} {x0 x1 x2 y0 y1 y2 c0 c1 c2 : Int} {X : Nat → World} (h : ∀ q, E9 w x0 x1 x2 y0 y1 y2 c0 c1 c2 (X q)) (u : Int) : ∀ q, E9 w x0 x1 x2 y0 y1 y2 u c1 c2 ((X q).setCell ⟨w.heap.size + 1 + 1 + 1, 0, none⟩ (.int .u64 u)) := fun q =>
  ⟨(h q).1.oth0 (by omega) u, (h q).2.1.oth0 (by omega) u, (h q).2.2.1.oth0 (by omega) u, (h q).2.2.2.1.one0 u, (h q).2.2.2.2.setCell (by show w.heap.size ≤ w.heap.size + 1 + 1 + 1; omega) _⟩
theorem AtC.one1 {W : World} {B : Nat} {x y z : Int} (h : AtC W B x y z) (u : Int) : AtC (W.setCell ⟨B, 1, none⟩ (.int .u64 u)) B x u z := by
  obtain ⟨a0, a1, a2, a3, a4, a5⟩ := h
  refine ⟨?_, ?_, ?_, ?_, ?_, ?_⟩ <;> simp [go_sem, *]
theorem AtC.oth1 {W : World} {B C : Nat} {x y z : Int} (h : AtC W B x y z) (hn : ¬ B = C) (u : Int) : AtC (W.setCell ⟨C, 1, none⟩ (.int .u64 u)) B x y z := by
  have hn' : ¬ C = B := fun e => hn e.symm
  obtain ⟨a0, a1, a2, a3, a4, a5⟩ := h
  refine ⟨?_, ?_, ?_, ?_, ?_, ?_⟩ <;> simp [go_sem, hn, hn', *]
theorem E9.set1 {w : World} {x0 x1 x2 y0 y1 y2 c0 c1 c2 : Int} {X : Nat → World} (h : ∀ q, E9 w x0 x1 x2 y0 y1 y2 c0 c1 c2 (X q)) (u : Int) : ∀ q, E9 w x0 x1 x2 y0 y1 y2 c0 u c2 ((X q).setCell ⟨w.heap.size + 1 + 1 + 1, 1, none⟩ (.int .u64 u)) := fun q =>
  ⟨(h q).1.oth1 (by omega) u, (h q).2.1.oth1 (by omega) u, (h q).2.2.1.oth1 (by omega) u, (h q).2.2.2.1.one1 u, (h q).2.2.2.2.setCell (by show w.heap.size ≤ w.heap.size + 1 + 1 + 1; omega) _⟩
theorem AtC.one2 {W : World} {B : Nat} {x y z : Int} (h : AtC W B x y z) (u : Int) : AtC (W.setCell ⟨B, 2, none⟩ (.int .u64 u)) B x y u := by
  obtain ⟨a0, a1, a2, a3, a4, a5⟩ := h
  refine ⟨?_, ?_, ?_, ?_, ?_, ?_⟩ <;> simp [go_sem, *]
theorem AtC.oth2 {W : World} {B C : Nat} {x y z : Int} (h : AtC W B x y z) (hn : ¬ B = C) (u : Int) : AtC (W.setCell ⟨C, 2, none⟩ (.int .u64 u)) B x y z := by
  have hn' : ¬ C = B := fun e => hn e.symm
  obtain ⟨a0, a1, a2, a3, a4, a5⟩ := h
  refine ⟨?_, ?_, ?_, ?_, ?_, ?_⟩ <;> simp [go_sem, hn, hn', *]
theorem E9.set2 {w : World} {x0 x1 x2 y0 y1 y2 c0 c1 c2 : Int} {X : Nat → World} (h : ∀ q, E9 w x0 x1 x2 y0 y1 y2 c0 c1 c2 (X q)) (u : Int) : ∀ q, E9 w x0 x1 x2 y0 y1 y2 c0 c1 u ((X q).setCell ⟨w.heap.size + 1 + 1 + 1, 2, none⟩ (.int .u64 u)) := fun q =>
  ⟨(h q).1.oth2 (by omega) u, (h q).2.1.oth2 (by omega) u, (h q).2.2.1.oth2 (by omega) u, (h q).2.2.2.1.one2 u, (h q).2.2.2.2.setCell (by show w.heap.size ≤ w.heap.size + 1 + 1 + 1; omega) _⟩
end Go.Proofs.Ytnaamkkjledllaa
