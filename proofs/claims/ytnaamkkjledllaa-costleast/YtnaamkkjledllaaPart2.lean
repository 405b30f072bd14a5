/-
  Part 2 of the proof: 4 texts, one behind the other.
-/
import Derived.Test.YtnaamkkjledllaaPart1
import Derived.Test.YtnaamkkjledllaaRows
import Derived.ProofKit
import Derived.Lib.SmallJoins
import Derived.Laws.IdiomArrays
import Derived.Laws.StructEq
import Derived.Deep.QuietTactic
import Derived.BigQuiet
/-
  Plain facts of numbers of 192 bits: sums, products, powers, order.
-/
namespace Go.Proofs.Ytnaamkkjledllaa
open Go.RowKit
set_option linter.unusedSimpArgs false
set_option linter.unusedVariables false

theorem div128 (x : Nat) : x / 340282366920938463463374607431768211456 = x / 18446744073709551616 / 18446744073709551616 := by rw [Nat.div_div_eq_div_mul]
theorem cost_split (N : Nat) : (N : Int) = cost0 N * 340282366920938463463374607431768211456 + cost1 N * 18446744073709551616 + cost2 N := by
  unfold cost0 cost1 cost2
  rw [div128]
  omega
theorem cost_eq {N M : Nat} (h0 : cost0 N = cost0 M) (h1 : cost1 N = cost1 M) (h2 : cost2 N = cost2 M) : N = M := by
  have a := cost_split N
  have b := cost_split M
  rw [h0, h1, h2] at a
  omega
theorem cost_mk (x y z : Int) (x0 : 0 ≤ x) (x1 : x < 18446744073709551616) (y0 : 0 ≤ y) (y1 : y < 18446744073709551616) (z0 : 0 ≤ z) (z1 : z < 18446744073709551616) :
    ∃ N : Nat, N < 6277101735386680763835789423207666416102355444464034512896 ∧ cost0 N = x ∧ cost1 N = y ∧ cost2 N = z := by
  refine ⟨x.toNat * 340282366920938463463374607431768211456 + y.toNat * 18446744073709551616 + z.toNat, by omega, ?_, ?_, ?_⟩
  · unfold cost0; omega
  · unfold cost1; omega
  · unfold cost2; omega
theorem costV_inj {N M : Nat} (h : costV N = costV M) : N = M := by
  unfold costV at h
  simp only [Value.agg.injEq, Array.mk.injEq, List.cons.injEq, Value.int.injEq, true_and, and_true] at h
  exact cost_eq h.1 h.2.1 h.2.2
/-- The order of numbers, as Cmp tells it. -/
def cmpN (N M : Nat) : Int := if N = M then 0 else if N < M then -1 else 1
theorem cmpN_self (N : Nat) : cmpN N N = 0 := by simp [cmpN]
/-- What a number is told as, where it may be too great. -/
def fitN (N : Nat) : Nat := if N < 6277101735386680763835789423207666416102355444464034512896 then N else 0
def fitE9 (N : Nat) : Int := if N < 6277101735386680763835789423207666416102355444464034512896 then 0 else 6
theorem fit_in {N : Nat} (h : N < 6277101735386680763835789423207666416102355444464034512896) : fitN N = N ∧ fitE9 N = 0 := by simp [fitN, fitE9, h]
theorem fit_out {N : Nat} (h : ¬ N < 6277101735386680763835789423207666416102355444464034512896) : fitN N = 0 ∧ fitE9 N = 6 := by simp [fitN, fitE9, h]
theorem fitN_lt (N : Nat) : fitN N < 6277101735386680763835789423207666416102355444464034512896 := by
  unfold fitN; split <;> omega
theorem cost_zero : cost0 0 = 0 ∧ cost1 0 = 0 ∧ cost2 0 = 0 := by decide
theorem costV_zero : costV 0 = .agg #[.int .u64 0, .int .u64 0, .int .u64 0] := by
  unfold costV; rw [cost_zero.1, cost_zero.2.1, cost_zero.2.2]
/-- The third digit of a sum, and what is carried out of it. -/
theorem plus_top (N M : Nat) (c : Int) (h : cost0 N + cost0 M + c = cost0 (N + M)) :
    addS (cost0 N) (cost0 M) c = cost0 (N + M) % 18446744073709551616 ∧ addC (cost0 N) (cost0 M) c = cost0 (N + M) / 18446744073709551616 := by
  unfold addS addC; rw [h]; exact ⟨rfl, rfl⟩
theorem top_in (N : Nat) (h : N < 6277101735386680763835789423207666416102355444464034512896) : cost0 N % 18446744073709551616 = cost0 N ∧ cost0 N / 18446744073709551616 = 0 := by
  unfold cost0; omega
theorem top_out (N : Nat) (h : ¬ N < 6277101735386680763835789423207666416102355444464034512896) : ¬ cost0 N / 18446744073709551616 = 0 := by
  unfold cost0; omega
/-- One digit of a product and what is carried into it. -/
def mulP (a n o : Nat) : Nat := a * n + o
theorem mulP_lt (a n o : Nat) (ha : a < 18446744073709551616) (hn : n < 18446744073709551616) (ho : o < 18446744073709551616) :
    mulP a n o < 340282366920938463463374607431768211456 := by
  have : a * n ≤ 18446744073709551615 * 18446744073709551615 := Nat.mul_le_mul (by omega) (by omega)
  unfold mulP; omega
theorem mulP_parts (a n o : Nat) (ha : a < 18446744073709551616) (hn : n < 18446744073709551616) (ho : o < 18446744073709551616) :
    (a * n % 18446744073709551616 + o) % 18446744073709551616 = mulP a n o % 18446744073709551616 ∧
    a * n / 18446744073709551616 + (a * n % 18446744073709551616 + o) / 18446744073709551616 = mulP a n o / 18446744073709551616 ∧ mulP a n o / 18446744073709551616 < 18446744073709551616 := by
  have := mulP_lt a n o ha hn ho
  unfold mulP at *
  generalize a * n = q at *
  omega
/-- The digits of a product and one number more. -/
theorem mul_digits (N n m : Nat) (a0 a1 a2 : Nat) (hN : N = a0 * 340282366920938463463374607431768211456 + a1 * 18446744073709551616 + a2) :
    (mulP a2 n m % 18446744073709551616 = (N * n + m) % 18446744073709551616) ∧
    (mulP a1 n (mulP a2 n m / 18446744073709551616) % 18446744073709551616 = (N * n + m) / 18446744073709551616 % 18446744073709551616) ∧
    (mulP a0 n (mulP a1 n (mulP a2 n m / 18446744073709551616) / 18446744073709551616) = (N * n + m) / 340282366920938463463374607431768211456) := by
  have e : N * n = a0 * n * 340282366920938463463374607431768211456 + a1 * n * 18446744073709551616 + a2 * n := by
    rw [hN, Nat.add_mul, Nat.add_mul, Nat.mul_right_comm, Nat.mul_right_comm a1]
  rw [e, div128]
  unfold mulP
  generalize a0 * n = q0
  generalize a1 * n = q1
  generalize a2 * n = q2
  refine ⟨by omega, by omega, by omega⟩
end Go.Proofs.Ytnaamkkjledllaa
/-
  How a number of 192 bits that is handed in reads as data.
-/
namespace Go.Proofs.Ytnaamkkjledllaa
open Go.ChangeShapes Go.WideShapes Go.ChangeAt Go.RowKit Go.Joins
set_option linter.unusedSimpArgs false
set_option linter.unusedVariables false

theorem Try.cellsC : Try.prog.cellsOf 24 = 3 := by kernel_rfl
theorem Try.cellsU9 : Try.prog.cellsOf 22 = 1 := by kernel_rfl
theorem u64_bdC {a : Int} (h : (Lit.int .u64 a).wf = true) : 0 ≤ a ∧ a < 18446744073709551616 := by
  simp [Lit.wf, IntKind.min, IntKind.max, IntKind.signed, IntKind.bits] at h; omega
theorem costV_of {N : Nat} {a b c : Int} (h0 : cost0 N = a) (h1 : cost1 N = b) (h2 : cost2 N = c) : costV N = .agg #[.int .u64 a, .int .u64 b, .int .u64 c] := by unfold costV; rw [h0, h1, h2]
theorem array3c {cs : Array Value} (h : cs.size = 3) : ∃ a b c, cs = #[a, b, c] := by
  obtain ⟨l⟩ := cs
  match l, h with
  | [a, b, c], _ => exact ⟨a, b, c, rfl⟩
section
variable {H : Type} {enc : TypeId × Value → H} {w : World} {base : Nat} {spare : Nat → Bool} {held : Bool}
set_option maxRecDepth 100000 in
theorem open_cost {r : Reach} {b0 : Nat} {v : Value} {d : DataW H} {p : List MemPlace} (hv : Value.okWide Try.prog w r b0 24 v) (h : DataW.Trod enc Try.prog w base spare held 24 v d p) :
    ∃ a b c : Int, v = .agg #[.int .u64 a, .int .u64 b, .int .u64 c] ∧ d = .agg [.lit (.int .u64 a), .lit (.int .u64 b), .lit (.int .u64 c)] ∧ p = [] ∧ (Lit.int .u64 a).wf = true ∧ (Lit.int .u64 b).wf = true ∧ (Lit.int .u64 c).wf = true := by
  obtain ⟨cs, rfl, hsz, _⟩ : ∃ cs, v = .agg cs ∧ cs.size = Try.prog.cellsOf 24 ∧ Row.okWide Try.prog w r b0 24 cs := by
    simpa [Value.okWide, Try.underlying24] using hv
  obtain ⟨c0, c1, c2, rfl⟩ := array3c (hsz.trans Try.cellsC)
  obtain ⟨fuel, hf⟩ := h
  obtain ⟨y0, y1, y2, m, hx, hy0, hy1, hy2⟩ := trod_array3 Try.underlying24 Try.cellsU9 hf
  obtain ⟨a, ea, rfl, wa⟩ := DataW.trod_int Try.underlying22 hy0
  obtain ⟨b, eb, rfl, wb⟩ := DataW.trod_int Try.underlying22 hy1
  obtain ⟨c, ec, rfl, wc⟩ := DataW.trod_int Try.underlying22 hy2
  simp at ea eb ec
  subst ea eb ec
  simp only [Prod.mk.injEq] at hx
  exact ⟨a, b, c, rfl, hx.1, by simpa using hx.2, wa, wb, wc⟩
set_option maxRecDepth 100000 in
theorem shut_cost {a b c : Int} (wa : (Lit.int .u64 a).wf = true) (wb : (Lit.int .u64 b).wf = true) (wc : (Lit.int .u64 c).wf = true) :
    DataW.Trod enc Try.prog w base spare held 24 (.agg #[.int .u64 a, .int .u64 b, .int .u64 c]) (.agg [.lit (.int .u64 a), .lit (.int .u64 b), .lit (.int .u64 c)]) [] := by
  have r3 : List.range 3 = [0, 1, 2] := rfl
  exact ⟨2, by simp [DataW.trod, Value.cells, Try.underlying24, Try.underlying22, Try.cellsC, Try.cellsU9, r3, wa, wb, wc]⟩
end
end Go.Proofs.Ytnaamkkjledllaa
/-
  What the calls of package cost's fitting, Of, Pow and of the document's Of and Pow do; numbers of 192 bits compared.
-/
namespace Go.Proofs.Ytnaamkkjledllaa
open Go.RowKit
set_option linter.unusedSimpArgs false
set_option linter.unusedVariables false

/-- Are the three the same? -/
def eq9 (a b c x y z : Int) : Bool := decide (a = x ∧ b = y ∧ c = z)
theorem eq9_cost (N M : Nat) : eq9 (cost0 N) (cost1 N) (cost2 N) (cost0 M) (cost1 M) (cost2 M) = decide (N = M) := by
  unfold eq9
  rw [decide_eq_decide]
  refine ⟨fun h => cost_eq h.1 h.2.1 h.2.2, fun h => by subst h; exact ⟨rfl, rfl, rfl⟩⟩
theorem infoU9 : (Try.prog.info? 22).map (fun i => i.size) = some 1 := by kernel_rfl
theorem eqC_any (a b c x y z : Int) (w : World) :
    (Op.equalIn 10000 24 (.agg #[.int .u64 a, .int .u64 b, .int .u64 c]) (.agg #[.int .u64 x, .int .u64 y, .int .u64 z])).run Try.prog w = .ok (eq9 a b c x y z) w := by
  have hU : Try.prog.underlying 24 = some (.array 3 22) := by kernel_rfl
  have hE : Try.prog.underlying 22 = some (.int .u64) := by kernel_rfl
  obtain ⟨i, hi, hs⟩ : ∃ i, Try.prog.info? 22 = some i ∧ i.size = 1 := by
    have := infoU9
    cases h : Try.prog.info? 22 with
    | none => rw [h] at this; cases this
    | some i => rw [h] at this; simp at this; exact ⟨i, rfl, this⟩
  have hq := fun (x y : Int) (w : World) => run_equalIn_int (P := Try.prog) w 9998 22 .u64 .u64 x y hE
  simp only [Nat.reduceAdd] at hq
  rw [show (10000 : Nat) = 9999 + 1 from rfl, Op.equalIn]
  unfold eq9
  by_cases h0 : a = x
  · by_cases h1 : b = y
    · by_cases h2 : c = z <;> simp [run_underlying hU, run_underlying hE, sizeOf, typeInfo, hi, hs, isAgg, List.range'_succ, List.forIn_cons, hq, go_sem, h0, h1, h2]
    · simp [run_underlying hU, run_underlying hE, sizeOf, typeInfo, hi, hs, isAgg, List.range'_succ, List.forIn_cons, hq, go_sem, h0, h1]
  · simp [run_underlying hU, run_underlying hE, sizeOf, typeInfo, hi, hs, isAgg, List.range'_succ, List.forIn_cons, hq, go_sem, h0]
set_option maxRecDepth 20000 in
theorem fitting_any (a b c o : Int) (w : World) :
    Calls Try.prog 27 #[.agg #[.int .u64 a, .int .u64 b, .int .u64 c], .int .u64 o] w fun e w' => e = .returned (.tuple #[if o = 0 then .agg #[.int .u64 a, .int .u64 b, .int .u64 c] else costV 0, .int .i64 (if o = 0 then 0 else 6)]) ∧ Below w.heap.size w w' := by
  have hb : ∀ o p q : Obj, Below w.heap.size w (((w.alloc o).alloc p).alloc q) := fun o p q => (((Below.refl _ w).alloc (Nat.le_refl _) o).alloc (by simp) p).alloc (by simp; omega) q
  by_cases h : o = 0
  · rw [if_pos h, if_pos h]
    subst h
    go_enter Try.func27, Try.ntmps27
    go_wp2
    exact bodyPost_ret (v := .tuple #[.agg #[.int .u64 a, .int .u64 b, .int .u64 c], .int .i64 0]) (by simp [results, Try.results27, go_sem]) rfl ⟨rfl, by first | exact hb _ _ _ | exact bl2 _ _ _⟩
  · rw [if_neg h, if_neg h, costV_zero]
    have hd : (o == 0) = false := by simpa using h
    go_enter Try.func27, Try.ntmps27
    go_wp2
    exact bodyPost_ret (v := .tuple #[.agg #[.int .u64 0, .int .u64 0, .int .u64 0], .int .i64 6]) (by simp [results, Try.results27, go_sem]) rfl ⟨rfl, by first | exact hb _ _ _ | exact bl2 _ _ _⟩
/-- What Pow tells. -/
def powN (n : Int) : Nat := if 0 ≤ n ∧ n < 192 then 2 ^ n.toNat else 0
def powE (n : Int) : Int := if 0 ≤ n ∧ n < 192 then 0 else 1
theorem pow_in (m : Nat) (h : m < 192) : powN m = 2 ^ m ∧ powE m = 0 := by
  have : (0 : Int) ≤ m ∧ (m : Int) < 192 := by omega
  unfold powN powE; rw [if_pos this, if_pos this, Int.toNat_natCast]; exact ⟨rfl, rfl⟩
theorem pow_out (n : Int) (h : n < 0 ∨ 192 ≤ n) : powN n = 0 ∧ powE n = 1 := by
  have : ¬ (0 ≤ n ∧ n < 192) := by omega
  unfold powN powE; rw [if_neg this, if_neg this]; exact ⟨rfl, rfl⟩
theorem cost_3 (m : Nat) (h : m < 64) : costV (2 ^ (m + 128)) = .agg #[.int .u64 ((2 ^ m : Nat) : Int), .int .u64 0, .int .u64 0] := by
  have := pow_lt64 m h
  have e : 2 ^ (m + 128) = 2 ^ m * 340282366920938463463374607431768211456 := by rw [Nat.pow_add]
  unfold costV cost0 cost1 cost2
  rw [e]
  generalize 2 ^ m = t at *
  have a : t * 340282366920938463463374607431768211456 / 340282366920938463463374607431768211456 = t := by omega
  have b : t * 340282366920938463463374607431768211456 / 18446744073709551616 % 18446744073709551616 = 0 := by omega
  have c : t * 340282366920938463463374607431768211456 % 18446744073709551616 = 0 := by omega
  rw [a, b, c]; rfl
set_option maxRecDepth 20000 in
set_option maxHeartbeats 2000000 in
theorem pow9_any (n : Int) (w : World) (n0 : -9223372036854775808 ≤ n) (n1 : n ≤ 9223372036854775807) :
    Calls Try.prog 11 #[.int .i64 n] w fun e w' => e = .returned (.tuple #[costV (powN n), .int .i64 (powE n)]) ∧ Below w.heap.size w w' := by
  by_cases h0 : n < 0
  · rw [(pow_out n (.inl h0)).1, (pow_out n (.inl h0)).2, costV_zero]
    go_enter Try.func11, Try.ntmps11
    go_wp2
    exact bodyPost_ret (v := .tuple #[.agg #[.int .u64 0, .int .u64 0, .int .u64 0], .int .i64 1]) (by simp [results, Try.results11, go_sem]) rfl ⟨rfl, bl1 _ _⟩
  · obtain ⟨m, rfl⟩ : ∃ m : Nat, n = (m : Int) := ⟨n.toNat, by omega⟩
    by_cases h1 : 192 ≤ (m : Int)
    · rw [(pow_out m (.inr h1)).1, (pow_out m (.inr h1)).2, costV_zero]
      generalize (m : Int) = n at *
      go_enter Try.func11, Try.ntmps11
      go_wp2
      exact bodyPost_ret (v := .tuple #[.agg #[.int .u64 0, .int .u64 0, .int .u64 0], .int .i64 1]) (by simp [results, Try.results11, go_sem]) rfl ⟨rfl, bl1 _ _⟩
    · rw [(pow_in m (by omega)).1, (pow_in m (by omega)).2]
      have hd1 : ¬ (m : Int) < 0 := by omega
      by_cases c0 : m < 64
      · have d0 : (m : Int) / 64 = 0 := by omega
        have d1 : (m : Int) % 64 = (m : Int) := by omega
        have ew := wrap_pow m c0
        rw [cost_0 m c0]
        go_enter Try.func11, Try.ntmps11
        go_wp2
        exact bodyPost_ret (v := .tuple #[.agg #[.int .u64 0, .int .u64 0, .int .u64 ((2 ^ m : Nat) : Int)], .int .i64 0]) (by simp [results, Try.results11, go_sem]) rfl ⟨rfl, bl2 _ _ _⟩
      · by_cases c1 : m < 128
        · obtain ⟨k, rfl⟩ : ∃ k, m = k + 64 := ⟨m - 64, by omega⟩
          have d0 : ((k + 64 : Nat) : Int) / 64 = 1 := by omega
          have d1 : ((k + 64 : Nat) : Int) % 64 = (k : Int) := by omega
          have ew := wrap_pow k (by omega)
          rw [cost_1 k (by omega)]
          generalize ((k + 64 : Nat) : Int) = mm at *
          go_enter Try.func11, Try.ntmps11
          go_wp2
          exact bodyPost_ret (v := .tuple #[.agg #[.int .u64 0, .int .u64 ((2 ^ k : Nat) : Int), .int .u64 0], .int .i64 0]) (by simp [results, Try.results11, go_sem]) rfl ⟨rfl, bl2 _ _ _⟩
        · obtain ⟨k, rfl⟩ : ∃ k, m = k + 128 := ⟨m - 128, by omega⟩
          have d0 : ((k + 128 : Nat) : Int) / 64 = 2 := by omega
          have d1 : ((k + 128 : Nat) : Int) % 64 = (k : Int) := by omega
          have ew := wrap_pow k (by omega)
          rw [cost_3 k (by omega)]
          generalize ((k + 128 : Nat) : Int) = mm at *
          go_enter Try.func11, Try.ntmps11
          go_wp2
          exact bodyPost_ret (v := .tuple #[.agg #[.int .u64 ((2 ^ k : Nat) : Int), .int .u64 0, .int .u64 0], .int .i64 0]) (by simp [results, Try.results11, go_sem]) rfl ⟨rfl, bl2 _ _ _⟩
theorem of9_any (n : Int) (w : World) : Calls Try.prog 16 #[.int .u64 n] w fun e w' => e = .returned (.agg #[.int .u64 0, .int .u64 0, .int .u64 n]) ∧ Below w.heap.size w w' := by
  go_enter Try.func16, Try.ntmps16
  go_wp2
  exact bodyPost_ret (v := .agg #[.int .u64 0, .int .u64 0, .int .u64 n]) (by simp [results, Try.results16, go_sem]) rfl ⟨rfl, bl1 _ _⟩
set_option maxRecDepth 20000 in
set_option maxHeartbeats 2000000 in
theorem rpow9_any (n : Int) (w : World) (n0 : -9223372036854775808 ≤ n) (n1 : n ≤ 9223372036854775807) :
    Calls Try.prog 14 #[.int .i64 n] w fun e w' => e = .returned (.tuple #[costV (powN n), .int .i64 (powE n)]) ∧ Below w.heap.size w w' := by
  by_cases h0 : n < 0
  · rw [(pow_out n (.inl h0)).1, (pow_out n (.inl h0)).2, costV_zero]
    go_enter Try.func14, Try.ntmps14
    go_wp2
    exact bodyPost_ret (v := .tuple #[.agg #[.int .u64 0, .int .u64 0, .int .u64 0], .int .i64 1]) (by simp [results, Try.results14, go_sem]) rfl ⟨rfl, bl1 _ _⟩
  · obtain ⟨m, rfl⟩ : ∃ m : Nat, n = (m : Int) := ⟨n.toNat, by omega⟩
    by_cases h1 : 192 ≤ (m : Int)
    · rw [(pow_out m (.inr h1)).1, (pow_out m (.inr h1)).2, costV_zero]
      generalize (m : Int) = n at *
      go_enter Try.func14, Try.ntmps14
      go_wp2
      exact bodyPost_ret (v := .tuple #[.agg #[.int .u64 0, .int .u64 0, .int .u64 0], .int .i64 1]) (by simp [results, Try.results14, go_sem]) rfl ⟨rfl, bl1 _ _⟩
    · rw [(pow_in m (by omega)).1, (pow_in m (by omega)).2]
      have hd1 : ¬ (m : Int) < 0 := by omega
      by_cases c0 : m < 64
      · have d0 : (m : Int) / 64 = 0 := by omega
        have d1 : (m : Int) % 64 = (m : Int) := by omega
        have ew := wrap_pow m c0
        rw [cost_0 m c0]
        go_enter Try.func14, Try.ntmps14
        go_wp2
        exact bodyPost_ret (v := .tuple #[.agg #[.int .u64 0, .int .u64 0, .int .u64 ((2 ^ m : Nat) : Int)], .int .i64 0]) (by simp [results, Try.results14, go_sem]) rfl ⟨rfl, bl2 _ _ _⟩
      · by_cases c1 : m < 128
        · obtain ⟨k, rfl⟩ : ∃ k, m = k + 64 := ⟨m - 64, by omega⟩
          have d0 : ((k + 64 : Nat) : Int) / 64 = 1 := by omega
          have d1 : ((k + 64 : Nat) : Int) % 64 = (k : Int) := by omega
          have ew := wrap_pow k (by omega)
          rw [cost_1 k (by omega)]
          generalize ((k + 64 : Nat) : Int) = mm at *
          go_enter Try.func14, Try.ntmps14
          go_wp2
          exact bodyPost_ret (v := .tuple #[.agg #[.int .u64 0, .int .u64 ((2 ^ k : Nat) : Int), .int .u64 0], .int .i64 0]) (by simp [results, Try.results14, go_sem]) rfl ⟨rfl, bl2 _ _ _⟩
        · obtain ⟨k, rfl⟩ : ∃ k, m = k + 128 := ⟨m - 128, by omega⟩
          have d0 : ((k + 128 : Nat) : Int) / 64 = 2 := by omega
          have d1 : ((k + 128 : Nat) : Int) % 64 = (k : Int) := by omega
          have ew := wrap_pow k (by omega)
          rw [cost_3 k (by omega)]
          generalize ((k + 128 : Nat) : Int) = mm at *
          go_enter Try.func14, Try.ntmps14
          go_wp2
          exact bodyPost_ret (v := .tuple #[.agg #[.int .u64 ((2 ^ k : Nat) : Int), .int .u64 0, .int .u64 0], .int .i64 0]) (by simp [results, Try.results14, go_sem]) rfl ⟨rfl, bl2 _ _ _⟩
theorem rof9_any (n : Int) (w : World) : Calls Try.prog 17 #[.int .u64 n] w fun e w' => e = .returned (.agg #[.int .u64 0, .int .u64 0, .int .u64 n]) ∧ Below w.heap.size w w' := by
  go_enter Try.func17, Try.ntmps17
  go_wp2
  exact bodyPost_ret (v := .agg #[.int .u64 0, .int .u64 0, .int .u64 n]) (by simp [results, Try.results17, go_sem]) rfl ⟨rfl, bl1 _ _⟩
end Go.Proofs.Ytnaamkkjledllaa
/-
  A region that draws its order and whose calls make memory: one walk of the text's order, in a class of worlds.
-/
namespace Go.Proofs.Ytnaamkkjledllaa
open Go.RowKit
set_option linter.unusedSimpArgs false
set_option linter.unusedVariables false

theorem q_run {P : Program} {ops : Array Oper} {C : World → Prop} {Q : Act → Prop} {a : Act} {o : Oper} {rest : List Oper} {v : Value}
    (hw : Region.wanted o (yielded ops a.tmps) = true) (h : ∀ w, C w → (execOp a.eval o).run P w = .ok (.value v) w) (k : wpQuiet P ops C Q rest (a.put o.dst v)) : wpQuiet P ops C Q (o :: rest) a := by
  refine wpQuiet_step (fun K hK => ?_)
  rw [if_pos hw]
  refine ⟨v, fun w hC => ?_, hK _ k⟩
  unfold Oper.quietAt; rw [h w hC]; exact ⟨rfl, rfl⟩
theorem q_skip {P : Program} {ops : Array Oper} {C : World → Prop} {Q : Act → Prop} {a : Act} {o : Oper} {rest : List Oper}
    (hw : Region.wanted o (yielded ops a.tmps) = false) (k : wpQuiet P ops C Q rest (a.put o.dst undef)) : wpQuiet P ops C Q (o :: rest) a := by
  refine wpQuiet_step (fun K hK => ?_)
  rw [if_neg (by rw [hw]; decide)]
  exact hK _ k
theorem q_call {P : Program} {ops : Array Oper} {C : World → Prop} {Q : Act → Prop} {a : Act} {o : Oper} {rest : List Oper} {v : Value} {f : FuncId} {args : Array Value}
    (hw : Region.wanted o (yielded ops a.tmps) = true) (h : ∀ w, C w → (execOp a.eval o).run P w = .ok (.enter f args) w) (hc : ∀ w, C w → Calls P f args w fun e w' => e = .returned v ∧ C w') (k : wpQuiet P ops C Q rest (a.put o.dst v)) : wpQuiet P ops C Q (o :: rest) a := by
  refine wpQuiet_step (fun K hK => ?_)
  rw [if_pos hw]
  refine ⟨v, fun w hC => ?_, hK _ k⟩
  unfold Oper.quietAt; rw [h w hC]; exact ⟨rfl, hc w hC⟩
theorem q_region {P : Program} {C : World → Prop} {id : Nat} {Q : Exit → Act → World → Prop} {a : Act} {w : World} {l : List Oper} (hm : P.follows .mixedOrders = true) (hB : Region.lexB .any l.toArray = true) (hC : C w.drew)
    (h : wpQuiet P l.toArray C (fun a' => ∀ w', C w' → Q .normal a' w') l a) : (Code.region id l.toArray true).wp P Q a w :=
  wp_region_quiet (C := C) hm hB hC (by simpa using h)
end Go.Proofs.Ytnaamkkjledllaa
