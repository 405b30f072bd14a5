/-
  What the calls of package cost's fitting, Of, Pow and of the document's Of and Pow do; numbers of 192 bits compared.
-/
import Derived.Test.YtnaamkkjledllaaC9P
import Derived.Laws.StructEq
namespace Go.Proofs.Ytnaamkkjledllaa
open Go.RowKit
set_option linter.unusedSimpArgs false
set_option linter.unusedVariables false

/-- Are the three the same? -/
def eq9 (a b c x y z : Int) : Bool := decide (a = x ∧ b = y ∧ c = z)
theorem eq9_cost (N M : Nat) : eq9 (cost0 N) (cost1 N) (cost2 N) (cost0 M) (cost1 M) (cost2 M) = decide (N = M) := by
  unfold eq9
  rw [decide_eq_decide]
  refine ⟨fun h => cost_eq h.1 h.2.1 h.2.2, fun h => by subst h; exact ⟨rfl, rfl, rfl⟩⟩
theorem infoU9 : (Try.prog.info? 22).map (fun i => i.size) = some 1 := by kernel_rfl
theorem eqC_any (a b c x y z : Int) (w : World) :
    (Op.equalIn 10000 24 (.agg #[.int .u64 a, .int .u64 b, .int .u64 c]) (.agg #[.int .u64 x, .int .u64 y, .int .u64 z])).run Try.prog w = .ok (eq9 a b c x y z) w := by
  have hU : Try.prog.underlying 24 = some (.array 3 22) := by kernel_rfl
  have hE : Try.prog.underlying 22 = some (.int .u64) := by kernel_rfl
  obtain ⟨i, hi, hs⟩ : ∃ i, Try.prog.info? 22 = some i ∧ i.size = 1 := by
    have := infoU9
    cases h : Try.prog.info? 22 with
    | none => rw [h] at this; cases this
    | some i => rw [h] at this; simp at this; exact ⟨i, rfl, this⟩
  have hq := fun (x y : Int) (w : World) => run_equalIn_int (P := Try.prog) w 9998 22 .u64 .u64 x y hE
  simp only [Nat.reduceAdd] at hq
  rw [show (10000 : Nat) = 9999 + 1 from rfl, Op.equalIn]
  unfold eq9
  by_cases h0 : a = x
  · by_cases h1 : b = y
    · by_cases h2 : c = z <;> simp [run_underlying hU, run_underlying hE, sizeOf, typeInfo, hi, hs, isAgg, List.range'_succ, List.forIn_cons, hq, go_sem, h0, h1, h2]
    · simp [run_underlying hU, run_underlying hE, sizeOf, typeInfo, hi, hs, isAgg, List.range'_succ, List.forIn_cons, hq, go_sem, h0, h1]
  · simp [run_underlying hU, run_underlying hE, sizeOf, typeInfo, hi, hs, isAgg, List.range'_succ, List.forIn_cons, hq, go_sem, h0]
set_option maxRecDepth 20000 in
theorem fitting_any (a b c o : Int) (w : World) :
    Calls Try.prog 27 #[.agg #[.int .u64 a, .int .u64 b, .int .u64 c], .int .u64 o] w fun e w' => e = .returned (.tuple #[if o = 0 then .agg #[.int .u64 a, .int .u64 b, .int .u64 c] else costV 0, .int .i64 (if o = 0 then 0 else 6)]) ∧ Below w.heap.size w w' := by
  have hb : ∀ o p q : Obj, Below w.heap.size w (((w.alloc o).alloc p).alloc q) := fun o p q => (((Below.refl _ w).alloc (Nat.le_refl _) o).alloc (by simp) p).alloc (by simp; omega) q
  by_cases h : o = 0
  · rw [if_pos h, if_pos h]
    subst h
    go_enter Try.func27, Try.ntmps27
    go_wp2
    exact bodyPost_ret (v := .tuple #[.agg #[.int .u64 a, .int .u64 b, .int .u64 c], .int .i64 0]) (by simp [results, Try.results27, go_sem]) rfl ⟨rfl, by first | exact hb _ _ _ | exact bl2 _ _ _⟩
  · rw [if_neg h, if_neg h, costV_zero]
    have hd : (o == 0) = false := by simpa using h
    go_enter Try.func27, Try.ntmps27
    go_wp2
    exact bodyPost_ret (v := .tuple #[.agg #[.int .u64 0, .int .u64 0, .int .u64 0], .int .i64 6]) (by simp [results, Try.results27, go_sem]) rfl ⟨rfl, by first | exact hb _ _ _ | exact bl2 _ _ _⟩
/-- What Pow tells. -/
def powN (n : Int) : Nat := if 0 ≤ n ∧ n < 192 then 2 ^ n.toNat else 0
def powE (n : Int) : Int := if 0 ≤ n ∧ n < 192 then 0 else 1
theorem pow_in (m : Nat) (h : m < 192) : powN m = 2 ^ m ∧ powE m = 0 := by
  have : (0 : Int) ≤ m ∧ (m : Int) < 192 := by omega
  unfold powN powE; rw [if_pos this, if_pos this, Int.toNat_natCast]; exact ⟨rfl, rfl⟩
theorem pow_out (n : Int) (h : n < 0 ∨ 192 ≤ n) : powN n = 0 ∧ powE n = 1 := by
  have : ¬ (0 ≤ n ∧ n < 192) := by omega
  unfold powN powE; rw [if_neg this, if_neg this]; exact ⟨rfl, rfl⟩
theorem cost_3 (m : Nat) (h : m < 64) : costV (2 ^ (m + 128)) = .agg #[.int .u64 ((2 ^ m : Nat) : Int), .int .u64 0, .int .u64 0] := by
  have := pow_lt64 m h
  have e : 2 ^ (m + 128) = 2 ^ m * 340282366920938463463374607431768211456 := by rw [Nat.pow_add]
  unfold costV cost0 cost1 cost2
  rw [e]
  generalize 2 ^ m = t at *
  have a : t * 340282366920938463463374607431768211456 / 340282366920938463463374607431768211456 = t := by omega
  have b : t * 340282366920938463463374607431768211456 / 18446744073709551616 % 18446744073709551616 = 0 := by omega
  have c : t * 340282366920938463463374607431768211456 % 18446744073709551616 = 0 := by omega
  rw [a, b, c]; rfl
set_option maxRecDepth 20000 in
set_option maxHeartbeats 2000000 in
theorem pow9_any (n : Int) (w : World) (n0 : -9223372036854775808 ≤ n) (n1 : n ≤ 9223372036854775807) :
    Calls Try.prog 11 #[.int .i64 n] w fun e w' => e = .returned (.tuple #[costV (powN n), .int .i64 (powE n)]) ∧ Below w.heap.size w w' := by
  by_cases h0 : n < 0
  · rw [(pow_out n (.inl h0)).1, (pow_out n (.inl h0)).2, costV_zero]
    go_enter Try.func11, Try.ntmps11
    go_wp2
    exact bodyPost_ret (v := .tuple #[.agg #[.int .u64 0, .int .u64 0, .int .u64 0], .int .i64 1]) (by simp [results, Try.results11, go_sem]) rfl ⟨rfl, bl1 _ _⟩
  · obtain ⟨m, rfl⟩ : ∃ m : Nat, n = (m : Int) := ⟨n.toNat, by omega⟩
    by_cases h1 : 192 ≤ (m : Int)
    · rw [(pow_out m (.inr h1)).1, (pow_out m (.inr h1)).2, costV_zero]
      generalize (m : Int) = n at *
      go_enter Try.func11, Try.ntmps11
      go_wp2
      exact bodyPost_ret (v := .tuple #[.agg #[.int .u64 0, .int .u64 0, .int .u64 0], .int .i64 1]) (by simp [results, Try.results11, go_sem]) rfl ⟨rfl, bl1 _ _⟩
    · rw [(pow_in m (by omega)).1, (pow_in m (by omega)).2]
      have hd1 : ¬ (m : Int) < 0 := by omega
      by_cases c0 : m < 64
      · have d0 : (m : Int) / 64 = 0 := by omega
        have d1 : (m : Int) % 64 = (m : Int) := by omega
        have ew := wrap_pow m c0
        rw [cost_0 m c0]
        go_enter Try.func11, Try.ntmps11
        go_wp2
        exact bodyPost_ret (v := .tuple #[.agg #[.int .u64 0, .int .u64 0, .int .u64 ((2 ^ m : Nat) : Int)], .int .i64 0]) (by simp [results, Try.results11, go_sem]) rfl ⟨rfl, bl2 _ _ _⟩
      · by_cases c1 : m < 128
        · obtain ⟨k, rfl⟩ : ∃ k, m = k + 64 := ⟨m - 64, by omega⟩
          have d0 : ((k + 64 : Nat) : Int) / 64 = 1 := by omega
          have d1 : ((k + 64 : Nat) : Int) % 64 = (k : Int) := by omega
          have ew := wrap_pow k (by omega)
          rw [cost_1 k (by omega)]
          generalize ((k + 64 : Nat) : Int) = mm at *
          go_enter Try.func11, Try.ntmps11
          go_wp2
          exact bodyPost_ret (v := .tuple #[.agg #[.int .u64 0, .int .u64 ((2 ^ k : Nat) : Int), .int .u64 0], .int .i64 0]) (by simp [results, Try.results11, go_sem]) rfl ⟨rfl, bl2 _ _ _⟩
        · obtain ⟨k, rfl⟩ : ∃ k, m = k + 128 := ⟨m - 128, by omega⟩
          have d0 : ((k + 128 : Nat) : Int) / 64 = 2 := by omega
          have d1 : ((k + 128 : Nat) : Int) % 64 = (k : Int) := by omega
          have ew := wrap_pow k (by omega)
          rw [cost_3 k (by omega)]
          generalize ((k + 128 : Nat) : Int) = mm at *
          go_enter Try.func11, Try.ntmps11
          go_wp2
          exact bodyPost_ret (v := .tuple #[.agg #[.int .u64 ((2 ^ k : Nat) : Int), .int .u64 0, .int .u64 0], .int .i64 0]) (by simp [results, Try.results11, go_sem]) rfl ⟨rfl, bl2 _ _ _⟩
theorem of9_any (n : Int) (w : World) : Calls Try.prog 16 #[.int .u64 n] w fun e w' => e = .returned (.agg #[.int .u64 0, .int .u64 0, .int .u64 n]) ∧ Below w.heap.size w w' := by
  go_enter Try.func16, Try.ntmps16
  go_wp2
  exact bodyPost_ret (v := .agg #[.int .u64 0, .int .u64 0, .int .u64 n]) (by simp [results, Try.results16, go_sem]) rfl ⟨rfl, bl1 _ _⟩
set_option maxRecDepth 20000 in
set_option maxHeartbeats 2000000 in
theorem rpow9_any (n : Int) (w : World) (n0 : -9223372036854775808 ≤ n) (n1 : n ≤ 9223372036854775807) :
    Calls Try.prog 14 #[.int .i64 n] w fun e w' => e = .returned (.tuple #[costV (powN n), .int .i64 (powE n)]) ∧ Below w.heap.size w w' := by
  by_cases h0 : n < 0
  · rw [(pow_out n (.inl h0)).1, (pow_out n (.inl h0)).2, costV_zero]
    go_enter Try.func14, Try.ntmps14
    go_wp2
    exact bodyPost_ret (v := .tuple #[.agg #[.int .u64 0, .int .u64 0, .int .u64 0], .int .i64 1]) (by simp [results, Try.results14, go_sem]) rfl ⟨rfl, bl1 _ _⟩
  · obtain ⟨m, rfl⟩ : ∃ m : Nat, n = (m : Int) := ⟨n.toNat, by omega⟩
    by_cases h1 : 192 ≤ (m : Int)
    · rw [(pow_out m (.inr h1)).1, (pow_out m (.inr h1)).2, costV_zero]
      generalize (m : Int) = n at *
      go_enter Try.func14, Try.ntmps14
      go_wp2
      exact bodyPost_ret (v := .tuple #[.agg #[.int .u64 0, .int .u64 0, .int .u64 0], .int .i64 1]) (by simp [results, Try.results14, go_sem]) rfl ⟨rfl, bl1 _ _⟩
    · rw [(pow_in m (by omega)).1, (pow_in m (by omega)).2]
      have hd1 : ¬ (m : Int) < 0 := by omega
      by_cases c0 : m < 64
      · have d0 : (m : Int) / 64 = 0 := by omega
        have d1 : (m : Int) % 64 = (m : Int) := by omega
        have ew := wrap_pow m c0
        rw [cost_0 m c0]
        go_enter Try.func14, Try.ntmps14
        go_wp2
        exact bodyPost_ret (v := .tuple #[.agg #[.int .u64 0, .int .u64 0, .int .u64 ((2 ^ m : Nat) : Int)], .int .i64 0]) (by simp [results, Try.results14, go_sem]) rfl ⟨rfl, bl2 _ _ _⟩
      · by_cases c1 : m < 128
        · obtain ⟨k, rfl⟩ : ∃ k, m = k + 64 := ⟨m - 64, by omega⟩
          have d0 : ((k + 64 : Nat) : Int) / 64 = 1 := by omega
          have d1 : ((k + 64 : Nat) : Int) % 64 = (k : Int) := by omega
          have ew := wrap_pow k (by omega)
          rw [cost_1 k (by omega)]
          generalize ((k + 64 : Nat) : Int) = mm at *
          go_enter Try.func14, Try.ntmps14
          go_wp2
          exact bodyPost_ret (v := .tuple #[.agg #[.int .u64 0, .int .u64 ((2 ^ k : Nat) : Int), .int .u64 0], .int .i64 0]) (by simp [results, Try.results14, go_sem]) rfl ⟨rfl, bl2 _ _ _⟩
        · obtain ⟨k, rfl⟩ : ∃ k, m = k + 128 := ⟨m - 128, by omega⟩
          have d0 : ((k + 128 : Nat) : Int) / 64 = 2 := by omega
          have d1 : ((k + 128 : Nat) : Int) % 64 = (k : Int) := by omega
          have ew := wrap_pow k (by omega)
          rw [cost_3 k (by omega)]
          generalize ((k + 128 : Nat) : Int) = mm at *
          go_enter Try.func14, Try.ntmps14
          go_wp2
          exact bodyPost_ret (v := .tuple #[.agg #[.int .u64 ((2 ^ k : Nat) : Int), .int .u64 0, .int .u64 0], .int .i64 0]) (by simp [results, Try.results14, go_sem]) rfl ⟨rfl, bl2 _ _ _⟩
theorem rof9_any (n : Int) (w : World) : Calls Try.prog 17 #[.int .u64 n] w fun e w' => e = .returned (.agg #[.int .u64 0, .int .u64 0, .int .u64 n]) ∧ Below w.heap.size w w' := by
  go_enter Try.func17, Try.ntmps17
  go_wp2
  exact bodyPost_ret (v := .agg #[.int .u64 0, .int .u64 0, .int .u64 n]) (by simp [results, Try.results17, go_sem]) rfl ⟨rfl, bl1 _ _⟩
end Go.Proofs.Ytnaamkkjledllaa
