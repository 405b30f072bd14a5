/-
  What the calls of package cost's times and Mul do.
-/
import Derived.Test.YtnaamkkjledllaaC9C
import Derived.Test.YtnaamkkjledllaaShelf
import Derived.Shelf.Bits.Mul64
namespace Go.Proofs.Ytnaamkkjledllaa
open Go.RowKit
set_option linter.unusedSimpArgs false
set_option linter.unusedVariables false

theorem mul64_any (x y : Nat) (hx : x < 18446744073709551616) (hy : y < 18446744073709551616) (w : World) :
    Calls Try.prog 32 #[.int .u64 (x : Int), .int .u64 (y : Int)] w fun e w' => e = .returned (.tuple #[.int .u64 ((x * y / 18446744073709551616 : Nat) : Int), .int .u64 ((x * y % 18446744073709551616 : Nat) : Int)]) ∧ w' = w :=
  Any.bits_Mul64 Try.lays264 x y hx hy w
/-- One digit of a product. -/
theorem mul_step (a n o : Nat) (ha : a < 18446744073709551616) (hn : n < 18446744073709551616) (ho : o < 18446744073709551616) :
    ∃ hi lo c t q : Int, (∀ w, Calls Try.prog 32 #[.int .u64 (a : Int), .int .u64 (n : Int)] w fun e w' => e = .returned (.tuple #[.int .u64 hi, .int .u64 lo]) ∧ w' = w) ∧
      (∀ w, (callFunc 26 #[.int .u64 lo, .int .u64 (o : Int), .int .u64 0]).run Try.prog w = .ok (.value (.tuple #[.int .u64 t, .int .u64 c])) w) ∧
      IntKind.u64.wrap (hi + c) = q ∧ t = ((mulP a n o % 18446744073709551616 : Nat) : Int) ∧ q = ((mulP a n o / 18446744073709551616 : Nat) : Int) := by
  obtain ⟨p1, p2, p3⟩ := mulP_parts a n o ha hn ho
  refine ⟨_, _, addC ((a * n % 18446744073709551616 : Nat) : Int) (o : Int) 0, addS ((a * n % 18446744073709551616 : Nat) : Int) (o : Int) 0, _, fun w => mul64_any a n ha hn w, fun w => callAdd _ _ 0 (by omega) (by omega) (by omega) (by omega) w, rfl, ?_, ?_⟩
  · rw [← p1]; unfold addS; omega
  · rw [← p2]; unfold addC; rw [IntKind.wrap_u64]
    rw [← p2] at p3
    generalize a * n = z at *
    omega
theorem E2.set0 {w W : World} {x0 x1 x2 y0 y1 y2 : Int} (h : E2 w x0 x1 x2 y0 y1 y2 W) (u : Int) : E2 w x0 x1 x2 u y1 y2 (W.setCell ⟨w.heap.size + 1, 0, none⟩ (.int .u64 u)) :=
  ⟨h.1.oth0 (by omega) u, h.2.1.one0 u, h.2.2.setCell (by show w.heap.size ≤ w.heap.size + 1; omega) _⟩
theorem E2.set1 {w W : World} {x0 x1 x2 y0 y1 y2 : Int} (h : E2 w x0 x1 x2 y0 y1 y2 W) (u : Int) : E2 w x0 x1 x2 y0 u y2 (W.setCell ⟨w.heap.size + 1, 1, none⟩ (.int .u64 u)) :=
  ⟨h.1.oth1 (by omega) u, h.2.1.one1 u, h.2.2.setCell (by show w.heap.size ≤ w.heap.size + 1; omega) _⟩
theorem E2.set2 {w W : World} {x0 x1 x2 y0 y1 y2 : Int} (h : E2 w x0 x1 x2 y0 y1 y2 W) (u : Int) : E2 w x0 x1 x2 y0 y1 u (W.setCell ⟨w.heap.size + 1, 2, none⟩ (.int .u64 u)) :=
  ⟨h.1.oth2 (by omega) u, h.2.1.one2 u, h.2.2.setCell (by show w.heap.size ≤ w.heap.size + 1; omega) _⟩
/-- What fitting makes of a number's digits. -/
theorem fit_top (T : Nat) : (if cost0 T / 18446744073709551616 = 0 then (.agg #[.int .u64 (cost0 T % 18446744073709551616), .int .u64 (cost1 T), .int .u64 (cost2 T)] : Value) else costV 0) = costV (fitN T) ∧ (if cost0 T / 18446744073709551616 = 0 then (0 : Int) else 6) = fitE9 T := by
  by_cases h : T < 6277101735386680763835789423207666416102355444464034512896
  · obtain ⟨q1, q2⟩ := top_in T h
    obtain ⟨f1, f2⟩ := fit_in h
    rw [q1, q2, f1, f2]; exact ⟨rfl, rfl⟩
  · have q := top_out T h
    obtain ⟨f1, f2⟩ := fit_out h
    rw [if_neg q, if_neg q, f1, f2]; exact ⟨rfl, rfl⟩
set_option maxRecDepth 20000 in
set_option maxHeartbeats 8000000 in
theorem times_any (N n m : Nat) (w : World) (hN : N < 6277101735386680763835789423207666416102355444464034512896) (hn : n < 18446744073709551616) (hm : m < 18446744073709551616) :
    Calls Try.prog 28 #[costV N, .int .u64 (n : Int), .int .u64 (m : Int)] w fun e w' => e = .returned (.tuple #[.agg #[.int .u64 (cost0 (N * n + m) % 18446744073709551616), .int .u64 (cost1 (N * n + m)), .int .u64 (cost2 (N * n + m))], .int .u64 (cost0 (N * n + m) / 18446744073709551616)]) ∧ Below w.heap.size w w' := by
  have sp := cost_split N
  have lo := cost_lo N
  have up := cost_up N hN
  obtain ⟨a0, e0⟩ : ∃ a : Nat, cost0 N = (a : Int) := ⟨(cost0 N).toNat, by omega⟩
  obtain ⟨a1, e1⟩ : ∃ a : Nat, cost1 N = (a : Int) := ⟨(cost1 N).toNat, by omega⟩
  obtain ⟨a2, e2⟩ : ∃ a : Nat, cost2 N = (a : Int) := ⟨(cost2 N).toNat, by omega⟩
  rw [show costV N = .agg #[.int .u64 (cost0 N), .int .u64 (cost1 N), .int .u64 (cost2 N)] from rfl]
  rw [e0, e1, e2]
  rw [e0, e1, e2] at sp
  rw [e0, e1, e2] at lo
  rw [e0] at up
  obtain ⟨D2, D1, D0⟩ := mul_digits N n m a0 a1 a2 (by omega)
  have l2 := mulP_lt a2 n m (by omega) hn hm
  have l1 := mulP_lt a1 n (mulP a2 n m / 18446744073709551616) (by omega) hn (by omega)
  have l0 := mulP_lt a0 n (mulP a1 n (mulP a2 n m / 18446744073709551616) / 18446744073709551616) (by omega) hn (by omega)
  obtain ⟨h2, g2, c2, t2, q2, M2, A2, W2, T2, Q2⟩ := mul_step a2 n m (by omega) hn hm
  obtain ⟨h1, g1, c1, t1, q1, M1, A1, W1, T1, Q1⟩ := mul_step a1 n (mulP a2 n m / 18446744073709551616) (by omega) hn (by omega)
  obtain ⟨h0, g0, c0, t0, q0, M0, A0, W0, T0, Q0⟩ := mul_step a0 n (mulP a1 n (mulP a2 n m / 18446744073709551616) / 18446744073709551616) (by omega) hn (by omega)
  rw [← Q2] at A1
  rw [← Q1] at A0
  have r2 : cost2 (N * n + m) = t2 := by rw [T2, D2]; rfl
  have r1 : cost1 (N * n + m) = t1 := by rw [T1, D1]; rfl
  have r0 : cost0 (N * n + m) % 18446744073709551616 = t0 := by rw [T0, D0]; unfold cost0; omega
  have rq : cost0 (N * n + m) / 18446744073709551616 = q0 := by rw [Q0, D0]; unfold cost0; omega
  rw [r0, r1, r2, rq]
  clear r0 r1 r2 rq D0 D1 D2 l0 l1 l2 T0 T1 T2 Q0 Q1 Q2 sp lo up e0 e1 e2 hN
  generalize (a0 : Int) = x0 at *
  generalize (a1 : Int) = x1 at *
  generalize (a2 : Int) = x2 at *
  generalize (n : Int) = n' at *
  generalize (m : Int) = m' at *
  have HS := hid9 (E2.start w x0 x1 x2 0 0 0 24)
  go_enter Try.func28, Try.ntmps28
  go_wp2_with fail
  go_loopw [7, 8] (fun cv i wr => (i = .int .i64 (2) ∧ cv = .int .u64 m' ∧ Hid (E2 w x0 x1 x2 0 0 0 wr)) ∨ (i = .int .i64 (1) ∧ cv = .int .u64 q2 ∧ Hid (E2 w x0 x1 x2 0 0 t2 wr)) ∨ (i = .int .i64 (0) ∧ cv = .int .u64 q1 ∧ Hid (E2 w x0 x1 x2 0 t1 t2 wr)) ∨ (i = .int .i64 (-1) ∧ cv = .int .u64 q0 ∧ Hid (E2 w x0 x1 x2 t0 t1 t2 wr))) (fun _ i _ => (intOf i + 1).toNat)
  case atStart => exact .inl ⟨rfl, rfl, HS⟩
  case round =>
    clear HS
    rcases hrel with ⟨rfl, rfl, HE⟩ | ⟨rfl, rfl, HE⟩ | ⟨rfl, rfl, HE⟩ | ⟨rfl, rfl, HE⟩
    · have HE2 := hid9 (HE.out.set2 t2)
      obtain ⟨⟨a0, a1, a2, -, -, -⟩, ⟨b0, b1, b2, b3, b4, b5⟩, -⟩ := HE.out
      clear HE
      go_wp2_with fail
      refine (M2 _).mono ?_
      rintro e w1 ⟨rfl, rfl⟩
      clear M0 M1 M2
      go_wp2
      go_roundw
      case rel => exact .inr (.inl ⟨by simp, rfl, HE2⟩)
      case measure => simp [intOf]
    · have HE2 := hid9 (HE.out.set1 t1)
      obtain ⟨⟨a0, a1, a2, -, -, -⟩, ⟨b0, b1, b2, b3, b4, b5⟩, -⟩ := HE.out
      clear HE
      go_wp2_with fail
      refine (M1 _).mono ?_
      rintro e w1 ⟨rfl, rfl⟩
      clear M0 M1 M2
      go_wp2
      go_roundw
      case rel => exact .inr (.inr (.inl ⟨by simp, rfl, HE2⟩))
      case measure => simp [intOf]
    · have HE2 := hid9 (HE.out.set0 t0)
      obtain ⟨⟨a0, a1, a2, -, -, -⟩, ⟨b0, b1, b2, b3, b4, b5⟩, -⟩ := HE.out
      clear HE
      go_wp2_with fail
      refine (M0 _).mono ?_
      rintro e w1 ⟨rfl, rfl⟩
      clear M0 M1 M2
      go_wp2
      go_roundw
      case rel => exact .inr (.inr (.inr ⟨by simp, rfl, HE2⟩))
      case measure => simp [intOf]
    · have A1 := HE.out.2.1
      have kE := bset3c HE.out.2.2 (show w.heap.size ≤ w.heap.size + 1 by omega) (.int .u64 t0) (.int .u64 t1) (.int .u64 t2)
      obtain ⟨u0, u1, u2, -, -, -⟩ := A1.set t0 t1 t2
      obtain ⟨r0, r1, r2, r3, r4, r5⟩ := A1
      have Hk := hid9 kE
      have Hv := hid9 (And.intro u0 (And.intro u1 u2))
      clear kE u0 u1 u2 HE M0 M1 M2
      go_wp2
      obtain ⟨u0, u1, u2⟩ := Hv.out
      exact bodyPost_ret (v := .tuple #[.agg #[.int .u64 t0, .int .u64 t1, .int .u64 t2], .int .u64 q0]) (by simp [results, Try.results28, go_sem, u0, u1, u2]) rfl ⟨rfl, Hk.out⟩
set_option maxRecDepth 20000 in
set_option maxHeartbeats 2000000 in
theorem mul9_any (N n : Nat) (w : World) (hN : N < 6277101735386680763835789423207666416102355444464034512896) (hn : n < 18446744073709551616) :
    Calls Try.prog 10 #[costV N, .int .u64 (n : Int)] w fun e w' => e = .returned (.tuple #[costV (fitN (N * n)), .int .i64 (fitE9 (N * n))]) ∧ Below w.heap.size w w' := by
  have KT := fun w => times_any N n 0 w hN hn (by decide)
  have KF := fun w => fitting_any (cost0 (N * n) % 18446744073709551616) (cost1 (N * n)) (cost2 (N * n)) (cost0 (N * n) / 18446744073709551616) w
  rw [(fit_top (N * n)).1, (fit_top (N * n)).2] at KF
  rw [Nat.add_zero] at KT
  rw [show costV (fitN (N * n)) = .agg #[.int .u64 (cost0 (fitN (N * n))), .int .u64 (cost1 (fitN (N * n))), .int .u64 (cost2 (fitN (N * n)))] from rfl] at *
  unfold costV at *
  rw [show ((0 : Nat) : Int) = 0 from rfl] at KT
  generalize cost0 (fitN (N * n)) = v0 at *
  generalize cost1 (fitN (N * n)) = v1 at *
  generalize cost2 (fitN (N * n)) = v2 at *
  generalize fitE9 (N * n) = E at *
  generalize cost0 (N * n) % 18446744073709551616 = t0 at *
  generalize cost0 (N * n) / 18446744073709551616 = q0 at *
  generalize cost1 (N * n) = t1 at *
  generalize cost2 (N * n) = t2 at *
  generalize cost0 N = x0 at *
  generalize cost1 N = x1 at *
  generalize cost2 N = x2 at *
  generalize (n : Int) = n' at *
  have HS := hid9 (E2.start w x0 x1 x2 0 0 0 24)
  go_enter Try.func10, Try.ntmps10
  go_wp2_with fail
  refine (KT _).mono ?_
  rintro e w1 ⟨rfl, hb⟩
  have A1 := HS.out.2.1.below hb
  have k1 := keepb hb HS.out.2.2
  have HA := hid9 A1
  have HB := hid9 k1
  clear A1 k1 hb HS KT
  go_wp2_with fail
  refine (KF _).mono ?_
  rintro e w2 ⟨rfl, hb⟩
  have A1 := HA.out.below hb
  have kE := bset3c (keepb hb HB.out) (show w.heap.size ≤ w.heap.size + 1 by omega) (.int .u64 v0) (.int .u64 v1) (.int .u64 v2)
  obtain ⟨u0, u1, u2, -, -, -⟩ := A1.set v0 v1 v2
  obtain ⟨r0, r1, r2, r3, r4, r5⟩ := A1
  have Hk := hid9 kE
  have Hv := hid9 (And.intro u0 (And.intro u1 u2))
  clear kE u0 u1 u2 HA HB hb KF
  go_wp2
  obtain ⟨u0, u1, u2⟩ := Hv.out
  exact bodyPost_ret (v := .tuple #[.agg #[.int .u64 v0, .int .u64 v1, .int .u64 v2], .int .i64 E]) (by simp [results, Try.results10, go_sem, u0, u1, u2]) rfl ⟨rfl, Hk.out⟩
end Go.Proofs.Ytnaamkkjledllaa
