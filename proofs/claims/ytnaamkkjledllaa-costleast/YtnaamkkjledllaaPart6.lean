/-
  Part 6 of the proof: 3 texts, one behind the other.
-/
import Derived.Test.YtnaamkkjledllaaPart5
import Derived.Laws.Bits64b
import Derived.Test.YtnaamkkjledllaaShelf
import Derived.Shelf.Bits.Mul64
/-
  What the call of math/bits.Div64 by ten does.
-/
namespace Go.Proofs.Ytnaamkkjledllaa
open Go.RowKit
set_option linter.unusedSimpArgs false
set_option linter.unusedVariables false

set_option maxRecDepth 20000 in
set_option maxHeartbeats 2000000 in
theorem len10 (w : World) : Calls Try.prog 35 #[.int .u64 10] w fun e w' => e = .returned (.int .i64 4) ∧ w' = w := by
  go_enter Try.func35, Try.ntmps35
  go_wp2
  go_ret
  refine ⟨?_, rfl⟩
  first | kernel_rfl | (simp [wrap64]; done) | decide
theorem lead10 (w : World) : Calls Try.prog 34 #[.int .u64 10] w fun e w' => e = .returned (.int .i64 60) ∧ w' = w := by
  go_enter Try.func34, Try.ntmps34
  go_wp2_with fail
  refine (len10 _).mono ?_
  rintro e w1 ⟨rfl, rfl⟩
  go_wp2
  go_ret
  exact ⟨rfl, rfl⟩
set_option maxRecDepth 20000 in
set_option maxHeartbeats 2000000 in
theorem div10_low (lo : Nat) (w : World) (hlo : lo < 18446744073709551616) :
    Calls Try.prog 33 #[.int .u64 0, .int .u64 (lo : Int), .int .u64 10] w fun e w' => e = .returned (.tuple #[.int .u64 ((lo / 10 : Nat) : Int), .int .u64 ((lo % 10 : Nat) : Int)]) ∧ Below w.heap.size w w' := by
  have HD := hid9 (fun q => below_drewN (Below.refl w.heap.size w) q)
  have e1 : (lo : Int) / 10 = ((lo / 10 : Nat) : Int) := by omega
  have e2 : (lo : Int) % 10 = ((lo % 10 : Nat) : Int) := by omega
  rw [← e1, ← e2]
  clear e1 e2
  go_enter Try.func33, Try.ntmps33
  go_wp2_with fail
  go_quiet (fail)
  go_wp2
  go_ret2
  exact ⟨rfl, HD.out _⟩
theorem or60 (hi lo : Nat) (h1 : hi < 10) (hlo : lo < 18446744073709551616) : bits .or .u64 ((hi : Int) * 1152921504606846976) ((lo : Int) / 16) = (hi : Int) * 1152921504606846976 + (lo : Int) / 16 := by
  have e := bits_or_u64_nat (1152921504606846976 * hi) (lo / 16) (by omega) (by omega)
  have f : 1152921504606846976 * hi ||| lo / 16 = 1152921504606846976 * hi + lo / 16 := (Nat.two_pow_add_eq_or_of_lt (i := 60) (by omega) hi).symm
  rw [f] at e
  have g : (((1152921504606846976 * hi : Nat)) : Int) = (hi : Int) * 1152921504606846976 := by omega
  have k : ((lo / 16 : Nat) : Int) = (lo : Int) / 16 := by omega
  rw [g, k] at e
  rw [e]; omega
theorem and60 (L : Nat) (h : L < 16) : bits .and .u64 ((L : Int) * 1152921504606846976) 4294967295 = 0 := by
  have e := bits_and_u64_nat (1152921504606846976 * L) 4294967295 (by omega) (by omega)
  have f : 1152921504606846976 * L &&& 4294967295 = (1152921504606846976 * L) % 4294967296 := Nat.and_two_pow_sub_one_eq_mod _ 32
  rw [f, show (1152921504606846976 * L) % 4294967296 = 0 by omega] at e
  have g : (((1152921504606846976 * L : Nat)) : Int) = (L : Int) * 1152921504606846976 := by omega
  rw [g] at e
  exact e
set_option maxRecDepth 20000 in
set_option maxHeartbeats 4000000 in
theorem div10_high (hi lo : Nat) (w : World) (h0 : 0 < hi) (h1 : hi < 10) (hlo : lo < 18446744073709551616) :
    Calls Try.prog 33 #[.int .u64 (hi : Int), .int .u64 (lo : Int), .int .u64 10] w fun e w' => e = .returned (.tuple #[.int .u64 (((hi * 18446744073709551616 + lo) / 10 : Nat) : Int), .int .u64 (((hi * 18446744073709551616 + lo) % 10 : Nat) : Int)]) ∧ Below w.heap.size w w' := by
  have d1 : ((hi : Int) == 0) = false := by simp; omega
  have d2 : decide ((10 : Int) ≤ (hi : Int)) = false := by simp; omega
  have f1 : bits .and .u64 11529215046068469760 4294967295 = 0 := by decide +kernel
  have f2 := or60 hi lo h1 hlo
  have f3 : IntKind.u64.wrap ((lo : Int) * 1152921504606846976) = ((lo % 16 : Nat) : Int) * 1152921504606846976 := by rw [IntKind.wrap_u64]; omega
  have f5 := and60 (lo % 16) (by omega)
  have f4 : ((lo % 16 : Nat) : Int) * 1152921504606846976 / 4294967296 = ((lo % 16 : Nat) : Int) * 268435456 := by omega
  have f0 : IntKind.u64.wrap ((hi : Int) * 1152921504606846976) = (hi : Int) * 1152921504606846976 := by rw [IntKind.wrap_u64]; omega
  obtain ⟨U, hU⟩ : ∃ U : Int, U = (hi : Int) * 1152921504606846976 + (lo : Int) / 16 := ⟨_, rfl⟩
  obtain ⟨L, hL⟩ : ∃ L : Int, L = ((lo % 16 : Nat) : Int) * 1152921504606846976 := ⟨_, rfl⟩
  obtain ⟨L1, hL1⟩ : ∃ L1 : Int, L1 = ((lo % 16 : Nat) : Int) * 268435456 := ⟨_, rfl⟩
  rw [← hU] at f2
  rw [← hL] at f3 f4 f5
  rw [← hL1] at f4
  have bU : 0 ≤ U ∧ U < 11529215046068469760 := by omega
  obtain ⟨Q1, hQ1⟩ : ∃ Q : Int, Q = U / 2684354560 := ⟨_, rfl⟩
  have g1 : IntKind.u64.wrap (U.tdiv 2684354560) = Q1 := by rw [Int.tdiv_eq_ediv_of_nonneg bU.1, IntKind.wrap_u64]; omega
  obtain ⟨P1, hP1⟩ : ∃ Q : Int, Q = Q1 * 2684354560 := ⟨_, rfl⟩
  have g2 : IntKind.u64.wrap (Q1 * 2684354560) = P1 := by rw [IntKind.wrap_u64]; omega
  obtain ⟨R1, hR1⟩ : ∃ Q : Int, Q = U - P1 := ⟨_, rfl⟩
  have g3 : IntKind.u64.wrap (U - P1) = R1 := by rw [IntKind.wrap_u64]; omega
  have g4 : decide ((4294967296 : Int) ≤ Q1) = false := by simp; omega
  obtain ⟨A1, hA1⟩ : ∃ Q : Int, Q = R1 * 4294967296 := ⟨_, rfl⟩
  have g5 : IntKind.u64.wrap (4294967296 * R1) = A1 := by rw [IntKind.wrap_u64]; omega
  obtain ⟨V, hV⟩ : ∃ Q : Int, Q = A1 + L1 := ⟨_, rfl⟩
  have g6 : IntKind.u64.wrap (A1 + L1) = V := by rw [IntKind.wrap_u64]; omega
  have g7 : decide (V < 0) = false := by simp; omega
  obtain ⟨z1, k1⟩ : ∃ Q : Int, IntKind.u64.wrap (U * 4294967296) = Q := ⟨_, rfl⟩
  obtain ⟨z2, k2⟩ : ∃ Q : Int, IntKind.u64.wrap (z1 + L1) = Q := ⟨_, rfl⟩
  obtain ⟨z3, k3⟩ : ∃ Q : Int, IntKind.u64.wrap (Q1 * 11529215046068469760) = Q := ⟨_, rfl⟩
  have k4 : IntKind.u64.wrap (z2 - z3) = V := by rw [← k2, ← k1, ← k3, IntKind.wrap_u64, IntKind.wrap_u64, IntKind.wrap_u64, IntKind.wrap_u64]; omega
  obtain ⟨Q0, hQ0⟩ : ∃ Q : Int, Q = V / 2684354560 := ⟨_, rfl⟩
  have l1 : IntKind.u64.wrap (V.tdiv 2684354560) = Q0 := by rw [Int.tdiv_eq_ediv_of_nonneg (by omega), IntKind.wrap_u64]; omega
  obtain ⟨P0, hP0⟩ : ∃ Q : Int, Q = Q0 * 2684354560 := ⟨_, rfl⟩
  have l2 : IntKind.u64.wrap (Q0 * 2684354560) = P0 := by rw [IntKind.wrap_u64]; omega
  obtain ⟨R0, hR0⟩ : ∃ Q : Int, Q = V - P0 := ⟨_, rfl⟩
  have l3 : IntKind.u64.wrap (V - P0) = R0 := by rw [IntKind.wrap_u64]; omega
  have l4 : decide ((4294967296 : Int) ≤ Q0) = false := by simp; omega
  obtain ⟨A0, hA0⟩ : ∃ Q : Int, Q = R0 * 4294967296 := ⟨_, rfl⟩
  have l5 : IntKind.u64.wrap (4294967296 * R0) = A0 := by rw [IntKind.wrap_u64]; omega
  have l6 : IntKind.u64.wrap A0 = A0 := by rw [IntKind.wrap_u64]; omega
  have l7 : decide (A0 < 0) = false := by simp; omega
  obtain ⟨X1, hX1⟩ : ∃ Q : Int, Q = Q1 * 4294967296 := ⟨_, rfl⟩
  have m1 : IntKind.u64.wrap (Q1 * 4294967296) = X1 := by rw [IntKind.wrap_u64]; omega
  have m2 : IntKind.u64.wrap (X1 + Q0) = (((hi * 18446744073709551616 + lo) / 10 : Nat) : Int) := by rw [IntKind.wrap_u64]; omega
  obtain ⟨y1, n1⟩ : ∃ Q : Int, IntKind.u64.wrap (V * 4294967296) = Q := ⟨_, rfl⟩
  obtain ⟨y2, n2⟩ : ∃ Q : Int, IntKind.u64.wrap (Q0 * 11529215046068469760) = Q := ⟨_, rfl⟩
  obtain ⟨y3, hy3⟩ : ∃ Q : Int, Q = R0 * 4294967296 := ⟨_, rfl⟩
  have n0 : IntKind.u64.wrap y1 = y1 := by rw [← n1]; rw [IntKind.wrap_u64, IntKind.wrap_u64]; omega
  have n3 : IntKind.u64.wrap (y1 - y2) = y3 := by rw [← n1, ← n2]; rw [IntKind.wrap_u64, IntKind.wrap_u64, IntKind.wrap_u64]; omega
  have n4 : y3 / 1152921504606846976 = (((hi * 18446744073709551616 + lo) % 10 : Nat) : Int) := by omega
  generalize (((hi * 18446744073709551616 + lo) / 10 : Nat) : Int) = QQ at *
  generalize (((hi * 18446744073709551616 + lo) % 10 : Nat) : Int) = RR at *
  have HB := hid9 (Below.refl w.heap.size w)
  clear hU hL hL1 bU hQ1 hP1 hR1 hA1 hV hQ0 hP0 hR0 hA0 hX1 hy3 h0 h1 hlo
  go_enter Try.func33, Try.ntmps33
  go_wp2_with fail
  refine (lead10 _).mono ?_
  rintro e w1 ⟨rfl, rfl⟩
  go_wp2_with fail
  go_loopw [15, 16] (fun a b wr => a = .int .u64 Q1 ∧ b = .int .u64 R1 ∧ wr = w1) (fun _ _ _ => 0)
  case atStart => exact ⟨by simp [*], by simp [*], rfl⟩
  case round =>
    obtain ⟨rfl, rfl, rfl⟩ := hrel
    go_wp2_with fail
    go_loopw [18, 16] (fun a b wr' => a = .int .u64 Q0 ∧ b = .int .u64 R0 ∧ wr' = wr) (fun _ _ _ => 0)
    case atStart => exact ⟨by simp [*], by simp [*], rfl⟩
    case round =>
      obtain ⟨rfl, rfl, rfl⟩ := hrel
      go_wp2
      go_ret2
      exact ⟨rfl, HB.out⟩
end Go.Proofs.Ytnaamkkjledllaa
/-
  What the calls of package cost's Cmp and of the document's Cmp do.
-/
namespace Go.Proofs.Ytnaamkkjledllaa
open Go.RowKit
set_option linter.unusedSimpArgs false
set_option linter.unusedVariables false

theorem cmp9_ways (N M : Nat) : (N = M ∧ cmpN N M = 0) ∨ (cost0 N < cost0 M ∧ cmpN N M = -1) ∨ (cost0 M < cost0 N ∧ cmpN N M = 1) ∨ (cost0 N = cost0 M ∧ cost1 N < cost1 M ∧ cmpN N M = -1) ∨ (cost0 N = cost0 M ∧ cost1 M < cost1 N ∧ cmpN N M = 1) ∨ (cost0 N = cost0 M ∧ cost1 N = cost1 M ∧ cost2 N < cost2 M ∧ cmpN N M = -1) ∨ (cost0 N = cost0 M ∧ cost1 N = cost1 M ∧ cost2 M < cost2 N ∧ cmpN N M = 1) := by
  have a := cost_split N
  have b := cost_split M
  have c := cost_lo N
  have d := cost_lo M
  by_cases e : N = M
  · left; exact ⟨e, by subst e; exact cmpN_self N⟩
  · have hv : cmpN N M = -1 ∧ N < M ∨ cmpN N M = 1 ∧ M < N := by
      unfold cmpN
      rw [if_neg e]
      by_cases h : N < M
      · left; exact ⟨if_pos h, h⟩
      · right; exact ⟨if_neg h, by omega⟩
    generalize cost0 N = x0 at *
    generalize cost1 N = x1 at *
    generalize cost2 N = x2 at *
    generalize cost0 M = y0 at *
    generalize cost1 M = y1 at *
    generalize cost2 M = y2 at *
    right
    rcases hv with ⟨hv, h⟩ | ⟨hv, h⟩
    · rw [hv]
      by_cases h0 : x0 = y0
      · by_cases h1 : x1 = y1
        · exact .inr (.inr (.inr (.inr (.inl ⟨h0, h1, by omega, rfl⟩))))
        · exact .inr (.inr (.inl ⟨h0, by omega, rfl⟩))
      · exact .inl ⟨by omega, rfl⟩
    · rw [hv]
      by_cases h0 : x0 = y0
      · by_cases h1 : x1 = y1
        · exact .inr (.inr (.inr (.inr (.inr ⟨h0, h1, by omega, rfl⟩))))
        · exact .inr (.inr (.inr (.inl ⟨h0, by omega, rfl⟩)))
      · exact .inr (.inl ⟨by omega, rfl⟩)
/-- Two numbers in memory. -/
def E2 (w : World) (x0 x1 x2 y0 y1 y2 : Int) (W : World) : Prop := AtC W w.heap.size x0 x1 x2 ∧ AtC W (w.heap.size + 1) y0 y1 y2 ∧ Below w.heap.size w W
theorem E2.drewN {w W : World} {x0 x1 x2 y0 y1 y2 : Int} (h : E2 w x0 x1 x2 y0 y1 y2 W) : ∀ q, E2 w x0 x1 x2 y0 y1 y2 (W.drewN q) := fun q =>
  have hb := below_drewN (Below.refl W.heap.size W) q
  ⟨h.1.below hb, h.2.1.below hb, keepb hb h.2.2⟩
theorem E2.start (w : World) (x0 x1 x2 y0 y1 y2 : Int) (T : TypeId) : E2 w x0 x1 x2 y0 y1 y2 ((w.alloc (.cells #[.int .u64 x0, .int .u64 x1, .int .u64 x2] T)).alloc (.cells #[.int .u64 y0, .int .u64 y1, .int .u64 y2] T)) := by
  have p1 := bl1 w (.cells #[.int .u64 x0, .int .u64 x1, .int .u64 x2] T)
  have q1 := atc_new w w.heap.size x0 x1 x2 T rfl
  generalize hw1 : w.alloc (.cells #[.int .u64 x0, .int .u64 x1, .int .u64 x2] T) = w1 at *
  have z1 : w.heap.size + 1 = w1.heap.size := by rw [← hw1]; simp
  have p2 := bl1 w1 (.cells #[.int .u64 y0, .int .u64 y1, .int .u64 y2] T)
  have q2 := atc_new w1 (w.heap.size + 1) y0 y1 y2 T z1
  exact ⟨q1.below p2, q2, keepb p2 p1⟩
set_option maxRecDepth 20000 in
set_option maxHeartbeats 8000000 in
theorem cmp9_any (N M : Nat) (w : World) :
    Calls Try.prog 18 #[costV N, costV M] w fun e w' => e = .returned (.int .i64 (cmpN N M)) ∧ Below w.heap.size w w' := by
  have ways := cmp9_ways N M
  have hq := eqC_any (cost0 N) (cost1 N) (cost2 N) (cost0 M) (cost1 M) (cost2 M)
  rw [eq9_cost] at hq
  by_cases e : N = M
  · subst e
    rw [cmpN_self]
    rw [decide_eq_true (rfl : N = N)] at hq
    unfold costV
    clear ways
    generalize cost0 N = x0 at *
    generalize cost1 N = x1 at *
    generalize cost2 N = x2 at *
    have HS := hid9 (E2.start w x0 x1 x2 x0 x1 x2 24)
    go_enter Try.func18, Try.ntmps18
    go_wp2
    exact bodyPost_ret (v := .int .i64 0) (by simp [results, Try.results18, go_sem]) rfl ⟨rfl, HS.out.2.2⟩
  rw [decide_eq_false e] at hq
  unfold costV
  generalize cost0 N = x0 at *
  generalize cost1 N = x1 at *
  generalize cost2 N = x2 at *
  generalize cost0 M = y0 at *
  generalize cost1 M = y1 at *
  generalize cost2 M = y2 at *
  rcases ways with ⟨h, -⟩ | ⟨h, hv⟩ | ⟨h, hv⟩ | ⟨rfl, h, hv⟩ | ⟨rfl, h, hv⟩ | ⟨rfl, rfl, h, hv⟩ | ⟨rfl, rfl, h, hv⟩
  · exact absurd h e
  · rw [hv]
    clear hv e
    have d1 : (x0 == y0) = false := by simp; omega
    have d2 : ¬ y0 < x0 := by omega
    have HS := hid9 (E2.start w x0 x1 x2 y0 y1 y2 24)
    go_enter Try.func18, Try.ntmps18
    go_wp2_with fail
    go_loopw [5] (fun i wr => (i = .int .i64 0) ∧ Hid (E2 w x0 x1 x2 y0 y1 y2 wr)) (fun i _ => 3 - (intOf i).toNat)
    case atStart => exact ⟨rfl, HS⟩
    case round =>
      clear HS
      obtain ⟨hi, HE⟩ := hrel
      have HE2 := hid9 HE.out.drewN
      have HE3 := hid9 (fun q => (HE.out.drewN q).drewN)
      obtain ⟨⟨a0, a1, a2, -, -, -⟩, ⟨b0, b1, b2, -, -, -⟩, -⟩ := HE.out
      rcases hi with rfl
      · clear HE
        go_wp2_with fail
        go_quiet (fail)
        go_wp2_with fail
        go_quiet (fail)
        go_wp2
        exact bodyPost_ret (v := .int .i64 (-1)) (by simp [results, Try.results18, go_sem]) rfl ⟨rfl, by first | exact (HE2.out _).2.2 | exact (HE3.out _ _).2.2⟩
  · rw [hv]
    clear hv e
    have d1 : (x0 == y0) = false := by simp; omega
    have d2 : ¬ x0 < y0 := by omega
    have HS := hid9 (E2.start w x0 x1 x2 y0 y1 y2 24)
    go_enter Try.func18, Try.ntmps18
    go_wp2_with fail
    go_loopw [5] (fun i wr => (i = .int .i64 0) ∧ Hid (E2 w x0 x1 x2 y0 y1 y2 wr)) (fun i _ => 3 - (intOf i).toNat)
    case atStart => exact ⟨rfl, HS⟩
    case round =>
      clear HS
      obtain ⟨hi, HE⟩ := hrel
      have HE2 := hid9 HE.out.drewN
      have HE3 := hid9 (fun q => (HE.out.drewN q).drewN)
      obtain ⟨⟨a0, a1, a2, -, -, -⟩, ⟨b0, b1, b2, -, -, -⟩, -⟩ := HE.out
      rcases hi with rfl
      · clear HE
        go_wp2_with fail
        go_quiet (fail)
        go_wp2_with fail
        go_quiet (fail)
        go_wp2
        exact bodyPost_ret (v := .int .i64 1) (by simp [results, Try.results18, go_sem]) rfl ⟨rfl, by first | exact (HE2.out _).2.2 | exact (HE3.out _ _).2.2⟩
  · rw [hv]
    clear hv e
    have d1 : (x1 == y1) = false := by simp; omega
    have d2 : ¬ y1 < x1 := by omega
    have HS := hid9 (E2.start w x0 x1 x2 x0 y1 y2 24)
    go_enter Try.func18, Try.ntmps18
    go_wp2_with fail
    go_loopw [5] (fun i wr => (i = .int .i64 0 ∨ i = .int .i64 1) ∧ Hid (E2 w x0 x1 x2 x0 y1 y2 wr)) (fun i _ => 3 - (intOf i).toNat)
    case atStart => exact ⟨.inl rfl, HS⟩
    case round =>
      clear HS
      obtain ⟨hi, HE⟩ := hrel
      have HE2 := hid9 HE.out.drewN
      have HE3 := hid9 (fun q => (HE.out.drewN q).drewN)
      obtain ⟨⟨a0, a1, a2, -, -, -⟩, ⟨b0, b1, b2, -, -, -⟩, -⟩ := HE.out
      rcases hi with rfl | rfl
      · clear HE
        go_wp2_with fail
        go_quiet (fail)
        go_wp2
        go_roundw
        case rel => exact ⟨.inr (by simp), by first | exact HE2.out _ | exact HE3.out _ _⟩
        case measure => simp [intOf]
      · clear HE
        go_wp2_with fail
        go_quiet (fail)
        go_wp2_with fail
        go_quiet (fail)
        go_wp2
        exact bodyPost_ret (v := .int .i64 (-1)) (by simp [results, Try.results18, go_sem]) rfl ⟨rfl, by first | exact (HE2.out _).2.2 | exact (HE3.out _ _).2.2⟩
  · rw [hv]
    clear hv e
    have d1 : (x1 == y1) = false := by simp; omega
    have d2 : ¬ x1 < y1 := by omega
    have HS := hid9 (E2.start w x0 x1 x2 x0 y1 y2 24)
    go_enter Try.func18, Try.ntmps18
    go_wp2_with fail
    go_loopw [5] (fun i wr => (i = .int .i64 0 ∨ i = .int .i64 1) ∧ Hid (E2 w x0 x1 x2 x0 y1 y2 wr)) (fun i _ => 3 - (intOf i).toNat)
    case atStart => exact ⟨.inl rfl, HS⟩
    case round =>
      clear HS
      obtain ⟨hi, HE⟩ := hrel
      have HE2 := hid9 HE.out.drewN
      have HE3 := hid9 (fun q => (HE.out.drewN q).drewN)
      obtain ⟨⟨a0, a1, a2, -, -, -⟩, ⟨b0, b1, b2, -, -, -⟩, -⟩ := HE.out
      rcases hi with rfl | rfl
      · clear HE
        go_wp2_with fail
        go_quiet (fail)
        go_wp2
        go_roundw
        case rel => exact ⟨.inr (by simp), by first | exact HE2.out _ | exact HE3.out _ _⟩
        case measure => simp [intOf]
      · clear HE
        go_wp2_with fail
        go_quiet (fail)
        go_wp2_with fail
        go_quiet (fail)
        go_wp2
        exact bodyPost_ret (v := .int .i64 1) (by simp [results, Try.results18, go_sem]) rfl ⟨rfl, by first | exact (HE2.out _).2.2 | exact (HE3.out _ _).2.2⟩
  · rw [hv]
    clear hv e
    have d1 : (x2 == y2) = false := by simp; omega
    have d2 : ¬ y2 < x2 := by omega
    have HS := hid9 (E2.start w x0 x1 x2 x0 x1 y2 24)
    go_enter Try.func18, Try.ntmps18
    go_wp2_with fail
    go_loopw [5] (fun i wr => (i = .int .i64 0 ∨ i = .int .i64 1 ∨ i = .int .i64 2) ∧ Hid (E2 w x0 x1 x2 x0 x1 y2 wr)) (fun i _ => 3 - (intOf i).toNat)
    case atStart => exact ⟨.inl rfl, HS⟩
    case round =>
      clear HS
      obtain ⟨hi, HE⟩ := hrel
      have HE2 := hid9 HE.out.drewN
      have HE3 := hid9 (fun q => (HE.out.drewN q).drewN)
      obtain ⟨⟨a0, a1, a2, -, -, -⟩, ⟨b0, b1, b2, -, -, -⟩, -⟩ := HE.out
      rcases hi with rfl | rfl | rfl
      · clear HE
        go_wp2_with fail
        go_quiet (fail)
        go_wp2
        go_roundw
        case rel => exact ⟨.inr (.inl (by simp)), by first | exact HE2.out _ | exact HE3.out _ _⟩
        case measure => simp [intOf]
      · clear HE
        go_wp2_with fail
        go_quiet (fail)
        go_wp2
        go_roundw
        case rel => exact ⟨.inr (.inr (by simp)), by first | exact HE2.out _ | exact HE3.out _ _⟩
        case measure => simp [intOf]
      · clear HE
        go_wp2_with fail
        go_quiet (fail)
        go_wp2_with fail
        go_quiet (fail)
        go_wp2
        exact bodyPost_ret (v := .int .i64 (-1)) (by simp [results, Try.results18, go_sem]) rfl ⟨rfl, by first | exact (HE2.out _).2.2 | exact (HE3.out _ _).2.2⟩
  · rw [hv]
    clear hv e
    have d1 : (x2 == y2) = false := by simp; omega
    have d2 : ¬ x2 < y2 := by omega
    have HS := hid9 (E2.start w x0 x1 x2 x0 x1 y2 24)
    go_enter Try.func18, Try.ntmps18
    go_wp2_with fail
    go_loopw [5] (fun i wr => (i = .int .i64 0 ∨ i = .int .i64 1 ∨ i = .int .i64 2) ∧ Hid (E2 w x0 x1 x2 x0 x1 y2 wr)) (fun i _ => 3 - (intOf i).toNat)
    case atStart => exact ⟨.inl rfl, HS⟩
    case round =>
      clear HS
      obtain ⟨hi, HE⟩ := hrel
      have HE2 := hid9 HE.out.drewN
      have HE3 := hid9 (fun q => (HE.out.drewN q).drewN)
      obtain ⟨⟨a0, a1, a2, -, -, -⟩, ⟨b0, b1, b2, -, -, -⟩, -⟩ := HE.out
      rcases hi with rfl | rfl | rfl
      · clear HE
        go_wp2_with fail
        go_quiet (fail)
        go_wp2
        go_roundw
        case rel => exact ⟨.inr (.inl (by simp)), by first | exact HE2.out _ | exact HE3.out _ _⟩
        case measure => simp [intOf]
      · clear HE
        go_wp2_with fail
        go_quiet (fail)
        go_wp2
        go_roundw
        case rel => exact ⟨.inr (.inr (by simp)), by first | exact HE2.out _ | exact HE3.out _ _⟩
        case measure => simp [intOf]
      · clear HE
        go_wp2_with fail
        go_quiet (fail)
        go_wp2_with fail
        go_quiet (fail)
        go_wp2
        exact bodyPost_ret (v := .int .i64 1) (by simp [results, Try.results18, go_sem]) rfl ⟨rfl, by first | exact (HE2.out _).2.2 | exact (HE3.out _ _).2.2⟩
set_option maxRecDepth 20000 in
set_option maxHeartbeats 8000000 in
theorem rcmp9_any (N M : Nat) (w : World) :
    Calls Try.prog 19 #[costV N, costV M] w fun e w' => e = .returned (.int .i64 (cmpN N M)) ∧ Below w.heap.size w w' := by
  have ways := cmp9_ways N M
  by_cases e : N = M
  · subst e
    rw [cmpN_self]
    unfold costV
    clear ways
    generalize cost0 N = x0 at *
    generalize cost1 N = x1 at *
    generalize cost2 N = x2 at *
    have HS := hid9 (E2.start w x0 x1 x2 x0 x1 x2 24)
    go_enter Try.func19, Try.ntmps19
    go_wp2_with fail
    go_loopw [5] (fun i wr => (i = .int .i64 0 ∨ i = .int .i64 1 ∨ i = .int .i64 2 ∨ i = .int .i64 3) ∧ Hid (E2 w x0 x1 x2 x0 x1 x2 wr)) (fun i _ => 3 - (intOf i).toNat)
    case atStart => exact ⟨.inl rfl, HS⟩
    case round =>
      clear HS
      obtain ⟨hi, HE⟩ := hrel
      have HE2 := hid9 HE.out.drewN
      have HE3 := hid9 (fun q => (HE.out.drewN q).drewN)
      obtain ⟨⟨a0, a1, a2, -, -, -⟩, ⟨b0, b1, b2, -, -, -⟩, -⟩ := HE.out
      rcases hi with rfl | rfl | rfl | rfl
      · clear HE
        go_wp2_with fail
        go_quiet (fail)
        go_wp2_with fail
        go_quiet (fail)
        go_wp2
        go_roundw
        case rel => exact ⟨.inr (.inl (by simp)), by first | exact HE2.out _ | exact HE3.out _ _⟩
        case measure => simp [intOf]
      · clear HE
        go_wp2_with fail
        go_quiet (fail)
        go_wp2_with fail
        go_quiet (fail)
        go_wp2
        go_roundw
        case rel => exact ⟨.inr (.inr (.inl (by simp))), by first | exact HE2.out _ | exact HE3.out _ _⟩
        case measure => simp [intOf]
      · clear HE
        go_wp2_with fail
        go_quiet (fail)
        go_wp2_with fail
        go_quiet (fail)
        go_wp2
        go_roundw
        case rel => exact ⟨.inr (.inr (.inr (by simp))), by first | exact HE2.out _ | exact HE3.out _ _⟩
        case measure => simp [intOf]
      · clear HE2
        go_wp2
        exact bodyPost_ret (v := .int .i64 0) (by simp [results, Try.results19, go_sem]) rfl ⟨rfl, HE.out.2.2⟩
  unfold costV
  generalize cost0 N = x0 at *
  generalize cost1 N = x1 at *
  generalize cost2 N = x2 at *
  generalize cost0 M = y0 at *
  generalize cost1 M = y1 at *
  generalize cost2 M = y2 at *
  rcases ways with ⟨h, -⟩ | ⟨h, hv⟩ | ⟨h, hv⟩ | ⟨rfl, h, hv⟩ | ⟨rfl, h, hv⟩ | ⟨rfl, rfl, h, hv⟩ | ⟨rfl, rfl, h, hv⟩
  · exact absurd h e
  · rw [hv]
    clear hv e
    have d1 : (x0 == y0) = false := by simp; omega
    have d2 : ¬ y0 < x0 := by omega
    have HS := hid9 (E2.start w x0 x1 x2 y0 y1 y2 24)
    go_enter Try.func19, Try.ntmps19
    go_wp2_with fail
    go_loopw [5] (fun i wr => (i = .int .i64 0) ∧ Hid (E2 w x0 x1 x2 y0 y1 y2 wr)) (fun i _ => 3 - (intOf i).toNat)
    case atStart => exact ⟨rfl, HS⟩
    case round =>
      clear HS
      obtain ⟨hi, HE⟩ := hrel
      have HE2 := hid9 HE.out.drewN
      have HE3 := hid9 (fun q => (HE.out.drewN q).drewN)
      obtain ⟨⟨a0, a1, a2, -, -, -⟩, ⟨b0, b1, b2, -, -, -⟩, -⟩ := HE.out
      rcases hi with rfl
      · clear HE
        go_wp2_with fail
        go_quiet (fail)
        go_wp2
        exact bodyPost_ret (v := .int .i64 (-1)) (by simp [results, Try.results19, go_sem]) rfl ⟨rfl, by first | exact (HE2.out _).2.2 | exact (HE3.out _ _).2.2⟩
  · rw [hv]
    clear hv e
    have d1 : (x0 == y0) = false := by simp; omega
    have d2 : ¬ x0 < y0 := by omega
    have HS := hid9 (E2.start w x0 x1 x2 y0 y1 y2 24)
    go_enter Try.func19, Try.ntmps19
    go_wp2_with fail
    go_loopw [5] (fun i wr => (i = .int .i64 0) ∧ Hid (E2 w x0 x1 x2 y0 y1 y2 wr)) (fun i _ => 3 - (intOf i).toNat)
    case atStart => exact ⟨rfl, HS⟩
    case round =>
      clear HS
      obtain ⟨hi, HE⟩ := hrel
      have HE2 := hid9 HE.out.drewN
      have HE3 := hid9 (fun q => (HE.out.drewN q).drewN)
      obtain ⟨⟨a0, a1, a2, -, -, -⟩, ⟨b0, b1, b2, -, -, -⟩, -⟩ := HE.out
      rcases hi with rfl
      · clear HE
        go_wp2_with fail
        go_quiet (fail)
        go_wp2_with fail
        go_quiet (fail)
        go_wp2
        exact bodyPost_ret (v := .int .i64 1) (by simp [results, Try.results19, go_sem]) rfl ⟨rfl, by first | exact (HE2.out _).2.2 | exact (HE3.out _ _).2.2⟩
  · rw [hv]
    clear hv e
    have d1 : (x1 == y1) = false := by simp; omega
    have d2 : ¬ y1 < x1 := by omega
    have HS := hid9 (E2.start w x0 x1 x2 x0 y1 y2 24)
    go_enter Try.func19, Try.ntmps19
    go_wp2_with fail
    go_loopw [5] (fun i wr => (i = .int .i64 0 ∨ i = .int .i64 1) ∧ Hid (E2 w x0 x1 x2 x0 y1 y2 wr)) (fun i _ => 3 - (intOf i).toNat)
    case atStart => exact ⟨.inl rfl, HS⟩
    case round =>
      clear HS
      obtain ⟨hi, HE⟩ := hrel
      have HE2 := hid9 HE.out.drewN
      have HE3 := hid9 (fun q => (HE.out.drewN q).drewN)
      obtain ⟨⟨a0, a1, a2, -, -, -⟩, ⟨b0, b1, b2, -, -, -⟩, -⟩ := HE.out
      rcases hi with rfl | rfl
      · clear HE
        go_wp2_with fail
        go_quiet (fail)
        go_wp2_with fail
        go_quiet (fail)
        go_wp2
        go_roundw
        case rel => exact ⟨.inr (by simp), by first | exact HE2.out _ | exact HE3.out _ _⟩
        case measure => simp [intOf]
      · clear HE
        go_wp2_with fail
        go_quiet (fail)
        go_wp2
        exact bodyPost_ret (v := .int .i64 (-1)) (by simp [results, Try.results19, go_sem]) rfl ⟨rfl, by first | exact (HE2.out _).2.2 | exact (HE3.out _ _).2.2⟩
  · rw [hv]
    clear hv e
    have d1 : (x1 == y1) = false := by simp; omega
    have d2 : ¬ x1 < y1 := by omega
    have HS := hid9 (E2.start w x0 x1 x2 x0 y1 y2 24)
    go_enter Try.func19, Try.ntmps19
    go_wp2_with fail
    go_loopw [5] (fun i wr => (i = .int .i64 0 ∨ i = .int .i64 1) ∧ Hid (E2 w x0 x1 x2 x0 y1 y2 wr)) (fun i _ => 3 - (intOf i).toNat)
    case atStart => exact ⟨.inl rfl, HS⟩
    case round =>
      clear HS
      obtain ⟨hi, HE⟩ := hrel
      have HE2 := hid9 HE.out.drewN
      have HE3 := hid9 (fun q => (HE.out.drewN q).drewN)
      obtain ⟨⟨a0, a1, a2, -, -, -⟩, ⟨b0, b1, b2, -, -, -⟩, -⟩ := HE.out
      rcases hi with rfl | rfl
      · clear HE
        go_wp2_with fail
        go_quiet (fail)
        go_wp2_with fail
        go_quiet (fail)
        go_wp2
        go_roundw
        case rel => exact ⟨.inr (by simp), by first | exact HE2.out _ | exact HE3.out _ _⟩
        case measure => simp [intOf]
      · clear HE
        go_wp2_with fail
        go_quiet (fail)
        go_wp2_with fail
        go_quiet (fail)
        go_wp2
        exact bodyPost_ret (v := .int .i64 1) (by simp [results, Try.results19, go_sem]) rfl ⟨rfl, by first | exact (HE2.out _).2.2 | exact (HE3.out _ _).2.2⟩
  · rw [hv]
    clear hv e
    have d1 : (x2 == y2) = false := by simp; omega
    have d2 : ¬ y2 < x2 := by omega
    have HS := hid9 (E2.start w x0 x1 x2 x0 x1 y2 24)
    go_enter Try.func19, Try.ntmps19
    go_wp2_with fail
    go_loopw [5] (fun i wr => (i = .int .i64 0 ∨ i = .int .i64 1 ∨ i = .int .i64 2) ∧ Hid (E2 w x0 x1 x2 x0 x1 y2 wr)) (fun i _ => 3 - (intOf i).toNat)
    case atStart => exact ⟨.inl rfl, HS⟩
    case round =>
      clear HS
      obtain ⟨hi, HE⟩ := hrel
      have HE2 := hid9 HE.out.drewN
      have HE3 := hid9 (fun q => (HE.out.drewN q).drewN)
      obtain ⟨⟨a0, a1, a2, -, -, -⟩, ⟨b0, b1, b2, -, -, -⟩, -⟩ := HE.out
      rcases hi with rfl | rfl | rfl
      · clear HE
        go_wp2_with fail
        go_quiet (fail)
        go_wp2_with fail
        go_quiet (fail)
        go_wp2
        go_roundw
        case rel => exact ⟨.inr (.inl (by simp)), by first | exact HE2.out _ | exact HE3.out _ _⟩
        case measure => simp [intOf]
      · clear HE
        go_wp2_with fail
        go_quiet (fail)
        go_wp2_with fail
        go_quiet (fail)
        go_wp2
        go_roundw
        case rel => exact ⟨.inr (.inr (by simp)), by first | exact HE2.out _ | exact HE3.out _ _⟩
        case measure => simp [intOf]
      · clear HE
        go_wp2_with fail
        go_quiet (fail)
        go_wp2
        exact bodyPost_ret (v := .int .i64 (-1)) (by simp [results, Try.results19, go_sem]) rfl ⟨rfl, by first | exact (HE2.out _).2.2 | exact (HE3.out _ _).2.2⟩
  · rw [hv]
    clear hv e
    have d1 : (x2 == y2) = false := by simp; omega
    have d2 : ¬ x2 < y2 := by omega
    have HS := hid9 (E2.start w x0 x1 x2 x0 x1 y2 24)
    go_enter Try.func19, Try.ntmps19
    go_wp2_with fail
    go_loopw [5] (fun i wr => (i = .int .i64 0 ∨ i = .int .i64 1 ∨ i = .int .i64 2) ∧ Hid (E2 w x0 x1 x2 x0 x1 y2 wr)) (fun i _ => 3 - (intOf i).toNat)
    case atStart => exact ⟨.inl rfl, HS⟩
    case round =>
      clear HS
      obtain ⟨hi, HE⟩ := hrel
      have HE2 := hid9 HE.out.drewN
      have HE3 := hid9 (fun q => (HE.out.drewN q).drewN)
      obtain ⟨⟨a0, a1, a2, -, -, -⟩, ⟨b0, b1, b2, -, -, -⟩, -⟩ := HE.out
      rcases hi with rfl | rfl | rfl
      · clear HE
        go_wp2_with fail
        go_quiet (fail)
        go_wp2_with fail
        go_quiet (fail)
        go_wp2
        go_roundw
        case rel => exact ⟨.inr (.inl (by simp)), by first | exact HE2.out _ | exact HE3.out _ _⟩
        case measure => simp [intOf]
      · clear HE
        go_wp2_with fail
        go_quiet (fail)
        go_wp2_with fail
        go_quiet (fail)
        go_wp2
        go_roundw
        case rel => exact ⟨.inr (.inr (by simp)), by first | exact HE2.out _ | exact HE3.out _ _⟩
        case measure => simp [intOf]
      · clear HE
        go_wp2_with fail
        go_quiet (fail)
        go_wp2_with fail
        go_quiet (fail)
        go_wp2
        exact bodyPost_ret (v := .int .i64 1) (by simp [results, Try.results19, go_sem]) rfl ⟨rfl, by first | exact (HE2.out _).2.2 | exact (HE3.out _ _).2.2⟩
end Go.Proofs.Ytnaamkkjledllaa
/-
  What the calls of package cost's times and Mul do.
-/
namespace Go.Proofs.Ytnaamkkjledllaa
open Go.RowKit
set_option linter.unusedSimpArgs false
set_option linter.unusedVariables false

theorem mul64_any (x y : Nat) (hx : x < 18446744073709551616) (hy : y < 18446744073709551616) (w : World) :
    Calls Try.prog 32 #[.int .u64 (x : Int), .int .u64 (y : Int)] w fun e w' => e = .returned (.tuple #[.int .u64 ((x * y / 18446744073709551616 : Nat) : Int), .int .u64 ((x * y % 18446744073709551616 : Nat) : Int)]) ∧ w' = w :=
  Any.bits_Mul64 Try.lays264 x y hx hy w
/-- One digit of a product. -/
theorem mul_step (a n o : Nat) (ha : a < 18446744073709551616) (hn : n < 18446744073709551616) (ho : o < 18446744073709551616) :
    ∃ hi lo c t q : Int, (∀ w, Calls Try.prog 32 #[.int .u64 (a : Int), .int .u64 (n : Int)] w fun e w' => e = .returned (.tuple #[.int .u64 hi, .int .u64 lo]) ∧ w' = w) ∧
      (∀ w, (callFunc 26 #[.int .u64 lo, .int .u64 (o : Int), .int .u64 0]).run Try.prog w = .ok (.value (.tuple #[.int .u64 t, .int .u64 c])) w) ∧
      IntKind.u64.wrap (hi + c) = q ∧ t = ((mulP a n o % 18446744073709551616 : Nat) : Int) ∧ q = ((mulP a n o / 18446744073709551616 : Nat) : Int) := by
  obtain ⟨p1, p2, p3⟩ := mulP_parts a n o ha hn ho
  refine ⟨_, _, addC ((a * n % 18446744073709551616 : Nat) : Int) (o : Int) 0, addS ((a * n % 18446744073709551616 : Nat) : Int) (o : Int) 0, _, fun w => mul64_any a n ha hn w, fun w => callAdd _ _ 0 (by omega) (by omega) (by omega) (by omega) w, rfl, ?_, ?_⟩
  · rw [← p1]; unfold addS; omega
  · rw [← p2]; unfold addC; rw [IntKind.wrap_u64]
    rw [← p2] at p3
    generalize a * n = z at *
    omega
theorem E2.set0 {w W : World} {x0 x1 x2 y0 y1 y2 : Int} (h : E2 w x0 x1 x2 y0 y1 y2 W) (u : Int) : E2 w x0 x1 x2 u y1 y2 (W.setCell ⟨w.heap.size + 1, 0, none⟩ (.int .u64 u)) :=
  ⟨h.1.oth0 (by omega) u, h.2.1.one0 u, h.2.2.setCell (by show w.heap.size ≤ w.heap.size + 1; omega) _⟩
theorem E2.set1 {w W : World} {x0 x1 x2 y0 y1 y2 : Int} (h : E2 w x0 x1 x2 y0 y1 y2 W) (u : Int) : E2 w x0 x1 x2 y0 u y2 (W.setCell ⟨w.heap.size + 1, 1, none⟩ (.int .u64 u)) :=
  ⟨h.1.oth1 (by omega) u, h.2.1.one1 u, h.2.2.setCell (by show w.heap.size ≤ w.heap.size + 1; omega) _⟩
theorem E2.set2 {w W : World} {x0 x1 x2 y0 y1 y2 : Int} (h : E2 w x0 x1 x2 y0 y1 y2 W) (u : Int) : E2 w x0 x1 x2 y0 y1 u (W.setCell ⟨w.heap.size + 1, 2, none⟩ (.int .u64 u)) :=
  ⟨h.1.oth2 (by omega) u, h.2.1.one2 u, h.2.2.setCell (by show w.heap.size ≤ w.heap.size + 1; omega) _⟩
/-- What fitting makes of a number's digits. -/
theorem fit_top (T : Nat) : (if cost0 T / 18446744073709551616 = 0 then (.agg #[.int .u64 (cost0 T % 18446744073709551616), .int .u64 (cost1 T), .int .u64 (cost2 T)] : Value) else costV 0) = costV (fitN T) ∧ (if cost0 T / 18446744073709551616 = 0 then (0 : Int) else 6) = fitE9 T := by
  by_cases h : T < 6277101735386680763835789423207666416102355444464034512896
  · obtain ⟨q1, q2⟩ := top_in T h
    obtain ⟨f1, f2⟩ := fit_in h
    rw [q1, q2, f1, f2]; exact ⟨rfl, rfl⟩
  · have q := top_out T h
    obtain ⟨f1, f2⟩ := fit_out h
    rw [if_neg q, if_neg q, f1, f2]; exact ⟨rfl, rfl⟩
set_option maxRecDepth 20000 in
set_option maxHeartbeats 8000000 in
theorem times_any (N n m : Nat) (w : World) (hN : N < 6277101735386680763835789423207666416102355444464034512896) (hn : n < 18446744073709551616) (hm : m < 18446744073709551616) :
    Calls Try.prog 28 #[costV N, .int .u64 (n : Int), .int .u64 (m : Int)] w fun e w' => e = .returned (.tuple #[.agg #[.int .u64 (cost0 (N * n + m) % 18446744073709551616), .int .u64 (cost1 (N * n + m)), .int .u64 (cost2 (N * n + m))], .int .u64 (cost0 (N * n + m) / 18446744073709551616)]) ∧ Below w.heap.size w w' := by
  have sp := cost_split N
  have lo := cost_lo N
  have up := cost_up N hN
  obtain ⟨a0, e0⟩ : ∃ a : Nat, cost0 N = (a : Int) := ⟨(cost0 N).toNat, by omega⟩
  obtain ⟨a1, e1⟩ : ∃ a : Nat, cost1 N = (a : Int) := ⟨(cost1 N).toNat, by omega⟩
  obtain ⟨a2, e2⟩ : ∃ a : Nat, cost2 N = (a : Int) := ⟨(cost2 N).toNat, by omega⟩
  rw [show costV N = .agg #[.int .u64 (cost0 N), .int .u64 (cost1 N), .int .u64 (cost2 N)] from rfl]
  rw [e0, e1, e2]
  rw [e0, e1, e2] at sp
  rw [e0, e1, e2] at lo
  rw [e0] at up
  obtain ⟨D2, D1, D0⟩ := mul_digits N n m a0 a1 a2 (by omega)
  have l2 := mulP_lt a2 n m (by omega) hn hm
  have l1 := mulP_lt a1 n (mulP a2 n m / 18446744073709551616) (by omega) hn (by omega)
  have l0 := mulP_lt a0 n (mulP a1 n (mulP a2 n m / 18446744073709551616) / 18446744073709551616) (by omega) hn (by omega)
  obtain ⟨h2, g2, c2, t2, q2, M2, A2, W2, T2, Q2⟩ := mul_step a2 n m (by omega) hn hm
  obtain ⟨h1, g1, c1, t1, q1, M1, A1, W1, T1, Q1⟩ := mul_step a1 n (mulP a2 n m / 18446744073709551616) (by omega) hn (by omega)
  obtain ⟨h0, g0, c0, t0, q0, M0, A0, W0, T0, Q0⟩ := mul_step a0 n (mulP a1 n (mulP a2 n m / 18446744073709551616) / 18446744073709551616) (by omega) hn (by omega)
  rw [← Q2] at A1
  rw [← Q1] at A0
  have r2 : cost2 (N * n + m) = t2 := by rw [T2, D2]; rfl
  have r1 : cost1 (N * n + m) = t1 := by rw [T1, D1]; rfl
  have r0 : cost0 (N * n + m) % 18446744073709551616 = t0 := by rw [T0, D0]; unfold cost0; omega
  have rq : cost0 (N * n + m) / 18446744073709551616 = q0 := by rw [Q0, D0]; unfold cost0; omega
  rw [r0, r1, r2, rq]
  clear r0 r1 r2 rq D0 D1 D2 l0 l1 l2 T0 T1 T2 Q0 Q1 Q2 sp lo up e0 e1 e2 hN
  generalize (a0 : Int) = x0 at *
  generalize (a1 : Int) = x1 at *
  generalize (a2 : Int) = x2 at *
  generalize (n : Int) = n' at *
  generalize (m : Int) = m' at *
  have HS := hid9 (E2.start w x0 x1 x2 0 0 0 24)
  go_enter Try.func28, Try.ntmps28
  go_wp2_with fail
  go_loopw [7, 8] (fun cv i wr => (i = .int .i64 (2) ∧ cv = .int .u64 m' ∧ Hid (E2 w x0 x1 x2 0 0 0 wr)) ∨ (i = .int .i64 (1) ∧ cv = .int .u64 q2 ∧ Hid (E2 w x0 x1 x2 0 0 t2 wr)) ∨ (i = .int .i64 (0) ∧ cv = .int .u64 q1 ∧ Hid (E2 w x0 x1 x2 0 t1 t2 wr)) ∨ (i = .int .i64 (-1) ∧ cv = .int .u64 q0 ∧ Hid (E2 w x0 x1 x2 t0 t1 t2 wr))) (fun _ i _ => (intOf i + 1).toNat)
  case atStart => exact .inl ⟨rfl, rfl, HS⟩
  case round =>
    clear HS
    rcases hrel with ⟨rfl, rfl, HE⟩ | ⟨rfl, rfl, HE⟩ | ⟨rfl, rfl, HE⟩ | ⟨rfl, rfl, HE⟩
    · have HE2 := hid9 (HE.out.set2 t2)
      obtain ⟨⟨a0, a1, a2, -, -, -⟩, ⟨b0, b1, b2, b3, b4, b5⟩, -⟩ := HE.out
      clear HE
      go_wp2_with fail
      refine (M2 _).mono ?_
      rintro e w1 ⟨rfl, rfl⟩
      clear M0 M1 M2
      go_wp2
      go_roundw
      case rel => exact .inr (.inl ⟨by simp, rfl, HE2⟩)
      case measure => simp [intOf]
    · have HE2 := hid9 (HE.out.set1 t1)
      obtain ⟨⟨a0, a1, a2, -, -, -⟩, ⟨b0, b1, b2, b3, b4, b5⟩, -⟩ := HE.out
      clear HE
      go_wp2_with fail
      refine (M1 _).mono ?_
      rintro e w1 ⟨rfl, rfl⟩
      clear M0 M1 M2
      go_wp2
      go_roundw
      case rel => exact .inr (.inr (.inl ⟨by simp, rfl, HE2⟩))
      case measure => simp [intOf]
    · have HE2 := hid9 (HE.out.set0 t0)
      obtain ⟨⟨a0, a1, a2, -, -, -⟩, ⟨b0, b1, b2, b3, b4, b5⟩, -⟩ := HE.out
      clear HE
      go_wp2_with fail
      refine (M0 _).mono ?_
      rintro e w1 ⟨rfl, rfl⟩
      clear M0 M1 M2
      go_wp2
      go_roundw
      case rel => exact .inr (.inr (.inr ⟨by simp, rfl, HE2⟩))
      case measure => simp [intOf]
    · have A1 := HE.out.2.1
      have kE := bset3c HE.out.2.2 (show w.heap.size ≤ w.heap.size + 1 by omega) (.int .u64 t0) (.int .u64 t1) (.int .u64 t2)
      obtain ⟨u0, u1, u2, -, -, -⟩ := A1.set t0 t1 t2
      obtain ⟨r0, r1, r2, r3, r4, r5⟩ := A1
      have Hk := hid9 kE
      have Hv := hid9 (And.intro u0 (And.intro u1 u2))
      clear kE u0 u1 u2 HE M0 M1 M2
      go_wp2
      obtain ⟨u0, u1, u2⟩ := Hv.out
      exact bodyPost_ret (v := .tuple #[.agg #[.int .u64 t0, .int .u64 t1, .int .u64 t2], .int .u64 q0]) (by simp [results, Try.results28, go_sem, u0, u1, u2]) rfl ⟨rfl, Hk.out⟩
set_option maxRecDepth 20000 in
set_option maxHeartbeats 2000000 in
theorem mul9_any (N n : Nat) (w : World) (hN : N < 6277101735386680763835789423207666416102355444464034512896) (hn : n < 18446744073709551616) :
    Calls Try.prog 10 #[costV N, .int .u64 (n : Int)] w fun e w' => e = .returned (.tuple #[costV (fitN (N * n)), .int .i64 (fitE9 (N * n))]) ∧ Below w.heap.size w w' := by
  have KT := fun w => times_any N n 0 w hN hn (by decide)
  have KF := fun w => fitting_any (cost0 (N * n) % 18446744073709551616) (cost1 (N * n)) (cost2 (N * n)) (cost0 (N * n) / 18446744073709551616) w
  rw [(fit_top (N * n)).1, (fit_top (N * n)).2] at KF
  rw [Nat.add_zero] at KT
  rw [show costV (fitN (N * n)) = .agg #[.int .u64 (cost0 (fitN (N * n))), .int .u64 (cost1 (fitN (N * n))), .int .u64 (cost2 (fitN (N * n)))] from rfl] at *
  unfold costV at *
  rw [show ((0 : Nat) : Int) = 0 from rfl] at KT
  generalize cost0 (fitN (N * n)) = v0 at *
  generalize cost1 (fitN (N * n)) = v1 at *
  generalize cost2 (fitN (N * n)) = v2 at *
  generalize fitE9 (N * n) = E at *
  generalize cost0 (N * n) % 18446744073709551616 = t0 at *
  generalize cost0 (N * n) / 18446744073709551616 = q0 at *
  generalize cost1 (N * n) = t1 at *
  generalize cost2 (N * n) = t2 at *
  generalize cost0 N = x0 at *
  generalize cost1 N = x1 at *
  generalize cost2 N = x2 at *
  generalize (n : Int) = n' at *
  have HS := hid9 (E2.start w x0 x1 x2 0 0 0 24)
  go_enter Try.func10, Try.ntmps10
  go_wp2_with fail
  refine (KT _).mono ?_
  rintro e w1 ⟨rfl, hb⟩
  have A1 := HS.out.2.1.below hb
  have k1 := keepb hb HS.out.2.2
  have HA := hid9 A1
  have HB := hid9 k1
  clear A1 k1 hb HS KT
  go_wp2_with fail
  refine (KF _).mono ?_
  rintro e w2 ⟨rfl, hb⟩
  have A1 := HA.out.below hb
  have kE := bset3c (keepb hb HB.out) (show w.heap.size ≤ w.heap.size + 1 by omega) (.int .u64 v0) (.int .u64 v1) (.int .u64 v2)
  obtain ⟨u0, u1, u2, -, -, -⟩ := A1.set v0 v1 v2
  obtain ⟨r0, r1, r2, r3, r4, r5⟩ := A1
  have Hk := hid9 kE
  have Hv := hid9 (And.intro u0 (And.intro u1 u2))
  clear kE u0 u1 u2 HA HB hb KF
  go_wp2
  obtain ⟨u0, u1, u2⟩ := Hv.out
  exact bodyPost_ret (v := .tuple #[.agg #[.int .u64 v0, .int .u64 v1, .int .u64 v2], .int .i64 E]) (by simp [results, Try.results10, go_sem, u0, u1, u2]) rfl ⟨rfl, Hk.out⟩
end Go.Proofs.Ytnaamkkjledllaa
