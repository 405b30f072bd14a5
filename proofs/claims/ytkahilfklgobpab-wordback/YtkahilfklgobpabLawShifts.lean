/-
  The law WordShifts, walked.
-/
import Derived.Test.YtkahilfklgobpabKnown
import Derived.Test.YtkahilfklgobpabNumS
namespace Go.Proofs.Ytkahilfklgobpab
open Go.RowKit
set_option linter.unusedSimpArgs false
set_option linter.unusedVariables false

set_option maxHeartbeats 1000000 in
theorem within_any (a n : Int) (w : World) (h : 0 < n) (h' : n ≤ 1000) :
    Calls Try.prog 16 #[.int .i64 a, .int .i64 n] w fun e w' => e = .returned (.int .i64 (withinZ a n)) ∧ w' = w := by
  have hb := within_bd a n h
  have h0 : ¬ n = 0 := by omega
  have h1 : ¬ n = -1 := by omega
  by_cases c : a.tmod n < 0
  · rw [← within_neg a n h c]
    go_enter Try.func16, Try.ntmps16
    go_wp2
    go_ret
    exact ⟨rfl, rfl⟩
  · rw [← within_pos a n h (by omega)]
    go_enter Try.func16, Try.ntmps16
    go_wp2
    go_ret
    exact ⟨rfl, rfl⟩

set_option maxHeartbeats 4000000 in
theorem wordShifts_any (x : BitVec 128) (n m : Int) (w : World) :
    Calls Try.prog 4 #[.agg #[.int .u64 (hI x), .int .u64 (lI x)], .int .i64 n, .int .i64 m] w fun e w' => e = .returned (.bool true) ∧ Below w.heap.size w w' := by
  have hn := fun w => within_any n 140 w (by decide) (by decide)
  have hm := fun w => within_any m 140 w (by decide) (by decide)
  have bn := withinZ_bd n 140 (by decide)
  have bm := withinZ_bd m 140 (by decide)
  revert hn hm bn bm
  generalize withinZ n 140 = a
  generalize withinZ m 140 = b
  intro hn hm bn bm
  obtain ⟨a0, a1⟩ := bn
  obtain ⟨b0, b1⟩ := bm
  have e1 := shl_shl x a b a0 b0
  have e2 := shr_shr x a b a0 b0
  have e3 := shr_shl x a a0
  have e4 := shl_shr x a a0
  have e5 := twice x
  have e6 : overB x x = (bitZ x 0 == 1) := by rw [twice_over]; rfl
  have e7 : x <<< (-a).toNat = x := by have := shl_neg x a a0; simpa using this
  have g1 : IntKind.i64.wrap (a + b) = a + b := by rw [IntKind.wrap_i64]; omega
  have g2 : IntKind.i64.wrap (128 - a) = 128 - a := by rw [IntKind.wrap_i64]; omega
  have g3 : IntKind.i64.wrap (-a) = -a := by rw [IntKind.wrap_i64]; omega
  go_enter Try.func4, Try.ntmps4
  go_wp2_with fail
  refine (known_any _).mono ?_
  rintro e w1 ⟨rfl, hb1⟩
  have x0 : w1.cell? ⟨w.heap.size, 0, none⟩ = some (.int .u64 (hI x)) := keepc hb1 (by simp [go_sem])
  have x1 : w1.cell? ⟨w.heap.size, 1, none⟩ = some (.int .u64 (lI x)) := keepc hb1 (by simp [go_sem])
  have kB := keepb hb1 (bl1 w _)
  clear hb1
  go_wp2_with fail
  refine (hn _).mono ?_
  rintro e w' ⟨rfl, rfl⟩
  clear hn
  go_wp2_with fail
  refine (hm _).mono ?_
  rintro e w' ⟨rfl, rfl⟩
  clear hm
  have hbl := kB.drew
  go_wp2_with fail
  go_region_held3 (fun w' => w'.cell? ⟨w.heap.size, 0, none⟩ = some (.int .u64 (hI x)) ∧ w'.cell? ⟨w.heap.size, 1, none⟩ = some (.int .u64 (lI x)) ∧ Below w.heap.size w w')
    (first | (obtain ⟨k1, k2, k9⟩ := ‹_ ∧ _›; exact ⟨keepc hb k1, keepc hb k2, keepb hb k9⟩) | exact ⟨x0, x1, hbl⟩)
    (first
      | (go_at_call 17; refine (shl_any _ _ _).mono ?_; rintro e w' ⟨rfl, hb⟩)
      | (go_at_call 18; refine (shr_any _ _ _).mono ?_; rintro e w' ⟨rfl, hb⟩))
  clear x0 x1 kB hbl e1 e2
  obtain ⟨x0, x1, kB⟩ := ‹_ ∧ _›
  have hbl := kB.drew
  go_wp2_with fail
  go_region_held3 (fun w' => w'.cell? ⟨w.heap.size, 0, none⟩ = some (.int .u64 (hI x)) ∧ w'.cell? ⟨w.heap.size, 1, none⟩ = some (.int .u64 (lI x)) ∧ Below w.heap.size w w')
    (first | (obtain ⟨k1, k2, k9⟩ := ‹_ ∧ _›; exact ⟨keepc hb k1, keepc hb k2, keepb hb k9⟩) | exact ⟨x0, x1, hbl⟩)
    (first
      | (go_at_call 17; refine (shl_any _ _ _).mono ?_; rintro e w' ⟨rfl, hb⟩)
      | (go_at_call 18; refine (shr_any _ _ _).mono ?_; rintro e w' ⟨rfl, hb⟩)
      | (go_at_call 20; refine (mask_any _ _).mono ?_; rintro e w' ⟨rfl, hb⟩)
      | (go_at_call 14; refine (not_any _ _).mono ?_; rintro e w' ⟨rfl, hb⟩)
      | (go_at_call 19; refine (and_any _ _ _).mono ?_; rintro e w' ⟨rfl, hb⟩))
  clear x0 x1 kB hbl e3 e4
  obtain ⟨x0, x1, kB⟩ := ‹_ ∧ _›
  go_wp2_with fail
  refine (add_any _ _ _).mono ?_
  rintro e w8 ⟨rfl, hb8⟩
  have X0 := keepc (bl1 w8 (.cells #[.int .u64 (hI (x <<< 1)), .int .u64 (lI (x <<< 1))] 24)) (keepc hb8 x0)
  have X1 := keepc (bl1 w8 (.cells #[.int .u64 (hI (x <<< 1)), .int .u64 (lI (x <<< 1))] 24)) (keepc hb8 x1)
  have kB8 := keepb hb8 kB
  have kB9 := kB8.alloc kB8.size (.cells #[.int .u64 (hI (x <<< 1)), .int .u64 (lI (x <<< 1))] 24)
  have hbl := kB9.drew
  clear x0 x1 kB hb8
  rw [e5, e6]
  clear e5 e6
  have t0 : (w8.alloc (.cells #[.int .u64 (hI (x <<< 1)), .int .u64 (lI (x <<< 1))] 24)).cell? ⟨w8.heap.size, 0, none⟩ = some (.int .u64 (hI (x <<< 1))) := by simp [go_sem]
  have t1 : (w8.alloc (.cells #[.int .u64 (hI (x <<< 1)), .int .u64 (lI (x <<< 1))] 24)).cell? ⟨w8.heap.size, 1, none⟩ = some (.int .u64 (lI (x <<< 1))) := by simp [go_sem]
  go_wp2_with fail
  go_region_held3 (fun w' => w'.cell? ⟨w.heap.size, 0, none⟩ = some (.int .u64 (hI x)) ∧ w'.cell? ⟨w.heap.size, 1, none⟩ = some (.int .u64 (lI x)) ∧ w'.cell? ⟨w8.heap.size, 0, none⟩ = some (.int .u64 (hI (x <<< 1))) ∧ w'.cell? ⟨w8.heap.size, 1, none⟩ = some (.int .u64 (lI (x <<< 1))) ∧ Below w.heap.size w w')
    (first | (obtain ⟨k1, k2, k3, k4, k9⟩ := ‹_ ∧ _›; exact ⟨keepc hb k1, keepc hb k2, keepc hb k3, keepc hb k4, keepb hb k9⟩) | exact ⟨X0, X1, t0, t1, hbl⟩)
    (first
      | (go_at_call 17; refine (shl_any _ _ _).mono ?_; rintro e w' ⟨rfl, hb⟩)
      | (go_at_call 15; refine (bit_any _ _ _).mono ?_; rintro e w' ⟨rfl, hb⟩))
  obtain ⟨-, -, -, -, kB⟩ := ‹_ ∧ _›
  go_wp2
  go_ret
  exact ⟨rfl, kB⟩
end Go.Proofs.Ytkahilfklgobpab
