/-
  What the call of 'known' does: it tells true.
-/
import Derived.Test.YtkahilfklgobpaaFld
namespace Go.Proofs.Ytkahilfklgobpaa
open Go.RowKit
set_option linter.unusedSimpArgs false
set_option linter.unusedVariables false

theorem addK (w : World) :
    Calls Try.prog 25 #[.agg #[.int .u64 (hI allW), .int .u64 (lI allW)], .agg #[.int .u64 0, .int .u64 1]] w fun e w' => e = .returned (.tuple #[.agg #[.int .u64 0, .int .u64 0], .bool true]) ∧ Below w.heap.size w w' := by
  have h := add_any allW 1#128 w
  rw [show hI 1#128 = 0 by decide +kernel, show lI 1#128 = 1 by decide +kernel, show hI (allW + 1#128) = 0 by decide +kernel, show lI (allW + 1#128) = 0 by decide +kernel, show overB allW 1#128 = true by decide +kernel] at h
  exact h
theorem mask1K (w : World) :
    Calls Try.prog 11 #[.int .i64 1] w fun e w' => e = .returned (.agg #[.int .u64 9223372036854775808, .int .u64 0]) ∧ Below w.heap.size w w' := by
  have h := mask_any 1 w
  rw [show hI (maskW 1) = 9223372036854775808 by decide +kernel, show lI (maskW 1) = 0 by decide +kernel] at h
  exact h
theorem fieldK (w : World) :
    Calls Try.prog 31 #[.agg #[.int .u64 (hI (maskW 8)), .int .u64 (lI (maskW 8))], .int .i64 4, .int .i64 8] w fun e w' => e = .returned (.tuple #[.agg #[.int .u64 0, .int .u64 240], .int .i64 0]) ∧ Below w.heap.size w w' := by
  have h := field_in (maskW 8) 4 8 w (by decide) (by decide) (by decide) (by decide)
  rw [show hI ((maskW 8 <<< (4 : Int).toNat) >>> (128 - (8 : Int)).toNat) = 0 by decide +kernel, show lI ((maskW 8 <<< (4 : Int).toNat) >>> (128 - (8 : Int)).toNat) = 240 by decide +kernel] at h
  exact h

set_option maxHeartbeats 1000000 in
theorem known_any (w : World) :
    Calls Try.prog 8 #[] w fun e w' => e = .returned (.bool true) ∧ Below w.heap.size w w' := by
  go_enter Try.func8, Try.ntmps8
  go_wp2_with fail
  refine (not0_any _).mono ?_
  rintro e w1 ⟨rfl, hb1⟩
  go_wp2_with fail
  refine (addK _).mono ?_
  rintro e w2 ⟨rfl, hb2⟩
  have kB2 := keepb hb2 hb1
  clear hb1 hb2
  go_wp2_with fail
  refine (mask_any _ _).mono ?_
  rintro e w3 ⟨rfl, hb3⟩
  go_wp2_with fail
  refine (fieldK _).mono ?_
  rintro e w4 ⟨rfl, hb4⟩
  have hb := keepb hb4 hb3
  have f1 : w4.cell? ⟨w2.heap.size, 0, none⟩ = some (.int .u64 0) := keepc hb (by simp [go_sem])
  have f2 : w4.cell? ⟨w2.heap.size, 1, none⟩ = some (.int .u64 0) := keepc hb (by simp [go_sem])
  have kB4 := keepb hb (kB2.alloc (by have := kB2.size; omega) _)
  clear hb3 hb4 hb
  go_wp2_with fail
  refine (mask1K _).mono ?_
  rintro e w5 ⟨rfl, hb5⟩
  have s4 := cell_in f1
  have n4 : ¬ w4.heap.size = w2.heap.size := by omega
  have g1 : w5.cell? ⟨w2.heap.size, 0, none⟩ = some (.int .u64 0) := keepc hb5 (by simp [go_sem, f1, n4, s4])
  have g2 : w5.cell? ⟨w2.heap.size, 1, none⟩ = some (.int .u64 0) := keepc hb5 (by simp [go_sem, f2, n4, s4])
  have g3 : w5.cell? ⟨w4.heap.size, 0, none⟩ = some (.int .u64 0) := keepc hb5 (by simp [go_sem])
  have g4 : w5.cell? ⟨w4.heap.size, 1, none⟩ = some (.int .u64 240) := keepc hb5 (by simp [go_sem])
  have kB5 := keepb hb5 (kB4.alloc (by have := kB4.size; omega) _)
  clear hb5 f1 f2 kB2 kB4
  go_wp2
  go_ret
  exact ⟨rfl, kB5⟩
end Go.Proofs.Ytkahilfklgobpaa
