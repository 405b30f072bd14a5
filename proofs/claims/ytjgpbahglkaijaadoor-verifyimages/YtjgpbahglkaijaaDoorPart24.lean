/-
  Part 24 of the proof: 1 texts, one behind the other.
-/
import Derived.Test.YtjgpbahglkaijaaDoorPart23
import Derived.Test.YtjgpbahglkaijaaDoorPart10
import Derived.Test.YtjgpbahglkaijaaDoorPart1
import Derived.Test.YtjgpbahglkaijaaDoorPart17
import Derived.Test.YtjgpbahglkaijaaDoorPart5
namespace Go.Proofs.YtjgpbahglkaijaaDoor
open Go.RowKit
set_option linter.unusedSimpArgs false
set_option linter.unusedVariables false

theorem stepsOf_any (D : Int) (h0 : 0 ≤ D) (h1 : D ≤ 1000) (w : World) :
    Calls Tryd.prog 43 #[.int .i64 D] w fun e w' => e = .returned (.int .i64 (max 1 (3 * D))) ∧ w' = w := by
  have mx := max_16 1 (3 * D)
  obtain ⟨m, hm⟩ : ∃ m, m = max 1 (3 * D) := ⟨_, rfl⟩
  rw [← hm] at mx ⊢
  clear hm
  go_enter Tryd.func43, Tryd.ntmps43
  go_wp2
  exact bodyPost_ret (v := .int .i64 m) (by simp [results, Tryd.results43, go_sem]) rfl ⟨rfl, rfl⟩
set_option maxRecDepth 20000 in
set_option maxHeartbeats 4000000 in
theorem hcheck_any (W D S n : Int) (w : World) :
    Calls Tryd.prog 26 #[.agg #[.int .i64 W, .int .i64 D, .int .i64 S, .int .i64 n]] w fun e w' => e = .returned (.int .i64 (chkH W D S)) ∧ Below w.heap.size w w' := by
  have q1 := bl1 w (.cells #[.int .i64 W, .int .i64 D, .int .i64 S, .int .i64 n] 46)
  have HQ := hid13 q1
  have HB := hid13 q1.drew
  by_cases hW : W ≠ 32 ∧ W ≠ 128
  · have hE : chkH W D S = 11 := by unfold chkH; rw [if_pos hW]
    rw [hE]
    have a1 : (W != 32) = true := by simpa using hW.1
    have a2 : (W != 128) = true := by simpa using hW.2
    clear hW hE q1
    go_enter Tryd.func26, Tryd.ntmps26
    go_wp2
    exact bodyPost_ret (v := .int .i64 11) (by simp [results, Tryd.results26, go_sem]) rfl ⟨rfl, HQ.out⟩
  · have hc0 : (w.alloc (.cells #[.int .i64 W, .int .i64 D, .int .i64 S, .int .i64 n] 46)).cell? ⟨w.heap.size, 0, none⟩ = some (.int .i64 W) := by simp [go_sem]
    have hc1 : (w.alloc (.cells #[.int .i64 W, .int .i64 D, .int .i64 S, .int .i64 n] 46)).cell? ⟨w.heap.size, 1, none⟩ = some (.int .i64 D) := by simp [go_sem]
    have hc2 : (w.alloc (.cells #[.int .i64 W, .int .i64 D, .int .i64 S, .int .i64 n] 46)).cell? ⟨w.heap.size, 2, none⟩ = some (.int .i64 S) := by simp [go_sem]
    have HC : Hid ((w.alloc (.cells #[.int .i64 W, .int .i64 D, .int .i64 S, .int .i64 n] 46)).drew.cell? ⟨w.heap.size, 0, none⟩ = some (.int .i64 W) ∧ (w.alloc (.cells #[.int .i64 W, .int .i64 D, .int .i64 S, .int .i64 n] 46)).drew.cell? ⟨w.heap.size, 1, none⟩ = some (.int .i64 D) ∧ (w.alloc (.cells #[.int .i64 W, .int .i64 D, .int .i64 S, .int .i64 n] 46)).drew.cell? ⟨w.heap.size, 2, none⟩ = some (.int .i64 S)) := ⟨hc0, hc1, hc2⟩
    clear hc0 hc1 hc2 q1
    have hE : chkH W D S = if D < 0 ∨ W < D ∨ S ≠ max 1 (3 * D) then 28 else 0 := by unfold chkH; rw [if_neg hW]
    rw [hE]
    have hW2 : Hid (W = 32 ∨ W = 128) := by show _ ∨ _; omega
    have hw1 : (!(W == 32) && !(W == 128)) = false := by rcases hW2.out with h | h <;> subst h <;> rfl
    by_cases hD : D < 0
    · rw [if_pos (.inl hD)]
      clear hE hW
      go_enter Tryd.func26, Tryd.ntmps26
      rcases hW2.out with h | h
      all_goals subst h
      all_goals go_wp2_with fail
      all_goals skip
      · refine qw_region (C := fun X => X.cell? ⟨w.heap.size, 0, none⟩ = some (.int .i64 32) ∧ X.cell? ⟨w.heap.size, 1, none⟩ = some (.int .i64 D) ∧ X.cell? ⟨w.heap.size, 2, none⟩ = some (.int .i64 S) ∧ Below w.heap.size w X) (by kernel_rfl) (by kernel_rfl) ⟨HC.out.1, HC.out.2.1, HC.out.2.2, HB.out⟩ ?_
        clear HC HB HQ
        refine qw_run (v := .pointer (some ⟨w.heap.size, 0, none⟩)) (by rfl) ?_ ?_
        · (intro w9 hC; clear hC; go_simp; first | done | (simp; done) | (simp [*]; done) | omega | (simp; omega) | (rw [IntKind.wrap_i64]; omega) | (intro hx; omega) | rfl)
        simp only [Act.put, List.setIfInBounds_toArray, List.set_cons_zero, List.set_cons_succ]
        refine qw_run (v := .pointer (some ⟨w.heap.size, 1, none⟩)) (by rfl) ?_ ?_
        · (intro w9 hC; clear hC; go_simp; first | done | (simp; done) | (simp [*]; done) | omega | (simp; omega) | (rw [IntKind.wrap_i64]; omega) | (intro hx; omega) | rfl)
        simp only [Act.put, List.setIfInBounds_toArray, List.set_cons_zero, List.set_cons_succ]
        refine qw_run (v := .int .i64 D) (by rfl) ?_ ?_
        · (intro w9 hC; have h0 := hC.1; have h1 := hC.2.1; have h2 := hC.2.2.1; clear hC; go_simp; first | done | (simp; done) | (simp [*]; done) | omega | (simp; omega) | (rw [IntKind.wrap_i64]; omega) | (intro hx; omega) | rfl)
        simp only [Act.put, List.setIfInBounds_toArray, List.set_cons_zero, List.set_cons_succ]
        refine qw_run (v := .bool true) (by rfl) ?_ ?_
        · (intro w9 hC; clear hC; go_simp; first | done | (simp; done) | (simp [*]; done) | omega | (simp; omega) | (rw [IntKind.wrap_i64]; omega) | (intro hx; omega) | rfl)
        simp only [Act.put, List.setIfInBounds_toArray, List.set_cons_zero, List.set_cons_succ]
        refine qw_run (v := .bool true) (by rfl) ?_ ?_
        · (intro w9 hC; clear hC; go_simp; first | done | (simp; done) | (simp [*]; done) | omega | (simp; omega) | (rw [IntKind.wrap_i64]; omega) | (intro hx; omega) | rfl)
        simp only [Act.put, List.setIfInBounds_toArray, List.set_cons_zero, List.set_cons_succ]
        refine qw_skip (by rfl) ?_
        simp only [Act.put, List.setIfInBounds_toArray, List.set_cons_zero, List.set_cons_succ]
        refine qw_skip (by rfl) ?_
        simp only [Act.put, List.setIfInBounds_toArray, List.set_cons_zero, List.set_cons_succ]
        refine qw_skip (by rfl) ?_
        simp only [Act.put, List.setIfInBounds_toArray, List.set_cons_zero, List.set_cons_succ]
        refine qw_skip (by rfl) ?_
        simp only [Act.put, List.setIfInBounds_toArray, List.set_cons_zero, List.set_cons_succ]
        refine qw_skip (by rfl) ?_
        simp only [Act.put, List.setIfInBounds_toArray, List.set_cons_zero, List.set_cons_succ]
        refine qw_skip (by rfl) ?_
        simp only [Act.put, List.setIfInBounds_toArray, List.set_cons_zero, List.set_cons_succ]
        refine qw_skip (by rfl) ?_
        simp only [Act.put, List.setIfInBounds_toArray, List.set_cons_zero, List.set_cons_succ]
        refine qw_run (v := .bool true) (by rfl) ?_ ?_
        · (intro w9 hC; clear hC; go_simp; first | done | (simp; done) | (simp [*]; done) | omega | (simp; omega) | (rw [IntKind.wrap_i64]; omega) | (intro hx; omega) | rfl)
        simp only [Act.put, List.setIfInBounds_toArray, List.set_cons_zero, List.set_cons_succ]
        refine qw_run (v := .bool true) (by rfl) ?_ ?_
        · (intro w9 hC; clear hC; go_simp; first | done | (simp; done) | (simp [*]; done) | omega | (simp; omega) | (rw [IntKind.wrap_i64]; omega) | (intro hx; omega) | rfl)
        simp only [Act.put, List.setIfInBounds_toArray, List.set_cons_zero, List.set_cons_succ]
        refine qw_skip (by rfl) ?_
        simp only [Act.put, List.setIfInBounds_toArray, List.set_cons_zero, List.set_cons_succ]
        refine qw_skip (by rfl) ?_
        simp only [Act.put, List.setIfInBounds_toArray, List.set_cons_zero, List.set_cons_succ]
        refine qw_skip (by rfl) ?_
        simp only [Act.put, List.setIfInBounds_toArray, List.set_cons_zero, List.set_cons_succ]
        refine qw_skip (by rfl) ?_
        simp only [Act.put, List.setIfInBounds_toArray, List.set_cons_zero, List.set_cons_succ]
        refine qw_skip (by rfl) ?_
        simp only [Act.put, List.setIfInBounds_toArray, List.set_cons_zero, List.set_cons_succ]
        refine qw_skip (by rfl) ?_
        simp only [Act.put, List.setIfInBounds_toArray, List.set_cons_zero, List.set_cons_succ]
        refine qw_skip (by rfl) ?_
        simp only [Act.put, List.setIfInBounds_toArray, List.set_cons_zero, List.set_cons_succ]
        refine qw_skip (by rfl) ?_
        simp only [Act.put, List.setIfInBounds_toArray, List.set_cons_zero, List.set_cons_succ]
        refine qw_run (v := .bool true) (by rfl) ?_ ?_
        · (intro w9 hC; clear hC; go_simp; first | done | (simp; done) | (simp [*]; done) | omega | (simp; omega) | (rw [IntKind.wrap_i64]; omega) | (intro hx; omega) | rfl)
        simp only [Act.put, List.setIfInBounds_toArray, List.set_cons_zero, List.set_cons_succ]
        refine qw_nil ?_
        intro w8 hX
        go_wp2
        exact bodyPost_ret (v := .int .i64 28) (by simp [results, Tryd.results26, go_sem]) rfl ⟨rfl, hX.2.2.2⟩
      · refine qw_region (C := fun X => X.cell? ⟨w.heap.size, 0, none⟩ = some (.int .i64 128) ∧ X.cell? ⟨w.heap.size, 1, none⟩ = some (.int .i64 D) ∧ X.cell? ⟨w.heap.size, 2, none⟩ = some (.int .i64 S) ∧ Below w.heap.size w X) (by kernel_rfl) (by kernel_rfl) ⟨HC.out.1, HC.out.2.1, HC.out.2.2, HB.out⟩ ?_
        clear HC HB HQ
        refine qw_run (v := .pointer (some ⟨w.heap.size, 0, none⟩)) (by rfl) ?_ ?_
        · (intro w9 hC; clear hC; go_simp; first | done | (simp; done) | (simp [*]; done) | omega | (simp; omega) | (rw [IntKind.wrap_i64]; omega) | (intro hx; omega) | rfl)
        simp only [Act.put, List.setIfInBounds_toArray, List.set_cons_zero, List.set_cons_succ]
        refine qw_run (v := .pointer (some ⟨w.heap.size, 1, none⟩)) (by rfl) ?_ ?_
        · (intro w9 hC; clear hC; go_simp; first | done | (simp; done) | (simp [*]; done) | omega | (simp; omega) | (rw [IntKind.wrap_i64]; omega) | (intro hx; omega) | rfl)
        simp only [Act.put, List.setIfInBounds_toArray, List.set_cons_zero, List.set_cons_succ]
        refine qw_run (v := .int .i64 D) (by rfl) ?_ ?_
        · (intro w9 hC; have h0 := hC.1; have h1 := hC.2.1; have h2 := hC.2.2.1; clear hC; go_simp; first | done | (simp; done) | (simp [*]; done) | omega | (simp; omega) | (rw [IntKind.wrap_i64]; omega) | (intro hx; omega) | rfl)
        simp only [Act.put, List.setIfInBounds_toArray, List.set_cons_zero, List.set_cons_succ]
        refine qw_run (v := .bool true) (by rfl) ?_ ?_
        · (intro w9 hC; clear hC; go_simp; first | done | (simp; done) | (simp [*]; done) | omega | (simp; omega) | (rw [IntKind.wrap_i64]; omega) | (intro hx; omega) | rfl)
        simp only [Act.put, List.setIfInBounds_toArray, List.set_cons_zero, List.set_cons_succ]
        refine qw_run (v := .bool true) (by rfl) ?_ ?_
        · (intro w9 hC; clear hC; go_simp; first | done | (simp; done) | (simp [*]; done) | omega | (simp; omega) | (rw [IntKind.wrap_i64]; omega) | (intro hx; omega) | rfl)
        simp only [Act.put, List.setIfInBounds_toArray, List.set_cons_zero, List.set_cons_succ]
        refine qw_skip (by rfl) ?_
        simp only [Act.put, List.setIfInBounds_toArray, List.set_cons_zero, List.set_cons_succ]
        refine qw_skip (by rfl) ?_
        simp only [Act.put, List.setIfInBounds_toArray, List.set_cons_zero, List.set_cons_succ]
        refine qw_skip (by rfl) ?_
        simp only [Act.put, List.setIfInBounds_toArray, List.set_cons_zero, List.set_cons_succ]
        refine qw_skip (by rfl) ?_
        simp only [Act.put, List.setIfInBounds_toArray, List.set_cons_zero, List.set_cons_succ]
        refine qw_skip (by rfl) ?_
        simp only [Act.put, List.setIfInBounds_toArray, List.set_cons_zero, List.set_cons_succ]
        refine qw_skip (by rfl) ?_
        simp only [Act.put, List.setIfInBounds_toArray, List.set_cons_zero, List.set_cons_succ]
        refine qw_skip (by rfl) ?_
        simp only [Act.put, List.setIfInBounds_toArray, List.set_cons_zero, List.set_cons_succ]
        refine qw_run (v := .bool true) (by rfl) ?_ ?_
        · (intro w9 hC; clear hC; go_simp; first | done | (simp; done) | (simp [*]; done) | omega | (simp; omega) | (rw [IntKind.wrap_i64]; omega) | (intro hx; omega) | rfl)
        simp only [Act.put, List.setIfInBounds_toArray, List.set_cons_zero, List.set_cons_succ]
        refine qw_run (v := .bool true) (by rfl) ?_ ?_
        · (intro w9 hC; clear hC; go_simp; first | done | (simp; done) | (simp [*]; done) | omega | (simp; omega) | (rw [IntKind.wrap_i64]; omega) | (intro hx; omega) | rfl)
        simp only [Act.put, List.setIfInBounds_toArray, List.set_cons_zero, List.set_cons_succ]
        refine qw_skip (by rfl) ?_
        simp only [Act.put, List.setIfInBounds_toArray, List.set_cons_zero, List.set_cons_succ]
        refine qw_skip (by rfl) ?_
        simp only [Act.put, List.setIfInBounds_toArray, List.set_cons_zero, List.set_cons_succ]
        refine qw_skip (by rfl) ?_
        simp only [Act.put, List.setIfInBounds_toArray, List.set_cons_zero, List.set_cons_succ]
        refine qw_skip (by rfl) ?_
        simp only [Act.put, List.setIfInBounds_toArray, List.set_cons_zero, List.set_cons_succ]
        refine qw_skip (by rfl) ?_
        simp only [Act.put, List.setIfInBounds_toArray, List.set_cons_zero, List.set_cons_succ]
        refine qw_skip (by rfl) ?_
        simp only [Act.put, List.setIfInBounds_toArray, List.set_cons_zero, List.set_cons_succ]
        refine qw_skip (by rfl) ?_
        simp only [Act.put, List.setIfInBounds_toArray, List.set_cons_zero, List.set_cons_succ]
        refine qw_skip (by rfl) ?_
        simp only [Act.put, List.setIfInBounds_toArray, List.set_cons_zero, List.set_cons_succ]
        refine qw_run (v := .bool true) (by rfl) ?_ ?_
        · (intro w9 hC; clear hC; go_simp; first | done | (simp; done) | (simp [*]; done) | omega | (simp; omega) | (rw [IntKind.wrap_i64]; omega) | (intro hx; omega) | rfl)
        simp only [Act.put, List.setIfInBounds_toArray, List.set_cons_zero, List.set_cons_succ]
        refine qw_nil ?_
        intro w8 hX
        go_wp2
        exact bodyPost_ret (v := .int .i64 28) (by simp [results, Tryd.results26, go_sem]) rfl ⟨rfl, hX.2.2.2⟩
    · by_cases hD2 : W < D
      · rw [if_pos (.inr (.inl hD2))]
        clear hE hW
        go_enter Tryd.func26, Tryd.ntmps26
        rcases hW2.out with h | h
        all_goals subst h
        all_goals go_wp2_with fail
        · refine qw_region (C := fun X => X.cell? ⟨w.heap.size, 0, none⟩ = some (.int .i64 32) ∧ X.cell? ⟨w.heap.size, 1, none⟩ = some (.int .i64 D) ∧ X.cell? ⟨w.heap.size, 2, none⟩ = some (.int .i64 S) ∧ Below w.heap.size w X) (by kernel_rfl) (by kernel_rfl) ⟨HC.out.1, HC.out.2.1, HC.out.2.2, HB.out⟩ ?_
          clear HC HB HQ
          refine qw_run (v := .pointer (some ⟨w.heap.size, 0, none⟩)) (by rfl) ?_ ?_
          · (intro w9 hC; clear hC; go_simp; first | done | (simp; done) | (simp [*]; done) | omega | (simp; omega) | (rw [IntKind.wrap_i64]; omega) | (intro hx; omega) | rfl)
          simp only [Act.put, List.setIfInBounds_toArray, List.set_cons_zero, List.set_cons_succ]
          refine qw_run (v := .pointer (some ⟨w.heap.size, 1, none⟩)) (by rfl) ?_ ?_
          · (intro w9 hC; clear hC; go_simp; first | done | (simp; done) | (simp [*]; done) | omega | (simp; omega) | (rw [IntKind.wrap_i64]; omega) | (intro hx; omega) | rfl)
          simp only [Act.put, List.setIfInBounds_toArray, List.set_cons_zero, List.set_cons_succ]
          refine qw_run (v := .int .i64 D) (by rfl) ?_ ?_
          · (intro w9 hC; have h0 := hC.1; have h1 := hC.2.1; have h2 := hC.2.2.1; clear hC; go_simp; first | done | (simp; done) | (simp [*]; done) | omega | (simp; omega) | (rw [IntKind.wrap_i64]; omega) | (intro hx; omega) | rfl)
          simp only [Act.put, List.setIfInBounds_toArray, List.set_cons_zero, List.set_cons_succ]
          refine qw_run (v := .bool false) (by rfl) ?_ ?_
          · (intro w9 hC; clear hC; go_simp; first | done | (simp; done) | (simp [*]; done) | omega | (simp; omega) | (rw [IntKind.wrap_i64]; omega) | (intro hx; omega) | rfl)
          simp only [Act.put, List.setIfInBounds_toArray, List.set_cons_zero, List.set_cons_succ]
          refine qw_run (v := .bool false) (by rfl) ?_ ?_
          · (intro w9 hC; clear hC; go_simp; first | done | (simp; done) | (simp [*]; done) | omega | (simp; omega) | (rw [IntKind.wrap_i64]; omega) | (intro hx; omega) | rfl)
          simp only [Act.put, List.setIfInBounds_toArray, List.set_cons_zero, List.set_cons_succ]
          refine qw_run (v := .pointer (some ⟨w.heap.size, 0, none⟩)) (by rfl) ?_ ?_
          · (intro w9 hC; clear hC; go_simp; first | done | (simp; done) | (simp [*]; done) | omega | (simp; omega) | (rw [IntKind.wrap_i64]; omega) | (intro hx; omega) | rfl)
          simp only [Act.put, List.setIfInBounds_toArray, List.set_cons_zero, List.set_cons_succ]
          refine qw_run (v := .pointer (some ⟨w.heap.size, 1, none⟩)) (by rfl) ?_ ?_
          · (intro w9 hC; clear hC; go_simp; first | done | (simp; done) | (simp [*]; done) | omega | (simp; omega) | (rw [IntKind.wrap_i64]; omega) | (intro hx; omega) | rfl)
          simp only [Act.put, List.setIfInBounds_toArray, List.set_cons_zero, List.set_cons_succ]
          refine qw_run (v := .int .i64 D) (by rfl) ?_ ?_
          · (intro w9 hC; have h0 := hC.1; have h1 := hC.2.1; have h2 := hC.2.2.1; clear hC; go_simp; first | done | (simp; done) | (simp [*]; done) | omega | (simp; omega) | (rw [IntKind.wrap_i64]; omega) | (intro hx; omega) | rfl)
          simp only [Act.put, List.setIfInBounds_toArray, List.set_cons_zero, List.set_cons_succ]
          refine qw_run (v := .pointer (some ⟨w.heap.size, 0, none⟩)) (by rfl) ?_ ?_
          · (intro w9 hC; clear hC; go_simp; first | done | (simp; done) | (simp [*]; done) | omega | (simp; omega) | (rw [IntKind.wrap_i64]; omega) | (intro hx; omega) | rfl)
          simp only [Act.put, List.setIfInBounds_toArray, List.set_cons_zero, List.set_cons_succ]
          refine qw_run (v := .pointer (some ⟨w.heap.size, 0, none⟩)) (by rfl) ?_ ?_
          · (intro w9 hC; clear hC; go_simp; first | done | (simp; done) | (simp [*]; done) | omega | (simp; omega) | (rw [IntKind.wrap_i64]; omega) | (intro hx; omega) | rfl)
          simp only [Act.put, List.setIfInBounds_toArray, List.set_cons_zero, List.set_cons_succ]
          refine qw_run (v := .int .i64 32) (by rfl) ?_ ?_
          · (intro w9 hC; have h0 := hC.1; have h1 := hC.2.1; have h2 := hC.2.2.1; clear hC; go_simp; first | done | (simp; done) | (simp [*]; done) | omega | (simp; omega) | (rw [IntKind.wrap_i64]; omega) | (intro hx; omega) | rfl)
          simp only [Act.put, List.setIfInBounds_toArray, List.set_cons_zero, List.set_cons_succ]
          refine qw_run (v := .bool true) (by rfl) ?_ ?_
          · (intro w9 hC; clear hC; go_simp; first | done | (simp; done) | (simp [*]; done) | omega | (simp; omega) | (rw [IntKind.wrap_i64]; omega) | (intro hx; omega) | rfl)
          simp only [Act.put, List.setIfInBounds_toArray, List.set_cons_zero, List.set_cons_succ]
          refine qw_run (v := .bool true) (by rfl) ?_ ?_
          · (intro w9 hC; clear hC; go_simp; first | done | (simp; done) | (simp [*]; done) | omega | (simp; omega) | (rw [IntKind.wrap_i64]; omega) | (intro hx; omega) | rfl)
          simp only [Act.put, List.setIfInBounds_toArray, List.set_cons_zero, List.set_cons_succ]
          refine qw_run (v := .bool true) (by rfl) ?_ ?_
          · (intro w9 hC; clear hC; go_simp; first | done | (simp; done) | (simp [*]; done) | omega | (simp; omega) | (rw [IntKind.wrap_i64]; omega) | (intro hx; omega) | rfl)
          simp only [Act.put, List.setIfInBounds_toArray, List.set_cons_zero, List.set_cons_succ]
          refine qw_skip (by rfl) ?_
          simp only [Act.put, List.setIfInBounds_toArray, List.set_cons_zero, List.set_cons_succ]
          refine qw_skip (by rfl) ?_
          simp only [Act.put, List.setIfInBounds_toArray, List.set_cons_zero, List.set_cons_succ]
          refine qw_skip (by rfl) ?_
          simp only [Act.put, List.setIfInBounds_toArray, List.set_cons_zero, List.set_cons_succ]
          refine qw_skip (by rfl) ?_
          simp only [Act.put, List.setIfInBounds_toArray, List.set_cons_zero, List.set_cons_succ]
          refine qw_skip (by rfl) ?_
          simp only [Act.put, List.setIfInBounds_toArray, List.set_cons_zero, List.set_cons_succ]
          refine qw_skip (by rfl) ?_
          simp only [Act.put, List.setIfInBounds_toArray, List.set_cons_zero, List.set_cons_succ]
          refine qw_skip (by rfl) ?_
          simp only [Act.put, List.setIfInBounds_toArray, List.set_cons_zero, List.set_cons_succ]
          refine qw_skip (by rfl) ?_
          simp only [Act.put, List.setIfInBounds_toArray, List.set_cons_zero, List.set_cons_succ]
          refine qw_run (v := .bool true) (by rfl) ?_ ?_
          · (intro w9 hC; clear hC; go_simp; first | done | (simp; done) | (simp [*]; done) | omega | (simp; omega) | (rw [IntKind.wrap_i64]; omega) | (intro hx; omega) | rfl)
          simp only [Act.put, List.setIfInBounds_toArray, List.set_cons_zero, List.set_cons_succ]
          refine qw_nil ?_
          intro w8 hX
          go_wp2
          exact bodyPost_ret (v := .int .i64 28) (by simp [results, Tryd.results26, go_sem]) rfl ⟨rfl, hX.2.2.2⟩
        · refine qw_region (C := fun X => X.cell? ⟨w.heap.size, 0, none⟩ = some (.int .i64 128) ∧ X.cell? ⟨w.heap.size, 1, none⟩ = some (.int .i64 D) ∧ X.cell? ⟨w.heap.size, 2, none⟩ = some (.int .i64 S) ∧ Below w.heap.size w X) (by kernel_rfl) (by kernel_rfl) ⟨HC.out.1, HC.out.2.1, HC.out.2.2, HB.out⟩ ?_
          clear HC HB HQ
          refine qw_run (v := .pointer (some ⟨w.heap.size, 0, none⟩)) (by rfl) ?_ ?_
          · (intro w9 hC; clear hC; go_simp; first | done | (simp; done) | (simp [*]; done) | omega | (simp; omega) | (rw [IntKind.wrap_i64]; omega) | (intro hx; omega) | rfl)
          simp only [Act.put, List.setIfInBounds_toArray, List.set_cons_zero, List.set_cons_succ]
          refine qw_run (v := .pointer (some ⟨w.heap.size, 1, none⟩)) (by rfl) ?_ ?_
          · (intro w9 hC; clear hC; go_simp; first | done | (simp; done) | (simp [*]; done) | omega | (simp; omega) | (rw [IntKind.wrap_i64]; omega) | (intro hx; omega) | rfl)
          simp only [Act.put, List.setIfInBounds_toArray, List.set_cons_zero, List.set_cons_succ]
          refine qw_run (v := .int .i64 D) (by rfl) ?_ ?_
          · (intro w9 hC; have h0 := hC.1; have h1 := hC.2.1; have h2 := hC.2.2.1; clear hC; go_simp; first | done | (simp; done) | (simp [*]; done) | omega | (simp; omega) | (rw [IntKind.wrap_i64]; omega) | (intro hx; omega) | rfl)
          simp only [Act.put, List.setIfInBounds_toArray, List.set_cons_zero, List.set_cons_succ]
          refine qw_run (v := .bool false) (by rfl) ?_ ?_
          · (intro w9 hC; clear hC; go_simp; first | done | (simp; done) | (simp [*]; done) | omega | (simp; omega) | (rw [IntKind.wrap_i64]; omega) | (intro hx; omega) | rfl)
          simp only [Act.put, List.setIfInBounds_toArray, List.set_cons_zero, List.set_cons_succ]
          refine qw_run (v := .bool false) (by rfl) ?_ ?_
          · (intro w9 hC; clear hC; go_simp; first | done | (simp; done) | (simp [*]; done) | omega | (simp; omega) | (rw [IntKind.wrap_i64]; omega) | (intro hx; omega) | rfl)
          simp only [Act.put, List.setIfInBounds_toArray, List.set_cons_zero, List.set_cons_succ]
          refine qw_run (v := .pointer (some ⟨w.heap.size, 0, none⟩)) (by rfl) ?_ ?_
          · (intro w9 hC; clear hC; go_simp; first | done | (simp; done) | (simp [*]; done) | omega | (simp; omega) | (rw [IntKind.wrap_i64]; omega) | (intro hx; omega) | rfl)
          simp only [Act.put, List.setIfInBounds_toArray, List.set_cons_zero, List.set_cons_succ]
          refine qw_run (v := .pointer (some ⟨w.heap.size, 1, none⟩)) (by rfl) ?_ ?_
          · (intro w9 hC; clear hC; go_simp; first | done | (simp; done) | (simp [*]; done) | omega | (simp; omega) | (rw [IntKind.wrap_i64]; omega) | (intro hx; omega) | rfl)
          simp only [Act.put, List.setIfInBounds_toArray, List.set_cons_zero, List.set_cons_succ]
          refine qw_run (v := .int .i64 D) (by rfl) ?_ ?_
          · (intro w9 hC; have h0 := hC.1; have h1 := hC.2.1; have h2 := hC.2.2.1; clear hC; go_simp; first | done | (simp; done) | (simp [*]; done) | omega | (simp; omega) | (rw [IntKind.wrap_i64]; omega) | (intro hx; omega) | rfl)
          simp only [Act.put, List.setIfInBounds_toArray, List.set_cons_zero, List.set_cons_succ]
          refine qw_run (v := .pointer (some ⟨w.heap.size, 0, none⟩)) (by rfl) ?_ ?_
          · (intro w9 hC; clear hC; go_simp; first | done | (simp; done) | (simp [*]; done) | omega | (simp; omega) | (rw [IntKind.wrap_i64]; omega) | (intro hx; omega) | rfl)
          simp only [Act.put, List.setIfInBounds_toArray, List.set_cons_zero, List.set_cons_succ]
          refine qw_run (v := .pointer (some ⟨w.heap.size, 0, none⟩)) (by rfl) ?_ ?_
          · (intro w9 hC; clear hC; go_simp; first | done | (simp; done) | (simp [*]; done) | omega | (simp; omega) | (rw [IntKind.wrap_i64]; omega) | (intro hx; omega) | rfl)
          simp only [Act.put, List.setIfInBounds_toArray, List.set_cons_zero, List.set_cons_succ]
          refine qw_run (v := .int .i64 128) (by rfl) ?_ ?_
          · (intro w9 hC; have h0 := hC.1; have h1 := hC.2.1; have h2 := hC.2.2.1; clear hC; go_simp; first | done | (simp; done) | (simp [*]; done) | omega | (simp; omega) | (rw [IntKind.wrap_i64]; omega) | (intro hx; omega) | rfl)
          simp only [Act.put, List.setIfInBounds_toArray, List.set_cons_zero, List.set_cons_succ]
          refine qw_run (v := .bool true) (by rfl) ?_ ?_
          · (intro w9 hC; clear hC; go_simp; first | done | (simp; done) | (simp [*]; done) | omega | (simp; omega) | (rw [IntKind.wrap_i64]; omega) | (intro hx; omega) | rfl)
          simp only [Act.put, List.setIfInBounds_toArray, List.set_cons_zero, List.set_cons_succ]
          refine qw_run (v := .bool true) (by rfl) ?_ ?_
          · (intro w9 hC; clear hC; go_simp; first | done | (simp; done) | (simp [*]; done) | omega | (simp; omega) | (rw [IntKind.wrap_i64]; omega) | (intro hx; omega) | rfl)
          simp only [Act.put, List.setIfInBounds_toArray, List.set_cons_zero, List.set_cons_succ]
          refine qw_run (v := .bool true) (by rfl) ?_ ?_
          · (intro w9 hC; clear hC; go_simp; first | done | (simp; done) | (simp [*]; done) | omega | (simp; omega) | (rw [IntKind.wrap_i64]; omega) | (intro hx; omega) | rfl)
          simp only [Act.put, List.setIfInBounds_toArray, List.set_cons_zero, List.set_cons_succ]
          refine qw_skip (by rfl) ?_
          simp only [Act.put, List.setIfInBounds_toArray, List.set_cons_zero, List.set_cons_succ]
          refine qw_skip (by rfl) ?_
          simp only [Act.put, List.setIfInBounds_toArray, List.set_cons_zero, List.set_cons_succ]
          refine qw_skip (by rfl) ?_
          simp only [Act.put, List.setIfInBounds_toArray, List.set_cons_zero, List.set_cons_succ]
          refine qw_skip (by rfl) ?_
          simp only [Act.put, List.setIfInBounds_toArray, List.set_cons_zero, List.set_cons_succ]
          refine qw_skip (by rfl) ?_
          simp only [Act.put, List.setIfInBounds_toArray, List.set_cons_zero, List.set_cons_succ]
          refine qw_skip (by rfl) ?_
          simp only [Act.put, List.setIfInBounds_toArray, List.set_cons_zero, List.set_cons_succ]
          refine qw_skip (by rfl) ?_
          simp only [Act.put, List.setIfInBounds_toArray, List.set_cons_zero, List.set_cons_succ]
          refine qw_skip (by rfl) ?_
          simp only [Act.put, List.setIfInBounds_toArray, List.set_cons_zero, List.set_cons_succ]
          refine qw_run (v := .bool true) (by rfl) ?_ ?_
          · (intro w9 hC; clear hC; go_simp; first | done | (simp; done) | (simp [*]; done) | omega | (simp; omega) | (rw [IntKind.wrap_i64]; omega) | (intro hx; omega) | rfl)
          simp only [Act.put, List.setIfInBounds_toArray, List.set_cons_zero, List.set_cons_succ]
          refine qw_nil ?_
          intro w8 hX
          go_wp2
          exact bodyPost_ret (v := .int .i64 28) (by simp [results, Tryd.results26, go_sem]) rfl ⟨rfl, hX.2.2.2⟩
      · obtain ⟨m, hm⟩ : ∃ m, m = max 1 (3 * D) := ⟨_, rfl⟩
        have KS := fun w => stepsOf_any D (by omega) (by have := hW2.out; omega) w
        rw [← hm] at KS hE ⊢
        by_cases hS : S = m
        · rw [if_neg (by omega)]
          have HS := hid13 hS
          clear hE hW hS hm
          go_enter Tryd.func26, Tryd.ntmps26
          rcases hW2.out with h | h
          all_goals subst h
          all_goals go_wp2_with fail
          · refine qw_region (C := fun X => X.cell? ⟨w.heap.size, 0, none⟩ = some (.int .i64 32) ∧ X.cell? ⟨w.heap.size, 1, none⟩ = some (.int .i64 D) ∧ X.cell? ⟨w.heap.size, 2, none⟩ = some (.int .i64 S) ∧ Below w.heap.size w X) (by kernel_rfl) (by kernel_rfl) ⟨HC.out.1, HC.out.2.1, HC.out.2.2, HB.out⟩ ?_
            clear HC HB HQ
            refine qw_run (v := .pointer (some ⟨w.heap.size, 0, none⟩)) (by rfl) ?_ ?_
            · (intro w9 hC; clear hC; go_simp; first | done | (simp; done) | (simp [*]; done) | omega | (simp; omega) | (rw [IntKind.wrap_i64]; omega) | (intro hx; omega) | rfl)
            simp only [Act.put, List.setIfInBounds_toArray, List.set_cons_zero, List.set_cons_succ]
            refine qw_run (v := .pointer (some ⟨w.heap.size, 1, none⟩)) (by rfl) ?_ ?_
            · (intro w9 hC; clear hC; go_simp; first | done | (simp; done) | (simp [*]; done) | omega | (simp; omega) | (rw [IntKind.wrap_i64]; omega) | (intro hx; omega) | rfl)
            simp only [Act.put, List.setIfInBounds_toArray, List.set_cons_zero, List.set_cons_succ]
            refine qw_run (v := .int .i64 D) (by rfl) ?_ ?_
            · (intro w9 hC; have h0 := hC.1; have h1 := hC.2.1; have h2 := hC.2.2.1; clear hC; go_simp; first | done | (simp; done) | (simp [*]; done) | omega | (simp; omega) | (rw [IntKind.wrap_i64]; omega) | (intro hx; omega) | rfl)
            simp only [Act.put, List.setIfInBounds_toArray, List.set_cons_zero, List.set_cons_succ]
            refine qw_run (v := .bool false) (by rfl) ?_ ?_
            · (intro w9 hC; clear hC; go_simp; first | done | (simp; done) | (simp [*]; done) | omega | (simp; omega) | (rw [IntKind.wrap_i64]; omega) | (intro hx; omega) | rfl)
            simp only [Act.put, List.setIfInBounds_toArray, List.set_cons_zero, List.set_cons_succ]
            refine qw_run (v := .bool false) (by rfl) ?_ ?_
            · (intro w9 hC; clear hC; go_simp; first | done | (simp; done) | (simp [*]; done) | omega | (simp; omega) | (rw [IntKind.wrap_i64]; omega) | (intro hx; omega) | rfl)
            simp only [Act.put, List.setIfInBounds_toArray, List.set_cons_zero, List.set_cons_succ]
            refine qw_run (v := .pointer (some ⟨w.heap.size, 0, none⟩)) (by rfl) ?_ ?_
            · (intro w9 hC; clear hC; go_simp; first | done | (simp; done) | (simp [*]; done) | omega | (simp; omega) | (rw [IntKind.wrap_i64]; omega) | (intro hx; omega) | rfl)
            simp only [Act.put, List.setIfInBounds_toArray, List.set_cons_zero, List.set_cons_succ]
            refine qw_run (v := .pointer (some ⟨w.heap.size, 1, none⟩)) (by rfl) ?_ ?_
            · (intro w9 hC; clear hC; go_simp; first | done | (simp; done) | (simp [*]; done) | omega | (simp; omega) | (rw [IntKind.wrap_i64]; omega) | (intro hx; omega) | rfl)
            simp only [Act.put, List.setIfInBounds_toArray, List.set_cons_zero, List.set_cons_succ]
            refine qw_run (v := .int .i64 D) (by rfl) ?_ ?_
            · (intro w9 hC; have h0 := hC.1; have h1 := hC.2.1; have h2 := hC.2.2.1; clear hC; go_simp; first | done | (simp; done) | (simp [*]; done) | omega | (simp; omega) | (rw [IntKind.wrap_i64]; omega) | (intro hx; omega) | rfl)
            simp only [Act.put, List.setIfInBounds_toArray, List.set_cons_zero, List.set_cons_succ]
            refine qw_run (v := .pointer (some ⟨w.heap.size, 0, none⟩)) (by rfl) ?_ ?_
            · (intro w9 hC; clear hC; go_simp; first | done | (simp; done) | (simp [*]; done) | omega | (simp; omega) | (rw [IntKind.wrap_i64]; omega) | (intro hx; omega) | rfl)
            simp only [Act.put, List.setIfInBounds_toArray, List.set_cons_zero, List.set_cons_succ]
            refine qw_run (v := .pointer (some ⟨w.heap.size, 0, none⟩)) (by rfl) ?_ ?_
            · (intro w9 hC; clear hC; go_simp; first | done | (simp; done) | (simp [*]; done) | omega | (simp; omega) | (rw [IntKind.wrap_i64]; omega) | (intro hx; omega) | rfl)
            simp only [Act.put, List.setIfInBounds_toArray, List.set_cons_zero, List.set_cons_succ]
            refine qw_run (v := .int .i64 32) (by rfl) ?_ ?_
            · (intro w9 hC; have h0 := hC.1; have h1 := hC.2.1; have h2 := hC.2.2.1; clear hC; go_simp; first | done | (simp; done) | (simp [*]; done) | omega | (simp; omega) | (rw [IntKind.wrap_i64]; omega) | (intro hx; omega) | rfl)
            simp only [Act.put, List.setIfInBounds_toArray, List.set_cons_zero, List.set_cons_succ]
            refine qw_run (v := .bool false) (by rfl) ?_ ?_
            · (intro w9 hC; clear hC; go_simp; first | done | (simp; done) | (simp [*]; done) | omega | (simp; omega) | (rw [IntKind.wrap_i64]; omega) | (intro hx; omega) | rfl)
            simp only [Act.put, List.setIfInBounds_toArray, List.set_cons_zero, List.set_cons_succ]
            refine qw_run (v := .bool false) (by rfl) ?_ ?_
            · (intro w9 hC; clear hC; go_simp; first | done | (simp; done) | (simp [*]; done) | omega | (simp; omega) | (rw [IntKind.wrap_i64]; omega) | (intro hx; omega) | rfl)
            simp only [Act.put, List.setIfInBounds_toArray, List.set_cons_zero, List.set_cons_succ]
            refine qw_run (v := .bool false) (by rfl) ?_ ?_
            · (intro w9 hC; clear hC; go_simp; first | done | (simp; done) | (simp [*]; done) | omega | (simp; omega) | (rw [IntKind.wrap_i64]; omega) | (intro hx; omega) | rfl)
            simp only [Act.put, List.setIfInBounds_toArray, List.set_cons_zero, List.set_cons_succ]
            refine qw_run (v := .pointer (some ⟨w.heap.size, 0, none⟩)) (by rfl) ?_ ?_
            · (intro w9 hC; clear hC; go_simp; first | done | (simp; done) | (simp [*]; done) | omega | (simp; omega) | (rw [IntKind.wrap_i64]; omega) | (intro hx; omega) | rfl)
            simp only [Act.put, List.setIfInBounds_toArray, List.set_cons_zero, List.set_cons_succ]
            refine qw_run (v := .pointer (some ⟨w.heap.size, 2, none⟩)) (by rfl) ?_ ?_
            · (intro w9 hC; clear hC; go_simp; first | done | (simp; done) | (simp [*]; done) | omega | (simp; omega) | (rw [IntKind.wrap_i64]; omega) | (intro hx; omega) | rfl)
            simp only [Act.put, List.setIfInBounds_toArray, List.set_cons_zero, List.set_cons_succ]
            refine qw_run (v := .int .i64 S) (by rfl) ?_ ?_
            · (intro w9 hC; have h0 := hC.1; have h1 := hC.2.1; have h2 := hC.2.2.1; clear hC; go_simp; first | done | (simp; done) | (simp [*]; done) | omega | (simp; omega) | (rw [IntKind.wrap_i64]; omega) | (intro hx; omega) | rfl)
            simp only [Act.put, List.setIfInBounds_toArray, List.set_cons_zero, List.set_cons_succ]
            refine qw_run (v := .pointer (some ⟨w.heap.size, 0, none⟩)) (by rfl) ?_ ?_
            · (intro w9 hC; clear hC; go_simp; first | done | (simp; done) | (simp [*]; done) | omega | (simp; omega) | (rw [IntKind.wrap_i64]; omega) | (intro hx; omega) | rfl)
            simp only [Act.put, List.setIfInBounds_toArray, List.set_cons_zero, List.set_cons_succ]
            refine qw_run (v := .pointer (some ⟨w.heap.size, 1, none⟩)) (by rfl) ?_ ?_
            · (intro w9 hC; clear hC; go_simp; first | done | (simp; done) | (simp [*]; done) | omega | (simp; omega) | (rw [IntKind.wrap_i64]; omega) | (intro hx; omega) | rfl)
            simp only [Act.put, List.setIfInBounds_toArray, List.set_cons_zero, List.set_cons_succ]
            refine qw_run (v := .int .i64 D) (by rfl) ?_ ?_
            · (intro w9 hC; have h0 := hC.1; have h1 := hC.2.1; have h2 := hC.2.2.1; clear hC; go_simp; first | done | (simp; done) | (simp [*]; done) | omega | (simp; omega) | (rw [IntKind.wrap_i64]; omega) | (intro hx; omega) | rfl)
            simp only [Act.put, List.setIfInBounds_toArray, List.set_cons_zero, List.set_cons_succ]
            refine qw_call (v := .int .i64 m) (f := 43) (args := #[.int .i64 D]) (by rfl) ?_ ?_ ?_
            · (intro w9 hC; clear hC; go_simp; first | done | (simp; done) | rfl)
            · exact fun w9 hC => (KS w9).mono fun e w' ⟨he, hb⟩ => ⟨he, by rw [hb]; exact hC⟩
            simp only [Act.put, List.setIfInBounds_toArray, List.set_cons_zero, List.set_cons_succ]
            refine qw_run (v := .bool false) (by rfl) ?_ ?_
            · (intro w9 hC; have hS := HS.out; clear hC; go_simp; first | done | (simp; done) | (simp [*]; done) | omega | (simp; omega) | (rw [IntKind.wrap_i64]; omega) | (intro hx; omega) | rfl)
            simp only [Act.put, List.setIfInBounds_toArray, List.set_cons_zero, List.set_cons_succ]
            refine qw_run (v := .bool false) (by rfl) ?_ ?_
            · (intro w9 hC; clear hC; go_simp; first | done | (simp; done) | (simp [*]; done) | omega | (simp; omega) | (rw [IntKind.wrap_i64]; omega) | (intro hx; omega) | rfl)
            simp only [Act.put, List.setIfInBounds_toArray, List.set_cons_zero, List.set_cons_succ]
            refine qw_nil ?_
            intro w8 hX
            go_wp2
            exact bodyPost_ret (v := .int .i64 0) (by simp [results, Tryd.results26, go_sem]) rfl ⟨rfl, hX.2.2.2⟩
          · refine qw_region (C := fun X => X.cell? ⟨w.heap.size, 0, none⟩ = some (.int .i64 128) ∧ X.cell? ⟨w.heap.size, 1, none⟩ = some (.int .i64 D) ∧ X.cell? ⟨w.heap.size, 2, none⟩ = some (.int .i64 S) ∧ Below w.heap.size w X) (by kernel_rfl) (by kernel_rfl) ⟨HC.out.1, HC.out.2.1, HC.out.2.2, HB.out⟩ ?_
            clear HC HB HQ
            refine qw_run (v := .pointer (some ⟨w.heap.size, 0, none⟩)) (by rfl) ?_ ?_
            · (intro w9 hC; clear hC; go_simp; first | done | (simp; done) | (simp [*]; done) | omega | (simp; omega) | (rw [IntKind.wrap_i64]; omega) | (intro hx; omega) | rfl)
            simp only [Act.put, List.setIfInBounds_toArray, List.set_cons_zero, List.set_cons_succ]
            refine qw_run (v := .pointer (some ⟨w.heap.size, 1, none⟩)) (by rfl) ?_ ?_
            · (intro w9 hC; clear hC; go_simp; first | done | (simp; done) | (simp [*]; done) | omega | (simp; omega) | (rw [IntKind.wrap_i64]; omega) | (intro hx; omega) | rfl)
            simp only [Act.put, List.setIfInBounds_toArray, List.set_cons_zero, List.set_cons_succ]
            refine qw_run (v := .int .i64 D) (by rfl) ?_ ?_
            · (intro w9 hC; have h0 := hC.1; have h1 := hC.2.1; have h2 := hC.2.2.1; clear hC; go_simp; first | done | (simp; done) | (simp [*]; done) | omega | (simp; omega) | (rw [IntKind.wrap_i64]; omega) | (intro hx; omega) | rfl)
            simp only [Act.put, List.setIfInBounds_toArray, List.set_cons_zero, List.set_cons_succ]
            refine qw_run (v := .bool false) (by rfl) ?_ ?_
            · (intro w9 hC; clear hC; go_simp; first | done | (simp; done) | (simp [*]; done) | omega | (simp; omega) | (rw [IntKind.wrap_i64]; omega) | (intro hx; omega) | rfl)
            simp only [Act.put, List.setIfInBounds_toArray, List.set_cons_zero, List.set_cons_succ]
            refine qw_run (v := .bool false) (by rfl) ?_ ?_
            · (intro w9 hC; clear hC; go_simp; first | done | (simp; done) | (simp [*]; done) | omega | (simp; omega) | (rw [IntKind.wrap_i64]; omega) | (intro hx; omega) | rfl)
            simp only [Act.put, List.setIfInBounds_toArray, List.set_cons_zero, List.set_cons_succ]
            refine qw_run (v := .pointer (some ⟨w.heap.size, 0, none⟩)) (by rfl) ?_ ?_
            · (intro w9 hC; clear hC; go_simp; first | done | (simp; done) | (simp [*]; done) | omega | (simp; omega) | (rw [IntKind.wrap_i64]; omega) | (intro hx; omega) | rfl)
            simp only [Act.put, List.setIfInBounds_toArray, List.set_cons_zero, List.set_cons_succ]
            refine qw_run (v := .pointer (some ⟨w.heap.size, 1, none⟩)) (by rfl) ?_ ?_
            · (intro w9 hC; clear hC; go_simp; first | done | (simp; done) | (simp [*]; done) | omega | (simp; omega) | (rw [IntKind.wrap_i64]; omega) | (intro hx; omega) | rfl)
            simp only [Act.put, List.setIfInBounds_toArray, List.set_cons_zero, List.set_cons_succ]
            refine qw_run (v := .int .i64 D) (by rfl) ?_ ?_
            · (intro w9 hC; have h0 := hC.1; have h1 := hC.2.1; have h2 := hC.2.2.1; clear hC; go_simp; first | done | (simp; done) | (simp [*]; done) | omega | (simp; omega) | (rw [IntKind.wrap_i64]; omega) | (intro hx; omega) | rfl)
            simp only [Act.put, List.setIfInBounds_toArray, List.set_cons_zero, List.set_cons_succ]
            refine qw_run (v := .pointer (some ⟨w.heap.size, 0, none⟩)) (by rfl) ?_ ?_
            · (intro w9 hC; clear hC; go_simp; first | done | (simp; done) | (simp [*]; done) | omega | (simp; omega) | (rw [IntKind.wrap_i64]; omega) | (intro hx; omega) | rfl)
            simp only [Act.put, List.setIfInBounds_toArray, List.set_cons_zero, List.set_cons_succ]
            refine qw_run (v := .pointer (some ⟨w.heap.size, 0, none⟩)) (by rfl) ?_ ?_
            · (intro w9 hC; clear hC; go_simp; first | done | (simp; done) | (simp [*]; done) | omega | (simp; omega) | (rw [IntKind.wrap_i64]; omega) | (intro hx; omega) | rfl)
            simp only [Act.put, List.setIfInBounds_toArray, List.set_cons_zero, List.set_cons_succ]
            refine qw_run (v := .int .i64 128) (by rfl) ?_ ?_
            · (intro w9 hC; have h0 := hC.1; have h1 := hC.2.1; have h2 := hC.2.2.1; clear hC; go_simp; first | done | (simp; done) | (simp [*]; done) | omega | (simp; omega) | (rw [IntKind.wrap_i64]; omega) | (intro hx; omega) | rfl)
            simp only [Act.put, List.setIfInBounds_toArray, List.set_cons_zero, List.set_cons_succ]
            refine qw_run (v := .bool false) (by rfl) ?_ ?_
            · (intro w9 hC; clear hC; go_simp; first | done | (simp; done) | (simp [*]; done) | omega | (simp; omega) | (rw [IntKind.wrap_i64]; omega) | (intro hx; omega) | rfl)
            simp only [Act.put, List.setIfInBounds_toArray, List.set_cons_zero, List.set_cons_succ]
            refine qw_run (v := .bool false) (by rfl) ?_ ?_
            · (intro w9 hC; clear hC; go_simp; first | done | (simp; done) | (simp [*]; done) | omega | (simp; omega) | (rw [IntKind.wrap_i64]; omega) | (intro hx; omega) | rfl)
            simp only [Act.put, List.setIfInBounds_toArray, List.set_cons_zero, List.set_cons_succ]
            refine qw_run (v := .bool false) (by rfl) ?_ ?_
            · (intro w9 hC; clear hC; go_simp; first | done | (simp; done) | (simp [*]; done) | omega | (simp; omega) | (rw [IntKind.wrap_i64]; omega) | (intro hx; omega) | rfl)
            simp only [Act.put, List.setIfInBounds_toArray, List.set_cons_zero, List.set_cons_succ]
            refine qw_run (v := .pointer (some ⟨w.heap.size, 0, none⟩)) (by rfl) ?_ ?_
            · (intro w9 hC; clear hC; go_simp; first | done | (simp; done) | (simp [*]; done) | omega | (simp; omega) | (rw [IntKind.wrap_i64]; omega) | (intro hx; omega) | rfl)
            simp only [Act.put, List.setIfInBounds_toArray, List.set_cons_zero, List.set_cons_succ]
            refine qw_run (v := .pointer (some ⟨w.heap.size, 2, none⟩)) (by rfl) ?_ ?_
            · (intro w9 hC; clear hC; go_simp; first | done | (simp; done) | (simp [*]; done) | omega | (simp; omega) | (rw [IntKind.wrap_i64]; omega) | (intro hx; omega) | rfl)
            simp only [Act.put, List.setIfInBounds_toArray, List.set_cons_zero, List.set_cons_succ]
            refine qw_run (v := .int .i64 S) (by rfl) ?_ ?_
            · (intro w9 hC; have h0 := hC.1; have h1 := hC.2.1; have h2 := hC.2.2.1; clear hC; go_simp; first | done | (simp; done) | (simp [*]; done) | omega | (simp; omega) | (rw [IntKind.wrap_i64]; omega) | (intro hx; omega) | rfl)
            simp only [Act.put, List.setIfInBounds_toArray, List.set_cons_zero, List.set_cons_succ]
            refine qw_run (v := .pointer (some ⟨w.heap.size, 0, none⟩)) (by rfl) ?_ ?_
            · (intro w9 hC; clear hC; go_simp; first | done | (simp; done) | (simp [*]; done) | omega | (simp; omega) | (rw [IntKind.wrap_i64]; omega) | (intro hx; omega) | rfl)
            simp only [Act.put, List.setIfInBounds_toArray, List.set_cons_zero, List.set_cons_succ]
            refine qw_run (v := .pointer (some ⟨w.heap.size, 1, none⟩)) (by rfl) ?_ ?_
            · (intro w9 hC; clear hC; go_simp; first | done | (simp; done) | (simp [*]; done) | omega | (simp; omega) | (rw [IntKind.wrap_i64]; omega) | (intro hx; omega) | rfl)
            simp only [Act.put, List.setIfInBounds_toArray, List.set_cons_zero, List.set_cons_succ]
            refine qw_run (v := .int .i64 D) (by rfl) ?_ ?_
            · (intro w9 hC; have h0 := hC.1; have h1 := hC.2.1; have h2 := hC.2.2.1; clear hC; go_simp; first | done | (simp; done) | (simp [*]; done) | omega | (simp; omega) | (rw [IntKind.wrap_i64]; omega) | (intro hx; omega) | rfl)
            simp only [Act.put, List.setIfInBounds_toArray, List.set_cons_zero, List.set_cons_succ]
            refine qw_call (v := .int .i64 m) (f := 43) (args := #[.int .i64 D]) (by rfl) ?_ ?_ ?_
            · (intro w9 hC; clear hC; go_simp; first | done | (simp; done) | rfl)
            · exact fun w9 hC => (KS w9).mono fun e w' ⟨he, hb⟩ => ⟨he, by rw [hb]; exact hC⟩
            simp only [Act.put, List.setIfInBounds_toArray, List.set_cons_zero, List.set_cons_succ]
            refine qw_run (v := .bool false) (by rfl) ?_ ?_
            · (intro w9 hC; have hS := HS.out; clear hC; go_simp; first | done | (simp; done) | (simp [*]; done) | omega | (simp; omega) | (rw [IntKind.wrap_i64]; omega) | (intro hx; omega) | rfl)
            simp only [Act.put, List.setIfInBounds_toArray, List.set_cons_zero, List.set_cons_succ]
            refine qw_run (v := .bool false) (by rfl) ?_ ?_
            · (intro w9 hC; clear hC; go_simp; first | done | (simp; done) | (simp [*]; done) | omega | (simp; omega) | (rw [IntKind.wrap_i64]; omega) | (intro hx; omega) | rfl)
            simp only [Act.put, List.setIfInBounds_toArray, List.set_cons_zero, List.set_cons_succ]
            refine qw_nil ?_
            intro w8 hX
            go_wp2
            exact bodyPost_ret (v := .int .i64 0) (by simp [results, Tryd.results26, go_sem]) rfl ⟨rfl, hX.2.2.2⟩
        · rw [if_pos (.inr (.inr hS))]
          clear hE hW hm
          go_enter Tryd.func26, Tryd.ntmps26
          rcases hW2.out with h | h
          all_goals subst h
          all_goals go_wp2_with fail
          · refine qw_region (C := fun X => X.cell? ⟨w.heap.size, 0, none⟩ = some (.int .i64 32) ∧ X.cell? ⟨w.heap.size, 1, none⟩ = some (.int .i64 D) ∧ X.cell? ⟨w.heap.size, 2, none⟩ = some (.int .i64 S) ∧ Below w.heap.size w X) (by kernel_rfl) (by kernel_rfl) ⟨HC.out.1, HC.out.2.1, HC.out.2.2, HB.out⟩ ?_
            clear HC HB HQ
            refine qw_run (v := .pointer (some ⟨w.heap.size, 0, none⟩)) (by rfl) ?_ ?_
            · (intro w9 hC; clear hC; go_simp; first | done | (simp; done) | (simp [*]; done) | omega | (simp; omega) | (rw [IntKind.wrap_i64]; omega) | (intro hx; omega) | rfl)
            simp only [Act.put, List.setIfInBounds_toArray, List.set_cons_zero, List.set_cons_succ]
            refine qw_run (v := .pointer (some ⟨w.heap.size, 1, none⟩)) (by rfl) ?_ ?_
            · (intro w9 hC; clear hC; go_simp; first | done | (simp; done) | (simp [*]; done) | omega | (simp; omega) | (rw [IntKind.wrap_i64]; omega) | (intro hx; omega) | rfl)
            simp only [Act.put, List.setIfInBounds_toArray, List.set_cons_zero, List.set_cons_succ]
            refine qw_run (v := .int .i64 D) (by rfl) ?_ ?_
            · (intro w9 hC; have h0 := hC.1; have h1 := hC.2.1; have h2 := hC.2.2.1; clear hC; go_simp; first | done | (simp; done) | (simp [*]; done) | omega | (simp; omega) | (rw [IntKind.wrap_i64]; omega) | (intro hx; omega) | rfl)
            simp only [Act.put, List.setIfInBounds_toArray, List.set_cons_zero, List.set_cons_succ]
            refine qw_run (v := .bool false) (by rfl) ?_ ?_
            · (intro w9 hC; clear hC; go_simp; first | done | (simp; done) | (simp [*]; done) | omega | (simp; omega) | (rw [IntKind.wrap_i64]; omega) | (intro hx; omega) | rfl)
            simp only [Act.put, List.setIfInBounds_toArray, List.set_cons_zero, List.set_cons_succ]
            refine qw_run (v := .bool false) (by rfl) ?_ ?_
            · (intro w9 hC; clear hC; go_simp; first | done | (simp; done) | (simp [*]; done) | omega | (simp; omega) | (rw [IntKind.wrap_i64]; omega) | (intro hx; omega) | rfl)
            simp only [Act.put, List.setIfInBounds_toArray, List.set_cons_zero, List.set_cons_succ]
            refine qw_run (v := .pointer (some ⟨w.heap.size, 0, none⟩)) (by rfl) ?_ ?_
            · (intro w9 hC; clear hC; go_simp; first | done | (simp; done) | (simp [*]; done) | omega | (simp; omega) | (rw [IntKind.wrap_i64]; omega) | (intro hx; omega) | rfl)
            simp only [Act.put, List.setIfInBounds_toArray, List.set_cons_zero, List.set_cons_succ]
            refine qw_run (v := .pointer (some ⟨w.heap.size, 1, none⟩)) (by rfl) ?_ ?_
            · (intro w9 hC; clear hC; go_simp; first | done | (simp; done) | (simp [*]; done) | omega | (simp; omega) | (rw [IntKind.wrap_i64]; omega) | (intro hx; omega) | rfl)
            simp only [Act.put, List.setIfInBounds_toArray, List.set_cons_zero, List.set_cons_succ]
            refine qw_run (v := .int .i64 D) (by rfl) ?_ ?_
            · (intro w9 hC; have h0 := hC.1; have h1 := hC.2.1; have h2 := hC.2.2.1; clear hC; go_simp; first | done | (simp; done) | (simp [*]; done) | omega | (simp; omega) | (rw [IntKind.wrap_i64]; omega) | (intro hx; omega) | rfl)
            simp only [Act.put, List.setIfInBounds_toArray, List.set_cons_zero, List.set_cons_succ]
            refine qw_run (v := .pointer (some ⟨w.heap.size, 0, none⟩)) (by rfl) ?_ ?_
            · (intro w9 hC; clear hC; go_simp; first | done | (simp; done) | (simp [*]; done) | omega | (simp; omega) | (rw [IntKind.wrap_i64]; omega) | (intro hx; omega) | rfl)
            simp only [Act.put, List.setIfInBounds_toArray, List.set_cons_zero, List.set_cons_succ]
            refine qw_run (v := .pointer (some ⟨w.heap.size, 0, none⟩)) (by rfl) ?_ ?_
            · (intro w9 hC; clear hC; go_simp; first | done | (simp; done) | (simp [*]; done) | omega | (simp; omega) | (rw [IntKind.wrap_i64]; omega) | (intro hx; omega) | rfl)
            simp only [Act.put, List.setIfInBounds_toArray, List.set_cons_zero, List.set_cons_succ]
            refine qw_run (v := .int .i64 32) (by rfl) ?_ ?_
            · (intro w9 hC; have h0 := hC.1; have h1 := hC.2.1; have h2 := hC.2.2.1; clear hC; go_simp; first | done | (simp; done) | (simp [*]; done) | omega | (simp; omega) | (rw [IntKind.wrap_i64]; omega) | (intro hx; omega) | rfl)
            simp only [Act.put, List.setIfInBounds_toArray, List.set_cons_zero, List.set_cons_succ]
            refine qw_run (v := .bool false) (by rfl) ?_ ?_
            · (intro w9 hC; clear hC; go_simp; first | done | (simp; done) | (simp [*]; done) | omega | (simp; omega) | (rw [IntKind.wrap_i64]; omega) | (intro hx; omega) | rfl)
            simp only [Act.put, List.setIfInBounds_toArray, List.set_cons_zero, List.set_cons_succ]
            refine qw_run (v := .bool false) (by rfl) ?_ ?_
            · (intro w9 hC; clear hC; go_simp; first | done | (simp; done) | (simp [*]; done) | omega | (simp; omega) | (rw [IntKind.wrap_i64]; omega) | (intro hx; omega) | rfl)
            simp only [Act.put, List.setIfInBounds_toArray, List.set_cons_zero, List.set_cons_succ]
            refine qw_run (v := .bool false) (by rfl) ?_ ?_
            · (intro w9 hC; clear hC; go_simp; first | done | (simp; done) | (simp [*]; done) | omega | (simp; omega) | (rw [IntKind.wrap_i64]; omega) | (intro hx; omega) | rfl)
            simp only [Act.put, List.setIfInBounds_toArray, List.set_cons_zero, List.set_cons_succ]
            refine qw_run (v := .pointer (some ⟨w.heap.size, 0, none⟩)) (by rfl) ?_ ?_
            · (intro w9 hC; clear hC; go_simp; first | done | (simp; done) | (simp [*]; done) | omega | (simp; omega) | (rw [IntKind.wrap_i64]; omega) | (intro hx; omega) | rfl)
            simp only [Act.put, List.setIfInBounds_toArray, List.set_cons_zero, List.set_cons_succ]
            refine qw_run (v := .pointer (some ⟨w.heap.size, 2, none⟩)) (by rfl) ?_ ?_
            · (intro w9 hC; clear hC; go_simp; first | done | (simp; done) | (simp [*]; done) | omega | (simp; omega) | (rw [IntKind.wrap_i64]; omega) | (intro hx; omega) | rfl)
            simp only [Act.put, List.setIfInBounds_toArray, List.set_cons_zero, List.set_cons_succ]
            refine qw_run (v := .int .i64 S) (by rfl) ?_ ?_
            · (intro w9 hC; have h0 := hC.1; have h1 := hC.2.1; have h2 := hC.2.2.1; clear hC; go_simp; first | done | (simp; done) | (simp [*]; done) | omega | (simp; omega) | (rw [IntKind.wrap_i64]; omega) | (intro hx; omega) | rfl)
            simp only [Act.put, List.setIfInBounds_toArray, List.set_cons_zero, List.set_cons_succ]
            refine qw_run (v := .pointer (some ⟨w.heap.size, 0, none⟩)) (by rfl) ?_ ?_
            · (intro w9 hC; clear hC; go_simp; first | done | (simp; done) | (simp [*]; done) | omega | (simp; omega) | (rw [IntKind.wrap_i64]; omega) | (intro hx; omega) | rfl)
            simp only [Act.put, List.setIfInBounds_toArray, List.set_cons_zero, List.set_cons_succ]
            refine qw_run (v := .pointer (some ⟨w.heap.size, 1, none⟩)) (by rfl) ?_ ?_
            · (intro w9 hC; clear hC; go_simp; first | done | (simp; done) | (simp [*]; done) | omega | (simp; omega) | (rw [IntKind.wrap_i64]; omega) | (intro hx; omega) | rfl)
            simp only [Act.put, List.setIfInBounds_toArray, List.set_cons_zero, List.set_cons_succ]
            refine qw_run (v := .int .i64 D) (by rfl) ?_ ?_
            · (intro w9 hC; have h0 := hC.1; have h1 := hC.2.1; have h2 := hC.2.2.1; clear hC; go_simp; first | done | (simp; done) | (simp [*]; done) | omega | (simp; omega) | (rw [IntKind.wrap_i64]; omega) | (intro hx; omega) | rfl)
            simp only [Act.put, List.setIfInBounds_toArray, List.set_cons_zero, List.set_cons_succ]
            refine qw_call (v := .int .i64 m) (f := 43) (args := #[.int .i64 D]) (by rfl) ?_ ?_ ?_
            · (intro w9 hC; clear hC; go_simp; first | done | (simp; done) | rfl)
            · exact fun w9 hC => (KS w9).mono fun e w' ⟨he, hb⟩ => ⟨he, by rw [hb]; exact hC⟩
            simp only [Act.put, List.setIfInBounds_toArray, List.set_cons_zero, List.set_cons_succ]
            refine qw_run (v := .bool true) (by rfl) ?_ ?_
            · (intro w9 hC; clear hC; go_simp; first | done | (simp; done) | (simp [*]; done) | omega | (simp; omega) | (rw [IntKind.wrap_i64]; omega) | (intro hx; omega) | rfl)
            simp only [Act.put, List.setIfInBounds_toArray, List.set_cons_zero, List.set_cons_succ]
            refine qw_run (v := .bool true) (by rfl) ?_ ?_
            · (intro w9 hC; clear hC; go_simp; first | done | (simp; done) | (simp [*]; done) | omega | (simp; omega) | (rw [IntKind.wrap_i64]; omega) | (intro hx; omega) | rfl)
            simp only [Act.put, List.setIfInBounds_toArray, List.set_cons_zero, List.set_cons_succ]
            refine qw_nil ?_
            intro w8 hX
            go_wp2
            exact bodyPost_ret (v := .int .i64 28) (by simp [results, Tryd.results26, go_sem]) rfl ⟨rfl, hX.2.2.2⟩
          · refine qw_region (C := fun X => X.cell? ⟨w.heap.size, 0, none⟩ = some (.int .i64 128) ∧ X.cell? ⟨w.heap.size, 1, none⟩ = some (.int .i64 D) ∧ X.cell? ⟨w.heap.size, 2, none⟩ = some (.int .i64 S) ∧ Below w.heap.size w X) (by kernel_rfl) (by kernel_rfl) ⟨HC.out.1, HC.out.2.1, HC.out.2.2, HB.out⟩ ?_
            clear HC HB HQ
            refine qw_run (v := .pointer (some ⟨w.heap.size, 0, none⟩)) (by rfl) ?_ ?_
            · (intro w9 hC; clear hC; go_simp; first | done | (simp; done) | (simp [*]; done) | omega | (simp; omega) | (rw [IntKind.wrap_i64]; omega) | (intro hx; omega) | rfl)
            simp only [Act.put, List.setIfInBounds_toArray, List.set_cons_zero, List.set_cons_succ]
            refine qw_run (v := .pointer (some ⟨w.heap.size, 1, none⟩)) (by rfl) ?_ ?_
            · (intro w9 hC; clear hC; go_simp; first | done | (simp; done) | (simp [*]; done) | omega | (simp; omega) | (rw [IntKind.wrap_i64]; omega) | (intro hx; omega) | rfl)
            simp only [Act.put, List.setIfInBounds_toArray, List.set_cons_zero, List.set_cons_succ]
            refine qw_run (v := .int .i64 D) (by rfl) ?_ ?_
            · (intro w9 hC; have h0 := hC.1; have h1 := hC.2.1; have h2 := hC.2.2.1; clear hC; go_simp; first | done | (simp; done) | (simp [*]; done) | omega | (simp; omega) | (rw [IntKind.wrap_i64]; omega) | (intro hx; omega) | rfl)
            simp only [Act.put, List.setIfInBounds_toArray, List.set_cons_zero, List.set_cons_succ]
            refine qw_run (v := .bool false) (by rfl) ?_ ?_
            · (intro w9 hC; clear hC; go_simp; first | done | (simp; done) | (simp [*]; done) | omega | (simp; omega) | (rw [IntKind.wrap_i64]; omega) | (intro hx; omega) | rfl)
            simp only [Act.put, List.setIfInBounds_toArray, List.set_cons_zero, List.set_cons_succ]
            refine qw_run (v := .bool false) (by rfl) ?_ ?_
            · (intro w9 hC; clear hC; go_simp; first | done | (simp; done) | (simp [*]; done) | omega | (simp; omega) | (rw [IntKind.wrap_i64]; omega) | (intro hx; omega) | rfl)
            simp only [Act.put, List.setIfInBounds_toArray, List.set_cons_zero, List.set_cons_succ]
            refine qw_run (v := .pointer (some ⟨w.heap.size, 0, none⟩)) (by rfl) ?_ ?_
            · (intro w9 hC; clear hC; go_simp; first | done | (simp; done) | (simp [*]; done) | omega | (simp; omega) | (rw [IntKind.wrap_i64]; omega) | (intro hx; omega) | rfl)
            simp only [Act.put, List.setIfInBounds_toArray, List.set_cons_zero, List.set_cons_succ]
            refine qw_run (v := .pointer (some ⟨w.heap.size, 1, none⟩)) (by rfl) ?_ ?_
            · (intro w9 hC; clear hC; go_simp; first | done | (simp; done) | (simp [*]; done) | omega | (simp; omega) | (rw [IntKind.wrap_i64]; omega) | (intro hx; omega) | rfl)
            simp only [Act.put, List.setIfInBounds_toArray, List.set_cons_zero, List.set_cons_succ]
            refine qw_run (v := .int .i64 D) (by rfl) ?_ ?_
            · (intro w9 hC; have h0 := hC.1; have h1 := hC.2.1; have h2 := hC.2.2.1; clear hC; go_simp; first | done | (simp; done) | (simp [*]; done) | omega | (simp; omega) | (rw [IntKind.wrap_i64]; omega) | (intro hx; omega) | rfl)
            simp only [Act.put, List.setIfInBounds_toArray, List.set_cons_zero, List.set_cons_succ]
            refine qw_run (v := .pointer (some ⟨w.heap.size, 0, none⟩)) (by rfl) ?_ ?_
            · (intro w9 hC; clear hC; go_simp; first | done | (simp; done) | (simp [*]; done) | omega | (simp; omega) | (rw [IntKind.wrap_i64]; omega) | (intro hx; omega) | rfl)
            simp only [Act.put, List.setIfInBounds_toArray, List.set_cons_zero, List.set_cons_succ]
            refine qw_run (v := .pointer (some ⟨w.heap.size, 0, none⟩)) (by rfl) ?_ ?_
            · (intro w9 hC; clear hC; go_simp; first | done | (simp; done) | (simp [*]; done) | omega | (simp; omega) | (rw [IntKind.wrap_i64]; omega) | (intro hx; omega) | rfl)
            simp only [Act.put, List.setIfInBounds_toArray, List.set_cons_zero, List.set_cons_succ]
            refine qw_run (v := .int .i64 128) (by rfl) ?_ ?_
            · (intro w9 hC; have h0 := hC.1; have h1 := hC.2.1; have h2 := hC.2.2.1; clear hC; go_simp; first | done | (simp; done) | (simp [*]; done) | omega | (simp; omega) | (rw [IntKind.wrap_i64]; omega) | (intro hx; omega) | rfl)
            simp only [Act.put, List.setIfInBounds_toArray, List.set_cons_zero, List.set_cons_succ]
            refine qw_run (v := .bool false) (by rfl) ?_ ?_
            · (intro w9 hC; clear hC; go_simp; first | done | (simp; done) | (simp [*]; done) | omega | (simp; omega) | (rw [IntKind.wrap_i64]; omega) | (intro hx; omega) | rfl)
            simp only [Act.put, List.setIfInBounds_toArray, List.set_cons_zero, List.set_cons_succ]
            refine qw_run (v := .bool false) (by rfl) ?_ ?_
            · (intro w9 hC; clear hC; go_simp; first | done | (simp; done) | (simp [*]; done) | omega | (simp; omega) | (rw [IntKind.wrap_i64]; omega) | (intro hx; omega) | rfl)
            simp only [Act.put, List.setIfInBounds_toArray, List.set_cons_zero, List.set_cons_succ]
            refine qw_run (v := .bool false) (by rfl) ?_ ?_
            · (intro w9 hC; clear hC; go_simp; first | done | (simp; done) | (simp [*]; done) | omega | (simp; omega) | (rw [IntKind.wrap_i64]; omega) | (intro hx; omega) | rfl)
            simp only [Act.put, List.setIfInBounds_toArray, List.set_cons_zero, List.set_cons_succ]
            refine qw_run (v := .pointer (some ⟨w.heap.size, 0, none⟩)) (by rfl) ?_ ?_
            · (intro w9 hC; clear hC; go_simp; first | done | (simp; done) | (simp [*]; done) | omega | (simp; omega) | (rw [IntKind.wrap_i64]; omega) | (intro hx; omega) | rfl)
            simp only [Act.put, List.setIfInBounds_toArray, List.set_cons_zero, List.set_cons_succ]
            refine qw_run (v := .pointer (some ⟨w.heap.size, 2, none⟩)) (by rfl) ?_ ?_
            · (intro w9 hC; clear hC; go_simp; first | done | (simp; done) | (simp [*]; done) | omega | (simp; omega) | (rw [IntKind.wrap_i64]; omega) | (intro hx; omega) | rfl)
            simp only [Act.put, List.setIfInBounds_toArray, List.set_cons_zero, List.set_cons_succ]
            refine qw_run (v := .int .i64 S) (by rfl) ?_ ?_
            · (intro w9 hC; have h0 := hC.1; have h1 := hC.2.1; have h2 := hC.2.2.1; clear hC; go_simp; first | done | (simp; done) | (simp [*]; done) | omega | (simp; omega) | (rw [IntKind.wrap_i64]; omega) | (intro hx; omega) | rfl)
            simp only [Act.put, List.setIfInBounds_toArray, List.set_cons_zero, List.set_cons_succ]
            refine qw_run (v := .pointer (some ⟨w.heap.size, 0, none⟩)) (by rfl) ?_ ?_
            · (intro w9 hC; clear hC; go_simp; first | done | (simp; done) | (simp [*]; done) | omega | (simp; omega) | (rw [IntKind.wrap_i64]; omega) | (intro hx; omega) | rfl)
            simp only [Act.put, List.setIfInBounds_toArray, List.set_cons_zero, List.set_cons_succ]
            refine qw_run (v := .pointer (some ⟨w.heap.size, 1, none⟩)) (by rfl) ?_ ?_
            · (intro w9 hC; clear hC; go_simp; first | done | (simp; done) | (simp [*]; done) | omega | (simp; omega) | (rw [IntKind.wrap_i64]; omega) | (intro hx; omega) | rfl)
            simp only [Act.put, List.setIfInBounds_toArray, List.set_cons_zero, List.set_cons_succ]
            refine qw_run (v := .int .i64 D) (by rfl) ?_ ?_
            · (intro w9 hC; have h0 := hC.1; have h1 := hC.2.1; have h2 := hC.2.2.1; clear hC; go_simp; first | done | (simp; done) | (simp [*]; done) | omega | (simp; omega) | (rw [IntKind.wrap_i64]; omega) | (intro hx; omega) | rfl)
            simp only [Act.put, List.setIfInBounds_toArray, List.set_cons_zero, List.set_cons_succ]
            refine qw_call (v := .int .i64 m) (f := 43) (args := #[.int .i64 D]) (by rfl) ?_ ?_ ?_
            · (intro w9 hC; clear hC; go_simp; first | done | (simp; done) | rfl)
            · exact fun w9 hC => (KS w9).mono fun e w' ⟨he, hb⟩ => ⟨he, by rw [hb]; exact hC⟩
            simp only [Act.put, List.setIfInBounds_toArray, List.set_cons_zero, List.set_cons_succ]
            refine qw_run (v := .bool true) (by rfl) ?_ ?_
            · (intro w9 hC; clear hC; go_simp; first | done | (simp; done) | (simp [*]; done) | omega | (simp; omega) | (rw [IntKind.wrap_i64]; omega) | (intro hx; omega) | rfl)
            simp only [Act.put, List.setIfInBounds_toArray, List.set_cons_zero, List.set_cons_succ]
            refine qw_run (v := .bool true) (by rfl) ?_ ?_
            · (intro w9 hC; clear hC; go_simp; first | done | (simp; done) | (simp [*]; done) | omega | (simp; omega) | (rw [IntKind.wrap_i64]; omega) | (intro hx; omega) | rfl)
            simp only [Act.put, List.setIfInBounds_toArray, List.set_cons_zero, List.set_cons_succ]
            refine qw_nil ?_
            intro w8 hX
            go_wp2
            exact bodyPost_ret (v := .int .i64 28) (by simp [results, Tryd.results26, go_sem]) rfl ⟨rfl, hX.2.2.2⟩

theorem tooLong_any (W D S n : Int) (w : World) :
    Calls Tryd.prog 27 #[.agg #[.int .i64 W, .int .i64 D, .int .i64 S, .int .i64 n]] w fun e w' => e = .returned (.bool (decide (1048572 < n))) ∧ Below w.heap.size w w' := by
  have q1 := bl1 w (.cells #[.int .i64 W, .int .i64 D, .int .i64 S, .int .i64 n] 46)
  have HQ := hid13 q1
  clear q1
  go_enter Tryd.func27, Tryd.ntmps27
  go_wp2
  exact bodyPost_ret (v := .bool (decide (1048572 < n))) (by simp [results, Tryd.results27, go_sem]) rfl ⟨rfl, HQ.out⟩
theorem hsize_any (W D S n : Int) (hn : 0 ≤ n) (hn1 : n ≤ 4294967296) (w : World) :
    Calls Tryd.prog 28 #[.agg #[.int .i64 W, .int .i64 D, .int .i64 S, .int .i64 n]] w fun e w' => e = .returned (.int .i64 (16 + n * 4)) ∧ Below w.heap.size w w' := by
  have q1 := bl1 w (.cells #[.int .i64 W, .int .i64 D, .int .i64 S, .int .i64 n] 46)
  have HQ := hid13 q1
  clear q1
  go_enter Tryd.func28, Tryd.ntmps28
  go_wp2
  exact bodyPost_ret (v := .int .i64 (16 + n * 4)) (by simp [results, Tryd.results28, go_sem]) rfl ⟨rfl, HQ.out⟩
theorem joined_any (a b : BitVec 32) (n : Int) (h0 : 0 ≤ n) (hn : n ≤ 9223372036854775807) (w : World) :
    Calls Tryd.prog 30 #[.int .u32 (uI a), .int .u32 (uI b), .int .i64 n] w fun e w' => e = .returned (.int .u32 (uI (hbN (8 * n.toNat) a ^^^ b))) ∧ w' = w := by
  have K := join_any a b n hn w
  unfold jnU at K
  rw [if_neg (by omega)] at K
  generalize uI (hbN (8 * n.toNat) a ^^^ b) = z at *
  generalize jnE n = y at *
  go_enter Tryd.func30, Tryd.ntmps30
  go_wp2_with fail
  refine K.mono ?_
  rintro e w2 ⟨rfl, rfl⟩
  go_wp2
  exact bodyPost_ret (v := .int .u32 z) (by simp [results, Tryd.results30, go_sem]) rfl ⟨rfl, rfl⟩
end Go.Proofs.YtjgpbahglkaijaaDoor
