/-
  What each call of Field and With of package word does, where there is no such stretch and where there is one.
-/
import Derived.Test.YtkahilfklgobpabRefF
namespace Go.Proofs.Ytkahilfklgobpab
open Go.RowKit
set_option linter.unusedSimpArgs false
set_option linter.unusedVariables false

theorem fitB_f {f n : Int} (h : fitB f n = false) : f < 0 ∨ (0 ≤ f ∧ 128 < f) ∨ (0 ≤ f ∧ f ≤ 128 ∧ n < 0) ∨ (0 ≤ f ∧ f ≤ 128 ∧ 0 ≤ n ∧ 128 - f < n) := by
  unfold fitB at h; simp at h; omega

set_option maxHeartbeats 1000000 in
theorem field_out (x : BitVec 128) (f n : Int) (w : World) (h : fitB f n = false) :
    Calls Try.prog 22 #[.agg #[.int .u64 (hI x), .int .u64 (lI x)], .int .i64 f, .int .i64 n] w fun e w' => e = .returned (.tuple #[.agg #[.int .u64 0, .int .u64 0], .int .i64 1]) ∧ Below w.heap.size w w' := by
  rcases fitB_f h with h0 | ⟨h0, h1⟩ | ⟨h0, h1, h2⟩ | ⟨h0, h1, h2, h3⟩
  all_goals
    clear h
    go_enter Try.func22, Try.ntmps22
    go_wp2
    exact bodyPost_ret (v := .tuple #[.agg #[.int .u64 0, .int .u64 0], .int .i64 1]) (by simp [results, Try.results22, go_sem]) rfl ⟨rfl, ((bl2 _ _ _).alloc (by simp; omega) _).alloc (by simp; omega) _⟩

set_option maxHeartbeats 1000000 in
theorem with_out (x v : BitVec 128) (f n : Int) (w : World) (h : fitB f n = false) :
    Calls Try.prog 21 #[.agg #[.int .u64 (hI x), .int .u64 (lI x)], .int .i64 f, .int .i64 n, .agg #[.int .u64 (hI v), .int .u64 (lI v)]] w fun e w' => e = .returned (.tuple #[.agg #[.int .u64 0, .int .u64 0], .int .i64 1]) ∧ Below w.heap.size w w' := by
  rcases fitB_f h with h0 | ⟨h0, h1⟩ | ⟨h0, h1, h2⟩ | ⟨h0, h1, h2, h3⟩
  all_goals
    clear h
    go_enter Try.func21, Try.ntmps21
    go_wp2
    exact bodyPost_ret (v := .tuple #[.agg #[.int .u64 0, .int .u64 0], .int .i64 1]) (by simp [results, Try.results21, go_sem]) rfl ⟨rfl, ((bl3 _ _ _ _).alloc (by simp; omega) _).alloc (by simp; omega) _⟩

theorem not_zero (z : BitVec 128) (h : ¬ z = 0#128) : ¬ hI z = 0 ∨ (hI z = 0 ∧ ¬ lI z = 0) := by
  by_cases a : hI z = 0
  · refine Or.inr ⟨a, fun b => h ?_⟩
    apply eq_ints
    · rw [a, hI_zero]
    · rw [b, lI_zero]
  · exact Or.inl a

set_option maxHeartbeats 1000000 in
theorem with_wide (x v : BitVec 128) (f n : Int) (w : World) (h : fitB f n = true) (hv : ¬ v >>> n.toNat = 0#128) :
    Calls Try.prog 21 #[.agg #[.int .u64 (hI x), .int .u64 (lI x)], .int .i64 f, .int .i64 n, .agg #[.int .u64 (hI v), .int .u64 (lI v)]] w fun e w' => e = .returned (.tuple #[.agg #[.int .u64 0, .int .u64 0], .int .i64 6]) ∧ Below w.heap.size w w' := by
  obtain ⟨h0, h1, h2, h3⟩ := fitB_t h
  have hz := not_zero _ hv
  clear h hv
  go_enter Try.func21, Try.ntmps21
  go_wp2_with (first | (go_at_call 18; refine (shr_any _ _ _).mono ?_) | go_in)
  rintro e w2 ⟨rfl, hb⟩
  have e0 : w2.cell? ⟨w.heap.size + 1 + 1, 0, none⟩ = some (.int .u64 0) := keepc hb (by simp [go_sem])
  have e1 : w2.cell? ⟨w.heap.size + 1 + 1, 1, none⟩ = some (.int .u64 0) := keepc hb (by simp [go_sem])
  have e2 : w2.frozen? ⟨w.heap.size + 1 + 1, 0, none⟩ = false := keepf hb (v := .int .u64 0) (by simp [go_sem]) (by simp [go_sem])
  have e3 : w2.frozen? ⟨w.heap.size + 1 + 1, 1, none⟩ = false := keepf hb (v := .int .u64 0) (by simp [go_sem]) (by simp [go_sem])
  have kB : Below w.heap.size w w2 := keepb hb (((bl3 _ _ _ _).alloc (by simp; omega) _).alloc (by simp; omega) _)
  clear hb
  rcases hz with hz | ⟨hz, hz2⟩
  all_goals
    go_wp2
    exact bodyPost_ret (v := .tuple #[.agg #[.int .u64 0, .int .u64 0], .int .i64 6]) (by simp [results, Try.results21, go_sem, e0, e1]) rfl ⟨rfl, (kB.setCell (by simp; omega) _).setCell (by simp; omega) _⟩

end Go.Proofs.Ytkahilfklgobpab
