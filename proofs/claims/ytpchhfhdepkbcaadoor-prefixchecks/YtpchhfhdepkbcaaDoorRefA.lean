/-
  What the calls of turnpikeref2's IsFamily, Right, Last, one, Next and Prev do.
-/
import Derived.Test.YtpchhfhdepkbcaaDoorAdrC
import Derived.Test.YtpchhfhdepkbcaaDoorRefW3
import Derived.Test.YtpchhfhdepkbcaaDoorQt
namespace Go.Proofs.YtpchhfhdepkbcaaDoor
open Go.RowKit
set_option linter.unusedSimpArgs false
set_option linter.unusedVariables false

theorem isFamily_any (F : Int) (w : World) :
    Calls Tryd.prog 50 #[.int .i64 F] w fun e w' => e = .returned (.bool (fam F)) ∧ w' = w := by
  unfold fam
  by_cases h1 : F = 32
  · subst h1
    go_enter Tryd.func50, Tryd.ntmps50
    go_wp2
    go_ret
    exact ⟨rfl, rfl⟩
  · have b1 : (F == 32) = false := by simp [h1]
    have b2 : (F == 128) = decide (F = 128) := by rw [Bool.eq_iff_iff]; simp
    rw [show decide (F = 32) = false by simp [h1], Bool.false_or]
    go_enter Tryd.func50, Tryd.ntmps50
    go_wp2
    go_ret
    exact ⟨rfl, rfl⟩

theorem put0K (i : Int) (w : World) (h0 : 0 ≤ i) (h1 : i ≤ 127) :
    Calls Tryd.prog 52 #[.agg #[.int .u64 0, .int .u64 0], .int .i64 i, .int .i64 1] w fun e w' => e = .returned (.agg #[.int .u64 (hI (putW 0#128 i 1)), .int .u64 (lI (putW 0#128 i 1))]) ∧ Below w.heap.size w w' := by
  have h := put_any 0#128 i 1 w (Or.inr rfl) h0 h1
  rw [hI_zero, lI_zero] at h
  exact h
theorem three (y x : BitVec 128) : ((hI y == hI x) = true ∧ (lI y == lI x) = true ∧ y = x) ∨ ((hI y == hI x) = false ∧ ¬ y = x) ∨ ((hI y == hI x) = true ∧ (lI y == lI x) = false ∧ ¬ y = x) := by
  by_cases e : y = x
  · exact Or.inl ⟨by simp [e], by simp [e], e⟩
  · by_cases e1 : hI y = hI x
    · exact Or.inr (Or.inr ⟨by simp [e1], by simp; exact fun e2 => e (eq_ints e1 e2), e⟩)
    · exact Or.inr (Or.inl ⟨by simp [e1], e⟩)
theorem three0 (y : BitVec 128) : ((hI y == 0) = true ∧ (lI y == 0) = true ∧ y = 0#128) ∨ ((hI y == 0) = false ∧ ¬ y = 0#128) ∨ ((hI y == 0) = true ∧ (lI y == 0) = false ∧ ¬ y = 0#128) := by
  have h := three y 0#128
  rw [hI_zero, lI_zero] at h; exact h

set_option maxHeartbeats 1000000 in
theorem rright_any (F : Int) (x : BitVec 128) (w : World) :
    Calls Tryd.prog 13 #[.int .i64 F, .agg #[.int .u64 (hI x), .int .u64 (lI x)]] w fun e w' => e = .returned (.int .i64 (rightE F x)) ∧ Below w.heap.size w w' := by
  have KI := fun w => isFamily_any F w
  unfold rightE
  cases h : fam F
  · rw [if_neg (by simp)]
    rw [h] at KI
    go_enter Tryd.func13, Tryd.ntmps13
    go_wp2_with fail
    refine (KI _).mono ?_
    rintro e w1 ⟨rfl, rfl⟩
    clear KI
    go_wp2
    go_ret
    exact ⟨rfl, bl1 _ _⟩
  · rw [if_pos rfl]
    rw [h] at KI
    have ha := and_not_mask F x
    have KA := fun w => rand_any x (~~~(maskW F)) w
    generalize x &&& ~~~(maskW F) = y at *
    have fin : ∀ (v : Int), v = (if x &&& maskW F = x then 0 else 6) → ((hI y == 0) = true ∧ (lI y == 0) = true ∧ v = 0 ∨ (hI y == 0) = false ∧ v = 6 ∨ (hI y == 0) = true ∧ (lI y == 0) = false ∧ v = 6) := by
      intro v hv
      rcases three0 y with ⟨a, b, c⟩ | ⟨a, c⟩ | ⟨a, b, c⟩
      · rw [if_pos (ha.mp c)] at hv; exact Or.inl ⟨a, b, hv⟩
      · rw [if_neg (fun q => c (ha.mpr q))] at hv; exact Or.inr (Or.inl ⟨a, hv⟩)
      · rw [if_neg (fun q => c (ha.mpr q))] at hv; exact Or.inr (Or.inr ⟨a, b, hv⟩)
    clear ha h
    generalize (if x &&& maskW F = x then (0 : Int) else 6) = v at *
    rcases fin v rfl with ⟨q1, q2, rfl⟩ | ⟨q1, rfl⟩ | ⟨q1, q2, rfl⟩
    all_goals
      clear fin
      go_enter Tryd.func13, Tryd.ntmps13
      go_wp2_with fail
      refine (KI _).mono ?_
      rintro e w1 ⟨rfl, rfl⟩
      clear KI
      have kB := (bl1 w (.cells #[.int .u64 (hI x), .int .u64 (lI x)] 24)).drew
      go_wp2_with fail
      go_region_held3 (fun w' => w'.cell? ⟨w.heap.size, 0, none⟩ = some (.int .u64 (hI x)) ∧ w'.cell? ⟨w.heap.size, 1, none⟩ = some (.int .u64 (lI x)) ∧ Below w.heap.size w w')
        (first
          | (obtain ⟨k1, k2, k9⟩ := ‹_ ∧ _›; exact ⟨keepc hb4 k1, keepc hb4 k2, keepb hb4 k9⟩)
          | (obtain ⟨k1, k2, k9⟩ := ‹_ ∧ _›; exact ⟨keepc hb3 k1, keepc hb3 k2, keepb hb3 k9⟩)
          | (obtain ⟨k1, k2, k9⟩ := ‹_ ∧ _›; exact ⟨keepc hb2 k1, keepc hb2 k2, keepb hb2 k9⟩)
          | exact ⟨by simp [go_sem], by simp [go_sem], kB⟩)
        (first
          | (go_at_call 16; refine (rmask_any _ _).mono ?_; rintro e w2 ⟨rfl, hb2⟩)
          | (go_at_call 51; refine (rnot_any _ _).mono ?_; rintro e w3 ⟨rfl, hb3⟩)
          | (go_at_call 15; refine (KA _).mono ?_; rintro e w4 ⟨rfl, hb4⟩))
      obtain ⟨-, -, kB3⟩ := ‹_ ∧ _›
      go_wp2
      go_ret
      exact ⟨rfl, kB3⟩
end Go.Proofs.YtpchhfhdepkbcaaDoor
