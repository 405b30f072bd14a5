/-
  The law WordLogic, walked.
-/
import Derived.Test.YtkahilfklgobpaaKnown
namespace Go.Proofs.Ytkahilfklgobpaa
open Go.RowKit
set_option linter.unusedSimpArgs false
set_option linter.unusedVariables false

set_option maxHeartbeats 4000000 in
theorem wordLogic_any (x y : BitVec 128) (n : Int) (w : World) :
    Calls Try.prog 4 #[.agg #[.int .u64 (hI x), .int .u64 (lI x)], .agg #[.int .u64 (hI y), .int .u64 (lI y)], .int .i64 n] w fun e w' => e = .returned (.bool true) ∧ Below w.heap.size w w' := by
  have hbl := fun o p => (bl2 w o p).drew
  go_enter Try.func4, Try.ntmps4
  go_wp2
  go_region_held3 (fun w' => w'.cell? ⟨w.heap.size, 0, none⟩ = some (.int .u64 (hI x)) ∧ w'.cell? ⟨w.heap.size, 1, none⟩ = some (.int .u64 (lI x)) ∧ w'.cell? ⟨w.heap.size + 1, 0, none⟩ = some (.int .u64 (hI y)) ∧ w'.cell? ⟨w.heap.size + 1, 1, none⟩ = some (.int .u64 (lI y)) ∧ Below w.heap.size w w')
    (first
      | (obtain ⟨k1, k2, k3, k4, k9⟩ := ‹_ ∧ _›; exact ⟨keepc hb13 k1, keepc hb13 k2, keepc hb13 k3, keepc hb13 k4, keepb hb13 k9⟩)
      | (obtain ⟨k1, k2, k3, k4, k9⟩ := ‹_ ∧ _›; exact ⟨keepc hb12 k1, keepc hb12 k2, keepc hb12 k3, keepc hb12 k4, keepb hb12 k9⟩)
      | (obtain ⟨k1, k2, k3, k4, k9⟩ := ‹_ ∧ _›; exact ⟨keepc hb11 k1, keepc hb11 k2, keepc hb11 k3, keepc hb11 k4, keepb hb11 k9⟩)
      | (obtain ⟨k1, k2, k3, k4, k9⟩ := ‹_ ∧ _›; exact ⟨keepc hb10 k1, keepc hb10 k2, keepc hb10 k3, keepc hb10 k4, keepb hb10 k9⟩)
      | (obtain ⟨k1, k2, k3, k4, k9⟩ := ‹_ ∧ _›; exact ⟨keepc hb9 k1, keepc hb9 k2, keepc hb9 k3, keepc hb9 k4, keepb hb9 k9⟩)
      | (obtain ⟨k1, k2, k3, k4, k9⟩ := ‹_ ∧ _›; exact ⟨keepc hb8 k1, keepc hb8 k2, keepc hb8 k3, keepc hb8 k4, keepb hb8 k9⟩)
      | (obtain ⟨k1, k2, k3, k4, k9⟩ := ‹_ ∧ _›; exact ⟨keepc hb7 k1, keepc hb7 k2, keepc hb7 k3, keepc hb7 k4, keepb hb7 k9⟩)
      | (obtain ⟨k1, k2, k3, k4, k9⟩ := ‹_ ∧ _›; exact ⟨keepc hb6 k1, keepc hb6 k2, keepc hb6 k3, keepc hb6 k4, keepb hb6 k9⟩)
      | (obtain ⟨k1, k2, k3, k4, k9⟩ := ‹_ ∧ _›; exact ⟨keepc hb5 k1, keepc hb5 k2, keepc hb5 k3, keepc hb5 k4, keepb hb5 k9⟩)
      | (obtain ⟨k1, k2, k3, k4, k9⟩ := ‹_ ∧ _›; exact ⟨keepc hb4 k1, keepc hb4 k2, keepc hb4 k3, keepc hb4 k4, keepb hb4 k9⟩)
      | (obtain ⟨k1, k2, k3, k4, k9⟩ := ‹_ ∧ _›; exact ⟨keepc hb3 k1, keepc hb3 k2, keepc hb3 k3, keepc hb3 k4, keepb hb3 k9⟩)
      | (obtain ⟨k1, k2, k3, k4, k9⟩ := ‹_ ∧ _›; exact ⟨keepc hb2 k1, keepc hb2 k2, keepc hb2 k3, keepc hb2 k4, keepb hb2 k9⟩)
      | (obtain ⟨k1, k2, k3, k4, k9⟩ := ‹_ ∧ _›; exact ⟨keepc hb1 k1, keepc hb1 k2, keepc hb1 k3, keepc hb1 k4, keepb hb1 k9⟩)
      | (simp [go_sem, *]; done))
    (first
      | (go_at_call 8; refine (known_any _).mono ?_; rintro e w1 ⟨rfl, hb1⟩)
      | (go_at_call 13; refine (and_any _ _ _).mono ?_; rintro e w2 ⟨rfl, hb2⟩)
      | (go_at_call 14; refine (rand_any _ _ _).mono ?_; rintro e w3 ⟨rfl, hb3⟩)
      | (go_at_call 15; refine (or_any _ _ _).mono ?_; rintro e w4 ⟨rfl, hb4⟩)
      | (go_at_call 16; refine (ror_any _ _ _).mono ?_; rintro e w5 ⟨rfl, hb5⟩)
      | (go_at_call 17; refine (xor_any _ _ _).mono ?_; rintro e w6 ⟨rfl, hb6⟩)
      | (go_at_call 18; refine (rxor_any _ _ _).mono ?_; rintro e w7 ⟨rfl, hb7⟩)
      | (go_at_call 19; refine (not_any _ _).mono ?_; rintro e w8 ⟨rfl, hb8⟩)
      | (go_at_call 20; refine (rnot_any _ _).mono ?_; rintro e w9 ⟨rfl, hb9⟩)
      | (go_at_call 21; refine (shl_any _ _ _).mono ?_; rintro e w10 ⟨rfl, hb10⟩)
      | (go_at_call 22; refine (rshl_any _ _ _).mono ?_; rintro e w11 ⟨rfl, hb11⟩)
      | (go_at_call 23; refine (shr_any _ _ _).mono ?_; rintro e w12 ⟨rfl, hb12⟩)
      | (go_at_call 24; refine (rshr_any _ _ _).mono ?_; rintro e w13 ⟨rfl, hb13⟩))
  obtain ⟨-, -, -, -, kB⟩ := ‹_ ∧ _›
  go_wp2
  go_ret
  exact ⟨rfl, kB⟩
end Go.Proofs.Ytkahilfklgobpaa
