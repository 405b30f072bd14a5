/-
  The law WordCounts, walked.
-/
import Derived.Test.YtkahilfklgobpaaDoorKnown
import Derived.Test.YtkahilfklgobpaaDoorCnt4
namespace Go.Proofs.YtkahilfklgobpaaDoor
open Go.RowKit
set_option linter.unusedSimpArgs false
set_option linter.unusedVariables false

set_option maxHeartbeats 4000000 in
theorem wordCounts_any (x y : BitVec 128) (w : World) (hT : Tab w) :
    Calls Tryd.prog 3 #[.agg #[.int .u64 (hI x), .int .u64 (lI x)], .agg #[.int .u64 (hI y), .int .u64 (lI y)]] w fun e w' => e = .returned (.bool true) ∧ Below w.heap.size w w' := by
  have hbl := fun o p => (bl2 w o p).drew
  have hTl := fun o p => hT.keep ((bl2 w o p).drew)
  clear hT
  go_enter Tryd.func3, Tryd.ntmps3
  go_wp2
  go_region_held3 (fun w' => w'.cell? ⟨w.heap.size, 0, none⟩ = some (.int .u64 (hI x)) ∧ w'.cell? ⟨w.heap.size, 1, none⟩ = some (.int .u64 (lI x)) ∧ w'.cell? ⟨w.heap.size + 1, 0, none⟩ = some (.int .u64 (hI y)) ∧ w'.cell? ⟨w.heap.size + 1, 1, none⟩ = some (.int .u64 (lI y)) ∧ Below w.heap.size w w' ∧ Tab w')
    (first
      | (obtain ⟨k1, k2, k3, k4, k5, k6⟩ := ‹_ ∧ _›; exact ⟨keepc hb k1, keepc hb k2, keepc hb k3, keepc hb k4, keepb hb k5, k6.keep hb⟩)
      | (refine ⟨?_, ?_, ?_, ?_, hbl _ _, hTl _ _⟩ <;> simp [go_sem]))
    (first
      | (go_at_call 4; refine (known_any _).mono ?_; rintro e w' ⟨rfl, hb⟩)
      | (go_at_call 5; refine (wcommon_any _ _ _).mono ?_; rintro e w' ⟨rfl, hb⟩)
      | (go_at_call 6; refine (common_any _ _ _).mono ?_; rintro e w' ⟨rfl, hb⟩)
      | (go_at_call 7; refine (ones_any _ _).mono ?_; rintro e w' ⟨rfl, hb⟩)
      | (go_at_call 8; refine (rones_any _ _).mono ?_; rintro e w' ⟨rfl, hb⟩)
      | (go_at_call 9; refine (lead_any _ _).mono ?_; rintro e w' ⟨rfl, hb⟩)
      | (go_at_call 10; refine (rlead_any _ _).mono ?_; rintro e w' ⟨rfl, hb⟩)
      | (go_at_call 11; obtain ⟨-, -, -, -, -, kt⟩ := ‹_ ∧ _›; refine (trail_any _ _ kt).mono ?_; rintro e w' ⟨rfl, hb⟩)
      | (go_at_call 12; refine (rtrail_any _ _).mono ?_; rintro e w' ⟨rfl, hb⟩))
  obtain ⟨-, -, -, -, kB, -⟩ := ‹_ ∧ _›
  go_wp2
  go_ret
  exact ⟨rfl, kB⟩
end Go.Proofs.YtkahilfklgobpaaDoor
