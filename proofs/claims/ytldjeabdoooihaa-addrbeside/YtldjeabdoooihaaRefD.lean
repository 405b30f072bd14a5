/-
  What the calls of turnpikeref2's Next and Prev do, of any word.
-/
import Derived.Test.YtldjeabdoooihaaRefB
import Derived.Test.YtldjeabdoooihaaRefC
namespace Go.Proofs.Ytldjeabdoooihaa
open Go.RowKit
set_option linter.unusedSimpArgs false
set_option linter.unusedVariables false

theorem rnext_any (F : Int) (x : BitVec 128) (w : World) :
    Calls Try.prog 13 #[.int .i64 F, .agg #[.int .u64 (hI x), .int .u64 (lI x)]] w fun e w' => e = .returned (.tuple #[.agg #[.int .u64 (hI (nextV F x)), .int .u64 (lI (nextV F x))], .bool (nextB F x)]) ∧ Below w.heap.size w w' := by
  have KR := fun w => rright_any F x w
  by_cases hr : rightE F x = 0
  · obtain ⟨hf, hm⟩ := right0 F x hr
    rw [hr] at KR
    have ho := over_step F x hf hm
    have KK := fun w => rmask_any F w
    by_cases e : x = maskW F
    · have e1 : nextB F x = false := by unfold nextB; rw [ho]; simp [e]
      have e2 : nextV F x = 0#128 := by unfold nextV; rw [e1]; rfl
      rw [e1, e2, hI_zero, lI_zero]
      rw [← e] at KK
      exact rnext_last F x w KR KK
    · have e1 : nextB F x = true := by unfold nextB; rw [ho]; simp [e, hr]
      have e2 : nextV F x = x + stepW F := by unfold nextV; rw [e1]; rfl
      rw [e1, e2]
      refine rnext_yes F x (maskW F) (stepW F) (x + stepW F) (overB x (stepW F)) w ?_ KR KK (fun w => rone_any F w hf) (fun w => radd_any x (stepW F) w)
      rcases three x (maskW F) with ⟨a, b, c⟩ | ⟨a, c⟩ | ⟨a, b, c⟩
      · exact absurd c e
      · exact Or.inl a
      · exact Or.inr ⟨a, b⟩
  · have e1 : nextB F x = false := by unfold nextB; simp [hr]
    have e2 : nextV F x = 0#128 := by unfold nextV; rw [e1]; rfl
    rw [e1, e2, hI_zero, lI_zero]
    exact rnext_no F (rightE F x) x w hr KR
theorem rprev_any (F : Int) (x : BitVec 128) (w : World) :
    Calls Try.prog 14 #[.int .i64 F, .agg #[.int .u64 (hI x), .int .u64 (lI x)]] w fun e w' => e = .returned (.tuple #[.agg #[.int .u64 (hI (prevV F x)), .int .u64 (lI (prevV F x))], .bool (prevB F x)]) ∧ Below w.heap.size w w' := by
  have KR := fun w => rright_any F x w
  by_cases hr : rightE F x = 0
  · obtain ⟨hf, hm⟩ := right0 F x hr
    have ho := under_step F x hf hm
    by_cases e : x = 0#128
    · have e1 : prevB F x = false := by unfold prevB; rw [ho]; simp [e]
      have e2 : prevV F x = 0#128 := by unfold prevV; rw [e1]; rfl
      rw [e1, e2, hI_zero, lI_zero]
      exact rprev_no F (rightE F x) x w (Or.inr ⟨hr, e⟩) KR
    · have e1 : prevB F x = true := by unfold prevB; rw [ho]; simp [e, hr]
      have e2 : prevV F x = x - stepW F := by unfold prevV; rw [e1]; rfl
      rw [e1, e2]
      rw [hr] at KR
      refine rprev_yes F x (stepW F) (x - stepW F) (underB x (stepW F)) w ?_ KR (fun w => rone_any F w hf) (fun w => rsub_any x (stepW F) w)
      rcases three0 x with ⟨a, b, c⟩ | ⟨a, c⟩ | ⟨a, b, c⟩
      · exact absurd c e
      · exact Or.inl a
      · exact Or.inr ⟨a, b⟩
  · have e1 : prevB F x = false := by unfold prevB; simp [hr]
    have e2 : prevV F x = 0#128 := by unfold prevV; rw [e1]; rfl
    rw [e1, e2, hI_zero, lI_zero]
    exact rprev_no F (rightE F x) x w (Or.inl hr) KR
end Go.Proofs.Ytldjeabdoooihaa
