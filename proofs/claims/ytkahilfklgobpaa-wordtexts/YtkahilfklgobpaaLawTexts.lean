/-
  The law WordTexts, walked.
-/
import Derived.Test.YtkahilfklgobpaaRefT2
import Derived.Test.YtkahilfklgobpaaRefP
import Derived.Test.YtkahilfklgobpaaKnown
namespace Go.Proofs.Ytkahilfklgobpaa
open Go.RowKit
set_option linter.unusedSimpArgs false
set_option linter.unusedVariables false

/-- What Parse tells of any string. -/
def pO (s : ByteArray) : BitVec 128 := if s.size = 32 then pOut s else 0#128
def pE (s : ByteArray) : Int := if s.size = 32 then pErr s else 12
theorem parse_any (s : ByteArray) (w : World) (hs : s.size ≤ maxLen) :
    Calls Try.prog 35 #[.string s] w fun e w' => e = .returned (.tuple #[.agg #[.int .u64 (hI (pO s)), .int .u64 (lI (pO s))], .int .i64 (pE s)]) ∧ Below w.heap.size w w' := by
  unfold pO pE
  by_cases h : s.size = 32
  · rw [if_pos h, if_pos h]; exact parse_32 s w h
  · rw [if_neg h, if_neg h, hI_zero, lI_zero]; exact parse_len s w hs h
theorem rparse_any (s : ByteArray) (w : World) (hs : s.size ≤ maxLen) :
    Calls Try.prog 36 #[.string s] w fun e w' => e = .returned (.tuple #[.agg #[.int .u64 (hI (pO s)), .int .u64 (lI (pO s))], .int .i64 (pE s)]) ∧ Below w.heap.size w w' := by
  unfold pO pE
  by_cases h : s.size = 32
  · rw [if_pos h, if_pos h]; exact rparse_32 s w h
  · rw [if_neg h, if_neg h, hI_zero, lI_zero]; exact rparse_len s w hs h

set_option maxHeartbeats 2000000 in
theorem wordTexts_any (x : BitVec 128) (s : ByteArray) (w : World) (hs : s.size ≤ maxLen) :
    Calls Try.prog 7 #[.agg #[.int .u64 (hI x), .int .u64 (lI x)], .string s] w fun e w' => e = .returned (.bool true) ∧ Below w.heap.size w w' := by
  have CP := fun W => parse_any s W hs
  have CR := fun W => rparse_any s W hs
  clear hs
  revert CP CR
  generalize pO s = a
  generalize pE s = p
  intro CP CR
  go_enter Try.func7, Try.ntmps7
  go_wp2_with fail
  refine (CP _).mono ?_
  rintro e w1 ⟨rfl, hb1⟩
  clear CP
  have X0 : w1.cell? ⟨w.heap.size, 0, none⟩ = some (.int .u64 (hI x)) := keepc hb1 (by simp [go_sem])
  have X1 : w1.cell? ⟨w.heap.size, 1, none⟩ = some (.int .u64 (lI x)) := keepc hb1 (by simp [go_sem])
  have kB := keepb hb1 (bl1 w _)
  clear hb1
  have kA := keepb (bl1 w1 (.cells #[.int .u64 (hI a), .int .u64 (lI a)] 24)) kB
  have x0 := keepc (bl1 w1 (.cells #[.int .u64 (hI a), .int .u64 (lI a)] 24)) X0
  have x1 := keepc (bl1 w1 (.cells #[.int .u64 (hI a), .int .u64 (lI a)] 24)) X1
  have a0 : (w1.alloc (.cells #[.int .u64 (hI a), .int .u64 (lI a)] 24)).cell? ⟨w1.heap.size, 0, none⟩ = some (.int .u64 (hI a)) := by simp [go_sem]
  have a1 : (w1.alloc (.cells #[.int .u64 (hI a), .int .u64 (lI a)] 24)).cell? ⟨w1.heap.size, 1, none⟩ = some (.int .u64 (lI a)) := by simp [go_sem]
  clear X0 X1 kB
  go_wp2_with fail
  refine (CR _).mono ?_
  rintro e w2 ⟨rfl, hb2⟩
  clear CR
  have k2 := keepb hb2 kA
  have kB := (keepb (bl1 w2 (.cells #[.int .u64 (hI a), .int .u64 (lI a)] 24)) k2).drew
  have X0 := keepc (bl1 w2 (.cells #[.int .u64 (hI a), .int .u64 (lI a)] 24)) (keepc hb2 x0)
  have X1 := keepc (bl1 w2 (.cells #[.int .u64 (hI a), .int .u64 (lI a)] 24)) (keepc hb2 x1)
  have A0 := keepc (bl1 w2 (.cells #[.int .u64 (hI a), .int .u64 (lI a)] 24)) (keepc hb2 a0)
  have A1 := keepc (bl1 w2 (.cells #[.int .u64 (hI a), .int .u64 (lI a)] 24)) (keepc hb2 a1)
  have B0 : (w2.alloc (.cells #[.int .u64 (hI a), .int .u64 (lI a)] 24)).cell? ⟨w2.heap.size, 0, none⟩ = some (.int .u64 (hI a)) := by simp [go_sem]
  have B1 : (w2.alloc (.cells #[.int .u64 (hI a), .int .u64 (lI a)] 24)).cell? ⟨w2.heap.size, 1, none⟩ = some (.int .u64 (lI a)) := by simp [go_sem]
  clear hb2 kA x0 x1 a0 a1 k2
  have CT := fun W => text_any x W
  have CU := fun W => rtext_any x W
  revert CT CU
  generalize txtW x = t
  intro CT CU
  go_wp2_with fail
  go_region_held3 (fun w' => w'.cell? ⟨w.heap.size, 0, none⟩ = some (.int .u64 (hI x)) ∧ w'.cell? ⟨w.heap.size, 1, none⟩ = some (.int .u64 (lI x)) ∧ w'.cell? ⟨w1.heap.size, 0, none⟩ = some (.int .u64 (hI a)) ∧ w'.cell? ⟨w1.heap.size, 1, none⟩ = some (.int .u64 (lI a)) ∧ w'.cell? ⟨w2.heap.size, 0, none⟩ = some (.int .u64 (hI a)) ∧ w'.cell? ⟨w2.heap.size, 1, none⟩ = some (.int .u64 (lI a)) ∧ Below w.heap.size w w')
    (first
      | exact ⟨X0, X1, A0, A1, B0, B1, kB⟩
      | (obtain ⟨k1, k2, k3, k4, k5, k6, k9⟩ := ‹_ ∧ _›; exact ⟨keepc hb5 k1, keepc hb5 k2, keepc hb5 k3, keepc hb5 k4, keepc hb5 k5, keepc hb5 k6, keepb hb5 k9⟩)
      | (obtain ⟨k1, k2, k3, k4, k5, k6, k9⟩ := ‹_ ∧ _›; exact ⟨keepc hb4 k1, keepc hb4 k2, keepc hb4 k3, keepc hb4 k4, keepc hb4 k5, keepc hb4 k6, keepb hb4 k9⟩)
      | (obtain ⟨k1, k2, k3, k4, k5, k6, k9⟩ := ‹_ ∧ _›; exact ⟨keepc hb3 k1, keepc hb3 k2, keepc hb3 k3, keepc hb3 k4, keepc hb3 k5, keepc hb3 k6, keepb hb3 k9⟩))
    (first
      | (go_at_call 8; refine (known_any _).mono ?_; rintro e w3 ⟨rfl, hb3⟩)
      | (go_at_call 37; refine (CT _).mono ?_; rintro e w4 ⟨rfl, hb4⟩)
      | (go_at_call 38; refine (CU _).mono ?_; rintro e w5 ⟨rfl, hb5⟩))
  obtain ⟨-, -, -, -, -, -, kB⟩ := ‹_ ∧ _›
  go_wp2
  go_ret
  exact ⟨rfl, kB⟩
end Go.Proofs.Ytkahilfklgobpaa
