/-
  What the calls of package addr's answer and Parse and of law 2's known do.
-/
import Derived.Test.YtpchhfhdepkbcaaDoorAdr9
namespace Go.Proofs.YtpchhfhdepkbcaaDoor
open Go.RowKit
set_option linter.unusedSimpArgs false
set_option linter.unusedVariables false

theorem answer_any (x : BitVec 128) (b : Bool) (w : World) :
    Calls Tryd.prog 53 #[.agg #[.int .u64 (hI x), .int .u64 (lI x)], .bool b] w fun e w' => e = .returned (.tuple #[.agg #[.int .u64 (hI (if b = true then x else 0#128)), .int .u64 (lI (if b = true then x else 0#128))], .int .i64 (if b = true then 0 else 12)]) ∧ Below w.heap.size w w' := by
  cases b
  · rw [if_neg (by simp), if_neg (by simp), hI_zero, lI_zero]
    go_enter Tryd.func53, Tryd.ntmps53
    go_wp2
    exact bodyPost_ret (v := .tuple #[.agg #[.int .u64 0, .int .u64 0], .int .i64 12]) (by simp [results, Tryd.results53, go_sem]) rfl ⟨rfl, bl2 _ _ _⟩
  · rw [if_pos rfl, if_pos rfl]
    go_enter Tryd.func53, Tryd.ntmps53
    go_wp2
    exact bodyPost_ret (v := .tuple #[.agg #[.int .u64 (hI x), .int .u64 (lI x)], .int .i64 0]) (by simp [results, Tryd.results53, go_sem]) rfl ⟨rfl, bl2 _ _ _⟩

/-- What Parse tells of a text. -/
def apV (F : Int) (s : ByteArray) : BitVec 128 := if F = 32 then (if fourB s = true then fourV s else 0#128) else if F = 128 then (if (six0 s).2 = true then (six0 s).1 else 0#128) else 0#128
def apE (F : Int) (s : ByteArray) : Int := if F = 32 then (if fourB s = true then 0 else 12) else if F = 128 then (if (six0 s).2 = true then 0 else 12) else 11

set_option maxHeartbeats 2000000 in
theorem aparse_any (F : Int) (s : ByteArray) (w : World) (hs : s.size ≤ maxLen) :
    Calls Tryd.prog 17 #[.int .i64 F, .string s] w fun e w' => e = .returned (.tuple #[.agg #[.int .u64 (hI (apV F s)), .int .u64 (lI (apV F s))], .int .i64 (apE F s)]) ∧ Below w.heap.size w w' := by
  unfold apV apE
  by_cases h32 : F = 32
  · rw [if_pos h32, if_pos h32]
    have KR := fun w => readFour_any s w hs
    have KA := fun w => answer_any (fourV s) (fourB s) w
    revert KA
    generalize (if fourB s = true then fourV s else 0#128) = x
    generalize (if fourB s = true then (0 : Int) else 12) = r
    intro KA
    generalize fourV s = y at *
    generalize fourB s = b at *
    subst h32
    go_enter Tryd.func17, Tryd.ntmps17
    go_wp2_with fail
    refine (KR _).mono ?_
    rintro e w1 ⟨rfl, hb1⟩
    go_wp2_with fail
    refine (KA _).mono ?_
    rintro e w2 ⟨rfl, hb2⟩
    have hZ := ((at_new w w.heap.size 0#128 24 rfl).below hb1).below hb2
    have kB := keepb hb2 (keepb hb1 (bl1 w _))
    obtain ⟨z0, z1, z2, z3, z4⟩ := hZ
    clear hb1 hb2 KR KA
    go_wp2
    exact bodyPost_ret (v := .tuple #[.agg #[.int .u64 (hI x), .int .u64 (lI x)], .int .i64 r]) (by simp [results, Tryd.results17, go_sem, *]) rfl ⟨rfl, bset2 kB (Nat.le_refl _) _ _⟩
  rw [if_neg h32, if_neg h32]
  by_cases h128 : F = 128
  · rw [if_pos h128, if_pos h128]
    have KR := fun w => readSix_any s w hs
    have KA := fun w => answer_any (six0 s).1 (six0 s).2 w
    revert KA
    generalize (if (six0 s).2 = true then (six0 s).1 else 0#128) = x
    generalize (if (six0 s).2 = true then (0 : Int) else 12) = r
    intro KA
    generalize (six0 s).1 = y at *
    generalize (six0 s).2 = b at *
    clear h32
    subst h128
    go_enter Tryd.func17, Tryd.ntmps17
    go_wp2_with fail
    refine (KR _).mono ?_
    rintro e w1 ⟨rfl, hb1⟩
    go_wp2_with fail
    refine (KA _).mono ?_
    rintro e w2 ⟨rfl, hb2⟩
    have hZ := ((at_new w w.heap.size 0#128 24 rfl).below hb1).below hb2
    have kB := keepb hb2 (keepb hb1 (bl1 w _))
    obtain ⟨z0, z1, z2, z3, z4⟩ := hZ
    clear hb1 hb2 KR KA
    go_wp2
    exact bodyPost_ret (v := .tuple #[.agg #[.int .u64 (hI x), .int .u64 (lI x)], .int .i64 r]) (by simp [results, Tryd.results17, go_sem, *]) rfl ⟨rfl, bset2 kB (Nat.le_refl _) _ _⟩
  · rw [if_neg h128, if_neg h128, hI_zero, lI_zero]
    have b1 : (F == 32) = false := by simp [h32]
    have b2 : (F == 128) = false := by simp [h128]
    go_enter Tryd.func17, Tryd.ntmps17
    go_wp2
    exact bodyPost_ret (v := .tuple #[.agg #[.int .u64 0, .int .u64 0], .int .i64 11]) (by simp [results, Tryd.results17, go_sem, *]) rfl ⟨rfl, bl1 _ _⟩

theorem knownA (w : World) :
    Calls Tryd.prog 17 #[.int .i64 32, .string ⟨#[49, 48, 46, 48, 46, 48, 46, 49]⟩] w fun e w' => e = .returned (.tuple #[.agg #[.int .u64 720575944674246656, .int .u64 0], .int .i64 0]) ∧ Below w.heap.size w w' := by
  have h := aparse_any 32 ⟨#[49, 48, 46, 48, 46, 48, 46, 49]⟩ w (by decide)
  rw [show hI (apV 32 ⟨#[49, 48, 46, 48, 46, 48, 46, 49]⟩) = 720575944674246656 by decide +kernel, show lI (apV 32 ⟨#[49, 48, 46, 48, 46, 48, 46, 49]⟩) = 0 by decide +kernel, show apE 32 ⟨#[49, 48, 46, 48, 46, 48, 46, 49]⟩ = 0 by decide +kernel] at h
  exact h
theorem knownB (w : World) :
    Calls Tryd.prog 17 #[.int .i64 128, .string ⟨#[49, 58, 58, 50]⟩] w fun e w' => e = .returned (.tuple #[.agg #[.int .u64 281474976710656, .int .u64 2], .int .i64 0]) ∧ Below w.heap.size w w' := by
  have h := aparse_any 128 ⟨#[49, 58, 58, 50]⟩ w (by decide)
  rw [show hI (apV 128 ⟨#[49, 58, 58, 50]⟩) = 281474976710656 by decide +kernel, show lI (apV 128 ⟨#[49, 58, 58, 50]⟩) = 2 by decide +kernel, show apE 128 ⟨#[49, 58, 58, 50]⟩ = 0 by decide +kernel] at h
  exact h

set_option maxHeartbeats 1000000 in
theorem known2_any (w : World) :
    Calls Tryd.prog 11 #[] w fun e w' => e = .returned (.bool true) ∧ Below w.heap.size w w' := by
  go_enter Tryd.func11, Tryd.ntmps11
  go_wp2_with fail
  refine (knownA _).mono ?_
  rintro e w1 ⟨rfl, hb1⟩
  go_wp2_with fail
  refine (knownB _).mono ?_
  rintro e w2 ⟨rfl, hb2⟩
  have hA : w2.cell? ⟨w1.heap.size, 0, none⟩ = some (.int .u64 720575944674246656) := keepc hb2 (by simp [go_sem])
  have hA1 : w2.cell? ⟨w1.heap.size, 1, none⟩ = some (.int .u64 0) := keepc hb2 (by simp [go_sem])
  have s2 := cell_in hA
  have n2 : ¬ w2.heap.size = w1.heap.size := by omega
  have kB1 := hb1.alloc hb1.size (.cells #[.int .u64 720575944674246656, .int .u64 0] 24)
  have kB2 := keepb hb2 kB1
  clear hb1 hb2 kB1
  go_wp2
  go_ret
  exact ⟨rfl, kB2.alloc kB2.size _⟩
end Go.Proofs.YtpchhfhdepkbcaaDoor
