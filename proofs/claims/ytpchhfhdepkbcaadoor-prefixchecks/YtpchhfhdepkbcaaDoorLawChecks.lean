/-
  The law PrefixChecks, walked.
-/
import Derived.Test.YtpchhfhdepkbcaaDoorRefQ2
import Derived.Test.YtpchhfhdepkbcaaDoorPfxT
namespace Go.Proofs.YtpchhfhdepkbcaaDoor
open Go.RowKit
set_option linter.unusedSimpArgs false
set_option linter.unusedVariables false

set_option maxHeartbeats 4000000 in
set_option maxRecDepth 20000 in
theorem prefixChecks_any (F : Int) (x : BitVec 128) (n : Int) (y : BitVec 128) (m : Int) (w : World) (hP : Pow w) :
    Calls Tryd.prog 5 #[.int .i64 F, .agg #[.int .u64 (hI x), .int .u64 (lI x), .int .i64 n], .agg #[.int .u64 (hI y), .int .u64 (lI y)], .int .i64 m] w fun e w' => e = .returned (.bool true) ∧ Below w.heap.size w w' := by
  have KO := fun w => pof_any F y m w
  have RO := fun w => rof_any F y m w
  have KC := fun w => pcheck_any F x n w
  have RC := fun w => rcheck_any F x n w
  generalize ofV F y m = a at *
  generalize ofN F y m = k at *
  generalize ofE F y m = r at *
  generalize checkE F x n = c at *
  have hcc : (c == c) = true := by simp
  have hrr : (r == r) = true := by simp
  have hkk : (k == k) = true := by simp
  go_enter Tryd.func5, Tryd.ntmps5
  go_wp2_with fail
  refine (KO _).mono ?_
  rintro e w1 ⟨rfl, hb1⟩
  have X1 := ((atp_new w w.heap.size x n 41 rfl).below (bl1 _ (.cells #[.int .u64 (hI y), .int .u64 (lI y)] 24))).below hb1
  have Y1 := (at_new (w.alloc (.cells #[.int .u64 (hI x), .int .u64 (lI x), .int .i64 n] 41)) (w.heap.size + 1) y 24 (by simp)).below hb1
  have kB1 := keepb hb1 (bl2 w _ _)
  have X1 := X1.below (bl1 _ (.cells #[.int .u64 (hI a), .int .u64 (lI a), .int .i64 k] 41))
  have Y1 := Y1.below (bl1 _ (.cells #[.int .u64 (hI a), .int .u64 (lI a), .int .i64 k] 41))
  have A1 := atp_new w1 w1.heap.size a k 41 rfl
  have kB1 := kB1.alloc kB1.size (.cells #[.int .u64 (hI a), .int .u64 (lI a), .int .i64 k] 41)
  clear hb1 KO
  obtain ⟨y0, y1, -, -, -⟩ := id Y1
  go_wp2_with fail
  refine (RO _).mono ?_
  rintro e w2 ⟨rfl, hb2⟩
  have hA := bl1 w2 (.cells #[.int .u64 (hI a), .int .u64 (lI a), .int .i64 k] 41)
  have X2 := (X1.below hb2).below hA
  have A2 := (A1.below hb2).below hA
  have B2 := atp_new w2 w2.heap.size a k 41 rfl
  have kB2 := (keepb hA (keepb hb2 kB1)).drew
  have hPd := hP.keep kB2
  clear y0 y1 X1 Y1 A1 kB1 hb2 hA RO
  obtain ⟨x0, x1, x2, -, -, -⟩ := id X2
  obtain ⟨a0, a1, a2, -, -, -⟩ := id A2
  obtain ⟨b0, b1, b2, -, -, -⟩ := id B2
  go_wp2_with fail
  go_region_held3 (fun w' => w'.cell? ⟨w.heap.size, 0, none⟩ = some (.int .u64 (hI x)) ∧ w'.cell? ⟨w.heap.size, 1, none⟩ = some (.int .u64 (lI x)) ∧ w'.cell? ⟨w.heap.size, 2, none⟩ = some (.int .i64 n) ∧ w'.cell? ⟨w1.heap.size, 0, none⟩ = some (.int .u64 (hI a)) ∧ w'.cell? ⟨w1.heap.size, 1, none⟩ = some (.int .u64 (lI a)) ∧ w'.cell? ⟨w1.heap.size, 2, none⟩ = some (.int .i64 k) ∧ w'.cell? ⟨w2.heap.size, 0, none⟩ = some (.int .u64 (hI a)) ∧ w'.cell? ⟨w2.heap.size, 1, none⟩ = some (.int .u64 (lI a)) ∧ w'.cell? ⟨w2.heap.size, 2, none⟩ = some (.int .i64 k) ∧ Below w.heap.size w w')
    (first
      | (obtain ⟨k0, k1, k2, k3, k4, k5, k6, k7, k8, k9⟩ := ‹_ ∧ _›; exact ⟨keepc hb3 k0, keepc hb3 k1, keepc hb3 k2, keepc hb3 k3, keepc hb3 k4, keepc hb3 k5, keepc hb3 k6, keepc hb3 k7, keepc hb3 k8, keepb hb3 k9⟩)
      | exact ⟨x0, x1, x2, a0, a1, a2, b0, b1, b2, kB2⟩)
    (first
      | (go_at_call 20; refine (known3_any _ hPd).mono ?_; rintro e w3 ⟨rfl, hb3⟩)
      | (go_at_call 21; refine (KC _).mono ?_; rintro e w3 ⟨rfl, hb3⟩)
      | (go_at_call 22; refine (RC _).mono ?_; rintro e w3 ⟨rfl, hb3⟩))
  obtain ⟨-, -, -, -, -, -, -, -, -, kB⟩ := ‹_ ∧ _›
  go_wp2
  go_ret
  exact ⟨rfl, kB⟩
end Go.Proofs.YtpchhfhdepkbcaaDoor
