/-
  Part 16 of the proof: 1 texts, one behind the other.
-/
import Derived.Test.YtbgoclfifhdonaaPart1
import Derived.Test.YtbgoclfifhdonaaPart15
import Derived.ProofKit
namespace Go.Proofs.Ytbgoclfifhdonaa
open Go.RowKit
theorem Try.cellsW : Try.prog.cellsOf 25 = 2 := by kernel_rfl
theorem u64_bd19 {a : Int} (h : (Lit.int .u64 a).wf = true) : 0 ≤ a ∧ a < 18446744073709551616 := by
  simp [Lit.wf, IntKind.min, IntKind.max, IntKind.signed, IntKind.bits] at h; omega
end Go.Proofs.Ytbgoclfifhdonaa
