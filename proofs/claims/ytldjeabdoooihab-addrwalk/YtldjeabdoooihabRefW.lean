/-
  What each call of the small functions of turnpikeref1 does that are like those of package word.
-/
import Derived.Test.YtldjeabdoooihabWord
namespace Go.Proofs.Ytldjeabdoooihab
open Go.RowKit
set_option linter.unusedSimpArgs false
set_option linter.unusedVariables false

theorem rand_any (x y : BitVec 128) (w : World) :
    Calls Try.prog 10 #[.agg #[.int .u64 (hI x), .int .u64 (lI x)], .agg #[.int .u64 (hI y), .int .u64 (lI y)]] w fun e w' => e = .returned (.agg #[.int .u64 (hI (x &&& y)), .int .u64 (lI (x &&& y))]) ∧ Below w.heap.size w w' := by
  go_enter Try.func10, Try.ntmps10
  go_wp2
  rw [and_h, and_l]
  exact bodyPost_ret (v := .agg #[.int .u64 (hI (x &&& y)), .int .u64 (lI (x &&& y))]) (by simp [results, Try.results10, go_sem]) rfl ⟨rfl, bl3 _ _ _ _⟩

end Go.Proofs.Ytldjeabdoooihab
