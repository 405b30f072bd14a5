/-
  What each call of package word's small functions does: the word that it tells, and that nothing that was there before has turned.
-/
import Derived.Test.YtbamogpbjdobkaaDoorRows
import Derived.Test.YtbamogpbjdobkaaDoorNum
namespace Go.Proofs.YtbamogpbjdobkaaDoor
open Go.RowKit
set_option linter.unusedSimpArgs false
set_option linter.unusedVariables false

theorem bl1 (w : World) (o : Obj) : Below w.heap.size w (w.alloc o) := (Below.refl _ _).alloc (Nat.le_refl _) _
theorem bl2 (w : World) (o p : Obj) : Below w.heap.size w ((w.alloc o).alloc p) := (bl1 w o).alloc (by simp) _
theorem bl3 (w : World) (o p q : Obj) : Below w.heap.size w (((w.alloc o).alloc p).alloc q) := (bl2 w o p).alloc (by simp; omega) _

end Go.Proofs.YtbamogpbjdobkaaDoor
