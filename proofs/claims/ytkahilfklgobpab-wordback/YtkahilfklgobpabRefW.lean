/-
  What each call of the small functions of turnpikeref1 does that are like those of package word.
-/
import Derived.Test.YtkahilfklgobpabWord
namespace Go.Proofs.Ytkahilfklgobpab
open Go.RowKit
set_option linter.unusedSimpArgs false
set_option linter.unusedVariables false

end Go.Proofs.Ytkahilfklgobpab
