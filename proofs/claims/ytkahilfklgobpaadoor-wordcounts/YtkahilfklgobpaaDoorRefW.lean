/-
  What each call of the small functions of turnpikeref1 does that are like those of package word.
-/
import Derived.Test.YtkahilfklgobpaaDoorWord
namespace Go.Proofs.YtkahilfklgobpaaDoor
open Go.RowKit
set_option linter.unusedSimpArgs false
set_option linter.unusedVariables false

end Go.Proofs.YtkahilfklgobpaaDoor
