
/-
  DERIVED. THE WALKS OF impl.formOf, impl.ValueOk.
-/
import Derived.Test.YtaklmcmcgeebiaaPlainF
import Derived.Deep.QuietTactic
namespace Go.Proofs.Ytaklmcmcgeebiaa
open Go.RowKit
set_option linter.unusedVariables false
set_option linter.unusedSimpArgs false

end Go.Proofs.Ytaklmcmcgeebiaa
