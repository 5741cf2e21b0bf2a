
/-
  DERIVED. THE WALK OF impl.hasJustItsParts.
-/
import Derived.Test.YtaklmcmcgeebiaaNames
import Derived.Test.YtaklmcmcgeebiaaRepF
namespace Go.Proofs.Ytaklmcmcgeebiaa
open Go.RowKit
set_option linter.unusedVariables false
set_option linter.unusedSimpArgs false

end Go.Proofs.Ytaklmcmcgeebiaa
