
/-
  DERIVED. HOW FORMS LIE IN MEMORY (interface values, a type for each kind).
-/
import Derived.Test.YtaklmcmcgeebiaaRows
import Derived.Test.YtaklmcmcgeebiaaPlainV
namespace Go.Proofs.Ytaklmcmcgeebiaa
open Go.RowKit
set_option linter.unusedVariables false
set_option linter.unusedSimpArgs false

/-- A value has no parts but those that its kind has. -/
def partsB (kd nm : Int) (tx : ByteArray) (n m : Nat) : Bool :=
  ((kd == 1 || kd == 2) || nm == 0) && ((kd == 3 || kd == 6 || kd == 7) || tx.toList.isEmpty) && ((kd == 4 || kd == 5) || decide (n = 0)) && (kd == 5 || decide (m = 0))

end Go.Proofs.Ytaklmcmcgeebiaa
