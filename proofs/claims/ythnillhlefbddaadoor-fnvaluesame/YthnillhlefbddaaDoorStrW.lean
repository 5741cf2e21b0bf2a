
/-
  DERIVED. THE WALKS OF laws.szStringS, laws.toStringS, laws.eqStringS.
-/
import Derived.Test.YthnillhlefbddaaDoorRows
import Derived.Test.YthnillhlefbddaaDoorRepV
import Derived.Test.YthnillhlefbddaaDoorVlInfo
import Derived.WalkKit
import Derived.WalkSpells
import Derived.WalkLawsBesides
import Derived.Deep.RegionWith
import Derived.BigQuiet
namespace Go.Proofs.YthnillhlefbddaaDoor
open Go.RowKit
set_option linter.unusedVariables false
set_option linter.unusedSimpArgs false

/-- What a size answers: no more than it was given, and -1 at least. -/
def SzPost (left : Int) (w : World) (e : Ending) (w' : World) : Prop := ∃ r : Int, e = .returned (.int .i64 r) ∧ -1 ≤ r ∧ r ≤ left ∧ Below w.heap.size w w'

end Go.Proofs.YthnillhlefbddaaDoor
