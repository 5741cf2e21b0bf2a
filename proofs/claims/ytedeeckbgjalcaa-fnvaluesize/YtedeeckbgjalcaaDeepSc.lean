
/-
  DERIVED. THE WALK OF spec.ValueDeep.
-/
import Derived.Test.YtedeeckbgjalcaaDeepF
import Derived.WalkSpells
import Derived.WalkLawsBesides
import Derived.Deep.RegionWith
import Derived.BigQuiet
namespace Go.Proofs.Ytedeeckbgjalcaa
open Go.RowKit
set_option linter.unusedVariables false
set_option linter.unusedSimpArgs false

theorem ret_intS {k : IntKind} {a b : Int} (h : a = b) : Ending.returned (.int k a) = .returned (.int k b) := by rw [h]

/-! ### Sizes, with depths -/
end Go.Proofs.Ytedeeckbgjalcaa
