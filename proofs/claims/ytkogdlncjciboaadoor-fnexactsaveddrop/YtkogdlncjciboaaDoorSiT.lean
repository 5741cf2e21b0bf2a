
/-
  DERIVED. THE TABLE OF THE SUMS, out of what the rows lay.
-/
import Derived.Test.YtkogdlncjciboaaDoorShC
import Derived.ProofKit
import Derived.SizedLaws
import Derived.ShutString
import Derived.ChangeOld
import Derived.OpenVars
import Derived.LaidMore
import Derived.LaidSub
import Derived.Stop.Joined
import Derived.Lib.LaidTab
import Derived.SevenTiedAt
import Derived.Test.YtkogdlncjciboaaDoorCards
import Derived.Test.YtkogdlncjciboaaDoorTie
import Derived.OpenShut
namespace Go.Proofs.YtkogdlncjciboaaDoor
open Go.ChangeShapes Go.WideShapes Go.ChangeAt Go.RowKit
set_option linter.unusedVariables false
set_option linter.unusedSimpArgs false

theorem own : ownKnob Tryd.prog.godebug = none := by kernel_rfl
theorem laidOut : laidOutB Tryd.prog = true := by kernel_rfl

def sumVar : String := "loop.example/pergola/impl.sumTable"
/-- What the row lays. -/
def laidL : List (String × DataW Unit) := [("loop.example/pergola/impl.sumTable", Rows.laid_loop_example_pergola_impl_sumTable)]
theorem door_met (os : Os) (args : Array Value) : laidMetH Tryd.prog laidL ((World.doorLaid Tryd.prog 400 os).forCall (fun _ _ => 0) ⟨#[], args, []⟩).memory :=
  laidMetH_of_parts3 (fuel := 8) (laidMet_of_run' 8 (by kernel_rfl) (by kernel_rfl)) (by kernel_rfl) (by kernel_rfl)
theorem rowed : varsRowed Tryd.prog ["loop.example/pergola/impl.sumTable"] = true := by kernel_rfl

theorem ktab_of {W : World} (h : laidMetH Tryd.prog laidL W) : KTab W := by
  have h2 : laidL = [("loop.example/pergola/impl.sumTable", Lib.tabData .u32 (kTab.map wI))] := by kernel_rfl
  rw [h2, MakeChecks.laidMetH_plain _ _ _ (by kernel_rfl)] at h
  have hg : Tryd.prog.globalNamed "loop.example/pergola/impl.sumTable" = some 0 := by kernel_rfl
  have h3 := Lib.tabIs_of_head hg (show (Tryd.prog.globals[0]?).map (·.type) = some 76 by kernel_rfl) (show Tryd.prog.underlying 76 = some (.array 64 53) by kernel_rfl) (by kernel_rfl) (by kernel_rfl) (by kernel_rfl) h
  intro i hi
  have h4 := h3.cell hg i (by rw [List.length_map]; exact hi)
  rw [h4]
  have hi' : i < kTab.length := hi
  simp [wAt, List.getD_eq_getElem?_getD, hi']

end Go.Proofs.YtkogdlncjciboaaDoor
