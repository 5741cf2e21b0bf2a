/-
  DERIVED. GIVEN WITH THE SEED: THE CARDS: each row of YthnillhlefbddaaDoorRows.lean that lists a variable, with what it lists TIED to the program's text (the seventh form; the later family's looks); each row that meets fmt, with fmt's text TOLD by the authors' own Lean function (tested against real Go, not proved from fmt's source: count such statements apart). THE CARD IS WHAT COUNTS. Prove the row's statement (the work); the ties are given (YthnillhlefbddaaDoorTie.lean); close each card by the builder's one call (the guide's Derived/Test/ToyasCard.lean, 'card_holds'). Laid BY PROGRAM, IN A SANDBOX (cutbox-door.mjs). By AI agents, Wed Nov 11 2026. No macro, syntax, notation, axiom, sorry.
-/
import Derived.Test.YthnillhlefbddaaDoorRows
import GoSem.ClaimSeven
namespace Go.Proofs.YthnillhlefbddaaDoor
namespace Rows

/-- THE TIED CARD OF 'laws.FnValueSame'. -/
def fnValueSameCard : Claim7 := { stood := { row := fnValueSameRow, standIns := [], harness := (true, "f132f306e294f7f913039f3fc8f6715217339bae2804349fb60df51b4d48db7e"), looks := true }, kinds := [], alts := [], laidByText := true, laidKinds := [.data, .data, .data], laidTests := true, laidLooks := .later }
def FnValueSameCardSaid : Prop := Claim7.holds Tryd.pinned (.plain (OpenSpec.ofChange fnValueSameSpec)) fnValueSameCard

/-- THE SECOND FORM's CARD OF 'laws.FnValueSame'. -/
def fnValueSameUptoCard : Claim7 := { stood := { row := fnValueSameUptoRow, standIns := [], harness := (true, "f132f306e294f7f913039f3fc8f6715217339bae2804349fb60df51b4d48db7e"), looks := true }, kinds := [], alts := [], laidByText := true, laidKinds := [.data, .data, .data], laidTests := true, laidLooks := .later }
def FnValueSameUptoCardSaid : Prop := Claim7.holds Tryd.pinned (.plain (OpenSpec.upto fnValueSameSpec)) fnValueSameUptoCard
end Rows
end Go.Proofs.YthnillhlefbddaaDoor
