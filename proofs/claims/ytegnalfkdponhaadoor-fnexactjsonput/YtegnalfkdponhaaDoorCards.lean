/-
  DERIVED. GIVEN WITH THE SEED: THE CARDS: each row of YtegnalfkdponhaaDoorRows.lean that lists a variable, with what it lists TIED to the program's text (the seventh form; the later family's looks); each row that meets fmt, with fmt's text TOLD by the authors' own Lean function (tested against real Go, not proved from fmt's source: count such statements apart). THE CARD IS WHAT COUNTS. Prove the row's statement (the work); the ties are given (YtegnalfkdponhaaDoorTie.lean); close each card by the builder's one call (the guide's Derived/Test/ToyasCard.lean, 'card_holds'). Laid BY PROGRAM, IN A SANDBOX (cutbox-door.mjs). By AI agents, Wed Nov 11 2026. No macro, syntax, notation, axiom, sorry.
-/
import Derived.Test.YtegnalfkdponhaaDoorRows
import GoSem.ClaimSeven
namespace Go.Proofs.YtegnalfkdponhaaDoor
namespace Rows

/-- THE TIED CARD OF 'laws.FnExactJsonPut'. -/
def fnExactJsonPutCard : Claim7 := { stood := { row := fnExactJsonPutRow, standIns := [], harness := (true, "12b921e9f032857623ceb9b8a439cdfa021e77ba12e0032beb319be8672aa40e"), looks := true }, kinds := [], alts := [], laidByText := true, laidKinds := [.data, .data, .data], laidTests := true, laidLooks := .later }
def FnExactJsonPutCardSaid : Prop := Claim7.holds Tryd.pinned (.plain (OpenSpec.ofChange fnExactJsonPutSpec)) fnExactJsonPutCard

/-- THE TIED CARD OF 'laws.FnExactAskPut'. -/
def fnExactAskPutCard : Claim7 := { stood := { row := fnExactAskPutRow, standIns := [], harness := (true, "12b921e9f032857623ceb9b8a439cdfa021e77ba12e0032beb319be8672aa40e"), looks := true }, kinds := [], alts := [], laidByText := true, laidKinds := [.data, .data, .data], laidTests := true, laidLooks := .later }
def FnExactAskPutCardSaid : Prop := Claim7.holds Tryd.pinned (.plain (OpenSpec.ofChange fnExactAskPutSpec)) fnExactAskPutCard

/-- THE TIED CARD OF 'laws.FnValueSame'. -/
def fnValueSameCard : Claim7 := { stood := { row := fnValueSameRow, standIns := [], harness := (true, "12b921e9f032857623ceb9b8a439cdfa021e77ba12e0032beb319be8672aa40e"), looks := true }, kinds := [], alts := [], laidByText := true, laidKinds := [.data, .data, .data], laidTests := true, laidLooks := .later }
def FnValueSameCardSaid : Prop := Claim7.holds Tryd.pinned (.plain (OpenSpec.ofChange fnValueSameSpec)) fnValueSameCard

/-- THE SECOND FORM's CARD OF 'laws.FnExactJsonPut'. -/
def fnExactJsonPutUptoCard : Claim7 := { stood := { row := fnExactJsonPutUptoRow, standIns := [], harness := (true, "12b921e9f032857623ceb9b8a439cdfa021e77ba12e0032beb319be8672aa40e"), looks := true }, kinds := [], alts := [], laidByText := true, laidKinds := [.data, .data, .data], laidTests := true, laidLooks := .later }
def FnExactJsonPutUptoCardSaid : Prop := Claim7.holds Tryd.pinned (.plain (OpenSpec.upto fnExactJsonPutSpec)) fnExactJsonPutUptoCard

/-- THE SECOND FORM's CARD OF 'laws.FnExactAskPut'. -/
def fnExactAskPutUptoCard : Claim7 := { stood := { row := fnExactAskPutUptoRow, standIns := [], harness := (true, "12b921e9f032857623ceb9b8a439cdfa021e77ba12e0032beb319be8672aa40e"), looks := true }, kinds := [], alts := [], laidByText := true, laidKinds := [.data, .data, .data], laidTests := true, laidLooks := .later }
def FnExactAskPutUptoCardSaid : Prop := Claim7.holds Tryd.pinned (.plain (OpenSpec.upto fnExactAskPutSpec)) fnExactAskPutUptoCard

/-- THE SECOND FORM's CARD OF 'laws.FnValueSame'. -/
def fnValueSameUptoCard : Claim7 := { stood := { row := fnValueSameUptoRow, standIns := [], harness := (true, "12b921e9f032857623ceb9b8a439cdfa021e77ba12e0032beb319be8672aa40e"), looks := true }, kinds := [], alts := [], laidByText := true, laidKinds := [.data, .data, .data], laidTests := true, laidLooks := .later }
def FnValueSameUptoCardSaid : Prop := Claim7.holds Tryd.pinned (.plain (OpenSpec.upto fnValueSameSpec)) fnValueSameUptoCard
end Rows
end Go.Proofs.YtegnalfkdponhaaDoor
