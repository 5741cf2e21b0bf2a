/-
  DERIVED. GIVEN WITH THE SEED: THE CARDS: each row of YtnokjfbbafefmaaDoorRows.lean that lists a variable, with what it lists TIED to the program's text (the seventh form; the later family's looks); each row that meets fmt, with fmt's text TOLD by the authors' own Lean function (tested against real Go, not proved from fmt's source: count such statements apart). THE CARD IS WHAT COUNTS. Prove the row's statement (the work); the ties are given (YtnokjfbbafefmaaDoorTie.lean); close each card by the builder's one call (the guide's Derived/Test/ToyasCard.lean, 'card_holds'). Laid BY PROGRAM, IN A SANDBOX (cutbox-door.mjs). By AI agents, Wed Nov 11 2026. No macro, syntax, notation, axiom, sorry.
-/
import Derived.Test.YtnokjfbbafefmaaDoorRows
import GoSem.ClaimSeven
namespace Go.Proofs.YtnokjfbbafefmaaDoor
namespace Rows

/-- THE TIED CARD OF 'laws.FnExactAskPut'. -/
def fnExactAskPutCard : Claim7 := { stood := { row := fnExactAskPutRow, standIns := [], harness := (true, "9a7252b4e6790d9fec6d6308373e908d6d15c11a8936fe999649c901da4b6861"), looks := false }, kinds := [], alts := [], laidByText := true, laidKinds := [.data, .data, .data], laidTests := true, laidLooks := .later }
def FnExactAskPutCardSaid : Prop := Claim7.holds Tryd.pinned (.plain (OpenSpec.ofChange fnExactAskPutSpec)) fnExactAskPutCard

/-- THE SECOND FORM's CARD OF 'laws.FnExactAskPut'. -/
def fnExactAskPutUptoCard : Claim7 := { stood := { row := fnExactAskPutUptoRow, standIns := [], harness := (true, "9a7252b4e6790d9fec6d6308373e908d6d15c11a8936fe999649c901da4b6861"), looks := false }, kinds := [], alts := [], laidByText := true, laidKinds := [.data, .data, .data], laidTests := true, laidLooks := .later }
def FnExactAskPutUptoCardSaid : Prop := Claim7.holds Tryd.pinned (.plain (OpenSpec.upto fnExactAskPutSpec)) fnExactAskPutUptoCard
end Rows
end Go.Proofs.YtnokjfbbafefmaaDoor
