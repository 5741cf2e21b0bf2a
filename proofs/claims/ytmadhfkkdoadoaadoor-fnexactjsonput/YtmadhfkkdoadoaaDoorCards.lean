/-
  DERIVED. GIVEN WITH THE SEED: THE CARDS: each row of YtmadhfkkdoadoaaDoorRows.lean that lists a variable, with what it lists TIED to the program's text (the seventh form; the later family's looks); each row that meets fmt, with fmt's text TOLD by the authors' own Lean function (tested against real Go, not proved from fmt's source: count such statements apart). THE CARD IS WHAT COUNTS. Prove the row's statement (the work); the ties are given (YtmadhfkkdoadoaaDoorTie.lean); close each card by the builder's one call (the guide's Derived/Test/ToyasCard.lean, 'card_holds'). Laid BY PROGRAM, IN A SANDBOX (cutbox-door.mjs). By AI agents, Wed Nov 11 2026. No macro, syntax, notation, axiom, sorry.
-/
import Derived.Test.YtmadhfkkdoadoaaDoorRows
import GoSem.ClaimSeven
namespace Go.Proofs.YtmadhfkkdoadoaaDoor
namespace Rows

/-- THE TIED CARD OF 'laws.FnExactJsonPut'. -/
def fnExactJsonPutCard : Claim7 := { stood := { row := fnExactJsonPutRow, standIns := [], harness := (true, "83df2da83ab503cdb9ddae4aea12f63467265905cfd42881d4a7d869d93051ac"), looks := true }, kinds := [], alts := [], laidByText := true, laidKinds := [.data, .data, .data], laidTests := true, laidLooks := .later }
def FnExactJsonPutCardSaid : Prop := Claim7.holds Tryd.pinned (.plain (OpenSpec.ofChange fnExactJsonPutSpec)) fnExactJsonPutCard

/-- THE SECOND FORM's CARD OF 'laws.FnExactJsonPut'. -/
def fnExactJsonPutUptoCard : Claim7 := { stood := { row := fnExactJsonPutUptoRow, standIns := [], harness := (true, "83df2da83ab503cdb9ddae4aea12f63467265905cfd42881d4a7d869d93051ac"), looks := true }, kinds := [], alts := [], laidByText := true, laidKinds := [.data, .data, .data], laidTests := true, laidLooks := .later }
def FnExactJsonPutUptoCardSaid : Prop := Claim7.holds Tryd.pinned (.plain (OpenSpec.upto fnExactJsonPutSpec)) fnExactJsonPutUptoCard
end Rows
end Go.Proofs.YtmadhfkkdoadoaaDoor
