/-
  DERIVED. GIVEN WITH THE SEED: THE CARDS: each row of YtedeeckbgjalcaaDoorRows.lean that lists a variable, with what it lists TIED to the program's text (the seventh form; the later family's looks); each row that meets fmt, with fmt's text TOLD by the authors' own Lean function (tested against real Go, not proved from fmt's source: count such statements apart). THE CARD IS WHAT COUNTS. Prove the row's statement (the work); the ties are given (YtedeeckbgjalcaaDoorTie.lean); close each card by the builder's one call (the guide's Derived/Test/ToyasCard.lean, 'card_holds'). Laid BY PROGRAM, IN A SANDBOX (cutbox-door.mjs). By AI agents, Wed Nov 11 2026. No macro, syntax, notation, axiom, sorry.
-/
import Derived.Test.YtedeeckbgjalcaaDoorRows
import GoSem.ClaimSeven
namespace Go.Proofs.YtedeeckbgjalcaaDoor
namespace Rows

/-- THE TIED CARD OF 'laws.FnPointer'. -/
def fnPointerCard : Claim7 := { stood := { row := fnPointerRow, standIns := [], harness := (true, "d19a79d7795be7a3a206fce2f326533b7428dee9b67eb45696e6ae6c079d6035"), looks := true }, kinds := [], alts := [], laidByText := true, laidKinds := [.data, .pinned], laidTests := true, laidLooks := .later }
def FnPointerCardSaid : Prop := Claim7.holds Tryd.pinned (.plain (OpenSpec.ofChange fnPointerSpec)) fnPointerCard

/-- THE TIED CARD OF 'laws.FnValueAt'. -/
def fnValueAtCard : Claim7 := { stood := { row := fnValueAtRow, standIns := [], harness := (true, "d19a79d7795be7a3a206fce2f326533b7428dee9b67eb45696e6ae6c079d6035"), looks := true }, kinds := [], alts := [], laidByText := true, laidKinds := [.data, .data, .data, .sentinel, .sentinel], laidTests := true, laidLooks := .later }
def FnValueAtCardSaid : Prop := Claim7.holds Tryd.pinned (.plain (OpenSpec.ofChange fnValueAtSpec)) fnValueAtCard

/-- THE TIED CARD OF 'laws.FnExactPointerText'. -/
def fnExactPointerTextCard : Claim7 := { stood := { row := fnExactPointerTextRow, standIns := [], harness := (true, "d19a79d7795be7a3a206fce2f326533b7428dee9b67eb45696e6ae6c079d6035"), looks := true }, kinds := [], alts := [], laidByText := true, laidKinds := [.data, .pinned], laidTests := true, laidLooks := .later }
def FnExactPointerTextCardSaid : Prop := Claim7.holds Tryd.pinned (.plain (OpenSpec.ofChange fnExactPointerTextSpec)) fnExactPointerTextCard

/-- THE TIED CARD OF 'laws.FnExactPointerGet'. -/
def fnExactPointerGetCard : Claim7 := { stood := { row := fnExactPointerGetRow, standIns := [], harness := (true, "d19a79d7795be7a3a206fce2f326533b7428dee9b67eb45696e6ae6c079d6035"), looks := true }, kinds := [], alts := [], laidByText := true, laidKinds := [.data, .pinned], laidTests := true, laidLooks := .later }
def FnExactPointerGetCardSaid : Prop := Claim7.holds Tryd.pinned (.plain (OpenSpec.ofChange fnExactPointerGetSpec)) fnExactPointerGetCard

/-- THE SECOND FORM's CARD OF 'laws.FnPointer'. -/
def fnPointerUptoCard : Claim7 := { stood := { row := fnPointerUptoRow, standIns := [], harness := (true, "d19a79d7795be7a3a206fce2f326533b7428dee9b67eb45696e6ae6c079d6035"), looks := true }, kinds := [], alts := [], laidByText := true, laidKinds := [.data, .pinned], laidTests := true, laidLooks := .later }
def FnPointerUptoCardSaid : Prop := Claim7.holds Tryd.pinned (.plain (OpenSpec.upto fnPointerSpec)) fnPointerUptoCard

/-- THE SECOND FORM's CARD OF 'laws.FnValueAt'. -/
def fnValueAtUptoCard : Claim7 := { stood := { row := fnValueAtUptoRow, standIns := [], harness := (true, "d19a79d7795be7a3a206fce2f326533b7428dee9b67eb45696e6ae6c079d6035"), looks := true }, kinds := [], alts := [], laidByText := true, laidKinds := [.data, .data, .data, .sentinel, .sentinel], laidTests := true, laidLooks := .later }
def FnValueAtUptoCardSaid : Prop := Claim7.holds Tryd.pinned (.plain (OpenSpec.upto fnValueAtSpec)) fnValueAtUptoCard

/-- THE SECOND FORM's CARD OF 'laws.FnExactPointerText'. -/
def fnExactPointerTextUptoCard : Claim7 := { stood := { row := fnExactPointerTextUptoRow, standIns := [], harness := (true, "d19a79d7795be7a3a206fce2f326533b7428dee9b67eb45696e6ae6c079d6035"), looks := true }, kinds := [], alts := [], laidByText := true, laidKinds := [.data, .pinned], laidTests := true, laidLooks := .later }
def FnExactPointerTextUptoCardSaid : Prop := Claim7.holds Tryd.pinned (.plain (OpenSpec.upto fnExactPointerTextSpec)) fnExactPointerTextUptoCard

/-- THE SECOND FORM's CARD OF 'laws.FnExactPointerGet'. -/
def fnExactPointerGetUptoCard : Claim7 := { stood := { row := fnExactPointerGetUptoRow, standIns := [], harness := (true, "d19a79d7795be7a3a206fce2f326533b7428dee9b67eb45696e6ae6c079d6035"), looks := true }, kinds := [], alts := [], laidByText := true, laidKinds := [.data, .pinned], laidTests := true, laidLooks := .later }
def FnExactPointerGetUptoCardSaid : Prop := Claim7.holds Tryd.pinned (.plain (OpenSpec.upto fnExactPointerGetSpec)) fnExactPointerGetUptoCard
end Rows
end Go.Proofs.YtedeeckbgjalcaaDoor
