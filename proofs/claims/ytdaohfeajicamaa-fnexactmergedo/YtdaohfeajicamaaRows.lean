/-
  NARROWER THAN 'FOR EVERY INPUT', by the rows' own cells (each row's printed sentence says how): FnExactValueSorted: loops · FnExactMergeOf: loops · FnExactMergeDo: loops.
  DERIVED. THE GIVEN ROWS OF THIS SEAT. 6 by the template 'for every input the law returns true; each argument reads behind the call as it read before'; 0 by the template 'total and deterministic' (their statements: YtdaohfeajicamaaTotals.lean).
  GIVEN WITH THE SEED: the statements are not yours to turn. If you find one false, say at which input.
  Laid BY PROGRAM, IN A SANDBOX (cutbox-rows.mjs): the forced cells as the released guide's own fill.sh prints them over the translation 333b03c676bb948d… (all of the seat's roots in one cut). By AI agents, Wed Nov 11 2026. No macro, syntax, notation, axiom, sorry.
-/
import Derived.Test.YtdaohfeajicamaaChecked
import GoSem.Claim
import GoSem.ClaimJoined
import GoSem.ClaimMapViews
import Derived.JoinedTies
import Derived.KernelRfl
namespace Go.Proofs.Ytdaohfeajicamaa
/- THE CELL 'sum', in the pinned program and in every row, IS THE sha256 OF THE DUMP (.gsa) THAT YtdaohfeajicamaaProg.lean LOADS. Nothing in Lean hashes anything: it is a label: what it is worth is what the hold of that sum in a sandbox is worth. -/
noncomputable def Try.pinned : Pinned := { name := "ytdaohfeajicamaa", sum := "333b03c676bb948d09ffb708da02ccf32b8462a4a79b61fbae4d55823e2b92a2", checked := Try.checked }
namespace Rows
def none {H : Type} : Left H := { results := [], args := [] }

/-- 'laws.FnExactValueSorted': WHATEVER THE INPUT: true; the input reads as it did. -/
def fnExactValueSortedSpec : ChangeSpec := { name := "fnExactValueSorted", fn := fun _ => fun
  | [d] => { results := [.lit (.bool true)], args := [d] }
  | _ => none }
def fnExactValueSortedRow : OpenClaim := { program := "ytdaohfeajicamaa", sum := "333b03c676bb948d09ffb708da02ccf32b8462a4a79b61fbae4d55823e2b92a2", func := "loop.example/pergola/laws.FnExactValueSorted", spec := "fnExactValueSorted", inPlace := ["internal/bytealg.abigen_runtime_cmpstring"], unfollowed := true, recurses := true, loops := true, plainKeys := false, apart := false }
def FnExactValueSortedSaid : Prop := fnExactValueSortedRow.holds Try.pinned (OpenSpec.ofChange fnExactValueSortedSpec)

/-- ITS FALSE NEIGHBOUR: 'it returns false'. Refute it at one input. -/
def fnExactValueSortedWrong : ChangeSpec := { name := "fnExactValueSorted", fn := fun _ => fun
  | [d] => { results := [.lit (.bool false)], args := [d] }
  | _ => none }
def FnExactValueSortedWrongFalsely : Prop := fnExactValueSortedRow.holds Try.pinned (OpenSpec.ofChange fnExactValueSortedWrong)

/-- 'laws.FnValueSorted': WHATEVER THE INPUT: true; the input reads as it did. -/
def fnValueSortedSpec : ChangeSpec := { name := "fnValueSorted", fn := fun _ => fun
  | [d] => { results := [.lit (.bool true)], args := [d] }
  | _ => none }
def fnValueSortedRow : OpenClaim := { program := "ytdaohfeajicamaa", sum := "333b03c676bb948d09ffb708da02ccf32b8462a4a79b61fbae4d55823e2b92a2", func := "loop.example/pergola/laws.FnValueSorted", spec := "fnValueSorted", inPlace := ["internal/bytealg.abigen_runtime_cmpstring"], unfollowed := true, recurses := true, plainKeys := false, apart := false }
def FnValueSortedSaid : Prop := fnValueSortedRow.holds Try.pinned (OpenSpec.ofChange fnValueSortedSpec)

/-- ITS FALSE NEIGHBOUR: 'it returns false'. Refute it at one input. -/
def fnValueSortedWrong : ChangeSpec := { name := "fnValueSorted", fn := fun _ => fun
  | [d] => { results := [.lit (.bool false)], args := [d] }
  | _ => none }
def FnValueSortedWrongFalsely : Prop := fnValueSortedRow.holds Try.pinned (OpenSpec.ofChange fnValueSortedWrong)

/-- 'laws.FnExactMergeOf': WHATEVER THE INPUT: true; the input reads as it did. -/
def fnExactMergeOfSpec : ChangeSpec := { name := "fnExactMergeOf", fn := fun _ => fun
  | [d1, d2] => { results := [.lit (.bool true)], args := [d1, d2] }
  | _ => none }
def fnExactMergeOfRow : OpenClaim := { program := "ytdaohfeajicamaa", sum := "333b03c676bb948d09ffb708da02ccf32b8462a4a79b61fbae4d55823e2b92a2", func := "loop.example/pergola/laws.FnExactMergeOf", spec := "fnExactMergeOf", inPlace := ["internal/bytealg.abigen_runtime_cmpstring"], unfollowed := true, recurses := true, loops := true, plainKeys := false, apart := false }
def FnExactMergeOfSaid : Prop := fnExactMergeOfRow.holds Try.pinned (OpenSpec.ofChange fnExactMergeOfSpec)

/-- ITS FALSE NEIGHBOUR: 'it returns false'. Refute it at one input. -/
def fnExactMergeOfWrong : ChangeSpec := { name := "fnExactMergeOf", fn := fun _ => fun
  | [d1, d2] => { results := [.lit (.bool false)], args := [d1, d2] }
  | _ => none }
def FnExactMergeOfWrongFalsely : Prop := fnExactMergeOfRow.holds Try.pinned (OpenSpec.ofChange fnExactMergeOfWrong)

/-- 'laws.FnExactMergeDo': WHATEVER THE INPUT: true; the input reads as it did. -/
def fnExactMergeDoSpec : ChangeSpec := { name := "fnExactMergeDo", fn := fun _ => fun
  | [d1, d2] => { results := [.lit (.bool true)], args := [d1, d2] }
  | _ => none }
def fnExactMergeDoRow : OpenClaim := { program := "ytdaohfeajicamaa", sum := "333b03c676bb948d09ffb708da02ccf32b8462a4a79b61fbae4d55823e2b92a2", func := "loop.example/pergola/laws.FnExactMergeDo", spec := "fnExactMergeDo", inPlace := ["internal/bytealg.abigen_runtime_cmpstring"], unfollowed := true, recurses := true, loops := true, plainKeys := false, apart := false }
def FnExactMergeDoSaid : Prop := fnExactMergeDoRow.holds Try.pinned (OpenSpec.ofChange fnExactMergeDoSpec)

/-- ITS FALSE NEIGHBOUR: 'it returns false'. Refute it at one input. -/
def fnExactMergeDoWrong : ChangeSpec := { name := "fnExactMergeDo", fn := fun _ => fun
  | [d1, d2] => { results := [.lit (.bool false)], args := [d1, d2] }
  | _ => none }
def FnExactMergeDoWrongFalsely : Prop := fnExactMergeDoRow.holds Try.pinned (OpenSpec.ofChange fnExactMergeDoWrong)

/-- 'laws.FnMergeOf': WHATEVER THE INPUT: true; the input reads as it did. -/
def fnMergeOfSpec : ChangeSpec := { name := "fnMergeOf", fn := fun _ => fun
  | [d] => { results := [.lit (.bool true)], args := [d] }
  | _ => none }
def fnMergeOfRow : OpenClaim := { program := "ytdaohfeajicamaa", sum := "333b03c676bb948d09ffb708da02ccf32b8462a4a79b61fbae4d55823e2b92a2", func := "loop.example/pergola/laws.FnMergeOf", spec := "fnMergeOf", inPlace := ["internal/bytealg.abigen_runtime_cmpstring"], unfollowed := true, recurses := true, plainKeys := false, apart := false }
def FnMergeOfSaid : Prop := fnMergeOfRow.holds Try.pinned (OpenSpec.ofChange fnMergeOfSpec)

/-- ITS FALSE NEIGHBOUR: 'it returns false'. Refute it at one input. -/
def fnMergeOfWrong : ChangeSpec := { name := "fnMergeOf", fn := fun _ => fun
  | [d] => { results := [.lit (.bool false)], args := [d] }
  | _ => none }
def FnMergeOfWrongFalsely : Prop := fnMergeOfRow.holds Try.pinned (OpenSpec.ofChange fnMergeOfWrong)

/-- 'laws.FnMergeDo': WHATEVER THE INPUT: true; the input reads as it did. -/
def fnMergeDoSpec : ChangeSpec := { name := "fnMergeDo", fn := fun _ => fun
  | [d] => { results := [.lit (.bool true)], args := [d] }
  | _ => none }
def fnMergeDoRow : OpenClaim := { program := "ytdaohfeajicamaa", sum := "333b03c676bb948d09ffb708da02ccf32b8462a4a79b61fbae4d55823e2b92a2", func := "loop.example/pergola/laws.FnMergeDo", spec := "fnMergeDo", inPlace := ["internal/bytealg.abigen_runtime_cmpstring"], unfollowed := true, recurses := true, plainKeys := false, apart := false }
def FnMergeDoSaid : Prop := fnMergeDoRow.holds Try.pinned (OpenSpec.ofChange fnMergeDoSpec)

/-- ITS FALSE NEIGHBOUR: 'it returns false'. Refute it at one input. -/
def fnMergeDoWrong : ChangeSpec := { name := "fnMergeDo", fn := fun _ => fun
  | [d] => { results := [.lit (.bool false)], args := [d] }
  | _ => none }
def FnMergeDoWrongFalsely : Prop := fnMergeDoRow.holds Try.pinned (OpenSpec.ofChange fnMergeDoWrong)

/- THE SECOND FORM. 'bulk': how many values and letters a reading holds, each counted each time it is reached (what is shared counts as often as it is met; a slice's spare places count too). A statement '..UptoSaid' is the law's where the arguments, and the package variables that the reading takes, are together of bulk at most 1048576: NARROWER than '..Said'. Prove '..Said' where nothing that the law and all that it calls make is longer than what came in: it says more and counts as full. Else prove '..UptoSaid'. A law counts once. -/
mutual
def uptoBulk {H : Type} : DataW H → Nat
  | .lit (.string bytes) => bytes.length + 1
  | .lit _ => 1
  | .nil => 1
  | .ptr d => uptoBulk d + 1
  | .slice elems spare => uptoBulkAll elems + uptoBulkAll spare + 1
  | .agg parts => uptoBulkAll parts + 1
  | .iface _ d => uptoBulk d + 1
  | .map entries => uptoBulkEntries entries + 1
  | .held _ => 1
def uptoBulkAll {H : Type} : List (DataW H) → Nat
  | [] => 0
  | d :: r => uptoBulk d + uptoBulkAll r
def uptoBulkEntries {H : Type} : List (Lit × DataW H) → Nat
  | [] => 0
  | x :: r => uptoBulkEntry x + uptoBulkEntries r
def uptoBulkEntry {H : Type} : Lit × DataW H → Nat
  | (.string bytes, d) => bytes.length + uptoBulk d + 1
  | (_, d) => uptoBulk d + 1
 end
def uptoSmall : (H : Type) → List (DataW H) → Bool := fun _ ds => decide (uptoBulkAll ds ≤ 1048576)
def OpenSpec.upto (s : _root_.Go.ChangeSpec) : _root_.Go.OpenSpec := { _root_.Go.OpenSpec.ofChange s with cond := some uptoSmall }

/-- 'laws.FnExactValueSorted', WHERE WHAT IT READS IS OF BULK AT MOST 1048576: true; the input reads as it did. -/
def fnExactValueSortedUptoRow : OpenClaim := { program := "ytdaohfeajicamaa", sum := "333b03c676bb948d09ffb708da02ccf32b8462a4a79b61fbae4d55823e2b92a2", func := "loop.example/pergola/laws.FnExactValueSorted", spec := "fnExactValueSorted", inPlace := ["internal/bytealg.abigen_runtime_cmpstring"], unfollowed := true, recurses := true, loops := true, plainKeys := false, apart := false, narrowed := true }
def FnExactValueSortedUptoSaid : Prop := fnExactValueSortedUptoRow.holds Try.pinned (OpenSpec.upto fnExactValueSortedSpec)

/-- 'laws.FnValueSorted', WHERE WHAT IT READS IS OF BULK AT MOST 1048576: true; the input reads as it did. -/
def fnValueSortedUptoRow : OpenClaim := { program := "ytdaohfeajicamaa", sum := "333b03c676bb948d09ffb708da02ccf32b8462a4a79b61fbae4d55823e2b92a2", func := "loop.example/pergola/laws.FnValueSorted", spec := "fnValueSorted", inPlace := ["internal/bytealg.abigen_runtime_cmpstring"], unfollowed := true, recurses := true, plainKeys := false, apart := false, narrowed := true }
def FnValueSortedUptoSaid : Prop := fnValueSortedUptoRow.holds Try.pinned (OpenSpec.upto fnValueSortedSpec)

/-- 'laws.FnExactMergeOf', WHERE WHAT IT READS IS OF BULK AT MOST 1048576: true; the input reads as it did. -/
def fnExactMergeOfUptoRow : OpenClaim := { program := "ytdaohfeajicamaa", sum := "333b03c676bb948d09ffb708da02ccf32b8462a4a79b61fbae4d55823e2b92a2", func := "loop.example/pergola/laws.FnExactMergeOf", spec := "fnExactMergeOf", inPlace := ["internal/bytealg.abigen_runtime_cmpstring"], unfollowed := true, recurses := true, loops := true, plainKeys := false, apart := false, narrowed := true }
def FnExactMergeOfUptoSaid : Prop := fnExactMergeOfUptoRow.holds Try.pinned (OpenSpec.upto fnExactMergeOfSpec)

/-- 'laws.FnExactMergeDo', WHERE WHAT IT READS IS OF BULK AT MOST 1048576: true; the input reads as it did. -/
def fnExactMergeDoUptoRow : OpenClaim := { program := "ytdaohfeajicamaa", sum := "333b03c676bb948d09ffb708da02ccf32b8462a4a79b61fbae4d55823e2b92a2", func := "loop.example/pergola/laws.FnExactMergeDo", spec := "fnExactMergeDo", inPlace := ["internal/bytealg.abigen_runtime_cmpstring"], unfollowed := true, recurses := true, loops := true, plainKeys := false, apart := false, narrowed := true }
def FnExactMergeDoUptoSaid : Prop := fnExactMergeDoUptoRow.holds Try.pinned (OpenSpec.upto fnExactMergeDoSpec)

/-- 'laws.FnMergeOf', WHERE WHAT IT READS IS OF BULK AT MOST 1048576: true; the input reads as it did. -/
def fnMergeOfUptoRow : OpenClaim := { program := "ytdaohfeajicamaa", sum := "333b03c676bb948d09ffb708da02ccf32b8462a4a79b61fbae4d55823e2b92a2", func := "loop.example/pergola/laws.FnMergeOf", spec := "fnMergeOf", inPlace := ["internal/bytealg.abigen_runtime_cmpstring"], unfollowed := true, recurses := true, plainKeys := false, apart := false, narrowed := true }
def FnMergeOfUptoSaid : Prop := fnMergeOfUptoRow.holds Try.pinned (OpenSpec.upto fnMergeOfSpec)

/-- 'laws.FnMergeDo', WHERE WHAT IT READS IS OF BULK AT MOST 1048576: true; the input reads as it did. -/
def fnMergeDoUptoRow : OpenClaim := { program := "ytdaohfeajicamaa", sum := "333b03c676bb948d09ffb708da02ccf32b8462a4a79b61fbae4d55823e2b92a2", func := "loop.example/pergola/laws.FnMergeDo", spec := "fnMergeDo", inPlace := ["internal/bytealg.abigen_runtime_cmpstring"], unfollowed := true, recurses := true, plainKeys := false, apart := false, narrowed := true }
def FnMergeDoUptoSaid : Prop := fnMergeDoUptoRow.holds Try.pinned (OpenSpec.upto fnMergeDoSpec)

end Rows
end Go.Proofs.Ytdaohfeajicamaa
