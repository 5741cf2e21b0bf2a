
/-
  DERIVED. THE WALKS OF impl.listFormOf, impl.treeFormOf, impl.formOf, impl.ValueOk.
-/
import Derived.Test.YtaklmcmcgeebiaaVlParts
import Derived.Test.YtaklmcmcgeebiaaNamesOnce
import Derived.Deep.RegionWith
import Derived.BigQuiet
namespace Go.Proofs.Ytaklmcmcgeebiaa
open Go.RowKit
set_option linter.unusedVariables false
set_option linter.unusedSimpArgs false

def listB (words : Bool) (d : Nat) (t : Vl) : Bool := decide (t.list.length ≤ 12) && t.list.all (okB words d)
def treeB (words : Bool) (d : Nat) (t : Vl) : Bool := listB words d t && decide (t.names.length = t.list.length) && onceB [] t.names

theorem info_form : ∃ i, Try.prog.info? 32 = some i ∧ i.zero = some .nilIface ∧ i.size = 1 ∧ i.bytes = 16 := by
  have h : (Try.prog.info? 32).map (fun i => (i.zero, i.size, i.bytes)) = some (some .nilIface, 1, 16) := by kernel_rfl
  obtain ⟨i, h1, h2⟩ := Option.map_eq_some_iff.1 h
  simp only [Prod.mk.injEq] at h2
  exact ⟨i, h1, h2.1, h2.2.1, h2.2.2⟩

theorem ret_pair {x y : Value} {a b : Bool} (h : a = b) (hx : x = y) : Ending.returned (.tuple #[x, .bool a]) = .returned (.tuple #[y, .bool b]) := by rw [h, hx]

theorem info_branch : ∃ i, Try.prog.info? 41 = some i ∧ i.zero = some (.agg #[.string ByteArray.empty, .nilIface]) ∧ i.size = 2 ∧ i.bytes = 32 := by
  have h : (Try.prog.info? 41).map (fun i => (i.zero, i.size, i.bytes)) = some (some (.agg #[.string ByteArray.empty, .nilIface]), 2, 32) := by kernel_rfl
  obtain ⟨i, h1, h2⟩ := Option.map_eq_some_iff.1 h
  simp only [Prod.mk.injEq] at h2
  exact ⟨i, h1, h2.1, h2.2.1, h2.2.2⟩

end Go.Proofs.Ytaklmcmcgeebiaa
