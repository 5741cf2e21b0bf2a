
/-
  DERIVED. FROM THE FORM's READING OF A VALUE TO THE VALUE.
-/
import Derived.Test.YtedeeckbgjalcaaDoorReadA
import Derived.Test.YtedeeckbgjalcaaDoorRepV
import Derived.Test.YtedeeckbgjalcaaDoorRows
import Derived.OpenShut
namespace Go.Proofs.YtedeeckbgjalcaaDoor
open Go.ChangeShapes Go.WideShapes Go.ChangeAt Go.RowKit Go.Deep
set_option linter.unusedVariables false
set_option linter.unusedSimpArgs false

theorem cells_string : Tryd.prog.cellsOf 9 = 1 := by kernel_rfl
theorem cells_stringS : Tryd.prog.cellsOf 23 = 1 := by kernel_rfl
theorem cells_int : Tryd.prog.cellsOf 3 = 1 := by kernel_rfl
theorem bytes_string : Tryd.prog.bytesOf 9 = 16 := by kernel_rfl

theorem i64_of_wf {n : Int} (h : (Lit.int .i64 n).wf = true) : I64 n := by
  have := bounds_i64 h
  exact this

theorem strRow_of_trod {H : Type} {enc : TypeId × Value → H} {W : World} {fuel : Nat} {cs : List Value} {x : DataW H × List MemPlace} (h : DataW.trod enc Tryd.prog W 0 (fun _ => true) true fuel 23 cs = some x)
    (hsz : ∀ m ∈ x.1.weights Tryd.prog 23, m ≤ 140737488351232) : ∃ l v, cs = [v] ∧ StrRow W 0 l v :=
  row_of_trod (R := StrR) Tryd.underlying23 cells_string (by omega) bytes_string h hsz (fun n cs' y _ hy hm => by
    obtain ⟨s, rfl, rfl, _⟩ := DataW.trod_string Tryd.underlying9 hy
    exact ⟨s, rfl, by have := hm s.data.toList.length (by simp [DataW.weights]); simpa using this⟩)

end Go.Proofs.YtedeeckbgjalcaaDoor
