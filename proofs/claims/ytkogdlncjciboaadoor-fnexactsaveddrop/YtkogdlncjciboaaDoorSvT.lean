
/-
  DERIVED. DOCUMENTS THAT ARE SAVED, out of the form in which they come in.
-/
import Derived.Test.YtkogdlncjciboaaDoorStrW
import Derived.Test.YtkogdlncjciboaaDoorReadA
import Derived.ProofKit
import Derived.SizedLaws
import Derived.ChangeOld
import Derived.OpenShut
namespace Go.Proofs.YtkogdlncjciboaaDoor
open Go.ChangeShapes Go.WideShapes Go.ChangeAt Go.RowKit Go.Deep
set_option linter.unusedVariables false
set_option linter.unusedSimpArgs false

theorem cells_stringS : Tryd.prog.cellsOf 27 = 1 := by kernel_rfl
theorem cells_string : Tryd.prog.cellsOf 9 = 1 := by kernel_rfl
theorem bytes_string : Tryd.prog.bytesOf 9 = 16 := by kernel_rfl
theorem strRow_of_trod {H : Type} {enc : TypeId × Value → H} {W : World} {fuel : Nat} {cs : List Value} {x : DataW H × List MemPlace} (h : DataW.trod enc Tryd.prog W 0 (fun _ => true) true fuel 27 cs = some x)
    (hsz : ∀ m ∈ x.1.weights Tryd.prog 27, m ≤ 140737488351232) : ∃ l v, cs = [v] ∧ StrRow W 0 l v :=
  row_of_trod (R := StrR) Tryd.underlying27 cells_string (by omega) bytes_string h hsz (fun n cs' y _ hy hm => by
    obtain ⟨s, rfl, rfl, _⟩ := DataW.trod_string Tryd.underlying9 hy
    exact ⟨s, rfl, by have := hm s.data.toList.length (by simp [DataW.weights]); simpa using this⟩)
theorem cells_Saved : Tryd.prog.cellsOf 29 = 1 := by kernel_rfl
theorem saved_of_trod {H : Type} {enc : TypeId × Value → H} {W : World} {fuel : Nat} {cs : List Value} {x : DataW H × List MemPlace} (h : DataW.trod enc Tryd.prog W 0 (fun _ => true) true fuel 29 cs = some x)
    (hsz : ∀ m ∈ x.1.weights Tryd.prog 29, m ≤ 140737488351232) : ∃ k v, cs = [v] ∧ StrRow W 0 k v := by
  obtain ⟨xs, n, rfl, rfl, hl, hlen, hf⟩ := DataW.trod_struct Tryd.underlying29 h
  have q0 : DataW.trod enc Tryd.prog W 0 (fun _ => true) true n 27 ((cs.drop 0).take (Tryd.prog.cellsOf 27)) = xs[0]? := hf 0 _ rfl
  rw [cells_Saved] at hl
  simp only [cells_stringS] at q0
  match cs, hl, xs, hlen with
  | [c0], _, [y0], _ =>
  simp only [List.drop_zero, List.take_succ_cons, List.take_zero, List.getElem?_cons_zero] at q0
  obtain ⟨k, v, hv, hrow⟩ := strRow_of_trod q0 (fun m hm => by
    apply hsz
    simp only [DataW.weights, Tryd.underlying29, List.map_cons, List.map_nil, DataW.weightsEach, List.mem_append]
    exact Or.inl hm)
  simp only [List.cons.injEq, and_true] at hv
  subst hv
  exact ⟨k, _, rfl, hrow⟩

end Go.Proofs.YtkogdlncjciboaaDoor
