
/-
  DERIVED. FROM THE FORM's READING OF NODES TO THE NODES.
-/
import Derived.Test.YtoploikbbnofbaaReadV
import Derived.Test.YtoploikbbnofbaaRepN
namespace Go.Proofs.Ytoploikbbnofbaa
open Go.ChangeShapes Go.WideShapes Go.ChangeAt Go.RowKit Go.Deep
set_option linter.unusedVariables false
set_option linter.unusedSimpArgs false

theorem cells_Node : Try.prog.cellsOf 41 = 7 := by kernel_rfl
theorem bytes_Node : Try.prog.bytesOf 41 = 104 := by kernel_rfl

set_option maxRecDepth 10000 in
/-- The form's reading of a node leads to the node. -/
theorem nd_of_trod {H : Type} {enc : TypeId × Value → H} {W : World} (fuel : Nat) (cs : List Value) (x : DataW H × List MemPlace) (h : DataW.trod enc Try.prog W 0 (fun _ => true) true fuel 41 cs = some x)
    (hsz : ∀ m ∈ x.1.weights Try.prog 41, m ≤ 140737488351232) : ∃ t, NdR W 0 fuel t cs := by
  obtain ⟨xs, n, rfl, rfl, hl, hlen, hf⟩ := DataW.trod_struct Try.underlying41 h
  have q0 : DataW.trod enc Try.prog W 0 (fun _ => true) true n 3 ((cs.drop 0).take (Try.prog.cellsOf 3)) = xs[0]? := hf 0 _ rfl
  have q1 : DataW.trod enc Try.prog W 0 (fun _ => true) true n 9 ((cs.drop 1).take (Try.prog.cellsOf 9)) = xs[1]? := hf 1 _ rfl
  have q2 : DataW.trod enc Try.prog W 0 (fun _ => true) true n 39 ((cs.drop 2).take (Try.prog.cellsOf 39)) = xs[2]? := hf 2 _ rfl
  rw [cells_Node] at hl
  simp only [cells_string, cells_int, cells_Value] at q0 q1 q2
  match cs, hl, xs, hlen with
  | [c0, c1, c2, c3, c4, c5, c6], _, [y0, y1, y2], _ =>
  simp only [List.drop_zero, List.drop_succ_cons, List.take_succ_cons, List.take_zero, List.getElem?_cons_zero, List.getElem?_cons_succ] at q0 q1 q2
  obtain ⟨id, hi, rfl, wi⟩ := DataW.trod_int Try.underlying3 q0
  obtain ⟨s, hs, rfl, _⟩ := DataW.trod_string Try.underlying9 q1
  have hw : ∀ m, (m = s.size ∨ m ∈ y2.1.weights Try.prog 39) → m ≤ 140737488351232 := by
    intro m hm
    apply hsz
    simp only [DataW.weights, Try.underlying41, List.map_cons, List.map_nil, DataW.weightsEach, List.mem_append]
    rcases hm with rfl | hm
    · exact Or.inr (Or.inl (by simp))
    · exact Or.inr (Or.inr (Or.inl hm))
  obtain ⟨t, ht⟩ := vl_of_trod n _ _ q2 (fun m hm => hw m (Or.inr hm))
  obtain ⟨a, c, a', c', hv⟩ := ht.cells
  simp only [List.cons.injEq, and_true] at hi hs hv
  subst hi hs
  obtain ⟨rfl, rfl, rfl, rfl, rfl⟩ := hv
  exact ⟨⟨id, s, t⟩, _, _, rfl, i64_of_wf wi, hw _ (Or.inl rfl), VlR.succ _ _ _ ht⟩

theorem nds_of_trod {H : Type} {enc : TypeId × Value → H} {W : World} (fuel : Nat) (cs : List Value) (x : DataW H × List MemPlace) (h : DataW.trod enc Try.prog W 0 (fun _ => true) true fuel 22 cs = some x)
    (hsz : ∀ m ∈ x.1.weights Try.prog 22, m ≤ 140737488351232) : ∃ l v, cs = [v] ∧ NdRow W 0 fuel l v := by
  have : Inhabited Nd := ⟨⟨0, ByteArray.empty, ⟨0, 0, ByteArray.empty, [], []⟩⟩⟩
  exact row_of_trod (R := NdR W 0 fuel) Try.underlying22 cells_Node (by omega) bytes_Node h hsz (fun n cs' y hn hy hm => by
    obtain ⟨t, ht⟩ := nd_of_trod n cs' y hy hm
    exact ⟨t, NdR.le (by omega) ht⟩)

end Go.Proofs.Ytoploikbbnofbaa
