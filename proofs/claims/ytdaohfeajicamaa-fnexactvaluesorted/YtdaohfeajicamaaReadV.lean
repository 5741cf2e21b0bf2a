
/-
  DERIVED. FROM THE FORM's READING OF A VALUE TO THE VALUE.
-/
import Derived.Test.YtdaohfeajicamaaReadA
import Derived.Test.YtdaohfeajicamaaRepV
import Derived.Test.YtdaohfeajicamaaRows
import Derived.OpenShut
namespace Go.Proofs.Ytdaohfeajicamaa
open Go.ChangeShapes Go.WideShapes Go.ChangeAt Go.RowKit Go.Deep
set_option linter.unusedVariables false
set_option linter.unusedSimpArgs false

theorem cells_Value : Try.prog.cellsOf 25 = 5 := by kernel_rfl
theorem cells_ValueS : Try.prog.cellsOf 22 = 1 := by kernel_rfl
theorem cells_string : Try.prog.cellsOf 9 = 1 := by kernel_rfl
theorem cells_stringS : Try.prog.cellsOf 23 = 1 := by kernel_rfl
theorem cells_int : Try.prog.cellsOf 3 = 1 := by kernel_rfl
theorem bytes_Value : Try.prog.bytesOf 25 = 80 := by kernel_rfl
theorem bytes_string : Try.prog.bytesOf 9 = 16 := by kernel_rfl

theorem i64_of_wf {n : Int} (h : (Lit.int .i64 n).wf = true) : I64 n := by
  have := bounds_i64 h
  exact this

theorem strRow_of_trod {H : Type} {enc : TypeId × Value → H} {W : World} {fuel : Nat} {cs : List Value} {x : DataW H × List MemPlace} (h : DataW.trod enc Try.prog W 0 (fun _ => true) true fuel 23 cs = some x)
    (hsz : ∀ m ∈ x.1.weights Try.prog 23, m ≤ 140737488351232) : ∃ l v, cs = [v] ∧ StrRow W 0 l v :=
  row_of_trod (R := StrR) Try.underlying23 cells_string (by omega) bytes_string h hsz (fun n cs' y _ hy hm => by
    obtain ⟨s, rfl, rfl, _⟩ := DataW.trod_string Try.underlying9 hy
    exact ⟨s, rfl, by have := hm s.data.toList.length (by simp [DataW.weights]); simpa using this⟩)

set_option maxRecDepth 10000 in
/-- The form's reading of a value leads to the value. -/
theorem vl_of_trod {H : Type} {enc : TypeId × Value → H} {W : World} : ∀ (fuel : Nat) (cs : List Value) (x : DataW H × List MemPlace), DataW.trod enc Try.prog W 0 (fun _ => true) true fuel 25 cs = some x →
    (∀ m ∈ x.1.weights Try.prog 25, m ≤ 140737488351232) → ∃ t, VlR W 0 fuel t cs := by
  intro fuel
  induction fuel using Nat.strongRecOn with
  | _ fuel ih =>
  intro cs x h hsz
  obtain ⟨xs, n, rfl, rfl, hl, hlen, hf⟩ := DataW.trod_struct Try.underlying25 h
  have q0 : DataW.trod enc Try.prog W 0 (fun _ => true) true n 3 ((cs.drop 0).take (Try.prog.cellsOf 3)) = xs[0]? := hf 0 _ rfl
  have q1 : DataW.trod enc Try.prog W 0 (fun _ => true) true n 3 ((cs.drop 1).take (Try.prog.cellsOf 3)) = xs[1]? := hf 1 _ rfl
  have q2 : DataW.trod enc Try.prog W 0 (fun _ => true) true n 9 ((cs.drop 2).take (Try.prog.cellsOf 9)) = xs[2]? := hf 2 _ rfl
  have q3 : DataW.trod enc Try.prog W 0 (fun _ => true) true n 22 ((cs.drop 3).take (Try.prog.cellsOf 22)) = xs[3]? := hf 3 _ rfl
  have q4 : DataW.trod enc Try.prog W 0 (fun _ => true) true n 23 ((cs.drop 4).take (Try.prog.cellsOf 23)) = xs[4]? := hf 4 _ rfl
  rw [cells_Value] at hl
  simp only [cells_string, cells_int, cells_ValueS, cells_stringS] at q0 q1 q2 q3 q4
  match cs, hl, xs, hlen with
  | [c0, c1, c2, c3, c4], _, [y0, y1, y2, y3, y4], _ =>
  simp only [List.drop_zero, List.drop_succ_cons, List.take_succ_cons, List.take_zero, List.getElem?_cons_zero, List.getElem?_cons_succ] at q0 q1 q2 q3 q4
  obtain ⟨kd, hk, rfl, wk⟩ := DataW.trod_int Try.underlying3 q0
  obtain ⟨nm, hn, rfl, wn⟩ := DataW.trod_int Try.underlying3 q1
  obtain ⟨s, hs, rfl, _⟩ := DataW.trod_string Try.underlying9 q2
  have hw : ∀ m, (m = s.size ∨ m ∈ y3.1.weights Try.prog 22 ∨ m ∈ y4.1.weights Try.prog 23) → m ≤ 140737488351232 := by
    intro m hm
    apply hsz
    simp only [DataW.weights, Try.underlying25, List.map_cons, List.map_nil, DataW.weightsEach, List.mem_append]
    rcases hm with rfl | hm | hm
    · exact Or.inr (Or.inr (Or.inl (by simp)))
    · exact Or.inr (Or.inr (Or.inr (Or.inl hm)))
    · exact Or.inr (Or.inr (Or.inr (Or.inr (Or.inl hm))))
  have : Inhabited Vl := ⟨⟨0, 0, ByteArray.empty, [], []⟩⟩
  obtain ⟨l, v, hv, hrow⟩ := row_of_trod (R := VlR W 0 n) Try.underlying22 cells_Value (by omega) bytes_Value q3 (fun m hm => hw m (Or.inr (Or.inl hm)))
    (fun n' cs' y hn' hy hm => by
      obtain ⟨t, ht⟩ := ih n' (by omega) cs' y hy hm
      exact ⟨t, VlR.le (by omega) ht⟩)
  obtain ⟨l', v', hv', hrow'⟩ := strRow_of_trod q4 (fun m hm => hw m (Or.inr (Or.inr hm)))
  simp only [List.cons.injEq, and_true] at hk hn hs hv hv'
  subst hk hn hs hv hv'
  exact ⟨⟨kd, nm, s, l, l'⟩, _, _, rfl, i64_of_wf wk, i64_of_wf wn, hw _ (Or.inl rfl), hrow, hrow'⟩

end Go.Proofs.Ytdaohfeajicamaa
