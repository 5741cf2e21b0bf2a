/-
  laws.FnExactTypePut returns true at every type that it is given, and leaves it as it was: impl.TypePut answers as spec.TypePut. No condition.
  DERIVED. The row's statement, proved out of the walk.
-/
import Derived.Test.YtlmldkkodfgomaaTyPutLaw
import Derived.Test.YtlmldkkodfgomaaReadA
import Derived.WalkKit
import Derived.ProofKit
import Derived.SizedLaws
import Derived.ShutString
import Derived.ChangeOld
import Derived.Below
import Derived.OpenShut
import Derived.Deep.Strs
namespace Go.Proofs.Ytlmldkkodfgomaa
open Go.ChangeShapes Go.WideShapes Go.ChangeAt Go.RowKit Go.Deep
set_option linter.unusedVariables false
set_option linter.unusedSimpArgs false

theorem own : ownKnob Try.prog.godebug = none := by kernel_rfl
theorem laidOut : laidOutB Try.prog = true := by kernel_rfl
theorem cells_Type : Try.prog.cellsOf 24 = 3 := by kernel_rfl
theorem cells_TypeS : Try.prog.cellsOf 22 = 1 := by kernel_rfl
theorem cells_string : Try.prog.cellsOf 9 = 1 := by kernel_rfl
theorem cells_bool : Try.prog.cellsOf 4 = 1 := by kernel_rfl
theorem bytes_Type : Try.prog.bytesOf 24 = 48 := by kernel_rfl

/-- The form's reading of a type leads to the type. -/
theorem ty_of_trod {H : Type} {enc : TypeId × Value → H} {W : World} : ∀ (fuel : Nat) (cs : List Value) (x : DataW H × List MemPlace), DataW.trod enc Try.prog W 0 (fun _ => true) true fuel 24 cs = some x →
    (∀ m ∈ x.1.weights Try.prog 24, m ≤ 140737488351232) → ∃ t, TyR W 0 fuel t cs := by
  intro fuel
  induction fuel using Nat.strongRecOn with
  | _ fuel ih =>
  intro cs x h hsz
  obtain ⟨xs, n, rfl, rfl, hl, hlen, hf⟩ := DataW.trod_struct Try.underlying24 h
  have q0 : DataW.trod enc Try.prog W 0 (fun _ => true) true n 9 ((cs.drop 0).take (Try.prog.cellsOf 9)) = xs[0]? := hf 0 _ rfl
  have q1 : DataW.trod enc Try.prog W 0 (fun _ => true) true n 22 ((cs.drop 1).take (Try.prog.cellsOf 22)) = xs[1]? := hf 1 _ rfl
  have q2 : DataW.trod enc Try.prog W 0 (fun _ => true) true n 4 ((cs.drop 2).take (Try.prog.cellsOf 4)) = xs[2]? := hf 2 _ rfl
  rw [cells_Type] at hl
  simp only [cells_string, cells_bool, cells_TypeS] at q0 q1 q2
  match cs, hl, xs, hlen with
  | [c0, c1, c2], _, [y0, y1, y2], _ =>
  simp only [List.drop_zero, List.drop_succ_cons, List.take_succ_cons, List.take_zero, List.getElem?_cons_zero, List.getElem?_cons_succ] at q0 q1 q2
  obtain ⟨s, hs, rfl, _⟩ := DataW.trod_string Try.underlying9 q0
  obtain ⟨b, hb, rfl⟩ := DataW.trod_bool Try.underlying4 q2
  have hw : ∀ m, (m ∈ (DataW.weights Try.prog 9 (.lit (.string s.data.toList) : DataW H)) ∨ m ∈ y1.1.weights Try.prog 22) → m ≤ 140737488351232 := by
    intro m hm
    apply hsz
    simp only [DataW.weights, Try.underlying24, List.map_cons, List.map_nil, DataW.weightsEach, List.mem_append]
    simp only [DataW.weights] at hm
    rcases hm with hm | hm
    · exact Or.inl hm
    · exact Or.inr (Or.inl hm)
  have hs1 : s.size ≤ 140737488351232 := by
    have := hw s.size (Or.inl (by simp [DataW.weights]))
    exact this
  have : Inhabited Ty := ⟨⟨ByteArray.empty, [], false⟩⟩
  obtain ⟨l, v, hv, hrow⟩ := row_of_trod (R := TyR W 0 n) Try.underlying22 cells_Type (by omega) bytes_Type q1 (fun m hm => hw m (Or.inr hm))
    (fun n' cs' y hn' hy hm => by
      obtain ⟨t, ht⟩ := ih n' (by omega) cs' y hy hm
      exact ⟨t, TyR.le (by omega) ht⟩)
  simp only [List.cons.injEq, and_true] at hs hb hv
  subst hs hb hv
  exact ⟨⟨s, l, b⟩, _, rfl, hs1, hrow⟩

set_option maxRecDepth 100000 in
theorem lifted (os : Os) (started : os.Started) (H : Type) (enc : TypeId × Value → H) :
    ReturnsInHanded {} Try.checked os 3 .any (Rows.fnExactTypePutSpec.pre6 enc Try.prog Try.f3 Rows.fnExactTypePutRow.domain false) (Rows.fnExactTypePutSpec.post enc Try.prog Try.f3 false true false false) := by
  refine returnsInHanded_of_change_sized (C := Try.checked) own started (by kernel_rfl) Try.func3
    (ChangeSpec.witness6 (enc := enc) (C := Try.checked) false ⟨#[], #[.agg #[.string ByteArray.empty, .slice none 0 0, .bool false]], []⟩ 8 (by kernel_rfl) (by kernel_rfl) (by kernel_rfl) (by kernel_rfl)) ?_
  intro W base args ds gs before hval0 hW hcnd hsz0 _
  have hval : ∀ (j : Nat) t v, Try.f3.params[j]? = some t → args[j]? = some v → Value.okWide Try.prog W .any base t v := hval0
  have hW' := hW
  obtain ⟨p, q, hA0, hV, rfl, hfz, hnd⟩ := hW
  have hA : DataW.TrodAll enc Try.prog W 0 (fun _ => true) true Try.f3.params.toList args.toList ds p := hA0
  have hsz : (DataW.weightsEach Try.prog (Try.f3.params.toList ++ Rows.fnExactTypePutSpec.plain.varTypes Try.prog) (ds ++ gs)).all (· ≤ reachBytes) = true := hsz0
  rw [Try.params3] at hA hval hsz
  obtain ⟨v0, vs0, d0, ds0, p0, q0, hargs, rfl, rfl, h0, r0⟩ := trodAll_cons hA
  obtain ⟨rfl, rfl, rfl⟩ := trodAll_nil r0
  obtain rfl : args = #[v0] := by cases args; simp_all
  obtain ⟨rfl, rfl⟩ := trodVars_none hV
  have k0 := h0
  have lt0 : ∀ x ∈ p0, x.block < W.heap.size := by obtain ⟨m, hm⟩ := k0; exact DataW.trod_lt m _ _ _ hm
  obtain ⟨fuel, hf⟩ := h0
  obtain ⟨t, ht⟩ := ty_of_trod fuel _ _ hf (fun m hm => by
    have h1 := List.all_eq_true.1 hsz m (DataW.weights_mem_each (j := 0) (t := 24) (d := d0) rfl rfl m hm)
    exact of_decide_eq_true h1)
  obtain ⟨v, hv⟩ := ht.cells
  rw [hv] at ht
  obtain ⟨cs, rfl, hcs⟩ := okWide_struct Try.underlying24 (hval 0 24 v0 rfl rfl)
  obtain rfl : cs = #[.string t.name, v, .bool t.must] := by
    have h1 : cs.toList = [.string t.name, v, .bool t.must] := by simpa [Value.cells] using hv
    exact Array.toList_inj.1 h1
  clear hA0 hval0
  refine (law_walk fuel t v W ht).mono fun e W' ⟨he, bel⟩ => ?_
  subst he
  exact ⟨_, rfl, _, _, _, [], _, [], hW', trodAll_mk1 (shut_bool Try.underlying4 _), (trodAll_cons_mk (Below.trod laidOut (by kernel_rfl) (of_decide_eq_true (by kernel_rfl)) k0 bel lt0) trodAll_mk0), rfl, bel.frame _, fun h => by cases h⟩

theorem fnExactTypePut_holds : Rows.FnExactTypePutSaid :=
  OpenClaim.holds_of_wide 3 Try.f3 rfl rfl rfl rfl rfl rfl rfl ⟨rfl, rfl, rfl, rfl, rfl⟩ rfl rfl rfl rfl rfl (by kernel_rfl) Try.func3 (by kernel_rfl)
    (of_decide_eq_true (by kernel_rfl)) (by unfold Func.isWrapper; first | (rw [if_pos (by decide +kernel)]; kernel_rfl) | (rw [if_neg (by decide +kernel)]; exact ⟨rfl, rfl⟩))
    (fun os started H enc _ => lifted os started H enc)

end Go.Proofs.Ytlmldkkodfgomaa
