
/-
  DERIVED. FROM THE FORM's READING TO MEMORY TOLD BY ROWS: no Go text.
-/
import Derived.Test.YtdaohfeajicamaaRep
import Derived.ProofKit
import Derived.SizedLaws
import Derived.Deep.Slices
import Derived.Test.YtdaohfeajicamaaRepV
import Derived.Test.YtdaohfeajicamaaRows
import Derived.OpenShut
namespace Go.Proofs.Ytdaohfeajicamaa
open Go.RowKit Go.Deep
set_option linter.unusedVariables false
set_option linter.unusedSimpArgs false

theorem weightsAll_mem {H : Type} {P : Program} {e : TypeId} : ∀ {ds : List (DataW H)} {d : DataW H}, d ∈ ds → ∀ n ∈ d.weights P e, n ∈ DataW.weightsAll P e ds
  | x :: ds, d, h, n, hn => by
    simp only [DataW.weightsAll, List.mem_append]
    rcases List.mem_cons.1 h with rfl | h
    · exact Or.inl hn
    · exact Or.inr (weightsAll_mem h n hn)
  | [], _, h, _, _ => by simp at h

theorem addr_add (b off n : Nat) : (⟨b, off, none⟩ : Addr).add n = ⟨b, off + n, none⟩ := by
  unfold Addr.add
  by_cases h : n = 0 <;> simp [h]

section
variable {H : Type} {enc : TypeId × Value → H} {P : Program} {w : World} {held : Bool}

/-- A slice that is read leads to a row, if each thing that is read is told by R. -/
theorem row_of_trod {α : Type} [Inhabited α] {t e : TypeId} {c wide fuel : Nat} {cs : List Value} {x : DataW H × List MemPlace} {R : α → List Value → Prop}
    (ht : P.underlying t = some (.slice e)) (hce : P.cellsOf e = c) (hc : 0 < c) (hby : P.bytesOf e = wide) (h : DataW.trod enc P w 0 (fun _ => true) held fuel t cs = some x)
    (hsz : ∀ n ∈ x.1.weights P t, n ≤ 140737488351232)
    (hR : ∀ (n : Nat) (cs' : List Value) (y : DataW H × List MemPlace), n < fuel → DataW.trod enc P w 0 (fun _ => true) held n e cs' = some y → (∀ m ∈ y.1.weights P e, m ≤ 140737488351232) → ∃ z, R z cs') :
    ∃ l v, cs = [v] ∧ Row w 0 c wide R l v := by
  rcases DataW.trod_slice ht h with ⟨rfl, _⟩ | ⟨a, len, cap, elems, rest, n, hn, rfl, rfl, _, hl, hm, hlen, hel, _, _⟩
  · exact ⟨[], _, rfl, Or.inl ⟨rfl, rfl⟩⟩
  have hw : ∀ m ∈ ((elems.length + rest.length) * P.bytesOf e :: (DataW.weightsAll P e (elems.map (·.1)) ++ DataW.weightsAll P e (rest.map (·.1)))), m ≤ 140737488351232 := by
    have h1 := hsz
    simp only [DataW.weights, ht, List.length_map] at h1
    exact h1
  have key : ∀ i, i < len → ∃ z, ∃ cs', w.cells? 0 (a.add (i * c)) c = some cs' ∧ R z cs' := by
    intro i hi
    have h1 := hel i hi
    rw [hce, List.getElem?_eq_getElem (by omega)] at h1
    obtain ⟨cs', h2, h3⟩ := Option.bind_eq_some_iff.1 h1
    obtain ⟨z, hz⟩ := hR n cs' _ (by omega) h3 (fun m hm => hw m (List.mem_cons_of_mem _ (List.mem_append_left _ (weightsAll_mem (List.mem_map_of_mem (List.getElem_mem _)) m hm))))
    exact ⟨z, cs', h2, hz⟩
  obtain ⟨f, hf⟩ := choose_lt (α := α) (p := fun i z => ∃ cs', w.cells? 0 (a.add (i * c)) c = some cs' ∧ R z cs') key
  have hll : ((List.range len).map f).length = len := by simp
  refine ⟨(List.range len).map f, _, rfl, Or.inr ⟨a, cap, by rw [hll], by rw [hll]; exact hl, hm, ?_, ?_⟩⟩
  · rw [hll]
    have h1 := hw _ List.mem_cons_self
    rw [hby] at h1
    have h2 : len * wide ≤ (elems.length + rest.length) * wide := Nat.mul_le_mul_right _ (by omega)
    omega
  · intro i hi
    rw [hll] at hi
    have hspot : a.spot = none := by
      obtain ⟨cs', h1, _⟩ := hf 0 (by omega)
      obtain ⟨_, h2, h3⟩ := World.cells?_some h1
      have h4 := h3 0 hc
      rw [List.getElem?_eq_getElem (by omega)] at h4
      have h5 := World.cell?_spot h4
      simpa [Addr.add] using h5
    obtain ⟨cs', h1, h2⟩ := hf i hi
    obtain ⟨_, h3, h4⟩ := World.cells?_some h1
    refine ⟨Nat.zero_le _, hspot, cs', h3, fun j hj => ?_, by simpa using h2⟩
    have h5 := h4 j (by omega)
    rw [add_add] at h5
    rw [← h5]
    obtain ⟨b, off, sp⟩ := a
    simp only at hspot
    subst hspot
    rw [addr_add, Nat.add_assoc]
end

theorem TyR.succ {w : World} {base : Nat} : ∀ (k : Nat) (t : Ty) (cs : List Value), TyR w base k t cs → TyR w base (k + 1) t cs
  | 0, _, _, h => h.elim
  | k + 1, t, cs, ⟨v, h1, h2, h3⟩ => ⟨v, h1, h2, h3.imp (TyR.succ k)⟩
theorem TyR.le {w : World} {base k k' : Nat} (h : k ≤ k') {t : Ty} {cs : List Value} (ht : TyR w base k t cs) : TyR w base k' t cs := by
  induction h with
  | refl => exact ht
  | step _ ih => exact TyR.succ _ _ _ ih

end Go.Proofs.Ytdaohfeajicamaa

namespace Go.Proofs.Ytdaohfeajicamaa
open Go.ChangeShapes Go.WideShapes Go.ChangeAt Go.RowKit Go.Deep
set_option linter.unusedVariables false
set_option linter.unusedSimpArgs false

theorem cells_Value : Try.prog.cellsOf 25 = 5 := by kernel_rfl
theorem cells_ValueS : Try.prog.cellsOf 22 = 1 := by kernel_rfl
theorem cells_string : Try.prog.cellsOf 9 = 1 := by kernel_rfl
theorem cells_stringS : Try.prog.cellsOf 23 = 1 := by kernel_rfl
theorem cells_int : Try.prog.cellsOf 3 = 1 := by kernel_rfl
theorem bytes_Value : Try.prog.bytesOf 25 = 80 := by kernel_rfl
theorem bytes_string : Try.prog.bytesOf 9 = 16 := by kernel_rfl

theorem i64_of_wf {n : Int} (h : (Lit.int .i64 n).wf = true) : I64 n := by
  have := bounds_i64 h
  exact this

theorem strRow_of_trod {H : Type} {enc : TypeId × Value → H} {W : World} {fuel : Nat} {cs : List Value} {x : DataW H × List MemPlace} (h : DataW.trod enc Try.prog W 0 (fun _ => true) true fuel 23 cs = some x)
    (hsz : ∀ m ∈ x.1.weights Try.prog 23, m ≤ 140737488351232) : ∃ l v, cs = [v] ∧ StrRow W 0 l v :=
  row_of_trod (R := StrR) Try.underlying23 cells_string (by omega) bytes_string h hsz (fun n cs' y _ hy hm => by
    obtain ⟨s, rfl, rfl, _⟩ := DataW.trod_string Try.underlying9 hy
    exact ⟨s, rfl, by have := hm s.data.toList.length (by simp [DataW.weights]); simpa using this⟩)

set_option maxRecDepth 10000 in
/-- The form's reading of a value leads to the value. -/
theorem vl_of_trod {H : Type} {enc : TypeId × Value → H} {W : World} : ∀ (fuel : Nat) (cs : List Value) (x : DataW H × List MemPlace), DataW.trod enc Try.prog W 0 (fun _ => true) true fuel 25 cs = some x →
    (∀ m ∈ x.1.weights Try.prog 25, m ≤ 140737488351232) → ∃ t, VlR W 0 fuel t cs := by
  intro fuel
  induction fuel using Nat.strongRecOn with
  | _ fuel ih =>
  intro cs x h hsz
  obtain ⟨xs, n, rfl, rfl, hl, hlen, hf⟩ := DataW.trod_struct Try.underlying25 h
  have q0 : DataW.trod enc Try.prog W 0 (fun _ => true) true n 3 ((cs.drop 0).take (Try.prog.cellsOf 3)) = xs[0]? := hf 0 _ rfl
  have q1 : DataW.trod enc Try.prog W 0 (fun _ => true) true n 3 ((cs.drop 1).take (Try.prog.cellsOf 3)) = xs[1]? := hf 1 _ rfl
  have q2 : DataW.trod enc Try.prog W 0 (fun _ => true) true n 9 ((cs.drop 2).take (Try.prog.cellsOf 9)) = xs[2]? := hf 2 _ rfl
  have q3 : DataW.trod enc Try.prog W 0 (fun _ => true) true n 22 ((cs.drop 3).take (Try.prog.cellsOf 22)) = xs[3]? := hf 3 _ rfl
  have q4 : DataW.trod enc Try.prog W 0 (fun _ => true) true n 23 ((cs.drop 4).take (Try.prog.cellsOf 23)) = xs[4]? := hf 4 _ rfl
  rw [cells_Value] at hl
  simp only [cells_string, cells_int, cells_ValueS, cells_stringS] at q0 q1 q2 q3 q4
  match cs, hl, xs, hlen with
  | [c0, c1, c2, c3, c4], _, [y0, y1, y2, y3, y4], _ =>
  simp only [List.drop_zero, List.drop_succ_cons, List.take_succ_cons, List.take_zero, List.getElem?_cons_zero, List.getElem?_cons_succ] at q0 q1 q2 q3 q4
  obtain ⟨kd, hk, rfl, wk⟩ := DataW.trod_int Try.underlying3 q0
  obtain ⟨nm, hn, rfl, wn⟩ := DataW.trod_int Try.underlying3 q1
  obtain ⟨s, hs, rfl, _⟩ := DataW.trod_string Try.underlying9 q2
  have hw : ∀ m, (m = s.size ∨ m ∈ y3.1.weights Try.prog 22 ∨ m ∈ y4.1.weights Try.prog 23) → m ≤ 140737488351232 := by
    intro m hm
    apply hsz
    simp only [DataW.weights, Try.underlying25, List.map_cons, List.map_nil, DataW.weightsEach, List.mem_append]
    rcases hm with rfl | hm | hm
    · exact Or.inr (Or.inr (Or.inl (by simp)))
    · exact Or.inr (Or.inr (Or.inr (Or.inl hm)))
    · exact Or.inr (Or.inr (Or.inr (Or.inr (Or.inl hm))))
  have : Inhabited Vl := ⟨⟨0, 0, ByteArray.empty, [], []⟩⟩
  obtain ⟨l, v, hv, hrow⟩ := row_of_trod (R := VlR W 0 n) Try.underlying22 cells_Value (by omega) bytes_Value q3 (fun m hm => hw m (Or.inr (Or.inl hm)))
    (fun n' cs' y hn' hy hm => by
      obtain ⟨t, ht⟩ := ih n' (by omega) cs' y hy hm
      exact ⟨t, VlR.le (by omega) ht⟩)
  obtain ⟨l', v', hv', hrow'⟩ := strRow_of_trod q4 (fun m hm => hw m (Or.inr (Or.inr hm)))
  simp only [List.cons.injEq, and_true] at hk hn hs hv hv'
  subst hk hn hs hv hv'
  exact ⟨⟨kd, nm, s, l, l'⟩, _, _, rfl, i64_of_wf wk, i64_of_wf wn, hw _ (Or.inl rfl), hrow, hrow'⟩

end Go.Proofs.Ytdaohfeajicamaa
