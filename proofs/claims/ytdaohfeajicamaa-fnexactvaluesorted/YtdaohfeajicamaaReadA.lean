
/-
  DERIVED. FROM THE FORM's READING TO MEMORY TOLD BY ROWS: no Go text.
-/
import Derived.Test.YtdaohfeajicamaaRep
import Derived.ProofKit
import Derived.SizedLaws
import Derived.Deep.Slices
namespace Go.Proofs.Ytdaohfeajicamaa
open Go.RowKit Go.Deep
set_option linter.unusedVariables false
set_option linter.unusedSimpArgs false

theorem weightsAll_mem {H : Type} {P : Program} {e : TypeId} : ∀ {ds : List (DataW H)} {d : DataW H}, d ∈ ds → ∀ n ∈ d.weights P e, n ∈ DataW.weightsAll P e ds
  | x :: ds, d, h, n, hn => by
    simp only [DataW.weightsAll, List.mem_append]
    rcases List.mem_cons.1 h with rfl | h
    · exact Or.inl hn
    · exact Or.inr (weightsAll_mem h n hn)
  | [], _, h, _, _ => by simp at h

theorem addr_add (b off n : Nat) : (⟨b, off, none⟩ : Addr).add n = ⟨b, off + n, none⟩ := by
  unfold Addr.add
  by_cases h : n = 0 <;> simp [h]

section
variable {H : Type} {enc : TypeId × Value → H} {P : Program} {w : World} {held : Bool}

/-- A slice that is read leads to a row, if each thing that is read is told by R. -/
theorem row_of_trod {α : Type} [Inhabited α] {t e : TypeId} {c wide fuel : Nat} {cs : List Value} {x : DataW H × List MemPlace} {R : α → List Value → Prop}
    (ht : P.underlying t = some (.slice e)) (hce : P.cellsOf e = c) (hc : 0 < c) (hby : P.bytesOf e = wide) (h : DataW.trod enc P w 0 (fun _ => true) held fuel t cs = some x)
    (hsz : ∀ n ∈ x.1.weights P t, n ≤ 140737488351232)
    (hR : ∀ (n : Nat) (cs' : List Value) (y : DataW H × List MemPlace), n < fuel → DataW.trod enc P w 0 (fun _ => true) held n e cs' = some y → (∀ m ∈ y.1.weights P e, m ≤ 140737488351232) → ∃ z, R z cs') :
    ∃ l v, cs = [v] ∧ Row w 0 c wide R l v := by
  rcases DataW.trod_slice ht h with ⟨rfl, _⟩ | ⟨a, len, cap, elems, rest, n, hn, rfl, rfl, _, hl, hm, hlen, hel, _, _⟩
  · exact ⟨[], _, rfl, Or.inl ⟨rfl, rfl⟩⟩
  have hw : ∀ m ∈ ((elems.length + rest.length) * P.bytesOf e :: (DataW.weightsAll P e (elems.map (·.1)) ++ DataW.weightsAll P e (rest.map (·.1)))), m ≤ 140737488351232 := by
    have h1 := hsz
    simp only [DataW.weights, ht, List.length_map] at h1
    exact h1
  have key : ∀ i, i < len → ∃ z, ∃ cs', w.cells? 0 (a.add (i * c)) c = some cs' ∧ R z cs' := by
    intro i hi
    have h1 := hel i hi
    rw [hce, List.getElem?_eq_getElem (by omega)] at h1
    obtain ⟨cs', h2, h3⟩ := Option.bind_eq_some_iff.1 h1
    obtain ⟨z, hz⟩ := hR n cs' _ (by omega) h3 (fun m hm => hw m (List.mem_cons_of_mem _ (List.mem_append_left _ (weightsAll_mem (List.mem_map_of_mem (List.getElem_mem _)) m hm))))
    exact ⟨z, cs', h2, hz⟩
  obtain ⟨f, hf⟩ := choose_lt (α := α) (p := fun i z => ∃ cs', w.cells? 0 (a.add (i * c)) c = some cs' ∧ R z cs') key
  have hll : ((List.range len).map f).length = len := by simp
  refine ⟨(List.range len).map f, _, rfl, Or.inr ⟨a, cap, by rw [hll], by rw [hll]; exact hl, hm, ?_, ?_⟩⟩
  · rw [hll]
    have h1 := hw _ List.mem_cons_self
    rw [hby] at h1
    have h2 : len * wide ≤ (elems.length + rest.length) * wide := Nat.mul_le_mul_right _ (by omega)
    omega
  · intro i hi
    rw [hll] at hi
    have hspot : a.spot = none := by
      obtain ⟨cs', h1, _⟩ := hf 0 (by omega)
      obtain ⟨_, h2, h3⟩ := World.cells?_some h1
      have h4 := h3 0 hc
      rw [List.getElem?_eq_getElem (by omega)] at h4
      have h5 := World.cell?_spot h4
      simpa [Addr.add] using h5
    obtain ⟨cs', h1, h2⟩ := hf i hi
    obtain ⟨_, h3, h4⟩ := World.cells?_some h1
    refine ⟨Nat.zero_le _, hspot, cs', h3, fun j hj => ?_, by simpa using h2⟩
    have h5 := h4 j (by omega)
    rw [add_add] at h5
    rw [← h5]
    obtain ⟨b, off, sp⟩ := a
    simp only at hspot
    subst hspot
    rw [addr_add, Nat.add_assoc]
end

theorem TyR.succ {w : World} {base : Nat} : ∀ (k : Nat) (t : Ty) (cs : List Value), TyR w base k t cs → TyR w base (k + 1) t cs
  | 0, _, _, h => h.elim
  | k + 1, t, cs, ⟨v, h1, h2, h3⟩ => ⟨v, h1, h2, h3.imp (TyR.succ k)⟩
theorem TyR.le {w : World} {base k k' : Nat} (h : k ≤ k') {t : Ty} {cs : List Value} (ht : TyR w base k t cs) : TyR w base k' t cs := by
  induction h with
  | refl => exact ht
  | step _ ih => exact TyR.succ _ _ _ ih

end Go.Proofs.Ytdaohfeajicamaa
