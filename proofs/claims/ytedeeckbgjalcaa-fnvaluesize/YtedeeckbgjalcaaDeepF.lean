
/-
  DERIVED. THE PATH OF A WALK THROUGH LISTS WITHIN LISTS, and what is known by places. No walk.
-/
import Derived.Test.YtedeeckbgjalcaaPlaceMap
namespace Go.Proofs.Ytedeeckbgjalcaa
open Go.RowKit
set_option linter.unusedVariables false
set_option linter.unusedSimpArgs false

theorem Plain.below {B : Nat} {w w' : World} {a : Addr} (h : Plain w a) (hb : Below B w w') (ha : a.block < B) : Plain w' a := by
  obtain ⟨c, e, h⟩ := h
  exact ⟨c, e, by rw [hb.block _ ha]; exact h⟩

/-- All its blocks lie below B. -/
def PIn (w : World) (B : Nat) : Nat → List Vl → Value → Prop
  | 0, l, v => l = [] ∧ ∃ a c, v = .slice a 0 c
  | k + 1, l, v => (l = [] ∧ ∃ a c, v = .slice a 0 c) ∨ ∃ b off c, v = .slice (some ⟨b, off, none⟩) l.length c ∧ b < B ∧ Plain w ⟨b, off, none⟩ ∧ l.length * 80 ≤ 140737488351232 ∧
      ∀ (i : Nat) (h : i < l.length), ∃ vl, w.cell? ⟨b, off + i * 5 + 3, none⟩ = some vl ∧ PIn w B k l[i].list vl

theorem PIn.keep {B : Nat} {w w' : World} (hb : Below B w w') : ∀ (k : Nat) (l : List Vl) (v : Value), PIn w B k l v → PIn w' B k l v
  | 0, _, _, h => h
  | k + 1, l, v, h => by
    rcases h with h | ⟨b, off, c, h1, h2, h3, h4, h5⟩
    · exact Or.inl h
    · refine Or.inr ⟨b, off, c, h1, h2, h3.below hb h2, h4, fun i hi => ?_⟩
      obtain ⟨vl, d1, d2⟩ := h5 i hi
      exact ⟨vl, by rw [hb.cell (p := ⟨b, off + i * 5 + 3, none⟩) h2]; exact d1, PIn.keep hb k _ _ d2⟩
theorem PIn.slice {w : World} {B k : Nat} {l : List Vl} {v : Value} (h : PIn w B k l v) : ∃ a c, v = .slice a l.length c := by
  cases k with
  | zero => obtain ⟨rfl, a, c, h⟩ := h; exact ⟨a, c, h⟩
  | succ k =>
    rcases h with ⟨rfl, a, c, h⟩ | ⟨b, off, c, h, _⟩
    · exact ⟨a, c, h⟩
    · exact ⟨_, c, h⟩
theorem PIn.at {w : World} {B k : Nat} {l : List Vl} {v : Value} (h : PIn w B k l v) (hne : l ≠ []) :
    ∃ b off c m, v = .slice (some ⟨b, off, none⟩) l.length c ∧ b < B ∧ Plain w ⟨b, off, none⟩ ∧ l.length * 80 ≤ 140737488351232 ∧ ∀ (i : Nat) (h : i < l.length), ∃ vl, w.cell? ⟨b, off + i * 5 + 3, none⟩ = some vl ∧ PIn w B m l[i].list vl := by
  cases k with
  | zero => exact absurd h.1 hne
  | succ k =>
    rcases h with ⟨h, _⟩ | ⟨b, off, c, h1, h2, h3, h4, h5⟩
    · exact absurd h hne
    · exact ⟨b, off, c, k, h1, h2, h3, h4, h5⟩

/-- One place has one depth. -/
theorem PIn.dep {dep : Vl → Nat} (hd : IsDep dep) {w : World} {B : Nat} : ∀ (k k' : Nat) (l l' : List Vl) (a : Option Addr) (n c c' : Nat), PIn w B k l (.slice a n c) → PIn w B k' l' (.slice a n c') → maxL dep l = maxL dep l'
  | k, k', l, l', a, n, c, c', h, h' => by
    obtain ⟨a1, c1, e1⟩ := h.slice
    obtain ⟨a2, c2, e2⟩ := h'.slice
    simp only [Value.slice.injEq] at e1 e2
    have hlen : l.length = l'.length := by omega
    by_cases hne : l = []
    · subst hne
      have : l' = [] := List.eq_nil_of_length_eq_zero (by simpa using hlen.symm)
      subst this; rfl
    · have hne' : l' ≠ [] := fun h => hne (List.eq_nil_of_length_eq_zero (by rw [hlen, h]; rfl))
      cases k with
      | zero => exact absurd h.1 hne
      | succ k =>
      cases k' with
      | zero => exact absurd h'.1 hne'
      | succ k' =>
      rcases h with ⟨h, _⟩ | ⟨b, off, d, h1, h2, h3, h4, h5⟩
      · exact absurd h hne
      rcases h' with ⟨h', _⟩ | ⟨b', off', d', g1, g2, g3, g4, g5⟩
      · exact absurd h' hne'
      simp only [Value.slice.injEq] at h1 g1
      have hab : (⟨b, off, none⟩ : Addr) = ⟨b', off', none⟩ := by
        have := h1.1.symm.trans g1.1
        simpa using this
      simp only [Addr.mk.injEq, and_true] at hab
      obtain ⟨rfl, rfl⟩ := hab
      have hel : ∀ i (hi : i < l.length) (hi' : i < l'.length), dep l[i] = dep l'[i] := fun i hi hi' => by
        obtain ⟨vl, p1, p2⟩ := h5 i hi
        obtain ⟨vl', q1, q2⟩ := g5 i hi'
        rw [p1] at q1
        simp only [Option.some.injEq] at q1
        subst q1
        obtain ⟨a3, c3, rfl⟩ := p2.slice
        rw [hd l[i], hd l'[i], PIn.dep hd k k' _ _ _ _ _ _ p2 q2]
      have : ∀ j, j ≤ l.length → maxL dep (l.take j) = maxL dep (l'.take j) := by
        intro j
        induction j with
        | zero => intro _; simp [maxL]
        | succ j ih =>
          intro hj
          rw [maxL_snoc dep (show j < l.length by omega), maxL_snoc dep (show j < l'.length by omega), ih (by omega), hel j (by omega) (by omega)]
      have h6 := this l.length (Nat.le_refl _)
      rw [List.take_length] at h6
      rw [h6, hlen, List.take_length]

end Go.Proofs.Ytedeeckbgjalcaa
