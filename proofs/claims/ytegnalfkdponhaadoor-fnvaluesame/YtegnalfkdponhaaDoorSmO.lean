
/-
  DERIVED. VALUES THAT OWN THEIR MEMORY LIE AT PLACES. No walk.
-/
import Derived.Test.YtegnalfkdponhaaDoorSmP
import Derived.Test.YtegnalfkdponhaaDoorVlOwn
namespace Go.Proofs.YtegnalfkdponhaaDoor
open Go.RowKit
set_option linter.unusedVariables false
set_option linter.unusedSimpArgs false

/-- A value that owns its memory lies at places. -/
theorem VlO.pl {w : World} : ∀ (k lo hi : Nat) (t : Vl) (x y z vl vn : Value), VlO w k lo hi t [x, y, z, vl, vn] → PL w k t.list vl ∧ StrRow w 0 t.names vn
  | 0, _, _, _, _, _, _, _, _, h => h.elim
  | k + 1, lo, hi, t, x, y, z, vl, vn, ⟨vl', vn', q0, q1, h1, _, _, _, h5, h6, h7, h8, h9, h10⟩ => by
    simp only [List.cons.injEq, and_true] at h1
    obtain ⟨_, _, _, rfl, rfl⟩ := h1
    refine ⟨?_, StrO.row h8 (fun _ _ => Nat.zero_le _)⟩
    rcases h7 with ⟨hl, rfl⟩ | ⟨b, c, p, rfl, g1, g2, g3, g4, g5, g6, g7, g8⟩
    · exact Or.inl ⟨hl, none, 0, rfl⟩
    · refine Or.inr ⟨b, 0, t.list.length, rfl, ⟨c, _, g2⟩, g1, fun i hi => ?_⟩
      obtain ⟨cs, a1, a2, a3⟩ := g8 i hi
      obtain ⟨a, c', a', c'', hcs⟩ := a3.cells
      subst hcs
      obtain ⟨r1, r2⟩ := VlO.pl k _ _ _ _ _ _ _ _ a3
      refine ⟨_, _, fun j hj => ?_, r2, r1⟩
      rw [g2.cell, Nat.zero_add, a2 j (by simpa using hj)]

end Go.Proofs.YtegnalfkdponhaaDoor
