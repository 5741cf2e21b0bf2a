
/-
  DERIVED. A box of five cells; a value that is marked from 1 on, and held.
-/
import Derived.Test.YthhnhigaoncakaaVlMarkS
import Derived.Test.YthhnhigaoncakaaVlHeld
namespace Go.Proofs.Ythhnhigaoncakaa
open Go.RowKit
set_option linter.unusedVariables false
set_option linter.unusedSimpArgs false

/-- A box of five cells. -/
theorem Owns.five {w : World} {b : Nat} {x0 x1 x2 x3 x4 : Value} {e : TypeId} (h : Owns w b #[x0, x1, x2, x3, x4] e) :
    w.cell? ⟨b, 0, none⟩ = some x0 ∧ w.cell? ⟨b, 1, none⟩ = some x1 ∧ w.cell? ⟨b, 2, none⟩ = some x2 ∧ w.cell? ⟨b, 3, none⟩ = some x3 ∧ w.cell? ⟨b, 4, none⟩ = some x4 :=
  ⟨by rw [h.cell]; rfl, by rw [h.cell]; rfl, by rw [h.cell]; rfl, by rw [h.cell]; rfl, by rw [h.cell]; rfl⟩

theorem markV_one (f lo hi : Nat) (t : Vl) (x0 x1 x2 vl vn : Value) (w : World) (ht : VlO w (f + 1) lo hi t [x0, x1, x2, vl, vn]) (hh : hi ≤ w.heap.size) (hk : cntS (cntE f) t.list + t.names.length ≤ 3145728) :
    Calls Try.prog 11 #[.agg #[x0, x1, x2, vl, vn], .int .i64 1] w fun e w' => e = .returned (.int .i64 ((1 + cntS (cntE f) t.list + t.names.length : Nat) : Int)) ∧ ∃ l' n', l'.length = t.list.length ∧ n'.length = t.names.length ∧ cntS (cntE f) l' = cntS (cntE f) t.list ∧
      MkL (MkE f) (cntE f) 1 l' ∧ MkN (1 + cntS (cntE f) t.list) n' ∧ VlO w' (f + 1) lo hi ⟨t.kind, t.num, t.text, l', n'⟩ [x0, x1, x2, vl, vn] ∧ TurnsP (FootV lo hi) w w' :=
  markValue_any f lo hi 1 t x0 x1 x2 vl vn w ht hh (Nat.le_refl _) (by omega) (markL_all f)
theorem heldV_one (f r : Nat) (t : Vl) (x0 x1 x2 vl vn : Value) (w : World) (ht : VlR w 0 (f + 1) t [x0, x1, x2, vl, vn]) (hM : MkL (MkE f) (cntE f) 1 t.list) (hN : MkN (1 + cntS (cntE f) t.list) t.names) (hk : cntS (cntE f) t.list + t.names.length ≤ 3145728) (hr : 1 + cntS (cntE f) t.list + t.names.length = r) :
    Calls Try.prog 12 #[.agg #[x0, x1, x2, vl, vn], .int .i64 1] w fun e w' => e = .returned (.int .i64 (r : Int)) ∧ Below w.heap.size w w' := by
  subst hr
  exact heldValue_any f 1 t x0 x1 x2 vl vn w ht hM hN (Nat.le_refl _) (by omega)

end Go.Proofs.Ythhnhigaoncakaa
