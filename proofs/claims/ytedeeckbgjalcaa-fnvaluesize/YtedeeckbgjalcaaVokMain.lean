
/-
  DERIVED. laws.FnValueOk: its walk out of the contracts.
-/
import Derived.Test.YtedeeckbgjalcaaVokLaw
namespace Go.Proofs.Ytedeeckbgjalcaa
open Go.RowKit
set_option linter.unusedVariables false
set_option linter.unusedSimpArgs false

theorem five_ofV {W : World} {b : Nat} {x0 x1 x2 x3 x4 : Value} (h : ∀ o, W.cell? ⟨b, o, none⟩ = #[x0, x1, x2, x3, x4][o]?) :
    W.cell? ⟨b, 0, none⟩ = some x0 ∧ W.cell? ⟨b, 1, none⟩ = some x1 ∧ W.cell? ⟨b, 2, none⟩ = some x2 ∧ W.cell? ⟨b, 3, none⟩ = some x3 ∧ W.cell? ⟨b, 4, none⟩ = some x4 := ⟨h 0, h 1, h 2, h 3, h 4⟩
theorem keeps_belowV {w W W' : World} (h : Keeps 0 w W) (hb : Below W.heap.size W W') : Keeps 0 w W' := h.trans (Keeps.of_below hb (Nat.le_refl _) 0)
theorem owns_keeps {w W : World} {b : Nat} {c : Array Value} {e : TypeId} (h : Owns w b c e) (hk : Keeps 0 w W) : Owns W b c e := by
  have hl := h.lt
  unfold Owns at h ⊢
  rw [hk.block b (Nat.zero_le _) hl]; exact h

/-- impl.ValueDeep, of a value that was drawn. -/
theorem deepQ (dep sz : Vl → Nat) (hd : IsDep dep) (hsz : IsSz sz) (k : Nat) (t : Vl) (x : Option Addr) (xc : Nat) (y : Option Addr) (yc : Nat) (w : World) (hk : k ≤ 100) (h : VlQ w 0 k t [.int .i64 t.kind, .int .i64 t.num, .string t.text, .slice x t.list.length xc, .slice y t.names.length yc]) :
    Calls Try.prog 13 #[.agg #[.int .i64 t.kind, .int .i64 t.num, .string t.text, .slice x t.list.length xc, .slice y t.names.length yc]] w fun e w' => e = .returned (.int .i64 (dep t : Int)) ∧ Below w.heap.size w w' :=
  implDeep_any dep sz hd hsz t _ _ _ _ _ k w (VlQ.pin _ _ _ _ _ _ _ h) (by have := VlQ.depV hd _ _ _ h; omega) ⟨_, _, _, _, rfl, rfl⟩ rfl rfl rfl

/-- impl.ValueDeep, impl.ValueOk, of a list of a value alone. -/
theorem deepX (dep sz : Vl → Nat) (hd : IsDep dep) (hsz : IsSz sz) (t : Vl) (D nb : Nat) (w : World) (hD : dep t = D) (h : VlQ w 0 21 (listOf t) [.int .i64 4, .int .i64 0, .string ⟨#[]⟩, .slice (some ⟨nb, 0, none⟩) 1 1, .slice none 0 0]) :
    Calls Try.prog 13 #[.agg #[.int .i64 4, .int .i64 0, .string ⟨#[]⟩, .slice (some ⟨nb, 0, none⟩) 1 1, .slice none 0 0]] w fun e w' => e = .returned (.int .i64 ((D : Int) + 1)) ∧ Below w.heap.size w w' := by
  refine (deepQ dep sz hd hsz 21 (listOf t) (some ⟨nb, 0, none⟩) 1 none 0 w (by omega) h).mono ?_
  rintro e w' ⟨rfl, hb⟩
  refine ⟨?_, hb⟩
  rw [dep_listV hd, hD]
  rfl
theorem okX (t : Vl) (nb : Nat) (w : World) (b : Bool) (hb : okB false 5 t = b) (h : VlQ w 0 21 (listOf t) [.int .i64 4, .int .i64 0, .string ⟨#[]⟩, .slice (some ⟨nb, 0, none⟩) 1 1, .slice none 0 0]) :
    Calls Try.prog 11 #[.agg #[.int .i64 4, .int .i64 0, .string ⟨#[]⟩, .slice (some ⟨nb, 0, none⟩) 1 1, .slice none 0 0]] w fun e w' => e = .returned (.bool b) ∧ Below w.heap.size w w' := by
  refine (implValueOk_any 21 (listOf t) (.slice (some ⟨nb, 0, none⟩) 1 1) (.slice none 0 0) w (VlQ.read _ _ _ h)).mono ?_
  rintro e w' ⟨rfl, hb'⟩
  refine ⟨?_, hb'⟩
  rw [ok_listV, hb]

end Go.Proofs.Ytedeeckbgjalcaa
