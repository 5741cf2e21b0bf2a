
/-
  DERIVED. spec.ValueOk, impl.ValueOk: the walks out of the contracts.
-/
import Derived.Test.YtdaohfeajicamaaVlOk
import Derived.Test.YtdaohfeajicamaaVlFormOf
namespace Go.Proofs.Ytdaohfeajicamaa
open Go.RowKit
set_option linter.unusedVariables false
set_option linter.unusedSimpArgs false

set_option maxHeartbeats 400000 in
theorem specValueOk_any (k : Nat) (t : Vl) (vl vn : Value) (w : World) (ht : VlR w 0 k t [.int .i64 t.kind, .int .i64 t.num, .string t.text, vl, vn]) :
    Calls Try.prog 18 #[.agg #[.int .i64 t.kind, .int .i64 t.num, .string t.text, vl, vn]] w fun e w' => e = .returned (.bool (okB false 6 t)) ∧ Below w.heap.size w w' := by
  have HR : Hid (∀ W, Keeps 0 w W → VlR W 0 k t [.int .i64 t.kind, .int .i64 t.num, .string t.text, vl, vn]) := fun W h => VlR.keeps h _ _ _ ht
  clear ht
  go_enter Try.func18, Try.ntmps18
  go_wp2_with fail
  refine (l1Ok_all false 6 (by omega) k t _ _ _ (HR.out _ ((Keeps.refl _ _).alloc _))).mono ?_
  rintro e w1 ⟨rfl, hb1⟩
  have HB : Hid (Below w.heap.size w w1) := ((Below.refl _ _).alloc (Nat.le_refl _) _).trans (hb1.mono (by simp))
  clear hb1
  go_wp2_with fail
  go_ret
  exact ⟨rfl, HB.out⟩

set_option maxHeartbeats 400000 in
theorem implValueOk_any (k : Nat) (t : Vl) (vl vn : Value) (w : World) (ht : VlR w 0 k t [.int .i64 t.kind, .int .i64 t.num, .string t.text, vl, vn]) :
    Calls Try.prog 20 #[.agg #[.int .i64 t.kind, .int .i64 t.num, .string t.text, vl, vn]] w fun e w' => e = .returned (.bool (okB false 6 t)) ∧ Below w.heap.size w w' := by
  have HR : Hid (∀ W, Keeps 0 w W → VlR W 0 k t [.int .i64 t.kind, .int .i64 t.num, .string t.text, vl, vn]) := fun W h => VlR.keeps h _ _ _ ht
  clear ht
  go_enter Try.func20, Try.ntmps20
  go_wp2_with fail
  refine (form_all false 6 (by omega) k t _ _ _ (HR.out _ ((Keeps.refl _ _).alloc _))).mono ?_
  rintro e w1 ⟨f, rfl, hf, hb1⟩
  have HB : Hid (Below w.heap.size w w1) := ((Below.refl _ _).alloc (Nat.le_refl _) _).trans (hb1.mono (by simp))
  clear hb1 hf
  go_wp2_with fail
  go_ret
  exact ⟨rfl, HB.out⟩

end Go.Proofs.Ytdaohfeajicamaa
