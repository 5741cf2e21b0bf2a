
/-
  DERIVED. THE WALK OF listForm.value().
-/
import Derived.Test.YtaklmcmcgeebiaaFmVal
import Derived.Handy
namespace Go.Proofs.Ytaklmcmcgeebiaa
open Go.RowKit
set_option linter.unusedVariables false
set_option linter.unusedSimpArgs false

theorem setCells_else {b : Nat} : ∀ (cs : List Value) (o : Nat) (w : World) (k : Nat), k ≠ b → (w.setCells b o cs).heap[k]? = w.heap[k]?
  | [], _, _, _, _ => rfl
  | v :: r, o, w, k, h => by
    show ((w.setCell ⟨b, o, none⟩ v).setCells b (o + 1) r).heap[k]? = _
    rw [setCells_else r (o + 1) _ k h, Below.heap_setCell _ _ _ _ h]

theorem size_alloc1 (w : World) (o : Obj) : (w.alloc o).heap.size = w.heap.size + 1 := by simp
theorem size_alloc2 (w : World) (o o' : Obj) : ((w.alloc o).alloc o').heap.size = w.heap.size + 2 := by simp

theorem frozen_filled {w : World} {b n : Nat} {e : TypeId} {α : Type} {R : Nat → Nat → α → List Value → Prop} {l : List α} {j q0 q1 : Nat} (h : FilledO w b n e R q0 q1 l j) (o : Nat) : w.frozen? ⟨b, o, none⟩ = false := by
  obtain ⟨c, p, h1, _⟩ := h
  exact h1.frozen o
theorem Owns.made2 (w : World) (o : Obj) (c : Array Value) (e : TypeId) : Owns ((w.alloc o).alloc (.cells c e)) (w.heap.size + 1) c e := by
  have := Owns.made (w.alloc o) c e
  rwa [size_alloc1] at this

end Go.Proofs.Ytaklmcmcgeebiaa
