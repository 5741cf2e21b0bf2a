
/-
  DERIVED. HOW GREAT A VALUE IS. No walk.
-/
import Derived.Test.YtdaohfeajicamaaDeepP
namespace Go.Proofs.Ytdaohfeajicamaa
open Go.RowKit
set_option linter.unusedVariables false
set_option linter.unusedSimpArgs false

def sumL (s : Vl → Nat) : List Vl → Nat
  | [] => 0
  | x :: r => s x + sumL s r
theorem sumL_congr {d e : Vl → Nat} {l : List Vl} (h : ∀ x ∈ l, d x = e x) : sumL d l = sumL e l := by
  induction l with
  | nil => rfl
  | cons y r ih => simp only [sumL]; rw [h y List.mem_cons_self, ih (fun x hx => h x (List.mem_cons_of_mem _ hx))]
def szF : Nat → Vl → Nat
  | 0, _ => 0
  | k + 1, t => sumL (szF k) t.list + 2
theorem szF_stable : ∀ (k : Nat) (t : Vl), SizeOf.sizeOf t ≤ k → ∀ m, SizeOf.sizeOf t ≤ m → szF k t = szF m t
  | 0, t, h, _, _ => by cases t; simp at h
  | k + 1, t, h, 0, hm => by cases t; simp at hm
  | k + 1, t, h, m + 1, hm => by
    simp only [szF]
    rw [sumL_congr (fun x hx => by have := Vl.lt_list hx; exact szF_stable k x (by omega) m (by omega))]
def IsSz (sz : Vl → Nat) : Prop := ∀ t, sz t = sumL sz t.list + 2
theorem exists_sz : ∃ sz, IsSz sz := by
  refine ⟨fun t => szF (SizeOf.sizeOf t) t, fun t => ?_⟩
  have h0 : SizeOf.sizeOf t = SizeOf.sizeOf t - 1 + 1 := by cases t; simp; omega
  have h1 : szF (SizeOf.sizeOf t) t = szF (SizeOf.sizeOf t - 1 + 1) t := by rw [← h0]
  show szF (SizeOf.sizeOf t) t = _
  rw [h1]
  simp only [szF]
  rw [sumL_congr (fun x hx => by have := Vl.lt_list hx; exact szF_stable (SizeOf.sizeOf t - 1) x (by omega) (SizeOf.sizeOf x) (Nat.le_refl _))]

end Go.Proofs.Ytdaohfeajicamaa
