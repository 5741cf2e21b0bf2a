
/-
  DERIVED. HOW GREAT A VALUE IS, one for each value within it: no walk.
-/
import Derived.Test.YtedeeckbgjalcaaVSz
import Derived.Test.YtedeeckbgjalcaaPlainV
import Derived.Test.YtedeeckbgjalcaaVlParts
namespace Go.Proofs.Ytedeeckbgjalcaa
open Go.RowKit
set_option linter.unusedVariables false
set_option linter.unusedSimpArgs false

def vzF : Nat → Vl → Nat
  | 0, _ => 0
  | k + 1, t => sumL (vzF k) t.list + 1
theorem vzF_stable : ∀ (k : Nat) (t : Vl), SizeOf.sizeOf t ≤ k → ∀ m, SizeOf.sizeOf t ≤ m → vzF k t = vzF m t
  | 0, t, h, _, _ => by cases t; simp at h
  | k + 1, t, h, 0, hm => by cases t; simp at hm
  | k + 1, t, h, m + 1, hm => by
    simp only [vzF]
    rw [sumL_congr (fun x hx => by have := Vl.lt_list hx; exact vzF_stable k x (by omega) m (by omega))]
def IsVz (vz : Vl → Nat) : Prop := ∀ t, vz t = sumL vz t.list + 1
theorem exists_vz : ∃ vz, IsVz vz := by
  refine ⟨fun t => vzF (SizeOf.sizeOf t) t, fun t => ?_⟩
  have h0 : SizeOf.sizeOf t = SizeOf.sizeOf t - 1 + 1 := by cases t; simp; omega
  have h1 : vzF (SizeOf.sizeOf t) t = vzF (SizeOf.sizeOf t - 1 + 1) t := by rw [← h0]
  show vzF (SizeOf.sizeOf t) t = _
  rw [h1]
  simp only [vzF]
  rw [sumL_congr (fun x hx => by have := Vl.lt_list hx; exact vzF_stable (SizeOf.sizeOf t - 1) x (by omega) (SizeOf.sizeOf x) (Nat.le_refl _))]

theorem sumL_appendZ (s : Vl → Nat) (a b : List Vl) : sumL s (a ++ b) = sumL s a + sumL s b := by
  induction a with
  | nil => simp [sumL]
  | cons x r ih => simp only [List.cons_append, sumL, ih]; omega
theorem sumL_snocZ (s : Vl → Nat) {l : List Vl} {j : Nat} (h : j < l.length) : sumL s (l.take (j + 1)) = sumL s (l.take j) + s l[j] := by
  rw [List.take_succ_eq_append_getElem h, sumL_appendZ]
  simp [sumL]
theorem sumL_takeZ (s : Vl → Nat) (l : List Vl) (j : Nat) : sumL s (l.take j) ≤ sumL s l := by
  have h := sumL_appendZ s (l.take j) (l.drop j)
  rw [List.take_append_drop] at h
  omega
theorem sumL_memZ {s : Vl → Nat} {l : List Vl} {x : Vl} (h : x ∈ l) : s x ≤ sumL s l := by
  induction l with
  | nil => simp at h
  | cons y r ih =>
    rcases List.mem_cons.1 h with rfl | h
    · simp only [sumL]; omega
    · have := ih h; simp only [sumL]; omega
theorem sumL_leZ {s : Vl → Nat} {m : Nat} : ∀ {l : List Vl}, (∀ x ∈ l, s x ≤ m) → sumL s l ≤ l.length * m
  | [], _ => by simp [sumL]
  | x :: r, h => by
    have h1 := h x List.mem_cons_self
    have h2 := sumL_leZ (l := r) (fun y hy => h y (List.mem_cons_of_mem _ hy))
    simp only [sumL, List.length_cons, Nat.succ_mul]
    omega

def vzM : Nat → Nat
  | 0 => 0
  | d + 1 => 12 * vzM d + 1
/-- A value that fits is not great. -/
theorem vz_ok {words : Bool} {vz : Vl → Nat} (hv : IsVz vz) : ∀ (d : Nat) (t : Vl), okB words d t = true → vz t ≤ vzM d
  | 0, t, h => by simp [okB] at h
  | d + 1, t, h => by
    rw [okB_succ] at h
    simp only [Bool.and_eq_true, List.all_eq_true] at h
    obtain ⟨⟨⟨h1, _⟩, _⟩, h2⟩ := h
    have hlen : t.list.length ≤ 12 := by
      unfold plainB at h1
      repeat' split at h1
      all_goals (simp at h1; try first | omega | simp [h1])
    have h3 := sumL_leZ (s := vz) (m := vzM d) (l := t.list) (fun x hx => vz_ok hv d x (h2 x hx))
    have h4 : t.list.length * vzM d ≤ 12 * vzM d := Nat.mul_le_mul_right _ hlen
    rw [hv t]
    simp only [vzM]
    omega

end Go.Proofs.Ytedeeckbgjalcaa
