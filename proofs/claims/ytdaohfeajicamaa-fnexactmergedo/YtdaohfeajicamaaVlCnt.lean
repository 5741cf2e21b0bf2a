
/-
  DERIVED. HOW MANY MARKS A VALUE HAS. No walk.
-/
import Derived.Test.YtdaohfeajicamaaRepV
namespace Go.Proofs.Ytdaohfeajicamaa
open Go.RowKit
set_option linter.unusedVariables false
set_option linter.unusedSimpArgs false

/-- How many marks a list takes, if each takes so many. -/
def cntS (c : Vl → Nat) : List Vl → Nat
  | [] => 0
  | x :: r => c x + cntS c r
def cntE : Nat → Vl → Nat
  | 0, _ => 0
  | f + 1, x => 3 + cntS (cntE f) x.list + x.names.length

theorem cntS_append (c : Vl → Nat) (a b : List Vl) : cntS c (a ++ b) = cntS c a + cntS c b := by
  induction a with
  | nil => simp [cntS]
  | cons x r ih => simp only [List.cons_append, cntS, ih]; omega
theorem cntS_snoc (c : Vl → Nat) {l : List Vl} {j : Nat} (h : j < l.length) : cntS c (l.take (j + 1)) = cntS c (l.take j) + c l[j] := by
  rw [List.take_succ_eq_append_getElem h, cntS_append]
  simp [cntS]
theorem cntS_take_le (c : Vl → Nat) (l : List Vl) (j : Nat) : cntS c (l.take j) ≤ cntS c l := by
  have h := cntS_append c (l.take j) (l.drop j)
  rw [List.take_append_drop] at h
  omega
theorem cntS_take_congr (c : Vl → Nat) {l m : List Vl} (hl : m.length = l.length) : ∀ (j : Nat), j ≤ l.length → (∀ i (h : i < l.length) (h' : i < m.length), i < j → c m[i] = c l[i]) → cntS c (m.take j) = cntS c (l.take j)
  | 0, _, _ => by simp [cntS]
  | j + 1, hj, h => by
    rw [cntS_snoc c (show j < l.length by omega), cntS_snoc c (show j < m.length by omega), cntS_take_congr c hl j (by omega) (fun i a b d => h i a b (by omega)), h j (by omega) (by omega) (by omega)]
theorem cntS_mem (c : Vl → Nat) {l : List Vl} {x : Vl} (h : x ∈ l) : c x ≤ cntS c l := by
  induction l with
  | nil => simp at h
  | cons y r ih =>
    rcases List.mem_cons.1 h with rfl | h
    · simp only [cntS]; omega
    · have := ih h; simp only [cntS]; omega
theorem cntS_le {c d : Vl → Nat} (h : ∀ x, c x ≤ d x) (l : List Vl) : cntS c l ≤ cntS d l := by
  induction l with
  | nil => exact Nat.le_refl _
  | cons y r ih => have := h y; simp only [cntS]; omega
theorem cntE_succ : ∀ (f : Nat) (x : Vl), cntE f x ≤ cntE (f + 1) x
  | 0, x => Nat.zero_le _
  | f + 1, x => by
    have := cntS_le (cntE_succ f) x.list
    simp only [cntE] at this ⊢
    omega
theorem cntE_le {f g : Nat} (h : f ≤ g) (x : Vl) : cntE f x ≤ cntE g x := by
  induction h with
  | refl => exact Nat.le_refl _
  | step _ ih => exact Nat.le_trans ih (cntE_succ _ _)

end Go.Proofs.Ytdaohfeajicamaa
