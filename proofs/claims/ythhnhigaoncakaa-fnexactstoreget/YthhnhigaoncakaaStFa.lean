
/-
  DERIVED. WHAT A STORE THAT IS OK HAS: no walk.
-/
import Derived.Test.YthhnhigaoncakaaBsF
import Derived.Test.YthhnhigaoncakaaVlFormOf
namespace Go.Proofs.Ythhnhigaoncakaa
open Go.RowKit
set_option linter.unusedVariables false
set_option linter.unusedSimpArgs false

theorem store_node {l : List Nd} (h : storeB l = true) (i : Nat) (hi : i < l.length) : nodeB l i l[i] = true := by
  cases hn : nodeB l i l[i]
  · rw [store_bad hi hn] at h; simp at h
  · rfl
theorem store_len {l : List Nd} (h : storeB l = true) : l.length ≤ 12 := by
  by_cases hl : 1 ≤ l.length ∧ l.length ≤ 12
  · exact hl.2
  · rw [store_long hl] at h; simp at h
theorem store_asc {l : List Nd} (h : storeB l = true) : Asc l := by
  intro i j
  induction j with
  | zero => intro _ hij; omega
  | succ j ih =>
    intro hj hij
    have h1 := store_node h (j + 1) hj
    simp only [nodeB, Bool.and_eq_true] at h1
    have h2 := h1.2
    rw [above_succ hj (by omega)] at h2
    have h3 := of_decide_eq_true h2
    simp only [Nat.add_sub_cancel] at h3
    rcases Nat.lt_succ_iff_lt_or_eq.1 hij with h4 | rfl
    · have := ih (by omega) h4
      omega
    · exact h3
theorem store_cells {l : List Nd} (h : storeB l = true) (i : Nat) (hi : i < l.length) : l[i].cells.kind = 5 ∧ okB false 4 l[i].cells = true := by
  have h1 := store_node h i hi
  simp only [nodeB, Bool.and_eq_true, decide_eq_true_eq] at h1
  exact ⟨h1.1.1.2, h1.1.2⟩
theorem ok_tree_names {k : Nat} {t : Vl} (h5 : t.kind = 5) (h : okB false (k + 1) t = true) : t.names.length = t.list.length := by
  rw [ok_k5 _ _ h5, Bool.and_eq_true] at h
  have h1 := h.2
  simp only [treeB, Bool.and_eq_true, decide_eq_true_eq] at h1
  omega

end Go.Proofs.Ythhnhigaoncakaa
