/-
  DERIVED. THE TEXT OF A TYPE, no walk.
-/
import Derived.Test.YtlmldkkodfgomaaPlainT
import Derived.WalkKit
namespace Go.Proofs.Ytlmldkkodfgomaa
open Go.RowKit
set_option linter.unusedVariables false
set_option linter.unusedSimpArgs false

/-! ### The text of a type -/
def mustT (b : Bool) (s : ByteArray) : ByteArray := if b then s ++ ⟨#[33]⟩ else s
def textT : Nat → Ty → ByteArray
  | 0, _ => ByteArray.empty
  | d + 1, t => mustT t.must (match t.of with
    | [] => t.name
    | x :: _ => ⟨#[91]⟩ ++ textT d x ++ ⟨#[93]⟩)

theorem mustT_size (b : Bool) (s : ByteArray) : (mustT b s).size ≤ s.size + 1 := by
  cases b <;> simp [mustT, ByteArray.size_append]
  exact Nat.le_refl _

theorem textT_size : ∀ (d : Nat) (t : Ty), formedB d t = true → (textT d t).size ≤ 12 + 3 * d
  | 0, _, h => by simp [formedB] at h
  | d + 1, t, h => by
    match hof : t.of with
    | [] =>
      rw [formed_none hof] at h
      have hm := mustT_size t.must t.name
      simp only [nameB, Bool.and_eq_true, decide_eq_true_eq, len_toList] at h
      simp only [textT, hof]
      omega
    | [x] =>
      rw [formed_one hof, Bool.and_eq_true] at h
      have ih := textT_size d x h.2
      have hm := mustT_size t.must (⟨#[91]⟩ ++ textT d x ++ ⟨#[93]⟩)
      have e1 : (⟨#[91]⟩ : ByteArray).size = 1 := rfl
      have e2 : (⟨#[93]⟩ : ByteArray).size = 1 := rfl
      simp only [ByteArray.size_append, e1, e2] at hm
      simp only [textT, hof]
      omega
    | _ :: _ :: _ => rw [formed_more (by rw [hof]; simp)] at h; simp at h

end Go.Proofs.Ytlmldkkodfgomaa
