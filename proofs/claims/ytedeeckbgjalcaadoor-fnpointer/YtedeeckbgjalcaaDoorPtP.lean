
/-
  DERIVED. HOW A PATH IS WRITTEN, as bytes: no walk.
-/
import Derived.WalkKit
import Derived.Lib.Replace
import Derived.Lib.SplitLaws
import Derived.Lib.CountLaws
namespace Go.Proofs.YtedeeckbgjalcaaDoor
open Go.Lib
set_option linter.unusedVariables false
set_option linter.unusedSimpArgs false

theorem index_one_eq (c : UInt8) (l : List UInt8) : index (c :: l) [c] = 0 := by simp [index]
theorem index_one_ne {b c : UInt8} (h : b ≠ c) (l : List UInt8) : index (b :: l) [c] = if index l [c] == -1 then -1 else index l [c] + 1 := by
  have h1 : ([c].isPrefixOf (b :: l)) = false := by simp [List.isPrefixOf]; exact fun e => h e.symm
  simp only [index, h1]
  rfl
theorem index_one_nil (c : UInt8) : index [] [c] = -1 := by simp [index]

/-- One byte is replaced wherever it stands. -/
def rep1 (c : UInt8) (new : List UInt8) (s : List UInt8) : List UInt8 := s.flatMap fun x => if x == c then new else [x]
theorem replaceK_one (c : UInt8) (new : List UInt8) : ∀ (s : List UInt8) (k : Nat), count s [c] ≤ k → replaceK [c] new k s = rep1 c new s
  | [], k, _ => by
    cases k with
    | zero => simp [replaceK, rep1]
    | succ k => simp [replaceK, rep1, index_one_nil]
  | x :: s, k, h => by
    by_cases hx : x = c
    · subst hx
      rw [count_cons_eq] at h
      obtain ⟨k', rfl⟩ : ∃ k', k = k' + 1 := ⟨k - 1, by omega⟩
      rw [replaceK_hit [x] new k' (x :: s) 0 (index_one_eq x s)]
      have ih := replaceK_one x new s k' (by omega)
      simp [rep1] at ih ⊢
      exact ih
    · rw [count_cons_ne x c s hx] at h
      have hr : rep1 c new (x :: s) = x :: rep1 c new s := by simp [rep1, hx]
      rw [hr]
      have ih := replaceK_one c new s k h
      cases k with
      | zero => simp only [replaceK] at ih ⊢; rw [← ih]
      | succ k =>
        by_cases hm : index s [c] = -1
        · have h1 : index (x :: s) [c] = -1 := by rw [index_one_ne hx, hm]; rfl
          simp only [replaceK, h1, hm] at ih ⊢
          simp at ih ⊢
          exact ih
        · have hg := index_ge s [c]
          obtain ⟨i, hi⟩ : ∃ i : Nat, index s [c] = i := ⟨(index s [c]).toNat, by omega⟩
          have h1 : index (x :: s) [c] = ((i + 1 : Nat) : Int) := by
            rw [index_one_ne hx, hi]
            have : ((i : Int) == -1) = false := by rw [beq_eq_false_iff_ne]; omega
            rw [this]
            simp
          rw [replaceK_hit [c] new k s i hi] at ih
          rw [replaceK_hit [c] new k (x :: s) (i + 1) h1]
          simp at ih ⊢
          rw [← ih]
theorem replaceAll_one (c : UInt8) (new : List UInt8) (s : List UInt8) (h : new ≠ [c]) : replaceAll s [c] new = rep1 c new s := by
  have hne : ¬ ([c] == new) = true := by rw [beq_iff_eq]; exact fun e => h e.symm
  unfold replaceAll replace replaceNum
  rw [if_neg hne, if_pos (Or.inl (by decide))]
  exact replaceK_one c new s _ (Nat.le_refl _)

/-- A byte of a name, as a path writes it. -/
def escC (x : UInt8) : List UInt8 := if x == 126 then [126, 48] else if x == 47 then [126, 49] else [x]
def escL (s : List UInt8) : List UInt8 := s.flatMap escC
theorem esc_two (s : List UInt8) : replaceAll (replaceAll s [126] [126, 48]) [47] [126, 49] = escL s := by
  rw [replaceAll_one _ _ _ (by decide), replaceAll_one _ _ _ (by decide)]
  unfold rep1 escL
  rw [List.flatMap_assoc]
  congr 1
  funext x
  unfold escC
  by_cases h1 : x = 126
  · subst h1; rfl
  · by_cases h2 : x = 47
    · subst h2; rfl
    · simp [h1, h2]
theorem rep1_length (c a b : UInt8) (s : List UInt8) : (rep1 c [a, b] s).length ≤ 2 * s.length := by
  induction s with
  | nil => simp [rep1]
  | cons x s ih =>
    simp only [rep1, List.flatMap_cons, List.length_append] at ih ⊢
    split <;> simp at ih ⊢ <;> omega
theorem escL_length (s : List UInt8) : (escL s).length ≤ 2 * s.length := by
  induction s with
  | nil => simp [escL]
  | cons x s ih =>
    have he : (escC x).length ≤ 2 := by
      unfold escC
      repeat' split
      all_goals simp
    simp only [escL, List.flatMap_cons, List.length_append, List.length_cons] at ih ⊢
    omega
theorem escL_snoc (s : List UInt8) (x : UInt8) : escL (s ++ [x]) = escL s ++ escC x := by simp [escL]

/-- A path, written. -/
def ptL : List ByteArray → List UInt8
  | [] => []
  | s :: r => 47 :: escL s.data.toList ++ ptL r
theorem ptL_append (a b : List ByteArray) : ptL (a ++ b) = ptL a ++ ptL b := by
  induction a with
  | nil => rfl
  | cons s r ih => simp [ptL, ih]
theorem ptL_snoc {l : List ByteArray} {j : Nat} (h : j < l.length) : ptL (l.take (j + 1)) = ptL (l.take j) ++ 47 :: escL l[j].data.toList := by
  rw [List.take_succ_eq_append_getElem h, ptL_append]
  simp [ptL]
/-- How many bytes texts have, and one for each. -/
def szT : List ByteArray → Nat
  | [] => 0
  | s :: r => s.size + 1 + szT r
theorem szT_append (a b : List ByteArray) : szT (a ++ b) = szT a + szT b := by
  induction a with
  | nil => simp [szT]
  | cons s r ih => simp [szT, ih]; omega
theorem szT_snoc {l : List ByteArray} {j : Nat} (h : j < l.length) : szT (l.take (j + 1)) = szT (l.take j) + l[j].size + 1 := by
  rw [List.take_succ_eq_append_getElem h, szT_append]
  simp [szT]; omega
theorem szT_take (l : List ByteArray) (j : Nat) : szT (l.take j) ≤ szT l := by
  have h := szT_append (l.take j) (l.drop j)
  rw [List.take_append_drop] at h
  omega
theorem ptL_length : ∀ l : List ByteArray, (ptL l).length ≤ 2 * szT l
  | [] => by simp [ptL, szT]
  | s :: r => by
    have h1 := escL_length s.data.toList
    have h2 := ptL_length r
    have h3 : s.data.toList.length = s.size := by simp
    simp only [ptL, szT, List.length_append, List.length_cons]
    omega

end Go.Proofs.YtedeeckbgjalcaaDoor
