
/-
  DERIVED. NODES THAT ARE OK, plainly: no Go text.
-/
import Derived.Test.YthhnhigaoncakaaRepN
import Derived.Test.YthhnhigaoncakaaPlainV
namespace Go.Proofs.Ythhnhigaoncakaa
open Go.RowKit
set_option linter.unusedVariables false
set_option linter.unusedSimpArgs false

def queryText : ByteArray := ⟨#[81, 117, 101, 114, 121]⟩
theorem query_list : queryText.toList = [81, 117, 101, 114, 121] := by rw [ByteArray.toList_eq]; rfl
/-- A number is above that of the node ahead, if there is one. -/
def aboveB (l : List Nd) (i : Nat) (n : Int) : Bool := decide (i = 0) || (match l[i - 1]? with | some y => decide (y.id < n) | none => false)
def nodeB (l : List Nd) (i : Nat) (x : Nd) : Bool := decide (0 ≤ x.id ∧ x.id ≤ 2147483647) && nameB x.type.data.toList && decide (x.cells.kind = 5) && okB false 4 x.cells && aboveB l i x.id
def headB (l : List Nd) : Bool := match l with | [] => false | x :: _ => decide (x.id = 0) && (x.type.toList == queryText.toList)
/-- Nodes are ok. -/
def storeB (l : List Nd) : Bool := (List.range l.length).all (fun i => match l[i]? with | some x => nodeB l i x | none => true) && decide (1 ≤ l.length ∧ l.length ≤ 12) && headB l

theorem above_zero (l : List Nd) (n : Int) : aboveB l 0 n = true := by simp [aboveB]
theorem above_succ {l : List Nd} {i : Nat} (h : i < l.length) (h0 : 0 < i) (n : Int) : aboveB l i n = decide ((l[i - 1]'(by omega)).id < n) := by
  have h1 : l[i - 1]? = some (l[i - 1]'(by omega)) := List.getElem?_eq_getElem _
  have h2 : decide (i = 0) = false := decide_eq_false (by omega)
  simp only [aboveB, h1, h2, Bool.false_or]

theorem store_bad {l : List Nd} {i : Nat} (h : i < l.length) (hb : nodeB l i l[i] = false) : storeB l = false := by
  unfold storeB
  have h1 : (List.range l.length).all (fun i => match l[i]? with | some x => nodeB l i x | none => true) = false := by
    rw [List.all_eq_false]
    refine ⟨i, List.mem_range.2 h, ?_⟩
    simp only [List.getElem?_eq_getElem h, hb]
    decide
  rw [h1]; rfl
theorem store_all {l : List Nd} (h : ∀ (i : Nat) (hi : i < l.length), nodeB l i l[i] = true) : storeB l = (decide (1 ≤ l.length ∧ l.length ≤ 12) && headB l) := by
  unfold storeB
  have h1 : (List.range l.length).all (fun i => match l[i]? with | some x => nodeB l i x | none => true) = true := by
    rw [List.all_eq_true]
    intro i hi
    have hi' := List.mem_range.1 hi
    simp only [List.getElem?_eq_getElem hi']
    exact h i hi'
  rw [h1]; rfl
theorem store_long {l : List Nd} (h : ¬ (1 ≤ l.length ∧ l.length ≤ 12)) : storeB l = false := by
  unfold storeB
  rw [decide_eq_false h]
  simp
theorem store_head {l : List Nd} (h : headB l = false) : storeB l = false := by
  unfold storeB
  rw [h]
  simp
theorem head_eq {l : List Nd} (h : 0 < l.length) : headB l = (decide (l[0].id = 0) && (l[0].type.toList == queryText.toList)) := by
  cases l with
  | nil => simp at h
  | cons x r => rfl

end Go.Proofs.Ythhnhigaoncakaa
