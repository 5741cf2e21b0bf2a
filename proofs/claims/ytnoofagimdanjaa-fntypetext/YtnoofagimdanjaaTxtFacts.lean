/-
  DERIVED. What FnTypeText goes by: the text of a type is read back as it. No walk.
-/
import Derived.Test.YtnoofagimdanjaaDrawPut
import Derived.Test.YtnoofagimdanjaaDrawGet
import Derived.Test.YtnoofagimdanjaaPgTy
import Derived.Test.YtnoofagimdanjaaPutAny
import Derived.Test.YtnoofagimdanjaaTyGetI
namespace Go.Proofs.Ytnoofagimdanjaa
open Go.RowKit
set_option linter.unusedVariables false
set_option linter.unusedSimpArgs false

def tyOf (o : Option Ty) : Ty := match o with | some t => t | none => ⟨ByteArray.empty, [], false⟩

theorem uniK {o : Option Ty} {w w' : World} {e : Ending} (h : TyPostK 3 o w e w') :
    ∃ a c, e = .returned (.tuple #[.agg #[.string (tyOf o).name, .slice a (tyOf o).of.length c, .bool (tyOf o).must], .bool o.isSome]) ∧ TyR w' w.heap.size 3 (tyOf o) [.string (tyOf o).name, .slice a (tyOf o).of.length c, .bool (tyOf o).must] ∧ Below w.heap.size w w' := by
  obtain ⟨h1, h2⟩ := h
  cases o with
  | none => exact ⟨none, 0, h1, ⟨_, rfl, by simp [tyOf], Or.inl ⟨rfl, rfl⟩⟩, h2⟩
  | some t => obtain ⟨a, c, he, hR⟩ := h1; exact ⟨a, c, he, hR, h2⟩
theorem uniO {o : Option Ty} {w w' : World} {e : Ending} (h : TyPostO 3 o w e w') :
    ∃ a c, e = .returned (.tuple #[.agg #[.string (tyOf o).name, .slice a (tyOf o).of.length c, .bool (tyOf o).must], .bool o.isSome]) ∧ TyR w' w.heap.size 3 (tyOf o) [.string (tyOf o).name, .slice a (tyOf o).of.length c, .bool (tyOf o).must] ∧ Below w.heap.size w w' := by
  obtain ⟨h1, h2⟩ := h
  cases o with
  | none => exact ⟨none, 0, h1, ⟨_, rfl, by simp [tyOf], Or.inl ⟨rfl, rfl⟩⟩, h2⟩
  | some t => obtain ⟨a, c, he, hR, _⟩ := h1; exact ⟨a, c, he, hR, h2⟩

theorem mustT_list (b : Bool) (s : ByteArray) (l : List UInt8) (h : s.data.toList = l) : (mustT b s).data.toList = mustL b l := by
  cases b <;> simp [mustT, mustL, ByteArray.data_append, h]
theorem textT_list : ∀ (d : Nat) (t : Ty), (textT d t).data.toList = textL d t
  | 0, _ => rfl
  | d + 1, t => by
    rcases ht : t.of with _ | ⟨x, r⟩
    · simp only [textT, textL, ht]; exact mustT_list _ _ _ rfl
    · simp only [textT, textL, ht]; exact mustT_list _ _ _ (by simp [ByteArray.data_append, textT_list d x])

theorem ba_ext {a b : ByteArray} (h : a.data.toList = b.data.toList) : a = b := by
  cases a; cases b; simp only at h; congr; exact Array.toList_inj.1 h

theorem textL_ne : ∀ (d : Nat) (t : Ty), formedB d t = true → textL d t ≠ []
  | 0, _, h => by simp [formedB] at h
  | d + 1, t, h => by
    rcases ht : t.of with _ | ⟨x, r⟩
    · rw [formed_none ht] at h
      rw [textL_none ht]
      intro he
      have hl : t.name.data.toList = [] := by
        cases hm : t.must <;> simp [mustL, hm] at he
        exact congrArg Array.toList he
      rw [hl] at h
      simp [nameB] at h
    · simp only [textL, ht]
      cases t.must <;> simp [mustL]

/-- What is read of the text of a type. -/
theorem read_put (t : Ty) : (formedB 3 t = true ∧ readL 3 (putT t).data.toList = some t ∧ (putT t).data.toList ≠ []) ∨ (formedB 3 t = false ∧ readL 3 (putT t).data.toList = none ∧ (putT t) = ByteArray.empty) := by
  cases hf : formedB 3 t
  · exact Or.inr ⟨rfl, by rw [putT_no hf]; rfl, putT_no hf⟩
  · refine Or.inl ⟨rfl, ?_, ?_⟩
    · rw [putT_yes hf, textT_list]; exact readL_complete 3 t hf
    · rw [putT_yes hf, textT_list]; exact textL_ne 3 t hf

/-- The text of what was read is what was read. -/
theorem put_read {u : ByteArray} {t : Ty} (h : readL 3 u.data.toList = some t) : putT t = u := by
  obtain ⟨h1, h2⟩ := readL_sound 3 _ _ h
  rw [putT_yes h1]
  exact ba_ext (by rw [textT_list]; exact h2.symm)

end Go.Proofs.Ytnoofagimdanjaa
