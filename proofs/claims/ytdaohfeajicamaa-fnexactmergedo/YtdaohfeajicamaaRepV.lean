
/-
  DERIVED. HOW TEXTS IN ROWS, AND VALUES, LIE IN MEMORY: no Go text.
-/
import Derived.Test.YtdaohfeajicamaaRep
namespace Go.Proofs.Ytdaohfeajicamaa
open Go.RowKit
set_option linter.unusedVariables false
set_option linter.unusedSimpArgs false

/-- A text in one cell. -/
def StrR (s : ByteArray) (cs : List Value) : Prop := cs = [.string s] ∧ s.size ≤ 140737488351232
def StrRow (w : World) (base : Nat) (l : List ByteArray) (v : Value) : Prop := Row w base 1 16 StrR l v

theorem StrRow.keeps {base : Nat} {w w' : World} {l : List ByteArray} {v : Value} (hk : Keeps base w w') (h : StrRow w base l v) : StrRow w' base l v := Row.keeps hk (fun _ _ h => h) h
theorem StrRow.base {base base' : Nat} {w : World} {l : List ByteArray} {v : Value} (hb : base' ≤ base) (h : StrRow w base l v) : StrRow w base' l v := Row.base hb (fun _ _ h => h) h
theorem StrRow.len {w : World} {base : Nat} {l : List ByteArray} {v : Value} (h : StrRow w base l v) :
    ∃ a cap, v = .slice a l.length cap ∧ l.length * 16 ≤ 140737488351232 ∧ (l ≠ [] → ∃ b off, a = some ⟨b, off, none⟩ ∧ base ≤ b ∧ ∀ (i : Nat) (h : i < l.length), w.cell? ⟨b, off + i, none⟩ = some (.string l[i]) ∧ l[i].size ≤ 140737488351232) := by
  obtain ⟨a, cap, hv, hw, hr⟩ := Row.len h
  refine ⟨a, cap, hv, hw, fun hne => ?_⟩
  obtain ⟨b, off, ha, hb, hc⟩ := hr hne
  refine ⟨b, off, ha, hb, fun i hi => ?_⟩
  obtain ⟨cs, _, h2, rfl, h3⟩ := hc i hi
  have h4 := h2 0 (by simp)
  rw [Nat.mul_one, Nat.add_zero] at h4
  exact ⟨h4, h3⟩

theorem CellsAt.five {w : World} {b off : Nat} {x y z u v : Value} (h : CellsAt w b off [x, y, z, u, v]) :
    w.cell? ⟨b, off, none⟩ = some x ∧ w.cell? ⟨b, off + 1, none⟩ = some y ∧ w.cell? ⟨b, off + 2, none⟩ = some z ∧ w.cell? ⟨b, off + 3, none⟩ = some u ∧ w.cell? ⟨b, off + 4, none⟩ = some v :=
  ⟨h 0 (by simp), h 1 (by simp), h 2 (by simp), h 3 (by simp), h 4 (by simp)⟩

/-! ### Values -/
structure Vl where
  kind : Int
  num : Int
  text : ByteArray
  list : List Vl
  names : List ByteArray

/-- An int fits. -/
def I64 (n : Int) : Prop := -9223372036854775808 ≤ n ∧ n ≤ 9223372036854775807

/-- A value, at most k deep, in five cells. -/
def VlR (w : World) (base : Nat) : Nat → Vl → List Value → Prop
  | 0, _, _ => False
  | k + 1, t, cs => ∃ vl vn, cs = [.int .i64 t.kind, .int .i64 t.num, .string t.text, vl, vn] ∧ I64 t.kind ∧ I64 t.num ∧ t.text.size ≤ 140737488351232 ∧ Row w base 5 80 (VlR w base k) t.list vl ∧ StrRow w base t.names vn

theorem VlR.cells {w : World} {base k : Nat} {t : Vl} {cs : List Value} (h : VlR w base k t cs) :
    ∃ a c a' c', cs = [.int .i64 t.kind, .int .i64 t.num, .string t.text, .slice a t.list.length c, .slice a' t.names.length c'] := by
  cases k with
  | zero => exact h.elim
  | succ k =>
    obtain ⟨vl, vn, h1, _, _, _, h3, h4⟩ := h
    obtain ⟨a, c, hv, _⟩ := Row.len h3
    obtain ⟨a', c', hv', _⟩ := StrRow.len h4
    subst hv hv'
    exact ⟨a, c, a', c', h1⟩

theorem VlR.keeps {base : Nat} {w w' : World} (hk : Keeps base w w') : ∀ (k : Nat) (t : Vl) (cs : List Value), VlR w base k t cs → VlR w' base k t cs
  | 0, _, _, h => h.elim
  | k + 1, t, cs, ⟨vl, vn, h1, h2, h3, h4, h5, h6⟩ => ⟨vl, vn, h1, h2, h3, h4, h5.keeps hk (VlR.keeps hk k), h6.keeps hk⟩
theorem VlR.base {base base' : Nat} {w : World} (hb : base' ≤ base) : ∀ (k : Nat) (t : Vl) (cs : List Value), VlR w base k t cs → VlR w base' k t cs
  | 0, _, _, h => h.elim
  | k + 1, t, cs, ⟨vl, vn, h1, h2, h3, h4, h5, h6⟩ => ⟨vl, vn, h1, h2, h3, h4, h5.base hb (VlR.base hb k), h6.base hb⟩
theorem VlR.succ {w : World} {base : Nat} : ∀ (k : Nat) (t : Vl) (cs : List Value), VlR w base k t cs → VlR w base (k + 1) t cs
  | 0, _, _, h => h.elim
  | k + 1, t, cs, ⟨vl, vn, h1, h2, h3, h4, h5, h6⟩ => ⟨vl, vn, h1, h2, h3, h4, h5.imp (VlR.succ k), h6⟩
theorem VlR.le {w : World} {base k k' : Nat} (h : k ≤ k') {t : Vl} {cs : List Value} (ht : VlR w base k t cs) : VlR w base k' t cs := by
  induction h with
  | refl => exact ht
  | step _ ih => exact VlR.succ _ _ _ ih
theorem VlRow.keeps {base k : Nat} {w w' : World} {l : List Vl} {v : Value} (hk : Keeps base w w') (h : Row w base 5 80 (VlR w base k) l v) : Row w' base 5 80 (VlR w' base k) l v :=
  Row.keeps hk (VlR.keeps hk k) h
theorem VlRow.base {base base' k : Nat} {w : World} {l : List Vl} {v : Value} (hb : base' ≤ base) (h : Row w base 5 80 (VlR w base k) l v) : Row w base' 5 80 (VlR w base' k) l v :=
  Row.base hb (VlR.base hb k) h

end Go.Proofs.Ytdaohfeajicamaa
