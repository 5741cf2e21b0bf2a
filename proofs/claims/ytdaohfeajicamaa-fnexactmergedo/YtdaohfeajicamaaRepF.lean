
/-
  DERIVED. HOW FORMS LIE IN MEMORY (interface values, a type for each kind).
-/
import Derived.Test.YtdaohfeajicamaaRows
import Derived.Test.YtdaohfeajicamaaPlainV
namespace Go.Proofs.Ytdaohfeajicamaa
open Go.RowKit
set_option linter.unusedVariables false
set_option linter.unusedSimpArgs false

/-- The form of a value, at most k deep. -/
def FmR (w : World) (base : Nat) : Nat → Vl → Value → Prop
  | 0, _, _ => False
  | k + 1, t, v =>
    (t.kind = 0 ∧ v = .iface 69 (.agg #[])) ∨
    (t.kind = 1 ∧ v = .iface 70 (.bool (t.num == 1))) ∨
    (t.kind = 2 ∧ v = .iface 71 (.int .i64 t.num)) ∨
    (t.kind = 3 ∧ v = .iface 72 (.string t.text)) ∨
    (t.kind = 4 ∧ ∃ vl, v = .iface 74 vl ∧ Row w base 1 16 (fun x cs => ∃ f, cs = [f] ∧ FmR w base k x f) t.list vl) ∨
    (t.kind = 5 ∧ t.names.length = t.list.length ∧ ∃ vl, v = .iface 78 vl ∧ Row w base 2 32 (fun x cs => ∃ f, cs = [.string x.1, f] ∧ FmR w base k x.2 f) (t.names.zip t.list) vl) ∨
    (t.kind = 6 ∧ v = .iface 81 (.string t.text)) ∨
    (t.kind = 7 ∧ v = .iface 83 (.string t.text))

theorem FmR.iface {w : World} {base k : Nat} {t : Vl} {v : Value} (h : FmR w base k t v) : ∃ T x, v = .iface T x := by
  cases k with
  | zero => exact h.elim
  | succ k =>
    rcases h with ⟨_, h⟩ | ⟨_, h⟩ | ⟨_, h⟩ | ⟨_, h⟩ | ⟨_, vl, h, _⟩ | ⟨_, _, vl, h, _⟩ | ⟨_, h⟩ | ⟨_, h⟩ <;> exact ⟨_, _, h⟩

theorem FmR.keeps {base : Nat} {w w' : World} (hk : Keeps base w w') : ∀ (k : Nat) (t : Vl) (v : Value), FmR w base k t v → FmR w' base k t v
  | 0, _, _, h => h.elim
  | k + 1, t, v, h => by
    rcases h with h | h | h | h | ⟨h1, vl, h2, h3⟩ | ⟨h1, h0, vl, h2, h3⟩ | h | h
    · exact Or.inl h
    · exact Or.inr (Or.inl h)
    · exact Or.inr (Or.inr (Or.inl h))
    · exact Or.inr (Or.inr (Or.inr (Or.inl h)))
    · exact Or.inr (Or.inr (Or.inr (Or.inr (Or.inl ⟨h1, vl, h2, h3.keeps hk (fun x cs ⟨f, a, b⟩ => ⟨f, a, FmR.keeps hk k _ _ b⟩)⟩))))
    · exact Or.inr (Or.inr (Or.inr (Or.inr (Or.inr (Or.inl ⟨h1, h0, vl, h2, h3.keeps hk (fun x cs ⟨f, a, b⟩ => ⟨f, a, FmR.keeps hk k _ _ b⟩)⟩)))))
    · exact Or.inr (Or.inr (Or.inr (Or.inr (Or.inr (Or.inr (Or.inl h))))))
    · exact Or.inr (Or.inr (Or.inr (Or.inr (Or.inr (Or.inr (Or.inr h))))))

theorem FmR.base {base base' : Nat} {w : World} (hb : base' ≤ base) : ∀ (k : Nat) (t : Vl) (v : Value), FmR w base k t v → FmR w base' k t v
  | 0, _, _, h => h.elim
  | k + 1, t, v, h => by
    rcases h with h | h | h | h | ⟨h1, vl, h2, h3⟩ | ⟨h1, h0, vl, h2, h3⟩ | h | h
    · exact Or.inl h
    · exact Or.inr (Or.inl h)
    · exact Or.inr (Or.inr (Or.inl h))
    · exact Or.inr (Or.inr (Or.inr (Or.inl h)))
    · exact Or.inr (Or.inr (Or.inr (Or.inr (Or.inl ⟨h1, vl, h2, h3.base hb (fun x cs ⟨f, a, b⟩ => ⟨f, a, FmR.base hb k _ _ b⟩)⟩))))
    · exact Or.inr (Or.inr (Or.inr (Or.inr (Or.inr (Or.inl ⟨h1, h0, vl, h2, h3.base hb (fun x cs ⟨f, a, b⟩ => ⟨f, a, FmR.base hb k _ _ b⟩)⟩)))))
    · exact Or.inr (Or.inr (Or.inr (Or.inr (Or.inr (Or.inr (Or.inl h))))))
    · exact Or.inr (Or.inr (Or.inr (Or.inr (Or.inr (Or.inr (Or.inr h))))))

/-- A form in one cell. -/
def FmC (w : World) (base k : Nat) (x : Vl) (cs : List Value) : Prop := ∃ f, cs = [f] ∧ FmR w base k x f
/-- A branch in two. -/
def BrC (w : World) (base k : Nat) (x : ByteArray × Vl) (cs : List Value) : Prop := ∃ f, cs = [.string x.1, f] ∧ FmR w base k x.2 f

theorem FmC.keeps {base : Nat} {w w' : World} (hk : Keeps base w w') (k : Nat) (t : Vl) (cs : List Value) (h : FmC w base k t cs) : FmC w' base k t cs := by
  obtain ⟨f, a, b⟩ := h; exact ⟨f, a, FmR.keeps hk k _ _ b⟩
theorem FmC.base {base base' : Nat} {w : World} (hb : base' ≤ base) (k : Nat) (t : Vl) (cs : List Value) (h : FmC w base k t cs) : FmC w base' k t cs := by
  obtain ⟨f, a, b⟩ := h; exact ⟨f, a, FmR.base hb k _ _ b⟩
theorem BrC.keeps {base : Nat} {w w' : World} (hk : Keeps base w w') (k : Nat) (t : ByteArray × Vl) (cs : List Value) (h : BrC w base k t cs) : BrC w' base k t cs := by
  obtain ⟨f, a, b⟩ := h; exact ⟨f, a, FmR.keeps hk k _ _ b⟩
theorem BrC.base {base base' : Nat} {w : World} (hb : base' ≤ base) (k : Nat) (t : ByteArray × Vl) (cs : List Value) (h : BrC w base k t cs) : BrC w base' k t cs := by
  obtain ⟨f, a, b⟩ := h; exact ⟨f, a, FmR.base hb k _ _ b⟩

theorem FmR.list {w : World} {base k : Nat} {t : Vl} {vl : Value} (h : t.kind = 4) (hr : Row w base 1 16 (FmC w base k) t.list vl) : FmR w base (k + 1) t (.iface 74 vl) :=
  Or.inr (Or.inr (Or.inr (Or.inr (Or.inl ⟨h, vl, rfl, hr⟩))))
theorem FmR.tree {w : World} {base k : Nat} {t : Vl} {vl : Value} (h : t.kind = 5) (hl : t.names.length = t.list.length) (hr : Row w base 2 32 (BrC w base k) (t.names.zip t.list) vl) : FmR w base (k + 1) t (.iface 78 vl) :=
  Or.inr (Or.inr (Or.inr (Or.inr (Or.inr (Or.inl ⟨h, hl, vl, rfl, hr⟩)))))

/-- A value has no parts but those that its kind has. -/
def partsB (kd nm : Int) (tx : ByteArray) (n m : Nat) : Bool :=
  ((kd == 1 || kd == 2) || nm == 0) && ((kd == 3 || kd == 6 || kd == 7) || tx.toList.isEmpty) && ((kd == 4 || kd == 5) || decide (n = 0)) && (kd == 5 || decide (m = 0))

end Go.Proofs.Ytdaohfeajicamaa
