
/-
  DERIVED. HOW A TEXT IS WRITTEN, and the walk of impl.writeText.
-/
import Derived.Test.YtnokjfbbafefmaaDoorJpA
import Derived.Test.YtnokjfbbafefmaaDoorNames
namespace Go.Proofs.YtnokjfbbafefmaaDoor
open Go.RowKit
set_option linter.unusedVariables false
set_option linter.unusedSimpArgs false

/-- The figures of a byte. -/
def figs : ByteArray := ⟨#[48, 49, 50, 51, 52, 53, 54, 55, 56, 57, 97, 98, 99, 100, 101, 102]⟩
def hexU (n : Nat) : UInt8 := figs.data.getD n 0
/-- How a byte is written within a text. -/
def qByte (c : UInt8) : List UInt8 :=
  if c.toNat = 34 ∨ c.toNat = 92 then [92, c] else if c.toNat = 10 then [92, 110] else if c.toNat < 32 ∨ 126 < c.toNat then [92, 117, 48, 48, hexU (c.toNat / 16), hexU (c.toNat % 16)] else [c]
def qAll (l : List UInt8) : List UInt8 := l.flatMap qByte
def qTxt (l : List UInt8) : List UInt8 := 34 :: qAll l ++ [34]
theorem hex_at (n : Nat) (h : n < figs.size) : ((figs[n]'h).toNat : Int) = ((hexU n).toNat : Int) := by
  have h' : n < figs.data.size := h
  have : figs[n]'h = hexU n := by
    show figs.data[n]'h' = figs.data.getD n 0
    unfold Array.getD
    rw [dif_pos h']
    rfl
  rw [this]
theorem qByte_len (c : UInt8) : (qByte c).length ≤ 6 := by
  unfold qByte
  split
  · simp
  · split
    · simp
    · split <;> simp
theorem qAll_len (l : List UInt8) : (qAll l).length ≤ 6 * l.length := by
  induction l with
  | nil => simp [qAll]
  | cons c l ih =>
    have := qByte_len c
    simp only [qAll, List.flatMap_cons, List.length_append, List.length_cons] at ih ⊢
    omega
theorem qAll_snoc (l : List UInt8) (c : UInt8) : qAll (l ++ [c]) = qAll l ++ qByte c := by simp [qAll]

end Go.Proofs.YtnokjfbbafefmaaDoor
