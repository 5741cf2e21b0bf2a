
/-
  DERIVED. MARKS OF VALUES, counted and told: no walk.
-/
import Derived.Test.YtdaohfeajicamaaMarkTxt
import Derived.Test.YtdaohfeajicamaaRepV
import Derived.Test.YtdaohfeajicamaaVlCnt
namespace Go.Proofs.Ytdaohfeajicamaa
open Go.RowKit
set_option linter.unusedVariables false
set_option linter.unusedSimpArgs false

/-- Names that were marked from k on. -/
def MkN (k : Nat) (ns : List ByteArray) : Prop := ∀ (i : Nat) (h : i < ns.length), ns[i] = markB (k + i)
/-- A list that was marked from k on. -/
def MkL (R : Nat → Vl → Prop) (c : Vl → Nat) (k : Nat) (l : List Vl) : Prop := ∀ (i : Nat) (h : i < l.length), R (k + cntS c (l.take i)) l[i]
def MkE : Nat → Nat → Vl → Prop
  | 0, _, _ => False
  | f + 1, k, x => x.kind = (k : Int) ∧ x.num = (k : Int) + 1 ∧ x.text = markB (k + 2) ∧ MkL (MkE f) (cntE f) (k + 3) x.list ∧ MkN (k + 3 + cntS (cntE f) x.list) x.names

theorem dig_size : ∀ (f n : Nat) (acc : ByteArray), (dig f n acc).size ≤ acc.size + f
  | 0, _, acc => by simp [dig]
  | f + 1, n, acc => by
    unfold dig
    split
    · omega
    · have h := dig_size f (n / 10) (⟨#[figU n]⟩ ++ acc)
      rw [ByteArray.size_append] at h
      have h1 : (⟨#[figU n]⟩ : ByteArray).size = 1 := rfl
      omega
theorem markB_size (k : Nat) : (markB k).size ≤ 140737488351232 := by
  have h := dig_size 8 k ByteArray.empty
  unfold markB
  rw [ByteArray.size_append]
  have h1 : (⟨#[109]⟩ : ByteArray).size = 1 := rfl
  have h2 : ByteArray.empty.size = 0 := rfl
  omega

end Go.Proofs.Ytdaohfeajicamaa
