
/-
  DERIVED. THE WALK OF spec.l1Copy: a copy that reads as the same, in new memory.
-/
import Derived.Test.YtdaohfeajicamaaVlOwn
import Derived.Test.YtdaohfeajicamaaVlInfo
import Derived.Test.YtdaohfeajicamaaVlQd
import Derived.Handy
import Derived.Deep.Cut
import Derived.Deep.RegionHeld3
import Derived.Deep.AppendLies
namespace Go.Proofs.Ytdaohfeajicamaa
open Go.RowKit
set_option linter.unusedVariables false
set_option linter.unusedSimpArgs false

/-- A value that reads so wherever the blocks from lo up to hi are as they are. -/
def VlI (w : World) (lo hi k : Nat) (t : Vl) (cs : List Value) : Prop := VlJ w lo hi k t cs
theorem VlI.same {w w' : World} {lo hi k : Nat} {t : Vl} {cs : List Value} (h : VlI w lo hi k t cs) (hs : ∀ b, lo ≤ b → b < hi → w'.heap[b]? = w.heap[b]?) : VlI w' lo hi k t cs := VlJ.same h hs
theorem VlI.read {w : World} {lo hi k : Nat} {t : Vl} {cs : List Value} (h : VlI w lo hi k t cs) : VlR w lo k t cs := VlQ.read _ _ _ (VlJ.now h)

/-- Of the first j of a list each reads so in an interval of its own, off the row's own block. -/
def Kids (w : World) (B k : Nat) (l : List Vl) (ov : Value) (j : Nat) (xs : List Value) : Prop :=
  ∀ (i : Nat) (h : i < l.length), i < j → ∃ cs lo hi, cs.length = 5 ∧ (∀ q, q < 5 → xs[i * 5 + q]? = cs[q]?) ∧ B ≤ lo ∧ hi ≤ w.heap.size ∧ VlI w lo hi k l[i] cs ∧ (∀ g, ov.ownBlock = some g → g < lo ∨ hi ≤ g)

theorem ownBlock_slice {oa : Option Addr} {n c g : Nat} (h : (Value.slice oa n c).ownBlock = some g) : ∃ ad, oa = some ad ∧ ad.block = g := by
  cases oa with
  | none => simp [Value.ownBlock] at h
  | some ad => exact ⟨ad, rfl, by simpa [Value.ownBlock] using h⟩

/-- What is known while the list is copied. -/
structure Copying (k : Nat) (t : Vl) (w wr : World) (oa : Option Addr) (oc j : Nat) (xs : List Value) : Prop where
  own : wr.ownsRow (w.heap.size + 3) 29 5 (.slice oa j oc) j xs
  kids : Kids wr (w.heap.size + 3) k t.list (.slice oa j oc) j xs
  below : Below w.heap.size w wr
  size : w.heap.size + 3 ≤ wr.heap.size

theorem Copying.far {k : Nat} {t : Vl} {w wr : World} {oa : Option Addr} {oc j : Nat} {xs : List Value} (h : Copying k t w wr oa oc j xs) {b : Nat} (hb : b < w.heap.size + 3) : some b ≠ (Value.slice oa j oc).ownBlock := by
  intro he
  have := (h.own.lt b he.symm).1
  omega

theorem xs_step {xs news : List Value} {j i q : Nat} (hx : xs.length = j * 5) (hi : i < j) (hq : q < 5) : (xs ++ news)[i * 5 + q]? = xs[i * 5 + q]? := by
  rw [List.getElem?_append_left (by omega)]
theorem xs_new {xs news : List Value} {j q : Nat} (hx : xs.length = j * 5) : (xs ++ news)[j * 5 + q]? = news[q]? := by
  rw [List.getElem?_append_right (by omega)]; congr 1; omega

/-- One more was copied, laid into a block of its own, appended; and the slice was stored into the box. -/
theorem Copying.step {k : Nat} {t : Vl} {w wr w1 w2 W : World} {oa : Option Addr} {oc j g cap : Nat} {xs : List Value} {o : Obj} {cs : List Value} (h : Copying k t w wr oa oc j xs) (hj : j < t.list.length) (hcs : cs.length = 5)
    (hb1 : Below wr.heap.size wr w1) (hI : VlI w1 wr.heap.size w1.heap.size k t.list[j] cs) (hown : w2.ownsRow (w.heap.size + 3) 29 5 (.slice (some ⟨g, 0, none⟩) (j + 1) cap) (j + 1) (xs ++ cs))
    (hg : (w1.alloc o).grownBy w2 (Value.slice oa j oc).ownBlock) (hat : (Value.slice oa j oc).ownBlock = some g ∨ g = w1.heap.size + 1) (hW : ∀ b, b ≠ w.heap.size + 2 → W.heap[b]? = w2.heap[b]?) (hWs : W.heap.size = w2.heap.size) (hWb : W.os = w2.os ∧ W.tape = w2.tape ∧ W.output = w2.output) :
    Copying k t w W (some ⟨g, 0, none⟩) cap (j + 1) (xs ++ cs) := by
  have hxl := h.own.1
  have hs1 := hb1.size
  have hs2 := hg.size
  have hsz := h.size
  simp at hs2
  have hgB : w.heap.size + 3 ≤ g := by
    rcases hat with hat | hat
    · exact (h.own.lt g hat).1
    · omega
  have hsame : ∀ b, b < wr.heap.size → b ≠ w.heap.size + 2 → some b ≠ (Value.slice oa j oc).ownBlock → W.heap[b]? = wr.heap[b]? := fun b h1 h2 h3 => by
    rw [hW b h2, hg.block b (by simp; omega) h3, Below.heap_alloc _ _ _ (by omega), hb1.block b h1]
  refine ⟨?_, ?_, ?_, by omega⟩
  · obtain ⟨a1, a2⟩ := hown
    refine ⟨a1, ?_⟩
    rcases a2 with ⟨a2, a3⟩ | ⟨g', cap', cur, a2, a3, a4, a5⟩
    · omega
    · simp only [Value.slice.injEq, Option.some.injEq, Addr.mk.injEq] at a2
      obtain ⟨⟨rfl, _⟩, _, rfl⟩ := a2
      exact Or.inr ⟨g, cap, cur, rfl, a3, by rw [hW g (by omega)]; exact a4, a5⟩
  · intro i hi hij
    have hgo : ∀ g', (Value.slice (some ⟨g, 0, none⟩) (j + 1) cap).ownBlock = some g' → g' = g := fun g' h => by simp [Value.ownBlock] at h; exact h.symm
    rcases Nat.lt_succ_iff_lt_or_eq.1 hij with hlt | rfl
    · obtain ⟨cs', lo, hi', b1, b2, b3, b4, b5, b6⟩ := h.kids i hi hlt
      refine ⟨cs', lo, hi', b1, fun q hq => by rw [xs_step hxl hlt hq]; exact b2 q hq, b3, by omega, b5.same (fun b c1 c2 => hsame b (by omega) (by omega) (fun he => by have := b6 b he.symm; omega)), fun g' hg' => ?_⟩
      have := hgo g' hg'
      subst this
      rcases hat with hat | hat
      · exact b6 _ hat
      · omega
    · refine ⟨cs, wr.heap.size, w1.heap.size, hcs, fun q hq => xs_new hxl, by omega, by omega, hI.same (fun b c1 c2 => ?_), fun g' hg' => ?_⟩
      · rw [hW b (by omega), hg.block b (by simp; omega) (fun he => by have := (h.own.lt b he.symm).2; omega), Below.heap_alloc _ _ _ (by omega)]
      · have := hgo g' hg'
        subst this
        rcases hat with hat | hat
        · have := (h.own.lt _ hat).2; omega
        · omega
  · refine ⟨hWb.1.trans (hg.os.trans (hb1.os.trans h.below.os)), hWb.2.1.trans (hg.tape.trans (hb1.tape.trans h.below.tape)), hWb.2.2.trans (hg.output.trans (hb1.output.trans h.below.output)), by have := h.below.size; omega, fun b hb => ?_⟩
    rw [hsame b (by omega) (by omega) (h.far (by omega)), h.below.block b hb]

end Go.Proofs.Ytdaohfeajicamaa
