
/-
  DERIVED. TREES THAT ARE DRAWN: names and values, while both grow. No walk.
-/
import Derived.Test.YtegnalfkdponhaaDoorDrawV
namespace Go.Proofs.YtegnalfkdponhaaDoor
open Go.RowKit
set_option linter.unusedVariables false
set_option linter.unusedSimpArgs false

/-- Values and names that are being made, side by side. -/
structure MkT (wr : World) (B k : Nat) (l : List Vl) (ov : Value) (xs : List Value) (ns : List ByteArray) (nv : Value) : Prop where
  own : wr.ownsRow B 30 5 ov l.length xs
  nown : wr.ownsRow B 9 1 nv ns.length (ns.map Value.string)
  kids : ∀ (i : Nat) (h : i < l.length), ∃ cs lo hi, cs.length = 5 ∧ (∀ q, q < 5 → xs[i * 5 + q]? = cs[q]?) ∧ B ≤ lo ∧ hi ≤ wr.heap.size ∧ VlJ wr lo hi k l[i] cs ∧ (∀ g, ov.ownBlock = some g → g < lo ∨ hi ≤ g) ∧ (∀ g, nv.ownBlock = some g → g < lo ∨ hi ≤ g)
theorem MkT.nil (wr : World) (B k : Nat) : MkT wr B k [] (.slice none 0 0) [] [] (.slice none 0 0) := ⟨⟨rfl, Or.inl ⟨rfl, rfl⟩⟩, ⟨rfl, Or.inl ⟨rfl, rfl⟩⟩, fun i h => absurd h (Nat.not_lt_zero _)⟩
theorem MkT.mk' {wr : World} {B k : Nat} {l : List Vl} {ov nv : Value} {xs : List Value} {ns : List ByteArray} (h : MkT wr B k l ov xs ns nv) : Mk wr B k l ov xs :=
  ⟨h.own, fun i hi => by obtain ⟨cs, lo, hi', b1, b2, b3, b4, b5, b6, _⟩ := h.kids i hi; exact ⟨cs, lo, hi', b1, b2, b3, b4, b5, b6⟩⟩
theorem ownsRow_at {w : World} {base : Nat} {e : TypeId} {size : Nat} {v : Value} {n : Nat} {xs : List Value} (h : w.ownsRow base e size v n xs) {g : Nat} (hg : v.ownBlock = some g) : ∃ cur, w.heap[g]? = some (.cells cur e (0, 0)) := by
  rcases h.2 with ⟨q, _⟩ | ⟨g', cap, cur, q1, q2, q3, _⟩
  · rw [q] at hg; simp [Value.ownBlock] at hg
  · rw [q1] at hg
    simp [Value.ownBlock] at hg
    subst hg
    exact ⟨cur, q3⟩
theorem MkT.ne {wr : World} {B k : Nat} {l : List Vl} {ov nv : Value} {xs : List Value} {ns : List ByteArray} (h : MkT wr B k l ov xs ns nv) {g : Nat} (h1 : ov.ownBlock = some g) : nv.ownBlock ≠ some g := by
  intro h2
  obtain ⟨c1, e1⟩ := ownsRow_at h.own h1
  obtain ⟨c2, e2⟩ := ownsRow_at h.nown h2
  rw [e1] at e2
  simp at e2
theorem ownsRow_same {w W : World} {base : Nat} {e : TypeId} {size : Nat} {v : Value} {n : Nat} {xs : List Value} (h : w.ownsRow base e size v n xs) (hs : ∀ g, v.ownBlock = some g → W.heap[g]? = w.heap[g]?) : W.ownsRow base e size v n xs := by
  refine ⟨h.1, ?_⟩
  rcases h.2 with q | ⟨g', cap, cur, q1, q2, q3, q4⟩
  · exact Or.inl q
  · exact Or.inr ⟨g', cap, cur, q1, q2, by rw [hs g' (by rw [q1]; rfl)]; exact q3, q4⟩
theorem MkT.far {wr : World} {B k : Nat} {l : List Vl} {ov nv : Value} {xs : List Value} {ns : List ByteArray} (h : MkT wr B k l ov xs ns nv) {b : Nat} (hb : b < B) : some b ≠ ov.ownBlock ∧ some b ≠ nv.ownBlock := by
  constructor
  · intro he; have := (h.own.lt b he.symm).1; omega
  · intro he; have := (h.nown.lt b he.symm).1; omega
theorem MkT.same {wr W : World} {B k : Nat} {l : List Vl} {ov nv : Value} {xs : List Value} {ns : List ByteArray} (h : MkT wr B k l ov xs ns nv) (hs : ∀ b, B ≤ b → b < wr.heap.size → W.heap[b]? = wr.heap[b]?) (hz : wr.heap.size ≤ W.heap.size) : MkT W B k l ov xs ns nv := by
  refine ⟨ownsRow_same h.own (fun g hg => hs g (h.own.lt g hg).1 (h.own.lt g hg).2), ownsRow_same h.nown (fun g hg => hs g (h.nown.lt g hg).1 (h.nown.lt g hg).2), fun i hi => ?_⟩
  obtain ⟨cs, lo, hi', b1, b2, b3, b4, b5, b6⟩ := h.kids i hi
  exact ⟨cs, lo, hi', b1, b2, b3, by omega, b5.same (fun b c1 c2 => hs b (by omega) (by omega)), b6⟩

/-- One more name was appended, and the slice stored into the box vb. -/
theorem MkT.name {wr w2 W : World} {B k vb g cap : Nat} {l : List Vl} {ov nv : Value} {xs : List Value} {ns : List ByteArray} {o : Obj} {s : ByteArray} (h : MkT wr B k l ov xs ns nv) (hvb : vb < B) (hB : B ≤ wr.heap.size)
    (hown : w2.ownsRow B 9 1 (.slice (some ⟨g, 0, none⟩) (ns.length + 1) cap) (ns.length + 1) (ns.map Value.string ++ [.string s])) (hg : (wr.alloc o).grownBy w2 nv.ownBlock) (hat : nv.ownBlock = some g ∨ g = wr.heap.size + 1)
    (hW : ∀ b, b ≠ vb → W.heap[b]? = w2.heap[b]?) (hWs : W.heap.size = w2.heap.size) :
    MkT W B k l ov xs (ns ++ [s]) (.slice (some ⟨g, 0, none⟩) (ns.length + 1) cap) := by
  have hs2 := hg.size
  simp at hs2
  have hgB : B ≤ g := by
    rcases hat with hat | hat
    · exact (h.nown.lt g hat).1
    · omega
  have hsame : ∀ b, B ≤ b → b < wr.heap.size → some b ≠ nv.ownBlock → W.heap[b]? = wr.heap[b]? := fun b h1 h2 h3 => by
    rw [hW b (by omega), hg.block b (by simp; omega) h3, Below.heap_alloc _ _ _ (by omega)]
  have hgo : ∀ g', (Value.slice (some ⟨g, 0, none⟩) (ns.length + 1) cap).ownBlock = some g' → g' = g := fun g' h => by simp [Value.ownBlock] at h; exact h.symm
  refine ⟨ownsRow_same h.own (fun g' hg' => hsame g' (h.own.lt g' hg').1 (h.own.lt g' hg').2 (fun he => h.ne hg' he.symm)), ?_, fun i hi => ?_⟩
  · rw [List.length_append, List.length_cons, List.length_nil, List.map_append, List.map_cons, List.map_nil]
    exact ownsRow_same hown (fun g' hg' => by have := hgo g' hg'; subst this; exact hW _ (by omega))
  · obtain ⟨cs, lo, hi', b1, b2, b3, b4, b5, b6, b7⟩ := h.kids i hi
    refine ⟨cs, lo, hi', b1, b2, b3, by omega, b5.same (fun b c1 c2 => hsame b (by omega) (by omega) (fun he => by have := b7 b he.symm; omega)), b6, fun g' hg' => ?_⟩
    have := hgo g' hg'
    subst this
    rcases hat with hat | hat
    · exact b7 _ hat
    · omega

/-- One more value was drawn, laid into a block of its own, appended; and the slice was stored into the box vb. -/
theorem MkT.step {wr w1 w2 W : World} {B k vb g cap : Nat} {l : List Vl} {ov nv : Value} {xs : List Value} {ns : List ByteArray} {o : Obj} {cs : List Value} {x : Vl} (h : MkT wr B k l ov xs ns nv) (hvb : vb < B) (hB : B ≤ wr.heap.size) (hcs : cs.length = 5)
    (hb1 : ∀ b, B ≤ b → b < wr.heap.size → w1.heap[b]? = wr.heap[b]?) (hs1 : wr.heap.size ≤ w1.heap.size) (hI : VlJ w1 wr.heap.size w1.heap.size k x cs) (hown : w2.ownsRow B 30 5 (.slice (some ⟨g, 0, none⟩) (l.length + 1) cap) (l.length + 1) (xs ++ cs))
    (hg : (w1.alloc o).grownBy w2 ov.ownBlock) (hat : ov.ownBlock = some g ∨ g = w1.heap.size + 1) (hW : ∀ b, b ≠ vb → W.heap[b]? = w2.heap[b]?) (hWs : W.heap.size = w2.heap.size) :
    MkT W B k (l ++ [x]) (.slice (some ⟨g, 0, none⟩) (l.length + 1) cap) (xs ++ cs) ns nv := by
  have hM := h.mk'.step hvb hB hcs hb1 hs1 hI hown hg hat hW hWs
  have hs2 := hg.size
  simp at hs2
  have hsame : ∀ b, B ≤ b → b < wr.heap.size → some b ≠ ov.ownBlock → W.heap[b]? = wr.heap[b]? := fun b h1 h2 h3 => by
    rw [hW b (by omega), hg.block b (by simp; omega) h3, Below.heap_alloc _ _ _ (by omega), hb1 b h1 h2]
  have hxl := h.own.1
  have hgo : ∀ g', (Value.slice (some ⟨g, 0, none⟩) (l.length + 1) cap).ownBlock = some g' → g' = g := fun g' h => by simp [Value.ownBlock] at h; exact h.symm
  refine ⟨hM.own, ownsRow_same h.nown (fun g' hg' => hsame g' (h.nown.lt g' hg').1 (h.nown.lt g' hg').2 (fun he => h.ne he.symm hg')), fun i hi => ?_⟩
  by_cases hlt : i < l.length
  · obtain ⟨cs', lo, hi', b1, b2, b3, b4, b5, b6, b7⟩ := h.kids i hlt
    rw [List.getElem_append_left hlt]
    refine ⟨cs', lo, hi', b1, fun q hq => by rw [List.getElem?_append_left (by omega)]; exact b2 q hq, b3, by omega, b5.same (fun b c1 c2 => hsame b (by omega) (by omega) (fun he => by have := b6 b he.symm; omega)), fun g' hg' => ?_, b7⟩
    have := hgo g' hg'
    subst this
    rcases hat with hat | hat
    · exact b6 _ hat
    · omega
  · obtain rfl : i = l.length := by simp at hi; omega
    have hx : (l ++ [x])[l.length]'hi = x := by simp
    rw [hx]
    refine ⟨cs, wr.heap.size, w1.heap.size, hcs, fun q hq => by rw [List.getElem?_append_right (by omega)]; congr 1; omega, by omega, by omega, hI.same (fun b c1 c2 => ?_), fun g' hg' => ?_, fun g' hg' => ?_⟩
    · rw [hW b (by omega), hg.block b (by simp; omega) (fun he => by have := (h.own.lt b he.symm).2; omega), Below.heap_alloc _ _ _ (by omega)]
    · have := hgo g' hg'
      subst this
      rcases hat with hat | hat
      · have := (h.own.lt _ hat).2; omega
      · omega
    · have := (h.nown.lt _ hg').2; omega

theorem Mk.toT {wr : World} {B k : Nat} {l : List Vl} {ov : Value} {xs : List Value} (h : Mk wr B k l ov xs) : MkT wr B k l ov xs [] (.slice none 0 0) :=
  ⟨h.own, ⟨rfl, Or.inl ⟨rfl, rfl⟩⟩, fun i hi => by obtain ⟨cs, lo, hi', b1, b2, b3, b4, b5, b6⟩ := h.kids i hi; exact ⟨cs, lo, hi', b1, b2, b3, b4, b5, b6, fun g hg => by simp [Value.ownBlock] at hg⟩⟩
theorem MkT.lower {wr : World} {B B' k : Nat} {l : List Vl} {ov nv : Value} {xs : List Value} {ns : List ByteArray} (h : MkT wr B k l ov xs ns nv) (hB : B' ≤ B) : MkT wr B' k l ov xs ns nv := by
  refine ⟨⟨h.own.1, ?_⟩, ⟨h.nown.1, ?_⟩, fun i hi => ?_⟩
  · rcases h.own.2 with q | ⟨g, cap, cur, q1, q2, q3⟩
    · exact Or.inl q
    · exact Or.inr ⟨g, cap, cur, q1, by omega, q3⟩
  · rcases h.nown.2 with q | ⟨g, cap, cur, q1, q2, q3⟩
    · exact Or.inl q
    · exact Or.inr ⟨g, cap, cur, q1, by omega, q3⟩
  · obtain ⟨cs, lo, hi', b1, b2, b3, b4⟩ := h.kids i hi
    exact ⟨cs, lo, hi', b1, b2, by omega, b4⟩
theorem MkT.deeper {wr : World} {B k k' : Nat} {l : List Vl} {ov nv : Value} {xs : List Value} {ns : List ByteArray} (h : MkT wr B k l ov xs ns nv) (hk : k ≤ k') : MkT wr B k' l ov xs ns nv :=
  ⟨h.own, h.nown, fun i hi => by obtain ⟨cs, lo, hi', b1, b2, b3, b4, b5, b6⟩ := h.kids i hi; exact ⟨cs, lo, hi', b1, b2, b3, b4, b5.le hk, b6⟩⟩

end Go.Proofs.YtegnalfkdponhaaDoor
