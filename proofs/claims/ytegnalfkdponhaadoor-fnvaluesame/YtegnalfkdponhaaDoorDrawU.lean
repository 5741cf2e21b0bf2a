
/-
  DERIVED. A VALUE THAT WAS DRAWN AND IS CHANGED, in a box V of its own: no walk.
-/
import Derived.Test.YtegnalfkdponhaaDoorDrawT
namespace Go.Proofs.YtegnalfkdponhaaDoor
open Go.RowKit
set_option linter.unusedVariables false
set_option linter.unusedSimpArgs false

/-- It is so wherever the blocks from lo on are as they are, but V. -/
def VlX (w : World) (lo V k : Nat) (t : Vl) (cs : List Value) : Prop := ∀ W : World, (∀ b, lo ≤ b → b < w.heap.size → b ≠ V → W.heap[b]? = w.heap[b]?) → VlQ W lo k t cs
theorem VlX.same {w w' : World} {lo V k : Nat} {t : Vl} {cs : List Value} (h : VlX w lo V k t cs) (hz : w.heap.size ≤ w'.heap.size) (hs : ∀ b, lo ≤ b → b < w.heap.size → b ≠ V → w'.heap[b]? = w.heap[b]?) : VlX w' lo V k t cs :=
  fun W hW => h W (fun b h1 h2 h3 => (hW b h1 (by omega) h3).trans (hs b h1 h2 h3))
theorem VlX.now {w : World} {lo V k : Nat} {t : Vl} {cs : List Value} (h : VlX w lo V k t cs) : VlQ w lo k t cs := h w (fun _ _ _ _ => rfl)
theorem VlX.le {w : World} {lo V k k' : Nat} {t : Vl} {cs : List Value} (h : VlX w lo V k t cs) (hk : k ≤ k') : VlX w lo V k' t cs := fun W hW => VlQ.le hk (h W hW)
/-- Its head is another one. -/
theorem VlX.head {w : World} {lo V k : Nat} {t : Vl} {vl vn : Value} {x y z : Value} (h : VlX w lo V k t [x, y, z, vl, vn]) {kd nm : Int} {tx : ByteArray} (h1 : I64 kd) (h2 : I64 nm) (h3 : tx.size ≤ 140737488351232) :
    VlX w lo V k ⟨kd, nm, tx, t.list, t.names⟩ [.int .i64 kd, .int .i64 nm, .string tx, vl, vn] := fun W hW => by
  have h4 := h W hW
  cases k with
  | zero => exact h4.elim
  | succ k =>
    obtain ⟨vl', vn', e, _, _, _, r1, r2, r3⟩ := h4
    simp only [List.cons.injEq, and_true] at e
    obtain ⟨_, _, _, rfl, rfl⟩ := e
    exact ⟨vl, vn, rfl, h1, h2, h3, r1, r2, r3⟩
/-- A list of it alone. -/
theorem VlX.wrap {w : World} {lo V k : Nat} {t : Vl} {x0 x1 x2 x3 x4 : Value} {e : TypeId} (h : VlX w lo V k t [x0, x1, x2, x3, x4]) (hlo : lo ≤ w.heap.size) (hV : V < w.heap.size) :
    VlX (w.alloc (.cells #[x0, x1, x2, x3, x4] e)) lo V (k + 1) ⟨4, 0, ⟨#[]⟩, [t], []⟩ [.int .i64 4, .int .i64 0, .string ⟨#[]⟩, .slice (some ⟨w.heap.size, 0, none⟩) 1 1, .slice none 0 0] := fun W hW => by
  have hs : (w.alloc (.cells #[x0, x1, x2, x3, x4] e)).heap.size = w.heap.size + 1 := by simp
  have hO : Owns W w.heap.size #[x0, x1, x2, x3, x4] e := by
    have h1 := Owns.made w #[x0, x1, x2, x3, x4] e
    unfold Owns at h1 ⊢
    rw [hW _ hlo (by omega) (by omega)]; exact h1
  have hQ := h W (fun b h1 h2 h3 => (hW b h1 (by omega) h3).trans (Below.heap_alloc _ _ _ h2))
  refine ⟨_, _, rfl, (show I64 (4 : Int) from ⟨by decide, by decide⟩), (show I64 (0 : Int) from ⟨by decide, by decide⟩), (show (⟨#[]⟩ : ByteArray).size ≤ _ from by decide), Or.inr ⟨⟨w.heap.size, 0, none⟩, 1, rfl, Nat.le_refl _, by unfold maxLen; omega, by simp, fun i hi => ⟨hlo, rfl, [x0, x1, x2, x3, x4], rfl, fun q hq => ?_, ?_⟩⟩, Or.inl ⟨rfl, rfl⟩, fun _ => ⟨_, _, _, rfl, _, _, hO⟩⟩
  · obtain rfl : i = 0 := by simpa using hi
    show W.cell? ⟨w.heap.size, 0 + 0 * 5 + q, none⟩ = _
    rw [hO.cell, Nat.zero_mul, Nat.zero_add]
    simp only [List.getElem?_toArray]
  · obtain rfl : i = 0 := by simpa using hi
    exact hQ

/-- Values and names that are being made, off the box V. -/
structure MkV (wr : World) (B k : Nat) (l : List Vl) (ov : Value) (xs : List Value) (ns : List ByteArray) (nv : Value) (V : Nat) : Prop where
  own : wr.ownsRow B 30 5 ov l.length xs
  nown : wr.ownsRow B 9 1 nv ns.length (ns.map Value.string)
  off : (∀ g, ov.ownBlock = some g → g ≠ V) ∧ (∀ g, nv.ownBlock = some g → g ≠ V)
  kids : ∀ (i : Nat) (h : i < l.length), ∃ cs lo hi, cs.length = 5 ∧ (∀ q, q < 5 → xs[i * 5 + q]? = cs[q]?) ∧ B ≤ lo ∧ hi ≤ wr.heap.size ∧ VlJ wr lo hi k l[i] cs ∧ (∀ g, ov.ownBlock = some g → g < lo ∨ hi ≤ g) ∧ (∀ g, nv.ownBlock = some g → g < lo ∨ hi ≤ g) ∧ (V < lo ∨ hi ≤ V)
theorem MkV.ofT {w : World} {B k : Nat} {l : List Vl} {ov nv : Value} {xs : List Value} {ns : List ByteArray} (h : MkT w B k l ov xs ns nv) (o : Obj) : MkV (w.alloc o) B k l ov xs ns nv w.heap.size := by
  have h1 := h.same (W := w.alloc o) (fun b _ h2 => Below.heap_alloc _ _ _ h2) (by simp)
  refine ⟨h1.own, h1.nown, ⟨fun g hg => by have := (h.own.lt g hg).2; omega, fun g hg => by have := (h.nown.lt g hg).2; omega⟩, fun i hi => ?_⟩
  obtain ⟨cs, lo, hi', b1, b2, b3, b4, b5, b6, b7⟩ := h.kids i hi
  exact ⟨cs, lo, hi', b1, b2, b3, by simp; omega, b5.same (fun b c1 c2 => Below.heap_alloc _ _ _ (by omega)), b6, b7, Or.inr b4⟩
theorem MkV.same {wr W : World} {B k V : Nat} {l : List Vl} {ov nv : Value} {xs : List Value} {ns : List ByteArray} (h : MkV wr B k l ov xs ns nv V) (hs : ∀ b, B ≤ b → b < wr.heap.size → b ≠ V → W.heap[b]? = wr.heap[b]?) (hz : wr.heap.size ≤ W.heap.size) : MkV W B k l ov xs ns nv V := by
  refine ⟨ownsRow_same h.own (fun g hg => hs g (h.own.lt g hg).1 (h.own.lt g hg).2 (h.off.1 g hg)), ownsRow_same h.nown (fun g hg => hs g (h.nown.lt g hg).1 (h.nown.lt g hg).2 (h.off.2 g hg)), h.off, fun i hi => ?_⟩
  obtain ⟨cs, lo, hi', b1, b2, b3, b4, b5, b6, b7, b8⟩ := h.kids i hi
  exact ⟨cs, lo, hi', b1, b2, b3, by omega, b5.same (fun b c1 c2 => hs b (by omega) (by omega) (by omega)), b6, b7, b8⟩
theorem MkV.toT {wr : World} {B k V : Nat} {l : List Vl} {ov nv : Value} {xs : List Value} {ns : List ByteArray} (h : MkV wr B k l ov xs ns nv V) : MkT wr B k l ov xs ns nv :=
  ⟨h.own, h.nown, fun i hi => by obtain ⟨cs, lo, hi', b1, b2, b3, b4, b5, b6, b7, _⟩ := h.kids i hi; exact ⟨cs, lo, hi', b1, b2, b3, b4, b5, b6, b7⟩⟩
/-- The names are none. -/
theorem MkV.bare {wr : World} {B k V : Nat} {l : List Vl} {ov nv : Value} {xs : List Value} {ns : List ByteArray} (h : MkV wr B k l ov xs ns nv V) : MkV wr B k l ov xs [] (.slice none 0 0) V :=
  ⟨h.own, ⟨rfl, Or.inl ⟨rfl, rfl⟩⟩, ⟨h.off.1, fun g hg => by simp [Value.ownBlock] at hg⟩, fun i hi => by obtain ⟨cs, lo, hi', b1, b2, b3, b4, b5, b6, b7, b8⟩ := h.kids i hi; exact ⟨cs, lo, hi', b1, b2, b3, b4, b5, b6, fun g hg => by simp [Value.ownBlock] at hg, b8⟩⟩
theorem MkV.value {wr : World} {B k V : Nat} {l : List Vl} {ov nv : Value} {xs : List Value} {ns : List ByteArray} {kd nm : Int} {tx : ByteArray} (h : MkV wr B k l ov xs ns nv V)
    (h1 : I64 kd) (h2 : I64 nm) (h3 : tx.size ≤ 140737488351232) (h4 : l.length * 80 ≤ 140737488351232) (h5 : ns.length * 16 ≤ 140737488351232) (h6 : ∀ s ∈ ns, s.size ≤ 140737488351232) :
    VlX wr B V (k + 1) ⟨kd, nm, tx, l, ns⟩ [.int .i64 kd, .int .i64 nm, .string tx, ov, nv] := fun W hW => by
  by_cases hz : wr.heap.size ≤ W.heap.size
  · have h' := (h.same hW hz).toT
    exact VlJ.now ((h'.mk').value h'.nown (Nat.le_refl _) h1 h2 h3 h4 h5 h6)
  · refine ⟨ov, nv, rfl, h1, h2, h3, ?_, ?_, ?_⟩
    · rcases h.own.2 with ⟨q1, q2⟩ | ⟨g, cap, cur, q1, q2, q3, q4, q5, q6, q7⟩
      · exact Or.inl ⟨q1, List.eq_nil_of_length_eq_zero q2⟩
      · have hg : g < wr.heap.size := (h.own.lt g (by rw [q1]; rfl)).2
        have hgV : g ≠ V := h.off.1 g (by rw [q1]; rfl)
        refine Or.inr ⟨⟨g, 0, none⟩, cap, q1, q4, q5, h4, fun i hi => ⟨q2, rfl, ?_⟩⟩
        obtain ⟨cs, lo', hi', b1, b2, b3, b4, b5, b6, b7, b8⟩ := h.kids i hi
        refine ⟨cs, b1, fun q hq => ?_, VlQ.base (by omega) _ _ _ (b5 W (fun b c1 c2 => hW b (by omega) (by omega) (by omega)))⟩
        show W.cell? ⟨g, 0 + i * 5 + q, none⟩ = _
        have hO : Owns W g cur 30 := by unfold Owns; rw [hW g q2 hg hgV]; exact q3
        have hi5 : i * 5 + 5 ≤ l.length * 5 := by have : i < l.length := hi; omega
        rw [hO.cell, Nat.zero_add, ← b2 q (by omega), ← q7, List.getElem?_take, if_pos (by omega), Array.getElem?_toList]
    · rcases h.nown.2 with ⟨q1, q2⟩ | ⟨g, cap, cur, q1, q2, q3, q4, q5, q6, q7⟩
      · exact Or.inl ⟨q1, List.eq_nil_of_length_eq_zero q2⟩
      · have hg : g < wr.heap.size := (h.nown.lt g (by rw [q1]; rfl)).2
        have hgV : g ≠ V := h.off.2 g (by rw [q1]; rfl)
        refine Or.inr ⟨⟨g, 0, none⟩, cap, q1, q4, q5, h5, fun i hi => ⟨q2, rfl, [.string ns[i]], rfl, fun q hq => ?_, rfl, h6 _ (List.getElem_mem hi)⟩⟩
        obtain rfl : q = 0 := by simpa using hq
        show W.cell? ⟨g, 0 + i * 1 + 0, none⟩ = _
        have hO : Owns W g cur 9 := by unfold Owns; rw [hW g q2 hg hgV]; exact q3
        rw [hO.cell, Nat.zero_add, Nat.add_zero, Nat.mul_one]
        have h7 : (cur.toList.take (ns.length * 1))[i]? = (ns.map Value.string)[i]? := by rw [q7]
        rw [Nat.mul_one, List.getElem?_take, if_pos (by exact hi), Array.getElem?_toList] at h7
        rw [h7]; simp [hi]
    · intro hne
      rcases h.own.2 with ⟨q1, q2⟩ | ⟨g, cap, cur, q1, q2, q3, q4, q5, q6, q7⟩
      · exact absurd (List.eq_nil_of_length_eq_zero q2) hne
      · have hg : g < wr.heap.size := (h.own.lt g (by rw [q1]; rfl)).2
        have hgV : g ≠ V := h.off.1 g (by rw [q1]; rfl)
        exact ⟨⟨g, 0, none⟩, _, _, q1, cur, _, by show W.heap[g]? = _; rw [hW g q2 hg hgV]; exact q3⟩

/-- One more name was appended, and the slice stored into the box. -/
theorem MkV.name {wr w2 W : World} {B k V g cap : Nat} {l : List Vl} {ov nv : Value} {xs : List Value} {ns : List ByteArray} {o : Obj} {s : ByteArray} (h : MkV wr B k l ov xs ns nv V) (hV : V < wr.heap.size) (hB : B ≤ wr.heap.size)
    (hown : w2.ownsRow B 9 1 (.slice (some ⟨g, 0, none⟩) (ns.length + 1) cap) (ns.length + 1) (ns.map Value.string ++ [.string s])) (hg : (wr.alloc o).grownBy w2 nv.ownBlock) (hat : nv.ownBlock = some g ∨ g = wr.heap.size + 1)
    (hW : ∀ b, b ≠ V → W.heap[b]? = w2.heap[b]?) (hWs : W.heap.size = w2.heap.size) :
    MkV W B k l ov xs (ns ++ [s]) (.slice (some ⟨g, 0, none⟩) (ns.length + 1) cap) V := by
  have hs2 := hg.size
  simp at hs2
  have hgV : g ≠ V := by
    rcases hat with hat | hat
    · exact h.off.2 g hat
    · omega
  have hsame : ∀ b, B ≤ b → b < wr.heap.size → b ≠ V → some b ≠ nv.ownBlock → W.heap[b]? = wr.heap[b]? := fun b h1 h2 h4 h3 => by
    rw [hW b h4, hg.block b (by simp; omega) h3, Below.heap_alloc _ _ _ (by omega)]
  have hgo : ∀ g', (Value.slice (some ⟨g, 0, none⟩) (ns.length + 1) cap).ownBlock = some g' → g' = g := fun g' h => by simp [Value.ownBlock] at h; exact h.symm
  refine ⟨ownsRow_same h.own (fun g' hg' => hsame g' (h.own.lt g' hg').1 (h.own.lt g' hg').2 (h.off.1 g' hg') (fun he => h.toT.ne hg' he.symm)), ?_, ⟨h.off.1, fun g' hg' => by rw [hgo g' hg']; exact hgV⟩, fun i hi => ?_⟩
  · rw [List.length_append, List.length_cons, List.length_nil, List.map_append, List.map_cons, List.map_nil]
    exact ownsRow_same hown (fun g' hg' => by rw [hgo g' hg']; exact hW _ hgV)
  · obtain ⟨cs, lo, hi', b1, b2, b3, b4, b5, b6, b7, b8⟩ := h.kids i hi
    refine ⟨cs, lo, hi', b1, b2, b3, by omega, b5.same (fun b c1 c2 => hsame b (by omega) (by omega) (by omega) (fun he => by have := b7 b he.symm; omega)), b6, fun g' hg' => ?_, b8⟩
    have := hgo g' hg'
    subst this
    rcases hat with hat | hat
    · exact b7 _ hat
    · omega

/-- One more value of nothing was appended, and the slice stored into the box. -/
theorem MkV.zero {wr w2 W : World} {B k V g cap : Nat} {l : List Vl} {ov nv : Value} {xs : List Value} {ns : List ByteArray} {o : Obj} (h : MkV wr B (k + 1) l ov xs ns nv V) (hV : V < wr.heap.size) (hB : B ≤ wr.heap.size)
    (hown : w2.ownsRow B 30 5 (.slice (some ⟨g, 0, none⟩) (l.length + 1) cap) (l.length + 1) (xs ++ [.int .i64 0, .int .i64 0, .string ⟨#[]⟩, .slice none 0 0, .slice none 0 0]))
    (hg : (wr.alloc o).grownBy w2 ov.ownBlock) (hat : ov.ownBlock = some g ∨ g = wr.heap.size + 1) (hW : ∀ b, b ≠ V → W.heap[b]? = w2.heap[b]?) (hWs : W.heap.size = w2.heap.size) :
    MkV W B (k + 1) (l ++ [⟨0, 0, ⟨#[]⟩, [], []⟩]) (.slice (some ⟨g, 0, none⟩) (l.length + 1) cap) (xs ++ [.int .i64 0, .int .i64 0, .string ⟨#[]⟩, .slice none 0 0, .slice none 0 0]) ns nv V := by
  have hxl := h.own.1
  have hs2 := hg.size
  simp at hs2
  have hgV : g ≠ V := by
    rcases hat with hat | hat
    · exact h.off.1 g hat
    · omega
  have hgo : ∀ g', (Value.slice (some ⟨g, 0, none⟩) (l.length + 1) cap).ownBlock = some g' → g' = g := fun g' h => by simp [Value.ownBlock] at h; exact h.symm
  have hsame : ∀ b, B ≤ b → b < wr.heap.size → b ≠ V → some b ≠ ov.ownBlock → W.heap[b]? = wr.heap[b]? := fun b h1 h2 h4 h3 => by
    rw [hW b h4, hg.block b (by simp; omega) h3, Below.heap_alloc _ _ _ (by omega)]
  refine ⟨?_, ownsRow_same h.nown (fun g' hg' => hsame g' (h.nown.lt g' hg').1 (h.nown.lt g' hg').2 (h.off.2 g' hg') (fun he => h.toT.ne he.symm hg')), ⟨fun g' hg' => by rw [hgo g' hg']; exact hgV, h.off.2⟩, fun i hi => ?_⟩
  · rw [List.length_append, List.length_cons, List.length_nil]
    exact ownsRow_same hown (fun g' hg' => by rw [hgo g' hg']; exact hW _ hgV)
  · by_cases hlt : i < l.length
    · obtain ⟨cs', lo, hi', b1, b2, b3, b4, b5, b6, b7, b8⟩ := h.kids i hlt
      rw [List.getElem_append_left hlt]
      refine ⟨cs', lo, hi', b1, fun q hq => by rw [List.getElem?_append_left (by omega)]; exact b2 q hq, b3, by omega, b5.same (fun b c1 c2 => hsame b (by omega) (by omega) (by omega) (fun he => by have := b6 b he.symm; omega)), fun g' hg' => ?_, b7, b8⟩
      have := hgo g' hg'
      subst this
      rcases hat with hat | hat
      · exact b6 _ hat
      · omega
    · obtain rfl : i = l.length := by simp at hi; omega
      have hx : (l ++ [(⟨0, 0, ⟨#[]⟩, [], []⟩ : Vl)])[l.length]'hi = ⟨0, 0, ⟨#[]⟩, [], []⟩ := by simp
      rw [hx]
      refine ⟨[.int .i64 0, .int .i64 0, .string ⟨#[]⟩, .slice none 0 0, .slice none 0 0], W.heap.size, W.heap.size, rfl, fun q hq => by rw [List.getElem?_append_right (by omega)]; congr 1; omega, by omega, Nat.le_refl _, fun W' _ => ?_, fun g' _ => by omega, fun g' _ => by omega, Or.inl (by omega)⟩
      exact ⟨_, _, rfl, ⟨by decide, by decide⟩, ⟨by decide, by decide⟩, by decide, Or.inl ⟨rfl, rfl⟩, Or.inl ⟨rfl, rfl⟩, fun h => absurd rfl h⟩

end Go.Proofs.YtegnalfkdponhaaDoor
