
/-
  DERIVED. LISTS AND TREES THAT ARE BEING MADE of values that may be read. No walk.
-/
import Derived.Test.YtdaohfeajicamaaSoA
import Derived.Laws.AppendOwn
namespace Go.Proofs.Ytdaohfeajicamaa
open Go.RowKit
set_option linter.unusedVariables false
set_option linter.unusedSimpArgs false

/-- A list that is being made, of values that lie in intervals of their own. -/
structure Mq (wr : World) (B k : Nat) (l : List Vl) (ov : Value) (xs : List Value) : Prop where
  own : wr.ownsRow B 29 5 ov l.length xs
  kids : ∀ (i : Nat) (h : i < l.length), ∃ cs lo hi, cs.length = 5 ∧ (∀ q, q < 5 → xs[i * 5 + q]? = cs[q]?) ∧ B ≤ lo ∧ hi ≤ wr.heap.size ∧ VlK wr lo hi k l[i] cs ∧ (∀ g, ov.ownBlock = some g → g < lo ∨ hi ≤ g)
theorem Mq.nil (wr : World) (B k : Nat) : Mq wr B k [] (.slice none 0 0) [] := ⟨⟨rfl, Or.inl ⟨rfl, rfl⟩⟩, fun i h => absurd h (Nat.not_lt_zero _)⟩
theorem Mq.far {wr : World} {B k : Nat} {l : List Vl} {ov : Value} {xs : List Value} (h : Mq wr B k l ov xs) {b : Nat} (hb : b < B) : some b ≠ ov.ownBlock := by
  intro he
  have := (h.own.lt b he.symm).1
  omega
/-- It stays while the blocks from B on stay. -/
theorem Mq.same {wr W : World} {B k : Nat} {l : List Vl} {ov : Value} {xs : List Value} (h : Mq wr B k l ov xs) (hs : ∀ b, B ≤ b → b < wr.heap.size → W.heap[b]? = wr.heap[b]?) (hz : wr.heap.size ≤ W.heap.size) : Mq W B k l ov xs := by
  refine ⟨?_, fun i hi => ?_⟩
  · obtain ⟨q1, q2⟩ := h.own
    refine ⟨q1, ?_⟩
    rcases q2 with q2 | ⟨g, cap, cur, q2, q3, q4, q5⟩
    · exact Or.inl q2
    · have hg : g < wr.heap.size := (h.own.lt g (by rw [q2]; rfl)).2
      exact Or.inr ⟨g, cap, cur, q2, q3, by rw [hs g q3 hg]; exact q4, q5⟩
  · obtain ⟨cs, lo, hi', b1, b2, b3, b4, b5, b6⟩ := h.kids i hi
    exact ⟨cs, lo, hi', b1, b2, b3, by omega, b5.same (fun b c1 c2 => hs b (by omega) (by omega)), b6⟩

/-- A list that was made, and names, are a value's. -/
theorem Mq.value {wr : World} {B k lo : Nat} {l : List Vl} {ov nv : Value} {xs : List Value} {ns : List ByteArray} {kd nm : Int} {tx : ByteArray} (h : Mq wr B k l ov xs) (hn : wr.ownsRow B 9 1 nv ns.length (ns.map Value.string))
    (hlo : lo ≤ B) (h1 : I64 kd) (h2 : I64 nm) (h3 : tx.size ≤ 140737488351232) (h4 : l.length * 80 ≤ 140737488351232) (h5 : ns.length * 16 ≤ 140737488351232) (h6 : ∀ s ∈ ns, s.size ≤ 140737488351232) :
    VlK wr lo wr.heap.size (k + 1) ⟨kd, nm, tx, l, ns⟩ [.int .i64 kd, .int .i64 nm, .string tx, ov, nv] := by
  intro W hW
  refine ⟨ov, nv, rfl, h1, h2, h3, ?_, ?_⟩
  · rcases h.own.2 with ⟨q1, q2⟩ | ⟨g, cap, cur, q1, q2, q3, q4, q5, q6, q7⟩
    · exact Or.inl ⟨q1, List.eq_nil_of_length_eq_zero q2⟩
    · have hg : g < wr.heap.size := (h.own.lt g (by rw [q1]; rfl)).2
      refine Or.inr ⟨⟨g, 0, none⟩, cap, q1, q4, q5, h4, fun i hi => ⟨by show lo ≤ g; omega, rfl, ?_⟩⟩
      obtain ⟨cs, lo', hi', b1, b2, b3, b4, b5, b6⟩ := h.kids i hi
      refine ⟨cs, b1, fun q hq => ?_, VlR.base (by omega) _ _ _ (b5 W (fun b c1 c2 => hW b (by omega) (by omega)))⟩
      show W.cell? ⟨g, 0 + i * 5 + q, none⟩ = _
      have hO : Owns W g cur 29 := by unfold Owns; rw [hW g (by omega) hg]; exact q3
      have hi5 : i * 5 + 5 ≤ l.length * 5 := by have : i < l.length := hi; omega
      rw [hO.cell, Nat.zero_add, ← b2 q (by omega), ← q7, List.getElem?_take, if_pos (by omega), Array.getElem?_toList]
  · rcases hn.2 with ⟨q1, q2⟩ | ⟨g, cap, cur, q1, q2, q3, q4, q5, q6, q7⟩
    · exact Or.inl ⟨q1, List.eq_nil_of_length_eq_zero q2⟩
    · have hg : g < wr.heap.size := (hn.lt g (by rw [q1]; rfl)).2
      refine Or.inr ⟨⟨g, 0, none⟩, cap, q1, q4, q5, h5, fun i hi => ⟨by show lo ≤ g; omega, rfl, [.string ns[i]], rfl, fun q hq => ?_, rfl, h6 _ (List.getElem_mem hi)⟩⟩
      obtain rfl : q = 0 := by simpa using hq
      show W.cell? ⟨g, 0 + i * 1 + 0, none⟩ = _
      have hO : Owns W g cur 9 := by unfold Owns; rw [hW g (by omega) hg]; exact q3
      rw [hO.cell, Nat.zero_add, Nat.add_zero, Nat.mul_one]
      have h7 : (cur.toList.take (ns.length * 1))[i]? = (ns.map Value.string)[i]? := by rw [q7]
      rw [Nat.mul_one, List.getElem?_take, if_pos (by exact hi), Array.getElem?_toList] at h7
      rw [h7]; simp [hi]

/-- One more was drawn, laid into a block of its own, appended; and the slice was stored into the box vb. -/
theorem Mq.step {wr w1 w2 W : World} {B k vb g cap : Nat} {l : List Vl} {ov : Value} {xs : List Value} {o : Obj} {cs : List Value} {x : Vl} (h : Mq wr B k l ov xs) (hvb : vb < B) (hB : B ≤ wr.heap.size) (hcs : cs.length = 5)
    (hb1 : ∀ b, B ≤ b → b < wr.heap.size → w1.heap[b]? = wr.heap[b]?) (hs1 : wr.heap.size ≤ w1.heap.size) (hI : VlK w1 wr.heap.size w1.heap.size k x cs) (hown : w2.ownsRow B 29 5 (.slice (some ⟨g, 0, none⟩) (l.length + 1) cap) (l.length + 1) (xs ++ cs))
    (hg : (w1.alloc o).grownBy w2 ov.ownBlock) (hat : ov.ownBlock = some g ∨ g = w1.heap.size + 1) (hW : ∀ b, b ≠ vb → W.heap[b]? = w2.heap[b]?) (hWs : W.heap.size = w2.heap.size) :
    Mq W B k (l ++ [x]) (.slice (some ⟨g, 0, none⟩) (l.length + 1) cap) (xs ++ cs) := by
  have hxl := h.own.1
  have hs2 := hg.size
  simp at hs2
  have hgB : B ≤ g := by
    rcases hat with hat | hat
    · exact (h.own.lt g hat).1
    · omega
  have hsame : ∀ b, B ≤ b → b < wr.heap.size → some b ≠ ov.ownBlock → W.heap[b]? = wr.heap[b]? := fun b h1 h2 h3 => by
    rw [hW b (by omega), hg.block b (by simp; omega) h3, Below.heap_alloc _ _ _ (by omega), hb1 b h1 h2]
  refine ⟨?_, ?_⟩
  · obtain ⟨a1, a2⟩ := hown
    rw [List.length_append, List.length_cons, List.length_nil]
    refine ⟨a1, ?_⟩
    rcases a2 with ⟨a2, a3⟩ | ⟨g', cap', cur, a2, a3, a4, a5⟩
    · omega
    · simp only [Value.slice.injEq, Option.some.injEq, Addr.mk.injEq] at a2
      obtain ⟨⟨rfl, _⟩, _, rfl⟩ := a2
      exact Or.inr ⟨g, cap, cur, rfl, a3, by rw [hW g (by omega)]; exact a4, a5⟩
  · intro i hi
    have hgo : ∀ g', (Value.slice (some ⟨g, 0, none⟩) (l.length + 1) cap).ownBlock = some g' → g' = g := fun g' h => by simp [Value.ownBlock] at h; exact h.symm
    by_cases hlt : i < l.length
    · obtain ⟨cs', lo, hi', b1, b2, b3, b4, b5, b6⟩ := h.kids i hlt
      rw [List.getElem_append_left hlt]
      refine ⟨cs', lo, hi', b1, fun q hq => by rw [List.getElem?_append_left (by omega)]; exact b2 q hq, b3, by omega, b5.same (fun b c1 c2 => hsame b (by omega) (by omega) (fun he => by have := b6 b he.symm; omega)), fun g' hg' => ?_⟩
      have := hgo g' hg'
      subst this
      rcases hat with hat | hat
      · exact b6 _ hat
      · omega
    · obtain rfl : i = l.length := by simp at hi; omega
      have hx : (l ++ [x])[l.length]'hi = x := by simp
      rw [hx]
      refine ⟨cs, wr.heap.size, w1.heap.size, hcs, fun q hq => by rw [List.getElem?_append_right (by omega)]; congr 1; omega, by omega, by omega, hI.same (fun b c1 c2 => ?_), fun g' hg' => ?_⟩
      · rw [hW b (by omega), hg.block b (by simp; omega) (fun he => by have := (h.own.lt b he.symm).2; omega), Below.heap_alloc _ _ _ (by omega)]
      · have := hgo g' hg'
        subst this
        rcases hat with hat | hat
        · have := (h.own.lt _ hat).2; omega
        · omega

/-- Values and names that are being made, side by side. -/
structure MqT (wr : World) (B k : Nat) (l : List Vl) (ov : Value) (xs : List Value) (ns : List ByteArray) (nv : Value) : Prop where
  own : wr.ownsRow B 29 5 ov l.length xs
  nown : wr.ownsRow B 9 1 nv ns.length (ns.map Value.string)
  kids : ∀ (i : Nat) (h : i < l.length), ∃ cs lo hi, cs.length = 5 ∧ (∀ q, q < 5 → xs[i * 5 + q]? = cs[q]?) ∧ B ≤ lo ∧ hi ≤ wr.heap.size ∧ VlK wr lo hi k l[i] cs ∧ (∀ g, ov.ownBlock = some g → g < lo ∨ hi ≤ g) ∧ (∀ g, nv.ownBlock = some g → g < lo ∨ hi ≤ g)
theorem MqT.nil (wr : World) (B k : Nat) : MqT wr B k [] (.slice none 0 0) [] [] (.slice none 0 0) := ⟨⟨rfl, Or.inl ⟨rfl, rfl⟩⟩, ⟨rfl, Or.inl ⟨rfl, rfl⟩⟩, fun i h => absurd h (Nat.not_lt_zero _)⟩
theorem MqT.mk' {wr : World} {B k : Nat} {l : List Vl} {ov nv : Value} {xs : List Value} {ns : List ByteArray} (h : MqT wr B k l ov xs ns nv) : Mq wr B k l ov xs :=
  ⟨h.own, fun i hi => by obtain ⟨cs, lo, hi', b1, b2, b3, b4, b5, b6, _⟩ := h.kids i hi; exact ⟨cs, lo, hi', b1, b2, b3, b4, b5, b6⟩⟩
theorem ownsRow_atQ {w : World} {base : Nat} {e : TypeId} {size : Nat} {v : Value} {n : Nat} {xs : List Value} (h : w.ownsRow base e size v n xs) {g : Nat} (hg : v.ownBlock = some g) : ∃ cur, w.heap[g]? = some (.cells cur e (0, 0)) := by
  rcases h.2 with ⟨q, _⟩ | ⟨g', cap, cur, q1, q2, q3, _⟩
  · rw [q] at hg; simp [Value.ownBlock] at hg
  · rw [q1] at hg
    simp [Value.ownBlock] at hg
    subst hg
    exact ⟨cur, q3⟩
theorem MqT.ne {wr : World} {B k : Nat} {l : List Vl} {ov nv : Value} {xs : List Value} {ns : List ByteArray} (h : MqT wr B k l ov xs ns nv) {g : Nat} (h1 : ov.ownBlock = some g) : nv.ownBlock ≠ some g := by
  intro h2
  obtain ⟨c1, e1⟩ := ownsRow_atQ h.own h1
  obtain ⟨c2, e2⟩ := ownsRow_atQ h.nown h2
  rw [e1] at e2
  simp at e2
theorem ownsRow_sameQ {w W : World} {base : Nat} {e : TypeId} {size : Nat} {v : Value} {n : Nat} {xs : List Value} (h : w.ownsRow base e size v n xs) (hs : ∀ g, v.ownBlock = some g → W.heap[g]? = w.heap[g]?) : W.ownsRow base e size v n xs := by
  refine ⟨h.1, ?_⟩
  rcases h.2 with q | ⟨g', cap, cur, q1, q2, q3, q4⟩
  · exact Or.inl q
  · exact Or.inr ⟨g', cap, cur, q1, q2, by rw [hs g' (by rw [q1]; rfl)]; exact q3, q4⟩
theorem MqT.far {wr : World} {B k : Nat} {l : List Vl} {ov nv : Value} {xs : List Value} {ns : List ByteArray} (h : MqT wr B k l ov xs ns nv) {b : Nat} (hb : b < B) : some b ≠ ov.ownBlock ∧ some b ≠ nv.ownBlock := by
  constructor
  · intro he; have := (h.own.lt b he.symm).1; omega
  · intro he; have := (h.nown.lt b he.symm).1; omega
theorem MqT.same {wr W : World} {B k : Nat} {l : List Vl} {ov nv : Value} {xs : List Value} {ns : List ByteArray} (h : MqT wr B k l ov xs ns nv) (hs : ∀ b, B ≤ b → b < wr.heap.size → W.heap[b]? = wr.heap[b]?) (hz : wr.heap.size ≤ W.heap.size) : MqT W B k l ov xs ns nv := by
  refine ⟨ownsRow_sameQ h.own (fun g hg => hs g (h.own.lt g hg).1 (h.own.lt g hg).2), ownsRow_sameQ h.nown (fun g hg => hs g (h.nown.lt g hg).1 (h.nown.lt g hg).2), fun i hi => ?_⟩
  obtain ⟨cs, lo, hi', b1, b2, b3, b4, b5, b6⟩ := h.kids i hi
  exact ⟨cs, lo, hi', b1, b2, b3, by omega, b5.same (fun b c1 c2 => hs b (by omega) (by omega)), b6⟩

/-- One more name was appended, and the slice stored into the box vb. -/
theorem MqT.name {wr w2 W : World} {B k vb g cap : Nat} {l : List Vl} {ov nv : Value} {xs : List Value} {ns : List ByteArray} {o : Obj} {s : ByteArray} (h : MqT wr B k l ov xs ns nv) (hvb : vb < B) (hB : B ≤ wr.heap.size)
    (hown : w2.ownsRow B 9 1 (.slice (some ⟨g, 0, none⟩) (ns.length + 1) cap) (ns.length + 1) (ns.map Value.string ++ [.string s])) (hg : (wr.alloc o).grownBy w2 nv.ownBlock) (hat : nv.ownBlock = some g ∨ g = wr.heap.size + 1)
    (hW : ∀ b, b ≠ vb → W.heap[b]? = w2.heap[b]?) (hWs : W.heap.size = w2.heap.size) :
    MqT W B k l ov xs (ns ++ [s]) (.slice (some ⟨g, 0, none⟩) (ns.length + 1) cap) := by
  have hs2 := hg.size
  simp at hs2
  have hgB : B ≤ g := by
    rcases hat with hat | hat
    · exact (h.nown.lt g hat).1
    · omega
  have hsame : ∀ b, B ≤ b → b < wr.heap.size → some b ≠ nv.ownBlock → W.heap[b]? = wr.heap[b]? := fun b h1 h2 h3 => by
    rw [hW b (by omega), hg.block b (by simp; omega) h3, Below.heap_alloc _ _ _ (by omega)]
  have hgo : ∀ g', (Value.slice (some ⟨g, 0, none⟩) (ns.length + 1) cap).ownBlock = some g' → g' = g := fun g' h => by simp [Value.ownBlock] at h; exact h.symm
  refine ⟨ownsRow_sameQ h.own (fun g' hg' => hsame g' (h.own.lt g' hg').1 (h.own.lt g' hg').2 (fun he => h.ne hg' he.symm)), ?_, fun i hi => ?_⟩
  · rw [List.length_append, List.length_cons, List.length_nil, List.map_append, List.map_cons, List.map_nil]
    exact ownsRow_sameQ hown (fun g' hg' => by have := hgo g' hg'; subst this; exact hW _ (by omega))
  · obtain ⟨cs, lo, hi', b1, b2, b3, b4, b5, b6, b7⟩ := h.kids i hi
    refine ⟨cs, lo, hi', b1, b2, b3, by omega, b5.same (fun b c1 c2 => hsame b (by omega) (by omega) (fun he => by have := b7 b he.symm; omega)), b6, fun g' hg' => ?_⟩
    have := hgo g' hg'
    subst this
    rcases hat with hat | hat
    · exact b7 _ hat
    · omega

/-- One more value was drawn, laid into a block of its own, appended; and the slice was stored into the box vb. -/
theorem MqT.step {wr w1 w2 W : World} {B k vb g cap : Nat} {l : List Vl} {ov nv : Value} {xs : List Value} {ns : List ByteArray} {o : Obj} {cs : List Value} {x : Vl} (h : MqT wr B k l ov xs ns nv) (hvb : vb < B) (hB : B ≤ wr.heap.size) (hcs : cs.length = 5)
    (hb1 : ∀ b, B ≤ b → b < wr.heap.size → w1.heap[b]? = wr.heap[b]?) (hs1 : wr.heap.size ≤ w1.heap.size) (hI : VlK w1 wr.heap.size w1.heap.size k x cs) (hown : w2.ownsRow B 29 5 (.slice (some ⟨g, 0, none⟩) (l.length + 1) cap) (l.length + 1) (xs ++ cs))
    (hg : (w1.alloc o).grownBy w2 ov.ownBlock) (hat : ov.ownBlock = some g ∨ g = w1.heap.size + 1) (hW : ∀ b, b ≠ vb → W.heap[b]? = w2.heap[b]?) (hWs : W.heap.size = w2.heap.size) :
    MqT W B k (l ++ [x]) (.slice (some ⟨g, 0, none⟩) (l.length + 1) cap) (xs ++ cs) ns nv := by
  have hM := h.mk'.step hvb hB hcs hb1 hs1 hI hown hg hat hW hWs
  have hs2 := hg.size
  simp at hs2
  have hsame : ∀ b, B ≤ b → b < wr.heap.size → some b ≠ ov.ownBlock → W.heap[b]? = wr.heap[b]? := fun b h1 h2 h3 => by
    rw [hW b (by omega), hg.block b (by simp; omega) h3, Below.heap_alloc _ _ _ (by omega), hb1 b h1 h2]
  have hxl := h.own.1
  have hgo : ∀ g', (Value.slice (some ⟨g, 0, none⟩) (l.length + 1) cap).ownBlock = some g' → g' = g := fun g' h => by simp [Value.ownBlock] at h; exact h.symm
  refine ⟨hM.own, ownsRow_sameQ h.nown (fun g' hg' => hsame g' (h.nown.lt g' hg').1 (h.nown.lt g' hg').2 (fun he => h.ne he.symm hg')), fun i hi => ?_⟩
  by_cases hlt : i < l.length
  · obtain ⟨cs', lo, hi', b1, b2, b3, b4, b5, b6, b7⟩ := h.kids i hlt
    rw [List.getElem_append_left hlt]
    refine ⟨cs', lo, hi', b1, fun q hq => by rw [List.getElem?_append_left (by omega)]; exact b2 q hq, b3, by omega, b5.same (fun b c1 c2 => hsame b (by omega) (by omega) (fun he => by have := b6 b he.symm; omega)), fun g' hg' => ?_, b7⟩
    have := hgo g' hg'
    subst this
    rcases hat with hat | hat
    · exact b6 _ hat
    · omega
  · obtain rfl : i = l.length := by simp at hi; omega
    have hx : (l ++ [x])[l.length]'hi = x := by simp
    rw [hx]
    refine ⟨cs, wr.heap.size, w1.heap.size, hcs, fun q hq => by rw [List.getElem?_append_right (by omega)]; congr 1; omega, by omega, by omega, hI.same (fun b c1 c2 => ?_), fun g' hg' => ?_, fun g' hg' => ?_⟩
    · rw [hW b (by omega), hg.block b (by simp; omega) (fun he => by have := (h.own.lt b he.symm).2; omega), Below.heap_alloc _ _ _ (by omega)]
    · have := hgo g' hg'
      subst this
      rcases hat with hat | hat
      · have := (h.own.lt _ hat).2; omega
      · omega
    · have := (h.nown.lt _ hg').2; omega

theorem Mq.toT {wr : World} {B k : Nat} {l : List Vl} {ov : Value} {xs : List Value} (h : Mq wr B k l ov xs) : MqT wr B k l ov xs [] (.slice none 0 0) :=
  ⟨h.own, ⟨rfl, Or.inl ⟨rfl, rfl⟩⟩, fun i hi => by obtain ⟨cs, lo, hi', b1, b2, b3, b4, b5, b6⟩ := h.kids i hi; exact ⟨cs, lo, hi', b1, b2, b3, b4, b5, b6, fun g hg => by simp [Value.ownBlock] at hg⟩⟩
theorem MqT.lower {wr : World} {B B' k : Nat} {l : List Vl} {ov nv : Value} {xs : List Value} {ns : List ByteArray} (h : MqT wr B k l ov xs ns nv) (hB : B' ≤ B) : MqT wr B' k l ov xs ns nv := by
  refine ⟨⟨h.own.1, ?_⟩, ⟨h.nown.1, ?_⟩, fun i hi => ?_⟩
  · rcases h.own.2 with q | ⟨g, cap, cur, q1, q2, q3⟩
    · exact Or.inl q
    · exact Or.inr ⟨g, cap, cur, q1, by omega, q3⟩
  · rcases h.nown.2 with q | ⟨g, cap, cur, q1, q2, q3⟩
    · exact Or.inl q
    · exact Or.inr ⟨g, cap, cur, q1, by omega, q3⟩
  · obtain ⟨cs, lo, hi', b1, b2, b3, b4⟩ := h.kids i hi
    exact ⟨cs, lo, hi', b1, b2, by omega, b4⟩
end Go.Proofs.Ytdaohfeajicamaa
