
/-
  DERIVED. WHAT COPIED NODES READ AS BEHIND ONE NAME AND ONE VALUE MORE in a node's cells.
-/
import Derived.Test.YtehdepnemdbopaaStCq
import Derived.Test.YtehdepnemdbopaaStB
namespace Go.Proofs.Ytehdepnemdbopaa
open Go.RowKit
set_option linter.unusedVariables false
set_option linter.unusedSimpArgs false

/-- What StoreSet answers. -/
def SetP (l : List Nd) (id : Int) (s : ByteArray) (t : Vl) (p : List Nd × Bool) : Prop := (storeB l = true ∧ SetI l id s t p) ∨ (storeB l = false ∧ p = ([], false))

theorem cell_set_ne (w : World) {g o o' : Nat} (v : Value) (h : o ≠ o') : (w.setCell ⟨g, o, none⟩ v).cell? ⟨g, o', none⟩ = w.cell? ⟨g, o', none⟩ :=
  World.cell?_setCell_other _ _ _ _ (fun he => h (by injection he))
theorem cell_set_eq (w : World) {g o : Nat} {u : Value} (v : Value) (h : w.cell? ⟨g, o, none⟩ = some u) : (w.setCell ⟨g, o, none⟩ v).cell? ⟨g, o, none⟩ = some v :=
  World.cell?_setCell_same _ _ _ h

theorem CopyingN.grow {k : Nat} {l : List Nd} {w wr W : World} {g oc : Nat} {xs : List Value} {lo hi : Nat → Nat} (h : CopyingN k l w wr (some ⟨g, 0, none⟩) oc l.length xs lo hi) {i gl gn cl cn n n' mid bn bl B : Nat} {p p' : Option Addr} (hB : B ≤ w.heap.size) (hil : i < l.length) {v' : Vl} {s : ByteArray} {cs xl : List Value}
    (hmid : lo i + 3 ≤ mid ∧ mid ≤ hi i) (hl1 : ∀ b, (Value.slice p l[i].cells.list.length n).ownBlock = some b → lo i + 3 ≤ b ∧ b < mid) (hn1 : ∀ b, (Value.slice p' l[i].cells.names.length n').ownBlock = some b → mid ≤ b ∧ b < hi i)
    (hkids : ∀ (m : Nat) (h : m < l[i].cells.list.length), ∃ cs a b, cs.length = 5 ∧ (∀ q, q < 5 → xl[m * 5 + q]? = cs[q]?) ∧ lo i + 3 ≤ a ∧ b ≤ mid ∧ VlI wr a b k l[i].cells.list[m] cs ∧ (∀ g, (Value.slice p l[i].cells.list.length n).ownBlock = some g → g < a ∨ b ≤ g))
    (hw : l.length * 104 ≤ 140737488351232) (hl : ∀ (i : Nat) (h : i < l.length), I64 l[i].id ∧ l[i].type.size ≤ 140737488351232) (hk : I64 l[i].cells.kind) (hn : I64 l[i].cells.num) (ht : l[i].cells.text.size ≤ 140737488351232) (hw1 : (l[i].cells.list.length + 1) * 80 ≤ 140737488351232) (hw2 : (l[i].cells.names.length + 1) * 16 ≤ 140737488351232) (hns : ∀ (m : Nat) (h : m < l[i].cells.names.length), l[i].cells.names[m].size ≤ 140737488351232) (hs : s.size ≤ 140737488351232)
    (hxl : xl.length = l[i].cells.list.length * 5) (hcs : cs.length = 5) (hv : VlR W B k v' cs)
    (hsame : ∀ b, w.heap.size ≤ b → b < wr.heap.size → b ≠ g → some b ≠ (Value.slice p l[i].cells.list.length n).ownBlock → some b ≠ (Value.slice p' l[i].cells.names.length n').ownBlock → W.heap[b]? = wr.heap[b]?)
    (hcell : ∀ o, o ≠ i * 7 + 5 → o ≠ i * 7 + 6 → W.cell? ⟨g, o, none⟩ = wr.cell? ⟨g, o, none⟩) (h5 : W.cell? ⟨g, i * 7 + 5, none⟩ = some (.slice (some ⟨gl, 0, none⟩) (l[i].cells.list.length + 1) cl)) (h6 : W.cell? ⟨g, i * 7 + 6, none⟩ = some (.slice (some ⟨gn, 0, none⟩) (l[i].cells.names.length + 1) cn))
    (hnown : W.ownsRow bn 9 1 (.slice (some ⟨gn, 0, none⟩) (l[i].cells.names.length + 1) cn) (l[i].cells.names.length + 1) (l[i].cells.names.map Value.string ++ [.string s])) (hbn : B ≤ bn)
    (hlown : W.ownsRow bl 29 5 (.slice (some ⟨gl, 0, none⟩) (l[i].cells.list.length + 1) cl) (l[i].cells.list.length + 1) (xl ++ cs)) (hbl : B ≤ bl) :
    NdRow W B (k + 1) (l.set i { l[i] with cells := { l[i].cells with list := l[i].cells.list ++ [v'], names := l[i].cells.names ++ [s] } }) (.slice (some ⟨g, 0, none⟩) l.length oc) := by
  obtain ⟨vl0, vn0, x0, b3, b4, _, _, b7⟩ := h.kids i hil hil
  have hgi := b7 g rfl
  rcases h.own.2 with ⟨h1, _⟩ | ⟨g', cap, cur, h1, h2, h3, h4, h5', h6', h7⟩
  · simp at h1
  simp only [Value.slice.injEq, Option.some.injEq, Addr.mk.injEq, and_true, true_and] at h1
  obtain ⟨rfl, rfl⟩ := h1
  have hO : Owns wr g cur 82 := h3
  have hcur : ∀ m q, m < l.length → q < 7 → wr.cell? ⟨g, m * 7 + q, none⟩ = xs[m * 7 + q]? := fun m q hm hq => by
    rw [hO.cell, ← h7, List.getElem?_take, if_pos (by omega), Array.getElem?_toList]
  refine Or.inr ⟨⟨g, 0, none⟩, oc, by rw [List.length_set], by rw [List.length_set]; exact h4, h5', by rw [List.length_set]; exact hw, fun m hm => ⟨by show B ≤ g; omega, rfl, ?_⟩⟩
  rw [List.length_set] at hm
  by_cases hmi : m = i
  · subst hmi
    simp only [List.getElem_set_self]
    refine ⟨[.int .i64 l[m].id, .string l[m].type, .int .i64 l[m].cells.kind, .int .i64 l[m].cells.num, .string l[m].cells.text, .slice (some ⟨gl, 0, none⟩) (l[m].cells.list.length + 1) cl, .slice (some ⟨gn, 0, none⟩) (l[m].cells.names.length + 1) cn], rfl, fun q hq => ?_, _, _, rfl, (hl m hil).1, (hl m hil).2, ?_⟩
    · show W.cell? ⟨g, 0 + m * 7 + q, none⟩ = _
      simp only [List.length_cons, List.length_nil] at hq
      rw [Nat.zero_add]
      by_cases hq5 : q = 5
      · subst hq5; exact h5
      by_cases hq6 : q = 6
      · subst hq6; exact h6
      rw [hcell _ (by omega) (by omega), hcur m q hil (by omega), x0 q (by omega)]
      match q, hq, hq5, hq6 with
      | 0, _, _, _ => rfl
      | 1, _, _, _ => rfl
      | 2, _, _, _ => rfl
      | 3, _, _, _ => rfl
      | 4, _, _, _ => rfl
      | q + 5, h, h5, h6 => omega
    · refine VlR.of_rows (t := { l[m].cells with list := l[m].cells.list ++ [v'], names := l[m].cells.names ++ [s] }) (xs := xl ++ cs) (base := bl) (base' := bn) hk hn ht (by simpa using hw1) (by simpa using hw2) (fun q hq => ?_) (by simpa using hlown) hbl (fun q hq => ?_) (by simpa using hnown) hbn
      · simp only [List.length_append, List.length_cons, List.length_nil] at hq
        by_cases hlt : q < l[m].cells.names.length
        · simp only [List.getElem_append_left hlt]; exact hns q hlt
        · obtain rfl : q = l[m].cells.names.length := by omega
          simpa using hs
      · simp only [List.length_append, List.length_cons, List.length_nil] at hq
        by_cases hlt : q < l[m].cells.list.length
        · obtain ⟨cs', a, b, c1, c2, c3, c4, c5, c6⟩ := hkids q hlt
          refine ⟨cs', c1, fun r hr => by rw [List.getElem?_append_left (by omega)]; exact c2 r hr, ?_⟩
          simp only [List.getElem_append_left hlt]
          exact VlR.base (by omega) _ _ _ (c5.same (fun y y1 y2 => hsame y (by omega) (by omega) (by omega) (fun he => by have := c6 y he.symm; omega) (fun he => by have := hn1 y he.symm; omega))).read
        · obtain rfl : q = l[m].cells.list.length := by omega
          refine ⟨cs, hcs, fun r hr => by rw [List.getElem?_append_right (by omega)]; congr 1; omega, ?_⟩
          simpa using hv
  · simp only [List.getElem_set_ne (fun h => hmi h.symm)]
    obtain ⟨vl, vn', c2, c3, c4, c5, c6, c7⟩ := h.kids m hm hm
    have hg7 := c7 g rfl
    have hoff : hi m ≤ lo i ∨ hi i ≤ lo m := by
      rcases Nat.lt_or_gt_of_ne hmi with h1 | h1
      · exact Or.inl (h.apart m i h1 hil)
      · exact Or.inr (h.apart i m h1 hm)
    refine ⟨_, rfl, fun q hq => ?_, vl, vn', rfl, (hl m hm).1, (hl m hm).2, VlR.base (by omega) _ _ _ (c5.same (fun y y1 y2 => hsame y (by omega) (by omega) (by omega) (fun he => by have := hl1 y he.symm; omega) (fun he => by have := hn1 y he.symm; omega))).read⟩
    show W.cell? ⟨g, 0 + m * 7 + q, none⟩ = _
    simp only [List.length_cons, List.length_nil] at hq
    rw [Nat.zero_add, hcell _ (by omega) (by omega), hcur m q hm (by omega), c2 q (by omega)]

/-- The same, by the steps in which it comes about: a name is appended, the node told; a value copied, appended, the node told. -/
theorem CopyingN.grown {k : Nat} {l : List Nd} {w w5 w6 W6 w7 w8 : World} {g oc : Nat} {xs : List Value} {lo hi : Nat → Nat} (h : CopyingN k l w w5 (some ⟨g, 0, none⟩) oc l.length xs lo hi) {i gl gn cl cn n n' mid B : Nat} {p p' : Option Addr} {o6 o8 : Obj} (hB : B ≤ w.heap.size) (hil : i < l.length) {v' : Vl} {s : ByteArray} {cs xl : List Value}
    (hmid : lo i + 3 ≤ mid ∧ mid ≤ hi i) (hl1 : ∀ b, (Value.slice p l[i].cells.list.length n).ownBlock = some b → lo i + 3 ≤ b ∧ b < mid) (hn1 : ∀ b, (Value.slice p' l[i].cells.names.length n').ownBlock = some b → mid ≤ b ∧ b < hi i)
    (hkids : ∀ (m : Nat) (h : m < l[i].cells.list.length), ∃ cs a b, cs.length = 5 ∧ (∀ q, q < 5 → xl[m * 5 + q]? = cs[q]?) ∧ lo i + 3 ≤ a ∧ b ≤ mid ∧ VlI w5 a b k l[i].cells.list[m] cs ∧ (∀ g, (Value.slice p l[i].cells.list.length n).ownBlock = some g → g < a ∨ b ≤ g))
    (hw : l.length * 104 ≤ 140737488351232) (hl : ∀ (i : Nat) (h : i < l.length), I64 l[i].id ∧ l[i].type.size ≤ 140737488351232) (hk : I64 l[i].cells.kind) (hn : I64 l[i].cells.num) (ht : l[i].cells.text.size ≤ 140737488351232) (hw1 : (l[i].cells.list.length + 1) * 80 ≤ 140737488351232) (hw2 : (l[i].cells.names.length + 1) * 16 ≤ 140737488351232) (hns : ∀ (m : Nat) (h : m < l[i].cells.names.length), l[i].cells.names[m].size ≤ 140737488351232) (hs : s.size ≤ 140737488351232)
    (hxl : xl.length = l[i].cells.list.length * 5) (hcs : cs.length = 5)
    (hnown : w6.ownsRow mid 9 1 (.slice (some ⟨gn, 0, none⟩) (l[i].cells.names.length + 1) cn) (l[i].cells.names.length + 1) (l[i].cells.names.map Value.string ++ [.string s])) (hgrow6 : (w5.alloc o6).grownBy w6 (Value.slice p' l[i].cells.names.length n').ownBlock) (hat6 : (Value.slice p' l[i].cells.names.length n').ownBlock = some gn ∨ gn = w5.heap.size + 1)
    (hW6 : W6 = w6.setCell ⟨g, i * 7 + 6, none⟩ (.slice (some ⟨gn, 0, none⟩) (l[i].cells.names.length + 1) cn)) (hb7 : Below W6.heap.size W6 w7) (hI7 : VlI w7 W6.heap.size w7.heap.size k v' cs)
    (hlown : w8.ownsRow (lo i + 3) 29 5 (.slice (some ⟨gl, 0, none⟩) (l[i].cells.list.length + 1) cl) (l[i].cells.list.length + 1) (xl ++ cs)) (hgrow8 : (w7.alloc o8).grownBy w8 (Value.slice p l[i].cells.list.length n).ownBlock) (hat8 : (Value.slice p l[i].cells.list.length n).ownBlock = some gl ∨ gl = w7.heap.size + 1) :
    NdRow (w8.setCell ⟨g, i * 7 + 5, none⟩ (.slice (some ⟨gl, 0, none⟩) (l[i].cells.list.length + 1) cl)) B (k + 1) (l.set i { l[i] with cells := { l[i].cells with list := l[i].cells.list ++ [v'], names := l[i].cells.names ++ [s] } }) (.slice (some ⟨g, 0, none⟩) l.length oc) ∧
      Below B w (w8.setCell ⟨g, i * 7 + 5, none⟩ (.slice (some ⟨gl, 0, none⟩) (l[i].cells.list.length + 1) cl)) := by
  obtain ⟨_, _, _, b3, b4, _, _, b7⟩ := h.kids i hil hil
  have hgi := b7 g rfl
  have hgl := h.own.lt g rfl
  have hz6 := hgrow6.size
  have hz8 := hgrow8.size
  simp at hz6 hz8
  have hzW : W6.heap.size = w6.heap.size := by rw [hW6]; simp [World.setCell]
  have hz7 := hb7.size
  have hbs : w.heap.size ≤ w5.heap.size := h.below.size
  have hng : ∀ b, (Value.slice p l[i].cells.list.length n).ownBlock = some b → b < w5.heap.size ∧ b ≠ g := fun b hb => by have := hl1 b hb; omega
  have hnn : ∀ b, (Value.slice p' l[i].cells.names.length n').ownBlock = some b → b < w5.heap.size ∧ b ≠ g := fun b hb => by have := hn1 b hb; omega
  have e6 : ∀ b, b < w5.heap.size → some b ≠ (Value.slice p' l[i].cells.names.length n').ownBlock → w6.heap[b]? = w5.heap[b]? := fun b h1 h2 => by
    rw [hgrow6.block b (by simp; omega) h2, Below.heap_alloc _ _ _ h1]
  have eW : ∀ b, b ≠ g → W6.heap[b]? = w6.heap[b]? := fun b hb => by rw [hW6]; exact Below.heap_setCell _ _ _ _ hb
  have e8 : ∀ b, b < w7.heap.size → some b ≠ (Value.slice p l[i].cells.list.length n).ownBlock → w8.heap[b]? = w7.heap[b]? := fun b h1 h2 => by
    rw [hgrow8.block b (by simp; omega) h2, Below.heap_alloc _ _ _ h1]
  have eF : ∀ b, b ≠ g → (w8.setCell ⟨g, i * 7 + 5, none⟩ (.slice (some ⟨gl, 0, none⟩) (l[i].cells.list.length + 1) cl)).heap[b]? = w8.heap[b]? := fun b hb => Below.heap_setCell _ _ _ _ hb
  have ng : some g ≠ (Value.slice p l[i].cells.list.length n).ownBlock := fun he => (hng g he.symm).2 rfl
  have nn : some g ≠ (Value.slice p' l[i].cells.names.length n').ownBlock := fun he => (hnn g he.symm).2 rfl
  have c6 : ∀ o, w6.cell? ⟨g, o, none⟩ = w5.cell? ⟨g, o, none⟩ := fun o => World.cell?_of_block (w := w5) (a := ⟨g, o, none⟩) (e6 g hgl.2 nn)
  have c8 : ∀ o, w8.cell? ⟨g, o, none⟩ = W6.cell? ⟨g, o, none⟩ := fun o => World.cell?_of_block (w := W6) (a := ⟨g, o, none⟩) ((e8 g (by omega) ng).trans (hb7.block g (by omega)))
  have hcell7 : ∀ q, q < 7 → ∃ u, w5.cell? ⟨g, i * 7 + q, none⟩ = some u := fun q hq => by
    rcases h.own.2 with ⟨h1, _⟩ | ⟨g', cap, cur, h1, h2, h3, h4, h5', h6', h7⟩
    · simp at h1
    · simp only [Value.slice.injEq, Option.some.injEq, Addr.mk.injEq, and_true, true_and] at h1
      obtain ⟨rfl, rfl⟩ := h1
      have hO : Owns w5 g cur 82 := h3
      rw [hO.cell]
      exact ⟨cur[i * 7 + q]'(by omega), Array.getElem?_eq_getElem _⟩
  have hgn : gn ≠ g ∧ mid ≤ gn ∧ gn < w6.heap.size := by
    have := (hnown.lt gn rfl).2
    rcases hat6 with hat | hat
    · have := hn1 gn hat; omega
    · omega
  have hgl8 : gl ≠ g := by
    rcases hat8 with hat | hat
    · exact (hng gl hat).2
    · omega
  refine ⟨CopyingN.grow (gl := gl) (gn := gn) (cl := cl) (cn := cn) (bn := mid) (bl := lo i + 3) h hB hil hmid hl1 hn1 hkids hw hl hk hn ht hw1 hw2 hns hs hxl hcs ?_ ?_ ?_ ?_ ?_ ?_ (by omega) ?_ (by omega), ?_⟩
  · exact VlR.base (by omega) _ _ _ (VlI.read (hI7.same (fun y y1 y2 => (eF y (by omega)).trans (e8 y y2 (fun he => by have := hng y he.symm; omega)))))
  · intro b h1 h2 h3 h4 h5
    rw [eF b h3, e8 b (by omega) h4, hb7.block b (by omega), eW b h3, e6 b h2 h5]
  · intro o h1 h2
    rw [cell_set_ne _ _ (by omega), c8, hW6, cell_set_ne _ _ (by omega), c6]
  · obtain ⟨u, hu⟩ := hcell7 5 (by omega)
    exact cell_set_eq _ _ (by rw [c8, hW6, cell_set_ne _ _ (by omega), c6]; exact hu)
  · obtain ⟨u, hu⟩ := hcell7 6 (by omega)
    rw [cell_set_ne _ _ (by omega), c8, hW6]
    exact cell_set_eq _ _ (by rw [c6]; exact hu)
  · exact ownsRow_in hnown (fun b hb _ => by
      simp [Value.ownBlock] at hb; subst hb
      rw [eF gn hgn.1, e8 gn (by omega) (fun he => by have := hl1 gn he.symm; omega), hb7.block gn (by omega), eW gn hgn.1])
  · exact ownsRow_in hlown (fun b hb _ => by simp [Value.ownBlock] at hb; subst hb; exact eF gl hgl8)
  · have hos : W6.os = w6.os ∧ W6.tape = w6.tape ∧ W6.output = w6.output := by rw [hW6]; exact ⟨rfl, rfl, rfl⟩
    refine Below.setCell (p := ⟨g, i * 7 + 5, none⟩) (h := ⟨hgrow8.os.trans (hb7.os.trans (hos.1.trans (hgrow6.os.trans h.below.os))), hgrow8.tape.trans (hb7.tape.trans (hos.2.1.trans (hgrow6.tape.trans h.below.tape))), hgrow8.output.trans (hb7.output.trans (hos.2.2.trans (hgrow6.output.trans h.below.output))), by omega, fun b hb => ?_⟩) (hp := by show B ≤ g; omega) _
    rw [e8 b (by omega) (fun he => by have := hl1 b he.symm; omega), hb7.block b (by omega), eW b (by omega), e6 b (by omega) (fun he => by have := hn1 b he.symm; omega), h.below.block b (by omega)]

end Go.Proofs.Ytehdepnemdbopaa
