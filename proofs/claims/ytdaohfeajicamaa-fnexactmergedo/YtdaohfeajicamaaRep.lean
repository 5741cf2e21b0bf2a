
/-
  DERIVED. HOW DATA LIE IN MEMORY, no Go text: rows of things of n cells; trees by their depth. A reading has a base: all its blocks lie from there on; it stays while those blocks stay.
-/
import Derived.WalkKit
namespace Go.Proofs.Ytdaohfeajicamaa
open Go.RowKit
set_option linter.unusedVariables false
set_option linter.unusedSimpArgs false

/-- Of the blocks from base on that w has none has turned. -/
structure Keeps (base : Nat) (w w' : World) : Prop where
  size : w.heap.size ≤ w'.heap.size
  block : ∀ k, base ≤ k → k < w.heap.size → w'.heap[k]? = w.heap[k]?

theorem Keeps.refl (base : Nat) (w : World) : Keeps base w w := ⟨Nat.le_refl _, fun _ _ _ => rfl⟩
theorem Keeps.trans {base : Nat} {a b c : World} (h : Keeps base a b) (k : Keeps base b c) : Keeps base a c :=
  ⟨Nat.le_trans h.size k.size, fun i h1 h2 => (k.block i h1 (Nat.lt_of_lt_of_le h2 h.size)).trans (h.block i h1 h2)⟩
theorem Keeps.mono {base base' : Nat} {w w' : World} (h : Keeps base w w') (hb : base ≤ base') : Keeps base' w w' :=
  ⟨h.size, fun k h1 h2 => h.block k (Nat.le_trans hb h1) h2⟩
theorem Keeps.of_below {B : Nat} {w w' : World} (h : Below B w w') (hB : w.heap.size ≤ B) (base : Nat) : Keeps base w w' :=
  ⟨h.size, fun k _ h2 => h.block k (Nat.lt_of_lt_of_le h2 hB)⟩
theorem Keeps.alloc {base : Nat} {a w : World} (h : Keeps base a w) (o : Obj) : Keeps base a (w.alloc o) :=
  h.trans (Keeps.of_below ((Below.refl w.heap.size w).alloc (Nat.le_refl _) o) (Nat.le_refl _) base)
theorem Keeps.drew {base : Nat} {a w : World} (h : Keeps base a w) : Keeps base a w.drew := ⟨h.size, h.block⟩
theorem Below.drewn {B : Nat} {a w : World} (h : Below B w a) : Below B w.drew a := ⟨h.os, h.tape, h.output, h.size, h.block⟩
theorem Keeps.cell {base : Nat} {w w' : World} (h : Keeps base w w') {p : Addr} {v : Value} (hp : base ≤ p.block) (hc : w.cell? p = some v) : w'.cell? p = some v := by
  have hlt : p.block < w.heap.size := by
    unfold World.cell? at hc
    by_cases hx : p.block < w.heap.size
    · exact hx
    · rw [Array.getElem?_eq_none (by omega)] at hc; simp at hc
  rw [World.cell?_of_block (w := w) (h.block p.block hp hlt)]
  exact hc

theorem cell_lt {w : World} {p : Addr} {v : Value} (hc : w.cell? p = some v) : p.block < w.heap.size := by
  unfold World.cell? at hc
  by_cases hx : p.block < w.heap.size
  · exact hx
  · rw [Array.getElem?_eq_none (by omega)] at hc; simp at hc

theorem bcell {W w1 : World} (hb : Below W.heap.size W w1) : (∀ b o, b < W.heap.size → w1.cell? ⟨b, o, none⟩ = W.cell? ⟨b, o, none⟩) ∧ (∀ b o, b < W.heap.size → w1.frozen? ⟨b, o, none⟩ = W.frozen? ⟨b, o, none⟩) :=
  ⟨fun b o h => hb.cell (p := ⟨b, o, none⟩) h, fun b o h => hb.frozen (p := ⟨b, o, none⟩) h⟩

theorem cell_on {W w1 : World} (hb : Below W.heap.size W w1) {p : Addr} {v : Value} (h : W.cell? p = some v) : w1.cell? p = some v := by
  rw [hb.cell (cell_lt h)]; exact h

/-- The n cells at a place hold cs. -/
def CellsAt (w : World) (b off : Nat) (cs : List Value) : Prop := ∀ j, j < cs.length → w.cell? ⟨b, off + j, none⟩ = cs[j]?

theorem CellsAt.three {w : World} {b off : Nat} {x y z : Value} (h : CellsAt w b off [x, y, z]) :
    w.cell? ⟨b, off, none⟩ = some x ∧ w.cell? ⟨b, off + 1, none⟩ = some y ∧ w.cell? ⟨b, off + 2, none⟩ = some z :=
  ⟨h 0 (by simp), h 1 (by simp), h 2 (by simp)⟩

/-- A slice value that leads to things of n cells, each told by R; 'wide': the bytes of one. -/
def Row (w : World) (base n wide : Nat) {α : Type} (R : α → List Value → Prop) (l : List α) (v : Value) : Prop :=
  (v = .slice none 0 0 ∧ l = []) ∨
  ∃ a cap, v = .slice (some a) l.length cap ∧ l.length ≤ cap ∧ cap ≤ maxLen ∧ l.length * wide ≤ 140737488351232 ∧
    ∀ (i : Nat) (h : i < l.length), base ≤ a.block ∧ a.spot = none ∧ ∃ cs, cs.length = n ∧ CellsAt w a.block (a.off + i * n) cs ∧ R l[i] cs

theorem Row.len {w : World} {base n wide : Nat} {α : Type} {R : α → List Value → Prop} {l : List α} {v : Value} (h : Row w base n wide R l v) :
    ∃ a cap, v = .slice a l.length cap ∧ l.length * wide ≤ 140737488351232 ∧ (l ≠ [] → ∃ b off, a = some ⟨b, off, none⟩ ∧ base ≤ b ∧ ∀ (i : Nat) (h : i < l.length), ∃ cs, cs.length = n ∧ CellsAt w b (off + i * n) cs ∧ R l[i] cs) := by
  rcases h with ⟨rfl, rfl⟩ | ⟨a, cap, rfl, h1, h2, h3, h4⟩
  · exact ⟨none, 0, rfl, by simp, fun h => absurd rfl h⟩
  · refine ⟨some a, cap, rfl, h3, fun hne => ?_⟩
    have hpos : 0 < l.length := List.length_pos_iff.2 hne
    obtain ⟨hb, hs, _⟩ := h4 0 hpos
    obtain ⟨b, off, sp⟩ := a
    simp only at hs hb
    subst hs
    exact ⟨b, off, rfl, hb, fun i hi => (h4 i hi).2.2⟩

theorem CellsAt.keeps {base : Nat} {w w' : World} {b off : Nat} {cs : List Value} (hk : Keeps base w w') (hb : base ≤ b) (h : CellsAt w b off cs) : CellsAt w' b off cs := by
  intro j hj
  have h1 := h j hj
  rw [List.getElem?_eq_getElem hj] at h1 ⊢
  exact hk.cell (p := ⟨b, off + j, none⟩) hb h1

theorem Row.keeps {base n wide : Nat} {w w' : World} {α : Type} {R R' : α → List Value → Prop} {l : List α} {v : Value} (hk : Keeps base w w') (hR : ∀ x cs, R x cs → R' x cs)
    (h : Row w base n wide R l v) : Row w' base n wide R' l v := by
  rcases h with h | ⟨a, cap, rfl, h1, h2, h3, h4⟩
  · exact Or.inl h
  · refine Or.inr ⟨a, cap, rfl, h1, h2, h3, fun i hi => ?_⟩
    obtain ⟨hb, hs, cs, hl, hc, hr⟩ := h4 i hi
    exact ⟨hb, hs, cs, hl, hc.keeps hk hb, hR _ _ hr⟩

theorem Row.imp {base n wide : Nat} {w : World} {α : Type} {R R' : α → List Value → Prop} {l : List α} {v : Value} (hR : ∀ x cs, R x cs → R' x cs)
    (h : Row w base n wide R l v) : Row w base n wide R' l v := h.keeps (Keeps.refl _ _) hR

/-- A reading from a base on is one from every smaller base on. -/
theorem Row.base {base base' n wide : Nat} {w : World} {α : Type} {R R' : α → List Value → Prop} {l : List α} {v : Value} (hb : base' ≤ base) (hR : ∀ x cs, R x cs → R' x cs)
    (h : Row w base n wide R l v) : Row w base' n wide R' l v := by
  rcases h with h | ⟨a, cap, rfl, h1, h2, h3, h4⟩
  · exact Or.inl h
  · refine Or.inr ⟨a, cap, rfl, h1, h2, h3, fun i hi => ?_⟩
    obtain ⟨hb', hs, cs, hl, hc, hr⟩ := h4 i hi
    exact ⟨Nat.le_trans hb hb', hs, cs, hl, hc, hR _ _ hr⟩

/-! ### Memory that the call itself made -/
/-- A block of cells, none of them frozen. -/
def Owns (w : World) (b : Nat) (c : Array Value) (e : TypeId) : Prop := w.heap[b]? = some (.cells c e (0, 0))

theorem Owns.cell {w : World} {b : Nat} {c : Array Value} {e : TypeId} (h : Owns w b c e) (o : Nat) : w.cell? ⟨b, o, none⟩ = c[o]? := by
  unfold Owns at h
  unfold World.cell?
  simp [h]
theorem Owns.frozen {w : World} {b : Nat} {c : Array Value} {e : TypeId} (h : Owns w b c e) (o : Nat) : w.frozen? ⟨b, o, none⟩ = false := by
  unfold Owns at h
  unfold World.frozen?
  simp [h]
theorem Owns.lt {w : World} {b : Nat} {c : Array Value} {e : TypeId} (h : Owns w b c e) : b < w.heap.size := by
  unfold Owns at h
  by_cases hx : b < w.heap.size
  · exact hx
  · rw [Array.getElem?_eq_none (by omega)] at h; simp at h
theorem Owns.set {w : World} {b : Nat} {c : Array Value} {e : TypeId} (h : Owns w b c e) (o : Nat) (u : Value) : Owns (w.setCell ⟨b, o, none⟩ u) b (c.setIfInBounds o u) e := by
  unfold Owns at h ⊢
  simp [World.setCell, Array.getElem?_modify, h]
theorem Owns.other {w : World} {b : Nat} {c : Array Value} {e : TypeId} (h : Owns w b c e) {b' : Nat} (hne : b ≠ b') (o : Nat) (u : Value) : Owns (w.setCell ⟨b', o, none⟩ u) b c e := by
  unfold Owns at h ⊢
  rw [Below.heap_setCell _ _ _ _ hne]; exact h
theorem Owns.below {B : Nat} {w w' : World} {b : Nat} {c : Array Value} {e : TypeId} (h : Owns w b c e) (hb : Below B w w') (hB : b < B) : Owns w' b c e := by
  unfold Owns at h ⊢
  rw [hb.block b hB]; exact h
theorem Owns.made (w : World) (c : Array Value) (e : TypeId) : Owns (w.alloc (.cells c e)) w.heap.size c e := by
  unfold Owns
  show (w.heap.push _)[w.heap.size]? = _
  simp

theorem Keeps.setCell {base : Nat} {a w : World} (h : Keeps base a w) {p : Addr} (hp : p.block < base) (u : Value) : Keeps base a (w.setCell p u) :=
  h.trans ⟨by simp [World.setCell], fun k h1 _ => Below.heap_setCell _ _ _ _ (by omega)⟩
theorem Keeps.setCells {base b : Nat} (hp : b < base) : ∀ (cs : List Value) (o : Nat) {a w : World}, Keeps base a w → Keeps base a (w.setCells b o cs)
  | [], _, _, _, h => h
  | v :: r, o, a, w, h => Keeps.setCells hp r (o + 1) (h.setCell (p := ⟨b, o, none⟩) hp v)
theorem Below.setCells {B b : Nat} (hp : B ≤ b) : ∀ (cs : List Value) (o : Nat) {a w : World}, Below B a w → Below B a (w.setCells b o cs)
  | [], _, _, _, h => h
  | v :: r, o, a, w, h => Below.setCells hp r (o + 1) (h.setCell (p := ⟨b, o, none⟩) hp v)

/-- An array with some cells put from a place on. -/
def putAt (c : Array Value) : Nat → List Value → Array Value
  | _, [] => c
  | o, v :: r => putAt (c.setIfInBounds o v) (o + 1) r
theorem putAt_size : ∀ (cs : List Value) (o : Nat) (c : Array Value), (putAt c o cs).size = c.size
  | [], _, _ => rfl
  | v :: r, o, c => by simp [putAt, putAt_size r]
theorem putAt_out : ∀ (cs : List Value) (o : Nat) (c : Array Value) (i : Nat), (i < o ∨ o + cs.length ≤ i) → (putAt c o cs)[i]? = c[i]?
  | [], _, _, _, _ => rfl
  | v :: r, o, c, i, h => by
    simp only [putAt]
    rw [putAt_out r (o + 1) _ i (by simp at h; omega), Array.getElem?_setIfInBounds_ne (by simp at h; omega)]
theorem putAt_in : ∀ (cs : List Value) (o : Nat) (c : Array Value) (q : Nat), q < cs.length → o + cs.length ≤ c.size → (putAt c o cs)[o + q]? = cs[q]?
  | [], _, _, q, h, _ => by simp at h
  | v :: r, o, c, 0, _, hs => by
    simp only [putAt]
    rw [putAt_out r (o + 1) _ _ (by omega)]
    simp at hs
    rw [Nat.add_zero, Array.getElem?_setIfInBounds, if_pos rfl, if_pos (by omega)]
    rfl
  | v :: r, o, c, q + 1, h, hs => by
    simp only [putAt]
    have := putAt_in r (o + 1) (c.setIfInBounds o v) q (by simpa using h) (by simp at hs ⊢; omega)
    rw [show o + (q + 1) = o + 1 + q by omega, this]
    simp
theorem Owns.setCells {b : Nat} {e : TypeId} : ∀ (cs : List Value) (o : Nat) {w : World} {c : Array Value}, Owns w b c e → Owns (w.setCells b o cs) b (putAt c o cs) e
  | [], _, _, _, h => h
  | v :: r, o, _, _, h => Owns.setCells r (o + 1) (h.set o v)

/-- A row of the call's own, filled up to place j. -/
def Filled (w : World) (b n : Nat) (e : TypeId) {α : Type} (R : α → List Value → Prop) (l : List α) (j : Nat) : Prop :=
  ∃ c, Owns w b c e ∧ c.size = l.length * n ∧ ∀ (m : Nat) (h : m < l.length), m < j → ∃ cs, cs.length = n ∧ (∀ q, q < n → c[m * n + q]? = cs[q]?) ∧ R l[m] cs

theorem Filled.made (w : World) (n : Nat) (e : TypeId) {α : Type} (R : α → List Value → Prop) (l : List α) (c : Array Value) (hc : c.size = l.length * n) : Filled (w.alloc (.cells c e)) w.heap.size n e R l 0 :=
  ⟨c, Owns.made w c e, hc, fun _ _ h => absurd h (Nat.not_lt_zero _)⟩

theorem Filled.made1 (w : World) (o : Obj) (n : Nat) (e : TypeId) {α : Type} (R : α → List Value → Prop) (l : List α) (c : Array Value) (hc : c.size = l.length * n) : Filled ((w.alloc o).alloc (.cells c e)) (w.heap.size + 1) n e R l 0 := by
  have := Filled.made (w.alloc o) n e R l c hc
  rwa [show (w.alloc o).heap.size = w.heap.size + 1 by simp] at this

/-- Behind a call that turns none of the blocks that were there. -/
theorem Filled.below {B : Nat} {w w' : World} {b n : Nat} {e : TypeId} {α : Type} {R R' : α → List Value → Prop} {l : List α} {j : Nat} (h : Filled w b n e R l j) (hb : Below B w w') (hB : b < B)
    (hR : ∀ x cs, R x cs → R' x cs) : Filled w' b n e R' l j := by
  obtain ⟨c, h1, h2, h3⟩ := h
  refine ⟨c, h1.below hb hB, h2, fun m hm hj => ?_⟩
  obtain ⟨cs, a1, a2, a3⟩ := h3 m hm hj
  exact ⟨cs, a1, a2, hR _ _ a3⟩

theorem Filled.slot {w : World} {b n : Nat} {e : TypeId} {α : Type} {R : α → List Value → Prop} {l : List α} {j : Nat} (h : Filled w b n e R l j) {i q : Nat} (hi : i < l.length) (hq : q < n) :
    (∃ x, w.cell? ⟨b, i * n + q, none⟩ = some x) ∧ w.frozen? ⟨b, i * n + q, none⟩ = false := by
  obtain ⟨c, h1, h2, _⟩ := h
  refine ⟨?_, h1.frozen _⟩
  have hx : i * n + n ≤ l.length * n := by rw [← Nat.succ_mul]; exact Nat.mul_le_mul_right _ hi
  exact ⟨c[i * n + q]'(by omega), by rw [h1.cell]; exact Array.getElem?_eq_getElem _⟩
theorem Filled.lt {w : World} {b n : Nat} {e : TypeId} {α : Type} {R : α → List Value → Prop} {l : List α} {j : Nat} (h : Filled w b n e R l j) : b < w.heap.size := by
  obtain ⟨c, h1, _⟩ := h
  exact h1.lt

/-- One more is put. -/
theorem Filled.put {w : World} {b n : Nat} {e : TypeId} {α : Type} {R R' : α → List Value → Prop} {l : List α} {j : Nat} (h : Filled w b n e R l j) (hj : j < l.length) (cs : List Value) (hcs : cs.length = n)
    (hR : ∀ x cs, R x cs → R' x cs) (hnew : R' l[j] cs) : Filled (w.setCells b (j * n) cs) b n e R' l (j + 1) := by
  obtain ⟨c, h1, h2, h3⟩ := h
  have hfit : j * n + cs.length ≤ c.size := by
    rw [h2, hcs, ← Nat.succ_mul]; exact Nat.mul_le_mul_right _ hj
  refine ⟨putAt c (j * n) cs, h1.setCells cs _, by rw [putAt_size, h2], fun m hm hmj => ?_⟩
  rcases Nat.lt_succ_iff_lt_or_eq.1 hmj with hlt | rfl
  · obtain ⟨cs', a1, a2, a3⟩ := h3 m hm hlt
    refine ⟨cs', a1, fun q hq => ?_, hR _ _ a3⟩
    have hx : m * n + n ≤ j * n := by rw [← Nat.succ_mul]; exact Nat.mul_le_mul_right _ hlt
    rw [putAt_out cs _ _ _ (Or.inl (by omega)), a2 q hq]
  · exact ⟨cs, hcs, fun q hq => putAt_in cs _ _ q (by omega) hfit, hnew⟩

/-- A row that is filled is a row. -/
theorem Filled.row {w : World} {b n wide base : Nat} {e : TypeId} {α : Type} {R R' : α → List Value → Prop} {l : List α} (h : Filled w b n e R l l.length) (hb : base ≤ b) (hw : l.length * wide ≤ 140737488351232) (hl : l.length ≤ maxLen)
    (hR : ∀ x cs, R x cs → R' x cs) : Row w base n wide R' l (.slice (some ⟨b, 0, none⟩) l.length l.length) := by
  obtain ⟨c, h1, h2, h3⟩ := h
  refine Or.inr ⟨⟨b, 0, none⟩, l.length, rfl, Nat.le_refl _, hl, hw, fun i hi => ⟨hb, rfl, ?_⟩⟩
  obtain ⟨cs, a1, a2, a3⟩ := h3 i hi hi
  refine ⟨cs, a1, fun q hq => ?_, hR _ _ a3⟩
  show w.cell? ⟨b, 0 + i * n + q, none⟩ = _
  rw [h1.cell, Nat.zero_add, a2 q (by omega)]

/-! ### Types -/
structure Ty where
  name : ByteArray
  of : List Ty
  must : Bool

/-- A type, at most k deep, in three cells. -/
def TyR (w : World) (base : Nat) : Nat → Ty → List Value → Prop
  | 0, _, _ => False
  | k + 1, t, cs => ∃ v, cs = [.string t.name, v, .bool t.must] ∧ t.name.size ≤ 140737488351232 ∧ Row w base 3 48 (TyR w base k) t.of v

theorem TyR.cells {w : World} {base k : Nat} {t : Ty} {cs : List Value} (h : TyR w base k t cs) : ∃ v, cs = [.string t.name, v, .bool t.must] := by
  cases k with
  | zero => exact h.elim
  | succ k => obtain ⟨v, h1, _⟩ := h; exact ⟨v, h1⟩

theorem TyR.slice {w : World} {base k : Nat} {t : Ty} {x v y : Value} (h : TyR w base k t [x, v, y]) : ∃ a cap, v = .slice a t.of.length cap := by
  cases k with
  | zero => exact h.elim
  | succ k =>
    obtain ⟨v', h1, _, h3⟩ := h
    simp only [List.cons.injEq] at h1
    obtain ⟨a, cap, hv, _⟩ := h3.len
    exact ⟨a, cap, by rw [h1.2.1, hv]⟩

theorem TyR.keeps {base : Nat} {w w' : World} (hk : Keeps base w w') : ∀ (k : Nat) (t : Ty) (cs : List Value), TyR w base k t cs → TyR w' base k t cs
  | 0, _, _, h => h.elim
  | k + 1, t, cs, ⟨v, h1, h2, h3⟩ => ⟨v, h1, h2, h3.keeps hk (TyR.keeps hk k)⟩

theorem TyRow.keeps {base k : Nat} {w w' : World} {l : List Ty} {v : Value} (hk : Keeps base w w') (h : Row w base 3 48 (TyR w base k) l v) : Row w' base 3 48 (TyR w' base k) l v :=
  Row.keeps hk (TyR.keeps hk k) h

theorem TyR.base {base base' : Nat} {w : World} (hb : base' ≤ base) : ∀ (k : Nat) (t : Ty) (cs : List Value), TyR w base k t cs → TyR w base' k t cs
  | 0, _, _, h => h.elim
  | k + 1, t, cs, ⟨v, h1, h2, h3⟩ => ⟨v, h1, h2, h3.base hb (TyR.base hb k)⟩

theorem TyRow.base {base base' k : Nat} {w : World} {l : List Ty} {v : Value} (hb : base' ≤ base) (h : Row w base 3 48 (TyR w base k) l v) : Row w base' 3 48 (TyR w base' k) l v :=
  Row.base hb (TyR.base hb k) h

end Go.Proofs.Ytdaohfeajicamaa
