
/-
  DERIVED. A STORE's TABLE IN MEMORY, while it grows: no walk.
-/
import Derived.Test.YthhnhigaoncakaaStB
import Derived.Test.YthhnhigaoncakaaRepF
import Derived.Laws.AppendOwn
namespace Go.Proofs.Ythhnhigaoncakaa
open Go.RowKit
set_option linter.unusedVariables false
set_option linter.unusedSimpArgs false

/-- The branches of a tree's form are so, while the blocks lo..hi stay. -/
def TrJ (w : World) (lo hi k : Nat) (t : Vl) (v : Value) : Prop := ∀ W, hi ≤ W.heap.size → (∀ b, lo ≤ b → b < hi → W.heap[b]? = w.heap[b]?) → Row W 0 2 32 (BrC W 0 k) (t.names.zip t.list) v
theorem TrJ.mk {w : World} {lo k : Nat} {t : Vl} {v : Value} (h : Row w lo 2 32 (BrC w lo k) (t.names.zip t.list) v) : TrJ w lo w.heap.size k t v := fun W h1 h2 => by
  have hk : Keeps lo w W := ⟨h1, h2⟩
  exact Row.base (Nat.zero_le _) (BrC.base (Nat.zero_le _) k) (Row.keeps hk (BrC.keeps hk k) h)
theorem TrJ.same {w w' : World} {lo hi k : Nat} {t : Vl} {v : Value} (h : TrJ w lo hi k t v) (hs : ∀ b, lo ≤ b → b < hi → w'.heap[b]? = w.heap[b]?) : TrJ w' lo hi k t v := fun W h1 h2 =>
  h W h1 (fun b c1 c2 => (h2 b c1 c2).trans (hs b c1 c2))

/-- A table of a store, of the first nodes, being made. -/
structure Tb (wr : World) (B k : Nat) (l : List Nd) (ov : Value) (xs : List Value) : Prop where
  own : wr.ownsRow B 77 3 ov l.length xs
  kids : ∀ (i : Nat) (h : i < l.length), ∃ vt lo hi, xs[i * 3]? = some (.int .i64 l[i].id) ∧ xs[i * 3 + 1]? = some (.string l[i].type) ∧ xs[i * 3 + 2]? = some vt ∧ B ≤ lo ∧ hi ≤ wr.heap.size ∧ TrJ wr lo hi k l[i].cells vt ∧ (∀ g, ov.ownBlock = some g → g < lo ∨ hi ≤ g)
theorem Tb.nil (wr : World) (B k : Nat) : Tb wr B k [] (.slice none 0 0) [] := ⟨⟨rfl, Or.inl ⟨rfl, rfl⟩⟩, fun i h => absurd h (Nat.not_lt_zero _)⟩
theorem Tb.far {wr : World} {B k : Nat} {l : List Nd} {ov : Value} {xs : List Value} (h : Tb wr B k l ov xs) {b : Nat} (hb : b < B) : some b ≠ ov.ownBlock := by
  intro he
  have := (h.own.lt b he.symm).1
  omega
theorem Tb.same {wr W : World} {B k : Nat} {l : List Nd} {ov : Value} {xs : List Value} (h : Tb wr B k l ov xs) (hs : ∀ b, B ≤ b → b < wr.heap.size → W.heap[b]? = wr.heap[b]?) (hz : wr.heap.size ≤ W.heap.size) : Tb W B k l ov xs := by
  refine ⟨?_, fun i hi => ?_⟩
  · obtain ⟨q1, q2⟩ := h.own
    refine ⟨q1, ?_⟩
    rcases q2 with q2 | ⟨g, cap, cur, q2, q3, q4, q5⟩
    · exact Or.inl q2
    · have hg : g < wr.heap.size := (h.own.lt g (by rw [q2]; rfl)).2
      exact Or.inr ⟨g, cap, cur, q2, q3, by rw [hs g q3 hg]; exact q4, q5⟩
  · obtain ⟨vt, lo, hi', b1, b2, b3, b4, b5, b6, b7⟩ := h.kids i hi
    exact ⟨vt, lo, hi', b1, b2, b3, b4, by omega, b6.same (fun b c1 c2 => hs b (by omega) (by omega)), b7⟩
/-- One more: its cells were turned to a form from the world W on; w1 has it; it was laid, and appended. -/
theorem Tb.snoc {wr w1 w2 : World} {B k g cap lo : Nat} {l : List Nd} {ov vt : Value} {xs : List Value} {x : Nd} (h : Tb wr B k l ov xs) (hs1 : ∀ b, B ≤ b → b < wr.heap.size → w1.heap[b]? = wr.heap[b]?) (hz1 : wr.heap.size ≤ lo) (hz2 : lo ≤ w1.heap.size) (hT : TrJ w1 lo w1.heap.size k x.cells vt)
    (hBw : B ≤ wr.heap.size) (hown : w2.ownsRow B 77 3 (.slice (some ⟨g, 0, none⟩) (l.length + 1) cap) (l.length + 1) (xs ++ [.int .i64 x.id, .string x.type, vt])) (hsz : w1.heap.size ≤ w2.heap.size)
    (hblk : ∀ b, b < w1.heap.size → some b ≠ ov.ownBlock → w2.heap[b]? = w1.heap[b]?) (hg : ov.ownBlock = some g ∨ w1.heap.size ≤ g) : Tb w2 B k (l ++ [x]) (.slice (some ⟨g, 0, none⟩) (l.length + 1) cap) (xs ++ [.int .i64 x.id, .string x.type, vt]) := by
  have hlen : xs.length = l.length * 3 := h.own.1
  have hgo : ∀ g', (Value.slice (some ⟨g, 0, none⟩) (l.length + 1) cap).ownBlock = some g' → g' = g := fun g' hg' => by simpa [Value.ownBlock] using hg'.symm
  have hgw : ∀ g', ov.ownBlock = some g' → g' < wr.heap.size := fun g' hg' => (h.own.lt g' hg').2
  refine ⟨by rw [List.length_append, List.length_cons, List.length_nil]; exact hown, fun i hi => ?_⟩
  rw [List.length_append, List.length_cons, List.length_nil] at hi
  by_cases hlt : i < l.length
  · rw [List.getElem_append_left hlt]
    obtain ⟨vt', lo', hi', b1, b2, b3, b4, b5, b6, b7⟩ := h.kids i hlt
    refine ⟨vt', lo', hi', by rw [List.getElem?_append_left (by omega)]; exact b1, by rw [List.getElem?_append_left (by omega)]; exact b2, by rw [List.getElem?_append_left (by omega)]; exact b3, b4, by omega, b6.same (fun b c1 c2 => ?_), fun g' hg' => ?_⟩
    · have hne : some b ≠ ov.ownBlock := fun he => by have := b7 b he.symm; omega
      rw [hblk b (by omega) hne, hs1 b (by omega) (by omega)]
    · rw [hgo g' hg']
      rcases hg with hg | hg
      · exact b7 g hg
      · right; omega
  · obtain rfl : i = l.length := by omega
    rw [List.getElem_append_right (Nat.le_refl _)]
    simp only [Nat.sub_self, List.getElem_cons_zero]
    refine ⟨vt, lo, w1.heap.size, by rw [List.getElem?_append_right (by omega), hlen, Nat.sub_self]; rfl, by rw [List.getElem?_append_right (by omega), hlen, Nat.add_sub_cancel_left]; rfl, by rw [List.getElem?_append_right (by omega), hlen, Nat.add_sub_cancel_left]; rfl, by omega, by omega, hT.same (fun b c1 c2 => hblk b c2 (fun he => by have := hgw b he.symm; omega)), fun g' hg' => ?_⟩
    rw [hgo g' hg']
    rcases hg with hg | hg
    · left; have := hgw g hg; omega
    · right; exact hg
/-- A row of a store's table. -/
def ThC (w : World) (k : Nat) (x : Nd) (cs : List Value) : Prop := ∃ vt, cs = [.int .i64 x.id, .string x.type, vt] ∧ Row w 0 2 32 (BrC w 0 k) (x.cells.names.zip x.cells.list) vt
def ThRow (w : World) (k : Nat) (l : List Nd) (v : Value) : Prop := Row w 0 3 48 (ThC w k) l v
theorem ThC.keeps {w w' : World} (hk : Keeps 0 w w') (k : Nat) (x : Nd) (cs : List Value) (h : ThC w k x cs) : ThC w' k x cs := by
  obtain ⟨vt, h1, h2⟩ := h
  exact ⟨vt, h1, Row.keeps hk (BrC.keeps hk k) h2⟩
theorem ThRow.keeps {w w' : World} {k : Nat} {l : List Nd} {v : Value} (hk : Keeps 0 w w') (h : ThRow w k l v) : ThRow w' k l v := Row.keeps hk (ThC.keeps hk k) h
theorem Tb.row {wr : World} {B k : Nat} {l : List Nd} {ov : Value} {xs : List Value} (h : Tb wr B k l ov xs) (h4 : l.length * 48 ≤ 140737488351232) : ThRow wr k l ov := by
  rcases h.own.2 with ⟨q1, q2⟩ | ⟨g, cap, cur, q1, q2, q3, q4, q5, q6, q7⟩
  · exact Or.inl ⟨q1, List.eq_nil_of_length_eq_zero q2⟩
  · refine Or.inr ⟨⟨g, 0, none⟩, cap, q1, q4, q5, h4, fun i hi => ⟨Nat.zero_le _, rfl, ?_⟩⟩
    obtain ⟨vt, lo, hi', b1, b2, b3, b4, b5, b6, b7⟩ := h.kids i hi
    refine ⟨[.int .i64 l[i].id, .string l[i].type, vt], rfl, fun q hq => ?_, vt, rfl, b6 wr b5 (fun _ _ _ => rfl)⟩
    show wr.cell? ⟨g, 0 + i * 3 + q, none⟩ = _
    have hO : Owns wr g cur 77 := q3
    have hi3 : i * 3 + 3 ≤ l.length * 3 := by have : i < l.length := hi; omega
    have hx : ∀ m, m < l.length * 3 → cur[m]? = xs[m]? := fun m hm => by rw [← q7, List.getElem?_take, if_pos hm, Array.getElem?_toList]
    simp only [List.length_cons, List.length_nil] at hq
    rw [hO.cell, Nat.zero_add, hx _ (by omega)]
    rcases (show q = 0 ∨ q = 1 ∨ q = 2 by omega) with rfl | rfl | rfl
    · exact b1
    · exact b2
    · exact b3

end Go.Proofs.Ythhnhigaoncakaa
