
/-
  DERIVED. THE MEMORY OF spec.l8MergeDo WHILE IT GOES: its boxes, what is made so far. No walk.
-/
import Derived.Test.YtdaohfeajicamaaMgK
import Derived.Deep.RegionHeld3
namespace Go.Proofs.Ytdaohfeajicamaa
open Go.RowKit
set_option linter.unusedVariables false
set_option linter.unusedSimpArgs false

theorem five_ofQ {W : World} {b : Nat} {x0 x1 x2 x3 x4 : Value} (h : ∀ o, W.cell? ⟨b, o, none⟩ = #[x0, x1, x2, x3, x4][o]?) :
    W.cell? ⟨b, 0, none⟩ = some x0 ∧ W.cell? ⟨b, 1, none⟩ = some x1 ∧ W.cell? ⟨b, 2, none⟩ = some x2 ∧ W.cell? ⟨b, 3, none⟩ = some x3 ∧ W.cell? ⟨b, 4, none⟩ = some x4 := ⟨h 0, h 1, h 2, h 3, h 4⟩
theorem newbox_keptQ {wr wT : World} {y0 y1 y2 y3 y4 : Value} {e : TypeId} (h : Hid (Below (wr.alloc (Obj.cells #[y0, y1, y2, y3, y4] e)).drew.heap.size (wr.alloc (Obj.cells #[y0, y1, y2, y3, y4] e)).drew wT)) :
    (wT.cell? ⟨wr.heap.size, 0, none⟩ = some y0 ∧ wT.cell? ⟨wr.heap.size, 1, none⟩ = some y1 ∧ wT.cell? ⟨wr.heap.size, 2, none⟩ = some y2 ∧ wT.cell? ⟨wr.heap.size, 3, none⟩ = some y3 ∧ wT.cell? ⟨wr.heap.size, 4, none⟩ = some y4) ∧ (∀ o, wT.frozen? ⟨wr.heap.size, o, none⟩ = false) ∧ wr.heap.size < wT.heap.size := by
  have h1 : Below (wr.alloc (Obj.cells #[y0, y1, y2, y3, y4] e)).heap.size (wr.alloc (Obj.cells #[y0, y1, y2, y3, y4] e)) wT := ((Below.refl _ _).drew).trans h.out
  have h2 : Owns wT wr.heap.size #[y0, y1, y2, y3, y4] e := (Owns.made wr _ _).below h1 (by simp)
  exact ⟨five_ofQ h2.cell, fun o => h2.frozen o, h2.lt⟩
theorem far5Q {w : World} {B b o : Nat} {y0 y1 y2 y3 y4 v : Value} (hne : b ≠ B) (h : w.cell? ⟨b, o, none⟩ = some v) : (((((w.setCell ⟨B, 0, none⟩ y0).setCell ⟨B, 1, none⟩ y1).setCell ⟨B, 2, none⟩ y2).setCell ⟨B, 3, none⟩ y3).setCell ⟨B, 4, none⟩ y4).cell? ⟨b, o, none⟩ = some v := by
  have hn : B ≠ b := fun e => hne e.symm
  rw [World.cell?_setCell_far _ _ _ _ (by exact hn), World.cell?_setCell_far _ _ _ _ (by exact hn), World.cell?_setCell_far _ _ _ _ (by exact hn), World.cell?_setCell_far _ _ _ _ (by exact hn), World.cell?_setCell_far _ _ _ _ (by exact hn)]
  exact h
theorem below5Q {b : Nat} {w w' : World} {B : Nat} {y0 y1 y2 y3 y4 : Value} (hB : b ≤ B) (h : Below b w w') : Below b w (((((w'.setCell ⟨B, 0, none⟩ y0).setCell ⟨B, 1, none⟩ y1).setCell ⟨B, 2, none⟩ y2).setCell ⟨B, 3, none⟩ y3).setCell ⟨B, 4, none⟩ y4) :=
  ((((h.setCell hB _).setCell hB _).setCell hB _).setCell hB _).setCell hB _
theorem Owns.sameQ {w w' : World} {b : Nat} {c : Array Value} {e : TypeId} (h : Owns w b c e) (hb : w'.heap[b]? = w.heap[b]?) : Owns w' b c e := by
  unfold Owns at h ⊢; rw [hb]; exact h

structure MdSt (w wr : World) (k : Nat) (cv cm : Array Value) (l : List Vl) (xs : List Value) (ns : List ByteArray) (x : Option Addr) (xc : Nat) (y : Option Addr) (yc : Nat) : Prop where
  bv : Owns wr w.heap.size cv 29
  bm : Owns wr (w.heap.size + 1) cm 29
  br : Owns wr (w.heap.size + 2) #[.int .i64 0, .int .i64 0, .string ⟨#[]⟩, .slice none 0 0, .slice none 0 0] 29
  bo : Owns wr (w.heap.size + 3) #[.int .i64 5, .int .i64 0, .string ⟨#[]⟩, .slice x l.length xc, .slice y ns.length yc] 29
  gr : MqT wr (w.heap.size + 4) k l (.slice x l.length xc) xs ns (.slice y ns.length yc)
  bel : Below w.heap.size w wr
  sz : w.heap.size + 4 ≤ wr.heap.size
theorem MdSt.on {w wr W : World} {k : Nat} {cv cm : Array Value} {l : List Vl} {xs : List Value} {ns : List ByteArray} {x y : Option Addr} {xc yc : Nat} (h : MdSt w wr k cv cm l xs ns x xc y yc) (hb : Below wr.heap.size wr W) : MdSt w W k cv cm l xs ns x xc y yc :=
  ⟨h.bv.below hb h.bv.lt, h.bm.below hb h.bm.lt, h.br.below hb h.br.lt, h.bo.below hb h.bo.lt, h.gr.same (fun b _ h2 => hb.block b h2) hb.size, h.bel.trans (hb.mono h.bel.size), Nat.le_trans h.sz hb.size⟩
theorem MdSt.name {w wr w3 : World} {k g cap : Nat} {cv cm : Array Value} {l : List Vl} {xs : List Value} {ns : List ByteArray} {x y : Option Addr} {xc yc : Nat} {o : Obj} {s : ByteArray} (h : MdSt w wr k cv cm l xs ns x xc y yc)
    (hown : w3.ownsRow (w.heap.size + 4) 9 1 (.slice (some ⟨g, 0, none⟩) (ns.length + 1) cap) (ns.length + 1) (ns.map Value.string ++ [.string s])) (hg : (wr.alloc o).grownBy w3 (Value.slice y ns.length yc).ownBlock) (hat : (Value.slice y ns.length yc).ownBlock = some g ∨ g = wr.heap.size + 1) :
    MdSt w (w3.setCell ⟨w.heap.size + 3, 4, none⟩ (.slice (some ⟨g, 0, none⟩) (ns.length + 1) cap)) k cv cm l xs (ns ++ [s]) x xc (some ⟨g, 0, none⟩) cap := by
  have hsz := h.sz
  have hgs := hg.size
  simp at hgs
  have hl : (ns ++ [s]).length = ns.length + 1 := by simp
  have hsame : ∀ b, b < w.heap.size + 4 → w3.heap[b]? = wr.heap[b]? := fun b hb => by
    rw [hg.block b (by simp; omega) (h.gr.far hb).2, Below.heap_alloc _ _ _ (by omega)]
  have hset : ∀ b, b ≠ w.heap.size + 3 → (w3.setCell ⟨w.heap.size + 3, 4, none⟩ (.slice (some ⟨g, 0, none⟩) (ns.length + 1) cap)).heap[b]? = w3.heap[b]? := fun b hb => Below.heap_setCell _ _ _ _ hb
  refine ⟨h.bv.sameQ ((hset _ (by omega)).trans (hsame _ (by omega))), h.bm.sameQ ((hset _ (by omega)).trans (hsame _ (by omega))), h.br.sameQ ((hset _ (by omega)).trans (hsame _ (by omega))), ?_, ?_, ?_, ?_⟩
  · rw [hl]
    exact (h.bo.sameQ (hsame _ (by omega))).set 4 _
  · rw [hl]
    exact h.gr.name (vb := w.heap.size + 3) (by omega) hsz hown hg hat (fun b hb => hset b hb) (by simp [World.setCell])
  · exact (below_grownS h.bel (Nat.le_refl _) hg (fun q hq => by have := (h.gr.nown.lt q hq).1; omega)).setCell (by simp) _
  · simp [World.setCell]; omega
theorem MdSt.step {w wr w1 w2 : World} {k g cap : Nat} {cv cm : Array Value} {l : List Vl} {xs cs : List Value} {ns : List ByteArray} {x y : Option Addr} {xc yc : Nat} {o : Obj} {t : Vl} (h : MdSt w wr k cv cm l xs ns x xc y yc) (hcs : cs.length = 5)
    (hb : Below wr.heap.size wr w1) (hI : VlK w1 wr.heap.size w1.heap.size k t cs)
    (hown : w2.ownsRow (w.heap.size + 4) 29 5 (.slice (some ⟨g, 0, none⟩) (l.length + 1) cap) (l.length + 1) (xs ++ cs)) (hg : (w1.alloc o).grownBy w2 (Value.slice x l.length xc).ownBlock) (hat : (Value.slice x l.length xc).ownBlock = some g ∨ g = w1.heap.size + 1) :
    MdSt w (w2.setCell ⟨w.heap.size + 3, 3, none⟩ (.slice (some ⟨g, 0, none⟩) (l.length + 1) cap)) k cv cm (l ++ [t]) (xs ++ cs) ns (some ⟨g, 0, none⟩) cap y yc := by
  have hsz := h.sz
  have hs1 := hb.size
  have hgs := hg.size
  simp at hgs
  have hl : (l ++ [t]).length = l.length + 1 := by simp
  have hsame : ∀ b, b < w.heap.size + 4 → w2.heap[b]? = wr.heap[b]? := fun b hb' => by
    rw [hg.block b (by simp; omega) (h.gr.far hb').1, Below.heap_alloc _ _ _ (by omega), hb.block b (by omega)]
  have hset : ∀ b, b ≠ w.heap.size + 3 → (w2.setCell ⟨w.heap.size + 3, 3, none⟩ (.slice (some ⟨g, 0, none⟩) (l.length + 1) cap)).heap[b]? = w2.heap[b]? := fun b hb => Below.heap_setCell _ _ _ _ hb
  refine ⟨h.bv.sameQ ((hset _ (by omega)).trans (hsame _ (by omega))), h.bm.sameQ ((hset _ (by omega)).trans (hsame _ (by omega))), h.br.sameQ ((hset _ (by omega)).trans (hsame _ (by omega))), ?_, ?_, ?_, ?_⟩
  · rw [hl]
    exact (h.bo.sameQ (hsame _ (by omega))).set 3 _
  · rw [hl]
    exact h.gr.step (vb := w.heap.size + 3) (by omega) hsz hcs (fun b _ h2 => hb.block b h2) hs1 hI hown hg hat (fun b hb => hset b hb) (by simp [World.setCell])
  · exact (below_grownS (h.bel.trans (hb.mono h.bel.size)) (Nat.le_refl _) hg (fun q hq => by have := (h.gr.own.lt q hq).1; omega)).setCell (by simp) _
  · simp [World.setCell]; omega
/-- All of it, stored into the result's box, is the value. -/
theorem MdSt.value {w wr : World} {k : Nat} {cv cm : Array Value} {l : List Vl} {xs : List Value} {ns : List ByteArray} {x y : Option Addr} {xc yc : Nat} (h : MdSt w wr k cv cm l xs ns x xc y yc) (h4 : l.length ≤ 1000) (h5 : ns.length ≤ 1000) (h6 : ∀ s ∈ ns, s.size ≤ 140737488351232) :
    VlK wr (w.heap.size + 4) wr.heap.size (k + 1) ⟨5, 0, ⟨#[]⟩, l, ns⟩ [.int .i64 5, .int .i64 0, .string ⟨#[]⟩, .slice x l.length xc, .slice y ns.length yc] :=
  h.gr.mk'.value h.gr.nown (Nat.le_refl _) ⟨by decide, by decide⟩ ⟨by decide, by decide⟩ (by decide) (by omega) (by omega) h6

end Go.Proofs.Ytdaohfeajicamaa
