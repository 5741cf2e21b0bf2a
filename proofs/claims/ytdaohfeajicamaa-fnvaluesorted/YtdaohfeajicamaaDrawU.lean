
/-
  DERIVED. THE WALKS OF (*l1Rd).of, (*l1Rd).one, spec.l1Open.
-/
import Derived.Test.YtdaohfeajicamaaDraw
import Derived.Test.YtdaohfeajicamaaVlQd
import Derived.Laws.AppendOwn
namespace Go.Proofs.Ytdaohfeajicamaa
open Go.RowKit
set_option linter.unusedVariables false
set_option linter.unusedSimpArgs false

theorem Turns.cell {bs : List Nat} {w w' : World} (h : Turns bs w w') {p : Addr} {v : Value} (hp : p.block ∉ bs) (hc : w.cell? p = some v) : w'.cell? p = some v := by
  rw [World.cell?_of_block (w := w) (h.block p.block (cell_lt hc) hp)]
  exact hc

set_option maxHeartbeats 1000000 in
theorem of_any (l : List ByteArray) (lb cap rb : Nat) (a : Option Addr) (n c p : Nat) (w : World) (hl1 : 1 ≤ l.length) (hl2 : l.length ≤ 1000) (hp : p ≤ 1000000) (hR : RdAt w rb a n c p) (hne : lb ≠ rb)
    (hc : ∀ (i : Nat) (h : i < l.length), w.cell? ⟨lb, i, none⟩ = some (.string l[i])) :
    Calls Try.prog 68 #[.pointer (some ⟨rb, 0, none⟩), .slice (some ⟨lb, 0, none⟩) l.length cap] w fun e w' =>
      ∃ (i : Nat) (h : i < l.length), e = .returned (.string l[i]) ∧ RdAt w' rb a n c (p + 1) ∧ Turns [rb] w w' := by
  have HR : Hid (RdAt w rb a n c p) := hR
  have HC : Hid (∀ (i : Nat) (h : i < l.length), w.cell? ⟨lb, i, none⟩ = some (.string l[i])) := hc
  clear hR hc
  go_enter Try.func68, Try.ntmps68
  go_wp2_with fail
  refine (pick_any l.length rb a n c p _ hl1 (by omega) hp HR.out).mono ?_
  rintro e w1 ⟨x, hx, rfl, hR1, hT1⟩
  have hxi : (x : Int) < (l.length : Int) := by omega
  have q : w1.cell? ⟨lb, x, none⟩ = some (.string l[x]) := hT1.cell (by simp; exact hne) (HC.out x hx)
  have HR1 : Hid (RdAt w1 rb a n c (p + 1)) := hR1
  have HT1 : Hid (Turns [rb] w w1) := hT1
  clear hR1 hT1
  go_wp2_with fail
  go_ret
  exact ⟨x, hx, rfl, HR1.out, HT1.out⟩

set_option maxHeartbeats 1000000 in
theorem one_any (l : List Int) (lb cap rb : Nat) (a : Option Addr) (n c p : Nat) (w : World) (hl1 : 1 ≤ l.length) (hl2 : l.length ≤ 1000) (hp : p ≤ 1000000) (hR : RdAt w rb a n c p) (hne : lb ≠ rb)
    (hc : ∀ (i : Nat) (h : i < l.length), w.cell? ⟨lb, i, none⟩ = some (.int .i64 l[i])) :
    Calls Try.prog 66 #[.pointer (some ⟨rb, 0, none⟩), .slice (some ⟨lb, 0, none⟩) l.length cap] w fun e w' =>
      ∃ (i : Nat) (h : i < l.length), e = .returned (.int .i64 l[i]) ∧ RdAt w' rb a n c (p + 1) ∧ Turns [rb] w w' := by
  have HR : Hid (RdAt w rb a n c p) := hR
  have HC : Hid (∀ (i : Nat) (h : i < l.length), w.cell? ⟨lb, i, none⟩ = some (.int .i64 l[i])) := hc
  clear hR hc
  go_enter Try.func66, Try.ntmps66
  go_wp2_with fail
  refine (pick_any l.length rb a n c p _ hl1 (by omega) hp HR.out).mono ?_
  rintro e w1 ⟨x, hx, rfl, hR1, hT1⟩
  have hxi : (x : Int) < (l.length : Int) := by omega
  have q : w1.cell? ⟨lb, x, none⟩ = some (.int .i64 l[x]) := hT1.cell (by simp; exact hne) (HC.out x hx)
  have HR1 : Hid (RdAt w1 rb a n c (p + 1)) := hR1
  have HT1 : Hid (Turns [rb] w w1) := hT1
  clear hR1 hT1
  go_wp2_with fail
  go_ret
  exact ⟨x, hx, rfl, HR1.out, HT1.out⟩

/-- What is told of a code that came in: bytes, from its place on. -/
def CodeAt (w : World) (a : Option Addr) (len : Nat) : Prop := ∀ i, i < len → ∃ b off z, a = some ⟨b, off, none⟩ ∧ z < 256 ∧ w.cell? ⟨b, off + i, none⟩ = some (.int .u8 ((z : Nat) : Int))

theorem RdAt.made {w : World} {a : Option Addr} {len n c : Nat} (h : CodeAt w a len) (hn : n ≤ len) (h2 : n ≤ 2000) : RdAt (w.alloc (.cells #[.slice a n c, .int .i64 0] 96)) w.heap.size a n c 0 := by
  refine ⟨Owns.made w _ _, h2, fun i hi => ?_⟩
  obtain ⟨b, off, z, h3, h4, h5⟩ := h i (by omega)
  have hlt := cell_lt h5
  refine ⟨b, off, z, h3, ?_, h4, ?_⟩
  · simp at hlt; omega
  · exact (World.cell?_alloc_lt _ _ _ hlt).trans h5

def OpenC (a : Option Addr) (cap : Nat) (w : World) (e : Ending) (w' : World) : Prop := ∃ n, e = .returned (.pointer (some ⟨w.heap.size, 0, none⟩)) ∧ RdAt w' w.heap.size a n cap 0 ∧ Below w.heap.size w w'

set_option maxHeartbeats 1000000 in
theorem l1Open_any (a : Option Addr) (len cap : Nat) (w : World) (hl : len ≤ 1048576) (hcap : len ≤ cap) (hc : CodeAt w a len) :
    Calls Try.prog 44 #[.slice a len cap] w (OpenC a cap w) := by
  by_cases hbig : 2000 < len
  · have hb : (2000 : Int) < (len : Int) := by omega
    have HC : Hid (CodeAt w a len) := hc
    obtain ⟨b, off, _, rfl, _, _⟩ := hc 0 (by omega)
    have hci : (len : Int) ≤ (cap : Int) := by omega
    clear hc
    go_enter Try.func44, Try.ntmps44
    go_wp2_with fail
    go_ret
    refine ⟨2000, rfl, ?_, ?_⟩
    · exact RdAt.made HC.out (by omega) (by omega)
    · exact (Below.refl _ _).alloc (Nat.le_refl _) _
  · have hb : ¬ (2000 : Int) < (len : Int) := by omega
    have HC : Hid (CodeAt w a len) := hc
    clear hc
    go_enter Try.func44, Try.ntmps44
    go_wp2_with fail
    go_ret
    refine ⟨len, rfl, ?_, ?_⟩
    · exact RdAt.made HC.out (by omega) (by omega)
    · exact (Below.refl _ _).alloc (Nat.le_refl _) _

end Go.Proofs.Ytdaohfeajicamaa

namespace Go.Proofs.Ytdaohfeajicamaa
open Go.RowKit
set_option linter.unusedVariables false
set_option linter.unusedSimpArgs false

/-- A list that is being made, of values that lie in intervals of their own. -/
structure Mk (wr : World) (B k : Nat) (l : List Vl) (ov : Value) (xs : List Value) : Prop where
  own : wr.ownsRow B 29 5 ov l.length xs
  kids : ∀ (i : Nat) (h : i < l.length), ∃ cs lo hi, cs.length = 5 ∧ (∀ q, q < 5 → xs[i * 5 + q]? = cs[q]?) ∧ B ≤ lo ∧ hi ≤ wr.heap.size ∧ VlJ wr lo hi k l[i] cs ∧ (∀ g, ov.ownBlock = some g → g < lo ∨ hi ≤ g)
theorem Mk.nil (wr : World) (B k : Nat) : Mk wr B k [] (.slice none 0 0) [] := ⟨⟨rfl, Or.inl ⟨rfl, rfl⟩⟩, fun i h => absurd h (Nat.not_lt_zero _)⟩
theorem Mk.far {wr : World} {B k : Nat} {l : List Vl} {ov : Value} {xs : List Value} (h : Mk wr B k l ov xs) {b : Nat} (hb : b < B) : some b ≠ ov.ownBlock := by
  intro he
  have := (h.own.lt b he.symm).1
  omega
/-- It stays while the blocks from B on stay. -/
theorem Mk.same {wr W : World} {B k : Nat} {l : List Vl} {ov : Value} {xs : List Value} (h : Mk wr B k l ov xs) (hs : ∀ b, B ≤ b → b < wr.heap.size → W.heap[b]? = wr.heap[b]?) (hz : wr.heap.size ≤ W.heap.size) : Mk W B k l ov xs := by
  refine ⟨?_, fun i hi => ?_⟩
  · obtain ⟨q1, q2⟩ := h.own
    refine ⟨q1, ?_⟩
    rcases q2 with q2 | ⟨g, cap, cur, q2, q3, q4, q5⟩
    · exact Or.inl q2
    · have hg : g < wr.heap.size := (h.own.lt g (by rw [q2]; rfl)).2
      exact Or.inr ⟨g, cap, cur, q2, q3, by rw [hs g q3 hg]; exact q4, q5⟩
  · obtain ⟨cs, lo, hi', b1, b2, b3, b4, b5, b6⟩ := h.kids i hi
    exact ⟨cs, lo, hi', b1, b2, b3, by omega, b5.same (fun b c1 c2 => hs b (by omega) (by omega)), b6⟩

/-- A list that was made, and names, are a value's. -/
theorem Mk.value {wr : World} {B k lo : Nat} {l : List Vl} {ov nv : Value} {xs : List Value} {ns : List ByteArray} {kd nm : Int} {tx : ByteArray} (h : Mk wr B k l ov xs) (hn : wr.ownsRow B 9 1 nv ns.length (ns.map Value.string))
    (hlo : lo ≤ B) (h1 : I64 kd) (h2 : I64 nm) (h3 : tx.size ≤ 140737488351232) (h4 : l.length * 80 ≤ 140737488351232) (h5 : ns.length * 16 ≤ 140737488351232) (h6 : ∀ s ∈ ns, s.size ≤ 140737488351232) :
    VlJ wr lo wr.heap.size (k + 1) ⟨kd, nm, tx, l, ns⟩ [.int .i64 kd, .int .i64 nm, .string tx, ov, nv] := by
  intro W hW
  refine ⟨ov, nv, rfl, h1, h2, h3, ?_, ?_, ?_⟩
  · rcases h.own.2 with ⟨q1, q2⟩ | ⟨g, cap, cur, q1, q2, q3, q4, q5, q6, q7⟩
    · exact Or.inl ⟨q1, List.eq_nil_of_length_eq_zero q2⟩
    · have hg : g < wr.heap.size := (h.own.lt g (by rw [q1]; rfl)).2
      refine Or.inr ⟨⟨g, 0, none⟩, cap, q1, q4, q5, h4, fun i hi => ⟨by show lo ≤ g; omega, rfl, ?_⟩⟩
      obtain ⟨cs, lo', hi', b1, b2, b3, b4, b5, b6⟩ := h.kids i hi
      refine ⟨cs, b1, fun q hq => ?_, VlQ.base (by omega) _ _ _ (b5 W (fun b c1 c2 => hW b (by omega) (by omega)))⟩
      show W.cell? ⟨g, 0 + i * 5 + q, none⟩ = _
      have hO : Owns W g cur 29 := by unfold Owns; rw [hW g (by omega) hg]; exact q3
      have hi5 : i * 5 + 5 ≤ l.length * 5 := by have : i < l.length := hi; omega
      rw [hO.cell, Nat.zero_add, ← b2 q (by omega), ← q7, List.getElem?_take, if_pos (by omega), Array.getElem?_toList]
  · rcases hn.2 with ⟨q1, q2⟩ | ⟨g, cap, cur, q1, q2, q3, q4, q5, q6, q7⟩
    · exact Or.inl ⟨q1, List.eq_nil_of_length_eq_zero q2⟩
    · have hg : g < wr.heap.size := (hn.lt g (by rw [q1]; rfl)).2
      refine Or.inr ⟨⟨g, 0, none⟩, cap, q1, q4, q5, h5, fun i hi => ⟨by show lo ≤ g; omega, rfl, [.string ns[i]], rfl, fun q hq => ?_, rfl, h6 _ (List.getElem_mem hi)⟩⟩
      obtain rfl : q = 0 := by simpa using hq
      show W.cell? ⟨g, 0 + i * 1 + 0, none⟩ = _
      have hO : Owns W g cur 9 := by unfold Owns; rw [hW g (by omega) hg]; exact q3
      rw [hO.cell, Nat.zero_add, Nat.add_zero, Nat.mul_one]
      have h7 : (cur.toList.take (ns.length * 1))[i]? = (ns.map Value.string)[i]? := by rw [q7]
      rw [Nat.mul_one, List.getElem?_take, if_pos (by exact hi), Array.getElem?_toList] at h7
      rw [h7]; simp [hi]
  · intro hne
    rcases h.own.2 with ⟨q1, q2⟩ | ⟨g, cap, cur, q1, q2, q3, q4, q5, q6, q7⟩
    · exact absurd (List.eq_nil_of_length_eq_zero q2) hne
    · have hg : g < wr.heap.size := (h.own.lt g (by rw [q1]; rfl)).2
      exact ⟨⟨g, 0, none⟩, _, _, q1, cur, _, by show W.heap[g]? = _; rw [hW g (by omega) hg]; exact q3⟩

/-- One more was drawn, laid into a block of its own, appended; and the slice was stored into the box vb. -/
theorem Mk.step {wr w1 w2 W : World} {B k vb g cap : Nat} {l : List Vl} {ov : Value} {xs : List Value} {o : Obj} {cs : List Value} {x : Vl} (h : Mk wr B k l ov xs) (hvb : vb < B) (hB : B ≤ wr.heap.size) (hcs : cs.length = 5)
    (hb1 : ∀ b, B ≤ b → b < wr.heap.size → w1.heap[b]? = wr.heap[b]?) (hs1 : wr.heap.size ≤ w1.heap.size) (hI : VlJ w1 wr.heap.size w1.heap.size k x cs) (hown : w2.ownsRow B 29 5 (.slice (some ⟨g, 0, none⟩) (l.length + 1) cap) (l.length + 1) (xs ++ cs))
    (hg : (w1.alloc o).grownBy w2 ov.ownBlock) (hat : ov.ownBlock = some g ∨ g = w1.heap.size + 1) (hW : ∀ b, b ≠ vb → W.heap[b]? = w2.heap[b]?) (hWs : W.heap.size = w2.heap.size) :
    Mk W B k (l ++ [x]) (.slice (some ⟨g, 0, none⟩) (l.length + 1) cap) (xs ++ cs) := by
  have hxl := h.own.1
  have hs2 := hg.size
  simp at hs2
  have hgB : B ≤ g := by
    rcases hat with hat | hat
    · exact (h.own.lt g hat).1
    · omega
  have hsame : ∀ b, B ≤ b → b < wr.heap.size → some b ≠ ov.ownBlock → W.heap[b]? = wr.heap[b]? := fun b h1 h2 h3 => by
    rw [hW b (by omega), hg.block b (by simp; omega) h3, Below.heap_alloc _ _ _ (by omega), hb1 b h1 h2]
  refine ⟨?_, ?_⟩
  · obtain ⟨a1, a2⟩ := hown
    rw [List.length_append, List.length_cons, List.length_nil]
    refine ⟨a1, ?_⟩
    rcases a2 with ⟨a2, a3⟩ | ⟨g', cap', cur, a2, a3, a4, a5⟩
    · omega
    · simp only [Value.slice.injEq, Option.some.injEq, Addr.mk.injEq] at a2
      obtain ⟨⟨rfl, _⟩, _, rfl⟩ := a2
      exact Or.inr ⟨g, cap, cur, rfl, a3, by rw [hW g (by omega)]; exact a4, a5⟩
  · intro i hi
    have hgo : ∀ g', (Value.slice (some ⟨g, 0, none⟩) (l.length + 1) cap).ownBlock = some g' → g' = g := fun g' h => by simp [Value.ownBlock] at h; exact h.symm
    by_cases hlt : i < l.length
    · obtain ⟨cs', lo, hi', b1, b2, b3, b4, b5, b6⟩ := h.kids i hlt
      rw [List.getElem_append_left hlt]
      refine ⟨cs', lo, hi', b1, fun q hq => by rw [List.getElem?_append_left (by omega)]; exact b2 q hq, b3, by omega, b5.same (fun b c1 c2 => hsame b (by omega) (by omega) (fun he => by have := b6 b he.symm; omega)), fun g' hg' => ?_⟩
      have := hgo g' hg'
      subst this
      rcases hat with hat | hat
      · exact b6 _ hat
      · omega
    · obtain rfl : i = l.length := by simp at hi; omega
      have hx : (l ++ [x])[l.length]'hi = x := by simp
      rw [hx]
      refine ⟨cs, wr.heap.size, w1.heap.size, hcs, fun q hq => by rw [List.getElem?_append_right (by omega)]; congr 1; omega, by omega, by omega, hI.same (fun b c1 c2 => ?_), fun g' hg' => ?_⟩
      · rw [hW b (by omega), hg.block b (by simp; omega) (fun he => by have := (h.own.lt b he.symm).2; omega), Below.heap_alloc _ _ _ (by omega)]
      · have := hgo g' hg'
        subst this
        rcases hat with hat | hat
        · have := (h.own.lt _ hat).2; omega
        · omega

end Go.Proofs.Ytdaohfeajicamaa

namespace Go.Proofs.Ytdaohfeajicamaa
open Go.RowKit
set_option linter.unusedVariables false
set_option linter.unusedSimpArgs false

/-- Values and names that are being made, side by side. -/
structure MkT (wr : World) (B k : Nat) (l : List Vl) (ov : Value) (xs : List Value) (ns : List ByteArray) (nv : Value) : Prop where
  own : wr.ownsRow B 29 5 ov l.length xs
  nown : wr.ownsRow B 9 1 nv ns.length (ns.map Value.string)
  kids : ∀ (i : Nat) (h : i < l.length), ∃ cs lo hi, cs.length = 5 ∧ (∀ q, q < 5 → xs[i * 5 + q]? = cs[q]?) ∧ B ≤ lo ∧ hi ≤ wr.heap.size ∧ VlJ wr lo hi k l[i] cs ∧ (∀ g, ov.ownBlock = some g → g < lo ∨ hi ≤ g) ∧ (∀ g, nv.ownBlock = some g → g < lo ∨ hi ≤ g)
theorem MkT.nil (wr : World) (B k : Nat) : MkT wr B k [] (.slice none 0 0) [] [] (.slice none 0 0) := ⟨⟨rfl, Or.inl ⟨rfl, rfl⟩⟩, ⟨rfl, Or.inl ⟨rfl, rfl⟩⟩, fun i h => absurd h (Nat.not_lt_zero _)⟩
theorem MkT.mk' {wr : World} {B k : Nat} {l : List Vl} {ov nv : Value} {xs : List Value} {ns : List ByteArray} (h : MkT wr B k l ov xs ns nv) : Mk wr B k l ov xs :=
  ⟨h.own, fun i hi => by obtain ⟨cs, lo, hi', b1, b2, b3, b4, b5, b6, _⟩ := h.kids i hi; exact ⟨cs, lo, hi', b1, b2, b3, b4, b5, b6⟩⟩
theorem ownsRow_at {w : World} {base : Nat} {e : TypeId} {size : Nat} {v : Value} {n : Nat} {xs : List Value} (h : w.ownsRow base e size v n xs) {g : Nat} (hg : v.ownBlock = some g) : ∃ cur, w.heap[g]? = some (.cells cur e (0, 0)) := by
  rcases h.2 with ⟨q, _⟩ | ⟨g', cap, cur, q1, q2, q3, _⟩
  · rw [q] at hg; simp [Value.ownBlock] at hg
  · rw [q1] at hg
    simp [Value.ownBlock] at hg
    subst hg
    exact ⟨cur, q3⟩
theorem MkT.ne {wr : World} {B k : Nat} {l : List Vl} {ov nv : Value} {xs : List Value} {ns : List ByteArray} (h : MkT wr B k l ov xs ns nv) {g : Nat} (h1 : ov.ownBlock = some g) : nv.ownBlock ≠ some g := by
  intro h2
  obtain ⟨c1, e1⟩ := ownsRow_at h.own h1
  obtain ⟨c2, e2⟩ := ownsRow_at h.nown h2
  rw [e1] at e2
  simp at e2
theorem ownsRow_same {w W : World} {base : Nat} {e : TypeId} {size : Nat} {v : Value} {n : Nat} {xs : List Value} (h : w.ownsRow base e size v n xs) (hs : ∀ g, v.ownBlock = some g → W.heap[g]? = w.heap[g]?) : W.ownsRow base e size v n xs := by
  refine ⟨h.1, ?_⟩
  rcases h.2 with q | ⟨g', cap, cur, q1, q2, q3, q4⟩
  · exact Or.inl q
  · exact Or.inr ⟨g', cap, cur, q1, q2, by rw [hs g' (by rw [q1]; rfl)]; exact q3, q4⟩
theorem MkT.far {wr : World} {B k : Nat} {l : List Vl} {ov nv : Value} {xs : List Value} {ns : List ByteArray} (h : MkT wr B k l ov xs ns nv) {b : Nat} (hb : b < B) : some b ≠ ov.ownBlock ∧ some b ≠ nv.ownBlock := by
  constructor
  · intro he; have := (h.own.lt b he.symm).1; omega
  · intro he; have := (h.nown.lt b he.symm).1; omega
theorem MkT.same {wr W : World} {B k : Nat} {l : List Vl} {ov nv : Value} {xs : List Value} {ns : List ByteArray} (h : MkT wr B k l ov xs ns nv) (hs : ∀ b, B ≤ b → b < wr.heap.size → W.heap[b]? = wr.heap[b]?) (hz : wr.heap.size ≤ W.heap.size) : MkT W B k l ov xs ns nv := by
  refine ⟨ownsRow_same h.own (fun g hg => hs g (h.own.lt g hg).1 (h.own.lt g hg).2), ownsRow_same h.nown (fun g hg => hs g (h.nown.lt g hg).1 (h.nown.lt g hg).2), fun i hi => ?_⟩
  obtain ⟨cs, lo, hi', b1, b2, b3, b4, b5, b6⟩ := h.kids i hi
  exact ⟨cs, lo, hi', b1, b2, b3, by omega, b5.same (fun b c1 c2 => hs b (by omega) (by omega)), b6⟩

/-- One more name was appended, and the slice stored into the box vb. -/
theorem MkT.name {wr w2 W : World} {B k vb g cap : Nat} {l : List Vl} {ov nv : Value} {xs : List Value} {ns : List ByteArray} {o : Obj} {s : ByteArray} (h : MkT wr B k l ov xs ns nv) (hvb : vb < B) (hB : B ≤ wr.heap.size)
    (hown : w2.ownsRow B 9 1 (.slice (some ⟨g, 0, none⟩) (ns.length + 1) cap) (ns.length + 1) (ns.map Value.string ++ [.string s])) (hg : (wr.alloc o).grownBy w2 nv.ownBlock) (hat : nv.ownBlock = some g ∨ g = wr.heap.size + 1)
    (hW : ∀ b, b ≠ vb → W.heap[b]? = w2.heap[b]?) (hWs : W.heap.size = w2.heap.size) :
    MkT W B k l ov xs (ns ++ [s]) (.slice (some ⟨g, 0, none⟩) (ns.length + 1) cap) := by
  have hs2 := hg.size
  simp at hs2
  have hgB : B ≤ g := by
    rcases hat with hat | hat
    · exact (h.nown.lt g hat).1
    · omega
  have hsame : ∀ b, B ≤ b → b < wr.heap.size → some b ≠ nv.ownBlock → W.heap[b]? = wr.heap[b]? := fun b h1 h2 h3 => by
    rw [hW b (by omega), hg.block b (by simp; omega) h3, Below.heap_alloc _ _ _ (by omega)]
  have hgo : ∀ g', (Value.slice (some ⟨g, 0, none⟩) (ns.length + 1) cap).ownBlock = some g' → g' = g := fun g' h => by simp [Value.ownBlock] at h; exact h.symm
  refine ⟨ownsRow_same h.own (fun g' hg' => hsame g' (h.own.lt g' hg').1 (h.own.lt g' hg').2 (fun he => h.ne hg' he.symm)), ?_, fun i hi => ?_⟩
  · rw [List.length_append, List.length_cons, List.length_nil, List.map_append, List.map_cons, List.map_nil]
    exact ownsRow_same hown (fun g' hg' => by have := hgo g' hg'; subst this; exact hW _ (by omega))
  · obtain ⟨cs, lo, hi', b1, b2, b3, b4, b5, b6, b7⟩ := h.kids i hi
    refine ⟨cs, lo, hi', b1, b2, b3, by omega, b5.same (fun b c1 c2 => hsame b (by omega) (by omega) (fun he => by have := b7 b he.symm; omega)), b6, fun g' hg' => ?_⟩
    have := hgo g' hg'
    subst this
    rcases hat with hat | hat
    · exact b7 _ hat
    · omega

/-- One more value was drawn, laid into a block of its own, appended; and the slice was stored into the box vb. -/
theorem MkT.step {wr w1 w2 W : World} {B k vb g cap : Nat} {l : List Vl} {ov nv : Value} {xs : List Value} {ns : List ByteArray} {o : Obj} {cs : List Value} {x : Vl} (h : MkT wr B k l ov xs ns nv) (hvb : vb < B) (hB : B ≤ wr.heap.size) (hcs : cs.length = 5)
    (hb1 : ∀ b, B ≤ b → b < wr.heap.size → w1.heap[b]? = wr.heap[b]?) (hs1 : wr.heap.size ≤ w1.heap.size) (hI : VlJ w1 wr.heap.size w1.heap.size k x cs) (hown : w2.ownsRow B 29 5 (.slice (some ⟨g, 0, none⟩) (l.length + 1) cap) (l.length + 1) (xs ++ cs))
    (hg : (w1.alloc o).grownBy w2 ov.ownBlock) (hat : ov.ownBlock = some g ∨ g = w1.heap.size + 1) (hW : ∀ b, b ≠ vb → W.heap[b]? = w2.heap[b]?) (hWs : W.heap.size = w2.heap.size) :
    MkT W B k (l ++ [x]) (.slice (some ⟨g, 0, none⟩) (l.length + 1) cap) (xs ++ cs) ns nv := by
  have hM := h.mk'.step hvb hB hcs hb1 hs1 hI hown hg hat hW hWs
  have hs2 := hg.size
  simp at hs2
  have hsame : ∀ b, B ≤ b → b < wr.heap.size → some b ≠ ov.ownBlock → W.heap[b]? = wr.heap[b]? := fun b h1 h2 h3 => by
    rw [hW b (by omega), hg.block b (by simp; omega) h3, Below.heap_alloc _ _ _ (by omega), hb1 b h1 h2]
  have hxl := h.own.1
  have hgo : ∀ g', (Value.slice (some ⟨g, 0, none⟩) (l.length + 1) cap).ownBlock = some g' → g' = g := fun g' h => by simp [Value.ownBlock] at h; exact h.symm
  refine ⟨hM.own, ownsRow_same h.nown (fun g' hg' => hsame g' (h.nown.lt g' hg').1 (h.nown.lt g' hg').2 (fun he => h.ne he.symm hg')), fun i hi => ?_⟩
  by_cases hlt : i < l.length
  · obtain ⟨cs', lo, hi', b1, b2, b3, b4, b5, b6, b7⟩ := h.kids i hlt
    rw [List.getElem_append_left hlt]
    refine ⟨cs', lo, hi', b1, fun q hq => by rw [List.getElem?_append_left (by omega)]; exact b2 q hq, b3, by omega, b5.same (fun b c1 c2 => hsame b (by omega) (by omega) (fun he => by have := b6 b he.symm; omega)), fun g' hg' => ?_, b7⟩
    have := hgo g' hg'
    subst this
    rcases hat with hat | hat
    · exact b6 _ hat
    · omega
  · obtain rfl : i = l.length := by simp at hi; omega
    have hx : (l ++ [x])[l.length]'hi = x := by simp
    rw [hx]
    refine ⟨cs, wr.heap.size, w1.heap.size, hcs, fun q hq => by rw [List.getElem?_append_right (by omega)]; congr 1; omega, by omega, by omega, hI.same (fun b c1 c2 => ?_), fun g' hg' => ?_, fun g' hg' => ?_⟩
    · rw [hW b (by omega), hg.block b (by simp; omega) (fun he => by have := (h.own.lt b he.symm).2; omega), Below.heap_alloc _ _ _ (by omega)]
    · have := hgo g' hg'
      subst this
      rcases hat with hat | hat
      · have := (h.own.lt _ hat).2; omega
      · omega
    · have := (h.nown.lt _ hg').2; omega

theorem Mk.toT {wr : World} {B k : Nat} {l : List Vl} {ov : Value} {xs : List Value} (h : Mk wr B k l ov xs) : MkT wr B k l ov xs [] (.slice none 0 0) :=
  ⟨h.own, ⟨rfl, Or.inl ⟨rfl, rfl⟩⟩, fun i hi => by obtain ⟨cs, lo, hi', b1, b2, b3, b4, b5, b6⟩ := h.kids i hi; exact ⟨cs, lo, hi', b1, b2, b3, b4, b5, b6, fun g hg => by simp [Value.ownBlock] at hg⟩⟩
theorem MkT.lower {wr : World} {B B' k : Nat} {l : List Vl} {ov nv : Value} {xs : List Value} {ns : List ByteArray} (h : MkT wr B k l ov xs ns nv) (hB : B' ≤ B) : MkT wr B' k l ov xs ns nv := by
  refine ⟨⟨h.own.1, ?_⟩, ⟨h.nown.1, ?_⟩, fun i hi => ?_⟩
  · rcases h.own.2 with q | ⟨g, cap, cur, q1, q2, q3⟩
    · exact Or.inl q
    · exact Or.inr ⟨g, cap, cur, q1, by omega, q3⟩
  · rcases h.nown.2 with q | ⟨g, cap, cur, q1, q2, q3⟩
    · exact Or.inl q
    · exact Or.inr ⟨g, cap, cur, q1, by omega, q3⟩
  · obtain ⟨cs, lo, hi', b1, b2, b3, b4⟩ := h.kids i hi
    exact ⟨cs, lo, hi', b1, b2, by omega, b4⟩
theorem MkT.deeper {wr : World} {B k k' : Nat} {l : List Vl} {ov nv : Value} {xs : List Value} {ns : List ByteArray} (h : MkT wr B k l ov xs ns nv) (hk : k ≤ k') : MkT wr B k' l ov xs ns nv :=
  ⟨h.own, h.nown, fun i hi => by obtain ⟨cs, lo, hi', b1, b2, b3, b4, b5, b6⟩ := h.kids i hi; exact ⟨cs, lo, hi', b1, b2, b3, b4, b5.le hk, b6⟩⟩

end Go.Proofs.Ytdaohfeajicamaa

namespace Go.Proofs.Ytdaohfeajicamaa
open Go.RowKit
set_option linter.unusedVariables false
set_option linter.unusedSimpArgs false

/-- It is so wherever the blocks from lo on are as they are, but V. -/
def VlX (w : World) (lo V k : Nat) (t : Vl) (cs : List Value) : Prop := ∀ W : World, (∀ b, lo ≤ b → b < w.heap.size → b ≠ V → W.heap[b]? = w.heap[b]?) → VlQ W lo k t cs
theorem VlX.same {w w' : World} {lo V k : Nat} {t : Vl} {cs : List Value} (h : VlX w lo V k t cs) (hz : w.heap.size ≤ w'.heap.size) (hs : ∀ b, lo ≤ b → b < w.heap.size → b ≠ V → w'.heap[b]? = w.heap[b]?) : VlX w' lo V k t cs :=
  fun W hW => h W (fun b h1 h2 h3 => (hW b h1 (by omega) h3).trans (hs b h1 h2 h3))
theorem VlX.now {w : World} {lo V k : Nat} {t : Vl} {cs : List Value} (h : VlX w lo V k t cs) : VlQ w lo k t cs := h w (fun _ _ _ _ => rfl)
theorem VlX.le {w : World} {lo V k k' : Nat} {t : Vl} {cs : List Value} (h : VlX w lo V k t cs) (hk : k ≤ k') : VlX w lo V k' t cs := fun W hW => VlQ.le hk (h W hW)
/-- Its head is another one. -/
theorem VlX.head {w : World} {lo V k : Nat} {t : Vl} {vl vn : Value} {x y z : Value} (h : VlX w lo V k t [x, y, z, vl, vn]) {kd nm : Int} {tx : ByteArray} (h1 : I64 kd) (h2 : I64 nm) (h3 : tx.size ≤ 140737488351232) :
    VlX w lo V k ⟨kd, nm, tx, t.list, t.names⟩ [.int .i64 kd, .int .i64 nm, .string tx, vl, vn] := fun W hW => by
  have h4 := h W hW
  cases k with
  | zero => exact h4.elim
  | succ k =>
    obtain ⟨vl', vn', e, _, _, _, r1, r2, r3⟩ := h4
    simp only [List.cons.injEq, and_true] at e
    obtain ⟨_, _, _, rfl, rfl⟩ := e
    exact ⟨vl, vn, rfl, h1, h2, h3, r1, r2, r3⟩
/-- A list of it alone. -/
theorem VlX.wrap {w : World} {lo V k : Nat} {t : Vl} {x0 x1 x2 x3 x4 : Value} {e : TypeId} (h : VlX w lo V k t [x0, x1, x2, x3, x4]) (hlo : lo ≤ w.heap.size) (hV : V < w.heap.size) :
    VlX (w.alloc (.cells #[x0, x1, x2, x3, x4] e)) lo V (k + 1) ⟨4, 0, ⟨#[]⟩, [t], []⟩ [.int .i64 4, .int .i64 0, .string ⟨#[]⟩, .slice (some ⟨w.heap.size, 0, none⟩) 1 1, .slice none 0 0] := fun W hW => by
  have hs : (w.alloc (.cells #[x0, x1, x2, x3, x4] e)).heap.size = w.heap.size + 1 := by simp
  have hO : Owns W w.heap.size #[x0, x1, x2, x3, x4] e := by
    have h1 := Owns.made w #[x0, x1, x2, x3, x4] e
    unfold Owns at h1 ⊢
    rw [hW _ hlo (by omega) (by omega)]; exact h1
  have hQ := h W (fun b h1 h2 h3 => (hW b h1 (by omega) h3).trans (Below.heap_alloc _ _ _ h2))
  refine ⟨_, _, rfl, (show I64 (4 : Int) from ⟨by decide, by decide⟩), (show I64 (0 : Int) from ⟨by decide, by decide⟩), (show (⟨#[]⟩ : ByteArray).size ≤ _ from by decide), Or.inr ⟨⟨w.heap.size, 0, none⟩, 1, rfl, Nat.le_refl _, by unfold maxLen; omega, by simp, fun i hi => ⟨hlo, rfl, [x0, x1, x2, x3, x4], rfl, fun q hq => ?_, ?_⟩⟩, Or.inl ⟨rfl, rfl⟩, fun _ => ⟨_, _, _, rfl, _, _, hO⟩⟩
  · obtain rfl : i = 0 := by simpa using hi
    show W.cell? ⟨w.heap.size, 0 + 0 * 5 + q, none⟩ = _
    rw [hO.cell, Nat.zero_mul, Nat.zero_add]
    simp only [List.getElem?_toArray]
  · obtain rfl : i = 0 := by simpa using hi
    exact hQ

/-- Values and names that are being made, off the box V. -/
structure MkV (wr : World) (B k : Nat) (l : List Vl) (ov : Value) (xs : List Value) (ns : List ByteArray) (nv : Value) (V : Nat) : Prop where
  own : wr.ownsRow B 29 5 ov l.length xs
  nown : wr.ownsRow B 9 1 nv ns.length (ns.map Value.string)
  off : (∀ g, ov.ownBlock = some g → g ≠ V) ∧ (∀ g, nv.ownBlock = some g → g ≠ V)
  kids : ∀ (i : Nat) (h : i < l.length), ∃ cs lo hi, cs.length = 5 ∧ (∀ q, q < 5 → xs[i * 5 + q]? = cs[q]?) ∧ B ≤ lo ∧ hi ≤ wr.heap.size ∧ VlJ wr lo hi k l[i] cs ∧ (∀ g, ov.ownBlock = some g → g < lo ∨ hi ≤ g) ∧ (∀ g, nv.ownBlock = some g → g < lo ∨ hi ≤ g) ∧ (V < lo ∨ hi ≤ V)
theorem MkV.ofT {w : World} {B k : Nat} {l : List Vl} {ov nv : Value} {xs : List Value} {ns : List ByteArray} (h : MkT w B k l ov xs ns nv) (o : Obj) : MkV (w.alloc o) B k l ov xs ns nv w.heap.size := by
  have h1 := h.same (W := w.alloc o) (fun b _ h2 => Below.heap_alloc _ _ _ h2) (by simp)
  refine ⟨h1.own, h1.nown, ⟨fun g hg => by have := (h.own.lt g hg).2; omega, fun g hg => by have := (h.nown.lt g hg).2; omega⟩, fun i hi => ?_⟩
  obtain ⟨cs, lo, hi', b1, b2, b3, b4, b5, b6, b7⟩ := h.kids i hi
  exact ⟨cs, lo, hi', b1, b2, b3, by simp; omega, b5.same (fun b c1 c2 => Below.heap_alloc _ _ _ (by omega)), b6, b7, Or.inr b4⟩
theorem MkV.same {wr W : World} {B k V : Nat} {l : List Vl} {ov nv : Value} {xs : List Value} {ns : List ByteArray} (h : MkV wr B k l ov xs ns nv V) (hs : ∀ b, B ≤ b → b < wr.heap.size → b ≠ V → W.heap[b]? = wr.heap[b]?) (hz : wr.heap.size ≤ W.heap.size) : MkV W B k l ov xs ns nv V := by
  refine ⟨ownsRow_same h.own (fun g hg => hs g (h.own.lt g hg).1 (h.own.lt g hg).2 (h.off.1 g hg)), ownsRow_same h.nown (fun g hg => hs g (h.nown.lt g hg).1 (h.nown.lt g hg).2 (h.off.2 g hg)), h.off, fun i hi => ?_⟩
  obtain ⟨cs, lo, hi', b1, b2, b3, b4, b5, b6, b7, b8⟩ := h.kids i hi
  exact ⟨cs, lo, hi', b1, b2, b3, by omega, b5.same (fun b c1 c2 => hs b (by omega) (by omega) (by omega)), b6, b7, b8⟩
theorem MkV.toT {wr : World} {B k V : Nat} {l : List Vl} {ov nv : Value} {xs : List Value} {ns : List ByteArray} (h : MkV wr B k l ov xs ns nv V) : MkT wr B k l ov xs ns nv :=
  ⟨h.own, h.nown, fun i hi => by obtain ⟨cs, lo, hi', b1, b2, b3, b4, b5, b6, b7, _⟩ := h.kids i hi; exact ⟨cs, lo, hi', b1, b2, b3, b4, b5, b6, b7⟩⟩
/-- The names are none. -/
theorem MkV.bare {wr : World} {B k V : Nat} {l : List Vl} {ov nv : Value} {xs : List Value} {ns : List ByteArray} (h : MkV wr B k l ov xs ns nv V) : MkV wr B k l ov xs [] (.slice none 0 0) V :=
  ⟨h.own, ⟨rfl, Or.inl ⟨rfl, rfl⟩⟩, ⟨h.off.1, fun g hg => by simp [Value.ownBlock] at hg⟩, fun i hi => by obtain ⟨cs, lo, hi', b1, b2, b3, b4, b5, b6, b7, b8⟩ := h.kids i hi; exact ⟨cs, lo, hi', b1, b2, b3, b4, b5, b6, fun g hg => by simp [Value.ownBlock] at hg, b8⟩⟩
theorem MkV.value {wr : World} {B k V : Nat} {l : List Vl} {ov nv : Value} {xs : List Value} {ns : List ByteArray} {kd nm : Int} {tx : ByteArray} (h : MkV wr B k l ov xs ns nv V)
    (h1 : I64 kd) (h2 : I64 nm) (h3 : tx.size ≤ 140737488351232) (h4 : l.length * 80 ≤ 140737488351232) (h5 : ns.length * 16 ≤ 140737488351232) (h6 : ∀ s ∈ ns, s.size ≤ 140737488351232) :
    VlX wr B V (k + 1) ⟨kd, nm, tx, l, ns⟩ [.int .i64 kd, .int .i64 nm, .string tx, ov, nv] := fun W hW => by
  by_cases hz : wr.heap.size ≤ W.heap.size
  · have h' := (h.same hW hz).toT
    exact VlJ.now ((h'.mk').value h'.nown (Nat.le_refl _) h1 h2 h3 h4 h5 h6)
  · refine ⟨ov, nv, rfl, h1, h2, h3, ?_, ?_, ?_⟩
    · rcases h.own.2 with ⟨q1, q2⟩ | ⟨g, cap, cur, q1, q2, q3, q4, q5, q6, q7⟩
      · exact Or.inl ⟨q1, List.eq_nil_of_length_eq_zero q2⟩
      · have hg : g < wr.heap.size := (h.own.lt g (by rw [q1]; rfl)).2
        have hgV : g ≠ V := h.off.1 g (by rw [q1]; rfl)
        refine Or.inr ⟨⟨g, 0, none⟩, cap, q1, q4, q5, h4, fun i hi => ⟨q2, rfl, ?_⟩⟩
        obtain ⟨cs, lo', hi', b1, b2, b3, b4, b5, b6, b7, b8⟩ := h.kids i hi
        refine ⟨cs, b1, fun q hq => ?_, VlQ.base (by omega) _ _ _ (b5 W (fun b c1 c2 => hW b (by omega) (by omega) (by omega)))⟩
        show W.cell? ⟨g, 0 + i * 5 + q, none⟩ = _
        have hO : Owns W g cur 29 := by unfold Owns; rw [hW g q2 hg hgV]; exact q3
        have hi5 : i * 5 + 5 ≤ l.length * 5 := by have : i < l.length := hi; omega
        rw [hO.cell, Nat.zero_add, ← b2 q (by omega), ← q7, List.getElem?_take, if_pos (by omega), Array.getElem?_toList]
    · rcases h.nown.2 with ⟨q1, q2⟩ | ⟨g, cap, cur, q1, q2, q3, q4, q5, q6, q7⟩
      · exact Or.inl ⟨q1, List.eq_nil_of_length_eq_zero q2⟩
      · have hg : g < wr.heap.size := (h.nown.lt g (by rw [q1]; rfl)).2
        have hgV : g ≠ V := h.off.2 g (by rw [q1]; rfl)
        refine Or.inr ⟨⟨g, 0, none⟩, cap, q1, q4, q5, h5, fun i hi => ⟨q2, rfl, [.string ns[i]], rfl, fun q hq => ?_, rfl, h6 _ (List.getElem_mem hi)⟩⟩
        obtain rfl : q = 0 := by simpa using hq
        show W.cell? ⟨g, 0 + i * 1 + 0, none⟩ = _
        have hO : Owns W g cur 9 := by unfold Owns; rw [hW g q2 hg hgV]; exact q3
        rw [hO.cell, Nat.zero_add, Nat.add_zero, Nat.mul_one]
        have h7 : (cur.toList.take (ns.length * 1))[i]? = (ns.map Value.string)[i]? := by rw [q7]
        rw [Nat.mul_one, List.getElem?_take, if_pos (by exact hi), Array.getElem?_toList] at h7
        rw [h7]; simp [hi]
    · intro hne
      rcases h.own.2 with ⟨q1, q2⟩ | ⟨g, cap, cur, q1, q2, q3, q4, q5, q6, q7⟩
      · exact absurd (List.eq_nil_of_length_eq_zero q2) hne
      · have hg : g < wr.heap.size := (h.own.lt g (by rw [q1]; rfl)).2
        have hgV : g ≠ V := h.off.1 g (by rw [q1]; rfl)
        exact ⟨⟨g, 0, none⟩, _, _, q1, cur, _, by show W.heap[g]? = _; rw [hW g q2 hg hgV]; exact q3⟩

/-- One more name was appended, and the slice stored into the box. -/
theorem MkV.name {wr w2 W : World} {B k V g cap : Nat} {l : List Vl} {ov nv : Value} {xs : List Value} {ns : List ByteArray} {o : Obj} {s : ByteArray} (h : MkV wr B k l ov xs ns nv V) (hV : V < wr.heap.size) (hB : B ≤ wr.heap.size)
    (hown : w2.ownsRow B 9 1 (.slice (some ⟨g, 0, none⟩) (ns.length + 1) cap) (ns.length + 1) (ns.map Value.string ++ [.string s])) (hg : (wr.alloc o).grownBy w2 nv.ownBlock) (hat : nv.ownBlock = some g ∨ g = wr.heap.size + 1)
    (hW : ∀ b, b ≠ V → W.heap[b]? = w2.heap[b]?) (hWs : W.heap.size = w2.heap.size) :
    MkV W B k l ov xs (ns ++ [s]) (.slice (some ⟨g, 0, none⟩) (ns.length + 1) cap) V := by
  have hs2 := hg.size
  simp at hs2
  have hgV : g ≠ V := by
    rcases hat with hat | hat
    · exact h.off.2 g hat
    · omega
  have hsame : ∀ b, B ≤ b → b < wr.heap.size → b ≠ V → some b ≠ nv.ownBlock → W.heap[b]? = wr.heap[b]? := fun b h1 h2 h4 h3 => by
    rw [hW b h4, hg.block b (by simp; omega) h3, Below.heap_alloc _ _ _ (by omega)]
  have hgo : ∀ g', (Value.slice (some ⟨g, 0, none⟩) (ns.length + 1) cap).ownBlock = some g' → g' = g := fun g' h => by simp [Value.ownBlock] at h; exact h.symm
  refine ⟨ownsRow_same h.own (fun g' hg' => hsame g' (h.own.lt g' hg').1 (h.own.lt g' hg').2 (h.off.1 g' hg') (fun he => h.toT.ne hg' he.symm)), ?_, ⟨h.off.1, fun g' hg' => by rw [hgo g' hg']; exact hgV⟩, fun i hi => ?_⟩
  · rw [List.length_append, List.length_cons, List.length_nil, List.map_append, List.map_cons, List.map_nil]
    exact ownsRow_same hown (fun g' hg' => by rw [hgo g' hg']; exact hW _ hgV)
  · obtain ⟨cs, lo, hi', b1, b2, b3, b4, b5, b6, b7, b8⟩ := h.kids i hi
    refine ⟨cs, lo, hi', b1, b2, b3, by omega, b5.same (fun b c1 c2 => hsame b (by omega) (by omega) (by omega) (fun he => by have := b7 b he.symm; omega)), b6, fun g' hg' => ?_, b8⟩
    have := hgo g' hg'
    subst this
    rcases hat with hat | hat
    · exact b7 _ hat
    · omega

/-- One more value of nothing was appended, and the slice stored into the box. -/
theorem MkV.zero {wr w2 W : World} {B k V g cap : Nat} {l : List Vl} {ov nv : Value} {xs : List Value} {ns : List ByteArray} {o : Obj} (h : MkV wr B (k + 1) l ov xs ns nv V) (hV : V < wr.heap.size) (hB : B ≤ wr.heap.size)
    (hown : w2.ownsRow B 29 5 (.slice (some ⟨g, 0, none⟩) (l.length + 1) cap) (l.length + 1) (xs ++ [.int .i64 0, .int .i64 0, .string ⟨#[]⟩, .slice none 0 0, .slice none 0 0]))
    (hg : (wr.alloc o).grownBy w2 ov.ownBlock) (hat : ov.ownBlock = some g ∨ g = wr.heap.size + 1) (hW : ∀ b, b ≠ V → W.heap[b]? = w2.heap[b]?) (hWs : W.heap.size = w2.heap.size) :
    MkV W B (k + 1) (l ++ [⟨0, 0, ⟨#[]⟩, [], []⟩]) (.slice (some ⟨g, 0, none⟩) (l.length + 1) cap) (xs ++ [.int .i64 0, .int .i64 0, .string ⟨#[]⟩, .slice none 0 0, .slice none 0 0]) ns nv V := by
  have hxl := h.own.1
  have hs2 := hg.size
  simp at hs2
  have hgV : g ≠ V := by
    rcases hat with hat | hat
    · exact h.off.1 g hat
    · omega
  have hgo : ∀ g', (Value.slice (some ⟨g, 0, none⟩) (l.length + 1) cap).ownBlock = some g' → g' = g := fun g' h => by simp [Value.ownBlock] at h; exact h.symm
  have hsame : ∀ b, B ≤ b → b < wr.heap.size → b ≠ V → some b ≠ ov.ownBlock → W.heap[b]? = wr.heap[b]? := fun b h1 h2 h4 h3 => by
    rw [hW b h4, hg.block b (by simp; omega) h3, Below.heap_alloc _ _ _ (by omega)]
  refine ⟨?_, ownsRow_same h.nown (fun g' hg' => hsame g' (h.nown.lt g' hg').1 (h.nown.lt g' hg').2 (h.off.2 g' hg') (fun he => h.toT.ne he.symm hg')), ⟨fun g' hg' => by rw [hgo g' hg']; exact hgV, h.off.2⟩, fun i hi => ?_⟩
  · rw [List.length_append, List.length_cons, List.length_nil]
    exact ownsRow_same hown (fun g' hg' => by rw [hgo g' hg']; exact hW _ hgV)
  · by_cases hlt : i < l.length
    · obtain ⟨cs', lo, hi', b1, b2, b3, b4, b5, b6, b7, b8⟩ := h.kids i hlt
      rw [List.getElem_append_left hlt]
      refine ⟨cs', lo, hi', b1, fun q hq => by rw [List.getElem?_append_left (by omega)]; exact b2 q hq, b3, by omega, b5.same (fun b c1 c2 => hsame b (by omega) (by omega) (by omega) (fun he => by have := b6 b he.symm; omega)), fun g' hg' => ?_, b7, b8⟩
      have := hgo g' hg'
      subst this
      rcases hat with hat | hat
      · exact b6 _ hat
      · omega
    · obtain rfl : i = l.length := by simp at hi; omega
      have hx : (l ++ [(⟨0, 0, ⟨#[]⟩, [], []⟩ : Vl)])[l.length]'hi = ⟨0, 0, ⟨#[]⟩, [], []⟩ := by simp
      rw [hx]
      refine ⟨[.int .i64 0, .int .i64 0, .string ⟨#[]⟩, .slice none 0 0, .slice none 0 0], W.heap.size, W.heap.size, rfl, fun q hq => by rw [List.getElem?_append_right (by omega)]; congr 1; omega, by omega, Nat.le_refl _, fun W' _ => ?_, fun g' _ => by omega, fun g' _ => by omega, Or.inl (by omega)⟩
      exact ⟨_, _, rfl, ⟨by decide, by decide⟩, ⟨by decide, by decide⟩, by decide, Or.inl ⟨rfl, rfl⟩, Or.inl ⟨rfl, rfl⟩, fun h => absurd rfl h⟩

end Go.Proofs.Ytdaohfeajicamaa
