
/-
  DERIVED. A FORM OF A TREE THAT IS BEING MADE OUT OF BRANCHES: no walk.
-/
import Derived.Test.YtdaohfeajicamaaMgP
import Derived.Laws.AppendOwn
namespace Go.Proofs.Ytdaohfeajicamaa
open Go.RowKit
set_option linter.unusedVariables false
set_option linter.unusedSimpArgs false

/-- A form, in memory that was there ahead (w0), and in the blocks lo..hi. -/
def FmK (w0 w : World) (lo hi k : Nat) (t : Vl) (f : Value) : Prop := ∀ W : World, Keeps 0 w0 W → (∀ b, lo ≤ b → b < hi → W.heap[b]? = w.heap[b]?) → FmR W 0 k t f
theorem FmK.same {w0 w w' : World} {lo hi k : Nat} {t : Vl} {f : Value} (h : FmK w0 w lo hi k t f) (hs : ∀ b, lo ≤ b → b < hi → w'.heap[b]? = w.heap[b]?) : FmK w0 w' lo hi k t f :=
  fun W hk hW => h W hk (fun b h1 h2 => (hW b h1 h2).trans (hs b h1 h2))
theorem FmK.old {w0 w : World} {lo hi k : Nat} {t : Vl} {f : Value} (h : FmR w0 0 k t f) : FmK w0 w lo hi k t f := fun W hk _ => FmR.keeps hk _ _ _ h

structure OutB (w0 wr : World) (B k : Nat) (P : List Pr) (v : Value) (xs : List Value) : Prop where
  own : wr.ownsRow B 85 2 v P.length xs
  kids : ∀ (i : Nat) (h : i < P.length), ∃ T x lo hi, xs[i * 2]? = some (.string P[i].1) ∧ xs[i * 2 + 1]? = some (.iface T x) ∧ B ≤ lo ∧ hi ≤ wr.heap.size ∧ FmK w0 wr lo hi k P[i].2 (.iface T x) ∧ (∀ g, v.ownBlock = some g → g < lo ∨ hi ≤ g)
theorem OutB.nil (w0 wr : World) (B k : Nat) : OutB w0 wr B k [] (.slice none 0 0) [] := ⟨⟨rfl, Or.inl ⟨rfl, rfl⟩⟩, fun i h => absurd h (Nat.not_lt_zero _)⟩
theorem OutB.below {w0 wr W : World} {B k : Nat} {P : List Pr} {v : Value} {xs : List Value} (h : OutB w0 wr B k P v xs) (hb : Below wr.heap.size wr W) : OutB w0 W B k P v xs := by
  refine ⟨?_, fun i hi => ?_⟩
  · obtain ⟨q1, q2⟩ := h.own
    refine ⟨q1, ?_⟩
    rcases q2 with q2 | ⟨g, cap, cur, q2, q3, q4, q5⟩
    · exact Or.inl q2
    · have hg : g < wr.heap.size := (h.own.lt g (by rw [q2]; rfl)).2
      exact Or.inr ⟨g, cap, cur, q2, q3, by rw [hb.block g hg]; exact q4, q5⟩
  · obtain ⟨T, x, lo, hi', b1, b2, b3, b4, b5, b6⟩ := h.kids i hi
    exact ⟨T, x, lo, hi', b1, b2, b3, Nat.le_trans b4 hb.size, b5.same (fun b c1 c2 => hb.block b (Nat.lt_of_lt_of_le c2 b4)), b6⟩
/-- One more was appended. -/
theorem OutB.step {w0 wr w1 w2 : World} {B k g cap lo hi : Nat} {P : List Pr} {v : Value} {xs : List Value} {p : Pr} {T : TypeId} {x : Value} (h : OutB w0 wr B k P v xs) (hB : B ≤ wr.heap.size)
    (hb1 : Below wr.heap.size wr w1) (hI : FmK w0 w1 lo hi k p.2 (.iface T x)) (hlo : B ≤ lo) (hlo2 : lo = hi ∨ wr.heap.size ≤ lo) (hhi : hi ≤ w1.heap.size)
    (hown : w2.ownsRow B 85 2 (.slice (some ⟨g, 0, none⟩) (P.length + 1) cap) (P.length + 1) (xs ++ [.string p.1, .iface T x]))
    (hg : w1.grownBy w2 v.ownBlock) (hat : v.ownBlock = some g ∨ g = w1.heap.size) :
    OutB w0 w2 B k (P ++ [p]) (.slice (some ⟨g, 0, none⟩) (P.length + 1) cap) (xs ++ [.string p.1, .iface T x]) := by
  have hxl := h.own.1
  have hs1 := hb1.size
  have hs2 := hg.size
  have hgB : B ≤ g := by
    rcases hat with hat | hat
    · exact (h.own.lt g hat).1
    · omega
  have hgo : ∀ g', (Value.slice (some ⟨g, 0, none⟩) (P.length + 1) cap).ownBlock = some g' → g' = g := fun g' h => by simp [Value.ownBlock] at h; exact h.symm
  refine ⟨by rw [List.length_append, List.length_cons, List.length_nil]; exact hown, fun i hi' => ?_⟩
  by_cases hlt : i < P.length
  · obtain ⟨T', x', lo', hi'', b1, b2, b3, b4, b5, b6⟩ := h.kids i hlt
    rw [List.getElem_append_left hlt]
    refine ⟨T', x', lo', hi'', by rw [List.getElem?_append_left (by omega)]; exact b1, by rw [List.getElem?_append_left (by omega)]; exact b2, b3, by omega, b5.same (fun b c1 c2 => ?_), fun g' hg' => ?_⟩
    · rw [hg.block b (by omega) (fun he => by have := b6 b he.symm; omega)]
      exact hb1.block b (by omega)
    · obtain rfl := hgo g' hg'
      rcases hat with hat | hat
      · exact b6 _ hat
      · omega
  · obtain rfl : i = P.length := by simp at hi'; omega
    have hx : (P ++ [p])[P.length]'hi' = p := by simp
    rw [hx]
    refine ⟨T, x, lo, hi, by rw [List.getElem?_append_right (by omega), hxl]; simp, by rw [List.getElem?_append_right (by omega), hxl, show P.length * 2 + 1 - P.length * 2 = 1 by omega]; rfl, hlo, by omega, hI.same (fun b c1 c2 => ?_), fun g' hg' => ?_⟩
    · rw [hg.block b (by omega) (fun he => by
        have := (h.own.lt b he.symm).2
        rcases hlo2 with e | e <;> omega)]
    · obtain rfl := hgo g' hg'
      rcases hat with hat | hat
      · have h1 := (h.own.lt _ hat)
        rcases hlo2 with e | e <;> omega
      · omega
/-- All of it is a form of a tree. -/
theorem OutB.form {w0 wr : World} {B k lo n : Nat} {P : List Pr} {oa : Option Addr} {oc : Nat} {xs : List Value} (h : OutB w0 wr B k P (.slice oa n oc) xs) (hlo : lo ≤ B) (hw : P.length * 32 ≤ 140737488351232) :
    FmK w0 wr lo wr.heap.size (k + 1) (treeV P) (.iface 78 (.slice oa n oc)) := by
  intro W hk hW
  refine FmR.tree rfl (by simp [treeV]) ?_
  have hz : (treeV P).names.zip (treeV P).list = P := zip_back P
  rw [hz]
  rcases h.own.2 with ⟨h1, h2⟩ | ⟨g, cap, cur, h1, h2, h3, h4, h5, h6, h7⟩
  · rw [h1]
    exact Or.inl ⟨rfl, List.eq_nil_of_length_eq_zero h2⟩
  · rw [h1]
    have hgl : g < wr.heap.size := (Array.getElem?_eq_some_iff.1 h3).1
    refine Or.inr ⟨⟨g, 0, none⟩, cap, rfl, h4, h5, hw, fun i hi => ⟨Nat.zero_le _, rfl, ?_⟩⟩
    obtain ⟨T, x, lo', hi', b1, b2, b3, b4, b5, b6⟩ := h.kids i hi
    refine ⟨[.string P[i].1, .iface T x], rfl, fun q hq => ?_, _, rfl, b5 W hk (fun b c1 c2 => hW b (by omega) (by omega))⟩
    show W.cell? ⟨g, 0 + i * 2 + q, none⟩ = _
    have hO : Owns W g cur 85 := by show W.heap[g]? = _; rw [hW g (by omega) hgl]; exact h3
    have hi2 : i * 2 + 2 ≤ P.length * 2 := by omega
    rcases (show q = 0 ∨ q = 1 by simp at hq; omega) with rfl | rfl
    · rw [hO.cell, Nat.zero_add, Nat.add_zero]
      show _ = some (Value.string P[i].1)
      rw [← b1, ← h7, List.getElem?_take, if_pos (by omega), Array.getElem?_toList]
    · rw [hO.cell, Nat.zero_add]
      show _ = some (Value.iface T x)
      rw [← b2, ← h7, List.getElem?_take, if_pos (by omega), Array.getElem?_toList]

/-- Where a name stands among the branches of a form; nowhere, if it is no tree. -/
def pvOf (v : Vl) : List Pr := if v.kind = 5 then prsOf v else []
theorem pv_find {v : Vl} (hl : v.kind = 5 → v.names.length = v.list.length) {s : ByteArray} {r : Int} (h : IdxP (pvOf v) s r) : (r = -1 ∧ treeO v s = none) ∨ ∃ (i : Nat) (h : i < (pvOf v).length), r = (i : Int) ∧ treeO v s = some (pvOf v)[i].2 := by
  unfold treeO
  by_cases h5 : v.kind = 5
  · have hp : pvOf v = v.names.zip v.list := by unfold pvOf; rw [if_pos h5]; rfl
    rw [if_pos h5]
    simp only [hp] at h ⊢
    exact idx_find _ _ _ (hl h5) r h
  · have hp : pvOf v = [] := by unfold pvOf; rw [if_neg h5]
    rw [if_neg h5]
    rw [hp] at h
    rcases h with ⟨i, hi, _⟩ | ⟨h, _⟩
    · simp at hi
    · exact Or.inl ⟨h, rfl⟩
theorem was_pv (v m : Vl) : wasP v m (prsOf v) = (pvOf v).filter (fun p => (treeO m p.1).isNone) := by
  unfold wasP pvOf
  split
  · rfl
  · rfl
theorem filter_snoc {α : Type} {l : List α} {i : Nat} (h : i < l.length) (p : α → Bool) : (l.take (i + 1)).filter p = (l.take i).filter p ++ (if p l[i] then [l[i]] else []) := by
  rw [List.take_succ_eq_append_getElem h, List.filter_append]
  congr 1
  rw [List.filter_cons]
  split <;> simp

end Go.Proofs.Ytdaohfeajicamaa
