
/-
  DERIVED. HOW THE WALK's PATH AND WHAT IS KNOWN LIE IN MEMORY; the walk of found.
-/
import Derived.Test.YtedeeckbgjalcaaDeepS
import Derived.WalkSpells
import Derived.WalkLawsBesides
import Derived.Laws.OwnMore
import Derived.Deep.QuietTactic
import Derived.BigQuiet
import Derived.Deep.RegionWith
import Derived.Deep.RegionHeld3
namespace Go.Proofs.Ytedeeckbgjalcaa
open Go.RowKit
set_option linter.unusedVariables false
set_option linter.unusedSimpArgs false

def flat (fs : List Fr) : List Value := fs.flatMap frCells
theorem flat_len (fs : List Fr) : (flat fs).length = fs.length * 3 := by
  induction fs with
  | nil => rfl
  | cons f r ih => simp only [flat, List.flatMap_cons, List.length_append, List.length_cons] at ih ⊢; rw [ih]; simp [frCells]; omega
theorem flat_snoc (fs : List Fr) (f : Fr) : flat (fs ++ [f]) = flat fs ++ frCells f := by simp [flat]
theorem flat_at (fs : List Fr) (f : Fr) (q : Nat) : (flat (fs ++ [f]))[fs.length * 3 + q]? = (frCells f)[q]? := by
  rw [flat_snoc, List.getElem?_append_right (by rw [flat_len]; omega), flat_len]
  congr 1; omega
theorem flat_set (fs : List Fr) (f : Fr) (q : Nat) (u : Value) : (flat (fs ++ [f])).set (fs.length * 3 + q) u = flat fs ++ (frCells f).set q u := by
  rw [flat_snoc, List.set_append_right _ _ (by rw [flat_len]; omega), flat_len]
  congr 2; omega

/-- The path, bottom first, and what is known, in the box bD. -/
structure DMem (W : World) (B bD g cap r : Nat) (fs : List Fr) (km : List (Addr × Nat × Int)) : Prop where
  box : Owns W bD #[.func (.func 26) #[] #[], .slice (some ⟨g, 0, none⟩) fs.length cap, .map (some r)] 85
  row : W.ownsRow B 81 3 (.slice (some ⟨g, 0, none⟩) fs.length cap) fs.length (flat fs)
  map : MapIs W r km
  hD : B ≤ bD
  hr : B ≤ r
  hB : B ≤ W.heap.size
  ne : g ≠ bD

theorem Owns.sameD {w w' : World} {b : Nat} {c : Array Value} {e : TypeId} (h : Owns w b c e) (hb : w'.heap[b]? = w.heap[b]?) : Owns w' b c e := by
  unfold Owns at h ⊢; rw [hb]; exact h
theorem MapIs.same {w w' : World} {r : Nat} {km : List (Addr × Nat × Int)} (h : MapIs w r km) (hs : w'.heap[r]? = w.heap[r]?) : MapIs w' r km := by
  obtain ⟨es, c, h1, h2⟩ := h
  exact ⟨es, c, hs.trans h1, h2⟩
theorem MapIs.ne {w : World} {r b : Nat} {km : List (Addr × Nat × Int)} {c : Array Value} {e : TypeId} (h : MapIs w r km) (ho : Owns w b c e) : b ≠ r := by
  intro he
  subst he
  obtain ⟨es, cl, h1, _⟩ := h
  unfold Owns at ho
  rw [ho] at h1
  simp at h1

theorem DMem.gB {W : World} {B bD g cap r : Nat} {fs : List Fr} {km : List (Addr × Nat × Int)} (h : DMem W B bD g cap r fs km) : B ≤ g ∧ g < W.heap.size := h.row.lt g rfl
theorem DMem.rne {W : World} {B bD g cap r : Nat} {fs : List Fr} {km : List (Addr × Nat × Int)} (h : DMem W B bD g cap r fs km) (hn : 0 < fs.length) : g ≠ r := by
  rcases h.row.2 with ⟨h1, _⟩ | ⟨g', cap', cur, h1, h2, h3, _⟩
  · simp at h1
  · simp only [Value.slice.injEq, Option.some.injEq, Addr.mk.injEq] at h1
    obtain ⟨⟨rfl, _⟩, _⟩ := h1
    exact h.map.ne (b := g) h3

/-- The top's cells are others. -/
theorem DMem.topSet {W : World} {B bD g cap r : Nat} {fs : List Fr} {f f' : Fr} {km : List (Addr × Nat × Int)} (h : DMem W B bD g cap r (fs ++ [f]) km) (q : Nat) (u : Value) (hf : frCells f' = (frCells f).set q u) :
    DMem (W.setCell ⟨g, fs.length * 3 + q, none⟩ u) B bD g cap r (fs ++ [f']) km := by
  have hl : (fs ++ [f']).length = (fs ++ [f]).length := by simp
  refine ⟨?_, ?_, h.map.same (Below.heap_setCell _ _ _ _ (h.rne (by simp)).symm), h.hD, h.hr, by simpa [World.setCell] using h.hB, h.ne⟩
  · rw [hl]; exact h.box.other h.ne.symm _ _
  · rw [hl]
    have := (h.row.stored (fs.length * 3 + q) u).1
    rw [flat_set, ← hf] at this
    rw [flat_snoc]
    exact this

theorem DMem.draws {W : World} {B bD g cap r : Nat} {fs : List Fr} {km : List (Addr × Nat × Int)} (h : DMem W B bD g cap r fs km) (n : Nat) : DMem (W.drewN n) B bD g cap r fs km := ⟨h.box, h.row, h.map, h.hD, h.hr, h.hB, h.ne⟩
theorem Below.draws {B : Nat} {a w : World} (h : Below B a w) (n : Nat) : Below B a (w.drewN n) := ⟨h.os, h.tape, h.output, h.size, h.block⟩
theorem DMem.topDeep {W : World} {B bD g cap r : Nat} {fs : List Fr} {f : Fr} {km : List (Addr × Nat × Int)} (h : DMem W B bD g cap r (fs ++ [f]) km) {x : Int} {n : Nat} (hx : x = (n : Int)) :
    DMem (W.setCell ⟨g, fs.length * 3 + 2, none⟩ (.int .i64 x)) B bD g cap r (fs ++ [⟨f.l, f.v, f.pos, n⟩]) km := by
  subst hx
  exact h.topSet 2 _ rfl
theorem DMem.topPos {W : World} {B bD g cap r : Nat} {fs : List Fr} {f : Fr} {km : List (Addr × Nat × Int)} (h : DMem W B bD g cap r (fs ++ [f]) km) {x : Int} {n : Nat} (hx : x = (n : Int)) :
    DMem (W.setCell ⟨g, fs.length * 3 + 1, none⟩ (.int .i64 x)) B bD g cap r (fs ++ [⟨f.l, f.v, n, f.deep⟩]) km := by
  subst hx
  exact h.topSet 1 _ rfl

theorem ret_intJ {k : IntKind} {a b : Int} (h : a = b) : Ending.returned (.int k a) = .returned (.int k b) := by rw [h]
set_option maxHeartbeats 400000 in
theorem join_any (a b : Nat) (w : World) (ha : a ≤ 1000000000) (hb : b ≤ 1000000000) : Calls Try.prog 26 #[.int .i64 (a : Int), .int .i64 (b : Int)] w fun e w' => e = .returned (.int .i64 ((max a (b + 1) : Nat) : Int)) ∧ w' = w := by
  have hai : (a : Int) ≤ 1000000000 := by omega
  have hbi : (b : Int) ≤ 1000000000 := by omega
  go_enter Try.func26, Try.ntmps26
  go_wp2_with fail
  all_goals
    go_ret
    exact ⟨ret_intJ (by omega), rfl⟩

set_option maxHeartbeats 1000000 in
theorem found_any (W : World) (B bD g cap r : Nat) (fs : List Fr) (f : Fr) (km : List (Addr × Nat × Int)) (d : Nat) (h : DMem W B bD g cap r (fs ++ [f]) km) (hfs : fs.length ≤ 1000000000) (hd : d ≤ 1000000000) (hf : f.deep ≤ 1000000000) :
    Calls Try.prog 57 #[.pointer (some ⟨bD, 0, none⟩), .int .i64 (d : Int)] W fun e W' => e = .returned (.tuple #[]) ∧ DMem W' B bD g cap r (fs ++ [⟨f.l, f.v, f.pos, max f.deep (d + 1)⟩]) km ∧ Below B W W' := by
  have b0 : W.cell? ⟨bD, 1, none⟩ = some (.slice (some ⟨g, 0, none⟩) (fs.length + 1) cap) := by rw [h.box.cell]; simp
  have c2 : W.cell? ⟨g, fs.length * 3 + 2, none⟩ = some (.int .i64 (f.deep : Int)) := by
    have h1 := h.row.cellAt (fs.length * 3 + 2) (by simp; omega)
    rw [h1, flat_at]; rfl
  have z2 : W.frozen? ⟨g, fs.length * 3 + 2, none⟩ = false := h.row.frozenAt _
  have hn0 : (0 : Int) ≤ (fs.length : Int) := by omega
  have hn1 : (fs.length : Int) < ((fs.length + 1 : Nat) : Int) := by omega
  have hn2 : (fs.length : Int) ≤ 1000000000 := by omega
  have hdi : (d : Int) ≤ 1000000000 := by omega
  have hfi : (f.deep : Int) ≤ 1000000000 := by omega
  have HM : Hid (DMem W B bD g cap r (fs ++ [f]) km) := h
  have b1 : W.cell? ⟨bD, 0, none⟩ = some (.func (.func 26) #[] #[]) := by rw [h.box.cell]; simp
  have HJ : Hid (∀ W', Calls Try.prog 26 #[.int .i64 (f.deep : Int), .int .i64 (d : Int)] W' fun e w' => e = .returned (.int .i64 ((max f.deep (d + 1) : Nat) : Int)) ∧ W' = w') := fun W' => (join_any _ _ _ hf hd).mono (by rintro e w' ⟨h1, h2⟩; exact ⟨h1, h2.symm⟩)
  have hbl : bD < W.heap.size := h.box.lt
  have hgl : g < W.heap.size := h.gB.2
  have hgd : g ≠ bD := h.ne
  have hdg : bD ≠ g := h.ne.symm
  clear h
  go_enter Try.func57, Try.ntmps57
  go_wp2_with fail
  go_quiet (fail)
  go_wp2_with fail
  obtain ⟨W1, hW1⟩ : ∃ W1, W1 = W.drewN nq := ⟨_, rfl⟩
  rw [← hW1]
  have HM1 : Hid (DMem W1 B bD g cap r (fs ++ [f]) km) := by rw [hW1]; exact HM.out.draws nq
  have HB1 : Hid (Below B W W1) := by rw [hW1]; exact Below.draws (Below.refl _ _) nq
  have y0 : W1.cell? ⟨bD, 0, none⟩ = some (.func (.func 26) #[] #[]) := by rw [hW1]; exact b1
  have y2 : W1.cell? ⟨g, fs.length * 3 + 2, none⟩ = some (.int .i64 (f.deep : Int)) := by rw [hW1]; exact c2
  have yf : W1.frozen? ⟨g, fs.length * 3 + 2, none⟩ = false := by rw [hW1]; exact z2
  clear hW1 b0 b1 c2 z2 HM
  go_region_with (go_at_call 26; refine (HJ.out _).mono ?_; rintro e w1 ⟨rfl, rfl⟩)
  all_goals
    go_wp2_with fail
    refine bodyPost_end (v := .tuple #[]) (by simp [results, Try.results57, go_sem]; try rfl) rfl ?_
    exact ⟨rfl, (HM1.out.draws _).topDeep rfl, (Below.draws HB1.out _).setCell HM1.out.gB.1 _⟩

end Go.Proofs.Ytedeeckbgjalcaa
