
/-
  DERIVED. A TREE's ROW, SORTED IN PLACE.
-/
import Derived.Test.YtdaohfeajicamaaSrtS
namespace Go.Proofs.Ytdaohfeajicamaa
open Go.RowKit
set_option linter.unusedVariables false
set_option linter.unusedSimpArgs false

theorem flat_atS (d : Array Br) (m : Nat) (h : m < d.size) : (Go.Sort.flatK encBr 2 d)[m * 2]? = some (.string d[m].1) ∧ (Go.Sort.flatK encBr 2 d)[m * 2 + 1]? = some (.iface d[m].2.1 d[m].2.2) := by
  have hs := Go.Sort.size_flatK encBr 2 d
  have e0 : m * 2 / 2 = m := by omega
  have e1 : m * 2 % 2 = 0 := by omega
  have e2 : (m * 2 + 1) / 2 = m := by omega
  have e3 : (m * 2 + 1) % 2 = 1 := by omega
  constructor
  · rw [Array.getElem?_eq_getElem (by omega), ← getElem!_pos _ (m * 2) (by omega), Go.Sort.get_flatK _ _ _ _ (by omega), e0, e1, getElem!_pos d m h]
    rfl
  · rw [Array.getElem?_eq_getElem (by omega), ← getElem!_pos _ (m * 2 + 1) (by omega), Go.Sort.get_flatK _ _ _ _ (by omega), e2, e3, getElem!_pos d m h]
    rfl
/-- A block that holds branches. -/
def HoldsB (c : Array Value) (d : Array Br) : Prop := c.size = d.size * 2 ∧ ∀ (m : Nat) (h : m < d.size), c[m * 2]? = some (.string d[m].1) ∧ c[m * 2 + 1]? = some (.iface d[m].2.1 d[m].2.2)
theorem HoldsB.flat {c : Array Value} {d : Array Br} (h : HoldsB c d) : c = Go.Sort.flatK encBr 2 d := by
  have hs := Go.Sort.size_flatK encBr 2 d
  apply Array.ext_getElem?
  intro i
  by_cases hi : i < d.size * 2
  · have hm : i / 2 < d.size := by omega
    obtain ⟨h0, h1⟩ := h.2 (i / 2) hm
    obtain ⟨f0, f1⟩ := flat_atS d (i / 2) hm
    rcases Nat.mod_two_eq_zero_or_one i with he | he
    · have e : i = i / 2 * 2 := by omega
      rw [e]
      rw [h0, f0]
    · have e : i = i / 2 * 2 + 1 := by omega
      rw [e]
      rw [h1, f1]
  · rw [Array.getElem?_eq_none (by rw [h.1]; omega), Array.getElem?_eq_none (by rw [hs]; omega)]
theorem holdsK_of {w : World} {B : Nat} {c : Array Value} {e : TypeId} {d : Array Br} (hO : Owns w B c e) (hc : HoldsB c d) : Go.Sort.HoldsK encBr 2 w B 0 d := by
  intro j hj
  rw [Go.Sort.size_flatK] at hj
  refine ⟨?_, hO.frozen _⟩
  rw [Nat.zero_add, hO.cell, hc.flat, Array.getElem?_eq_getElem (by rw [Go.Sort.size_flatK]; exact hj), ← getElem!_pos _ j (by rw [Go.Sort.size_flatK]; exact hj)]
  rfl
/-- What the sort leaves, as memory. -/
theorem sortW_heap {w : World} {B n : Nat} {c : Array Value} {e : TypeId} {d' : Array Br} {os : Array Obj} (hO : Owns w B c e) (hs : c.size = d'.size * 2) :
    Owns (Go.Proofs.sortWorldK encBr 2 w B 0 n d' os) B (Go.Sort.flatK encBr 2 d') e ∧ (∀ b, b < w.heap.size → b ≠ B → (Go.Proofs.sortWorldK encBr 2 w B 0 n d' os).heap[b]? = w.heap[b]?) ∧ w.heap.size ≤ (Go.Proofs.sortWorldK encBr 2 w B 0 n d' os).heap.size := by
  have hlt := hO.lt
  have hsz : (Go.Proofs.sortWorldK encBr 2 w B 0 n d' os).heap = (w.heap.modify B (Go.Sort.onCells (Go.Sort.putCells id 0 (Go.Sort.flatK encBr 2 d')))) ++ os := rfl
  refine ⟨?_, fun b hb hne => ?_, ?_⟩
  · unfold Owns at hO ⊢
    rw [hsz, Array.getElem?_append, if_pos (by simpa using hlt), Array.getElem?_modify, if_pos rfl, hO]
    simp only [Option.map_some, Go.Sort.onCells]
    congr 2
    apply Array.ext_getElem?
    intro i
    have hf := Go.Sort.size_flatK encBr 2 d'
    simp only [Go.Sort.putCells, Array.getElem?_mapIdx, Nat.zero_le, true_and, Nat.zero_add, Nat.sub_zero, hf]
    by_cases hi : i < d'.size * 2
    · rw [Array.getElem?_eq_getElem (by omega), Option.map_some, if_pos hi, Array.getElem?_eq_getElem (by omega), ← getElem!_pos _ i (by omega)]
      rfl
    · rw [Array.getElem?_eq_none (by omega), Array.getElem?_eq_none (by omega)]
      rfl
  · rw [hsz, Array.getElem?_append, if_pos (by simpa using hb), Array.getElem?_modify, if_neg (fun h => hne h.symm)]
  · rw [hsz]; simp

set_option maxHeartbeats 1000000 in
theorem sort_row (w : World) (B k : Nat) (P : List Pr) (hF : Filled w B 2 85 (BrC w (B + 1) k) P P.length) (hn : (P.map (·.1)).Pairwise (· ≠ ·)) (hsz : P.length * 32 ≤ 140737488351232) :
    Calls Try.prog 61 #[.slice (some ⟨B, 0, none⟩) P.length P.length, .func (.func 62) #[] #[]] w fun e w' => e = .returned (.tuple #[]) ∧
      Row w' B 2 32 (BrC w' (B + 1) k) (sortP P) (.slice (some ⟨B, 0, none⟩) P.length P.length) ∧ Below B w w' := by
  obtain ⟨c, hO, hc, hrow⟩ := hF
  have hch : ∀ m : Fin P.length, ∃ b : Br, c[m.val * 2]? = some (.string b.1) ∧ c[m.val * 2 + 1]? = some (.iface b.2.1 b.2.2) ∧ b.1 = P[m].1 ∧ FmR w (B + 1) k P[m].2 (.iface b.2.1 b.2.2) := fun m => by
    obtain ⟨cs, h1, h2, f, rfl, hf⟩ := hrow m.val m.isLt m.isLt
    obtain ⟨T, x, rfl⟩ := hf.iface
    exact ⟨(P[m].1, T, x), h2 0 (by omega), h2 1 (by omega), rfl, hf⟩
  obtain ⟨g, hg⟩ := Classical.axiomOfChoice hch
  obtain ⟨L, hL⟩ : ∃ L : List (Pr × Br), L = List.ofFn (fun m : Fin P.length => (P[m], g m)) := ⟨_, rfl⟩
  have hLl : L.length = P.length := by rw [hL]; simp
  have hL1 : L.map (·.1) = P := by
    rw [hL]
    apply List.ext_getElem
    · simp
    · intro i h1 h2; simp
  have hLp : ∀ x ∈ L, x.2.1 = x.1.1 ∧ FmR w (B + 1) k x.1.2 (.iface x.2.2.1 x.2.2.2) := fun x hx => by
    rw [hL] at hx
    obtain ⟨m, rfl⟩ := List.mem_ofFn.1 hx
    exact ⟨(hg m).2.2.1, (hg m).2.2.2⟩
  obtain ⟨d, hd⟩ : ∃ d : Array Br, d = (L.map (·.2)).toArray := ⟨_, rfl⟩
  have hds : d.size = P.length := by rw [hd]; simp [hLl]
  have hcd : HoldsB c d := by
    refine ⟨by rw [hc, hds], fun m hm => ?_⟩
    have hmP : m < P.length := by omega
    have e : d[m] = g ⟨m, hmP⟩ := by simp [hd, hL]
    rw [e]
    exact ⟨(hg ⟨m, hmP⟩).1, (hg ⟨m, hmP⟩).2.1⟩
  have hcon := sortFn_any B P.length d w (holdsK_of hO hcd) hO.lt (by omega)
  rw [hds] at hcon
  refine hcon.mono ?_
  rintro e w' ⟨rfl, d', n, os, hp, hs, rfl⟩
  obtain ⟨p1, p2, p3⟩ := hp
  have hd's : d'.size = P.length := by rw [p1, hds]
  have q3 : d'.toList.Perm (L.map (·.2)) := by
    have e1 : d'.extract 0 P.length = d' := by rw [← hd's]; simp
    have e2 : d.extract 0 P.length = d := by rw [← hds]; simp
    rw [e1, e2] at p3
    rw [hd] at p3
    simpa using p3
  obtain ⟨L', hL'1, hL'2⟩ := perm_lift (fun x : Pr × Br => x.2) q3 L rfl
  have hL'p : ∀ x ∈ L', x.2.1 = x.1.1 ∧ FmR w (B + 1) k x.1.2 (.iface x.2.2.1 x.2.2.2) := fun x hx => hLp x (hL'1.mem_iff.1 hx)
  have hL'l : L'.length = P.length := by rw [hL'1.length_eq, hLl]
  have hat : ∀ (m : Nat) (h : m < L'.length) (h' : m < d'.size), d'[m] = L'[m].2 := fun m h h' => by
    have h1 : (L'.map (fun x => x.2))[m]? = d'.toList[m]? := by rw [hL'2]
    rw [List.getElem?_map, List.getElem?_eq_getElem h, Array.getElem?_toList, Array.getElem?_eq_getElem h'] at h1
    exact (Option.some.inj h1).symm
  have hPP : L'.map (·.1) = sortP P := by
    refine sortP_unique (by rw [← hL1]; exact hL'1.map _) ?_
    refine strict_of ?_ ?_
    · have h1 : (L'.map (·.1)).Perm P := by rw [← hL1]; exact hL'1.map _
      exact ((h1.map (·.1)).pairwise_iff (fun {x y} h => h.symm)).2 hn
    · rw [List.pairwise_map, List.pairwise_iff_getElem]
      intro i j hi hj hij
      have h1 := hs i j (Nat.zero_le _) hij (by omega)
      rw [getElem!_pos d' j (by omega), getElem!_pos d' i (by omega), ltBr, hat j hj (by omega), hat i hi (by omega), (hL'p _ (List.getElem_mem hj)).1, (hL'p _ (List.getElem_mem hi)).1] at h1
      exact h1
  obtain ⟨s1, s2, s3⟩ := sortW_heap (n := n) (os := os) hO (d' := d') (by rw [hc, hd's])
  have hK : Keeps (B + 1) w (Go.Proofs.sortWorldK encBr 2 w B 0 n d' os) := ⟨s3, fun b h1 h2 => s2 b h2 (by omega)⟩
  refine ⟨rfl, ?_, ⟨rfl, rfl, rfl, s3, fun b hb => s2 b (Nat.lt_trans hb hO.lt) (by omega)⟩⟩
  rw [← hPP]
  have hl : (L'.map (·.1)).length = P.length := by simp [hL'l]
  refine Or.inr ⟨⟨B, 0, none⟩, P.length, by rw [hl], by omega, by unfold maxLen; omega, by omega, fun m hm => ⟨Nat.le_refl _, rfl, ?_⟩⟩
  have hmL : m < L'.length := by simpa using hm
  obtain ⟨f0, f1⟩ := flat_atS d' m (by omega)
  rw [hat m hmL (by omega)] at f0 f1
  obtain ⟨h1, h2⟩ := hL'p _ (List.getElem_mem hmL)
  refine ⟨[.string L'[m].2.1, .iface L'[m].2.2.1 L'[m].2.2.2], rfl, fun q hq => ?_, ?_⟩
  · show World.cell? _ ⟨B, 0 + m * 2 + q, none⟩ = _
    rw [s1.cell, Nat.zero_add]
    rcases (show q = 0 ∨ q = 1 by simp at hq; omega) with rfl | rfl
    · rw [Nat.add_zero, f0]; rfl
    · rw [f1]; rfl
  · refine ⟨.iface L'[m].2.2.1 L'[m].2.2.2, ?_, ?_⟩
    · rw [List.getElem_map, h1]
    · rw [List.getElem_map]; exact FmR.keeps hK _ _ _ h2

end Go.Proofs.Ytdaohfeajicamaa
