
/-
  DERIVED. VALUES WITH ALL NAMES IN ORDER: they are ok, and right; what is put in among others. No walk.
-/
import Derived.Test.YtdaohfeajicamaaSrtP
import Derived.Test.YtdaohfeajicamaaPlainF
namespace Go.Proofs.Ytdaohfeajicamaa
set_option linter.unusedVariables false
set_option linter.unusedSimpArgs false

theorem text_same {a b : ByteArray} (h : (a.toList == b.toList) = true) : a = b := by
  have h1 : a.toList = b.toList := by simpa using h
  rw [ByteArray.toList_eq, ByteArray.toList_eq] at h1
  apply ByteArray.ext
  exact Array.toList_inj.1 h1
theorem hasB_iff {l : List ByteArray} {s : ByteArray} : hasB l s = true ↔ s ∈ l := ⟨fun h => by
    simp only [hasB, List.any_eq_true] at h
    obtain ⟨x, hx, he⟩ := h
    rw [← text_same he]
    exact hx, hasB_mem⟩
theorem onceB_iff : ∀ (l acc : List ByteArray), onceB acc l = true ↔ (∀ s ∈ l, nameB s.data.toList = true ∧ s ∉ acc) ∧ l.Pairwise (· ≠ ·)
  | [], acc => by simp [onceB]
  | s :: r, acc => by
    rw [onceB, Bool.and_eq_true, Bool.and_eq_true, onceB_iff r (acc ++ [s]), Bool.not_eq_true', List.pairwise_cons]
    constructor
    · rintro ⟨⟨h1, h2⟩, h3, h4⟩
      have h2' : s ∉ acc := fun hm => by rw [hasB_mem hm] at h2; cases h2
      refine ⟨fun x hx => ?_, fun x hx e => ?_, h4⟩
      · rcases List.mem_cons.1 hx with rfl | hx
        · exact ⟨h1, h2'⟩
        · exact ⟨(h3 x hx).1, fun hm => (h3 x hx).2 (List.mem_append_left _ hm)⟩
      · exact (h3 x hx).2 (by rw [← e]; simp)
    · rintro ⟨h1, h2, h3⟩
      refine ⟨⟨(h1 s List.mem_cons_self).1, ?_⟩, fun x hx => ⟨(h1 x (List.mem_cons_of_mem _ hx)).1, fun hm => ?_⟩, h3⟩
      · cases hb : hasB acc s
        · rfl
        · exact absurd (hasB_iff.1 hb) (h1 s List.mem_cons_self).2
      · rcases List.mem_append.1 hm with hm | hm
        · exact (h1 x (List.mem_cons_of_mem _ hx)).2 hm
        · simp at hm
          exact h2 x hx hm.symm
theorem onceB_perm {l l' : List ByteArray} (h : l.Perm l') : onceB [] l = onceB [] l' := by
  rw [Bool.eq_iff_iff, onceB_iff, onceB_iff]
  constructor
  · rintro ⟨h1, h2⟩
    exact ⟨fun s hs => h1 s (h.mem_iff.2 hs), (h.pairwise_iff (fun {a b} hab => hab.symm)).1 h2⟩
  · rintro ⟨h1, h2⟩
    exact ⟨fun s hs => h1 s (h.mem_iff.1 hs), (h.pairwise_iff (fun {a b} hab => hab.symm)).2 h2⟩

/-- The pairs of a tree, each sorted. -/
def prsS (k : Nat) (t : Vl) : List Pr := t.names.zip (t.list.map (srt k))
theorem prsS_fst {k : Nat} {t : Vl} (h : t.names.length = t.list.length) : (prsS k t).map (·.1) = t.names := by
  unfold prsS
  exact List.map_fst_zip (by rw [List.length_map, h]; exact Nat.le_refl _)
theorem prsS_snd {k : Nat} {t : Vl} (h : t.names.length = t.list.length) : (prsS k t).map (·.2) = t.list.map (srt k) := by
  unfold prsS
  exact List.map_snd_zip (by rw [List.length_map, h]; exact Nat.le_refl _)
theorem prsS_len {k : Nat} {t : Vl} (h : t.names.length = t.list.length) : (prsS k t).length = t.list.length := by
  unfold prsS
  rw [List.length_zip, List.length_map, h, Nat.min_self]
theorem srt_kind (k : Nat) (t : Vl) : (srt k t).kind = t.kind ∧ (srt k t).num = t.num ∧ (srt k t).text = t.text := by
  cases k with
  | zero => exact ⟨rfl, rfl, rfl⟩
  | succ k =>
    by_cases h : t.kind = 5
    · rw [srt_tree h]; exact ⟨rfl, rfl, rfl⟩
    · rw [srt_else h]; exact ⟨rfl, rfl, rfl⟩

theorem ok_five {d : Nat} {t : Vl} (h5 : t.kind = 5) (h : okB false (d + 1) t = true) : t.names.length = t.list.length ∧ onceB [] t.names = true := by
  rw [okB_succ] at h
  simp only [Bool.and_eq_true] at h
  refine ⟨?_, h.1.2⟩
  have h1 := h.1.1.1
  unfold plainB at h1
  simp [h5] at h1
  omega

theorem okB_srt : ∀ (d k : Nat) (t : Vl), d ≤ k → okB false d t = true → okB false d (srt k t) = true
  | 0, _, _, _, h => h
  | d + 1, 0, _, hd, _ => absurd hd (by omega)
  | d + 1, k + 1, t, hd, h => by
    have h0 := h
    rw [okB_succ] at h
    simp only [Bool.and_eq_true, List.all_eq_true] at h
    obtain ⟨⟨⟨h1, h2⟩, h3⟩, h4⟩ := h
    by_cases h5 : t.kind = 5
    · obtain ⟨hl, ho⟩ := ok_five h5 h0
      have hlen : (sortP (prsS k t)).length = t.list.length := by rw [(sortP_perm _).length_eq, prsS_len hl]
      have e : srt (k + 1) t = ⟨t.kind, t.num, t.text, (sortP (prsS k t)).map (·.2), (sortP (prsS k t)).map (·.1)⟩ := srt_tree h5
      rw [e, okB_succ]
      simp only [Bool.and_eq_true, List.all_eq_true, List.length_map]
      refine ⟨⟨⟨by rw [hlen, ← hl]; rw [hl] at h1 ⊢; exact h1, h2⟩, ?_⟩, fun x hx => ?_⟩
      · rw [onceB_perm ((sortP_perm (prsS k t)).map (·.1)), prsS_fst hl]
        exact ho
      · have hx2 : x ∈ (prsS k t).map (·.2) := ((sortP_perm (prsS k t)).map (·.2)).mem_iff.1 hx
        rw [prsS_snd hl] at hx2
        obtain ⟨y, hy, rfl⟩ := List.mem_map.1 hx2
        exact okB_srt d k y (by omega) (h4 y hy)
    · rw [srt_else h5, okB_succ]
      simp only [Bool.and_eq_true, List.all_eq_true, List.length_map]
      refine ⟨⟨⟨h1, h2⟩, h3⟩, fun x hx => ?_⟩
      obtain ⟨y, hy, rfl⟩ := List.mem_map.1 hx
      exact okB_srt d k y (by omega) (h4 y hy)

theorem ok_kindS {d : Nat} {t : Vl} (h : okB false (d + 1) t = true) : t.kind = 0 ∨ t.kind = 1 ∨ t.kind = 2 ∨ t.kind = 3 ∨ t.kind = 4 ∨ t.kind = 5 := by
  rw [okB_succ] at h
  simp only [Bool.and_eq_true] at h
  have h1 := h.1.1.1
  have h2 := h.1.1.2
  simp only [Bool.false_or, decide_eq_true_eq] at h2
  unfold plainB at h1
  by_cases k0 : t.kind = 0
  · exact Or.inl k0
  by_cases k1 : t.kind = 1
  · exact Or.inr (Or.inl k1)
  by_cases k2 : t.kind = 2
  · exact Or.inr (Or.inr (Or.inl k2))
  by_cases k3 : t.kind = 3
  · exact Or.inr (Or.inr (Or.inr (Or.inl k3)))
  by_cases k4 : t.kind = 4
  · exact Or.inr (Or.inr (Or.inr (Or.inr (Or.inl k4))))
  by_cases k5 : t.kind = 5
  · exact Or.inr (Or.inr (Or.inr (Or.inr (Or.inr k5))))
  simp [k0, k1, k2, k3, k4, k5, show t.kind ≠ 6 by omega, show t.kind ≠ 7 by omega] at h1

theorem ok_wf : ∀ (d : Nat) (t : Vl), okB false d t = true → wfB d t = true
  | 0, _, h => h
  | d + 1, t, h => by
    have h0 := h
    have hk := ok_kindS h
    have hkids : ∀ x ∈ t.list, wfB d x = true := fun x hx => by
      rw [okB_succ] at h
      simp only [Bool.and_eq_true, List.all_eq_true] at h
      exact ok_wf d x (h.2 x hx)
    have hp : partsB t.kind t.num t.text t.list.length t.names.length = true := by
      rcases hk with e | e | e | e | e | e
      · rw [ok_k0 _ _ e] at h; rw [e]; exact h
      · rw [ok_k1 _ _ e, Bool.and_eq_true] at h; rw [e]; exact h.1
      · rw [ok_k2 _ _ e, Bool.and_eq_true] at h; rw [e]; exact h.1
      · rw [ok_k3 _ _ e, Bool.and_eq_true] at h; rw [e]; exact h.1
      · rw [ok_k4 _ _ e] at h
        simp only [Bool.and_eq_true] at h
        rw [e]
        first | exact h.1 | exact h.1.1 | exact h.1.1.1
      · rw [ok_k5 _ _ e] at h
        simp only [Bool.and_eq_true] at h
        rw [e]
        first | exact h.1 | exact h.1.1 | exact h.1.1.1 | exact h.1.1.1.1
    rw [wfB]
    simp only [Bool.and_eq_true, List.all_eq_true, decide_eq_true_eq, Bool.or_eq_true]
    refine ⟨⟨⟨hp, by omega⟩, ?_⟩, hkids⟩
    by_cases h5 : t.kind = 5
    · exact Or.inr (ok_five h5 h0)
    · exact Or.inl h5

/-! ### Put in among others -/
def insAt {α : Type} (P : List α) (j : Nat) (x : α) : List α := P.take j ++ [x] ++ P.drop j
theorem insAt_map {α β : Type} (f : α → β) (P : List α) (j : Nat) (x : α) : (insAt P j x).map f = insAt (P.map f) j (f x) := by
  simp [insAt, List.map_take, List.map_drop]
theorem insAt_len {α : Type} (P : List α) (j : Nat) (x : α) : (insAt P j x).length = P.length + 1 := by
  simp only [insAt, List.length_append, List.length_take, List.length_drop, List.length_cons, List.length_nil]
  omega
theorem insAt_end {α : Type} (P : List α) (x : α) : insAt P P.length x = P ++ [x] := by simp [insAt]
theorem ins_perm {α : Type} (P : List α) (j : Nat) (x : α) : (insAt P j x).Perm (P ++ [x]) := by
  have h1 : (P.take j ++ ([x] ++ P.drop j)).Perm (P.take j ++ (P.drop j ++ [x])) := List.Perm.append_left _ List.perm_append_comm
  unfold insAt
  rw [List.append_assoc]
  refine h1.trans ?_
  rw [← List.append_assoc, List.take_append_drop]
theorem ins_sorted {P : List Pr} {j : Nat} {x : Pr} (hs : P.Pairwise (fun a b => bLt a.1 b.1 = true)) (hlo : ∀ y ∈ P.take j, bLt y.1 x.1 = true) (hhi : ∀ y ∈ P.drop j, bLt x.1 y.1 = true) : (insAt P j x).Pairwise (fun a b => bLt a.1 b.1 = true) := by
  have h := hs
  rw [← List.take_append_drop j P, List.pairwise_append] at h
  obtain ⟨h1, h2, h3⟩ := h
  unfold insAt
  rw [List.append_assoc, List.pairwise_append]
  refine ⟨h1, ?_, fun a ha b hb => ?_⟩
  · rw [List.singleton_append, List.pairwise_cons]
    exact ⟨hhi, h2⟩
  · rcases List.mem_cons.1 hb with rfl | hb
    · exact hlo a ha
    · exact h3 a ha b hb
/-- All ahead of a place are less, if the one just ahead is. -/
theorem less_ahead {P : List Pr} {j : Nat} {x : Pr} (hs : P.Pairwise (fun a b => bLt a.1 b.1 = true)) (hj : j < P.length) (h : bLt P[j].1 x.1 = true) : ∀ y ∈ P.take (j + 1), bLt y.1 x.1 = true := by
  intro y hy
  rw [List.take_succ_eq_append_getElem hj] at hy
  rcases List.mem_append.1 hy with hy | hy
  · have h1 := hs
    rw [← List.take_append_drop j P, List.pairwise_append] at h1
    have h2 := h1.2.2 y hy P[j] (by rw [List.drop_eq_getElem_cons hj]; exact List.mem_cons_self)
    exact bLt_trans h2 h
  · simp at hy
    rw [hy]
    exact h

end Go.Proofs.Ytdaohfeajicamaa
