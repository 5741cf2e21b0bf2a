
/-
  DERIVED. VALUES WITH ALL NAMES IN ORDER: no walk.
-/
import Derived.Test.YtdaohfeajicamaaPlainV
import Derived.Test.YtdaohfeajicamaaRepF
import Derived.Lib.Bytealg
import Derived.Sort.Statements
namespace Go.Proofs.Ytdaohfeajicamaa
open Go.Lib
set_option linter.unusedVariables false
set_option linter.unusedSimpArgs false

/-! ### The order of texts -/
theorem cb_refl : ∀ a : List UInt8, compareBytes a a = 0
  | [] => rfl
  | x :: a => by simp [compareBytes, cb_refl a]
theorem cb_eq : ∀ a b : List UInt8, compareBytes a b = 0 → a = b
  | [], [], _ => rfl
  | [], _ :: _, h => by simp [compareBytes] at h
  | _ :: _, [], h => by simp [compareBytes] at h
  | x :: a, y :: b, h => by
    simp only [compareBytes] at h
    split at h
    · simp at h
    · split at h
      · simp at h
      · have hxy : x = y := by
          apply UInt8.le_antisymm
          · exact UInt8.not_lt.1 ‹¬ y < x›
          · exact UInt8.not_lt.1 ‹¬ x < y›
        rw [hxy, cb_eq a b h]
theorem cb_swap : ∀ a b : List UInt8, compareBytes a b < 0 ↔ 0 < compareBytes b a
  | [], [] => by simp [compareBytes]
  | [], _ :: _ => by simp [compareBytes]
  | _ :: _, [] => by simp [compareBytes]
  | x :: a, y :: b => by
    simp only [compareBytes]
    by_cases h1 : x < y
    · have h2 : ¬ y < x := UInt8.lt_asymm h1
      simp [h1, h2]
    · by_cases h2 : y < x
      · simp [h1, h2]
      · simp only [h1, h2, if_false]; exact cb_swap a b
theorem cb_trans : ∀ a b c : List UInt8, compareBytes a b < 0 → compareBytes b c < 0 → compareBytes a c < 0
  | [], [], c, h, _ => by simp [compareBytes] at h
  | [], _ :: _, [], _, h => by simp [compareBytes] at h
  | [], _ :: _, _ :: _, _, _ => by simp [compareBytes]
  | _ :: _, [], _, h, _ => by simp [compareBytes] at h
  | _ :: _, _ :: _, [], _, h => by simp [compareBytes] at h
  | x :: a, y :: b, z :: c, h1, h2 => by
    simp only [compareBytes] at h1 h2 ⊢
    by_cases hxy : x < y
    · by_cases hyz : y < z
      · simp [UInt8.lt_trans hxy hyz]
      · by_cases hzy : z < y
        · simp [hyz, hzy] at h2
        · have : y = z := UInt8.le_antisymm (UInt8.not_lt.1 hzy) (UInt8.not_lt.1 hyz)
          subst this
          simp [hxy]
    · by_cases hyx : y < x
      · simp [hxy, hyx] at h1
      · have : x = y := UInt8.le_antisymm (UInt8.not_lt.1 hyx) (UInt8.not_lt.1 hxy)
        subst this
        simp only [hxy, if_false] at h1
        by_cases hyz : x < z
        · simp [hyz]
        · by_cases hzy : z < x
          · simp [hyz, hzy] at h2
          · simp only [hyz, hzy, if_false] at h2 ⊢
            exact cb_trans a b c h1 h2
/-- A text is ahead of another one. -/
def bLt (a b : ByteArray) : Bool := decide (compareBytes a.data.toList b.data.toList < 0)
theorem bLt_irrefl (a : ByteArray) : bLt a a = false := by simp [bLt, cb_refl]
theorem bLt_trans {a b c : ByteArray} (h1 : bLt a b = true) (h2 : bLt b c = true) : bLt a c = true := by
  simp only [bLt, decide_eq_true_eq] at *
  exact cb_trans _ _ _ h1 h2
theorem bLt_asymm {a b : ByteArray} (h : bLt a b = true) : bLt b a = false := by
  cases hb : bLt b a
  · rfl
  · have := bLt_trans h hb
    rw [bLt_irrefl] at this
    exact absurd this (by decide)
theorem bLt_total {a b : ByteArray} (h1 : bLt a b = false) (h2 : bLt b a = false) : a = b := by
  simp only [bLt, decide_eq_false_iff_not] at h1 h2
  have h3 := cb_swap b.data.toList a.data.toList
  have h4 : compareBytes a.data.toList b.data.toList = 0 := by
    rcases Int.lt_trichotomy (compareBytes a.data.toList b.data.toList) 0 with h | h | h
    · exact absurd h h1
    · exact h
    · exact absurd (h3.2 h) h2
  have h5 := cb_eq _ _ h4
  apply ByteArray.ext
  exact Array.toList_inj.1 h5
theorem bLt_ntrans {a b c : ByteArray} (h1 : bLt a b = false) (h2 : bLt b c = false) : bLt a c = false := by
  cases h : bLt a c
  · rfl
  · cases hba : bLt b a
    · have := bLt_total h1 hba
      subst this
      rw [h] at h2
      exact absurd h2 (by decide)
    · have := bLt_trans hba h
      rw [this] at h2
      exact absurd h2 (by decide)

/-! ### Pairs in order -/
abbrev Pr := ByteArray × Vl
def prLe (a b : Pr) : Bool := !(bLt b.1 a.1)
def sortP (l : List Pr) : List Pr := l.mergeSort prLe
theorem sortP_perm (l : List Pr) : (sortP l).Perm l := List.mergeSort_perm l prLe
theorem sortP_sorted (l : List Pr) : (sortP l).Pairwise (fun a b => prLe a b = true) := by
  refine List.pairwise_mergeSort ?_ ?_ l
  · intro a b c h1 h2
    simp only [prLe, Bool.not_eq_true'] at *
    exact bLt_ntrans h2 h1
  · intro a b
    simp only [prLe]
    cases h1 : bLt b.1 a.1
    · rfl
    · rw [bLt_asymm h1]; rfl
theorem pair_same : ∀ {l : List Pr}, l.Pairwise (fun a b => bLt a.1 b.1 = true) → ∀ a b, a ∈ l → b ∈ l → a.1 = b.1 → a = b
  | x :: r, h, a, b, ha, hb, e => by
    rw [List.pairwise_cons] at h
    rcases List.mem_cons.1 ha with ha' | ha'
    · rcases List.mem_cons.1 hb with hb' | hb'
      · rw [ha', hb']
      · have := h.1 b hb'
        rw [← ha', e, bLt_irrefl] at this
        exact absurd this (by decide)
    · rcases List.mem_cons.1 hb with hb' | hb'
      · have := h.1 a ha'
        rw [← hb', e, bLt_irrefl] at this
        exact absurd this (by decide)
      · exact pair_same h.2 a b ha' hb' e
/-- What is strictly in order, and has just the same, is the one. -/
theorem sortP_unique {l l' : List Pr} (hp : l'.Perm l) (hs : l'.Pairwise (fun a b => bLt a.1 b.1 = true)) : l' = sortP l := by
  refine List.Perm.eq_of_pairwise (le := fun a b => prLe a b = true) ?_ ?_ (sortP_sorted l) (hp.trans (sortP_perm l).symm)
  · intro a b ha hb h1 h2
    simp only [prLe, Bool.not_eq_true'] at h1 h2
    exact pair_same hs a b ha ((hp.trans (sortP_perm l).symm).mem_iff.2 hb) (bLt_total h2 h1)
  · exact hs.imp (fun {a b} h => by simp only [prLe]; rw [bLt_asymm h]; rfl)

/-- A value, all names in order. -/
def srt : Nat → Vl → Vl
  | 0, t => t
  | k + 1, t => if t.kind = 5 then ⟨t.kind, t.num, t.text, (sortP (t.names.zip (t.list.map (srt k)))).map (·.2), (sortP (t.names.zip (t.list.map (srt k)))).map (·.1)⟩
      else ⟨t.kind, t.num, t.text, t.list.map (srt k), t.names⟩
theorem srt_tree {k : Nat} {t : Vl} (h : t.kind = 5) : srt (k + 1) t = ⟨t.kind, t.num, t.text, (sortP (t.names.zip (t.list.map (srt k)))).map (·.2), (sortP (t.names.zip (t.list.map (srt k)))).map (·.1)⟩ := by rw [srt, if_pos h]
theorem srt_else {k : Nat} {t : Vl} (h : t.kind ≠ 5) : srt (k + 1) t = ⟨t.kind, t.num, t.text, t.list.map (srt k), t.names⟩ := by rw [srt, if_neg h]
theorem zip_back (p : List Pr) : (p.map (·.1)).zip (p.map (·.2)) = p := by
  induction p with
  | nil => rfl
  | cons x r ih => simp [ih]

/-- Right but for its limits: what a kind has not is not there, names are once. -/
def wfB : Nat → Vl → Bool
  | 0, _ => false
  | k + 1, t => partsB t.kind t.num t.text t.list.length t.names.length && decide (0 ≤ t.kind ∧ t.kind ≤ 5) && (decide (t.kind ≠ 5) || (decide (t.names.length = t.list.length) && onceB [] t.names)) && t.list.all (wfB k)

/-- A permutation of what a function makes is what it makes of a permutation. -/
theorem perm_lift {α β : Type} (f : α → β) : ∀ {l' m : List β}, l'.Perm m → ∀ l : List α, l.map f = m → ∃ l'' : List α, l''.Perm l ∧ l''.map f = l' := by
  intro l' m h
  induction h with
  | nil => intro l hl; exact ⟨[], by rw [List.map_eq_nil_iff.1 hl], rfl⟩
  | cons x _ ih =>
    intro l hl
    cases l with
    | nil => simp at hl
    | cons a r =>
      simp only [List.map_cons, List.cons.injEq] at hl
      obtain ⟨q, h1, h2⟩ := ih r hl.2
      exact ⟨a :: q, h1.cons a, by simp [h2, hl.1]⟩
  | swap x y r0 =>
    intro l hl
    match l, hl with
    | a :: b :: r, hl =>
      simp only [List.map_cons, List.cons.injEq] at hl
      exact ⟨b :: a :: r, List.Perm.swap a b r, by simp [hl.1, hl.2.1, hl.2.2]⟩
    | [a], hl => simp at hl
    | [], hl => simp at hl
  | trans _ _ ih1 ih2 =>
    intro l hl
    obtain ⟨q, h1, h2⟩ := ih2 l hl
    obtain ⟨q', h3, h4⟩ := ih1 q h2
    exact ⟨q', h3.trans h1, h4⟩

/-- Names that are there once are no two the same. -/
theorem hasB_mem {l : List ByteArray} {s : ByteArray} (h : s ∈ l) : hasB l s = true := by
  simp only [hasB, List.any_eq_true]
  exact ⟨s, h, by simp⟩
theorem once_mem : ∀ (l acc : List ByteArray), onceB acc l = true → ∀ x ∈ l, x ∉ acc
  | s :: r, acc, h, x, hx => by
    simp only [onceB, Bool.and_eq_true, Bool.not_eq_true'] at h
    rcases List.mem_cons.1 hx with rfl | hx
    · intro hm
      rw [hasB_mem hm] at h
      exact absurd h.1.2 (by decide)
    · have := once_mem r (acc ++ [s]) h.2 x hx
      exact fun hm => this (List.mem_append_left _ hm)
theorem once_nodup : ∀ (l acc : List ByteArray), onceB acc l = true → l.Pairwise (· ≠ ·)
  | [], _, _ => List.Pairwise.nil
  | s :: r, acc, h => by
    have h0 := h
    simp only [onceB, Bool.and_eq_true] at h
    rw [List.pairwise_cons]
    refine ⟨fun x hx e => ?_, once_nodup r (acc ++ [s]) h.2⟩
    subst e
    exact once_mem r (acc ++ [s]) h.2 s hx (by simp)
/-- Sorted, and no two names the same: strictly in order. -/
theorem strict_of {l : List Pr} (hn : (l.map (·.1)).Pairwise (· ≠ ·)) (hs : l.Pairwise (fun a b => bLt b.1 a.1 = false)) : l.Pairwise (fun a b => bLt a.1 b.1 = true) := by
  rw [List.pairwise_map] at hn
  refine (hn.and hs).imp (fun {a b} h => ?_)
  cases hl : bLt a.1 b.1
  · exact absurd (bLt_total hl h.2) h.1
  · rfl

end Go.Proofs.Ytdaohfeajicamaa
