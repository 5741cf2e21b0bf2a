
/-
  DERIVED. PLAIN FACTS, no walk: what is ok, by its kind.
-/
import Derived.Test.YtdaohfeajicamaaVlForm
namespace Go.Proofs.Ytdaohfeajicamaa
set_option linter.unusedVariables false
set_option linter.unusedSimpArgs false

theorem len_zero_list {t : Vl} (h : t.list.length = 0) : t.list = [] := List.eq_nil_of_length_eq_zero h
theorem len_zero_names {t : Vl} (h : t.names.length = 0) : t.names = [] := List.eq_nil_of_length_eq_zero h

theorem ok_k0 (words : Bool) (d : Nat) {t : Vl} (h : t.kind = 0) : okB words (d + 1) t = partsB 0 t.num t.text t.list.length t.names.length := by
  rw [okB_succ, h, Bool.eq_iff_iff]
  simp only [plainB, partsB, Bool.and_eq_true, if_true, decide_eq_true_eq]
  constructor
  · rintro ⟨⟨⟨⟨⟨h1, h2⟩, h3⟩, _⟩, _⟩, _⟩
    simp_all
  · rintro ⟨⟨⟨h1, h2⟩, h3⟩, h4⟩
    have h3' : t.list.length = 0 := by simpa using h3
    have h4' : t.names.length = 0 := by simpa using h4
    rw [len_zero_list h3', len_zero_names h4']
    simp_all [onceB]

theorem ok_k1 (words : Bool) (d : Nat) {t : Vl} (h : t.kind = 1) : okB words (d + 1) t = (partsB 1 t.num t.text t.list.length t.names.length && (t.num == 0 || t.num == 1)) := by
  rw [okB_succ, h, Bool.eq_iff_iff]
  constructor
  · intro hx
    simp only [plainB, Bool.and_eq_true] at hx
    obtain ⟨⟨⟨h1, _⟩, _⟩, _⟩ := hx
    simp [partsB] at h1 ⊢
    simp_all
    try omega
  · intro hx
    simp only [partsB, Bool.and_eq_true] at hx
    have h3' : t.list.length = 0 := by have := hx.1.1.2; simpa using this
    have h4' : t.names.length = 0 := by have := hx.1.2; simpa using this
    rw [len_zero_list h3', len_zero_names h4']
    simp [plainB, onceB] at hx ⊢
    simp_all
    try omega

theorem ok_k2 (words : Bool) (d : Nat) {t : Vl} (h : t.kind = 2) : okB words (d + 1) t = (partsB 2 t.num t.text t.list.length t.names.length && (decide (-2147483647 ≤ t.num) && decide (t.num ≤ 2147483647))) := by
  rw [okB_succ, h, Bool.eq_iff_iff]
  constructor
  · intro hx
    simp only [plainB, Bool.and_eq_true] at hx
    obtain ⟨⟨⟨h1, _⟩, _⟩, _⟩ := hx
    simp [partsB] at h1 ⊢
    simp_all
    try omega
  · intro hx
    simp only [partsB, Bool.and_eq_true] at hx
    have h3' : t.list.length = 0 := by have := hx.1.1.2; simpa using this
    have h4' : t.names.length = 0 := by have := hx.1.2; simpa using this
    rw [len_zero_list h3', len_zero_names h4']
    simp [plainB, onceB] at hx ⊢
    simp_all
    try omega

theorem ok_k3 (words : Bool) (d : Nat) {t : Vl} (h : t.kind = 3) : okB words (d + 1) t = (partsB 3 t.num t.text t.list.length t.names.length && decide (t.text.size ≤ 40)) := by
  rw [okB_succ, h, Bool.eq_iff_iff]
  constructor
  · intro hx
    simp only [plainB, Bool.and_eq_true] at hx
    obtain ⟨⟨⟨h1, _⟩, _⟩, _⟩ := hx
    simp [partsB] at h1 ⊢
    simp_all
    try omega
  · intro hx
    simp only [partsB, Bool.and_eq_true] at hx
    have h3' : t.list.length = 0 := by have := hx.1.1.2; simpa using this
    have h4' : t.names.length = 0 := by have := hx.1.2; simpa using this
    rw [len_zero_list h3', len_zero_names h4']
    simp [plainB, onceB] at hx ⊢
    simp_all
    try omega

theorem ok_k6 (words : Bool) (d : Nat) {t : Vl} (h : t.kind = 6) : okB words (d + 1) t = (partsB 6 t.num t.text t.list.length t.names.length && (words && nameB t.text.data.toList)) := by
  rw [okB_succ, h, Bool.eq_iff_iff]
  constructor
  · intro hx
    simp only [plainB, Bool.and_eq_true] at hx
    obtain ⟨⟨⟨h1, h2⟩, _⟩, _⟩ := hx
    simp [partsB] at h1 h2 ⊢
    simp_all
    try omega
  · intro hx
    simp only [partsB, Bool.and_eq_true] at hx
    have h3' : t.list.length = 0 := by have := hx.1.1.2; simpa using this
    have h4' : t.names.length = 0 := by have := hx.1.2; simpa using this
    rw [len_zero_list h3', len_zero_names h4']
    simp [plainB, onceB] at hx ⊢
    simp_all

theorem ok_k7 (words : Bool) (d : Nat) {t : Vl} (h : t.kind = 7) : okB words (d + 1) t = (partsB 7 t.num t.text t.list.length t.names.length && (words && nameB t.text.data.toList)) := by
  rw [okB_succ, h, Bool.eq_iff_iff]
  constructor
  · intro hx
    simp only [plainB, Bool.and_eq_true] at hx
    obtain ⟨⟨⟨h1, h2⟩, _⟩, _⟩ := hx
    simp [partsB] at h1 h2 ⊢
    simp_all
    try omega
  · intro hx
    simp only [partsB, Bool.and_eq_true] at hx
    have h3' : t.list.length = 0 := by have := hx.1.1.2; simpa using this
    have h4' : t.names.length = 0 := by have := hx.1.2; simpa using this
    rw [len_zero_list h3', len_zero_names h4']
    simp [plainB, onceB] at hx ⊢
    simp_all

theorem ok_k4 (words : Bool) (d : Nat) {t : Vl} (h : t.kind = 4) : okB words (d + 1) t = (partsB 4 t.num t.text t.list.length t.names.length && listB words d t) := by
  rw [okB_succ, h, Bool.eq_iff_iff]
  constructor
  · intro hx
    simp only [plainB, listB, Bool.and_eq_true] at hx ⊢
    obtain ⟨⟨⟨h1, _⟩, _⟩, h4⟩ := hx
    simp [partsB] at h1 ⊢
    simp_all
  · intro hx
    simp only [partsB, listB, Bool.and_eq_true] at hx
    have h4' : t.names.length = 0 := by have := hx.1.2; simpa using this
    rw [len_zero_names h4']
    simp [plainB, onceB] at hx ⊢
    simp_all

theorem ok_k5 (words : Bool) (d : Nat) {t : Vl} (h : t.kind = 5) : okB words (d + 1) t = (partsB 5 t.num t.text t.list.length t.names.length && treeB words d t) := by
  rw [okB_succ, h, Bool.eq_iff_iff]
  simp [plainB, partsB, treeB, listB]
  constructor
  · rintro ⟨⟨⟨⟨⟨h1, h2⟩, h3⟩, h4⟩, h5⟩, h6⟩
    exact ⟨⟨h1, h2⟩, ⟨⟨h4, h6⟩, h3⟩, h5⟩
  · rintro ⟨⟨h1, h2⟩, ⟨⟨h4, h6⟩, h3⟩, h5⟩
    exact ⟨⟨⟨⟨⟨h1, h2⟩, h3⟩, h4⟩, h5⟩, h6⟩

theorem ok_k8 (words : Bool) (d : Nat) {t : Vl} (h0 : t.kind ≠ 0) (h1 : t.kind ≠ 1) (h2 : t.kind ≠ 2) (h3 : t.kind ≠ 3) (h4 : t.kind ≠ 4) (h5 : t.kind ≠ 5) (h6 : t.kind ≠ 6) (h7 : t.kind ≠ 7) : okB words (d + 1) t = false := by
  rw [okB_succ, plainB, if_neg h0, if_neg h1, if_neg h2, if_neg h3, if_neg h4, if_neg h5, if_neg (by omega)]
  rfl

theorem ok_parts (words : Bool) (d : Nat) {t : Vl} (h : partsB t.kind t.num t.text t.list.length t.names.length = false) : okB words (d + 1) t = false := by
  by_cases h0 : t.kind = 0
  · rw [h0] at h; rw [ok_k0 words d h0, h]
  by_cases h1 : t.kind = 1
  · rw [h1] at h; rw [ok_k1 words d h1, h]; rfl
  by_cases h2 : t.kind = 2
  · rw [h2] at h; rw [ok_k2 words d h2, h]; rfl
  by_cases h3 : t.kind = 3
  · rw [h3] at h; rw [ok_k3 words d h3, h]; rfl
  by_cases h4 : t.kind = 4
  · rw [h4] at h; rw [ok_k4 words d h4, h]; rfl
  by_cases h5 : t.kind = 5
  · rw [h5] at h; rw [ok_k5 words d h5, h]; rfl
  by_cases h6 : t.kind = 6
  · rw [h6] at h; rw [ok_k6 words d h6, h]; rfl
  by_cases h7 : t.kind = 7
  · rw [h7] at h; rw [ok_k7 words d h7, h]; rfl
  exact ok_k8 words d h0 h1 h2 h3 h4 h5 h6 h7

end Go.Proofs.Ytdaohfeajicamaa
