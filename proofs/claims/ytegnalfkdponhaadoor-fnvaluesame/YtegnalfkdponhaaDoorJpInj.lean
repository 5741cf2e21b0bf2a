
/-
  DERIVED. NO TWO TEXTS AND NO TWO NUMBERS ARE WRITTEN THE SAME (of JSON): what is written can be read back, whatever comes behind.
-/
import Derived.Test.YtegnalfkdponhaaDoorJpC
namespace Go.Proofs.YtegnalfkdponhaaDoor
open Go.RowKit
set_option linter.unusedVariables false
set_option linter.unusedSimpArgs false

/-- What a figure counts. -/
def unh (x : UInt8) : Nat := if x.toNat < 58 then x.toNat - 48 else x.toNat - 87
/-- The first byte of a written text, read back, and what is behind it. -/
def unq : List UInt8 → Option (Nat × List UInt8)
  | [] => none
  | c :: r => if c.toNat = 92 then (match r with
      | [] => none
      | x :: q => if x.toNat = 117 then (match q with
          | _ :: _ :: a :: b :: z => some (unh a * 16 + unh b, z)
          | _ => none) else if x.toNat = 110 then some (10, q) else some (x.toNat, q)) else some (c.toNat, r)
theorem unh_hex : ∀ n : Fin 16, unh (hexU n.val) = n.val := by decide
theorem unq_q (c : UInt8) (r : List UInt8) : unq (qByte c ++ r) = some (c.toNat, r) := by
  unfold qByte
  split
  · rename_i h
    rcases h with h | h <;> simp [unq, h]
  · split
    · rename_i h1 h; simp [unq, h]
    · split
      · have hc : c.toNat < 256 := c.toNat_lt
        have h1 := unh_hex ⟨c.toNat / 16, by omega⟩
        have h2 := unh_hex ⟨c.toNat % 16, by omega⟩
        simp only at h1 h2
        simp [unq, h1, h2]
        omega
      · rename_i h1 h2 h3
        have : ¬ c.toNat = 92 := fun h => h1 (Or.inr h)
        simp [unq, this]
theorem q_head (c : UInt8) (r s : List UInt8) : qByte c ++ r ≠ 34 :: s := by
  intro h
  unfold qByte at h
  split at h
  · simp at h
  · split at h
    · simp at h
    · split at h
      · simp at h
      · rename_i h1 _ _
        simp at h
        exact h1 (Or.inl (by rw [h.1]; rfl))
theorem qAll_inj : ∀ (l m r s : List UInt8), qAll l ++ 34 :: r = qAll m ++ 34 :: s → l = m ∧ r = s
  | [], [], r, s, h => by simpa [qAll] using h
  | [], b :: m, r, s, h => by
    simp only [qAll, List.flatMap_nil, List.nil_append, List.flatMap_cons, List.append_assoc] at h
    exact absurd h.symm (q_head _ _ _)
  | a :: l, [], r, s, h => by
    simp only [qAll, List.flatMap_nil, List.nil_append, List.flatMap_cons, List.append_assoc] at h
    exact absurd h (q_head _ _ _)
  | a :: l, b :: m, r, s, h => by
    simp only [qAll, List.flatMap_cons, List.append_assoc] at h
    have h2 := congrArg unq h
    rw [unq_q, unq_q] at h2
    simp only [Option.some.injEq, Prod.mk.injEq] at h2
    obtain ⟨e1, e2⟩ := h2
    have := qAll_inj l m r s (by simpa [qAll] using e2)
    exact ⟨by rw [UInt8.toNat_inj.mp e1, this.1], this.2⟩
theorem qTxt_inj (l m r s : List UInt8) (h : qTxt l ++ r = qTxt m ++ s) : l = m ∧ r = s := by
  simp only [qTxt, List.cons_append, List.append_assoc, List.nil_append, List.cons.injEq, true_and] at h
  exact qAll_inj l m r s h

/-- A figure. -/
def dig (c : UInt8) : Bool := decide (48 ≤ c.toNat) && decide (c.toNat ≤ 57)
/-- What does not begin with a figure. -/
def NoDig (r : List UInt8) : Prop := ∀ c q, r = c :: q → dig c = false
theorem dig_of (n : Nat) (h : n < 10) : dig (UInt8.ofNat (48 + n)) = true := by
  have : (UInt8.ofNat (48 + n)).toNat = 48 + n := by simp [UInt8.toNat_ofNat']; omega
  simp [dig, this]; omega
theorem dec_dig (u : Nat) : ∀ c ∈ Lib.decDigits u, dig c = true := by
  induction u using Nat.strongRecOn with
  | _ u ih =>
    intro c hc
    rw [Lib.decDigits] at hc
    split at hc
    · rw [List.mem_singleton] at hc; rw [hc]; exact dig_of _ (by omega)
    · rw [List.mem_append] at hc
      rcases hc with hc | hc
      · exact ih (u / 10) (by omega) c hc
      · rw [List.mem_singleton] at hc; rw [hc]; exact dig_of _ (by omega)
def valL (l : List UInt8) : Nat := l.foldl (fun a c => a * 10 + (c.toNat - 48)) 0
theorem val_dec (u : Nat) : valL (Lib.decDigits u) = u := by
  induction u using Nat.strongRecOn with
  | _ u ih =>
    rw [Lib.decDigits]
    split
    · have : (UInt8.ofNat (48 + u)).toNat = 48 + u := by simp [UInt8.toNat_ofNat']; omega
      simp only [valL, List.foldl_cons, List.foldl_nil, this]; omega
    · have h1 := ih (u / 10) (by omega)
      have : (UInt8.ofNat (48 + u % 10)).toNat = 48 + u % 10 := by simp [UInt8.toNat_ofNat']; omega
      unfold valL at h1 ⊢
      rw [List.foldl_append, h1]
      simp only [List.foldl_cons, List.foldl_nil, this]; omega
theorem span_dig : ∀ (l m r s : List UInt8), (∀ c ∈ l, dig c = true) → (∀ c ∈ m, dig c = true) → NoDig r → NoDig s → l ++ r = m ++ s → l = m ∧ r = s
  | [], [], r, s, _, _, _, _, h => ⟨rfl, by simpa using h⟩
  | [], b :: m, r, s, _, hm, hr, _, h => by
    have h1 := hr b (m ++ s) (by simpa using h)
    have h2 := hm b (by simp)
    rw [h1] at h2; exact absurd h2 (by decide)
  | a :: l, [], r, s, hl, _, _, hs, h => by
    have h1 := hs a (l ++ r) (by simpa using h.symm)
    have h2 := hl a (by simp)
    rw [h1] at h2; exact absurd h2 (by decide)
  | a :: l, b :: m, r, s, hl, hm, hr, hs, h => by
    simp only [List.cons_append, List.cons.injEq] at h
    have := span_dig l m r s (fun c hc => hl c (by simp [hc])) (fun c hc => hm c (by simp [hc])) hr hs h.2
    exact ⟨by rw [h.1, this.1], this.2⟩
theorem dec_inj (u v : Nat) (r s : List UInt8) (hr : NoDig r) (hs : NoDig s) (h : Lib.decDigits u ++ r = Lib.decDigits v ++ s) : u = v ∧ r = s := by
  have := span_dig _ _ r s (dec_dig u) (dec_dig v) hr hs h
  refine ⟨?_, this.2⟩
  rw [← val_dec u, ← val_dec v, this.1]
theorem dec_ne (u : Nat) (r s : List UInt8) : Lib.decDigits u ++ r ≠ 45 :: s := by
  intro h
  have hd := dec_dig u
  cases hx : Lib.decDigits u with
  | nil =>
    have := val_dec u
    rw [Lib.decDigits] at hx
    split at hx
    · simp at hx
    · simp at hx
  | cons c q =>
    rw [hx] at h hd
    simp only [List.cons_append, List.cons.injEq] at h
    have := hd c (by simp)
    rw [h.1] at this
    exact absurd this (by decide)
theorem itoa_inj (m n : Int) (r s : List UInt8) (hr : NoDig r) (hs : NoDig s) (h : Lib.itoa m ++ r = Lib.itoa n ++ s) : m = n ∧ r = s := by
  unfold Lib.itoa at h
  split at h <;> split at h
  · simp only [List.cons_append, List.cons.injEq, true_and] at h
    have := dec_inj _ _ r s hr hs h
    exact ⟨by omega, this.2⟩
  · exact absurd h.symm (dec_ne _ _ _)
  · exact absurd h (dec_ne _ _ _)
  · have := dec_inj _ _ r s hr hs h
    exact ⟨by omega, this.2⟩

end Go.Proofs.YtegnalfkdponhaaDoor
