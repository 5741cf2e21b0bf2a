
/-
  DERIVED. A VALUE THAT OWNS ITS MEMORY: each list within it a block of its own. No walk.
-/
import Derived.Test.YtdaohfeajicamaaRepV
namespace Go.Proofs.Ytdaohfeajicamaa
open Go.RowKit
set_option linter.unusedVariables false
set_option linter.unusedSimpArgs false

/-- A slice that begins with its block. -/
def At (v : Value) (b : Nat) : Prop := ∃ n c, v = .slice (some ⟨b, 0, none⟩) n c

theorem At.mk (b n c : Nat) : At (.slice (some ⟨b, 0, none⟩) n c) b := ⟨n, c, rfl⟩
theorem At.eq {a b n c : Nat} (h : At (.slice (some ⟨a, 0, none⟩) n c) b) : b = a := by
  obtain ⟨n', c', h⟩ := h
  simp only [Value.slice.injEq, Option.some.injEq, Addr.mk.injEq] at h
  exact h.1.1.symm
theorem At.none {b n c : Nat} (h : At (.slice none n c) b) : False := by
  obtain ⟨n', c', h⟩ := h
  simp at h

theorem Owns.same {w w' : World} {b : Nat} {c : Array Value} {e : TypeId} (h : Owns w b c e) (hb : w'.heap[b]? = w.heap[b]?) : Owns w' b c e := by
  unfold Owns at h ⊢; rw [hb]; exact h

/-- A row in a block of its own; what is within each thing lies in an interval of its own, one behind the other, all of them from q0 up to q1, the block outside. -/
def OwnRow (w : World) (e : TypeId) (n wide : Nat) {α : Type} (R : Nat → Nat → α → List Value → Prop) (q0 q1 : Nat) (l : List α) (v : Value) : Prop :=
  (l = [] ∧ v = .slice none 0 0) ∨
  ∃ (b : Nat) (c : Array Value) (p : Nat → Nat), v = .slice (some ⟨b, 0, none⟩) l.length l.length ∧ l.length * wide ≤ 140737488351232 ∧ Owns w b c e ∧ c.size = l.length * n ∧ (b < q0 ∨ q1 ≤ b) ∧
    q0 ≤ p 0 ∧ p l.length ≤ q1 ∧ (∀ m, m < l.length → p m ≤ p (m + 1)) ∧ ∀ (m : Nat) (h : m < l.length), ∃ cs, cs.length = n ∧ (∀ q, q < n → c[m * n + q]? = cs[q]?) ∧ R (p m) (p (m + 1)) l[m] cs

theorem chain_le {p : Nat → Nat} {n : Nat} (h : ∀ m, m < n → p m ≤ p (m + 1)) : ∀ {a b : Nat}, a ≤ b → b ≤ n → p a ≤ p b := by
  intro a b hab
  induction hab with
  | refl => exact fun _ => Nat.le_refl _
  | step _ ih => exact fun hb => Nat.le_trans (ih (by omega)) (h _ (by omega))

theorem OwnRow.len {w : World} {e : TypeId} {n wide : Nat} {α : Type} {R : Nat → Nat → α → List Value → Prop} {q0 q1 : Nat} {l : List α} {v : Value} (h : OwnRow w e n wide R q0 q1 l v) :
    ∃ a, v = .slice a l.length l.length ∧ l.length * wide ≤ 140737488351232 := by
  rcases h with ⟨rfl, rfl⟩ | ⟨b, c, p, rfl, h1, _⟩
  · exact ⟨none, rfl, by simp⟩
  · exact ⟨_, rfl, h1⟩

/-- It stays while its blocks stay. -/
theorem OwnRow.same {w w' : World} {e : TypeId} {n wide : Nat} {α : Type} {R R' : Nat → Nat → α → List Value → Prop} {q0 q1 : Nat} {l : List α} {v : Value} (h : OwnRow w e n wide R q0 q1 l v)
    (hb : ∀ b, At v b → w'.heap[b]? = w.heap[b]?) (hR : ∀ a b x cs, q0 ≤ a → b ≤ q1 → R a b x cs → R' a b x cs) : OwnRow w' e n wide R' q0 q1 l v := by
  rcases h with h | ⟨b, c, p, rfl, h1, h2, h3, h4, h5, h6, h7, h8⟩
  · exact Or.inl h
  · refine Or.inr ⟨b, c, p, rfl, h1, h2.same (hb b (At.mk _ _ _)), h3, h4, h5, h6, h7, fun m hm => ?_⟩
    obtain ⟨cs, a1, a2, a3⟩ := h8 m hm
    exact ⟨cs, a1, a2, hR _ _ _ _ (Nat.le_trans h5 (chain_le h7 (Nat.zero_le _) (by omega))) (Nat.le_trans (chain_le h7 (by omega) (Nat.le_refl _)) h6) a3⟩

/-- It reads as a row. -/
theorem OwnRow.row {w : World} {e : TypeId} {n wide base : Nat} {α : Type} {R : Nat → Nat → α → List Value → Prop} {R' : α → List Value → Prop} {q0 q1 : Nat} {l : List α} {v : Value} (h : OwnRow w e n wide R q0 q1 l v)
    (hw : 1 ≤ wide) (hb : ∀ b, At v b → base ≤ b) (hR : ∀ a b x cs, q0 ≤ a → b ≤ q1 → R a b x cs → R' x cs) : Row w base n wide R' l v := by
  rcases h with h | ⟨b, c, p, rfl, h1, h2, h3, h4, h5, h6, h7, h8⟩
  · obtain ⟨rfl, rfl⟩ := h
    exact Or.inl ⟨rfl, rfl⟩
  · have hl : l.length ≤ maxLen := by unfold maxLen; have := Nat.le_mul_of_pos_right l.length hw; omega
    refine Or.inr ⟨⟨b, 0, none⟩, l.length, rfl, Nat.le_refl _, hl, h1, fun m hm => ⟨hb b (At.mk _ _ _), rfl, ?_⟩⟩
    obtain ⟨cs, a1, a2, a3⟩ := h8 m hm
    refine ⟨cs, a1, fun q hq => ?_, hR _ _ _ _ (Nat.le_trans h5 (chain_le h7 (Nat.zero_le _) (by omega))) (Nat.le_trans (chain_le h7 (by omega) (Nat.le_refl _)) h6) a3⟩
    show w.cell? ⟨b, 0 + m * n + q, none⟩ = _
    rw [h2.cell, Nat.zero_add, a2 q (by omega)]

/-- One thing of it is another one, in its interval; all others stay. -/
theorem OwnRow.set {w w' : World} {e : TypeId} {n wide : Nat} {α : Type} {R R' : Nat → Nat → α → List Value → Prop} {q0 q1 b : Nat} {l : List α} {c c' : Array Value} {p : Nat → Nat} {i : Nat} {x : α} {cs' : List Value}
    (hi : i < l.length) (h1 : l.length * wide ≤ 140737488351232) (h2 : Owns w' b c' e) (h3 : c'.size = l.length * n) (h4 : b < q0 ∨ q1 ≤ b) (h5 : q0 ≤ p 0) (h6 : p l.length ≤ q1) (h7 : ∀ m, m < l.length → p m ≤ p (m + 1))
    (h8 : ∀ (m : Nat) (h : m < l.length), m ≠ i → ∃ cs, cs.length = n ∧ (∀ q, q < n → c'[m * n + q]? = cs[q]?) ∧ R' (p m) (p (m + 1)) l[m] cs)
    (h9 : cs'.length = n ∧ (∀ q, q < n → c'[i * n + q]? = cs'[q]?) ∧ R' (p i) (p (i + 1)) x cs') :
    OwnRow w' e n wide R' q0 q1 (l.set i x) (.slice (some ⟨b, 0, none⟩) l.length l.length) := by
  refine Or.inr ⟨b, c', p, by rw [List.length_set], by rw [List.length_set]; exact h1, h2, by rw [List.length_set]; exact h3, h4, h5, by rw [List.length_set]; exact h6, by rw [List.length_set]; exact h7, fun m hm => ?_⟩
  rw [List.length_set] at hm
  by_cases hmi : m = i
  · subst hmi
    exact ⟨cs', h9.1, h9.2.1, by rw [List.getElem_set_self]; exact h9.2.2⟩
  · obtain ⟨cs, a1, a2, a3⟩ := h8 m hm hmi
    exact ⟨cs, a1, a2, by rw [List.getElem_set_ne (by omega)]; exact a3⟩

/-- A text in one cell, whatever the interval. -/
def StrO (_ _ : Nat) (s : ByteArray) (cs : List Value) : Prop := StrR s cs

/-- A value, at most k deep, in five cells, all its blocks from lo up to hi. -/
def VlO (w : World) : Nat → Nat → Nat → Vl → List Value → Prop
  | 0, _, _, _, _ => False
  | k + 1, lo, hi, t, cs => ∃ vl vn q0 q1, cs = [.int .i64 t.kind, .int .i64 t.num, .string t.text, vl, vn] ∧ I64 t.kind ∧ I64 t.num ∧ t.text.size ≤ 140737488351232 ∧ lo ≤ q0 ∧ q1 ≤ hi ∧
      OwnRow w 29 5 80 (VlO w k) q0 q1 t.list vl ∧ OwnRow w 9 1 16 StrO 0 0 t.names vn ∧ (∀ b, At vl b → lo ≤ b ∧ b < hi) ∧ (∀ b, At vn b → lo ≤ b ∧ b < hi ∧ (b < q0 ∨ q1 ≤ b) ∧ ¬ At vl b)

theorem StrO.row_same {w w' : World} {l : List ByteArray} {v : Value} (h : OwnRow w 9 1 16 StrO 0 0 l v) (hb : ∀ b, At v b → w'.heap[b]? = w.heap[b]?) : OwnRow w' 9 1 16 StrO 0 0 l v :=
  h.same hb (fun _ _ _ _ _ _ h => h)
theorem StrO.row {w : World} {base : Nat} {l : List ByteArray} {v : Value} (h : OwnRow w 9 1 16 StrO 0 0 l v) (hb : ∀ b, At v b → base ≤ b) : StrRow w base l v :=
  OwnRow.row h (by omega) hb (fun _ _ _ _ _ _ h => h)

theorem VlO.same {w w' : World} : ∀ (k lo hi : Nat) (t : Vl) (cs : List Value), (∀ b, lo ≤ b → b < hi → w'.heap[b]? = w.heap[b]?) → VlO w k lo hi t cs → VlO w' k lo hi t cs
  | 0, _, _, _, _, _, h => h.elim
  | k + 1, lo, hi, t, cs, hs, ⟨vl, vn, q0, q1, h1, h2, h3, h4, h5, h6, h7, h8, h9, h10⟩ =>
    ⟨vl, vn, q0, q1, h1, h2, h3, h4, h5, h6, h7.same (fun b hb => hs b (h9 b hb).1 (h9 b hb).2) (fun a b x cs ha hb hx => VlO.same k a b x cs (fun b' h1' h2' => hs b' (by omega) (by omega)) hx),
      StrO.row_same h8 (fun b hb => hs b (h10 b hb).1 (h10 b hb).2.1), h9, h10⟩

theorem VlO.wide {w : World} {lo hi lo' hi' : Nat} (hl : lo' ≤ lo) (hh : hi ≤ hi') : ∀ (k : Nat) (t : Vl) (cs : List Value), VlO w k lo hi t cs → VlO w k lo' hi' t cs
  | 0, _, _, h => h.elim
  | k + 1, t, cs, ⟨vl, vn, q0, q1, h1, h2, h3, h4, h5, h6, h7, h8, h9, h10⟩ =>
    ⟨vl, vn, q0, q1, h1, h2, h3, h4, by omega, by omega, h7, h8, fun b hb => by have := h9 b hb; omega, fun b hb => by obtain ⟨a1, a2, a3, a4⟩ := h10 b hb; exact ⟨by omega, by omega, a3, a4⟩⟩

theorem VlO.read {w : World} : ∀ (k lo hi : Nat) (t : Vl) (cs : List Value), VlO w k lo hi t cs → VlR w lo k t cs
  | 0, _, _, _, _, h => h.elim
  | k + 1, lo, hi, t, cs, ⟨vl, vn, q0, q1, h1, h2, h3, h4, h5, h6, h7, h8, h9, h10⟩ =>
    ⟨vl, vn, h1, h2, h3, h4, h7.row (by omega) (fun b hb => (h9 b hb).1) (fun a b x cs ha hb hx => VlR.base (by omega) k _ _ (VlO.read k a b x cs hx)), StrO.row h8 (fun b hb => (h10 b hb).1)⟩

theorem VlO.cells {w : World} {k lo hi : Nat} {t : Vl} {cs : List Value} (h : VlO w k lo hi t cs) :
    ∃ a c a' c', cs = [.int .i64 t.kind, .int .i64 t.num, .string t.text, .slice a t.list.length c, .slice a' t.names.length c'] := (VlO.read k lo hi t cs h).cells

/-! ### Filling -/
/-- A row of the call's own, filled up to place j, what is within lying from q0 up to q1. -/
def FilledO (w : World) (b n : Nat) (e : TypeId) {α : Type} (R : Nat → Nat → α → List Value → Prop) (q0 q1 : Nat) (l : List α) (j : Nat) : Prop :=
  ∃ (c : Array Value) (p : Nat → Nat), Owns w b c e ∧ c.size = l.length * n ∧ q0 ≤ p 0 ∧ p j ≤ q1 ∧ (∀ m, m < j → p m ≤ p (m + 1)) ∧
    ∀ (m : Nat) (h : m < l.length), m < j → ∃ cs, cs.length = n ∧ (∀ q, q < n → c[m * n + q]? = cs[q]?) ∧ R (p m) (p (m + 1)) l[m] cs

theorem FilledO.made {w : World} {b n : Nat} {e : TypeId} {α : Type} {R : Nat → Nat → α → List Value → Prop} {l : List α} {c : Array Value} {q0 q1 : Nat} (hO : Owns w b c e) (hc : c.size = l.length * n) (hq : q0 ≤ q1) : FilledO w b n e R q0 q1 l 0 :=
  ⟨c, fun _ => q0, hO, hc, Nat.le_refl _, hq, fun _ h => absurd h (Nat.not_lt_zero _), fun _ _ h => absurd h (Nat.not_lt_zero _)⟩

theorem FilledO.lt {w : World} {b n : Nat} {e : TypeId} {α : Type} {R : Nat → Nat → α → List Value → Prop} {l : List α} {j q0 q1 : Nat} (h : FilledO w b n e R q0 q1 l j) : b < w.heap.size := by
  obtain ⟨c, p, h1, _⟩ := h
  exact h1.lt

theorem FilledO.same {w w' : World} {b n : Nat} {e : TypeId} {α : Type} {R R' : Nat → Nat → α → List Value → Prop} {l : List α} {j q0 q1 q2 : Nat} (h : FilledO w b n e R q0 q1 l j) (hq : q1 ≤ q2) (hb : w'.heap[b]? = w.heap[b]?)
    (hR : ∀ a b x cs, q0 ≤ a → b ≤ q1 → R a b x cs → R' a b x cs) : FilledO w' b n e R' q0 q2 l j := by
  obtain ⟨c, p, h1, h2, h3, h4, h5, h6⟩ := h
  refine ⟨c, p, h1.same hb, h2, h3, by omega, h5, fun m hm hj => ?_⟩
  obtain ⟨cs, a1, a2, a3⟩ := h6 m hm hj
  exact ⟨cs, a1, a2, hR _ _ _ _ (Nat.le_trans h3 (chain_le h5 (Nat.zero_le _) (by omega))) (Nat.le_trans (chain_le h5 (by omega) (Nat.le_refl _)) h4) a3⟩

theorem FilledO.slot {w : World} {b n : Nat} {e : TypeId} {α : Type} {R : Nat → Nat → α → List Value → Prop} {l : List α} {j q0 q1 : Nat} (h : FilledO w b n e R q0 q1 l j) {i q : Nat} (hi : i < l.length) (hq : q < n) :
    (∃ x, w.cell? ⟨b, i * n + q, none⟩ = some x) ∧ w.frozen? ⟨b, i * n + q, none⟩ = false := by
  obtain ⟨c, p, h1, h2, _⟩ := h
  refine ⟨?_, h1.frozen _⟩
  have hx : i * n + n ≤ l.length * n := by rw [← Nat.succ_mul]; exact Nat.mul_le_mul_right _ hi
  exact ⟨c[i * n + q]'(by omega), by rw [h1.cell]; exact Array.getElem?_eq_getElem _⟩

/-- One more is put, what is within it lying from q1 up to q2. -/
theorem FilledO.put {w : World} {b n : Nat} {e : TypeId} {α : Type} {R R' : Nat → Nat → α → List Value → Prop} {l : List α} {j q0 q1 q2 : Nat} (h : FilledO w b n e R q0 q1 l j) (hj : j < l.length) (hq : q1 ≤ q2) (cs : List Value) (hcs : cs.length = n)
    (hR : ∀ a b x cs, q0 ≤ a → b ≤ q1 → R a b x cs → R' a b x cs) (hnew : ∀ a, q0 ≤ a → a ≤ q1 → R' a q2 l[j] cs) : FilledO (w.setCells b (j * n) cs) b n e R' q0 q2 l (j + 1) := by
  obtain ⟨c, p, h1, h2, h3, h4, h5, h6⟩ := h
  have hfit : j * n + cs.length ≤ c.size := by
    rw [h2, hcs, ← Nat.succ_mul]; exact Nat.mul_le_mul_right _ hj
  have hp : ∀ m, m ≤ j → q0 ≤ p m ∧ p m ≤ q1 := fun m hm => ⟨Nat.le_trans h3 (chain_le h5 (Nat.zero_le _) hm), Nat.le_trans (chain_le h5 hm (Nat.le_refl _)) h4⟩
  refine ⟨putAt c (j * n) cs, fun m => if m ≤ j then p m else q2, h1.setCells cs _, by rw [putAt_size, h2], (by dsimp only; rw [if_pos (Nat.zero_le _)]; exact h3), (by dsimp only; rw [if_neg (by omega)]; exact Nat.le_refl _), fun m hm => ?_, fun m hm hmj => ?_⟩
  · dsimp only
    rw [if_pos (by omega)]
    by_cases hmj : m + 1 ≤ j
    · rw [if_pos hmj]; exact h5 m (by omega)
    · rw [if_neg hmj]; exact Nat.le_trans (hp m (by omega)).2 hq
  · rcases Nat.lt_succ_iff_lt_or_eq.1 hmj with hlt | rfl
    · obtain ⟨cs', a1, a2, a3⟩ := h6 m hm hlt
      refine ⟨cs', a1, fun q hq => ?_, ?_⟩
      · have hx : m * n + n ≤ j * n := by rw [← Nat.succ_mul]; exact Nat.mul_le_mul_right _ hlt
        rw [putAt_out cs _ _ _ (Or.inl (by omega)), a2 q hq]
      · dsimp only
        rw [if_pos (by omega), if_pos (by omega)]
        exact hR _ _ _ _ (hp m (by omega)).1 (hp (m + 1) (by omega)).2 a3
    · refine ⟨cs, hcs, fun q hq => putAt_in cs _ _ q (by omega) hfit, ?_⟩
      dsimp only
      rw [if_pos (Nat.le_refl _), if_neg (by omega)]
      exact hnew _ (hp m (Nat.le_refl _)).1 (hp m (Nat.le_refl _)).2

theorem FilledO.row {w : World} {b n wide : Nat} {e : TypeId} {α : Type} {R : Nat → Nat → α → List Value → Prop} {l : List α} {q0 q1 : Nat} (h : FilledO w b n e R q0 q1 l l.length) (hb : b < q0 ∨ q1 ≤ b) (hw : l.length * wide ≤ 140737488351232) :
    OwnRow w e n wide R q0 q1 l (.slice (some ⟨b, 0, none⟩) l.length l.length) := by
  obtain ⟨c, p, h1, h2, h3, h4, h5, h6⟩ := h
  exact Or.inr ⟨b, c, p, rfl, hw, h1, h2, hb, h3, h4, h5, fun m hm => h6 m hm hm⟩

/-! ### What may turn -/
/-- Of the blocks that were there only those of P have turned. -/
structure TurnsP (P : Nat → Prop) (w w' : World) : Prop where
  os : w'.os = w.os
  tape : w'.tape = w.tape
  output : w'.output = w.output
  size : w.heap.size ≤ w'.heap.size
  block : ∀ k, k < w.heap.size → ¬ P k → w'.heap[k]? = w.heap[k]?

theorem TurnsP.refl (P : Nat → Prop) (w : World) : TurnsP P w w := ⟨rfl, rfl, rfl, Nat.le_refl _, fun _ _ _ => rfl⟩
theorem TurnsP.trans {P : Nat → Prop} {a b c : World} (h : TurnsP P a b) (k : TurnsP P b c) : TurnsP P a c :=
  ⟨k.os.trans h.os, k.tape.trans h.tape, k.output.trans h.output, Nat.le_trans h.size k.size, fun i h1 h2 => (k.block i (Nat.lt_of_lt_of_le h1 h.size) h2).trans (h.block i h1 h2)⟩
theorem TurnsP.mono {P P' : Nat → Prop} {w w' : World} (h : TurnsP P w w') (hs : ∀ b, P b → P' b) : TurnsP P' w w' :=
  ⟨h.os, h.tape, h.output, h.size, fun k h1 h2 => h.block k h1 (fun hb => h2 (hs k hb))⟩
theorem TurnsP.of_below {B : Nat} {P : Nat → Prop} {w w' : World} (h : Below B w w') (hB : w.heap.size ≤ B) : TurnsP P w w' :=
  ⟨h.os, h.tape, h.output, h.size, fun k h1 _ => h.block k (Nat.lt_of_lt_of_le h1 hB)⟩
theorem TurnsP.setCell {P : Nat → Prop} {a w : World} (h : TurnsP P a w) {b o : Nat} (hb : P b) (u : Value) : TurnsP P a (w.setCell ⟨b, o, none⟩ u) :=
  h.trans ⟨rfl, rfl, rfl, by simp [World.setCell], fun k h1 h2 => Below.heap_setCell _ _ _ _ (fun he => h2 (by rw [he]; exact hb))⟩
/-- Where none of P was there when it began: nothing that was there has turned. -/
theorem TurnsP.below {B : Nat} {P : Nat → Prop} {a w w' : World} (h : TurnsP P w w') (hb : Below B a w) (hP : ∀ b, P b → B ≤ b) (hB : B ≤ w.heap.size) : Below B a w' :=
  hb.trans ⟨h.os, h.tape, h.output, h.size, fun k hk => h.block k (by omega) (fun hx => by have := hP k hx; omega)⟩

end Go.Proofs.Ytdaohfeajicamaa
