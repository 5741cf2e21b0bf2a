
/-
  DERIVED. HOW DEEP A VALUE IS; that memory reads as one value alone. No walk.
-/
import Derived.Test.YtdaohfeajicamaaRepV
namespace Go.Proofs.Ytdaohfeajicamaa
open Go.RowKit
set_option linter.unusedVariables false
set_option linter.unusedSimpArgs false

/-- The greatest of a list. -/
def maxL (d : Vl → Nat) : List Vl → Nat
  | [] => 0
  | x :: r => max (d x) (maxL d r)

theorem maxL_append (d : Vl → Nat) (a b : List Vl) : maxL d (a ++ b) = max (maxL d a) (maxL d b) := by
  induction a with
  | nil => simp [maxL]
  | cons x r ih => simp only [List.cons_append, maxL, ih]; omega
theorem maxL_snoc (d : Vl → Nat) {l : List Vl} {j : Nat} (h : j < l.length) : maxL d (l.take (j + 1)) = max (maxL d (l.take j)) (d l[j]) := by
  rw [List.take_succ_eq_append_getElem h, maxL_append]
  simp [maxL]
theorem maxL_mem {d : Vl → Nat} {l : List Vl} {x : Vl} (h : x ∈ l) : d x ≤ maxL d l := by
  induction l with
  | nil => simp at h
  | cons y r ih =>
    rcases List.mem_cons.1 h with rfl | h
    · simp only [maxL]; omega
    · have := ih h; simp only [maxL]; omega
theorem maxL_take_le (d : Vl → Nat) (l : List Vl) (j : Nat) : maxL d (l.take j) ≤ maxL d l := by
  have h := maxL_append d (l.take j) (l.drop j)
  rw [List.take_append_drop] at h
  omega
theorem maxL_congr {d e : Vl → Nat} {l : List Vl} (h : ∀ x ∈ l, d x = e x) : maxL d l = maxL e l := by
  induction l with
  | nil => rfl
  | cons y r ih => simp only [maxL]; rw [h y List.mem_cons_self, ih (fun x hx => h x (List.mem_cons_of_mem _ hx))]
theorem maxL_le {d : Vl → Nat} {n : Nat} {l : List Vl} (h : ∀ x ∈ l, d x ≤ n) : maxL d l ≤ n := by
  induction l with
  | nil => exact Nat.zero_le _
  | cons x r ih =>
    have h1 := h x List.mem_cons_self
    have h2 := ih (fun y hy => h y (List.mem_cons_of_mem _ hy))
    simp only [maxL]; omega

theorem Vl.lt_list {t x : Vl} (h : x ∈ t.list) : SizeOf.sizeOf x < SizeOf.sizeOf t := by
  cases t with
  | mk a b c l n =>
    have := List.sizeOf_lt_of_mem (show x ∈ l from h)
    simp only [Vl.mk.sizeOf_spec]
    omega

/-- How deep a value is, by a number that is great enough. -/
def depF : Nat → Vl → Nat
  | 0, _ => 0
  | k + 1, t => maxL (depF k) t.list + 1
theorem depF_stable : ∀ (k : Nat) (t : Vl), SizeOf.sizeOf t ≤ k → ∀ m, SizeOf.sizeOf t ≤ m → depF k t = depF m t
  | 0, t, h, _, _ => by cases t; simp at h
  | k + 1, t, h, 0, hm => by cases t; simp at hm
  | k + 1, t, h, m + 1, hm => by
    simp only [depF]
    rw [maxL_congr (fun x hx => by have := Vl.lt_list hx; exact depF_stable k x (by omega) m (by omega))]
/-- It tells of each value how deep it is. -/
def IsDep (dep : Vl → Nat) : Prop := ∀ t, dep t = maxL dep t.list + 1
theorem exists_dep : ∃ dep, IsDep dep := by
  refine ⟨fun t => depF (SizeOf.sizeOf t) t, fun t => ?_⟩
  have h0 : SizeOf.sizeOf t = SizeOf.sizeOf t - 1 + 1 := by cases t; simp; omega
  have h1 : depF (SizeOf.sizeOf t) t = depF (SizeOf.sizeOf t - 1 + 1) t := by rw [← h0]
  show depF (SizeOf.sizeOf t) t = _
  rw [h1]
  simp only [depF]
  rw [maxL_congr (fun x hx => by have := Vl.lt_list hx; exact depF_stable (SizeOf.sizeOf t - 1) x (by omega) (SizeOf.sizeOf x) (Nat.le_refl _))]
theorem dep_lt {dep : Vl → Nat} (hd : IsDep dep) {t x : Vl} (h : x ∈ t.list) : dep x < dep t := by
  rw [hd t]
  have := maxL_mem (d := dep) h
  omega

/-- Two rows of one slice have the same things, if each thing's cells tell it. -/
theorem Row.det {w : World} {base base' n wide wide' : Nat} {α : Type} {R R' : α → List Value → Prop} {l l' : List α} {v : Value} (h : Row w base n wide R l v) (h' : Row w base' n wide' R' l' v)
    (hR : ∀ x y cs, R x cs → R' y cs → x = y) : l = l' := by
  obtain ⟨a, c, hv, _, hr⟩ := Row.len h
  obtain ⟨a', c', hv', _, hr'⟩ := Row.len h'
  rw [hv] at hv'
  simp only [Value.slice.injEq] at hv'
  obtain ⟨ha, hl, _⟩ := hv'
  subst ha
  refine List.ext_getElem hl (fun i h1 h2 => ?_)
  obtain ⟨b, off, ha, _, hc⟩ := hr (List.ne_nil_of_length_pos (by omega))
  obtain ⟨b', off', ha', _, hc'⟩ := hr' (List.ne_nil_of_length_pos (by omega))
  rw [ha] at ha'
  simp only [Option.some.injEq, Addr.mk.injEq, and_true] at ha'
  obtain ⟨rfl, rfl⟩ := ha'
  obtain ⟨cs, b1, b2, b3⟩ := hc i h1
  obtain ⟨cs', d1, d2, d3⟩ := hc' i h2
  have he : cs = cs' := by
    refine List.ext_getElem? (fun q => ?_)
    by_cases hq : q < n
    · rw [← b2 q (by omega), ← d2 q (by omega)]
    · rw [List.getElem?_eq_none (by omega), List.getElem?_eq_none (by omega)]
  subst he
  exact hR _ _ _ b3 d3

theorem VlR.det : ∀ (k k' : Nat) (w : World) (base base' : Nat) (t t' : Vl) (cs : List Value), VlR w base k t cs → VlR w base' k' t' cs → t = t'
  | 0, _, _, _, _, _, _, _, h, _ => h.elim
  | k + 1, 0, _, _, _, _, _, _, _, h => h.elim
  | k + 1, k' + 1, w, base, base', t, t', cs, ⟨vl, vn, h1, h2, h3, h4, h5, h6⟩, ⟨vl', vn', g1, g2, g3, g4, g5, g6⟩ => by
    rw [h1] at g1
    simp only [List.cons.injEq, Value.int.injEq, Value.string.injEq, true_and, and_true] at g1
    obtain ⟨e1, e2, e3, rfl, rfl⟩ := g1
    have e4 := Row.det h5 g5 (fun x y cs hx hy => VlR.det k k' w base base' x y cs hx hy)
    have e5 := Row.det h6 g6 (fun x y cs hx hy => by
      have := hx.1.symm.trans hy.1
      simpa using this)
    cases t; cases t'
    simp_all

end Go.Proofs.Ytdaohfeajicamaa
