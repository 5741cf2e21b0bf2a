
/-
  DERIVED. THE STATES OF THE WALK THAT impl.ValueDeep GOES, and its steps. No walk.
-/
import Derived.Test.YtedeeckbgjalcaaDeepF
namespace Go.Proofs.Ytedeeckbgjalcaa
open Go.RowKit
set_option linter.unusedVariables false
set_option linter.unusedSimpArgs false

/-- A list of the path: up to where it is walked through, how deep the deepest was. -/
structure Fr where
  l : List Vl
  v : Value
  pos : Nat
  deep : Nat

def frCells (f : Fr) : List Value := [f.v, .int .i64 (f.pos : Int), .int .i64 (f.deep : Int)]

/-- Each is within the one below it. -/
def Chain (dep : Vl → Nat) : Fr → List Fr → Prop
  | _, [] => True
  | f, g :: r => (∃ (h : g.pos - 1 < g.l.length), 1 ≤ g.pos ∧ f.l = g.l[g.pos - 1].list) ∧ g.deep = maxL dep (g.l.take (g.pos - 1)) ∧ Chain dep g r
def bot : Fr → List Fr → Fr
  | f, [] => f
  | _, g :: r => bot g r

theorem Chain.less {dep : Vl → Nat} (hd : IsDep dep) {f g : Fr} {r : List Fr} (h : Chain dep f (g :: r)) : maxL dep f.l + 1 ≤ maxL dep g.l := by
  obtain ⟨⟨h1, _, h2⟩, _⟩ := h
  have h3 := maxL_mem (d := dep) (List.getElem_mem h1)
  rw [hd, ← h2] at h3
  exact h3
theorem Chain.mem {dep : Vl → Nat} (hd : IsDep dep) : ∀ {r : List Fr} {f : Fr}, Chain dep f r → ∀ h ∈ f :: r, maxL dep f.l ≤ maxL dep h.l
  | [], f, _, h, hm => by simp at hm; rw [hm]; exact Nat.le_refl _
  | g :: r, f, hc, h, hm => by
    rcases List.mem_cons.1 hm with rfl | hm
    · exact Nat.le_refl _
    · have h1 := hc.less hd
      have h2 := Chain.mem hd hc.2.2 h hm
      omega
theorem Chain.count {dep : Vl → Nat} (hd : IsDep dep) : ∀ {r : List Fr} {f : Fr}, Chain dep f r → maxL dep f.l + r.length ≤ maxL dep (bot f r).l
  | [], f, _ => by simp [bot]
  | g :: r, f, hc => by
    have h1 := hc.less hd
    have h2 := Chain.count hd hc.2.2
    simp only [bot, List.length_cons]
    omega

structure St (dep : Vl → Nat) (t : Vl) (W : World) (B : Nat) (f : Fr) (r : List Fr) (km : List (Addr × Nat × Int)) : Prop where
  pos : f.pos ≤ f.l.length
  deep : f.deep = maxL dep (f.l.take f.pos)
  chain : Chain dep f r
  bot : (bot f r).l = [t]
  frames : ∀ h, h ∈ f :: r → h.l ≠ [] ∧ ∃ k, PIn W B k h.l h.v
  plain : ∀ e ∈ km, e.1.block < B ∧ Plain W e.1
  known : ∀ a n, knownK km a n ≠ 0 → (∃ c k l, PIn W B k l (.slice (some a) n c) ∧ l ≠ [] ∧ knownK km a n = (maxL dep l : Int)) ∨ (knownK km a n = -1 ∧ ∃ h ∈ (f :: r).dropLast, ∃ c, h.v = .slice (some a) n c)

theorem St.keep {dep : Vl → Nat} {t : Vl} {W W' : World} {B : Nat} {f : Fr} {r : List Fr} {km : List (Addr × Nat × Int)} (h : St dep t W B f r km) (hb : Below B W W') : St dep t W' B f r km := by
  refine ⟨h.pos, h.deep, h.chain, h.bot, fun x hx => ?_, fun e he => ⟨(h.plain e he).1, (h.plain e he).2.below hb (h.plain e he).1⟩, fun a n hk => ?_⟩
  · obtain ⟨h1, k, h2⟩ := h.frames x hx
    exact ⟨h1, k, PIn.keep hb k _ _ h2⟩
  · rcases h.known a n hk with ⟨c, k, l, h1, h2, h3⟩ | h1
    · exact Or.inl ⟨c, k, l, PIn.keep hb k _ _ h1, h2, h3⟩
    · exact Or.inr h1

/-- The top is another one of the same list. -/
theorem St.top {dep : Vl → Nat} {t : Vl} {W : World} {B : Nat} {f f' : Fr} {r : List Fr} {km : List (Addr × Nat × Int)} (h : St dep t W B f r km) (hl : f'.l = f.l) (hv : f'.v = f.v) (hp : f'.pos ≤ f'.l.length) (hd : f'.deep = maxL dep (f'.l.take f'.pos)) : St dep t W B f' r km := by
  refine ⟨hp, hd, ?_, ?_, fun x hx => ?_, h.plain, fun a n hk => ?_⟩
  · cases r with
    | nil => trivial
    | cons g r =>
      obtain ⟨⟨h1, h2, h3⟩, h4⟩ := h.chain
      exact ⟨⟨h1, h2, hl.trans h3⟩, h4⟩
  · cases r with
    | nil => exact hl.trans h.bot
    | cons g r => exact h.bot
  · rcases List.mem_cons.1 hx with rfl | hx
    · rw [hl, hv]; exact h.frames f List.mem_cons_self
    · exact h.frames x (List.mem_cons_of_mem _ hx)
  · rcases h.known a n hk with h1 | ⟨h1, x, hx, c, hc⟩
    · exact Or.inl h1
    · refine Or.inr ⟨h1, ?_⟩
      cases r with
      | nil => simp at hx
      | cons g r =>
        rw [List.dropLast_cons_cons] at hx ⊢
        rcases List.mem_cons.1 hx with rfl | hx
        · exact ⟨f', List.mem_cons_self, c, by rw [hv]; exact hc⟩
        · exact ⟨x, List.mem_cons_of_mem _ hx, c, hc⟩

/-- A list that is to be entered is not on the path; if it is known it is as deep as is known. -/
theorem St.within {dep : Vl → Nat} (hd : IsDep dep) {t : Vl} {W : World} {B : Nat} {f : Fr} {r : List Fr} {km : List (Addr × Nat × Int)} (h : St dep t W B f r km) (hp : f.pos < f.l.length) {k c : Nat} {a : Addr} (hw : PIn W B k f.l[f.pos].list (.slice (some a) f.l[f.pos].list.length c)) (hne : f.l[f.pos].list ≠ [])
    (hk : knownK km a f.l[f.pos].list.length ≠ 0) : knownK km a f.l[f.pos].list.length = (maxL dep f.l[f.pos].list : Int) := by
  rcases h.known a _ hk with ⟨c', k', l, h1, h2, h3⟩ | ⟨h1, x, hx, c', hc⟩
  · rw [h3, PIn.dep hd _ _ _ _ _ _ _ _ h1 hw]
  · exfalso
    have hx' : x ∈ f :: r := (List.dropLast_sublist _).mem hx
    obtain ⟨_, k', h4⟩ := h.frames x hx'
    rw [hc] at h4
    have h5 := PIn.dep hd _ _ _ _ _ _ _ _ h4 hw
    have h6 := h.chain.mem hd x hx'
    have h7 := maxL_mem (d := dep) (List.getElem_mem hp)
    rw [hd] at h7
    omega

/-- What is within the next of the top has been found. -/
theorem St.found {dep : Vl → Nat} (hd : IsDep dep) {t : Vl} {W : World} {B : Nat} {f : Fr} {r : List Fr} {km : List (Addr × Nat × Int)} (h : St dep t W B f r km) (hp : f.pos < f.l.length) : St dep t W B ⟨f.l, f.v, f.pos + 1, max f.deep (maxL dep f.l[f.pos].list + 1)⟩ r km := by
  refine h.top rfl rfl hp ?_
  show max f.deep _ = maxL dep (f.l.take (f.pos + 1))
  rw [maxL_snoc dep hp, ← h.deep, hd f.l[f.pos]]

/-- It is entered. -/
theorem St.push {dep : Vl → Nat} {t : Vl} {W : World} {B : Nat} {f : Fr} {r : List Fr} {km : List (Addr × Nat × Int)} (h : St dep t W B f r km) (hp : f.pos < f.l.length) {k c : Nat} {a : Addr} (hw : PIn W B k f.l[f.pos].list (.slice (some a) f.l[f.pos].list.length c)) (hne : f.l[f.pos].list ≠ []) (hab : a.block < B) (ha : Plain W a) :
    St dep t W B ⟨f.l[f.pos].list, .slice (some a) f.l[f.pos].list.length c, 0, 0⟩ (⟨f.l, f.v, f.pos + 1, f.deep⟩ :: r) (updK km a f.l[f.pos].list.length (-1)) := by
  refine ⟨Nat.zero_le _, by simp [maxL], ⟨⟨by show f.pos + 1 - 1 < f.l.length; omega, by show 1 ≤ f.pos + 1; omega, rfl⟩, h.deep, ?_⟩, ?_, fun x hx => ?_, updK_mem (P := fun a => a.block < B ∧ Plain W a) ⟨hab, ha⟩ h.plain, fun b n hk => ?_⟩
  · cases r with
    | nil => trivial
    | cons g r => exact h.chain
  · cases r with
    | nil => exact h.bot
    | cons g r => exact h.bot
  · rcases List.mem_cons.1 hx with rfl | hx
    · exact ⟨hne, k, hw⟩
    · rcases List.mem_cons.1 hx with rfl | hx
      · exact h.frames f List.mem_cons_self
      · exact h.frames x (List.mem_cons_of_mem _ hx)
  · rw [knownK_upd] at hk ⊢
    rw [List.dropLast_cons_cons]
    by_cases he : b = a ∧ n = f.l[f.pos].list.length
    · rw [if_pos he]
      refine Or.inr ⟨rfl, _, List.mem_cons_self, c, ?_⟩
      rw [he.1, he.2]
    · rw [if_neg he] at hk ⊢
      rcases h.known b n hk with h1 | ⟨h1, x, hx, c', hc⟩
      · exact Or.inl h1
      · refine Or.inr ⟨h1, ?_⟩
        cases r with
        | nil => simp at hx
        | cons g r =>
          rw [List.dropLast_cons_cons] at hx ⊢
          rcases List.mem_cons.1 hx with rfl | hx
          · exact ⟨_, List.mem_cons_of_mem _ List.mem_cons_self, c', hc⟩
          · exact ⟨x, List.mem_cons_of_mem _ (List.mem_cons_of_mem _ hx), c', hc⟩

/-- The top has been walked through, and is left. -/
theorem St.pop {dep : Vl → Nat} (hd : IsDep dep) {t : Vl} {W : World} {B : Nat} {f g : Fr} {r : List Fr} {km : List (Addr × Nat × Int)} (h : St dep t W B f (g :: r) km) (hp : f.pos = f.l.length) {c : Nat} {a : Addr} (hv : f.v = .slice (some a) f.l.length c) (hab : a.block < B) (ha : Plain W a) :
    St dep t W B ⟨g.l, g.v, g.pos, max g.deep (f.deep + 1)⟩ r (updK km a f.l.length (f.deep : Int)) := by
  obtain ⟨⟨h1, h2, h3⟩, h4, h5⟩ := h.chain
  have hfd : f.deep = maxL dep f.l := by rw [h.deep, hp, List.take_length]
  refine ⟨by show g.pos ≤ g.l.length; omega, ?_, ?_, ?_, fun x hx => ?_, updK_mem (P := fun a => a.block < B ∧ Plain W a) ⟨hab, ha⟩ h.plain, fun b n hk => ?_⟩
  · show max g.deep (f.deep + 1) = maxL dep (g.l.take g.pos)
    have h6 : g.pos = g.pos - 1 + 1 := by omega
    rw [h6, maxL_snoc dep h1, ← h4, hd, ← h3, hfd]
  · cases r with
    | nil => trivial
    | cons g' r => exact h5
  · cases r with
    | nil => exact h.bot
    | cons g' r => exact h.bot
  · rcases List.mem_cons.1 hx with rfl | hx
    · exact h.frames g (List.mem_cons_of_mem _ List.mem_cons_self)
    · exact h.frames x (List.mem_cons_of_mem _ (List.mem_cons_of_mem _ hx))
  · rw [knownK_upd] at hk ⊢
    by_cases he : b = a ∧ n = f.l.length
    · rw [if_pos he]
      obtain ⟨hne, k, hP⟩ := h.frames f List.mem_cons_self
      rw [hv] at hP
      exact Or.inl ⟨c, k, f.l, by rw [he.1, he.2]; exact hP, hne, by rw [hfd]⟩
    · rw [if_neg he] at hk ⊢
      rcases h.known b n hk with h6 | ⟨h6, x, hx, c', hc⟩
      · exact Or.inl h6
      · refine Or.inr ⟨h6, ?_⟩
        rw [List.dropLast_cons_cons] at hx
        rcases List.mem_cons.1 hx with rfl | hx
        · exfalso
          rw [hv] at hc
          simp only [Value.slice.injEq, Option.some.injEq] at hc
          exact he ⟨hc.1.symm, hc.2.1.symm⟩
        · cases r with
          | nil => simp at hx
          | cons g' r =>
            rw [List.dropLast_cons_cons] at hx ⊢
            rcases List.mem_cons.1 hx with rfl | hx
            · exact ⟨_, List.mem_cons_self, c', hc⟩
            · exact ⟨x, List.mem_cons_of_mem _ hx, c', hc⟩

end Go.Proofs.Ytedeeckbgjalcaa
