
/-
  DERIVED. TWO VALUES HELD AGAINST EACH OTHER, LIST BY LIST: how lists lie in memory by places; what is known of pairs of lists. No walk.
-/
import Derived.Test.YtegnalfkdponhaaDoorSmKey
import Derived.Test.YtegnalfkdponhaaDoorVSz
namespace Go.Proofs.YtegnalfkdponhaaDoor
open Go.RowKit
set_option linter.unusedVariables false
set_option linter.unusedSimpArgs false

/-- Values, at most k deep, in a list that lies at a place. -/
def PL (w : World) : Nat → List Vl → Value → Prop
  | 0, l, v => l = [] ∧ ∃ a c, v = .slice a 0 c
  | k + 1, l, v => (l = [] ∧ ∃ a c, v = .slice a 0 c) ∨ ∃ b off c, v = .slice (some ⟨b, off, none⟩) l.length c ∧ Plain w ⟨b, off, none⟩ ∧ l.length * 80 ≤ 140737488351232 ∧
      ∀ (i : Nat) (h : i < l.length), ∃ vl vn, CellsAt w b (off + i * 5) [.int .i64 l[i].kind, .int .i64 l[i].num, .string l[i].text, vl, vn] ∧ StrRow w 0 l[i].names vn ∧ PL w k l[i].list vl

/-- Nothing has turned but the block r. -/
structure Stay (r : Nat) (w W : World) : Prop where
  size : w.heap.size ≤ W.heap.size
  block : ∀ q, q < w.heap.size → q ≠ r → W.heap[q]? = w.heap[q]?
def MapAt (w : World) (r : Nat) : Prop := ∃ es clock, w.heap[r]? = some (.map es clock)

theorem Stay.cell {r : Nat} {w W : World} (h : Stay r w W) (hn : MapAt w r) {p : Addr} {v : Value} (hc : w.cell? p = some v) : W.cell? p = some v := by
  have hlt := cell_lt hc
  have hne : p.block ≠ r := fun e => by
    obtain ⟨es, cl, h1⟩ := hn
    unfold World.cell? at hc
    rw [e, h1] at hc
    simp at hc
  rw [World.cell?_of_block (w := w) (h.block p.block hlt hne)]
  exact hc
theorem Stay.plain {r : Nat} {w W : World} (h : Stay r w W) (hn : MapAt w r) {p : Addr} (hp : Plain w p) : Plain W p := by
  obtain ⟨c, e, hp⟩ := hp
  have hlt : p.block < w.heap.size := by
    by_cases hx : p.block < w.heap.size
    · exact hx
    · rw [Array.getElem?_eq_none (by omega)] at hp; simp at hp
  have hne : p.block ≠ r := fun e => by
    obtain ⟨es, cl, h1⟩ := hn
    rw [e, h1] at hp
    simp at hp
  exact ⟨c, e, by rw [h.block _ hlt hne]; exact hp⟩
theorem Row.cw {n wide : Nat} {w W : World} {α : Type} {R R' : α → List Value → Prop} {l : List α} {v : Value} (hc : ∀ p v, w.cell? p = some v → W.cell? p = some v) (hR : ∀ x cs, R x cs → R' x cs)
    (h : Row w 0 n wide R l v) : Row W 0 n wide R' l v := by
  rcases h with h | ⟨a, cap, rfl, h1, h2, h3, h4⟩
  · exact Or.inl h
  · refine Or.inr ⟨a, cap, rfl, h1, h2, h3, fun i hi => ?_⟩
    obtain ⟨hb, hs, cs, hl, hcs, hr⟩ := h4 i hi
    refine ⟨hb, hs, cs, hl, fun j hj => ?_, hR _ _ hr⟩
    have h5 := hcs j hj
    rw [List.getElem?_eq_getElem hj] at h5 ⊢
    exact hc _ _ h5
theorem PL.stay {r : Nat} {w W : World} (h : Stay r w W) (hn : MapAt w r) : ∀ (k : Nat) (l : List Vl) (v : Value), PL w k l v → PL W k l v
  | 0, _, _, hp => hp
  | k + 1, l, v, hp => by
    rcases hp with hp | ⟨b, off, c, h1, h2, h3, h4⟩
    · exact Or.inl hp
    · refine Or.inr ⟨b, off, c, h1, h.plain hn h2, h3, fun i hi => ?_⟩
      obtain ⟨vl, vn, d1, d2, d3⟩ := h4 i hi
      refine ⟨vl, vn, fun j hj => ?_, Row.cw (fun p v hc => h.cell hn hc) (fun _ _ h => h) d2, PL.stay h hn k _ _ d3⟩
      have h5 := d1 j hj
      rw [List.getElem?_eq_getElem hj] at h5 ⊢
      exact h.cell hn h5
theorem PL.keep {w W : World} (h : Below w.heap.size w W) : ∀ (k : Nat) (l : List Vl) (v : Value), PL w k l v → PL W k l v
  | 0, _, _, hp => hp
  | k + 1, l, v, hp => by
    rcases hp with hp | ⟨b, off, c, h1, h2, h3, h4⟩
    · exact Or.inl hp
    · refine Or.inr ⟨b, off, c, h1, ?_, h3, fun i hi => ?_⟩
      · obtain ⟨cc, e, hp⟩ := h2
        refine ⟨cc, e, ?_⟩
        rw [h.block _ ?_]; exact hp
        by_cases hx : b < w.heap.size
        · exact hx
        · simp only at hp; rw [Array.getElem?_eq_none (by omega)] at hp; simp at hp
      · obtain ⟨vl, vn, d1, d2, d3⟩ := h4 i hi
        exact ⟨vl, vn, d1.keeps (Keeps.of_below h (Nat.le_refl _) 0) (Nat.zero_le _), d2.keeps (Keeps.of_below h (Nat.le_refl _) 0), PL.keep h k _ _ d3⟩
theorem PL.slice {w : World} {k : Nat} {l : List Vl} {v : Value} (h : PL w k l v) : ∃ a c, v = .slice a l.length c := by
  cases k with
  | zero => obtain ⟨rfl, a, c, h⟩ := h; exact ⟨a, c, h⟩
  | succ k =>
    rcases h with ⟨rfl, a, c, h⟩ | ⟨b, off, c, h, _⟩
    · exact ⟨a, c, h⟩
    · exact ⟨_, c, h⟩
theorem PL.at {w : World} {k : Nat} {l : List Vl} {v : Value} (h : PL w k l v) (hne : l ≠ []) :
    ∃ b off c m, v = .slice (some ⟨b, off, none⟩) l.length c ∧ Plain w ⟨b, off, none⟩ ∧ l.length * 80 ≤ 140737488351232 ∧
      ∀ (i : Nat) (h : i < l.length), ∃ vl vn, CellsAt w b (off + i * 5) [.int .i64 l[i].kind, .int .i64 l[i].num, .string l[i].text, vl, vn] ∧ StrRow w 0 l[i].names vn ∧ PL w m l[i].list vl := by
  cases k with
  | zero => exact absurd h.1 hne
  | succ k =>
    rcases h with ⟨h, _⟩ | ⟨b, off, c, h1, h2, h3, h4⟩
    · exact absurd h hne
    · exact ⟨b, off, c, k, h1, h2, h3, h4⟩

/-- At one place lies one list. -/
theorem PL.det {w : World} : ∀ (k k' : Nat) (l l' : List Vl) (a : Option Addr) (n c c' : Nat), PL w k l (.slice a n c) → PL w k' l' (.slice a n c') → l = l'
  | k, k', l, l', a, n, c, c', h, h' => by
    obtain ⟨a1, c1, e1⟩ := h.slice
    obtain ⟨a2, c2, e2⟩ := h'.slice
    simp only [Value.slice.injEq] at e1 e2
    have hlen : l.length = l'.length := by omega
    by_cases hne : l = []
    · subst hne
      exact (List.eq_nil_of_length_eq_zero (by simpa using hlen.symm)).symm
    · have hne' : l' ≠ [] := fun h => hne (List.eq_nil_of_length_eq_zero (by rw [hlen, h]; rfl))
      cases k with
      | zero => exact absurd h.1 hne
      | succ k =>
      cases k' with
      | zero => exact absurd h'.1 hne'
      | succ k' =>
      rcases h with ⟨h, _⟩ | ⟨b, off, d, h1, h2, h3, h4⟩
      · exact absurd h hne
      rcases h' with ⟨h', _⟩ | ⟨b', off', d', g1, g2, g3, g4⟩
      · exact absurd h' hne'
      simp only [Value.slice.injEq] at h1 g1
      have hab : (⟨b, off, none⟩ : Addr) = ⟨b', off', none⟩ := by
        have := h1.1.symm.trans g1.1
        simpa using this
      simp only [Addr.mk.injEq, and_true] at hab
      obtain ⟨rfl, rfl⟩ := hab
      refine List.ext_getElem hlen (fun i hi hi' => ?_)
      obtain ⟨vl, vn, p1, p2, p3⟩ := h4 i hi
      obtain ⟨vl', vn', q1, q2, q3⟩ := g4 i hi'
      obtain ⟨c0, c1, c2, c3, c4⟩ := p1.five
      obtain ⟨d0, d1, d2, d3, d4⟩ := q1.five
      rw [c0] at d0; rw [c1] at d1; rw [c2] at d2; rw [c3] at d3; rw [c4] at d4
      simp only [Option.some.injEq, Value.int.injEq, Value.string.injEq, true_and] at d0 d1 d2 d3 d4
      subst d3 d4
      obtain ⟨a3, c3', rfl⟩ := p3.slice
      have e4 := PL.det k k' _ _ _ _ _ _ p3 q3
      have e5 := Row.det p2 q2 (fun x y cs hx hy => by
        have := hx.1.symm.trans hy.1
        simpa using this)
      generalize l[i] = x at *
      generalize l'[i] = y at *
      cases x; cases y
      simp_all

/-- Two values without what is within. -/
def Out (a b : Vl) : Prop := a.kind = b.kind ∧ a.num = b.num ∧ a.text = b.text ∧ a.list.length = b.list.length ∧ a.names = b.names
theorem Out.of_eq {a b : Vl} (h : a = b) : Out a b := by subst h; exact ⟨rfl, rfl, rfl, rfl, rfl⟩

/-- Two lists, whose values have been held against each other up to j. -/
def Upto (ps : List (List Vl × List Vl)) (p : List Vl × List Vl) (j : Nat) : Prop := p.1.length = p.2.length ∧ ∀ (i : Nat) (h : i < p.1.length) (h' : i < p.2.length), i < j → Out p.1[i] p.2[i] ∧ (p.1[i].list ≠ [] → (p.1[i].list, p.2[i].list) ∈ ps)
theorem Upto.more {ps ps' : List (List Vl × List Vl)} {p : List Vl × List Vl} {j : Nat} (h : Upto ps p j) (hs : ∀ q ∈ ps, q ∈ ps') : Upto ps' p j :=
  ⟨h.1, fun i h1 h2 h3 => ⟨(h.2 i h1 h2 h3).1, fun h4 => hs _ ((h.2 i h1 h2 h3).2 h4)⟩⟩
theorem Upto.next {ps : List (List Vl × List Vl)} {p : List Vl × List Vl} {j : Nat} (h : Upto ps p j) (hj : j < p.1.length) (hj' : j < p.2.length) (ho : Out p.1[j] p.2[j]) (hl : p.1[j].list ≠ [] → (p.1[j].list, p.2[j].list) ∈ ps) : Upto ps p (j + 1) := by
  refine ⟨h.1, fun i h1 h2 h3 => ?_⟩
  by_cases hi : i = j
  · subst hi; exact ⟨ho, hl⟩
  · exact h.2 i h1 h2 (by omega)

theorem closed_eq {ps : List (List Vl × List Vl)} (h : ∀ p ∈ ps, Upto ps p p.1.length) : ∀ (n : Nat) (p : List Vl × List Vl), p ∈ ps → SizeOf.sizeOf p.1 ≤ n → p.1 = p.2
  | 0, p, _, hs => by
    have : 0 < SizeOf.sizeOf p.1 := by cases p.1 <;> simp <;> omega
    omega
  | n + 1, p, hp, hs => by
    obtain ⟨h1, h2⟩ := h p hp
    refine List.ext_getElem h1 (fun i hi hi' => ?_)
    obtain ⟨⟨o1, o2, o3, o4, o5⟩, h4⟩ := h2 i hi hi' hi
    have hlt : SizeOf.sizeOf p.1[i] < SizeOf.sizeOf p.1 := List.sizeOf_lt_of_mem (List.getElem_mem hi)
    have e : p.1[i].list = p.2[i].list := by
      by_cases hne : p.1[i].list = []
      · rw [hne] at o4 ⊢
        exact (List.eq_nil_of_length_eq_zero (by simpa using o4.symm)).symm
      · refine closed_eq h n _ (h4 hne) ?_
        show SizeOf.sizeOf p.1[i].list ≤ n
        have : SizeOf.sizeOf p.1[i].list < SizeOf.sizeOf p.1[i] := by
          generalize p.1[i] = x
          cases x
          simp only [Vl.mk.sizeOf_spec]
          omega
        omega
    generalize p.1[i] = x at *
    generalize p.2[i] = y at *
    cases x; cases y
    simp_all

/-- Two lists that are still to be held against each other, and where they lie. -/
structure It where
  l : List Vl
  v : Value
  l' : List Vl
  v' : Value
def It.pair (i : It) : List Vl × List Vl := (i.l, i.l')
def itCells (i : It) : List Value := [i.v, i.v']
def flatI (is : List It) : List Value := is.flatMap itCells
theorem flatI_len (is : List It) : (flatI is).length = is.length * 2 := by
  induction is with
  | nil => rfl
  | cons f r ih => simp only [flatI, List.flatMap_cons, List.length_append, List.length_cons] at ih ⊢; rw [ih]; simp [itCells]; omega
theorem flatI_snoc (is : List It) (i : It) : flatI (is ++ [i]) = flatI is ++ itCells i := by simp [flatI]
theorem flatI_at (is : List It) (i : It) (q : Nat) : (flatI (is ++ [i]))[is.length * 2 + q]? = (itCells i)[q]? := by
  rw [flatI_snoc, List.getElem?_append_right (by rw [flatI_len]; omega), flatI_len]
  congr 1; omega

/-- How much is left to be done. -/
def leftI (sz : Vl → Nat) : List It → Nat
  | [] => 0
  | i :: r => sumL sz i.l + 1 + leftI sz r
theorem leftI_snoc (sz : Vl → Nat) (is : List It) (i : It) : leftI sz (is ++ [i]) = leftI sz is + (sumL sz i.l + 1) := by
  induction is with
  | nil => simp [leftI]
  | cons x r ih => simp only [List.cons_append, leftI, ih]; omega
theorem leftI_len (sz : Vl → Nat) (is : List It) : is.length ≤ leftI sz is := by
  induction is with
  | nil => simp [leftI]
  | cons x r ih => simp only [List.length_cons, leftI]; omega
theorem sumL_drop {sz : Vl → Nat} (hs : IsSz sz) {l : List Vl} {j : Nat} (h : j < l.length) : sumL sz (l.drop j) = sumL sz (l.drop (j + 1)) + sumL sz l[j].list + 2 := by
  rw [List.drop_eq_getElem_cons h]
  simp only [sumL]
  rw [hs l[j]]
  omega

/-- What is known of pairs of lists, while cur is held against each other. -/
structure SmSt (W0 : World) (t u : Vl) (ps : List (List Vl × List Vl)) (is : List It) (cur : Option (List Vl × List Vl)) (km : List (Pl2 × Int)) (left M : Nat) : Prop where
  items : ∀ i ∈ is, i.l ≠ [] ∧ i.l.length = i.l'.length ∧ (∃ k, PL W0 k i.l i.v) ∧ (∃ k, PL W0 k i.l' i.v') ∧ i.pair ∈ ps
  closed : ∀ p ∈ ps, (∃ i ∈ is, i.pair = p) ∨ cur = some p ∨ Upto ps p p.1.length
  root : ([t], [u]) ∈ ps
  eqs : t = u → ∀ p ∈ ps, p.1 = p.2
  known : ∀ k, knownG km k ≠ 0 → ∃ l l' c c' m m', (l, l') ∈ ps ∧ PL W0 m l (.slice (some k.1.1) k.1.2 c) ∧ PL W0 m' l' (.slice (some k.2.1) k.2.2 c')
  bound : ∀ k, 0 ≤ knownG km k ∧ knownG km k + (left : Int) ≤ (M : Int)
  keys : ∀ e ∈ km, G2 W0 e.1

theorem SmSt.done {W0 : World} {t u : Vl} {ps : List (List Vl × List Vl)} {km : List (Pl2 × Int)} {left M : Nat} (h : SmSt W0 t u ps [] none km left M) : t = u := by
  have h1 := closed_eq (ps := ps) (fun p hp => by
    rcases h.closed p hp with ⟨i, hi, _⟩ | hc | hc
    · simp at hi
    · simp at hc
    · exact hc) _ _ h.root (Nat.le_refl _)
  simpa using h1
theorem SmSt.pop {W0 : World} {t u : Vl} {ps : List (List Vl × List Vl)} {is : List It} {i : It} {km : List (Pl2 × Int)} {left M : Nat} (h : SmSt W0 t u ps (is ++ [i]) none km left M) : SmSt W0 t u ps is (some i.pair) km left M := by
  refine ⟨fun x hx => h.items x (List.mem_append_left _ hx), fun p hp => ?_, h.root, h.eqs, h.known, h.bound, h.keys⟩
  rcases h.closed p hp with ⟨x, hx, he⟩ | hc | hc
  · rcases List.mem_append.1 hx with hx | hx
    · exact Or.inl ⟨x, hx, he⟩
    · simp only [List.mem_singleton] at hx
      subst hx
      exact Or.inr (Or.inl (by rw [he]))
  · simp at hc
  · exact Or.inr (Or.inr hc)
theorem SmSt.close {W0 : World} {t u : Vl} {ps : List (List Vl × List Vl)} {is : List It} {p : List Vl × List Vl} {km : List (Pl2 × Int)} {left M : Nat} (h : SmSt W0 t u ps is (some p) km left M) (hu : Upto ps p p.1.length) : SmSt W0 t u ps is none km left M := by
  refine ⟨h.items, fun q hq => ?_, h.root, h.eqs, h.known, h.bound, h.keys⟩
  rcases h.closed q hq with hc | hc | hc
  · exact Or.inl hc
  · simp only [Option.some.injEq] at hc
    subst hc
    exact Or.inr (Or.inr hu)
  · exact Or.inr (Or.inr hc)
theorem SmSt.less {W0 : World} {t u : Vl} {ps : List (List Vl × List Vl)} {is : List It} {cur : Option (List Vl × List Vl)} {km : List (Pl2 × Int)} {left left' M : Nat} (h : SmSt W0 t u ps is cur km left M) (hl : left' ≤ left) : SmSt W0 t u ps is cur km left' M :=
  ⟨h.items, h.closed, h.root, h.eqs, h.known, fun k => ⟨(h.bound k).1, by have := (h.bound k).2; omega⟩, h.keys⟩
/-- Pairs that were met before are met once more. -/
theorem SmSt.met {W0 : World} {t u : Vl} {ps : List (List Vl × List Vl)} {is : List It} {cur : Option (List Vl × List Vl)} {km km' : List (Pl2 × Int)} {left M : Nat} {k : Pl2} {l l' : List Vl} {c c' m m' : Nat} (h : SmSt W0 t u ps is cur km (left + 1) M)
    (hk : knownG km k ≠ 0) (h1 : PL W0 m l (.slice (some k.1.1) k.1.2 c)) (h2 : PL W0 m' l' (.slice (some k.2.1) k.2.2 c')) (hkm : ∀ b, knownG km' b = if b = k then knownG km k + 1 else knownG km b) (hkk : ∀ e ∈ km', e.1 = k ∨ ∃ e' ∈ km, e'.1 = e.1) :
    (l, l') ∈ ps ∧ SmSt W0 t u ps is cur km' left M := by
  obtain ⟨a, a', d, d', n, n', g1, g2, g3⟩ := h.known k hk
  have e1 := PL.det _ _ _ _ _ _ _ _ h1 g2
  have e2 := PL.det _ _ _ _ _ _ _ _ h2 g3
  subst e1 e2
  have hG : G2 W0 k := by
    unfold knownG at hk
    cases hf : findG k km 0 with
    | none => rw [hf] at hk; simp at hk
    | some p =>
      obtain ⟨q1, q2⟩ := findG_some hf
      have := h.keys km[p.1] (List.getElem_mem q1)
      rw [q2] at this
      exact this
  refine ⟨g1, h.items, h.closed, h.root, h.eqs, fun b hb => ?_, fun b => ?_, fun e he => ?_⟩
  · rw [hkm] at hb
    by_cases hbk : b = k
    · subst hbk; exact ⟨_, _, _, _, _, _, g1, g2, g3⟩
    · rw [if_neg hbk] at hb; exact h.known b hb
  · rw [hkm]
    by_cases hbk : b = k
    · rw [if_pos hbk]; have := h.bound k; omega
    · rw [if_neg hbk]; have := h.bound b; omega
  · rcases hkk e he with rfl | ⟨e', h3, h4⟩
    · exact hG
    · rw [← h4]; exact h.keys e' h3
/-- A pair that was not met yet is put down. -/
theorem SmSt.push {W0 : World} {t u : Vl} {ps : List (List Vl × List Vl)} {is : List It} {cur : Option (List Vl × List Vl)} {km km' : List (Pl2 × Int)} {left M : Nat} {k : Pl2} {l l' : List Vl} {c c' m m' : Nat} (h : SmSt W0 t u ps is cur km (left + 1) M)
    (hne : l ≠ []) (hlen : l.length = l'.length) (hG : G2 W0 k) (hk : knownG km k = 0) (h1 : PL W0 m l (.slice (some k.1.1) k.1.2 c)) (h2 : PL W0 m' l' (.slice (some k.2.1) k.2.2 c')) (heq : t = u → l = l') (hkm : ∀ b, knownG km' b = if b = k then knownG km k + 1 else knownG km b) (hkk : ∀ e ∈ km', e.1 = k ∨ ∃ e' ∈ km, e'.1 = e.1) :
    SmSt W0 t u ((l, l') :: ps) (is ++ [⟨l, .slice (some k.1.1) k.1.2 c, l', .slice (some k.2.1) k.2.2 c'⟩]) cur km' left M := by
  refine ⟨fun i hi => ?_, fun p hp => ?_, List.mem_cons_of_mem _ h.root, fun he p hp => ?_, fun b hb => ?_, fun b => ?_, fun e he => ?_⟩
  · rcases List.mem_append.1 hi with hi | hi
    · obtain ⟨d1, d2, d3, d4, d5⟩ := h.items i hi
      exact ⟨d1, d2, d3, d4, List.mem_cons_of_mem _ d5⟩
    · simp only [List.mem_singleton] at hi
      subst hi
      exact ⟨hne, hlen, ⟨m, h1⟩, ⟨m', h2⟩, List.mem_cons_self⟩
  · rcases List.mem_cons.1 hp with rfl | hp
    · exact Or.inl ⟨_, List.mem_append_right _ List.mem_cons_self, rfl⟩
    · rcases h.closed p hp with ⟨i, hi, hc⟩ | hc | hc
      · exact Or.inl ⟨i, List.mem_append_left _ hi, hc⟩
      · exact Or.inr (Or.inl hc)
      · exact Or.inr (Or.inr (hc.more (fun q hq => List.mem_cons_of_mem _ hq)))
  · rcases List.mem_cons.1 hp with rfl | hp
    · exact heq he
    · exact h.eqs he p hp
  · rw [hkm] at hb
    by_cases hbk : b = k
    · subst hbk; exact ⟨l, l', c, c', m, m', List.mem_cons_self, h1, h2⟩
    · rw [if_neg hbk] at hb
      obtain ⟨a, a', d, d', n, n', g1, g2⟩ := h.known b hb
      exact ⟨a, a', d, d', n, n', List.mem_cons_of_mem _ g1, g2⟩
  · rw [hkm]
    by_cases hbk : b = k
    · rw [if_pos hbk]; have := h.bound k; omega
    · rw [if_neg hbk]; have := h.bound b; omega
  · rcases hkk e he with rfl | ⟨e', h3, h4⟩
    · exact hG
    · rw [← h4]; exact h.keys e' h3

end Go.Proofs.YtegnalfkdponhaaDoor
