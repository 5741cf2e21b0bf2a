
/-
  DERIVED. THE WALKS OF laws.markValueS, laws.markValue.
-/
import Derived.Test.YtdaohfeajicamaaVlMark
namespace Go.Proofs.Ytdaohfeajicamaa
open Go.RowKit
set_option linter.unusedVariables false
set_option linter.unusedSimpArgs false

/-- What may turn of a list: its block, and what is within. -/
def FootL (v : Value) (q0 q1 : Nat) (x : Nat) : Prop := At v x ∨ (q0 ≤ x ∧ x < q1)
/-- Of a value: what lies from lo up to hi. -/
def FootV (lo hi : Nat) (x : Nat) : Prop := lo ≤ x ∧ x < hi

def MarkLC (f : Nat) : Prop := ∀ (l : List Vl) (v : Value) (q0 q1 k : Nat) (w : World), OwnRow w 29 5 80 (VlO w f) q0 q1 l v → q1 ≤ w.heap.size → 1 ≤ k → k + cntS (cntE f) l ≤ 99999990 →
  Calls Try.prog 39 #[v, .int .i64 (k : Int)] w fun e w' => e = .returned (.int .i64 ((k + cntS (cntE f) l : Nat) : Int)) ∧ ∃ l', l'.length = l.length ∧ cntS (cntE f) l' = cntS (cntE f) l ∧ MkL (MkE f) (cntE f) k l' ∧
    OwnRow w' 29 5 80 (VlO w' f) q0 q1 l' v ∧ TurnsP (FootL v q0 q1) w w'

/-- The list up to j marked, the rest as it was. -/
structure MixL (f k : Nat) (l m : List Vl) (j : Nat) : Prop where
  len : m.length = l.length
  rest : ∀ (q : Nat) (h : q < l.length) (h' : q < m.length), j ≤ q → m[q] = l[q]
  mark : ∀ (q : Nat) (h : q < m.length), q < j → MkE f (k + cntS (cntE f) (l.take q)) m[q]
  cnt : ∀ (q : Nat) (h : q < l.length) (h' : q < m.length), cntE f m[q] = cntE f l[q]

theorem MixL.start (f k : Nat) (l : List Vl) : MixL f k l l 0 := ⟨rfl, fun _ _ _ _ => rfl, fun _ _ h => absurd h (Nat.not_lt_zero _), fun _ _ _ => rfl⟩
theorem MixL.step {f k : Nat} {l m : List Vl} {j : Nat} (h : MixL f k l m j) {x : Vl} (hj : j < l.length) (hm : MkE f (k + cntS (cntE f) (l.take j)) x) (hc : cntE f x = cntE f l[j]) : MixL f k l (m.set j x) (j + 1) := by
  refine ⟨by rw [List.length_set]; exact h.len, fun q h1 h2 hq => ?_, fun q h1 hq => ?_, fun q h1 h2 => ?_⟩
  · rw [List.getElem_set_ne (by omega)]; exact h.rest q h1 (by have := h.len; omega) (by omega)
  · by_cases he : j = q
    · subst he; rw [List.getElem_set_self]; exact hm
    · rw [List.getElem_set_ne he]; exact h.mark q (by simpa using h1) (by omega)
  · by_cases he : j = q
    · subst he; rw [List.getElem_set_self]; exact hc
    · rw [List.getElem_set_ne he]; exact h.cnt q h1 (by simpa using h2)
theorem MixL.fin {f k : Nat} {l m : List Vl} (h : MixL f k l m l.length) : cntS (cntE f) m = cntS (cntE f) l ∧ MkL (MkE f) (cntE f) k m := by
  have hc : ∀ j, j ≤ l.length → cntS (cntE f) (m.take j) = cntS (cntE f) (l.take j) := fun j hj => cntS_take_congr _ h.len j hj (fun i h1 h2 _ => h.cnt i h1 h2)
  refine ⟨?_, fun i hi => ?_⟩
  · have := hc l.length (Nat.le_refl _)
    rw [List.take_length, ← h.len, List.take_length] at this
    exact this
  · rw [hc i (by have := h.len; omega)]
    exact h.mark i hi (by have := h.len; omega)

/-- One of it turned within its own interval, and in its own cells. -/
theorem OwnRow.turn {w w' : World} {f q0 q1 b : Nat} {m : List Vl} {c : Array Value} {p : Nat → Nat} {j : Nat} {x : Vl} {c0 c1 c2 c3 c4 : Value}
    (hj : j < m.length) (hw : m.length * 80 ≤ 140737488351232) (hO : Owns w b c 29) (hs : c.size = m.length * 5) (hb : b < q0 ∨ q1 ≤ b) (h5 : q0 ≤ p 0) (h6 : p m.length ≤ q1) (h7 : ∀ q, q < m.length → p q ≤ p (q + 1)) (hq : q1 ≤ w.heap.size)
    (h8 : ∀ (q : Nat) (h : q < m.length), ∃ cs, cs.length = 5 ∧ (∀ r, r < 5 → c[q * 5 + r]? = cs[r]?) ∧ VlO w f (p q) (p (q + 1)) m[q] cs)
    (hO' : Owns w' b (putAt c (j * 5) [c0, c1, c2, c3, c4]) 29) (hT : ∀ y, y < w.heap.size → y ≠ b → ¬ (p j ≤ y ∧ y < p (j + 1)) → w'.heap[y]? = w.heap[y]?)
    (hx : VlO w' f (p j) (p (j + 1)) x [c0, c1, c2, c3, c4]) : OwnRow w' 29 5 80 (VlO w' f) q0 q1 (m.set j x) (.slice (some ⟨b, 0, none⟩) m.length m.length) := by
  have hfit : j * 5 + 5 ≤ c.size := by omega
  refine OwnRow.set (w := w) (R := VlO w f) (c := c) (p := p) (i := j) (x := x) (cs' := [c0, c1, c2, c3, c4]) hj hw hO' (by rw [putAt_size, hs]) hb h5 h6 h7 (fun q hq' hne => ?_) ⟨rfl, fun r hr => ?_, hx⟩
  · obtain ⟨cs, a1, a2, a3⟩ := h8 q hq'
    refine ⟨cs, a1, fun r hr => ?_, VlO.same f _ _ _ _ (fun y y1 y2 => ?_) a3⟩
    · rw [putAt_out _ _ _ _ (by simp; omega), a2 r hr]
    · have z0 : p 0 ≤ p q := chain_le h7 (Nat.zero_le _) (by omega)
      have z1 : p (q + 1) ≤ p m.length := chain_le h7 (by omega) (Nat.le_refl _)
      refine hT y (by omega) (by omega) (fun hy => ?_)
      rcases Nat.lt_or_gt_of_ne hne with hlt | hgt
      · have := chain_le h7 (show q + 1 ≤ j by omega) (by omega); omega
      · have := chain_le h7 (show j + 1 ≤ q by omega) (by omega); omega
  · exact putAt_in _ _ _ r (by simpa using hr) (by simpa using hfit)

theorem set_same {c : Array Value} {i : Nat} {v : Value} (h : c[i]? = some v) : c.setIfInBounds i v = c := by
  apply Array.ext_getElem?
  intro q
  rw [Array.getElem?_setIfInBounds]
  split
  · rename_i he
    subst he
    split
    · exact h.symm
    · rename_i hn
      rw [Array.getElem?_eq_none (by omega)] at h
      simp at h
  · rfl
theorem put_five {c : Array Value} {i : Nat} {x0 x1 x2 x3 x4 : Value} (h3 : c[i + 3]? = some x3) (h4 : c[i + 4]? = some x4) : putAt c i [x0, x1, x2, x3, x4] = ((c.setIfInBounds i x0).setIfInBounds (i + 1) x1).setIfInBounds (i + 2) x2 := by
  show ((((c.setIfInBounds i x0).setIfInBounds (i + 1) x1).setIfInBounds (i + 2) x2).setIfInBounds (i + 3) x3).setIfInBounds (i + 4) x4 = _
  rw [set_same (i := i + 3)]
  · rw [set_same]
    rw [Array.getElem?_setIfInBounds_ne (by omega), Array.getElem?_setIfInBounds_ne (by omega), Array.getElem?_setIfInBounds_ne (by omega)]
    exact h4
  · rw [Array.getElem?_setIfInBounds_ne (by omega), Array.getElem?_setIfInBounds_ne (by omega), Array.getElem?_setIfInBounds_ne (by omega)]
    exact h3

set_option maxHeartbeats 4000000 in
theorem markL_step (f : Nat) (ih : ∀ g, f = g + 1 → MarkLC g) : MarkLC f := by
  intro l v q0 q1 k w hrow hq1 hk1 hk2
  obtain ⟨a, rfl, hw⟩ := hrow.len
  have hlen : (l.length : Int) ≤ 140737488351232 := by omega
  have hki : (k : Int) ≤ 99999990 := by omega
  have hk0 : (0 : Int) ≤ (k : Int) := by omega
  have HW : Hid (l.length * 80 ≤ 140737488351232) := hw
  clear hw
  obtain ⟨N, hN⟩ : ∃ N, l.length = N := ⟨_, rfl⟩
  have HN : Hid (l.length = N) := hN
  have HQ : Hid (q1 ≤ w.heap.size) := hq1
  have HK2 : Hid (k + cntS (cntE f) l ≤ 99999990) := hk2
  have HROW : Hid (OwnRow w 29 5 80 (VlO w f) q0 q1 l (.slice a N N)) := by show OwnRow _ _ _ _ _ _ _ _ _; rw [← hN]; exact hrow
  rw [hN] at hlen ⊢
  clear hN hq1 hk2 hrow
  go_enter Try.func39, Try.ntmps39
  go_wp2_with fail
  go_loopw [1, 5] (fun n i wr => ∃ (j kj : Nat) (m : List Vl), j ≤ N ∧ i = .int .i64 j ∧ n = .int .i64 (kj : Int) ∧ Hid (kj = k + cntS (cntE f) (l.take j)) ∧ Hid (MixL f k l m j) ∧ Hid (OwnRow wr 29 5 80 (VlO wr f) q0 q1 m (.slice a N N)) ∧ Hid (TurnsP (FootL (.slice a N N) q0 q1) w wr)) (fun _ i _ => N - (intOf i).toNat)
  case atStart => exact ⟨0, k, l, Nat.zero_le _, rfl, rfl, (by show k = k + cntS _ (l.take 0); simp [cntS]), MixL.start _ _ _, HROW.out, TurnsP.refl _ _⟩
  case round =>
    obtain ⟨j, kj, m, hj, rfl, rfl, HKJ, HM, HO, HT⟩ := hrel
    have hkb : kj ≤ 99999990 := by have := HKJ.out; have := HK2.out; have := cntS_take_le (cntE f) l j; omega
    have hkl : 1 ≤ kj := by have := HKJ.out; omega
    have hkji : (kj : Int) ≤ 99999990 := by omega
    have hkj0 : (0 : Int) ≤ (kj : Int) := by omega
    by_cases hlt : j < N
    · rcases HO.out with ⟨h0, _⟩ | ⟨b, c, p, hv, h1, h2, h3, h4, h5, h6, h7, h8⟩
      · have := HM.out.len; have := HN.out; rw [h0] at *; simp at *; omega
      have hml : m.length = N := HM.out.len.trans HN.out
      simp only [Value.slice.injEq] at hv
      obtain ⟨rfl, -, -⟩ := hv
      have hjm : j < m.length := by omega
      have hjl : j < l.length := by have := HN.out; omega
      have hjc : j * 5 + 5 ≤ c.size := by omega
      obtain ⟨cs, hcl, hcc, hV⟩ := h8 j hjm
      obtain ⟨g, rfl⟩ : ∃ g, f = g + 1 := by
        cases f with
        | zero => exact hV.elim
        | succ g => exact ⟨g, rfl⟩
      have hIH := ih g rfl
      clear ih
      have hV' := hV
      obtain ⟨vl, vn, r0, r1, rfl, _, _, _, hr0, hr1, hL, hNm, hAl, hAn⟩ := hV'
      obtain ⟨al, rfl, _⟩ := hL.len
      obtain ⟨an, rfl, _⟩ := hNm.len
      have e0 : wr.cell? ⟨b, j * 5, none⟩ = some (.int .i64 m[j].kind) := by rw [h2.cell]; exact hcc 0 (by omega)
      have e1 : wr.cell? ⟨b, j * 5 + 1, none⟩ = some (.int .i64 m[j].num) := by rw [h2.cell]; exact hcc 1 (by omega)
      have e2 : wr.cell? ⟨b, j * 5 + 2, none⟩ = some (.string m[j].text) := by rw [h2.cell]; exact hcc 2 (by omega)
      have e3 : wr.cell? ⟨b, j * 5 + 3, none⟩ = some (.slice al m[j].list.length m[j].list.length) := by rw [h2.cell]; exact hcc 3 (by omega)
      have e4 : wr.cell? ⟨b, j * 5 + 4, none⟩ = some (.slice an m[j].names.length m[j].names.length) := by rw [h2.cell]; exact hcc 4 (by omega)
      have ef := fun o => h2.frozen o
      have hsz := h2.lt
      have hx : m[j] = l[j] := HM.out.rest j hjl hjm (Nat.le_refl _)
      have hcE : cntE (g + 1) m[j] = 3 + cntS (cntE g) m[j].list + m[j].names.length := rfl
      have hkn : kj + cntE (g + 1) m[j] ≤ 99999990 := by
        have h1 := HKJ.out; have h2 := HK2.out
        have h3 := cntS_take_le (cntE (g + 1)) l (j + 1)
        rw [cntS_snoc _ hjl, ← hx] at h3
        omega
      have hqw : q1 ≤ wr.heap.size := Nat.le_trans HQ.out HT.out.size
      have hpj : q0 ≤ p j ∧ p (j + 1) ≤ q1 := ⟨Nat.le_trans h5 (chain_le h7 (Nat.zero_le _) (by omega)), Nat.le_trans (chain_le h7 (by omega) (Nat.le_refl _)) h6⟩
      have hbp : ¬ (p j ≤ b ∧ b < p (j + 1)) := by omega
      have HALL : Hid (∀ (w' : World) (x : Vl) (c0 c1 c2 c3 c4 : Value), Owns w' b (putAt c (j * 5) [c0, c1, c2, c3, c4]) 29 → (∀ y, y < wr.heap.size → y ≠ b → ¬ (p j ≤ y ∧ y < p (j + 1)) → w'.heap[y]? = wr.heap[y]?) →
          VlO w' (g + 1) (p j) (p (j + 1)) x [c0, c1, c2, c3, c4] → OwnRow w' 29 5 80 (VlO w' (g + 1)) q0 q1 (m.set j x) (.slice (some ⟨b, 0, none⟩) N N)) := fun w' x c0 c1 c2 c3 c4 a1 a2 a3 => by
        have := OwnRow.turn hjm h1 h2 h3 h4 h5 h6 h7 hqw h8 a1 a2 a3
        rw [hml] at this
        exact this
      have HOw : Hid (Owns wr b c 29) := h2
      have HL : Hid (OwnRow wr 29 5 80 (VlO wr g) r0 r1 m[j].list (.slice al m[j].list.length m[j].list.length)) := hL
      have HNm : Hid (OwnRow wr 9 1 16 StrO 0 0 m[j].names (.slice an m[j].names.length m[j].names.length)) := hNm
      have HAl : Hid _ := hAl
      have HAn : Hid _ := hAn
      have HKN : Hid (kj + 3 + cntS (cntE g) m[j].list + m[j].names.length ≤ 99999990) := by show _ ≤ _; omega
      have HX : Hid (m[j] = l[j]) := hx
      have HC5 : Hid (∀ q, q < 5 → c[j * 5 + q]? = [Value.int .i64 m[j].kind, .int .i64 m[j].num, .string m[j].text, .slice al m[j].list.length m[j].list.length, .slice an m[j].names.length m[j].names.length][q]?) := hcc
      clear h1 h2 h3 h4 h5 h6 h7 h8 hL hNm hAl hAn hV hx hcE hkn hcc HO
      generalize hnl : m[j].list.length = nl at *
      generalize hnn : m[j].names.length = nn at *
      have hnl' : (nl : Int) ≤ 140737488351232 := by obtain ⟨_, _, h⟩ := HL.out.len; rw [hnl] at h; omega
      have HNL : Hid (m[j].list.length = nl) := hnl
      have HNN : Hid (m[j].names.length = nn) := hnn
      clear hnl hnn
      go_wp2_with fail
      have ek2 : ((kj + 2 : Nat) : Int) = (kj : Int) + 1 + 1 := by omega
      have hcall := markText_any (kj + 2) ((wr.setCell ⟨b, j * 5, none⟩ (.int .i64 (kj : Int))).setCell ⟨b, j * 5 + 1, none⟩ (.int .i64 ((kj : Int) + 1))) (by omega) (by omega)
      rw [ek2] at hcall
      refine hcall.mono ?_
      rintro e w1 ⟨rfl, hb1⟩
      have hO1 : Owns w1 b ((c.setIfInBounds (j * 5) (.int .i64 (kj : Int))).setIfInBounds (j * 5 + 1) (.int .i64 ((kj : Int) + 1))) 29 := ((HOw.out.set _ _).set _ _).below hb1 (by simpa [World.setCell] using hsz)
      have d2 : w1.cell? ⟨b, j * 5 + 2, none⟩ = some (.string m[j].text) := by
        rw [hO1.cell, Array.getElem?_setIfInBounds_ne (by omega), Array.getElem?_setIfInBounds_ne (by omega)]; exact HC5.out 2 (by omega)
      have d3 : w1.cell? ⟨b, j * 5 + 3, none⟩ = some (.slice al nl nl) := by
        rw [hO1.cell, Array.getElem?_setIfInBounds_ne (by omega), Array.getElem?_setIfInBounds_ne (by omega)]; exact HC5.out 3 (by omega)
      have d4 : w1.cell? ⟨b, j * 5 + 4, none⟩ = some (.slice an nn nn) := by
        rw [hO1.cell, Array.getElem?_setIfInBounds_ne (by omega), Array.getElem?_setIfInBounds_ne (by omega)]; exact HC5.out 4 (by omega)
      have df := fun o => hO1.frozen o
      have hsz1 : wr.heap.size ≤ w1.heap.size := by have := hb1.size; simpa [World.setCell] using this
      have hz1 : b < w1.heap.size := by omega
      have HS4 : Hid (∀ y, y < wr.heap.size → y ≠ b → (w1.setCell ⟨b, j * 5 + 2, none⟩ (.string (markB (kj + 2)))).heap[y]? = wr.heap[y]?) := fun y hy hne => by
        rw [Below.heap_setCell _ _ _ _ hne, hb1.block y (by simpa [World.setCell] using hy), Below.heap_setCell _ _ _ _ hne, Below.heap_setCell _ _ _ _ hne]
      have HO4 : Hid (Owns (w1.setCell ⟨b, j * 5 + 2, none⟩ (.string (markB (kj + 2)))) b (putAt c (j * 5) [.int .i64 (kj : Int), .int .i64 ((kj : Int) + 1), .string (markB (kj + 2)), .slice al nl nl, .slice an nn nn]) 29) := by
        show Owns _ _ _ _
        rw [put_five (HC5.out 3 (by omega)) (HC5.out 4 (by omega))]
        exact hO1.set _ _
      have HT4 : Hid (TurnsP (FootL (.slice (some ⟨b, 0, none⟩) N N) q0 q1) w (w1.setCell ⟨b, j * 5 + 2, none⟩ (.string (markB (kj + 2))))) :=
        ((((HT.out.setCell (Or.inl (At.mk _ _ _)) _).setCell (Or.inl (At.mk _ _ _)) _).trans (TurnsP.of_below hb1 (Nat.le_refl _))).setCell (Or.inl (At.mk _ _ _)) _)
      clear hcall hb1 hO1 e0 e1 e2 e3 e4 ef HT ek2
      go_wp2_with fail
      have hL4 : OwnRow (w1.setCell ⟨b, j * 5 + 2, none⟩ (.string (markB (kj + 2)))) 29 5 80 (VlO (w1.setCell ⟨b, j * 5 + 2, none⟩ (.string (markB (kj + 2)))) g) r0 r1 m[j].list (.slice al nl nl) :=
        HL.out.same (fun y hy => HS4.out y (by have := HAl.out y hy; omega) (by have := HAl.out y hy; omega)) (fun a b' x cs ha hb hx => VlO.same g a b' x cs (fun y h1 h2 => HS4.out y (by omega) (by omega)) hx)
      have hcall := hIH m[j].list (.slice al nl nl) r0 r1 (kj + 3) _ hL4 (by simp [World.setCell]; omega) (by omega) (by have := HKN.out; omega)
      have ek3 : ((kj + 3 : Nat) : Int) = (kj : Int) + 1 + 1 + 1 := by omega
      rw [ek3] at hcall
      refine hcall.mono ?_
      rintro e w2 ⟨rfl, l2, hl2, hc2, hM2, hO2, hT2⟩
      obtain ⟨k2, hk2⟩ : ∃ k2, kj + 3 + cntS (cntE g) m[j].list = k2 := ⟨_, rfl⟩
      have HK2' : Hid (kj + 3 + cntS (cntE g) m[j].list = k2) := hk2
      rw [hk2]
      have hk2b : k2 + nn ≤ 99999990 := by have := HKN.out; have := HNN.out; omega
      have hsz2 := hT2.size
      have hbF : ∀ y, FootL (.slice al nl nl) r0 r1 y → p j ≤ y ∧ y < p (j + 1) := fun y hy => by
        rcases hy with hy | hy
        · exact HAl.out y hy
        · omega
      have hO5 : Owns w2 b (putAt c (j * 5) [.int .i64 (kj : Int), .int .i64 ((kj : Int) + 1), .string (markB (kj + 2)), .slice al nl nl, .slice an nn nn]) 29 := HO4.out.same (hT2.block b HO4.out.lt (fun h => hbp (hbF b h)))
      have hN5 : OwnRow w2 9 1 16 StrO 0 0 m[j].names (.slice an nn nn) := StrO.row_same HNm.out (fun y hy => by
        obtain ⟨y1, y2, y3, y4⟩ := HAn.out y hy
        rw [hT2.block y (by simp [World.setCell]; omega) (fun h => by rcases h with h | h; exact y4 h; omega), HS4.out y (by omega) (by omega)])
      have f4 : w2.cell? ⟨b, j * 5 + 4, none⟩ = some (.slice an nn nn) := by rw [hO5.cell]; exact putAt_in _ _ _ 4 (by simp) (by simpa using hjc)
      have HO5 : Hid (Owns w2 b (putAt c (j * 5) [.int .i64 (kj : Int), .int .i64 ((kj : Int) + 1), .string (markB (kj + 2)), .slice al nl nl, .slice an nn nn]) 29) := hO5
      have HN5 : Hid _ := hN5
      have HT5 : Hid (TurnsP (FootL (.slice (some ⟨b, 0, none⟩) N N) q0 q1) w w2) := HT4.out.trans (hT2.mono (fun y hy => Or.inr (by have := hbF y hy; omega)))
      have HS5 : Hid (∀ y, y < wr.heap.size → y ≠ b → ¬ (p j ≤ y ∧ y < p (j + 1)) → w2.heap[y]? = wr.heap[y]?) := fun y h1 h2 h3 => by
        rw [hT2.block y (by simp [World.setCell]; omega) (fun h => h3 (hbF y h)), HS4.out y h1 h2]
      have HM2 : Hid _ := hM2
      have HO2 : Hid _ := hO2
      have HL2 : Hid _ := hl2
      have HC2 : Hid _ := hc2
      have hk2i : (k2 : Int) ≤ 99999990 := by omega
      have hszw : wr.heap.size ≤ w2.heap.size := by simp [World.setCell] at hsz2; omega
      clear hcall ek3 hT2 hO5 hN5 hM2 hO2 hl2 hc2 hL4 HO4 HT4 d2 d3 d4 df HL HNm hbF hk2 hsz2 HS4
      go_wp2_with fail
      refine (markStringS_any m[j].names _ k2 _ HN5.out (by have := HK2'.out; omega) (by have := HNN.out; omega)).mono ?_
      rintro e w3 ⟨rfl, n3, hl3, hM3, hO3, hT3⟩
      rw [HNN.out]
      have hnn0 : (nn : Int) ≤ 99999990 := by omega
      have hbA : ∀ y, At (.slice an nn nn) y → p j ≤ y ∧ y < p (j + 1) := fun y hy => ⟨(HAn.out y hy).1, (HAn.out y hy).2.1⟩
      have HV : Hid (VlO w3 (g + 1) (p j) (p (j + 1)) ⟨(kj : Int), (kj : Int) + 1, markB (kj + 2), l2, n3⟩ [.int .i64 (kj : Int), .int .i64 ((kj : Int) + 1), .string (markB (kj + 2)), .slice al nl nl, .slice an nn nn]) := by
        refine ⟨_, _, r0, r1, rfl, ⟨by show (-9223372036854775808 : Int) ≤ (kj : Int); omega, by show (kj : Int) ≤ 9223372036854775807; omega⟩, ⟨by show (-9223372036854775808 : Int) ≤ (kj : Int) + 1; omega, by show (kj : Int) + 1 ≤ 9223372036854775807; omega⟩, markB_size _, hr0, hr1, ?_, hO3, HAl.out, HAn.out⟩
        refine OwnRow.same HO2.out (fun y hy => hT3.block y ?_ (fun h => (HAn.out y h).2.2.2 hy)) (fun a b' x cs ha hb hx => VlO.same g a b' x cs (fun y h1 h2 => hT3.block y (by omega) (fun h => by have := (HAn.out y h).2.2.1; omega)) hx)
        have := HAl.out y hy
        omega
      have HO6 : Hid _ := HALL.out w3 _ _ _ _ _ _ (HO5.out.same (hT3.block b HO5.out.lt (fun h => hbp (hbA b h)))) (fun y h1 h2 h3 => by rw [hT3.block y (by omega) (fun h => h3 (hbA y h)), HS5.out y h1 h2 h3]) HV.out
      have HT6 : Hid (TurnsP (FootL (.slice (some ⟨b, 0, none⟩) N N) q0 q1) w w3) := HT5.out.trans (hT3.mono (fun y hy => Or.inr (by have := hbA y hy; omega)))
      have HM6 : Hid (MixL (g + 1) k l (m.set j ⟨(kj : Int), (kj : Int) + 1, markB (kj + 2), l2, n3⟩) (j + 1)) := by
        refine HM.out.step hjl ?_ ?_
        · rw [← HKJ.out]
          refine ⟨rfl, rfl, rfl, HM2.out, ?_⟩
          show MkN (kj + 3 + cntS (cntE g) l2) n3
          rw [HC2.out, HK2'.out]
          exact hM3
        · rw [← HX.out]
          show 3 + cntS (cntE g) l2 + n3.length = 3 + cntS (cntE g) m[j].list + m[j].names.length
          rw [HC2.out, hl3]
      have HKJ6 : Hid (k2 + nn = k + cntS (cntE (g + 1)) (l.take (j + 1))) := by
        show _ = _
        rw [cntS_snoc _ hjl, ← HX.out, ← Nat.add_assoc, ← HKJ.out]
        show _ = kj + (3 + cntS (cntE g) m[j].list + m[j].names.length)
        rw [← HK2'.out, HNN.out]
        omega
      clear hM3 hO3 hT3 HO5 HN5 HT5 HS5 HM2 HO2 HALL HV f4
      go_wp2_with fail
      exact ⟨⟨j + 1, k2 + nn, _, by omega, by go_num, rfl, HKJ6, HM6, HO6, HT6⟩, by simp [intOf]; omega⟩
    · obtain rfl : j = N := by omega
      go_wp2_with fail
      go_ret
      have hn := HN.out
      have hm := HM.out
      rw [← hn] at hm
      refine ⟨ret_int ?_, m, hm.len.trans hn, (MixL.fin hm).1, (MixL.fin hm).2, HO.out, HT.out⟩
      rw [HKJ.out, ← hn, List.take_length]

set_option maxHeartbeats 1000000 in
theorem markValue_any (f lo hi k : Nat) (t : Vl) (x0 x1 x2 vl vn : Value) (w : World) (ht : VlO w (f + 1) lo hi t [x0, x1, x2, vl, vn]) (hh : hi ≤ w.heap.size) (hk1 : 1 ≤ k) (hk2 : k + cntS (cntE f) t.list + t.names.length ≤ 99999990) (hall : MarkLC f) :
    Calls Try.prog 14 #[.agg #[x0, x1, x2, vl, vn], .int .i64 (k : Int)] w fun e w' => e = .returned (.int .i64 ((k + cntS (cntE f) t.list + t.names.length : Nat) : Int)) ∧ ∃ l' n', l'.length = t.list.length ∧ n'.length = t.names.length ∧ cntS (cntE f) l' = cntS (cntE f) t.list ∧
      MkL (MkE f) (cntE f) k l' ∧ MkN (k + cntS (cntE f) t.list) n' ∧ VlO w' (f + 1) lo hi ⟨t.kind, t.num, t.text, l', n'⟩ [x0, x1, x2, vl, vn] ∧ TurnsP (FootV lo hi) w w' := by
  obtain ⟨vl', vn', q0, q1, hcs, h1, h2, h3, h4, h5, hL, hN, hAl, hAn⟩ := ht
  simp only [List.cons.injEq, and_true] at hcs
  obtain ⟨rfl, rfl, rfl, rfl, rfl⟩ := hcs
  obtain ⟨al, rfl, _⟩ := hL.len
  obtain ⟨an, rfl, _⟩ := hN.len
  have HL : Hid (∀ W, (∀ b, b < w.heap.size → W.heap[b]? = w.heap[b]?) → OwnRow W 29 5 80 (VlO W f) q0 q1 t.list (.slice al t.list.length t.list.length)) := fun W h => hL.same (fun b hb => h b (by have := hAl b hb; omega)) (fun a b x cs ha hb hx => VlO.same f a b x cs (fun y y1 y2 => h y (by omega)) hx)
  have HN : Hid (∀ W, (∀ b, At (.slice an t.names.length t.names.length) b → W.heap[b]? = w.heap[b]?) → OwnRow W 9 1 16 StrO 0 0 t.names (.slice an t.names.length t.names.length)) := fun W h => StrO.row_same hN h
  have HAl : Hid _ := hAl
  have HAn : Hid _ := hAn
  have HA : Hid (hi ≤ w.heap.size ∧ lo ≤ q0 ∧ q1 ≤ hi) := ⟨hh, h4, h5⟩
  have HK : Hid _ := hk2
  clear hL hN hAl hAn hh h4 h5 hk2
  go_enter Try.func14, Try.ntmps14
  go_wp2_with fail
  refine (hall t.list _ q0 q1 k _ (HL.out _ (fun b hb => Below.heap_alloc _ _ _ hb)) (by have := HA.out; simp; omega) hk1 (by have := HK.out; omega)).mono ?_
  rintro e w1 ⟨rfl, l', hl, hc, hM, hO, hT⟩
  have hbox : w1.heap[w.heap.size]? = (w.alloc (.cells #[.int .i64 t.kind, .int .i64 t.num, .string t.text, .slice al t.list.length t.list.length, .slice an t.names.length t.names.length] 29)).heap[w.heap.size]? := hT.block _ (by simp) (fun h => by
    have := HA.out
    rcases h with h | h
    · have := HAl.out _ h; omega
    · omega)
  have hOb : Owns w1 w.heap.size #[.int .i64 t.kind, .int .i64 t.num, .string t.text, .slice al t.list.length t.list.length, .slice an t.names.length t.names.length] 29 := (Owns.made w _ _).same hbox
  have b4 : w1.cell? ⟨w.heap.size, 4, none⟩ = some (.slice an t.names.length t.names.length) := by rw [hOb.cell]; rfl
  have HN1 : Hid (OwnRow w1 9 1 16 StrO 0 0 t.names (.slice an t.names.length t.names.length)) := HN.out _ (fun b hb => by
    obtain ⟨y1, y2, y3, y4⟩ := HAn.out b hb
    have := HA.out
    rw [hT.block b (by simp; omega) (fun h => by rcases h with h | h; exact y4 h; omega), Below.heap_alloc _ _ _ (by omega)])
  have HT1 : Hid (TurnsP (FootV lo hi) w w1) := (TurnsP.of_below ((Below.refl _ _).alloc (Nat.le_refl _) _) (Nat.le_refl _)).trans (hT.mono (fun y hy => by
    have := HA.out
    rcases hy with hy | hy
    · have := HAl.out y hy; exact ⟨by omega, by omega⟩
    · exact ⟨by omega, by omega⟩))
  have HM : Hid _ := hM
  have HO : Hid (OwnRow w1 29 5 80 (VlO w1 f) q0 q1 l' (.slice al t.list.length t.list.length)) := hO
  have HX : Hid (l'.length = t.list.length ∧ cntS (cntE f) l' = cntS (cntE f) t.list) := ⟨hl, hc⟩
  have hz : w.heap.size < w1.heap.size := cell_lt b4
  obtain ⟨k2, hk2⟩ : ∃ k2, k + cntS (cntE f) t.list = k2 := ⟨_, rfl⟩
  have HK2 : Hid (k + cntS (cntE f) t.list = k2) := hk2
  rw [hk2]
  clear hM hO hT hl hc hbox hOb hk2
  go_wp2_with fail
  refine (markStringS_any t.names _ k2 _ HN1.out (by have := HK2.out; omega) (by have := HK2.out; have := HK.out; omega)).mono ?_
  rintro e w2 ⟨rfl, n', hl2, hM2, hO2, hT2⟩
  have HV : Hid (VlO w2 (f + 1) lo hi ⟨t.kind, t.num, t.text, l', n'⟩ [.int .i64 t.kind, .int .i64 t.num, .string t.text, .slice al t.list.length t.list.length, .slice an t.names.length t.names.length]) := by
    refine ⟨_, _, q0, q1, rfl, h1, h2, h3, HA.out.2.1, HA.out.2.2, ?_, hO2, HAl.out, HAn.out⟩
    refine OwnRow.same HO.out (fun y hy => hT2.block y ?_ (fun h => (HAn.out y h).2.2.2 hy)) (fun a b' x cs ha hb hx => VlO.same f a b' x cs (fun y h1 h2 => hT2.block y (by have := HA.out; omega) (fun h => by have := (HAn.out y h).2.2.1; omega)) hx)
    have := HAl.out y hy
    have := HA.out
    omega
  have HT3 : Hid (TurnsP (FootV lo hi) w w2) := HT1.out.trans (hT2.mono (fun y hy => ⟨(HAn.out y hy).1, (HAn.out y hy).2.1⟩))
  have HM2 : Hid _ := hM2
  have HL2 : Hid _ := hl2
  clear hM2 hO2 hT2 hl2
  obtain ⟨k3, hk3⟩ : ∃ k3, k2 + t.names.length = k3 := ⟨_, rfl⟩
  have HK3 : Hid (k2 + t.names.length = k3) := hk3
  rw [hk3]
  clear hk3
  go_wp2_with fail
  go_ret
  refine ⟨ret_int (by rw [← HK3.out, ← HK2.out]), l', n', HX.out.1, HL2.out, HX.out.2, HM.out, (by rw [HK2.out]; exact HM2.out), HV.out, HT3.out⟩

theorem markL_all : ∀ f : Nat, MarkLC f
  | 0 => markL_step 0 (fun g h => by omega)
  | f + 1 => markL_step (f + 1) (fun g h => by obtain rfl : f = g := by omega
                                               exact markL_all f)

end Go.Proofs.Ytdaohfeajicamaa
