
/-
  DERIVED. THE WALKS OF laws.markNodeS AND laws.heldNodeS: the marks told, and found.
-/
import Derived.Test.YtehdepnemdbopaaNdSz
import Derived.Test.YtehdepnemdbopaaVlMarkS
import Derived.Test.YtehdepnemdbopaaVlHeld
namespace Go.Proofs.Ytehdepnemdbopaa
open Go.RowKit
set_option linter.unusedVariables false
set_option linter.unusedSimpArgs false

/-- A node that was marked from r on. -/
def MkNd (f : Nat) (r : Int) (x : Nd) : Prop :=
  x.id = r ∧ x.type = markB (r + 1).toNat ∧ x.cells.kind = r + 2 ∧ x.cells.num = r + 3 ∧ x.cells.text = markB (r + 4).toNat ∧ MkL (MkE f) (cntE f) (r + 5).toNat x.cells.list ∧ MkN ((r + 5).toNat + cntS (cntE f) x.cells.list) x.cells.names
/-- Where the marks of a node begin. -/
def atN (f : Nat) (l : List Nd) (i : Nat) : Int := 1 + 5 * (i : Int) + (cntNs f (l.take i) : Int)
def MkNs (f : Nat) (l : List Nd) : Prop := ∀ (i : Nat) (h : i < l.length), MkNd f (atN f l i) l[i]

theorem cntNs_append (f : Nat) (a b : List Nd) : cntNs f (a ++ b) = cntNs f a + cntNs f b := by
  induction a with
  | nil => simp [cntNs]
  | cons x a ih => simp only [List.cons_append, cntNs, ih]; omega
theorem cntNs_take_le (f : Nat) (l : List Nd) (j : Nat) : cntNs f (l.take j) ≤ cntNs f l := by
  have h := cntNs_append f (l.take j) (l.drop j)
  rw [List.take_append_drop] at h
  omega
theorem cntNs_take_congr (f : Nat) {l m : List Nd} (hl : m.length = l.length) (hc : ∀ (q : Nat) (h : q < l.length) (h' : q < m.length), cntN f m[q] = cntN f l[q]) : ∀ j, j ≤ l.length → cntNs f (m.take j) = cntNs f (l.take j)
  | 0, _ => by simp
  | j + 1, h => by rw [cntNs_snoc f (by omega), cntNs_snoc f (by omega), cntNs_take_congr f hl hc j (by omega), hc j (by omega) (by omega)]

structure MixN (f : Nat) (l m : List Nd) (j : Nat) : Prop where
  len : m.length = l.length
  rest : ∀ (q : Nat) (h : q < l.length) (h' : q < m.length), j ≤ q → m[q] = l[q]
  mark : ∀ (q : Nat) (h : q < m.length), q < j → MkNd f (atN f l q) m[q]
  cnt : ∀ (q : Nat) (h : q < l.length) (h' : q < m.length), cntN f m[q] = cntN f l[q]
theorem MixN.start (f : Nat) (l : List Nd) : MixN f l l 0 := ⟨rfl, fun _ _ _ _ => rfl, fun _ _ h => absurd h (Nat.not_lt_zero _), fun _ _ _ => rfl⟩
theorem MixN.step {f : Nat} {l m : List Nd} {j : Nat} (h : MixN f l m j) {x : Nd} (hj : j < l.length) (hm : MkNd f (atN f l j) x) (hc : cntN f x = cntN f l[j]) : MixN f l (m.set j x) (j + 1) := by
  refine ⟨by rw [List.length_set]; exact h.len, fun q h1 h2 hq => ?_, fun q h1 hq => ?_, fun q h1 h2 => ?_⟩
  · rw [List.getElem_set_ne (by omega)]; exact h.rest q h1 (by have := h.len; omega) (by omega)
  · by_cases he : j = q
    · subst he; rw [List.getElem_set_self]; exact hm
    · rw [List.getElem_set_ne he]; exact h.mark q (by simpa using h1) (by omega)
  · by_cases he : j = q
    · subst he; rw [List.getElem_set_self]; exact hc
    · rw [List.getElem_set_ne he]; exact h.cnt q h1 (by simpa using h2)
theorem MixN.fin {f : Nat} {l m : List Nd} (h : MixN f l m l.length) : m.length = l.length ∧ cntNs f m = cntNs f l ∧ MkNs f m := by
  have hc : ∀ j, j ≤ l.length → cntNs f (m.take j) = cntNs f (l.take j) := cntNs_take_congr f h.len h.cnt
  refine ⟨h.len, ?_, fun i hi => ?_⟩
  · have := hc l.length (Nat.le_refl _)
    rw [List.take_length, ← h.len, List.take_length] at this
    exact this
  · unfold atN
    rw [hc i (by have := h.len; omega)]
    exact h.mark i hi (by have := h.len; omega)

theorem markTextN (n : Int) (w : World) (h1 : 1 ≤ n) (h2 : n ≤ 99999999) : Calls Try.prog 51 #[.int .i64 n] w fun e w' => ∃ s : ByteArray, e = .returned (.string s) ∧ s = markB n.toNat ∧ Below w.heap.size w w' := by
  have := markText_any n.toNat w (by omega) (by omega)
  rw [Int.toNat_of_nonneg (by omega)] at this
  exact this.mono (fun e w' ⟨h1, h2⟩ => ⟨_, h1, rfl, h2⟩)
theorem markValueSN (f : Nat) (l : List Vl) (v : Value) (q0 q1 : Nat) (n : Int) (w : World) (hr : OwnRow w 29 5 80 (VlO w f) q0 q1 l v) (hq : q1 ≤ w.heap.size) (h1 : 1 ≤ n) (h2 : n + cntS (cntE f) l ≤ 99999990) :
    Calls Try.prog 33 #[v, .int .i64 n] w fun e w' => e = .returned (.int .i64 (n + cntS (cntE f) l)) ∧ ∃ l', l'.length = l.length ∧ cntS (cntE f) l' = cntS (cntE f) l ∧ MkL (MkE f) (cntE f) n.toNat l' ∧ OwnRow w' 29 5 80 (VlO w' f) q0 q1 l' v ∧ TurnsP (FootL v q0 q1) w w' := by
  have := markL_all f l v q0 q1 n.toNat w hr hq (by omega) (by omega)
  rw [Int.toNat_of_nonneg (by omega)] at this
  refine this.mono (fun e w' ⟨h1, h2⟩ => ⟨?_, h2⟩)
  rw [h1]
  push_cast
  rw [Int.toNat_of_nonneg (by omega)]
theorem markStringSN (l : List ByteArray) (v : Value) (n : Int) (w : World) (hr : OwnRow w 9 1 16 StrO 0 0 l v) (h1 : 1 ≤ n) (h2 : n + l.length ≤ 99999990) :
    Calls Try.prog 34 #[v, .int .i64 n] w fun e w' => e = .returned (.int .i64 (n + l.length)) ∧ ∃ l', l'.length = l.length ∧ MkN n.toNat l' ∧ OwnRow w' 9 1 16 StrO 0 0 l' v ∧ TurnsP (At v) w w' := by
  have := markStringS_any l v n.toNat w hr (by omega) (by omega)
  rw [Int.toNat_of_nonneg (by omega)] at this
  refine this.mono (fun e w' ⟨h1, h2⟩ => ⟨?_, h2⟩)
  rw [h1]
  push_cast
  rw [Int.toNat_of_nonneg (by omega)]
theorem heldValueSN (f : Nat) (l : List Vl) (v : Value) (n : Int) (w : World) (hr : Row w 0 5 80 (VlR w 0 f) l v) (hM : MkL (MkE f) (cntE f) n.toNat l) (h1 : 1 ≤ n) (h2 : n + cntS (cntE f) l ≤ 99999990) :
    Calls Try.prog 35 #[v, .int .i64 n] w fun e w' => e = .returned (.int .i64 (n + cntS (cntE f) l)) ∧ Below w.heap.size w w' := by
  have := heldL_all f l v n.toNat w hr hM (by omega) (by omega)
  rw [Int.toNat_of_nonneg (by omega)] at this
  refine this.mono (fun e w' ⟨h1, h2⟩ => ⟨?_, h2⟩)
  rw [h1]
  push_cast
  rw [Int.toNat_of_nonneg (by omega)]
theorem heldStringSN (l : List ByteArray) (v : Value) (n : Int) (w : World) (hr : StrRow w 0 l v) (hM : MkN n.toNat l) (h1 : 1 ≤ n) (h2 : n + l.length ≤ 99999990) :
    Calls Try.prog 36 #[v, .int .i64 n] w fun e w' => e = .returned (.int .i64 (n + l.length)) ∧ Below w.heap.size w w' := by
  have := heldStringS_any l v n.toNat w hr hM (by omega) (by omega)
  rw [Int.toNat_of_nonneg (by omega)] at this
  refine this.mono (fun e w' ⟨h1, h2⟩ => ⟨?_, h2⟩)
  rw [h1]
  push_cast
  rw [Int.toNat_of_nonneg (by omega)]

/-- The nodes in a block of their own, each in its interval. -/
def Rest (W : World) (f b : Nat) (p : Nat → Nat) (l : List Nd) : Prop :=
  ∃ c, Owns W b c 82 ∧ c.size = l.length * 7 ∧ ∀ (m : Nat) (h : m < l.length), ∃ cs, cs.length = 7 ∧ (∀ q, q < 7 → c[m * 7 + q]? = cs[q]?) ∧ NdO W f (p m) (p (m + 1)) l[m] cs

/-- Within a round: only the nodes' block has turned, of what was there. -/
structure MkSt (lo hi : Nat) (w wr W : World) (b : Nat) (c : Array Value) : Prop where
  own : Owns W b c 82
  oth : ∀ y, y < wr.heap.size → y ≠ b → W.heap[y]? = wr.heap[y]?
  size : wr.heap.size ≤ W.heap.size
  turns : TurnsP (FootV lo hi) w W
theorem MkSt.set {lo hi : Nat} {w wr W : World} {b : Nat} {c : Array Value} (h : MkSt lo hi w wr W b c) (hb : lo ≤ b ∧ b < hi) (o : Nat) (u : Value) : MkSt lo hi w wr (W.setCell ⟨b, o, none⟩ u) b (c.setIfInBounds o u) :=
  ⟨h.own.set o u, fun y h1 h2 => (Below.heap_setCell _ _ _ _ h2).trans (h.oth y h1 h2), by have := h.size; simp [World.setCell]; exact this, h.turns.setCell (o := o) hb u⟩
theorem MkSt.below {lo hi : Nat} {w wr W W' : World} {b : Nat} {c : Array Value} (h : MkSt lo hi w wr W b c) (hb : Below W.heap.size W W') : MkSt lo hi w wr W' b c :=
  ⟨h.own.same (hb.block b h.own.lt), fun y h1 h2 => (hb.block y (by have := h.size; omega)).trans (h.oth y h1 h2), by have := h.size; have := hb.size; omega, h.turns.trans (TurnsP.of_below hb (Nat.le_refl _))⟩
theorem MkSt.slot {lo hi : Nat} {w wr W : World} {b : Nat} {c : Array Value} (h : MkSt lo hi w wr W b c) {o : Nat} (ho : o < c.size) : (∃ x, W.cell? ⟨b, o, none⟩ = some x) ∧ W.frozen? ⟨b, o, none⟩ = false :=
  ⟨⟨c[o]'ho, by rw [h.own.cell]; exact Array.getElem?_eq_getElem _⟩, h.own.frozen _⟩

theorem get5 {c : Array Value} {i : Nat} {x0 x1 x2 x3 x4 x5 x6 : Value} (hs : i + 7 ≤ c.size) (h5 : c[i + 5]? = some x5) (h6 : c[i + 6]? = some x6) : ∀ q, q < 7 → (((((c.setIfInBounds i x0).setIfInBounds (i + 1) x1).setIfInBounds (i + 2) x2).setIfInBounds (i + 3) x3).setIfInBounds (i + 4) x4)[i + q]? = [x0, x1, x2, x3, x4, x5, x6][q]? := by
  intro q hq
  rcases (show q = 0 ∨ q = 1 ∨ q = 2 ∨ q = 3 ∨ q = 4 ∨ q = 5 ∨ q = 6 by omega) with rfl | rfl | rfl | rfl | rfl | rfl | rfl <;> simp [Array.getElem?_setIfInBounds, h5, h6] <;> omega
theorem out5 {c : Array Value} {i o : Nat} {x0 x1 x2 x3 x4 : Value} (h : o < i ∨ i + 5 ≤ o) : (((((c.setIfInBounds i x0).setIfInBounds (i + 1) x1).setIfInBounds (i + 2) x2).setIfInBounds (i + 3) x3).setIfInBounds (i + 4) x4)[o]? = c[o]? := by
  rw [Array.getElem?_setIfInBounds_ne (by omega), Array.getElem?_setIfInBounds_ne (by omega), Array.getElem?_setIfInBounds_ne (by omega), Array.getElem?_setIfInBounds_ne (by omega), Array.getElem?_setIfInBounds_ne (by omega)]

set_option maxHeartbeats 4000000 in
theorem markNodes_any (f : Nat) (l : List Nd) (v : Value) (q0 q1 lo hi : Nat) (w : World) (hrow : NdOwn w (f + 1) q0 q1 l v) (hq1 : q1 ≤ w.heap.size) (hlo : lo ≤ q0) (hhi : q1 ≤ hi) (hAt : ∀ b, At v b → lo ≤ b ∧ b < hi) (hk : 1 + 5 * l.length + cntNs f l ≤ 99999990) :
    Calls Try.prog 21 #[v, .int .i64 1] w fun e w' => e = .returned (.int .i64 (1 + 5 * (l.length : Int) + (cntNs f l : Int))) ∧ (∃ m, m.length = l.length ∧ cntNs f m = cntNs f l ∧ MkNs f m ∧ NdOwn w' (f + 1) q0 q1 m v) ∧ TurnsP (FootV lo hi) w w' := by
  rcases hrow with ⟨rfl, rfl⟩ | ⟨b, c, p, rfl, h1, h2, h3, h4, h5, h6, h7, h8⟩
  · go_enter Try.func21, Try.ntmps21
    go_wp2_with fail
    refine wp_loop_rounds 1 ?_
    rw [rounds_succ]
    go_wp2_with fail
    go_ret
    exact ⟨rfl, ⟨[], rfl, rfl, fun i h => absurd h (Nat.not_lt_zero _), Or.inl ⟨rfl, rfl⟩⟩, TurnsP.refl _ _⟩
  have hb := hAt b (At.mk _ _ _)
  have hlen : (l.length : Int) ≤ 99999990 := by omega
  have HREST : Hid (Rest w (f + 1) b p l) := ⟨c, h2, h3, h8⟩
  have HF : Hid (lo ≤ b ∧ b < hi ∧ lo ≤ q0 ∧ q1 ≤ hi ∧ (b < q0 ∨ q1 ≤ b) ∧ q0 ≤ p 0 ∧ p l.length ≤ q1 ∧ q1 ≤ w.heap.size) := ⟨hb.1, hb.2, hlo, hhi, h4, h5, h6, hq1⟩
  have HCH : Hid (∀ m, m < l.length → p m ≤ p (m + 1)) := h7
  have HK : Hid (1 + 5 * l.length + cntNs f l ≤ 99999990) := hk
  have HW : Hid (l.length * 104 ≤ 140737488351232) := h1
  clear h1 h2 h3 h4 h5 h6 h7 h8 hb hlo hhi hAt hq1 hk
  go_enter Try.func21, Try.ntmps21
  go_wp2_with fail
  go_loopw [1, 5] (fun n i wr => ∃ (j : Nat) (r : Int) (m : List Nd), j ≤ l.length ∧ i = .int .i64 j ∧ n = .int .i64 r ∧ Hid (r = atN f l j) ∧ Hid (MixN f l m j) ∧ Hid (Rest wr (f + 1) b p m) ∧ Hid (TurnsP (FootV lo hi) w wr)) (fun _ i _ => l.length - (intOf i).toNat)
  case atStart => exact ⟨0, 1, l, Nat.zero_le _, rfl, rfl, (by show (1 : Int) = _; simp [atN, cntNs]), MixN.start f l, HREST.out, TurnsP.refl _ _⟩
  case round =>
    obtain ⟨j, r, m, hj, rfl, rfl, HR, HMX, HRE, HT⟩ := hrel
    have hjl : (j : Int) ≤ 99999990 := by omega
    by_cases hlt : j < l.length
    · have hlti : (j : Int) < (l.length : Int) := by omega
      obtain ⟨c, h2, h3, h8⟩ := HRE.out
      have hml := HMX.out.len
      obtain ⟨cs, hcl, hcc, hN⟩ := h8 j (by omega)
      rw [HMX.out.rest j hlt (by omega) (Nat.le_refl _)] at hN
      obtain ⟨vl, vn, rfl, _, _, hV⟩ := hN
      obtain ⟨vl', vn', r0, r1, he, _, _, _, hr0, hr1, hL, hNm, hAl, hAn⟩ := hV
      simp only [List.cons.injEq, true_and, and_true] at he
      obtain ⟨rfl, rfl⟩ := he
      obtain ⟨al, rfl, _⟩ := hL.len
      obtain ⟨an, rfl, _⟩ := hNm.len
      have hff := HF.out
      have hpj : q0 ≤ p j ∧ p j ≤ p (j + 1) ∧ p (j + 1) ≤ q1 := ⟨Nat.le_trans hff.2.2.2.2.2.1 (chain_le HCH.out (Nat.zero_le _) (by omega)), HCH.out j hlt, Nat.le_trans (chain_le HCH.out (by omega) (Nat.le_refl _)) hff.2.2.2.2.2.2.1⟩
      have hws : w.heap.size ≤ wr.heap.size := HT.out.size
      have hcnt : cntNs f (l.take (j + 1)) = cntNs f (l.take j) + cntN f l[j] := cntNs_snoc f hlt
      have hle : cntNs f (l.take (j + 1)) ≤ cntNs f l := cntNs_take_le f l (j + 1)
      have hr : 1 ≤ r ∧ r + 5 + (cntN f l[j] : Int) ≤ 99999990 := by
        have h1 := HR.out; have h2 := HK.out
        unfold atN at h1
        constructor
        · omega
        · push_cast at *; omega
      have HR1 : Hid (r + 5 + (cntN f l[j] : Int) = atN f l (j + 1)) := by
        have h1 := HR.out
        unfold atN at h1
        show _ = atN f l (j + 1)
        unfold atN
        rw [hcnt]; push_cast; omega
      have hcN : cntN f l[j] = cntS (cntE f) l[j].cells.list + l[j].cells.names.length := rfl
      have HSZ : Hid (j * 7 + 7 ≤ c.size) := by show _ ≤ _; omega
      have HL5 : Hid (c[j * 7 + 5]? = some (.slice al l[j].cells.list.length l[j].cells.list.length)) := hcc 5 (by omega)
      have HL6 : Hid (c[j * 7 + 6]? = some (.slice an l[j].cells.names.length l[j].cells.names.length)) := hcc 6 (by omega)
      have HL : Hid (OwnRow wr 29 5 80 (VlO wr f) r0 r1 l[j].cells.list (.slice al l[j].cells.list.length l[j].cells.list.length)) := hL
      have HNm : Hid (OwnRow wr 9 1 16 StrO 0 0 l[j].cells.names (.slice an l[j].cells.names.length l[j].cells.names.length)) := hNm
      have HAl : Hid _ := hAl
      have HAn : Hid _ := hAn
      have HOTH : Hid (∀ (q : Nat) (h : q < m.length), ∃ cs, cs.length = 7 ∧ (∀ r, r < 7 → c[q * 7 + r]? = cs[r]?) ∧ NdO wr (f + 1) (p q) (p (q + 1)) m[q] cs) := h8
      have HCS : Hid (c.size = m.length * 7) := h3
      have HRI : Hid (lo ≤ p j ∧ p (j + 1) ≤ hi ∧ p j ≤ r0 ∧ r1 ≤ p (j + 1) ∧ p (j + 1) ≤ wr.heap.size ∧ (b < p j ∨ p (j + 1) ≤ b)) := ⟨by omega, by omega, hr0, hr1, by omega, by omega⟩
      have HBF : Hid (lo ≤ b ∧ b < hi) := ⟨hff.1, hff.2.1⟩
      have HST0 : Hid (MkSt lo hi w wr wr b c) := ⟨h2, fun _ _ _ => rfl, Nat.le_refl _, HT.out⟩
      have HML : Hid (m.length = l.length) := hml
      obtain ⟨⟨x0, s0⟩, f0⟩ := HST0.out.slot (o := j * 7) (by have := HSZ.out; omega)
      clear h2 h3 h8 hcl hcc hL hNm hAl hAn hff hpj hws hml HREST
      go_wp2_with fail
      refine (markTextN _ _ (by omega) (by omega)).mono ?_
      rintro e w1 ⟨m1, rfl, hm1, hb1⟩
      have HM1 : Hid (m1 = markB (r + 1).toNat) := hm1
      have HST1 : Hid (MkSt lo hi w wr w1 b (c.setIfInBounds (j * 7) (.int .i64 r))) := MkSt.below (HST0.out.set HBF.out (j * 7) (.int .i64 r)) hb1
      clear hb1 HST0 s0 f0 hm1
      obtain ⟨⟨x1, s1⟩, f1⟩ := HST1.out.slot (o := j * 7 + 1) (by have := HSZ.out; simp; omega)
      obtain ⟨⟨x2, s2⟩, f2⟩ := HST1.out.slot (o := j * 7 + 2) (by have := HSZ.out; simp; omega)
      obtain ⟨⟨x3, s3⟩, f3⟩ := HST1.out.slot (o := j * 7 + 3) (by have := HSZ.out; simp; omega)
      have hbl1 := HST1.out.own.lt
      go_wp2_with fail
      refine (markTextN _ _ (by omega) (by omega)).mono ?_
      rintro e w2 ⟨m2, rfl, hm2, hb2⟩
      have HM2 : Hid (m2 = markB (r + 4).toNat) := by show m2 = _; rw [hm2]; congr 1; omega
      have HST2 : Hid (MkSt lo hi w wr w2 b ((((c.setIfInBounds (j * 7) (.int .i64 r)).setIfInBounds (j * 7 + 1) (.string m1)).setIfInBounds (j * 7 + 2) (.int .i64 (r + 2))).setIfInBounds (j * 7 + 3) (.int .i64 (r + 3)))) := by
        have h := MkSt.below (((HST1.out.set HBF.out (j * 7 + 1) _).set HBF.out (j * 7 + 2) _).set HBF.out (j * 7 + 3) _) hb2
        have e2 : r + 1 + 1 = r + 2 := by omega
        have e3 : r + 1 + 1 + 1 = r + 3 := by omega
        first | exact h | (rw [e2, e3] at h; exact h) | (rw [e3, e2] at h; exact h)
      clear hb2 HST1 s1 f1 s2 f2 s3 f3 hbl1 hm2
      obtain ⟨⟨x4, s4⟩, f4⟩ := HST2.out.slot (o := j * 7 + 4) (by have := HSZ.out; simp; omega)
      have s5 : w2.cell? ⟨b, j * 7 + 5, none⟩ = some (.slice al l[j].cells.list.length l[j].cells.list.length) := by
        rw [HST2.out.own.cell, Array.getElem?_setIfInBounds_ne (by omega), Array.getElem?_setIfInBounds_ne (by omega), Array.getElem?_setIfInBounds_ne (by omega), Array.getElem?_setIfInBounds_ne (by omega)]
        exact HL5.out
      have hbl2 := HST2.out.own.lt
      go_wp2_with fail
      obtain ⟨W3, hW3⟩ : ∃ W, W = w2.setCell ⟨b, j * 7 + 4, none⟩ (.string m2) := ⟨_, rfl⟩
      have HST3 : Hid (MkSt lo hi w wr W3 b (((((c.setIfInBounds (j * 7) (.int .i64 r)).setIfInBounds (j * 7 + 1) (.string m1)).setIfInBounds (j * 7 + 2) (.int .i64 (r + 2))).setIfInBounds (j * 7 + 3) (.int .i64 (r + 3))).setIfInBounds (j * 7 + 4) (.string m2))) := by rw [hW3]; exact HST2.out.set HBF.out (j * 7 + 4) _
      have hri := HRI.out
      have HL3 : Hid (OwnRow W3 29 5 80 (VlO W3 f) r0 r1 l[j].cells.list (.slice al l[j].cells.list.length l[j].cells.list.length)) := OwnRow.same HL.out (fun y hy => HST3.out.oth y (by have := HAl.out y hy; omega) (by have := HAl.out y hy; omega)) (fun a' b' x cs ha hb hx => VlO.same f a' b' x cs (fun y y1 y2 => HST3.out.oth y (by omega) (by omega)) hx)
      have hsz3 := HST3.out.size
      have hW3' : w2.setCell ⟨b, j * 7 + 2 + 2, none⟩ (.string m2) = W3 := hW3.symm
      rw [hW3']
      clear hW3 hW3' s4 f4 s5 HST2
      refine (markValueSN f l[j].cells.list _ r0 r1 _ W3 HL3.out (by omega) (by omega) (by rw [hcN] at hr; push_cast at hr; omega)).mono ?_
      rintro e w3 ⟨rfl, L3, hL3l, hL3c, hL3m, hL3o, hT3⟩
      have e5 : (r + 1 + 1 + 1 + 1 + 1).toNat = (r + 5).toNat := by congr 1; omega
      rw [e5] at hL3m
      have HL3M : Hid (L3.length = l[j].cells.list.length ∧ cntS (cntE f) L3 = cntS (cntE f) l[j].cells.list ∧ MkL (MkE f) (cntE f) (r + 5).toNat L3) := ⟨hL3l, hL3c, hL3m⟩
      have HL3O : Hid (OwnRow w3 29 5 80 (VlO w3 f) r0 r1 L3 (.slice al l[j].cells.list.length l[j].cells.list.length)) := hL3o
      have hne3 : ¬ FootL (.slice al l[j].cells.list.length l[j].cells.list.length) r0 r1 b := fun h => by
        rcases h with h | h
        · have := HAl.out b h; omega
        · omega
      have hC3 := HST3.out.own.same (hT3.block b HST3.out.own.lt hne3)
      have HO3 : Hid (∀ y, y < wr.heap.size → y ≠ b → ¬ (p j ≤ y ∧ y < p (j + 1)) → w3.heap[y]? = wr.heap[y]?) := fun y h1 h2 h3 => (hT3.block y (by omega) (fun h => by
        rcases h with h | h
        · have := HAl.out y h; omega
        · omega)).trans (HST3.out.oth y h1 h2)
      have HTW3 : Hid (TurnsP (FootV lo hi) w w3) := HST3.out.turns.trans (hT3.mono (fun y hy => by
        rcases hy with hy | hy
        · have := HAl.out y hy; exact ⟨by omega, by omega⟩
        · exact ⟨by omega, by omega⟩))
      have HN3 : Hid (OwnRow w3 9 1 16 StrO 0 0 l[j].cells.names (.slice an l[j].cells.names.length l[j].cells.names.length)) := StrO.row_same HNm.out (fun y hy => by
        obtain ⟨y1, y2, y3, y4⟩ := HAn.out y hy
        rw [hT3.block y (by omega) (fun h => by rcases h with h | h; exact y4 h; omega)]
        exact HST3.out.oth y (by omega) (by omega))
      have hs3 : wr.heap.size ≤ w3.heap.size := by have := hT3.size; omega
      have HC3 : Hid (Owns w3 b (((((c.setIfInBounds (j * 7) (.int .i64 r)).setIfInBounds (j * 7 + 1) (.string m1)).setIfInBounds (j * 7 + 2) (.int .i64 (r + 2))).setIfInBounds (j * 7 + 3) (.int .i64 (r + 3))).setIfInBounds (j * 7 + 4) (.string m2)) 82) := hC3
      have s6 : w3.cell? ⟨b, j * 7 + 6, none⟩ = some (.slice an l[j].cells.names.length l[j].cells.names.length) := by rw [hC3.cell, out5 (by omega)]; exact HL6.out
      clear hT3 hC3 hne3 HST3 HL3 HL e5 hL3l hL3c hL3m hL3o
      go_wp2_with fail
      refine (markStringSN l[j].cells.names _ _ w3 HN3.out (by omega) (by rw [hcN] at hr; push_cast at hr; omega)).mono ?_
      rintro e w4 ⟨rfl, N4, hN4l, hN4m, hN4o, hT4⟩
      have e6 : (r + 1 + 1 + 1 + 1 + 1 + (cntS (cntE f) l[j].cells.list : Int)).toNat = (r + 5).toNat + cntS (cntE f) l[j].cells.list := by omega
      rw [e6] at hN4m
      obtain ⟨g1, g2, g3⟩ := HL3M.out
      have hX : MkNd f r ⟨r, m1, ⟨r + 2, r + 3, m2, L3, N4⟩⟩ := ⟨rfl, HM1.out, rfl, rfl, HM2.out, g3, by show MkN ((r + 5).toNat + cntS (cntE f) L3) N4; rw [g2]; exact hN4m⟩
      have hXc : cntN f ⟨r, m1, ⟨r + 2, r + 3, m2, L3, N4⟩⟩ = cntN f l[j] := by show cntS (cntE f) L3 + N4.length = _; rw [g2, hN4l]; rfl
      have HMX4 : Hid (MixN f l (m.set j ⟨r, m1, ⟨r + 2, r + 3, m2, L3, N4⟩⟩) (j + 1)) := HMX.out.step hlt (HR.out ▸ hX) hXc
      have HRE4 : Hid (Rest w4 (f + 1) b p (m.set j ⟨r, m1, ⟨r + 2, r + 3, m2, L3, N4⟩⟩)) := by
        have hO4 := HC3.out.same (hT4.block b HC3.out.lt (fun h => by have := HAn.out b h; omega))
        have hsz := HSZ.out
        have hml := HML.out
        refine ⟨_, hO4, by simp only [Array.size_setIfInBounds, List.length_set]; exact HCS.out, fun q hq => ?_⟩
        rw [List.length_set] at hq
        by_cases hqj : q = j
        · subst hqj
          simp only [List.getElem_set_self]
          refine ⟨[.int .i64 r, .string m1, .int .i64 (r + 2), .int .i64 (r + 3), .string m2, .slice al l[q].cells.list.length l[q].cells.list.length, .slice an l[q].cells.names.length l[q].cells.names.length], rfl, get5 hsz HL5.out HL6.out, _, _, rfl, ⟨by show _ ≤ r; omega, by show r ≤ _; omega⟩, by show m1.size ≤ _; rw [HM1.out]; exact markB_size _, _, _, r0, r1, rfl, ⟨by show _ ≤ r + 2; omega, by show r + 2 ≤ _; omega⟩, ⟨by show _ ≤ r + 3; omega, by show r + 3 ≤ _; omega⟩, by show m2.size ≤ _; rw [HM2.out]; exact markB_size _, by omega, by omega, ?_, hN4o, HAl.out, HAn.out⟩
          exact OwnRow.same HL3O.out (fun y hy => hT4.block y (by have := HAl.out y hy; omega) (fun h => (HAn.out y h).2.2.2 hy)) (fun a' b' x cs ha hb hx => VlO.same f a' b' x cs (fun y y1 y2 => hT4.block y (by omega) (fun h => by have := (HAn.out y h).2.2.1; omega)) hx)
        · simp only [List.getElem_set_ne (fun h => hqj h.symm)]
          obtain ⟨cs, k1, k2, k3⟩ := HOTH.out q hq
          refine ⟨cs, k1, fun r' hr' => (out5 (by omega)).trans (k2 r' hr'), k3.same (fun y y1 y2 => ?_)⟩
          have hff := HF.out
          have hp2 : p (q + 1) ≤ q1 := Nat.le_trans (chain_le HCH.out (by omega) (Nat.le_refl _)) hff.2.2.2.2.2.2.1
          have hp3 : q0 ≤ p q := Nat.le_trans hff.2.2.2.2.2.1 (chain_le HCH.out (Nat.zero_le _) (by omega))
          have hws : w.heap.size ≤ wr.heap.size := HT.out.size
          have hpq : p (q + 1) ≤ p j ∨ p (j + 1) ≤ p q := by
            rcases Nat.lt_or_gt_of_ne hqj with h | h
            · exact Or.inl (chain_le HCH.out (by omega) (by omega))
            · exact Or.inr (chain_le HCH.out (by omega) (by omega))
          rw [hT4.block y (by omega) (fun h => by have := HAn.out y h; omega)]
          exact HO3.out y (by omega) (by omega) (by omega)
      have HT4 : Hid (TurnsP (FootV lo hi) w w4) := HTW3.out.trans (hT4.mono (fun y hy => by
        have := HAn.out y hy
        exact ⟨by omega, by omega⟩))
      have HR4 : Hid (r + 1 + 1 + 1 + 1 + 1 + (cntS (cntE f) l[j].cells.list : Int) + (l[j].cells.names.length : Int) = atN f l (j + 1)) := by
        show _ = _
        have h1 := HR1.out
        rw [hcN] at h1
        push_cast at h1
        omega
      clear hT4 s6 hcnt hle hr hcN hri hX hXc g1 g2 g3 e6 hN4l hN4m hN4o
      go_wp2_with fail
      exact ⟨⟨j + 1, _, _, by omega, by go_num, rfl, HR4, HMX4, HRE4, HT4⟩, by simp [intOf]; omega⟩
    · obtain rfl : j = l.length := by omega
      go_wp2_with fail
      go_ret
      obtain ⟨g1, g2, g3⟩ := HMX.out.fin
      refine ⟨?_, ⟨m, g1, g2, g3, ?_⟩, HT.out⟩
      · have h1 := HR.out
        unfold atN at h1
        rw [List.take_length] at h1
        rw [h1]
        rfl
      · obtain ⟨c, k1, k2, k3⟩ := HRE.out
        have hff := HF.out
        exact Or.inr ⟨b, c, p, by rw [g1], by rw [g1]; exact HW.out, k1, k2, hff.2.2.2.2.1, hff.2.2.2.2.2.1, by rw [g1]; exact hff.2.2.2.2.2.2.1, fun q hq => HCH.out q (by omega), k3⟩

set_option maxHeartbeats 4000000 in
set_option maxRecDepth 100000 in
theorem heldNodes_any (f : Nat) (l : List Nd) (v : Value) (w : World) (hrow : NdRow w 0 (f + 1) l v) (hM : MkNs f l) (hk : 1 + 5 * l.length + cntNs f l ≤ 99999990) :
    Calls Try.prog 22 #[v, .int .i64 1] w fun e w' => e = .returned (.int .i64 (1 + 5 * (l.length : Int) + (cntNs f l : Int))) ∧ Below w.heap.size w w' := by
  obtain ⟨a, cap, rfl, hw, hrest⟩ := Row.len hrow
  have hlen : (l.length : Int) ≤ 99999990 := by omega
  have HREST : Hid _ := hrest
  have HM : Hid (MkNs f l) := hM
  have HK : Hid (1 + 5 * l.length + cntNs f l ≤ 99999990) := hk
  clear hrow hrest hM hk
  go_enter Try.func22, Try.ntmps22
  go_wp2_with fail
  go_loopw [1, 5] (fun n i wr => ∃ (j : Nat) (r : Int), j ≤ l.length ∧ i = .int .i64 j ∧ n = .int .i64 r ∧ Hid (r = atN f l j) ∧ Hid (Below w.heap.size w wr)) (fun _ i _ => l.length - (intOf i).toNat)
  case atStart => exact ⟨0, 1, Nat.zero_le _, rfl, rfl, (by show (1 : Int) = _; simp [atN, cntNs]), Below.refl _ _⟩
  case round =>
    obtain ⟨j, r, hj, rfl, rfl, HR, HB⟩ := hrel
    have hjl : (j : Int) ≤ 99999990 := by omega
    by_cases hlt : j < l.length
    · have hlti : (j : Int) < (l.length : Int) := by omega
      obtain ⟨b, off, rfl, _, hcs⟩ := HREST.out (List.ne_nil_of_length_pos (by omega))
      obtain ⟨cs, _, hc, hR⟩ := hcs j hlt
      obtain ⟨p, n, p', n', rfl⟩ := hR.cells
      have hk : Keeps 0 w wr := Keeps.of_below HB.out (Nat.le_refl _) _
      obtain ⟨c0, c1, c2, c3, c4, c5, c6⟩ := (hc.keeps hk (Nat.zero_le _)).seven
      obtain ⟨m1, m2, m3, m4, m5, m6, m7⟩ := HM.out j hlt
      rw [← HR.out] at m1 m2 m3 m4 m5 m6 m7
      obtain ⟨_, _, hv, _, _, hRc⟩ := NdR.keeps hk _ _ _ hR
      simp only [List.cons.injEq, true_and, and_true] at hv
      obtain ⟨rfl, rfl⟩ := hv
      obtain ⟨_, _, hv, _, _, _, hrow, hnames⟩ := hRc
      simp only [List.cons.injEq, true_and, and_true] at hv
      obtain ⟨rfl, rfl⟩ := hv
      have HRV : Hid (∀ W, Keeps 0 wr W → Row W 0 5 80 (VlR W 0 f) l[j].cells.list (.slice p l[j].cells.list.length n)) := fun W h => VlRow.keeps h hrow
      have HRN : Hid (∀ W, Keeps 0 wr W → StrRow W 0 l[j].cells.names (.slice p' l[j].cells.names.length n')) := fun W h => hnames.keeps h
      have hcnt : cntNs f (l.take (j + 1)) = cntNs f (l.take j) + cntN f l[j] := cntNs_snoc f hlt
      have hle : cntNs f (l.take (j + 1)) ≤ cntNs f l := cntNs_take_le f l (j + 1)
      have hcN : cntN f l[j] = cntS (cntE f) l[j].cells.list + l[j].cells.names.length := rfl
      obtain ⟨cl, hcl⟩ : ∃ cl, cntS (cntE f) l[j].cells.list = cl := ⟨_, rfl⟩
      obtain ⟨nn, hnn⟩ : ∃ nn, l[j].cells.names.length = nn := ⟨_, rfl⟩
      rw [hcl, hnn] at hcN
      have hr : 1 ≤ r ∧ r + 5 + (cl : Int) + (nn : Int) ≤ 99999990 := by
        have h1 := HR.out; have h2 := HK.out
        unfold atN at h1
        constructor
        · omega
        · rw [hcN] at hcnt; push_cast at *; omega
      have HR1 : Hid (r + 5 + (cl : Int) + (nn : Int) = atN f l (j + 1)) := by
        have h1 := HR.out
        unfold atN at h1
        show _ = atN f l (j + 1)
        unfold atN
        rw [hcnt, hcN]; push_cast; omega
      have HCL : Hid (cntS (cntE f) l[j].cells.list = cl ∧ l[j].cells.names.length = nn) := ⟨hcl, hnn⟩
      have HM6 : Hid (MkL (MkE f) (cntE f) (r + 5).toNat l[j].cells.list) := m6
      have HM7 : Hid (MkN ((r + 5).toNat + cl) l[j].cells.names) := by rw [← hcl]; exact m7
      obtain ⟨t1, ht1⟩ : ∃ t1, markB (r + 1).toNat = t1 := ⟨_, rfl⟩
      obtain ⟨t2, ht2⟩ : ∃ t2, markB (r + 4).toNat = t2 := ⟨_, rfl⟩
      have HT1 : Hid (markB (r + 1).toNat = t1) := ht1
      have HT2 : Hid (markB (r + 4).toNat = t2) := ht2
      rw [m1] at c0
      rw [m2, ht1] at c1
      rw [m3] at c2
      rw [m4] at c3
      rw [m5, ht2] at c4
      have e2 : r + 1 + 1 = r + 2 := by omega
      have e3 : r + 2 + 1 = r + 3 := by omega
      have e4 : r + 3 + 1 = r + 4 := by omega
      have e5 : r + 4 + 1 = r + 5 := by omega
      have hb1 := beq_refl_bytes t1
      have hb2 := beq_refl_bytes t2
      obtain ⟨hr1, hr2⟩ := hr
      clear hc hR hcs hrow hnames m1 m2 m3 m4 m5 m6 m7 hk hcnt hle hcN ht1 ht2 HM HREST hcl hnn
      go_wp2_with fail
      go_region_with (go_at_call 51; refine (markTextN _ _ (by omega) (by omega)).mono ?_; rintro e w1 ⟨s1, rfl, hs1, hb3⟩; obtain rfl := hs1.trans HT1.out; have y1 := cell_on (W := wr.drew) hb3 c1; have HB1 : Hid _ := hb3; clear hb3)
      all_goals
        have y2 := cell_on (W := wr.drew) HB1.out c2
        have y3 := cell_on (W := wr.drew) HB1.out c3
        have y4 := cell_on (W := wr.drew) HB1.out c4
        have y5 := cell_on (W := wr.drew) HB1.out c5
        have y6 := cell_on (W := wr.drew) HB1.out c6
        have HB2 : Hid (Below w.heap.size w w1) := HB.out.drew.trans (Below.mono HB1.out HB.out.size)
        have HKE : Hid (Keeps 0 wr w1) := (Keeps.refl _ _).drew.trans (Keeps.of_below HB1.out (Nat.le_refl _) _)
        clear c0 c1 c2 c3 c4 c5 c6 y1
        go_wp2_with fail
        go_region_with (go_at_call 51; refine (markTextN _ _ (by omega) (by omega)).mono ?_; rintro e w2 ⟨s2, rfl, hs2, hb3⟩; obtain rfl := hs2.trans HT2.out; have z4 := cell_on (W := w1.drew) hb3 y4; have HB3 : Hid _ := hb3; clear hb3)
        all_goals
          have z5 := cell_on (W := w1.drew) HB3.out y5
          have z6 := cell_on (W := w1.drew) HB3.out y6
          have HB4 : Hid (Below w.heap.size w w2) := HB2.out.drew.trans (Below.mono HB3.out HB2.out.size)
          have HKE2 : Hid (Keeps 0 wr w2) := HKE.out.trans ((Keeps.refl _ _).drew.trans (Keeps.of_below HB3.out (Nat.le_refl _) _))
          clear y2 y3 y4 y5 y6 z4
          go_wp2_with fail
          refine (heldValueSN f l[j].cells.list _ _ w2 (HRV.out _ HKE2.out) HM6.out (by omega) (by rw [HCL.out.1]; omega)).mono ?_
          rintro e w3 ⟨rfl, hb5⟩
          rw [HCL.out.1]
          have z6' := cell_on hb5 z6
          have HB5 : Hid (Below w.heap.size w w3) := HB4.out.trans (hb5.mono HB4.out.size)
          have HKE3 : Hid (Keeps 0 wr w3) := HKE2.out.trans (Keeps.of_below hb5 (Nat.le_refl _) _)
          have hd3 : decide (r + 5 + (cl : Int) < 0) = false := decide_eq_false (by omega)
          have HM7' : Hid (MkN (r + 5 + (cl : Int)).toNat l[j].cells.names) := by
            show MkN _ _
            rw [show (r + 5 + (cl : Int)).toNat = (r + 5).toNat + cl by omega]
            exact HM7.out
          clear hb5 z5 z6
          go_wp2_with fail
          refine (heldStringSN l[j].cells.names _ _ w3 (HRN.out _ HKE3.out) HM7'.out (by omega) (by rw [HCL.out.2]; omega)).mono ?_
          rintro e w4 ⟨rfl, hb6⟩
          rw [HCL.out.2]
          have HB6 : Hid (Below w.heap.size w w4) := HB5.out.trans (hb6.mono HB5.out.size)
          have hd4 : decide (r + 5 + (cl : Int) + (nn : Int) < 0) = false := decide_eq_false (by omega)
          clear hb6
          go_wp2_with fail
          exact ⟨⟨j + 1, _, by omega, by go_num, rfl, HR1, HB6⟩, by simp [intOf]; omega⟩
    · obtain rfl : j = l.length := by omega
      go_wp2_with fail
      go_ret
      refine ⟨?_, HB.out⟩
      have h1 := HR.out
      unfold atN at h1
      rw [List.take_length] at h1
      rw [h1]
      rfl

end Go.Proofs.Ytehdepnemdbopaa
