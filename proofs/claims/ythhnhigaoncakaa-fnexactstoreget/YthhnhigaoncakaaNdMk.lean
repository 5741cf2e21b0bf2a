
/-
  DERIVED. THE WALK OF laws.markNodeS: it turns what the nodes own, and nothing else.
-/
import Derived.Test.YthhnhigaoncakaaNdSz
import Derived.Test.YthhnhigaoncakaaVlMarkS
namespace Go.Proofs.Ythhnhigaoncakaa
open Go.RowKit
set_option linter.unusedVariables false
set_option linter.unusedSimpArgs false

theorem markTextI (n : Int) (w : World) (h1 : 1 ≤ n) (h2 : n ≤ 99999999) : Calls Try.prog 22 #[.int .i64 n] w fun e w' => ∃ s : ByteArray, e = .returned (.string s) ∧ Below w.heap.size w w' := by
  have := markText_any n.toNat w (by omega) (by omega)
  rw [Int.toNat_of_nonneg (by omega)] at this
  exact this.mono (fun e w' ⟨h1, h2⟩ => ⟨_, h1, h2⟩)
theorem markValueSI (f : Nat) (l : List Vl) (v : Value) (q0 q1 : Nat) (n : Int) (w : World) (hr : OwnRow w 27 5 80 (VlO w f) q0 q1 l v) (hq : q1 ≤ w.heap.size) (h1 : 1 ≤ n) (h2 : n + cntS (cntE f) l ≤ 99999990) :
    Calls Try.prog 23 #[v, .int .i64 n] w fun e w' => e = .returned (.int .i64 (n + cntS (cntE f) l)) ∧ TurnsP (FootL v q0 q1) w w' := by
  have := markL_all f l v q0 q1 n.toNat w hr hq (by omega) (by omega)
  rw [Int.toNat_of_nonneg (by omega)] at this
  refine this.mono (fun e w' ⟨h1, _, _, _, _, _, h2⟩ => ⟨?_, h2⟩)
  rw [h1]
  push_cast
  rw [Int.toNat_of_nonneg (by omega)]
theorem markStringSI (l : List ByteArray) (v : Value) (n : Int) (w : World) (hr : OwnRow w 9 1 16 StrO 0 0 l v) (h1 : 1 ≤ n) (h2 : n + l.length ≤ 99999990) :
    Calls Try.prog 24 #[v, .int .i64 n] w fun e w' => e = .returned (.int .i64 (n + l.length)) ∧ TurnsP (At v) w w' := by
  have := markStringS_any l v n.toNat w hr (by omega) (by omega)
  rw [Int.toNat_of_nonneg (by omega)] at this
  refine this.mono (fun e w' ⟨h1, _, _, _, _, h2⟩ => ⟨?_, h2⟩)
  rw [h1]
  push_cast
  rw [Int.toNat_of_nonneg (by omega)]

/-- The nodes' block: of the node at place j the first five cells may have turned, of all behind it none. -/
def Ch (W : World) (b : Nat) (c : Array Value) (j : Nat) : Prop :=
  ∃ c', Owns W b c' 44 ∧ c'.size = c.size ∧ ∀ o, j * 7 + 5 ≤ o → c'[o]? = c[o]?
theorem Ch.start {W : World} {b : Nat} {c : Array Value} (h : Owns W b c 44) (j : Nat) : Ch W b c j := ⟨c, h, rfl, fun _ _ => rfl⟩
theorem Ch.set {W : World} {b : Nat} {c : Array Value} {j : Nat} (h : Ch W b c j) (q : Nat) (hq : q < 5) (u : Value) : Ch (W.setCell ⟨b, j * 7 + q, none⟩ u) b c j := by
  obtain ⟨c', h1, h2, h3⟩ := h
  refine ⟨_, h1.set _ u, by simp [h2], fun o ho => ?_⟩
  rw [Array.getElem?_setIfInBounds_ne (by omega)]
  exact h3 o ho
theorem Ch.same {W W' : World} {b : Nat} {c : Array Value} {j : Nat} (h : Ch W b c j) (hs : W'.heap[b]? = W.heap[b]?) : Ch W' b c j := by
  obtain ⟨c', h1, h2, h3⟩ := h
  exact ⟨c', h1.same hs, h2, h3⟩
theorem Ch.lt {W : World} {b : Nat} {c : Array Value} {j : Nat} (h : Ch W b c j) : b < W.heap.size := by
  obtain ⟨c', h1, _⟩ := h
  exact h1.lt
theorem Ch.slot {W : World} {b : Nat} {c : Array Value} {j : Nat} (h : Ch W b c j) {o : Nat} (ho : o < c.size) : (∃ x, W.cell? ⟨b, o, none⟩ = some x) ∧ W.frozen? ⟨b, o, none⟩ = false := by
  obtain ⟨c', h1, h2, h3⟩ := h
  exact ⟨⟨c'[o]'(by omega), by rw [h1.cell]; exact Array.getElem?_eq_getElem _⟩, h1.frozen _⟩
theorem Ch.cell {W : World} {b : Nat} {c : Array Value} {j : Nat} (h : Ch W b c j) {o : Nat} (ho : j * 7 + 5 ≤ o) : W.cell? ⟨b, o, none⟩ = c[o]? := by
  obtain ⟨c', h1, h2, h3⟩ := h
  rw [h1.cell, h3 o ho]

/-- The nodes from place j on are as they were, each in its interval. -/
def Rest (W : World) (f b : Nat) (p : Nat → Nat) (l : List Nd) (j : Nat) : Prop :=
  ∃ c, Owns W b c 44 ∧ c.size = l.length * 7 ∧ ∀ (m : Nat) (h : m < l.length), j ≤ m → ∃ cs, cs.length = 7 ∧ (∀ q, q < 7 → c[m * 7 + q]? = cs[q]?) ∧ NdO W f (p m) (p (m + 1)) l[m] cs

/-- Within a round: only the nodes' block has turned, of what was there. -/
structure MkSt (lo hi : Nat) (w wr W : World) (b : Nat) (c : Array Value) (j : Nat) : Prop where
  ch : Ch W b c j
  oth : ∀ y, y < wr.heap.size → y ≠ b → W.heap[y]? = wr.heap[y]?
  size : wr.heap.size ≤ W.heap.size
  turns : TurnsP (FootV lo hi) w W
theorem MkSt.set {lo hi : Nat} {w wr W : World} {b : Nat} {c : Array Value} {j : Nat} (h : MkSt lo hi w wr W b c j) (hb : lo ≤ b ∧ b < hi) (q : Nat) (hq : q < 5) (u : Value) : MkSt lo hi w wr (W.setCell ⟨b, j * 7 + q, none⟩ u) b c j :=
  ⟨h.ch.set q hq u, fun y h1 h2 => (Below.heap_setCell _ _ _ _ h2).trans (h.oth y h1 h2), by have := h.size; simp [World.setCell]; exact this, h.turns.setCell (o := j * 7 + q) hb u⟩
theorem MkSt.below {lo hi : Nat} {w wr W W' : World} {b : Nat} {c : Array Value} {j : Nat} (h : MkSt lo hi w wr W b c j) (hb : Below W.heap.size W W') : MkSt lo hi w wr W' b c j :=
  ⟨h.ch.same (hb.block b h.ch.lt), fun y h1 h2 => (hb.block y (by have := h.size; omega)).trans (h.oth y h1 h2), by have := h.size; have := hb.size; omega, h.turns.trans (TurnsP.of_below hb (Nat.le_refl _))⟩

set_option maxHeartbeats 4000000 in
theorem markNodeS_any (f : Nat) (l : List Nd) (v : Value) (q0 q1 lo hi : Nat) (w : World) (hrow : NdOwn w (f + 1) q0 q1 l v) (hq1 : q1 ≤ w.heap.size) (hlo : lo ≤ q0) (hhi : q1 ≤ hi) (hAt : ∀ b, At v b → lo ≤ b ∧ b < hi) (hk : 1 + 5 * l.length + cntNs f l ≤ 99999990) :
    Calls Try.prog 10 #[v, .int .i64 1] w fun e w' => (∃ r : Int, e = .returned (.int .i64 r) ∧ 0 ≤ r) ∧ TurnsP (FootV lo hi) w w' := by
  rcases hrow with ⟨rfl, rfl⟩ | ⟨b, c, p, rfl, h1, h2, h3, h4, h5, h6, h7, h8⟩
  · go_enter Try.func10, Try.ntmps10
    go_wp2_with fail
    refine wp_loop_rounds 1 ?_
    rw [rounds_succ]
    go_wp2_with fail
    go_ret
    exact ⟨⟨1, rfl, by omega⟩, TurnsP.refl _ _⟩
  have hb := hAt b (At.mk _ _ _)
  have hlen : (l.length : Int) ≤ 99999990 := by omega
  have HREST : Hid (Rest w (f + 1) b p l 0) := ⟨c, h2, h3, fun m h _ => h8 m h⟩
  have HF : Hid (lo ≤ b ∧ b < hi ∧ lo ≤ q0 ∧ q1 ≤ hi ∧ (b < q0 ∨ q1 ≤ b) ∧ q0 ≤ p 0 ∧ p l.length ≤ q1 ∧ q1 ≤ w.heap.size) := ⟨hb.1, hb.2, hlo, hhi, h4, h5, h6, hq1⟩
  have HCH : Hid (∀ m, m < l.length → p m ≤ p (m + 1)) := h7
  have HK : Hid (1 + 5 * l.length + cntNs f l ≤ 99999990) := hk
  clear h1 h2 h3 h4 h5 h6 h7 h8 hb hlo hhi hAt hq1 hk
  go_enter Try.func10, Try.ntmps10
  go_wp2_with fail
  go_loopw [1, 5] (fun n i wr => ∃ (j : Nat) (r : Int), j ≤ l.length ∧ i = .int .i64 j ∧ n = .int .i64 r ∧ Hid (r = 1 + 5 * (j : Int) + (cntNs f (l.take j) : Int)) ∧ Hid (Rest wr (f + 1) b p l j) ∧ Hid (TurnsP (FootV lo hi) w wr)) (fun _ i _ => l.length - (intOf i).toNat)
  case atStart => exact ⟨0, 1, Nat.zero_le _, rfl, rfl, (by show (1 : Int) = _; simp [cntNs]), HREST.out, TurnsP.refl _ _⟩
  case round =>
    obtain ⟨j, r, hj, rfl, rfl, HR, HRE, HT⟩ := hrel
    have hjl : (j : Int) ≤ 99999990 := by omega
    by_cases hlt : j < l.length
    · have hlti : (j : Int) < (l.length : Int) := by omega
      obtain ⟨c, h2, h3, h8⟩ := HRE.out
      obtain ⟨cs, hcl, hcc, hN⟩ := h8 j hlt (Nat.le_refl _)
      obtain ⟨vl, vn, rfl, _, _, hV⟩ := hN
      obtain ⟨vl', vn', r0, r1, he, _, _, _, hr0, hr1, hL, hNm, hAl, hAn⟩ := hV
      simp only [List.cons.injEq, true_and, and_true] at he
      obtain ⟨rfl, rfl⟩ := he
      obtain ⟨al, rfl, _⟩ := hL.len
      obtain ⟨an, rfl, _⟩ := hNm.len
      have hff := HF.out
      have hpj : q0 ≤ p j ∧ p j ≤ p (j + 1) ∧ p (j + 1) ≤ q1 := ⟨Nat.le_trans hff.2.2.2.2.2.1 (chain_le HCH.out (Nat.zero_le _) (by omega)), HCH.out j hlt, Nat.le_trans (chain_le HCH.out (by omega) (Nat.le_refl _)) hff.2.2.2.2.2.2.1⟩
      have hws : w.heap.size ≤ wr.heap.size := HT.out.size
      have hcnt : cntNs f (l.take (j + 1)) = cntNs f (l.take j) + cntN f l[j] := cntNs_snoc f hlt
      have hle : cntNs f (l.take (j + 1)) ≤ cntNs f l := by
        have h9 : ∀ (a b : List Nd), cntNs f (a ++ b) = cntNs f a + cntNs f b := fun a b => by
          induction a with
          | nil => simp [cntNs]
          | cons x a ih => simp only [List.cons_append, cntNs, ih]; omega
        have h10 := h9 (l.take (j + 1)) (l.drop (j + 1))
        rw [List.take_append_drop] at h10
        omega
      have hr : 1 ≤ r ∧ r + 5 + (cntN f l[j] : Int) ≤ 99999990 := by
        have := HR.out; have := HK.out
        constructor
        · omega
        · push_cast at *; omega
      have hcN : cntN f l[j] = cntS (cntE f) l[j].cells.list + l[j].cells.names.length := rfl
      have HC0 : Hid (Ch wr b c j) := Ch.start h2 j
      have HSZ : Hid (j * 7 + 7 ≤ c.size) := by show _ ≤ _; omega
      have HL5 : Hid (c[j * 7 + 5]? = some (.slice al l[j].cells.list.length l[j].cells.list.length)) := hcc 5 (by omega)
      have HL6 : Hid (c[j * 7 + 6]? = some (.slice an l[j].cells.names.length l[j].cells.names.length)) := hcc 6 (by omega)
      have HL : Hid (OwnRow wr 27 5 80 (VlO wr f) r0 r1 l[j].cells.list (.slice al l[j].cells.list.length l[j].cells.list.length)) := hL
      have HNm : Hid (OwnRow wr 9 1 16 StrO 0 0 l[j].cells.names (.slice an l[j].cells.names.length l[j].cells.names.length)) := hNm
      have HAl : Hid _ := hAl
      have HAn : Hid _ := hAn
      have HOTH : Hid (∀ (m : Nat) (h : m < l.length), j + 1 ≤ m → ∃ cs, cs.length = 7 ∧ (∀ q, q < 7 → c[m * 7 + q]? = cs[q]?) ∧ NdO wr (f + 1) (p m) (p (m + 1)) l[m] cs) := fun m h hm => h8 m h (by omega)
      have HCS : Hid (c.size = l.length * 7) := h3
      have HRI : Hid (lo ≤ p j ∧ p (j + 1) ≤ hi ∧ p j ≤ r0 ∧ r1 ≤ p (j + 1) ∧ p (j + 1) ≤ wr.heap.size ∧ (b < p j ∨ p (j + 1) ≤ b)) := ⟨by omega, by omega, hr0, hr1, by omega, by omega⟩
      obtain ⟨⟨x0, s0⟩, f0⟩ := HC0.out.slot (o := j * 7) (by have := HSZ.out; omega)
      clear h2 h3 h8 hcl hcc hL hNm hAl hAn hff hpj hws
      have hbf : lo ≤ b ∧ b < hi := ⟨HF.out.1, HF.out.2.1⟩
      have HBF : Hid (lo ≤ b ∧ b < hi) := hbf
      have HST0 : Hid (MkSt lo hi w wr wr b c j) := ⟨HC0.out, fun _ _ _ => rfl, Nat.le_refl _, HT.out⟩
      clear hbf HC0 HREST
      go_wp2_with fail
      refine (markTextI _ _ (by omega) (by omega)).mono ?_
      rintro e w1 ⟨m1, rfl, hb1⟩
      have HST1 : Hid (MkSt lo hi w wr w1 b c j) := MkSt.below (by have := HST0.out.set HBF.out 0 (by omega) (.int .i64 r); simpa using this) hb1
      clear hb1 HST0 s0 f0
      obtain ⟨⟨x1, s1⟩, f1⟩ := HST1.out.ch.slot (o := j * 7 + 1) (by have := HSZ.out; omega)
      obtain ⟨⟨x2, s2⟩, f2⟩ := HST1.out.ch.slot (o := j * 7 + 2) (by have := HSZ.out; omega)
      obtain ⟨⟨x3, s3⟩, f3⟩ := HST1.out.ch.slot (o := j * 7 + 3) (by have := HSZ.out; omega)
      have hbl1 := HST1.out.ch.lt
      go_wp2_with fail
      refine (markTextI _ _ (by omega) (by omega)).mono ?_
      rintro e w2 ⟨m2, rfl, hb2⟩
      have HST2 : Hid (MkSt lo hi w wr w2 b c j) := MkSt.below (((HST1.out.set HBF.out 1 (by omega) _).set HBF.out 2 (by omega) _).set HBF.out 3 (by omega) _) hb2
      clear hb2 HST1 s1 f1 s2 f2 s3 f3 hbl1
      obtain ⟨⟨x4, s4⟩, f4⟩ := HST2.out.ch.slot (o := j * 7 + 4) (by have := HSZ.out; omega)
      have s5 : w2.cell? ⟨b, j * 7 + 5, none⟩ = some (.slice al l[j].cells.list.length l[j].cells.list.length) := (HST2.out.ch.cell (by omega)).trans HL5.out
      have hbl2 := HST2.out.ch.lt
      go_wp2_with fail
      obtain ⟨W3, hW3⟩ : ∃ W, W = w2.setCell ⟨b, j * 7 + 4, none⟩ (.string m2) := ⟨_, rfl⟩
      have HST3 : Hid (MkSt lo hi w wr W3 b c j) := by rw [hW3]; exact HST2.out.set HBF.out 4 (by omega) _
      have hri := HRI.out
      have HL3 : Hid (OwnRow W3 27 5 80 (VlO W3 f) r0 r1 l[j].cells.list (.slice al l[j].cells.list.length l[j].cells.list.length)) := OwnRow.same HL.out (fun y hy => HST3.out.oth y (by have := HAl.out y hy; omega) (by have := HAl.out y hy; omega)) (fun a' b' x cs ha hb hx => VlO.same f a' b' x cs (fun y y1 y2 => HST3.out.oth y (by omega) (by omega)) hx)
      have hsz3 := HST3.out.size
      have hW3' : w2.setCell ⟨b, j * 7 + 2 + 2, none⟩ (.string m2) = W3 := hW3.symm
      rw [hW3']
      clear hW3 hW3' s4 f4 s5 HST2
      refine (markValueSI f l[j].cells.list _ r0 r1 _ W3 HL3.out (by omega) (by omega) (by rw [hcN] at hr; push_cast at hr; omega)).mono ?_
      rintro e w3 ⟨rfl, hT3⟩
      have hne3 : ¬ FootL (.slice al l[j].cells.list.length l[j].cells.list.length) r0 r1 b := fun h => by
        rcases h with h | h
        · have := HAl.out b h; omega
        · omega
      have hC3 : Ch w3 b c j := HST3.out.ch.same (hT3.block b HST3.out.ch.lt hne3)
      have HO3 : Hid (∀ y, y < wr.heap.size → y ≠ b → ¬ (p j ≤ y ∧ y < p (j + 1)) → w3.heap[y]? = wr.heap[y]?) := fun y h1 h2 h3 => (hT3.block y (by omega) (fun h => by
        rcases h with h | h
        · have := HAl.out y h; omega
        · omega)).trans (HST3.out.oth y h1 h2)
      have HTW3 : Hid (TurnsP (FootV lo hi) w w3) := HST3.out.turns.trans (hT3.mono (fun y hy => by
        rcases hy with hy | hy
        · have := HAl.out y hy; exact ⟨by omega, by omega⟩
        · exact ⟨by omega, by omega⟩))
      have HN3 : Hid (OwnRow w3 9 1 16 StrO 0 0 l[j].cells.names (.slice an l[j].cells.names.length l[j].cells.names.length)) := StrO.row_same HNm.out (fun y hy => by
        obtain ⟨y1, y2, y3, y4⟩ := HAn.out y hy
        rw [hT3.block y (by omega) (fun h => by rcases h with h | h; exact y4 h; omega)]
        exact HST3.out.oth y (by omega) (by omega))
      have hs3 : wr.heap.size ≤ w3.heap.size := by have := hT3.size; omega
      have HC3 : Hid (Ch w3 b c j) := hC3
      have s6 : w3.cell? ⟨b, j * 7 + 6, none⟩ = some (.slice an l[j].cells.names.length l[j].cells.names.length) := (hC3.cell (by omega)).trans HL6.out
      clear hT3 hC3 hne3 HST3 HL3 HL HL5
      go_wp2_with fail
      refine (markStringSI l[j].cells.names _ _ w3 HN3.out (by omega) (by rw [hcN] at hr; push_cast at hr; omega)).mono ?_
      rintro e w4 ⟨rfl, hT4⟩
      have HRE4 : Hid (Rest w4 (f + 1) b p l (j + 1)) := by
        have hC4 : Ch w4 b c j := HC3.out.same (hT4.block b HC3.out.lt (fun h => by have := HAn.out b h; omega))
        obtain ⟨c', g1, g2, g3⟩ := hC4
        refine ⟨c', g1, g2.trans HCS.out, fun m hm hjm => ?_⟩
        obtain ⟨cs, k1, k2, k3⟩ := HOTH.out m hm hjm
        refine ⟨cs, k1, fun q hq => (g3 _ (by omega)).trans (k2 q hq), k3.same (fun y y1 y2 => ?_)⟩
        have hff := HF.out
        have hp1 : p (j + 1) ≤ p m := chain_le HCH.out hjm (by omega)
        have hp2 : p (m + 1) ≤ q1 := Nat.le_trans (chain_le HCH.out (by omega) (Nat.le_refl _)) hff.2.2.2.2.2.2.1
        have hp3 : q0 ≤ p m := Nat.le_trans hff.2.2.2.2.2.1 (chain_le HCH.out (Nat.zero_le _) (by omega))
        have hws : w.heap.size ≤ wr.heap.size := HT.out.size
        rw [hT4.block y (by omega) (fun h => by have := HAn.out y h; omega)]
        exact HO3.out y (by omega) (by omega) (by omega)
      have HT4 : Hid (TurnsP (FootV lo hi) w w4) := HTW3.out.trans (hT4.mono (fun y hy => by
        have := HAn.out y hy
        exact ⟨by omega, by omega⟩))
      have HR4 : Hid (r + 5 + (cntS (cntE f) l[j].cells.list : Int) + (l[j].cells.names.length : Int) = 1 + 5 * ((j + 1 : Nat) : Int) + (cntNs f (l.take (j + 1)) : Int)) := by
        show _ = _
        have := HR.out
        rw [hcnt, hcN]
        push_cast
        omega
      clear hT4 s6 hcnt hle hr hcN hri
      go_wp2_with fail
      exact ⟨⟨j + 1, _, by omega, by go_num, rfl, (by have := HR4.out; show _ = _; omega), HRE4, HT4⟩, by simp [intOf]; omega⟩
    · go_wp2_with fail
      go_ret
      exact ⟨⟨r, rfl, by have := HR.out; omega⟩, HT.out⟩

end Go.Proofs.Ythhnhigaoncakaa
