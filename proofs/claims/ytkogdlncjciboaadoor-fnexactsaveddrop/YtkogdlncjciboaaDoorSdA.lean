
/-
  DERIVED. A ROW OF TEXTS OF ONE's OWN, with room behind it: marks; saved documents copied so that they may be turned.
-/
import Derived.Test.YtkogdlncjciboaaDoorSvA
import Derived.Test.YtkogdlncjciboaaDoorVlHeld
import Derived.Test.YtkogdlncjciboaaDoorVlMark
import Derived.Test.YtkogdlncjciboaaDoorVlToO
import Derived.Laws.IdiomCopy
import Derived.Lib.SliceRun
namespace Go.Proofs.YtkogdlncjciboaaDoor
open Go.RowKit
set_option linter.unusedVariables false
set_option linter.unusedSimpArgs false

/-- Texts in memory that may be turned. -/
def TxM (w : World) (g : Nat) (m : List ByteArray) : Prop :=
  g < w.heap.size ∧ ∀ (k : Nat) (h : k < m.length), w.cell? ⟨g, k, none⟩ = some (.string m[k]) ∧ w.frozen? ⟨g, k, none⟩ = false ∧ m[k].size ≤ 140737488351232
theorem TxM.same {w w' : World} {g : Nat} {m : List ByteArray} (h : TxM w g m) (hs : w'.heap[g]? = w.heap[g]?) : TxM w' g m := by
  refine ⟨?_, fun k hk => ?_⟩
  · have h1 : w.heap[g]?.isSome = true := by simp [h.1]
    rw [← hs] at h1
    simpa using h1
  · obtain ⟨a, b, c⟩ := h.2 k hk
    exact ⟨(World.cell?_of_block (a := ⟨g, k, none⟩) hs).trans a, (World.frozen?_of_block (a := ⟨g, k, none⟩) hs).trans b, c⟩
theorem TxM.below {w w' : World} {g : Nat} {m : List ByteArray} (h : TxM w g m) (hb : Below w.heap.size w w') : TxM w' g m := h.same (hb.block g h.1)
theorem TxM.set {w : World} {g : Nat} {m : List ByteArray} (h : TxM w g m) (i : Nat) (hi : i < m.length) (x : ByteArray) (hx : x.size ≤ 140737488351232) : TxM (w.setCell ⟨g, i, none⟩ (.string x)) g (m.set i x) := by
  refine ⟨by simpa [World.setCell] using h.1, fun k hk => ?_⟩
  rw [List.length_set] at hk
  by_cases he : i = k
  · subst he
    rw [List.getElem_set_self]
    exact ⟨World.cell?_setCell_same _ _ _ (h.2 i hi).1, by simpa using (h.2 i hi).2.1, hx⟩
  · rw [List.getElem_set_ne he, World.cell?_setCell_other _ _ _ _ (fun e => by injection e with _ e2 _; omega)]
    exact ⟨(h.2 k hk).1, by simpa using (h.2 k hk).2.1, (h.2 k hk).2.2⟩
/-- .. as a slice. -/
def TxO (w : World) (l : List ByteArray) (v : Value) : Prop :=
  (l = [] ∧ v = .slice none 0 0) ∨ ∃ g c, v = .slice (some ⟨g, 0, none⟩) l.length c ∧ l.length ≤ c ∧ c ≤ maxLen ∧ l.length * 16 ≤ 140737488351232 ∧ TxM w g l
theorem TxO.len {w : World} {l : List ByteArray} {v : Value} (h : TxO w l v) : ∃ a c, v = .slice a l.length c ∧ l.length * 16 ≤ 140737488351232 := by
  rcases h with ⟨rfl, rfl⟩ | ⟨g, c, rfl, _, _, h2, _⟩
  · exact ⟨none, 0, rfl, by simp⟩
  · exact ⟨_, c, rfl, h2⟩
theorem TxO.same {w w' : World} {l : List ByteArray} {v : Value} (h : TxO w l v) (hs : ∀ b, At v b → w'.heap[b]? = w.heap[b]?) : TxO w' l v := by
  rcases h with h | ⟨g, c, rfl, h1, h2, h3, h4⟩
  · exact Or.inl h
  · exact Or.inr ⟨g, c, rfl, h1, h2, h3, h4.same (hs g (At.mk _ _ _))⟩
theorem TxO.lt {w : World} {l : List ByteArray} {v : Value} (h : TxO w l v) {b : Nat} (hb : At v b) : b < w.heap.size := by
  rcases h with ⟨_, rfl⟩ | ⟨g, c, rfl, _, _, _, h4⟩
  · exact hb.none.elim
  · obtain rfl := hb.eq
    exact h4.1
theorem TxO.below {w w' : World} {l : List ByteArray} {v : Value} (h : TxO w l v) (hb : Below w.heap.size w w') : TxO w' l v := h.same fun b hA => hb.block b (h.lt hA)
theorem TxO.row {w : World} {l : List ByteArray} {v : Value} (h : TxO w l v) : StrRow w 0 l v := by
  rcases h with ⟨rfl, rfl⟩ | ⟨g, c, rfl, h1, h2, h3, h4⟩
  · exact Or.inl ⟨rfl, rfl⟩
  · refine Or.inr ⟨⟨g, 0, none⟩, c, rfl, h1, h2, h3, fun i hi => ⟨Nat.zero_le _, rfl, [.string l[i]], rfl, fun j hj => ?_, rfl, (h4.2 i hi).2.2⟩⟩
    obtain rfl : j = 0 := by simpa using hj
    show w.cell? ⟨g, 0 + i * 1 + 0, none⟩ = _
    rw [Nat.zero_add, Nat.mul_one, Nat.add_zero, (h4.2 i hi).1]
    rfl
theorem TxO.of_own {w : World} {l : List ByteArray} {v : Value} (h : OwnRow w 9 1 16 StrO 0 0 l v) : TxO w l v := by
  rcases h with h | ⟨b, c, p, rfl, h1, h2, h3, h4, h5, h6, h7, h8⟩
  · exact Or.inl h
  · refine Or.inr ⟨b, l.length, rfl, Nat.le_refl _, by unfold maxLen; omega, h1, h2.lt, fun k hk => ?_⟩
    obtain ⟨cs, a1, a2, a3, a4⟩ := h8 k hk
    have h9 := a2 0 (by omega)
    rw [a3, Nat.mul_one, Nat.add_zero] at h9
    exact ⟨by rw [h2.cell, h9]; rfl, h2.frozen k, a4⟩

set_option maxHeartbeats 2000000 in
theorem markT_any (l : List ByteArray) (v : Value) (w : World) (hrow : TxO w l v) (hk2 : l.length ≤ 2000000) :
    Calls Tryd.prog 35 #[v, .int .i64 1] w fun e w' => e = .returned (.int .i64 ((l.length : Int) + 1)) ∧ ∃ l', l'.length = l.length ∧ MkN 1 l' ∧ TxO w' l' v ∧ TurnsP (At v) w w' := by
  have hlen : (l.length : Int) ≤ 2000000 := by omega
  rcases hrow with ⟨rfl, rfl⟩ | ⟨g, c, rfl, h1, h2, h3, h4⟩
  · go_enter Tryd.func35, Tryd.ntmps35
    go_wp2_with fail
    go_loopw [1, 5] (fun n i wr => n = .int .i64 1 ∧ i = .int .i64 0 ∧ wr = w) (fun _ i _ => 0)
    case atStart => exact ⟨rfl, rfl, rfl⟩
    case round =>
      obtain ⟨rfl, rfl, rfl⟩ := hrel
      go_wp2_with fail
      go_ret
      exact ⟨rfl, [], rfl, fun q hq => absurd hq (Nat.not_lt_zero _), Or.inl ⟨rfl, rfl⟩, TurnsP.refl _ _⟩
  · have HM0 : Hid (TxM w g l) := h4
    have HLC : Hid (l.length ≤ c ∧ c ≤ maxLen ∧ l.length * 16 ≤ 140737488351232) := ⟨h1, h2, h3⟩
    clear h1 h2 h3 h4
    go_enter Tryd.func35, Tryd.ntmps35
    go_wp2_with fail
    go_loopw [1, 5] (fun n i wr => ∃ (j : Nat) (m : List ByteArray), j ≤ l.length ∧ i = .int .i64 j ∧ n = .int .i64 (1 + (j : Int)) ∧ Hid (m.length = l.length) ∧ Hid (∀ (q : Nat) (h : q < m.length), q < j → m[q] = markB (1 + q)) ∧ Hid (TxM wr g m) ∧ Hid (TurnsP (At (.slice (some ⟨g, 0, none⟩) l.length c)) w wr)) (fun _ i _ => l.length - (intOf i).toNat)
    case atStart => exact ⟨0, l, Nat.zero_le _, rfl, by simp, rfl, fun q h hq => absurd hq (Nat.not_lt_zero _), HM0, TurnsP.refl _ _⟩
    case round =>
      clear HM0
      obtain ⟨j, m, hj, rfl, rfl, HML, HM, HO, HT⟩ := hrel
      have hji : (j : Int) ≤ 2000000 := by omega
      have hj0 : (0 : Int) ≤ (j : Int) := by omega
      by_cases hlt : j < l.length
      · have hjm : j < m.length := by rw [HML.out]; exact hlt
        have hsz := HO.out.1
        obtain ⟨hx, hf, _⟩ := HO.out.2 j hjm
        have ek : ((1 + j : Nat) : Int) = 1 + (j : Int) := by omega
        have HAt : Hid (At (.slice (some ⟨g, 0, none⟩) l.length c) g) := At.mk _ _ _
        go_wp2_with fail
        have hcall := markText_any (1 + j) wr (by omega) (by omega)
        rw [ek] at hcall
        refine hcall.mono ?_
        rintro e w1 ⟨rfl, hb1⟩
        have hx1 := cell_on hb1 hx
        have hf1 : w1.frozen? ⟨g, j, none⟩ = false := by rw [hb1.frozen (p := ⟨g, j, none⟩) hsz]; exact hf
        have HT1 : Hid (∀ u, TurnsP (At (.slice (some ⟨g, 0, none⟩) l.length c)) w (w1.setCell ⟨g, j, none⟩ u)) := fun u => (HT.out.trans (TurnsP.of_below hb1 (Nat.le_refl _))).setCell HAt.out u
        have HO1 : Hid (TxM (w1.setCell ⟨g, j, none⟩ (.string (markB (1 + j)))) g (m.set j (markB (1 + j)))) := (HO.out.below hb1).set j hjm _ (markB_size _)
        have hz1 : g < w1.heap.size := Nat.lt_of_lt_of_le hsz hb1.size
        clear hcall hb1 hx hf HT HAt HO
        go_wp2_with fail
        refine ⟨⟨j + 1, m.set j (markB (1 + j)), by omega, by go_num, ?_, by rw [List.length_set]; exact HML.out, fun q hq hqj => ?_, HO1.out, HT1.out _⟩, by simp [intOf]; omega⟩
        · go_num
        · rw [List.length_set] at hq
          by_cases hqe : q = j
          · subst hqe; rw [List.getElem_set_self]
          · rw [List.getElem_set_ne (by omega)]; exact HM.out q hq (by omega)
      · obtain rfl : j = l.length := by omega
        go_wp2_with fail
        go_ret
        refine ⟨ret_int (by omega), m, HML.out, fun q hq => HM.out q hq (by have := HML.out; omega), ?_, HT.out⟩
        have hml := HML.out
        exact Or.inr ⟨g, c, by rw [hml], by rw [hml]; exact HLC.out.1, HLC.out.2.1, by rw [hml]; exact HLC.out.2.2, HO.out⟩

theorem heldT_any (l : List ByteArray) (v : Value) (w : World) (hr : StrRow w 0 l v) (hM : MkN 1 l) (h2 : l.length ≤ 2000000) :
    Calls Tryd.prog 36 #[v, .int .i64 1] w fun e w' => e = .returned (.int .i64 ((l.length : Int) + 1)) ∧ Below w.heap.size w w' := by
  refine (heldStringS_any l v 1 w hr hM (by omega) (by omega)).mono ?_
  rintro e w' ⟨rfl, h⟩
  exact ⟨by congr 2; omega, h⟩

theorem markSaved_any (l : List ByteArray) (v : Value) (w : World) (hrow : TxO w l v) (hk2 : l.length ≤ 2000000) :
    Calls Tryd.prog 17 #[.agg #[v], .int .i64 1] w fun e w' => e = .returned (.int .i64 ((l.length : Int) + 1)) ∧ ∃ l', l'.length = l.length ∧ MkN 1 l' ∧ TxO w' l' v ∧ TurnsP (At v) w w' := by
  obtain ⟨a, c, rfl, _⟩ := hrow.len
  have HO : Hid (TxO (w.alloc (.cells #[.slice a l.length c] 33)) l (.slice a l.length c)) := hrow.below ((Below.refl _ _).alloc (Nat.le_refl _) _)
  clear hrow
  go_enter Tryd.func17, Tryd.ntmps17
  go_wp2_with fail
  refine (markT_any l _ _ HO.out hk2).mono ?_
  rintro e w1 ⟨rfl, l', hl', hM, hO1, hT⟩
  have HR : Hid (∃ l', l'.length = l.length ∧ MkN 1 l' ∧ TxO w1 l' (.slice a l.length c) ∧ TurnsP (At (.slice a l.length c)) w w1) := ⟨l', hl', hM, hO1, (TurnsP.of_below ((Below.refl w.heap.size w).alloc (Nat.le_refl _) _) (Nat.le_refl _)).trans hT⟩
  clear hl' hM hO1 hT HO
  go_wp2_with fail
  go_ret
  exact ⟨rfl, HR.out⟩

theorem heldSaved_any (l : List ByteArray) (v : Value) (w : World) (hr : StrRow w 0 l v) (hM : MkN 1 l) (h2 : l.length ≤ 2000000) :
    Calls Tryd.prog 18 #[.agg #[v], .int .i64 1] w fun e w' => e = .returned (.int .i64 ((l.length : Int) + 1)) ∧ Below w.heap.size w w' := by
  obtain ⟨a, c, rfl, _, _⟩ := hr.len
  have HO : Hid (StrRow (w.alloc (.cells #[.slice a l.length c] 33)) 0 l (.slice a l.length c)) := hr.keeps ((Keeps.refl _ _).alloc _)
  have hlen : (l.length : Int) ≤ 2000000 := by omega
  clear hr
  go_enter Tryd.func18, Tryd.ntmps18
  go_wp2_with fail
  refine (heldT_any l _ _ HO.out hM h2).mono ?_
  rintro e w1 ⟨rfl, hb⟩
  have HB : Hid (Below w.heap.size w w1) := ((Below.refl _ _).alloc (Nat.le_refl _) _).trans (hb.mono (by simp))
  clear hb HO
  go_wp2_with fail
  go_ret
  exact ⟨rfl, HB.out⟩

set_option maxHeartbeats 1000000 in
theorem toSaved_own (l : List ByteArray) (v : Value) (w : World) (hrow : StrRow w 0 l v) :
    Calls Tryd.prog 12 #[.agg #[v]] w fun e w' => ∃ v', e = .returned (.agg #[v']) ∧ TxO w' l v' ∧ (∀ b, At v' b → w.heap.size ≤ b) ∧ Below w.heap.size w w' := by
  obtain ⟨a1, c1, rfl, _, _⟩ := hrow.len
  have HK : Hid (∀ W, Keeps 0 w W → StrRow W 0 l (.slice a1 l.length c1)) := fun W h => hrow.keeps h
  clear hrow
  go_enter Tryd.func12, Tryd.ntmps12
  go_wp2_with fail
  refine (toStringS_own l _ _ (HK.out _ ((((Keeps.refl _ _).alloc _).alloc _).alloc _))).mono ?_
  rintro e w1 ⟨v1, rfl, hr1, hat, hb1⟩
  have hto := TxO.of_own hr1
  obtain ⟨b1, d1, rfl, _⟩ := hto.len
  have HA : Hid (∀ b, At (.slice b1 l.length d1) b → b = w.heap.size + 3) := fun b hb => by have := (hat b hb).1; rw [szA3] at this; exact this
  have HR1 : Hid (TxO w1 l (.slice b1 l.length d1)) := hto
  have HB1 : Hid (Below w.heap.size w w1) := ((((Below.refl _ _).alloc (Nat.le_refl _) _).alloc (by simp) _).alloc (by simp; omega) _).trans (hb1.mono (by simp; omega))
  have o1 : Owns w1 (w.heap.size + 1) #[.slice none 0 0] 33 := by
    have := ((Owns.made (w.alloc (.cells #[.slice a1 l.length c1] 29)) #[.slice none 0 0] 33).below ((Below.refl _ _).alloc (Nat.le_refl _) (.cells #[.slice none 0 0] 33)) (by simp)).below hb1 (by simp)
    simpa using this
  have o2 : Owns w1 (w.heap.size + 1 + 1) #[.slice none 0 0] 33 := by
    have := (Owns.made ((w.alloc (.cells #[.slice a1 l.length c1] 29)).alloc (.cells #[.slice none 0 0] 33)) #[.slice none 0 0] 33).below hb1 (by simp)
    simpa using this
  have q0 := o2.cell 0
  have qf := fun o => o2.frozen o
  have r0 := o1.cell 0
  have rf := fun o => o1.frozen o
  simp at q0 r0
  have hz : w.heap.size + 3 ≤ w1.heap.size := by have := hb1.size; simp at this; omega
  have hz1 : w.heap.size + 1 < w1.heap.size := by omega
  clear hb1 hr1 o1 o2 hto hat
  go_wp2_with fail
  refine bodyPost_ret (v := .agg #[.slice b1 l.length d1]) (by simp [results, Tryd.results12, go_sem, q0, r0, hz1]) rfl ⟨_, rfl, ?_, ?_, ?_⟩
  · refine HR1.out.same fun b hb => ?_
    obtain rfl := HA.out b hb
    exact (Below.heap_setCell _ _ _ _ (by show _ ≠ _; simp)).trans (Below.heap_setCell _ _ _ _ (by show _ ≠ _; simp))
  · exact fun b hb => by have := HA.out b hb; omega
  · iterate 2 (refine Below.setCell ?_ (by simp <;> omega) _)
    exact HB1.out

end Go.Proofs.YtkogdlncjciboaaDoor
