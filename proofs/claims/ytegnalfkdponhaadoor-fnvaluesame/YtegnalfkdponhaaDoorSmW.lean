
/-
  DERIVED. THE WALK OF impl.ValueSame.
-/
import Derived.Test.YtegnalfkdponhaaDoorSmOut
import Derived.Deep.LoopGhost
import Derived.Deep.CutRange
import Derived.Deep.RegionHeld3
import Derived.Deep.AppendLies
namespace Go.Proofs.YtegnalfkdponhaaDoor
open Go.RowKit
set_option linter.unusedVariables false
set_option linter.unusedSimpArgs false

/-- The work and what was met, in memory. -/
structure SmMem (W : World) (B r g cap : Nat) (is : List It) (km : List (Pl2 × Int)) : Prop where
  row : W.ownsRow B 64 2 (.slice (some ⟨g, 0, none⟩) is.length cap) is.length (flatI is)
  map : MapG kv2 W r km
  hB : B ≤ W.heap.size
  hr : r < B

theorem SmMem.g {W : World} {B r g cap : Nat} {is : List It} {km : List (Pl2 × Int)} (h : SmMem W B r g cap is km) : B ≤ g ∧ g < W.heap.size := h.row.lt g rfl
theorem SmMem.cap {W : World} {B r g cap : Nat} {is : List It} {km : List (Pl2 × Int)} (h : SmMem W B r g cap is km) : is.length ≤ cap ∧ cap ≤ maxLen := by
  rcases h.row.2 with ⟨q2, _⟩ | ⟨g2, cap2, cur, q2, q3, q4, q5, q6, _⟩
  · simp at q2
  · simp only [Value.slice.injEq] at q2
    omega
theorem SmMem.draws {W : World} {B r g cap : Nat} {is : List It} {km : List (Pl2 × Int)} (h : SmMem W B r g cap is km) (n : Nat) : SmMem (W.drewN n) B r g cap is km := ⟨h.row, h.map, h.hB, h.hr⟩
theorem SmMem.below {W W' : World} {B r g cap : Nat} {is : List It} {km : List (Pl2 × Int)} (h : SmMem W B r g cap is km) (hb : Below W.heap.size W W') : SmMem W' B r g cap is km := by
  have hrow : W.grownBy W' none := ⟨hb.os, hb.tape, hb.output, hb.size, fun q hq _ => hb.block q hq⟩
  exact ⟨h.row.kept (row := none) hrow (Or.inr (by simp [Value.ownBlock])), h.map.same (hb.block r h.map.lt), Nat.le_trans h.hB hb.size, h.hr⟩
theorem SmMem.pop {W : World} {B r g cap : Nat} {is : List It} {i : It} {km : List (Pl2 × Int)} (h : SmMem W B r g cap (is ++ [i]) km) : SmMem W B r g cap is km := by
  refine ⟨⟨flatI_len is, ?_⟩, h.map, h.hB, h.hr⟩
  rcases h.row.2 with ⟨q2, _⟩ | ⟨g2, cap2, cur, q2, q3, q4, q5, q6, q7, q8⟩
  · simp at q2
  · simp only [Value.slice.injEq, Option.some.injEq, Addr.mk.injEq] at q2
    obtain ⟨⟨rfl, _⟩, _, rfl⟩ := q2
    simp only [List.length_append, List.length_cons, List.length_nil] at q5 q8
    refine Or.inr ⟨g, cap, cur, rfl, q3, q4, by omega, q6, q7, ?_⟩
    have h2 : List.take (is.length * 2) (flatI is ++ itCells i) = flatI is := by
      rw [List.take_append_of_le_length (by rw [flatI_len]; exact Nat.le_refl _), ← flatI_len, List.take_length]
    rw [← h2, ← flatI_snoc, ← q8, List.take_take, Nat.min_eq_left (by omega)]
theorem SmMem.mapped {W : World} {B r g cap : Nat} {is : List It} {km km' : List (Pl2 × Int)} (h : SmMem W B r g cap is km) (o : Obj) (hm : MapG kv2 { W with heap := W.heap.setIfInBounds r o } r km') : SmMem { W with heap := W.heap.setIfInBounds r o } B r g cap is km' := by
  have hg := h.g
  have hr := h.hr
  refine ⟨?_, hm, by show B ≤ (W.heap.setIfInBounds r o).size; simp; exact h.hB, h.hr⟩
  obtain ⟨q1, q2⟩ := h.row
  refine ⟨q1, ?_⟩
  rcases q2 with q2 | ⟨g', cap', cur, q2, q3, q4, q5⟩
  · exact Or.inl q2
  · simp only [Value.slice.injEq, Option.some.injEq, Addr.mk.injEq] at q2
    obtain ⟨⟨rfl, _⟩, _, rfl⟩ := q2
    exact Or.inr ⟨g, cap, cur, rfl, q3, by show (W.heap.setIfInBounds r o)[g]? = _; rw [Array.getElem?_setIfInBounds_ne (by omega)]; exact q4, q5⟩
theorem Stay.mapped {r : Nat} {w W : World} (h : Stay r w W) (o : Obj) : Stay r w { W with heap := W.heap.setIfInBounds r o } :=
  ⟨by show w.heap.size ≤ (W.heap.setIfInBounds r o).size; simp; exact h.size, fun q h1 h2 => by show (W.heap.setIfInBounds r o)[q]? = _; rw [Array.getElem?_setIfInBounds_ne (Ne.symm h2)]; exact h.block q h1 h2⟩
theorem Stay.below {r : Nat} {w W W' : World} (h : Stay r w W) {B : Nat} (hb : Below B W W') (hB : w.heap.size ≤ B) : Stay r w W' :=
  ⟨Nat.le_trans h.size hb.size, fun q h1 h2 => (hb.block q (by omega)).trans (h.block q h1 h2)⟩
theorem Stay.draws {r : Nat} {w W : World} (h : Stay r w W) (n : Nat) : Stay r w (W.drewN n) := ⟨h.size, h.block⟩
theorem Below.mapped {B : Nat} {a w : World} (h : Below B a w) {r : Nat} (hr : B ≤ r) (o : Obj) : Below B a { w with heap := w.heap.setIfInBounds r o } :=
  ⟨h.os, h.tape, h.output, by show a.heap.size ≤ (w.heap.setIfInBounds r o).size; simp; exact h.size, fun q hq => by show (w.heap.setIfInBounds r o)[q]? = _; rw [Array.getElem?_setIfInBounds_ne (by omega)]; exact h.block q hq⟩
theorem Below.draws {B : Nat} {a w : World} (h : Below B a w) (n : Nat) : Below B a (w.drewN n) := ⟨h.os, h.tape, h.output, h.size, h.block⟩

/-- All that is known while it goes on. -/
structure SmGo (sz : Vl → Nat) (t u : Vl) (w W0 wr : World) (is : List It) (cur : Option (List Vl × List Vl)) (left : Nat) (g cap : Nat) (km : List (Pl2 × Int)) (ps : List (List Vl × List Vl)) : Prop where
  mem : SmMem wr (w.heap.size + 5) (w.heap.size + 1 + 1) g cap is km
  stay : Stay (w.heap.size + 1 + 1) W0 wr
  below : Below w.heap.size w wr
  st : SmSt W0 t u ps is cur km left (sz t + 1)
  at0 : MapAt W0 (w.heap.size + 1 + 1)
  size0 : W0.heap.size = w.heap.size + 5

theorem SmGo.draws {sz : Vl → Nat} {t u : Vl} {w W0 wr : World} {is : List It} {cur : Option (List Vl × List Vl)} {left g cap : Nat} {km : List (Pl2 × Int)} {ps : List (List Vl × List Vl)} (h : SmGo sz t u w W0 wr is cur left g cap km ps) (n : Nat) : SmGo sz t u w W0 (wr.drewN n) is cur left g cap km ps :=
  ⟨h.mem.draws n, h.stay.draws n, Below.draws h.below n, h.st, h.at0, h.size0⟩
theorem SmGo.grew {sz : Vl → Nat} {t u : Vl} {w W0 wr W' : World} {is : List It} {cur : Option (List Vl × List Vl)} {left g cap : Nat} {km : List (Pl2 × Int)} {ps : List (List Vl × List Vl)} (h : SmGo sz t u w W0 wr is cur left g cap km ps) (hb : Below wr.heap.size wr W') : SmGo sz t u w W0 W' is cur left g cap km ps :=
  ⟨h.mem.below hb, h.stay.below hb h.stay.size, h.below.trans (hb.mono h.below.size), h.st, h.at0, h.size0⟩

theorem at_six (w : World) (o0 o1 o2 o3 o4 o5 : Obj) :
    ((((((w.alloc o0).alloc o1).alloc o2).alloc o3).alloc o4).heap[w.heap.size + 1 + 1]? = some o2) ∧ ((((((w.alloc o0).alloc o1).alloc o2).alloc o3).alloc o4).heap[w.heap.size + 1 + 1 + 1]? = some o3) ∧ ((((((w.alloc o0).alloc o1).alloc o2).alloc o3).alloc o4).heap[w.heap.size + 1 + 1 + 1 + 1]? = some o4) ∧
    (((((((w.alloc o0).alloc o1).alloc o2).alloc o3).alloc o4).alloc o5).heap[w.heap.size + 1 + 1 + 1 + 1 + 1]? = some o5) := by
  have ha : ∀ (w : World) (o : Obj), (w.alloc o).heap[w.heap.size]? = some o := fun w o => by
    show (w.heap.push o)[w.heap.size]? = _
    simp
  have hs : ∀ (w : World) (o : Obj), (w.alloc o).heap.size = w.heap.size + 1 := fun w o => by simp
  have h2 := ha ((w.alloc o0).alloc o1) o2
  have h3 := ha (((w.alloc o0).alloc o1).alloc o2) o3
  have h4 := ha ((((w.alloc o0).alloc o1).alloc o2).alloc o3) o4
  have h5 := ha (((((w.alloc o0).alloc o1).alloc o2).alloc o3).alloc o4) o5
  simp only [hs] at h2 h3 h4 h5
  refine ⟨?_, ?_, h4, h5⟩
  · rw [Below.heap_alloc _ _ _ (by simp only [hs]; omega), Below.heap_alloc _ _ _ (by simp only [hs]; omega)]; exact h2
  · rw [Below.heap_alloc _ _ _ (by simp only [hs]; omega)]; exact h3

theorem sm_start {sz : Vl → Nat} {t u : Vl} {w W0 W1 : World} {k k' n n' : Nat} {p p' : Option Addr} {vn vn' : Value} (hP : PL w k t.list (.slice p t.list.length n)) (hN : StrRow w 0 t.names vn) (hP' : PL w k' u.list (.slice p' u.list.length n')) (hN' : StrRow w 0 u.names vn')
    (h0 : W0 = ((((w.alloc (Obj.cells #[.int .i64 t.kind, .int .i64 t.num, .string t.text, .slice p t.list.length n, vn] 30)).alloc (Obj.cells #[.int .i64 u.kind, .int .i64 u.num, .string u.text, .slice p' u.list.length n', vn'] 30)).alloc (Obj.map #[] 0)).alloc (Obj.cells #[.int .i64 t.kind, .int .i64 t.num, .string t.text, .slice p t.list.length n, vn] 30)).alloc (Obj.cells #[.int .i64 u.kind, .int .i64 u.num, .string u.text, .slice p' u.list.length n', vn'] 30))
    (h1 : W1 = W0.alloc (Obj.cells #[.slice (some ⟨w.heap.size + 1 + 1 + 1, 0, none⟩) 1 1, .slice (some ⟨w.heap.size + 1 + 1 + 1 + 1, 0, none⟩) 1 1] 64)) :
    SmGo sz t u w W0 W1 [⟨[t], .slice (some ⟨w.heap.size + 1 + 1 + 1, 0, none⟩) 1 1, [u], .slice (some ⟨w.heap.size + 1 + 1 + 1 + 1, 0, none⟩) 1 1⟩] none (sz t + 1) (w.heap.size + 1 + 1 + 1 + 1 + 1) 1 [] [([t], [u])] := by
  have hat := at_six w (Obj.cells #[.int .i64 t.kind, .int .i64 t.num, .string t.text, .slice p t.list.length n, vn] 30) (Obj.cells #[.int .i64 u.kind, .int .i64 u.num, .string u.text, .slice p' u.list.length n', vn'] 30) (Obj.map #[] 0) (Obj.cells #[.int .i64 t.kind, .int .i64 t.num, .string t.text, .slice p t.list.length n, vn] 30) (Obj.cells #[.int .i64 u.kind, .int .i64 u.num, .string u.text, .slice p' u.list.length n', vn'] 30) (Obj.cells #[.slice (some ⟨w.heap.size + 1 + 1 + 1, 0, none⟩) 1 1, .slice (some ⟨w.heap.size + 1 + 1 + 1 + 1, 0, none⟩) 1 1] 64)
  rw [← h0, ← h1] at hat
  obtain ⟨e2, e3, e4, e5⟩ := hat
  have hs0 : W0.heap.size = w.heap.size + 5 := by rw [h0]; simp
  have hs1 : W1.heap.size = w.heap.size + 6 := by rw [h1]; simp [hs0]
  have hb0 : Below w.heap.size w W0 := by
    rw [h0]
    exact (((((Below.refl _ _).alloc (Nat.le_refl _) _).alloc (by simp) _).alloc (by simp <;> omega) _).alloc (by simp <;> omega) _).alloc (by simp <;> omega) _
  have hb1 : Below W0.heap.size W0 W1 := by rw [h1]; exact (Below.refl _ _).alloc (Nat.le_refl _) _
  have hk0 : Keeps 0 w W0 := Keeps.of_below hb0 (Nat.le_refl _) 0
  have one : ∀ (x : Vl) (b kk : Nat) (q : Option Addr) (nn : Nat) (vx : Value), Owns W0 b #[.int .i64 x.kind, .int .i64 x.num, .string x.text, .slice q x.list.length nn, vx] 30 → PL w kk x.list (.slice q x.list.length nn) → StrRow w 0 x.names vx → PL W0 (kk + 1) [x] (.slice (some ⟨b, 0, none⟩) 1 1) := by
    intro x b kk q nn vx ho hp hn
    refine Or.inr ⟨b, 0, 1, rfl, ⟨_, _, ho⟩, by simp, fun i hi => ?_⟩
    obtain rfl : i = 0 := by simpa using hi
    refine ⟨.slice q x.list.length nn, vx, fun j hj => ?_, hn.keeps hk0, PL.keep hb0 kk _ _ hp⟩
    show W0.cell? ⟨b, 0 + 0 * 5 + j, none⟩ = _
    rw [ho.cell, Nat.zero_mul, Nat.zero_add]
    simp only [List.getElem?_toArray, List.getElem_cons_zero]
  have r1 := one t (w.heap.size + 1 + 1 + 1) k p n vn e3 hP hN
  have r2 := one u (w.heap.size + 1 + 1 + 1 + 1) k' p' n' vn' e4 hP' hN'
  refine ⟨⟨⟨rfl, Or.inr ⟨_, 1, _, rfl, by omega, e5, Nat.le_refl _, by unfold maxLen; omega, rfl, rfl⟩⟩, ⟨#[], 0, ?_, trivial, by simp, by simp⟩, by omega, by omega⟩, ⟨hb1.size, fun q h1 h2 => hb1.block q h1⟩, hb0.trans (hb1.mono (by omega)), ?_, ⟨_, _, e2⟩, hs0⟩
  · rw [hb1.block _ (by omega)]; exact e2
  · refine ⟨fun i hi => ?_, fun q hq => ?_, List.mem_cons_self, fun he q hq => ?_, fun kk hk => absurd rfl hk, fun kk => ⟨Int.le_refl _, by simp [knownG_nil]⟩, fun e he => by simp at he⟩
    · simp only [List.mem_singleton] at hi
      subst hi
      exact ⟨by simp, rfl, ⟨_, r1⟩, ⟨_, r2⟩, List.mem_cons_self⟩
    · simp only [List.mem_singleton] at hq
      exact Or.inl ⟨_, List.mem_cons_self, hq.symm⟩
    · simp only [List.mem_singleton] at hq
      subst hq; rw [he]

theorem cell_al {w : World} {p : Addr} {v : Value} (h : w.cell? p = some v) (o : Obj) : (w.alloc o).cell? p = some v := (World.cell?_alloc_lt _ _ _ (cell_lt h)).trans h

/-- A key has been laid. -/
structure KeyMade (w1 wx : World) (bK : Nat) (a : Addr) (n : Nat) (a' : Addr) (n' : Nat) : Prop where
  own : Owns wx bK #[.pointer (some a), .int .i64 (n : Int), .pointer (some a'), .int .i64 (n' : Int)] 70
  below : Below w1.heap.size w1 wx
  new : w1.heap.size ≤ bK

/-- A key is counted up. -/
theorem SmGo.bump {sz : Vl → Nat} {t u : Vl} {w W0 wd : World} {is : List It} {cur : Option (List Vl × List Vl)} {left g cap : Nat} {km : List (Pl2 × Int)} {ps : List (List Vl × List Vl)} (h : SmGo sz t u w W0 wd is cur left g cap km ps) (key : Pl2) (hp : Plain W0 key.1.1 ∧ Plain W0 key.2.1) :
    ∃ (Wm W2 : World) (v0 : Value) (st : Nat) (km2 : List (Pl2 × Int)), (Instr.lookup 63 (.map (some (w.heap.size + 1 + 1))) (kv2 key) false).run Tryd.prog wd = .ok (.int .i64 (knownG km key)) wd ∧
      (Instr.mapEntry 63 (.map (some (w.heap.size + 1 + 1))) (kv2 key)).run Tryd.prog wd = .ok (.tuple #[v0, .int .i64 (st : Int)]) Wm ∧
      (Instr.lookup 63 (.map (some (w.heap.size + 1 + 1))) (kv2 key) false).run Tryd.prog Wm = .ok (.int .i64 (knownG km key)) Wm ∧
      (Instr.entryStore 63 (.map (some (w.heap.size + 1 + 1))) (.int .i64 (st : Int)) (.int .i64 (knownG km key + 1))).run Tryd.prog Wm = .ok () W2 ∧
      (Instr.lookup 63 (.map (some (w.heap.size + 1 + 1))) (kv2 key) false).run Tryd.prog W2 = .ok (.int .i64 (knownG km key + 1)) W2 ∧
      SmMem W2 (w.heap.size + 5) (w.heap.size + 1 + 1) g cap is km2 ∧ Stay (w.heap.size + 1 + 1) W0 W2 ∧ Below w.heap.size w W2 ∧ W2.heap.size = wd.heap.size ∧ (∀ q, q ≠ w.heap.size + 1 + 1 → W2.heap[q]? = wd.heap[q]?) ∧
      (∀ b, knownG km2 b = if b = key then knownG km key + 1 else knownG km b) ∧ (∀ e ∈ km2, e.1 = key ∨ ∃ e' ∈ km, e'.1 = e.1) := by
  have hGk : ∀ (W : World) (km' : List (Pl2 × Int)), Stay (w.heap.size + 1 + 1) W0 W → (∀ e ∈ km', e.1 = key ∨ ∃ e' ∈ km, e'.1 = e.1) → G2 W key ∧ ∀ e ∈ km', G2 W e.1 := fun W km' hw hm => by
    have h1 : G2 W key := ⟨hw.plain h.at0 hp.1, hw.plain h.at0 hp.2⟩
    refine ⟨h1, fun e he => ?_⟩
    rcases hm e he with h2 | ⟨e', h3, h4⟩
    · rw [h2]; exact h1
    · rw [← h4]; exact ⟨hw.plain h.at0 (h.st.keys e' h3).1, hw.plain h.at0 (h.st.keys e' h3).2⟩
  have hG := hGk wd km h.stay (fun e he => Or.inr ⟨e, he, rfl⟩)
  have hlt := h.mem.map.lt
  obtain ⟨o1, v0, st, km1, he1, hm1, hkn1, hmem1, hst1⟩ := run_entryG keyOk2 map2_underlying zero_int h.mem.map hG.1 hG.2
  have hl1 := run_lookupG keyOk2 map2_underlying zero_int h.mem.map hG.1 hG.2
  have hsy1 := h.stay.mapped o1
  have hG1 := hGk _ km1 hsy1 hmem1
  have hl2 := run_lookupG keyOk2 map2_underlying zero_int hm1 hG1.1 hG1.2
  rw [hkn1 key] at hl2
  obtain ⟨o2, km2, hs1, hm2, hkn2, hmem2⟩ := hst1 { wd with heap := wd.heap.setIfInBounds (w.heap.size + 1 + 1) o1 } (knownG km key + 1) (by simp [hlt])
  have hsy2 := hsy1.mapped o2
  have hG2' := hGk _ km2 hsy2 hmem2
  have hl3 := run_lookupG keyOk2 map2_underlying zero_int hm2 hG2'.1 hG2'.2
  rw [hkn2 key, if_pos rfl] at hl3
  refine ⟨_, _, v0, st, km2, hl1, he1, hl2, hs1, hl3, (h.mem.mapped o1 hm1).mapped o2 hm2, hsy2, Below.mapped (Below.mapped h.below (by omega) o1) (by omega) o2, by simp, fun q hq => ?_, hkn2, hmem2⟩
  show ((wd.heap.setIfInBounds (w.heap.size + 1 + 1) o1).setIfInBounds (w.heap.size + 1 + 1) o2)[q]? = _
  rw [Array.getElem?_setIfInBounds_ne (Ne.symm hq), Array.getElem?_setIfInBounds_ne (Ne.symm hq)]

theorem alloc3_at (w : World) (o0 o1 o2 : Obj) : (((w.alloc o0).alloc o1).alloc o2).heap[w.heap.size]? = some o0 ∧ (((w.alloc o0).alloc o1).alloc o2).heap[w.heap.size + 1]? = some o1 ∧ (((w.alloc o0).alloc o1).alloc o2).heap[w.heap.size + 1 + 1]? = some o2 := by
  have ha : ∀ (w : World) (o : Obj), (w.alloc o).heap[w.heap.size]? = some o := fun w o => by
    show (w.heap.push o)[w.heap.size]? = _
    simp
  have hs : ∀ (w : World) (o : Obj), (w.alloc o).heap.size = w.heap.size + 1 := fun w o => by simp
  have h0 := ha w o0
  have h1 := ha (w.alloc o0) o1
  have h2 := ha ((w.alloc o0).alloc o1) o2
  simp only [hs] at h0 h1 h2
  refine ⟨?_, ?_, h2⟩
  · rw [Below.heap_alloc _ _ _ (by simp only [hs]; omega), Below.heap_alloc _ _ _ (by simp only [hs]; omega)]; exact h0
  · rw [Below.heap_alloc _ _ _ (by simp only [hs]; omega)]; exact h1
theorem alloc3_below (w : World) (o0 o1 o2 : Obj) : Below w.heap.size w (((w.alloc o0).alloc o1).alloc o2).drew := ((((Below.refl _ _).alloc (Nat.le_refl _) _).alloc (by simp) _).alloc (by simp <;> omega) _).drew

theorem SmMem.grown {W W4 : World} {B r g cap g' cap' : Nat} {is : List It} {i : It} {km : List (Pl2 × Int)} {o : Obj} (h : SmMem W B r g cap is km) (hown : W4.ownsRow B 64 2 (.slice (some ⟨g', 0, none⟩) (is.length + 1) cap') (is.length + 1) (flatI is ++ [i.v, i.v']))
    (hgrow : (W.alloc o).grownBy W4 (some g)) : SmMem W4 B r g' cap' (is ++ [i]) km ∧ ∀ q, q < W.heap.size → q ≠ g → W4.heap[q]? = W.heap[q]? := by
  have hblk : ∀ q, q < W.heap.size → q ≠ g → W4.heap[q]? = W.heap[q]? := fun q hq hqg => by
    rw [hgrow.block q (by simp <;> omega) (by simp; exact hqg), Below.heap_alloc _ _ _ hq]
  have hg := h.g
  have hr := h.hr
  have hs : W.heap.size + 1 ≤ W4.heap.size := by have := hgrow.size; simpa using this
  refine ⟨⟨?_, h.map.same (hblk r h.map.lt (by omega)), by have := h.hB; omega, hr⟩, hblk⟩
  rw [List.length_append, List.length_cons, List.length_nil, flatI_snoc]
  exact hown

theorem info_two : ∃ i, Tryd.prog.info? 64 = some i ∧ i.zero = some (.agg #[.slice none 0 0, .slice none 0 0]) ∧ i.size = 2 ∧ i.bytes = 48 := by
  have h : (Tryd.prog.info? 64).map (fun i => (i.zero, i.size, i.bytes)) = some (some (.agg #[.slice none 0 0, .slice none 0 0]), 2, 48) := by kernel_rfl
  obtain ⟨i, h1, h2⟩ := Option.map_eq_some_iff.1 h
  simp only [Prod.mk.injEq] at h2
  exact ⟨i, h1, h2.1, h2.2.1, h2.2.2⟩

set_option maxHeartbeats 4000000 in
theorem implSame_any (sz : Vl → Nat) (hsz : IsSz sz) (t u : Vl) (dk dk' : Nat) (vl vn vl' vn' : Value) (w : World) (hP : PL w dk t.list vl) (hN : StrRow w 0 t.names vn) (hP' : PL w dk' u.list vl') (hN' : StrRow w 0 u.names vn') (hs : sz t ≤ 10000000) :
    Calls Tryd.prog 14 #[.agg #[.int .i64 t.kind, .int .i64 t.num, .string t.text, vl, vn], .agg #[.int .i64 u.kind, .int .i64 u.num, .string u.text, vl', vn']] w (TellsB (t = u) w) := by
  obtain ⟨p, n, rfl⟩ := hP.slice
  obtain ⟨p', n', rfl⟩ := hP'.slice
  obtain ⟨m, d, rfl, _, _⟩ := StrRow.len hN
  obtain ⟨m', d', rfl, _, _⟩ := StrRow.len hN'
  have HP : Hid _ := hP
  have HP' : Hid _ := hP'
  have HN : Hid _ := hN
  have HN' : Hid _ := hN'
  clear hP hP' hN hN'
  have hmm := @run_makeMap Tryd.prog
  go_enter Tryd.func14, Tryd.ntmps14
  go_wp2_with fail
  clear hmm
  obtain ⟨W0, hW0⟩ : ∃ W0, W0 = ((((w.alloc (Obj.cells #[.int .i64 t.kind, .int .i64 t.num, .string t.text, .slice p t.list.length n, .slice m t.names.length d] 30)).alloc (Obj.cells #[.int .i64 u.kind, .int .i64 u.num, .string u.text, .slice p' u.list.length n', .slice m' u.names.length d'] 30)).alloc (Obj.map #[] 0)).alloc (Obj.cells #[.int .i64 t.kind, .int .i64 t.num, .string t.text, .slice p t.list.length n, .slice m t.names.length d] 30)).alloc (Obj.cells #[.int .i64 u.kind, .int .i64 u.num, .string u.text, .slice p' u.list.length n', .slice m' u.names.length d'] 30) := ⟨_, rfl⟩
  rw [← hW0]
  obtain ⟨W1, hW1⟩ : ∃ W1, W1 = W0.alloc (Obj.cells #[.slice (some ⟨w.heap.size + 1 + 1 + 1, 0, none⟩) 1 1, .slice (some ⟨w.heap.size + 1 + 1 + 1 + 1, 0, none⟩) 1 1] 64) := ⟨_, rfl⟩
  rw [← hW1]
  have HG0 : Hid (SmGo sz t u w W0 W1 [⟨[t], .slice (some ⟨w.heap.size + 1 + 1 + 1, 0, none⟩) 1 1, [u], .slice (some ⟨w.heap.size + 1 + 1 + 1 + 1, 0, none⟩) 1 1⟩] none (sz t + 1) (w.heap.size + 1 + 1 + 1 + 1 + 1) 1 [] [([t], [u])]) := sm_start HP.out HN.out HP'.out HN'.out hW0 hW1
  clear hW0 hW1 HP HP' HN HN'
  go_loopg [6] (sz t + 1) (fun k p wr => ∃ is g cap km ps, p = .slice (some ⟨g, 0, none⟩) is.length cap ∧ Hid (SmGo sz t u w W0 wr is none k g cap km ps) ∧ Hid (leftI sz is = k))
  case atStart => exact ⟨_, _, _, _, _, rfl, HG0, (by show _ = _; simp [leftI, sumL])⟩
  case round =>
    rename Nat => k
    rename World => wo
    obtain ⟨is, g, cap, km, ps, rfl, HG, HL⟩ := hrel
    have hw5 : w.heap.size + 5 ≤ wo.heap.size := HG.out.mem.hB
    have hM1 : ∀ kk, 0 ≤ knownG km kk ∧ knownG km kk + (k : Int) ≤ ((sz t + 1 : Nat) : Int) := HG.out.st.bound
    have hkM : k ≤ sz t + 1 := by have := hM1 ((⟨0, 0, none⟩, 0), (⟨0, 0, none⟩, 0)); omega
    clear hM1
    by_cases hem : is = []
    · have HX : Hid (t = u) := by have h := HG.out.st; rw [hem] at h; exact h.done
      have hl0 : is.length = 0 := by rw [hem]; rfl
      clear hem
      go_wp2_with fail
      go_ret
      exact TellsB.yes HX.out HG.out.below
    · obtain ⟨rest, it, rfl⟩ : ∃ rest it, is = rest ++ [it] := ⟨is.dropLast, is.getLast hem, (List.dropLast_concat_getLast hem).symm⟩
      have hln : (rest ++ [it]).length = rest.length + 1 := by simp
      rw [hln]
      have hrl : rest.length ≤ 10000001 := by
        have h1 := leftI_len sz (rest ++ [it])
        have h2 := HL.out
        rw [hln] at h1
        omega
      have hrli : (rest.length : Int) ≤ 10000001 := by omega
      obtain ⟨hne, hlen, ⟨kf, hPf⟩, ⟨kf', hPf'⟩, hin⟩ := HG.out.st.items it (List.mem_append_right _ List.mem_cons_self)
      have hcap := HG.out.mem.cap
      rw [hln] at hcap
      have hcap1 := hcap.1
      have hg := HG.out.mem.g
      have hgl := hg.2
      obtain ⟨l, v, l', v'⟩ := it
      simp only at hne hlen hPf hPf' hin
      obtain ⟨b, off, c, kk, rfl, _, h80, _⟩ := hPf.at hne
      obtain ⟨b', off', c', kk', rfl, _, h80', _⟩ := hPf'.at (fun h => hne (List.eq_nil_of_length_eq_zero (by rw [hlen, h]; rfl)))
      have c0 : wo.cell? ⟨g, rest.length * 2, none⟩ = some (.slice (some ⟨b, off, none⟩) l.length c) := by
        have h1 := HG.out.mem.row.cellAt (rest.length * 2) (by simp <;> omega)
        have h2 := flatI_at rest ⟨l, .slice (some ⟨b, off, none⟩) l.length c, l', .slice (some ⟨b', off', none⟩) l'.length c'⟩ 0
        rw [Nat.add_zero] at h2
        rw [h1, h2]; rfl
      have c1 : wo.cell? ⟨g, rest.length * 2 + 1, none⟩ = some (.slice (some ⟨b', off', none⟩) l'.length c') := by
        have h1 := HG.out.mem.row.cellAt (rest.length * 2 + 1) (by simp <;> omega)
        have h2 := flatI_at rest ⟨l, .slice (some ⟨b, off, none⟩) l.length c, l', .slice (some ⟨b', off', none⟩) l'.length c'⟩ 1
        rw [h1, h2]; rfl
      have hli : (l.length : Int) ≤ 140737488351232 := by omega
      have hn1 : (rest.length : Int) < (rest.length : Int) + 1 := by omega
      have HPf : Hid (PL W0 kf l (.slice (some ⟨b, off, none⟩) l.length c)) := hPf
      have HPf' : Hid (PL W0 kf' l' (.slice (some ⟨b', off', none⟩) l'.length c')) := hPf'
      have HIN : Hid ((l, l') ∈ ps) := hin
      have HLEN : Hid (l.length = l'.length) := hlen
      clear hPf hPf' hin hg hcap hlen
      go_wp2_with fail
      have HG1 : Hid (SmGo sz t u w W0 (wo.alloc (Obj.cells #[.slice (some ⟨b, off, none⟩) l.length c, .slice (some ⟨b', off', none⟩) l'.length c'] 64)) rest (some (l, l')) (leftI sz rest + sumL sz (l.drop 0)) g cap km ps) := by
        have h := HG.out.grew (W' := wo.alloc (Obj.cells #[.slice (some ⟨b, off, none⟩) l.length c, .slice (some ⟨b', off', none⟩) l'.length c'] 64)) ((Below.refl _ _).alloc (Nat.le_refl _) _)
        have h2 := HL.out
        rw [leftI_snoc] at h2
        exact ⟨h.mem.pop, h.stay, h.below, h.st.pop.less (by simp only [List.drop_zero]; simp only at h2; omega), h.at0, h.size0⟩
      have HLK : Hid (leftI sz rest + sumL sz (l.drop 0) + 1 ≤ k) := by
        have h2 := HL.out
        rw [leftI_snoc] at h2
        show _ ≤ _
        simp only [List.drop_zero]
        simp only at h2
        omega
      have HOW : Hid (Owns (wo.alloc (Obj.cells #[.slice (some ⟨b, off, none⟩) l.length c, .slice (some ⟨b', off', none⟩) l'.length c'] 64)) wo.heap.size #[.slice (some ⟨b, off, none⟩) l.length c, .slice (some ⟨b', off', none⟩) l'.length c'] 64 ∧ g ≠ wo.heap.size) := ⟨Owns.made _ _ _, by omega⟩
      clear c0 c1 HG HL hcap1
      obtain ⟨bL, hbL⟩ : ∃ bL, bL = wo.heap.size := ⟨_, rfl⟩
      go_loopg [6, 36] l.length (fun k2 p i ws => ∃ (j : Nat) (is : List It) (g cap : Nat) (km : List (Pl2 × Int)) (ps : List (List Vl × List Vl)), j + k2 = l.length ∧ i = .int .i64 (j : Int) ∧ p = .slice (some ⟨g, 0, none⟩) is.length cap ∧ Hid (SmGo sz t u w W0 ws is (some (l, l')) (leftI sz is + sumL sz (l.drop j)) g cap km ps) ∧ Hid (leftI sz is + sumL sz (l.drop j) + 1 ≤ k) ∧ Hid (Upto ps (l, l') j) ∧ Hid ((l, l') ∈ ps) ∧ Hid (Owns ws wo.heap.size #[.slice (some ⟨b, off, none⟩) l.length c, .slice (some ⟨b', off', none⟩) l'.length c'] 64 ∧ g ≠ wo.heap.size))
      case atStart => exact ⟨0, rest, g, cap, km, ps, by omega, rfl, rfl, HG1, HLK, ⟨HLEN.out, fun _ _ _ h => absurd h (Nat.not_lt_zero _)⟩, HIN, HOW⟩
      case round =>
        clear HG1 HLK HOW HIN hgl
        obtain ⟨j, is, g, cap, km, ps, hj, rfl, rfl, HG, HLK, HU, HIN, HOW⟩ := hrel
        have hst0 := HG.out.stay
        have hat0 := HG.out.at0
        have hgl := HG.out.mem.g
        have ho0 : wr.cell? ⟨wo.heap.size, 0, none⟩ = some (.slice (some ⟨b, off, none⟩) l.length c) := by rw [HOW.out.1.cell]; rfl
        have ho1 : wr.cell? ⟨wo.heap.size, 1, none⟩ = some (.slice (some ⟨b', off', none⟩) l'.length c') := by rw [HOW.out.1.cell]; rfl
        by_cases hlt : j < l.length
        · have hlt' : j < l'.length := by have := HLEN.out; omega
          obtain ⟨b1, off1, c1, m1, hv1, hp1, h81, hels⟩ := HPf.out.at hne
          simp only [Value.slice.injEq, Option.some.injEq, Addr.mk.injEq, and_true, true_and] at hv1
          obtain ⟨⟨rfl, rfl⟩, rfl⟩ := hv1
          obtain ⟨b2, off2, c2, m2, hv2, hp2, h82, hels'⟩ := HPf'.out.at (List.ne_nil_of_length_pos (by omega))
          simp only [Value.slice.injEq, Option.some.injEq, Addr.mk.injEq, and_true, true_and] at hv2
          obtain ⟨⟨rfl, rfl⟩, rfl⟩ := hv2
          obtain ⟨vx, vxn, hcx, hxn, hxl⟩ := hels j hlt
          obtain ⟨vy, vyn, hcy, hyn, hyl⟩ := hels' j hlt'
          obtain ⟨ax, cx, rfl⟩ := hxl.slice
          obtain ⟨ay, cy, rfl⟩ := hyl.slice
          obtain ⟨x0, x1, x2, x3, x4⟩ := hcx.five
          obtain ⟨y0, y1, y2, y3, y4⟩ := hcy.five
          replace x0 := hst0.cell hat0 x0
          replace x1 := hst0.cell hat0 x1
          replace x2 := hst0.cell hat0 x2
          replace x3 := hst0.cell hat0 x3
          replace x4 := hst0.cell hat0 x4
          replace y0 := hst0.cell hat0 y0
          replace y1 := hst0.cell hat0 y1
          replace y2 := hst0.cell hat0 y2
          replace y3 := hst0.cell hat0 y3
          replace y4 := hst0.cell hat0 y4
          replace hxn : StrRow wr 0 l[j].names vxn := Row.cw (fun p v hc => hst0.cell hat0 hc) (fun _ _ h => h) hxn
          replace hyn : StrRow wr 0 l'[j].names vyn := Row.cw (fun p v hc => hst0.cell hat0 hc) (fun _ _ h => h) hyn
          have hji : (j : Int) < (l.length : Int) := by omega
          have hji' : (j : Int) < (l'.length : Int) := by omega
          obtain ⟨mx, dx, rfl, _, _⟩ := StrRow.len hxn
          obtain ⟨my, dy, rfl, _, _⟩ := StrRow.len hyn
          have hxl8 : l[j].list.length ≤ 140737488351232 := by
            by_cases h : l[j].list = []
            · rw [h]; simp
            · obtain ⟨_, _, _, _, _, _, h, _⟩ := hxl.at h; omega
          have hyl8 : l'[j].list.length ≤ 140737488351232 := by
            by_cases h : l'[j].list = []
            · rw [h]; simp
            · obtain ⟨_, _, _, _, _, _, h, _⟩ := hyl.at h; omega
          have HXN : Hid (StrRow wr 0 l[j].names (.slice mx l[j].names.length dx)) := hxn
          have HYN : Hid (StrRow wr 0 l'[j].names (.slice my l'[j].names.length dy)) := hyn
          have HXL : Hid (PL W0 m1 l[j].list (.slice ax l[j].list.length cx)) := hxl
          have HYL : Hid (PL W0 m2 l'[j].list (.slice ay l'[j].list.length cy)) := hyl
          clear hcx hcy hxn hyn hxl hyl hels hels' hst0 hat0 hp1 hp2
          have hlo : wo.heap.size < wr.heap.size := HOW.out.1.lt
          have hb1l : b < wr.heap.size := cell_lt x0
          have hb2l : b' < wr.heap.size := cell_lt y0
          go_wp2_with fail
          refine (sameOut_any l[j] l'[j] ax ay cx cy _ _ _ (StrRow.keeps (((Keeps.refl _ _).alloc _).alloc _) HXN.out) (StrRow.keeps (((Keeps.refl _ _).alloc _).alloc _) HYN.out) hxl8 hyl8).mono ?_
          rintro e w1 ⟨r, rfl, hr, hbb⟩
          have x3b : w1.cell? ⟨wr.heap.size, 3, none⟩ = some (.slice ax l[j].list.length cx) := cell_on hbb (by simp)
          have y3b : w1.cell? ⟨wr.heap.size + 1, 3, none⟩ = some (.slice ay l'[j].list.length cy) := cell_on hbb (by simp)
          have hz : wr.heap.size + 1 < w1.heap.size := cell_lt y3b
          have HB1 : Hid (Below wr.heap.size wr w1) := (two_belowO wr _ _).trans (hbb.mono (by simp <;> omega))
          clear hbb x0 x1 x2 x3 x4 y0 y1 y2 y3 y4 HXN HYN ho0 ho1
          have HG2 : Hid (SmGo sz t u w W0 w1 is (some (l, l')) (leftI sz is + sumL sz (l.drop j)) g cap km ps) := HG.out.grew HB1.out
          have HOW2 : Hid (Owns w1 wo.heap.size #[.slice (some ⟨b, off, none⟩) l.length c, .slice (some ⟨b', off', none⟩) l'.length c'] 64 ∧ g ≠ wo.heap.size) := ⟨HOW.out.1.below HB1.out hlo, HOW.out.2⟩
          have HLS : Hid (sumL sz (l.drop j) = sumL sz (l.drop (j + 1)) + sumL sz l[j].list + 2) := sumL_drop hsz hlt
          cases r
          · have HX : Hid (¬ t = u) := fun he => by
              have h1 := HG2.out.st.eqs he _ HIN.out
              simp only at h1
              have h2 : Out l[j] l'[j] := Out.of_eq (by subst h1; rfl)
              exact absurd (hr.2 h2) (by simp)
            clear hr HG HOW
            go_wp2_with fail
            go_ret
            exact TellsB.no HX.out HG2.out.below
          · have HO : Hid (Out l[j] l'[j]) := hr.1 rfl
            clear hr HG HOW
            by_cases hem2 : l[j].list = []
            · have hl0 : l[j].list.length = 0 := by rw [hem2]; rfl
              have HU2 : Hid (Upto ps (l, l') (j + 1)) := HU.out.next hlt hlt' HO.out (fun h => absurd hem2 h)
              have HG3 : Hid (SmGo sz t u w W0 w1 is (some (l, l')) (leftI sz is + sumL sz (l.drop (j + 1))) g cap km ps) := by
                have h := HG2.out
                have h2 := HLS.out
                exact ⟨h.mem, h.stay, h.below, h.st.less (by omega), h.at0, h.size0⟩
              have HLK3 : Hid (leftI sz is + sumL sz (l.drop (j + 1)) + 1 ≤ k) := by
                have h1 := HLK.out
                have h2 := HLS.out
                show _ ≤ _
                omega
              clear hem2 HG2 HLK HLS HU
              go_wp2_with fail
              go_roundg (gk - 1)
              case rel => exact ⟨j + 1, is, g, cap, km, ps, by omega, by go_num, rfl, HG3, HLK3, HU2, HIN, HOW2⟩
              case measure => omega
            · have hl1 : ((l[j].list.length : Int) == 0) = false := by simp [hem2]
              have hem3 : ¬ l'[j].list = [] := fun h => hem2 (List.eq_nil_of_length_eq_zero (by rw [HO.out.2.2.2.1, h]; rfl))
              obtain ⟨bx, ox, qx, _, hvx, hplx, _, _⟩ := HXL.out.at hem2
              obtain ⟨by', oy, qy, _, hvy, hply, _, _⟩ := HYL.out.at hem3
              simp only [Value.slice.injEq, true_and] at hvx hvy
              obtain ⟨rfl, rfl⟩ := hvx
              obtain ⟨rfl, rfl⟩ := hvy
              have hlx1 : 1 ≤ l[j].list.length := List.length_pos_iff.2 hem2
              have hly1 : 1 ≤ l'[j].list.length := List.length_pos_iff.2 hem3
              have HEM : Hid (¬ l[j].list = []) := hem2
              have HEM3 : Hid (¬ l'[j].list = []) := hem3
              have HPX : Hid (Plain W0 ⟨bx, ox, none⟩ ∧ Plain W0 ⟨by', oy, none⟩) := ⟨hplx, hply⟩
              clear hem2 hem3 hplx hply
              have hz0 : wr.heap.size < w1.heap.size := by omega
              have hz1 : wr.heap.size < w1.heap.size + 1 := by omega
              have hz2 : wr.heap.size + 1 < w1.heap.size + 1 := by omega
              have hz3 : wr.heap.size < w1.heap.size + 1 + 1 := by omega
              have hz4 : wr.heap.size + 1 < w1.heap.size + 1 + 1 := by omega
              have hz5 : wr.heap.size < w1.heap.size + 2 := by omega
              have hz6 : wr.heap.size + 1 < w1.heap.size + 2 := by omega
              go_upto_region 14 with fail
              go_cut [12, 36] from 36 to 79 (fun kp i36 wx => i36 = .int .i64 (j : Int) ∧ ∃ bK, kp = .pointer (some ⟨bK, 0, none⟩) ∧ Hid (KeyMade w1 wx bK ⟨bx, ox, none⟩ l[j].list.length ⟨by', oy, none⟩ l'[j].list.length))
              case first =>
                go_region_held3 (fun w' => w'.cell? ⟨wr.heap.size, 3, none⟩ = some (.slice (some ⟨bx, ox, none⟩) l[j].list.length cx) ∧ w'.cell? ⟨wr.heap.size + 1, 3, none⟩ = some (.slice (some ⟨by', oy, none⟩) l'[j].list.length cy)) (first | exact ⟨cell_al (cell_al (cell_al x3b _) _) _, cell_al (cell_al (cell_al y3b _) _) _⟩ | exact ⟨cell_al (cell_al x3b _) _, cell_al (cell_al y3b _) _⟩ | exact ⟨cell_al x3b _, cell_al y3b _⟩ | exact ⟨x3b, y3b⟩ | go_keep) (first | (go_at_call 36; refine (placeOf_any _ _ _ _ _ (by first | exact hlx1 | exact hly1) (by first | exact hxl8 | exact hyl8)).mono ?_; rintro e wp ⟨rfl, rfl⟩))
                all_goals
                  go_wp2_with fail
                  go_meet
                  case rel => first | exact ⟨rfl, _, rfl, ⟨(alloc3_at w1 _ _ _).1, alloc3_below w1 _ _ _, Nat.le_refl _⟩⟩ | exact ⟨rfl, _, rfl, ⟨(alloc3_at w1 _ _ _).2.1, alloc3_below w1 _ _ _, by omega⟩⟩ | exact ⟨rfl, _, rfl, ⟨(alloc3_at w1 _ _ _).2.2, alloc3_below w1 _ _ _, by omega⟩⟩
              case rest =>
                obtain ⟨rfl, bK, rfl, HK⟩ := hcut
                have hGc := HG2.out.grew HK.out.below
                obtain ⟨Wm, W2, v0, st, km2, hl1, he1, hl2, hs1, hl3, hM2, hsy2, hB2, hsz2, hblk2, hkn2, hmem2⟩ := SmGo.bump (wd := wc.drew) (hGc.draws 1) ((⟨bx, ox, none⟩, l[j].list.length), (⟨by', oy, none⟩, l'[j].list.length)) HPX.out
                have hbd := hGc.st.bound ((⟨bx, ox, none⟩, l[j].list.length), (⟨by', oy, none⟩, l'[j].list.length))
                have HKN : Hid (∀ b, knownG km2 b = if b = ((⟨bx, ox, none⟩, l[j].list.length), (⟨by', oy, none⟩, l'[j].list.length)) then knownG km ((⟨bx, ox, none⟩, l[j].list.length), (⟨by', oy, none⟩, l'[j].list.length)) + 1 else knownG km b) := hkn2
                have HMM : Hid (∀ e ∈ km2, e.1 = ((⟨bx, ox, none⟩, l[j].list.length), (⟨by', oy, none⟩, l'[j].list.length)) ∨ ∃ e' ∈ km, e'.1 = e.1) := hmem2
                obtain ⟨kn, hkn⟩ : ∃ kn, knownG km ((⟨bx, ox, none⟩, l[j].list.length), (⟨by', oy, none⟩, l'[j].list.length)) = kn := ⟨_, rfl⟩
                have HKQ : Hid (knownG km ((⟨bx, ox, none⟩, l[j].list.length), (⟨by', oy, none⟩, l'[j].list.length)) = kn) := hkn
                rw [hkn] at hl1 hl2 hs1 hl3 hbd
                simp only [kv2] at hl1 he1 hl2 hl3
                have hkn0 : 0 ≤ kn := hbd.1
                have hknM : kn ≤ 10000001 := by have := hbd.2; omega
                have hne2 : ∀ q, wc.heap.size ≤ q ∨ w.heap.size + 5 ≤ q → q ≠ w.heap.size + 1 + 1 := fun q hq => by have := hGc.mem.hB; omega
                have k0 : ∀ o, wc.cell? ⟨bK, o, none⟩ = #[Value.pointer (some ⟨bx, ox, none⟩), .int .i64 (l[j].list.length : Int), .pointer (some ⟨by', oy, none⟩), .int .i64 (l'[j].list.length : Int)][o]? := fun o => HK.out.own.cell o
                have hcel : ∀ (q o : Nat), q ≠ w.heap.size + 1 + 1 → W2.cell? ⟨q, o, none⟩ = wc.cell? ⟨q, o, none⟩ := fun q o hq => World.cell?_of_block (hblk2 q hq)
                have hrl5 : wo.heap.size + 1 ≤ wr.heap.size := hlo
                have hwc := HK.out.below.size
                have kc0 : wc.cell? ⟨bK, 0, none⟩ = some (.pointer (some ⟨bx, ox, none⟩)) := k0 0
                have kc1 : wc.cell? ⟨bK, 1, none⟩ = some (.int .i64 (l[j].list.length : Int)) := k0 1
                have kc2 : wc.cell? ⟨bK, 2, none⟩ = some (.pointer (some ⟨by', oy, none⟩)) := k0 2
                have kc3 : wc.cell? ⟨bK, 3, none⟩ = some (.int .i64 (l'[j].list.length : Int)) := k0 3
                have hbK : bK ≠ w.heap.size + 1 + 1 := by have := HK.out.new; omega
                have kd0 : W2.cell? ⟨bK, 0, none⟩ = some (.pointer (some ⟨bx, ox, none⟩)) := (hcel bK 0 hbK).trans kc0
                have kd1 : W2.cell? ⟨bK, 1, none⟩ = some (.int .i64 (l[j].list.length : Int)) := (hcel bK 1 hbK).trans kc1
                have kd2 : W2.cell? ⟨bK, 2, none⟩ = some (.pointer (some ⟨by', oy, none⟩)) := (hcel bK 2 hbK).trans kc2
                have kd3 : W2.cell? ⟨bK, 3, none⟩ = some (.int .i64 (l'[j].list.length : Int)) := (hcel bK 3 hbK).trans kc3
                have x3c : W2.cell? ⟨wr.heap.size, 3, none⟩ = some (.slice (some ⟨bx, ox, none⟩) l[j].list.length cx) := (hcel _ 3 (by omega)).trans (cell_on HK.out.below x3b)
                have y3c : W2.cell? ⟨wr.heap.size + 1, 3, none⟩ = some (.slice (some ⟨by', oy, none⟩) l'[j].list.length cy) := (hcel _ 3 (by omega)).trans (cell_on HK.out.below y3b)
                have HOW3 : Hid (Owns W2 wo.heap.size #[.slice (some ⟨b, off, none⟩) l.length c, .slice (some ⟨b', off', none⟩) l'.length c'] 64 ∧ g ≠ wo.heap.size) := by
                  refine ⟨?_, HOW2.out.2⟩
                  have h1 := HOW2.out.1.below HK.out.below (by omega)
                  unfold Owns at h1 ⊢
                  rw [hblk2 _ (by omega)]; exact h1
                have HM2 : Hid (SmMem W2 (w.heap.size + 5) (w.heap.size + 1 + 1) g cap is km2) := hM2
                have HSY : Hid (Stay (w.heap.size + 1 + 1) W0 W2) := hsy2
                have HB2 : Hid (Below w.heap.size w W2) := hB2
                have HST : Hid (SmSt W0 t u ps is (some (l, l')) km (leftI sz is + sumL sz (l.drop j)) (sz t + 1)) := hGc.st
                have HA0 : Hid (MapAt W0 (w.heap.size + 1 + 1) ∧ W0.heap.size = w.heap.size + 5) := ⟨hGc.at0, hGc.size0⟩
                have hW2l : wo.heap.size < W2.heap.size := HOW3.out.1.lt
                clear hGc hM2 hsy2 hB2 hsz2 hblk2 hkn2 hmem2 hkn hbd hne2 k0 hcel HK HOW2 HG2 x3b y3b HB1 hwc hz hz0 hz1 hz2 hz3 hz4 hz5 hz6
                by_cases hk0 : kn = 0
                · subst hk0
                  simp only [Int.zero_add] at hs1 hl3
                  have hisl : is.length ≤ 10000001 := by have h1 := leftI_len sz is; have h2 := HLK.out; omega
                  obtain ⟨i0, hi0, hzz, hz1, hz2⟩ := info_two
                  go_wp2_with fail
                  go_region
                  go_wp2_with (at_builtin; refine wpList_append_lies _ rfl _ _ _ rfl (w.heap.size + 5) 64 i0 _ 2 48 Tryd.underlying65 hi0 hzz hz1 hz2 rfl (by omega) (.slice (some ⟨g, 0, none⟩) is.length cap) is.length (flatI is) rfl (HM2.out.row.alloc _) ⟨W2.heap.size, 0, none⟩ 1 1 [.slice (some ⟨bx, ox, none⟩) l[j].list.length cx, .slice (some ⟨by', oy, none⟩) l'[j].list.length cy] rfl rfl (World.news_of_block (cs := #[.slice (some ⟨bx, ox, none⟩) l[j].list.length cx, .slice (some ⟨by', oy, none⟩) l'[j].list.length cy]) (t := 64) (fr := (0, 0)) (heap_alloc_new W2 _)) (by simp [Value.oneCell']) (by omega) (by unfold maxLen; omega) (by omega) (by have := HM2.out.hB; simp; omega) (W2.heap.size + 1) (by simp) ?_; intro g' cap' W4 hown' hgrow hat hlt4; have HOWN : Hid _ := hown'; have HGROW : Hid _ := hgrow; have HAT : Hid _ := hat; clear hown' hgrow hat)
                  obtain ⟨hM4, hblk4⟩ := HM2.out.grown (i := ⟨l[j].list, .slice (some ⟨bx, ox, none⟩) l[j].list.length cx, l'[j].list, .slice (some ⟨by', oy, none⟩) l'[j].list.length cy⟩) HOWN.out HGROW.out
                  have hgB := HM2.out.g
                  have hst2 := (HST.out.less (left' := leftI sz is + sumL sz l[j].list + 1 + sumL sz (l.drop (j + 1)) + 1) (by have := HLS.out; omega)).push (k := ((⟨bx, ox, none⟩, l[j].list.length), (⟨by', oy, none⟩, l'[j].list.length))) HEM.out HO.out.2.2.2.1 HPX.out HKQ.out HXL.out HYL.out (fun he => by have h1 := HST.out.eqs he _ HIN.out; simp only at h1; subst h1; rfl) HKN.out HMM.out
                  have hle4 : W2.heap.size ≤ W4.heap.size := by have := HGROW.out.size; simp at this; omega
                  have hG4 : SmGo sz t u w W0 W4 (is ++ [⟨l[j].list, .slice (some ⟨bx, ox, none⟩) l[j].list.length cx, l'[j].list, .slice (some ⟨by', oy, none⟩) l'[j].list.length cy⟩]) (some (l, l')) (leftI sz (is ++ [⟨l[j].list, .slice (some ⟨bx, ox, none⟩) l[j].list.length cx, l'[j].list, .slice (some ⟨by', oy, none⟩) l'[j].list.length cy⟩]) + sumL sz (l.drop (j + 1))) g' cap' km2 ((l[j].list, l'[j].list) :: ps) := by
                    refine ⟨hM4, ⟨Nat.le_trans HSY.out.size hle4, fun q h1 h2 => ?_⟩, ⟨HGROW.out.os.trans HB2.out.os, HGROW.out.tape.trans HB2.out.tape, HGROW.out.output.trans HB2.out.output, Nat.le_trans HB2.out.size hle4, fun q hq => ?_⟩, ?_, HA0.out.1, HA0.out.2⟩
                    · have := HA0.out.2
                      rw [hblk4 q (by have := HSY.out.size; omega) (by omega)]
                      exact HSY.out.block q h1 h2
                    · rw [hblk4 q (by have := HB2.out.size; omega) (by omega)]
                      exact HB2.out.block q hq
                    · refine hst2.less ?_
                      rw [leftI_snoc]
                      simp only
                      omega
                  have hU4 : Upto ((l[j].list, l'[j].list) :: ps) (l, l') (j + 1) := (HU.out.more (fun q hq => List.mem_cons_of_mem _ hq)).next hlt hlt' HO.out (fun _ => List.mem_cons_self)
                  have hL4 : leftI sz (is ++ [⟨l[j].list, .slice (some ⟨bx, ox, none⟩) l[j].list.length cx, l'[j].list, .slice (some ⟨by', oy, none⟩) l'[j].list.length cy⟩]) + sumL sz (l.drop (j + 1)) + 1 ≤ k := by
                    have h1 := HLK.out
                    have h2 := HLS.out
                    rw [leftI_snoc]
                    simp only
                    omega
                  have hO4 : Owns W4 wo.heap.size #[.slice (some ⟨b, off, none⟩) l.length c, .slice (some ⟨b', off', none⟩) l'.length c'] 64 ∧ g' ≠ wo.heap.size := by
                    refine ⟨?_, ?_⟩
                    · have h1 := HOW3.out.1
                      unfold Owns at h1 ⊢
                      rw [hblk4 _ hW2l HOW3.out.2.symm]; exact h1
                    · rcases HAT.out with h | h
                      · have hgg : g = g' := by simpa [Value.ownBlock] using h
                        rw [← hgg]; exact HOW3.out.2
                      · omega
                  go_roundg (gk - 1)
                  case rel => exact ⟨j + 1, _, g', cap', km2, _, by omega, by go_num, by simp, hG4, hL4, hU4, List.mem_cons_of_mem _ HIN.out, hO4⟩
                  case measure => omega
                · have hkb : ((kn + 1 : Int) == 1) = false := by simp; omega
                  obtain ⟨hin2, hst2⟩ := (HST.out.less (left' := leftI sz is + sumL sz (l.drop (j + 1)) + 1) (by have := HLS.out; omega)).met (k := ((⟨bx, ox, none⟩, l[j].list.length), (⟨by', oy, none⟩, l'[j].list.length))) (by rw [HKQ.out]; exact hk0) HXL.out HYL.out HKN.out HMM.out
                  have HU2 : Hid (Upto ps (l, l') (j + 1)) := HU.out.next hlt hlt' HO.out (fun _ => hin2)
                  have HG3 : Hid (SmGo sz t u w W0 W2 is (some (l, l')) (leftI sz is + sumL sz (l.drop (j + 1))) g cap km2 ps) := ⟨HM2.out, HSY.out, HB2.out, hst2, HA0.out.1, HA0.out.2⟩
                  have HLK3 : Hid (leftI sz is + sumL sz (l.drop (j + 1)) + 1 ≤ k) := by
                    have h1 := HLK.out
                    have h2 := HLS.out
                    show _ ≤ _
                    omega
                  clear hin2 hst2 HST HKN HMM HKQ
                  go_wp2_with fail
                  go_region
                  go_wp2_with fail
                  go_roundg (gk - 1)
                  case rel => exact ⟨j + 1, is, g, cap, km2, ps, by omega, by go_num, rfl, HG3, HLK3, HU2, HIN, HOW3⟩
                  case measure => omega
        · obtain rfl : j = l.length := by omega
          have HG3 : Hid (SmGo sz t u w W0 wr is none (leftI sz is) g cap km ps) := by
            have h := HG.out
            have h2 : Upto ps (l, l') (l, l').1.length := HU.out
            exact ⟨h.mem, h.stay, h.below, (h.st.close h2).less (by omega), h.at0, h.size0⟩
          have hlk : leftI sz is < k := by have := HLK.out; omega
          clear HG HU HLK HOW ho0 ho1
          go_wp2_with fail
          go_roundg (leftI sz is)
          case rel => exact ⟨is, g, cap, km, ps, rfl, HG3, rfl⟩
          case measure => exact hlk

end Go.Proofs.YtegnalfkdponhaaDoor
