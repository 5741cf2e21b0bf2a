/-
  DERIVED. laws.FnExactValueSame: its walk out of the contracts.
-/
import Derived.Test.YtkcdodnkbbeoeaaSameSp
import Derived.Test.YtkcdodnkbbeoeaaSmW
import Derived.Test.YtkcdodnkbbeoeaaVlToO
import Derived.Test.YtkcdodnkbbeoeaaVlSzC
import Derived.Deep.Cut
namespace Go.Proofs.Ytkcdodnkbbeoeaa
open Go.RowKit
set_option linter.unusedVariables false
set_option linter.unusedSimpArgs false

/-- A value that owns its memory lies at places. -/
theorem VlO.pl {w : World} : ∀ (k lo hi : Nat) (t : Vl) (x y z vl vn : Value), VlO w k lo hi t [x, y, z, vl, vn] → PL w k t.list vl ∧ StrRow w 0 t.names vn
  | 0, _, _, _, _, _, _, _, _, h => h.elim
  | k + 1, lo, hi, t, x, y, z, vl, vn, ⟨vl', vn', q0, q1, h1, _, _, _, h5, h6, h7, h8, h9, h10⟩ => by
    simp only [List.cons.injEq, and_true] at h1
    obtain ⟨_, _, _, rfl, rfl⟩ := h1
    refine ⟨?_, StrO.row h8 (fun _ _ => Nat.zero_le _)⟩
    rcases h7 with ⟨hl, rfl⟩ | ⟨b, c, p, rfl, g1, g2, g3, g4, g5, g6, g7, g8⟩
    · exact Or.inl ⟨hl, none, 0, rfl⟩
    · refine Or.inr ⟨b, 0, t.list.length, rfl, ⟨c, _, g2⟩, g1, fun i hi => ?_⟩
      obtain ⟨cs, a1, a2, a3⟩ := g8 i hi
      obtain ⟨a, c', a', c'', hcs⟩ := a3.cells
      subst hcs
      obtain ⟨r1, r2⟩ := VlO.pl k _ _ _ _ _ _ _ _ a3
      refine ⟨_, _, fun j hj => ?_, r2, r1⟩
      rw [g2.cell, Nat.zero_add, a2 j (by simpa using hj)]

theorem sum_cnt {sz : Vl → Nat} {c : Vl → Nat} {l : List Vl} (h : ∀ x ∈ l, sz x ≤ c x) : sumL sz l ≤ cntS c l := by
  induction l with
  | nil => simp [sumL, cntS]
  | cons y r ih =>
    have h1 := h y List.mem_cons_self
    have h2 := ih (fun x hx => h x (List.mem_cons_of_mem _ hx))
    simp only [sumL, cntS]; omega
theorem sz_cnt {sz : Vl → Nat} (hsz : IsSz sz) {w : World} : ∀ (k : Nat) (t : Vl) (cs : List Value), VlR w 0 k t cs → sz t ≤ cntE k t
  | 0, _, _, h => h.elim
  | k + 1, t, cs, h => by
    obtain ⟨vl, vn, _, _, _, _, hrow, _⟩ := h
    rw [hsz t]
    have : sumL sz t.list ≤ cntS (cntE k) t.list := sum_cnt (fun x hx => by
      obtain ⟨i, hi, rfl⟩ := List.getElem_of_mem hx
      obtain ⟨a, c, _, _, hr⟩ := Row.len hrow
      obtain ⟨b, off, _, _, hc⟩ := hr (List.ne_nil_of_mem hx)
      obtain ⟨cs', _, _, h3⟩ := hc i hi
      exact sz_cnt hsz k _ _ h3)
    simp only [cntE]
    omega

theorem toR (k : Nat) (t : Vl) (vl vn : Value) (w : World) (ht : VlR w 0 k t [.int .i64 t.kind, .int .i64 t.num, .string t.text, vl, vn]) :
    Calls Try.prog 6 #[.agg #[.int .i64 t.kind, .int .i64 t.num, .string t.text, vl, vn]] w fun e w' =>
      ∃ vl' vn', e = .returned (.agg #[.int .i64 t.kind, .int .i64 t.num, .string t.text, vl', vn']) ∧ VlR w' 0 k t [.int .i64 t.kind, .int .i64 t.num, .string t.text, vl', vn'] ∧ Below w.heap.size w w' := by
  refine ((toO_all k).1 t _ _ _ ht).mono ?_
  rintro e w' ⟨vl', vn', rfl, h, hb⟩
  exact ⟨vl', vn', rfl, VlR.base (Nat.zero_le _) k _ _ (VlO.read _ _ _ _ _ h), hb⟩

set_option maxHeartbeats 1000000 in
theorem specVS (k : Nat) (t u : Vl) (vl vn vl' vn' : Value) (w : World) (ht : VlR w 0 k t [.int .i64 t.kind, .int .i64 t.num, .string t.text, vl, vn]) (hu : VlR w 0 k u [.int .i64 u.kind, .int .i64 u.num, .string u.text, vl', vn']) :
    Calls Try.prog 5 #[.agg #[.int .i64 t.kind, .int .i64 t.num, .string t.text, vl, vn], .agg #[.int .i64 u.kind, .int .i64 u.num, .string u.text, vl', vn']] w (SameAns t u w) := by
  have HT : Hid _ := ht
  have HU : Hid _ := hu
  clear ht hu
  go_enter Try.func5, Try.ntmps5
  go_wp2_with fail
  refine (specSm_all k t u _ _ _ _ _ (VlR.keeps (((Keeps.refl _ _).alloc _).alloc _) k _ _ HT.out) (VlR.keeps (((Keeps.refl _ _).alloc _).alloc _) k _ _ HU.out)).mono ?_
  rintro e w1 ⟨b, rfl, hb, hb1⟩
  have HB : Hid (Below w.heap.size w w1) := (two_belowO _ _ _).trans (hb1.mono (by simp <;> omega))
  have HH : Hid (b = true ↔ t = u) := hb
  clear hb1 hb
  go_wp2_with fail
  go_ret
  exact ⟨b, rfl, HH.out, HB.out⟩

theorem keeps_below {w W W' : World} (h : Keeps 0 w W) (hb : Below W.heap.size W W') : Keeps 0 w W' := h.trans (Keeps.of_below hb (Nat.le_refl _) 0)

theorem five_of {W : World} {b : Nat} {x0 x1 x2 x3 x4 : Value} (h : ∀ o, W.cell? ⟨b, o, none⟩ = #[x0, x1, x2, x3, x4][o]?) :
    W.cell? ⟨b, 0, none⟩ = some x0 ∧ W.cell? ⟨b, 1, none⟩ = some x1 ∧ W.cell? ⟨b, 2, none⟩ = some x2 ∧ W.cell? ⟨b, 3, none⟩ = some x3 ∧ W.cell? ⟨b, 4, none⟩ = some x4 := ⟨h 0, h 1, h 2, h 3, h 4⟩

set_option maxHeartbeats 4000000 in
theorem law_walk (sz : Vl → Nat) (hsz : IsSz sz) (k : Nat) (t u : Vl) (vl vn vl' vn' : Value) (w : World) (ht : VlR w 0 (k + 1) t [.int .i64 t.kind, .int .i64 t.num, .string t.text, vl, vn]) (hu : VlR w 0 (k + 1) u [.int .i64 u.kind, .int .i64 u.num, .string u.text, vl', vn']) :
    Calls Try.prog 3 #[.agg #[.int .i64 t.kind, .int .i64 t.num, .string t.text, vl, vn], .agg #[.int .i64 u.kind, .int .i64 u.num, .string u.text, vl', vn']] w fun e w' => e = .returned (.bool true) ∧ Below w.heap.size w w' := by
  obtain ⟨a, cap, a', cap', hv⟩ := ht.cells
  simp only [List.cons.injEq, true_and, and_true] at hv
  obtain ⟨rfl, rfl⟩ := hv
  obtain ⟨m, mcap, m', mcap', hv⟩ := hu.cells
  simp only [List.cons.injEq, true_and, and_true] at hv
  obtain ⟨rfl, rfl⟩ := hv
  have HSZ : Hid (sz t ≤ cntE (k + 1) t) := sz_cnt hsz _ _ _ ht
  have HR : Hid (∀ W, Keeps 0 w W → VlR W 0 (k + 1) t [.int .i64 t.kind, .int .i64 t.num, .string t.text, .slice a t.list.length cap, .slice a' t.names.length cap']) := fun W h => VlR.keeps h _ _ _ ht
  have HU : Hid (∀ W, Keeps 0 w W → VlR W 0 (k + 1) u [.int .i64 u.kind, .int .i64 u.num, .string u.text, .slice m u.list.length mcap, .slice m' u.names.length mcap']) := fun W h => VlR.keeps h _ _ _ hu
  clear ht hu
  go_enter Try.func3, Try.ntmps3
  go_wp2_with fail
  refine ((szC_all k).1 t _ _ _ _ (HR.out _ (((Keeps.refl _ _).alloc _).alloc _)) (by omega) (by omega)).mono ?_
  rintro e w1 ⟨r1, rfl, hr1, hr2, hr3, hb1⟩
  have HB1 : Hid (Below w.heap.size w w1) := (two_belowO _ _ _).trans (hb1.mono (by simp <;> omega))
  have oA : Owns w1 w.heap.size #[.int .i64 t.kind, .int .i64 t.num, .string t.text, .slice a t.list.length cap, .slice a' t.names.length cap'] 25 := ((Owns.made w _ _).below ((Below.refl _ _).alloc (Nat.le_refl _) _) (by simp)).below hb1 (by simp <;> omega)
  have oB : Owns w1 (w.heap.size + 1) #[.int .i64 u.kind, .int .i64 u.num, .string u.text, .slice m u.list.length mcap, .slice m' u.names.length mcap'] 25 := by
    have h := Owns.made (w.alloc (.cells #[.int .i64 t.kind, .int .i64 t.num, .string t.text, .slice a t.list.length cap, .slice a' t.names.length cap'] 25)) #[.int .i64 u.kind, .int .i64 u.num, .string u.text, .slice m u.list.length mcap, .slice m' u.names.length mcap'] 25
    rw [show (w.alloc (.cells #[.int .i64 t.kind, .int .i64 t.num, .string t.text, .slice a t.list.length cap, .slice a' t.names.length cap'] 25)).heap.size = w.heap.size + 1 by simp] at h
    exact h.below hb1 (by simp <;> omega)
  have HA : Hid (∀ W, Keeps 0 w1 W → ∀ o, W.cell? ⟨w.heap.size, o, none⟩ = #[Value.int .i64 t.kind, .int .i64 t.num, .string t.text, .slice a t.list.length cap, .slice a' t.names.length cap'][o]?) := fun W h o => by
    rw [World.cell?_of_block (w := w1) (h.block w.heap.size (Nat.zero_le _) oA.lt)]; exact oA.cell o
  have HBx : Hid (∀ W, Keeps 0 w1 W → ∀ o, W.cell? ⟨w.heap.size + 1, o, none⟩ = #[Value.int .i64 u.kind, .int .i64 u.num, .string u.text, .slice m u.list.length mcap, .slice m' u.names.length mcap'][o]?) := fun W h o => by
    rw [World.cell?_of_block (w := w1) (h.block (w.heap.size + 1) (Nat.zero_le _) oB.lt)]; exact oB.cell o
  have hzB := oB.lt
  clear hb1 oA oB
  by_cases hneg : r1 < 0
  · go_wp2_with fail
    go_ret
    exact ⟨rfl, HB1.out⟩
  have HZT : Hid (sz t ≤ 10000000) := by
    have h1 := HSZ.out
    have h2 := hr3 (by omega)
    show _ ≤ _
    simp only [cntE] at h1
    omega
  clear hr3 HSZ
  obtain ⟨d0, d1, d2, d3, d4⟩ : _ ∧ _ ∧ _ ∧ _ ∧ _ := ⟨HBx.out _ (Keeps.refl _ _) 0, HBx.out _ (Keeps.refl _ _) 1, HBx.out _ (Keeps.refl _ _) 2, HBx.out _ (Keeps.refl _ _) 3, HBx.out _ (Keeps.refl _ _) 4⟩
  simp at d0 d1 d2 d3 d4
  go_wp2_with fail
  refine ((szC_all k).1 u _ _ _ _ (HU.out _ (Keeps.of_below HB1.out (Nat.le_refl _) _)) (by omega) (by omega)).mono ?_
  rintro e w2 ⟨r2, rfl, hr4, hr5, _, hb2⟩
  have HB2 : Hid (Below w.heap.size w w2) := HB1.out.trans (hb2.mono HB1.out.size)
  have HK2 : Hid (Keeps 0 w1 w2) := Keeps.of_below hb2 (Nat.le_refl _) 0
  clear hb2 d0 d1 d2 d3 d4
  by_cases hneg2 : r2 < 0
  · go_wp2_with fail
    go_ret
    exact ⟨rfl, HB2.out⟩
  have HKw : Hid (Keeps 0 w w2) := Keeps.of_below HB2.out (Nat.le_refl _) 0
  have HKd : Hid (Keeps 0 w2 w2.drew) := (Keeps.refl _ _).drew
  have HCA : Hid (∀ W, Keeps 0 w2 W → ∀ o, W.cell? ⟨w.heap.size, o, none⟩ = #[Value.int .i64 t.kind, .int .i64 t.num, .string t.text, .slice a t.list.length cap, .slice a' t.names.length cap'][o]?) := fun W h => HA.out W (HK2.out.trans h)
  have HCB : Hid (∀ W, Keeps 0 w2 W → ∀ o, W.cell? ⟨w.heap.size + 1, o, none⟩ = #[Value.int .i64 u.kind, .int .i64 u.num, .string u.text, .slice m u.list.length mcap, .slice m' u.names.length mcap'][o]?) := fun W h => HBx.out W (HK2.out.trans h)
  have hz2 : w.heap.size + 1 < w2.heap.size := by have := HK2.out.size; omega
  have hz1 : w.heap.size < w2.heap.size := by omega
  clear HA HBx HK2 HB1 hzB
  obtain ⟨c0, c1, c2, c3, c4⟩ : _ ∧ _ ∧ _ ∧ _ ∧ _ := ⟨HCA.out _ (Keeps.refl _ _) 0, HCA.out _ (Keeps.refl _ _) 1, HCA.out _ (Keeps.refl _ _) 2, HCA.out _ (Keeps.refl _ _) 3, HCA.out _ (Keeps.refl _ _) 4⟩
  obtain ⟨d0, d1, d2, d3, d4⟩ : _ ∧ _ ∧ _ ∧ _ ∧ _ := ⟨HCB.out _ (Keeps.refl _ _) 0, HCB.out _ (Keeps.refl _ _) 1, HCB.out _ (Keeps.refl _ _) 2, HCB.out _ (Keeps.refl _ _) 3, HCB.out _ (Keeps.refl _ _) 4⟩
  simp at c0 c1 c2 c3 c4 d0 d1 d2 d3 d4
  go_upto_region 8 with fail
  go_cut [6] from 10 (fun v wx => ∃ rb : Bool, v = .bool rb ∧ Hid (rb = true ↔ t = u) ∧ Hid (Below w2.heap.size w2 wx))
  case first =>
    have HBq : Hid (Below w2.heap.size w2 w2.drew) := (Below.refl _ _).drew
    go_region_with (first | (go_at_call 6; refine (toR (k + 1) _ _ _ _ (by first | exact HR.out _ (HKw.out.trans (Hid.out (by assumption))) | exact HU.out _ (HKw.out.trans (Hid.out (by assumption))))).mono ?_; rintro e wf ⟨vlf, vnf, rfl, hRf, hbf⟩; have HKf : Hid (Keeps 0 w2 wf) := keeps_below (Hid.out (by assumption)) hbf; obtain ⟨e0, e1, e2, e3, e4⟩ := five_of (HCA.out wf HKf.out); obtain ⟨f0, f1, f2, f3, f4⟩ := five_of (HCB.out wf HKf.out); have HKg : Hid (Keeps 0 _ wf) := Keeps.of_below hbf (Nat.le_refl _) 0; have HBf : Hid (Below w2.heap.size w2 wf) := (Hid.out HBq).trans (hbf.mono (Hid.out HBq).size); have HBq := HBf; have HRf : Hid (VlR wf 0 (k + 1) _ _) := hRf; clear hRf hbf) | (go_at_call 5; refine (specVS (k + 1) t u _ _ _ _ _ (by first | exact Hid.out (by assumption) | exact VlR.keeps (Hid.out HKg) _ _ _ (Hid.out (by assumption))) (by first | exact Hid.out (by assumption) | exact VlR.keeps (Hid.out HKg) _ _ _ (Hid.out (by assumption)))).mono ?_; rintro e ws ⟨rb, rfl, hrb, hbs⟩; have HRB : Hid (rb = true ↔ t = u) := hrb; have HBs : Hid (Below w2.heap.size w2 ws) := (Hid.out HBq).trans (hbs.mono (Hid.out HBq).size); clear hrb hbs))
    all_goals
      go_wp2_with fail
      go_meet
      case rel => exact ⟨rb, rfl, HRB, HBs⟩
  case rest =>
    obtain ⟨rb, rfl, HRB, HBc⟩ := hcut
    have HKc : Hid (Keeps 0 w2 wc) := Keeps.of_below HBc.out (Nat.le_refl _) 0
    clear c0 c1 c2 c3 c4 d0 d1 d2 d3 d4 HKd hz1 hz2
    obtain ⟨c0, c1, c2, c3, c4⟩ := five_of (HCA.out wc HKc.out)
    go_wp2_with fail
    refine ((toO_all (k + 1)).1 t _ _ _ (HR.out _ (HKw.out.trans HKc.out))).mono ?_
    rintro e w4 ⟨vl4, vn4, rfl, hR4, hb4⟩
    obtain ⟨a4, ca4, a4', ca4', hv4⟩ := hR4.cells
    simp only [List.cons.injEq, true_and, and_true] at hv4
    obtain ⟨rfl, rfl⟩ := hv4
    have HK4 : Hid (Keeps 0 w2 w4) := keeps_below HKc.out hb4
    have HB4 : Hid (Below w2.heap.size w2 w4) := HBc.out.trans (hb4.mono HBc.out.size)
    have HO4 : Hid _ := hR4
    have hpl4 := VlO.pl _ _ _ _ _ _ _ _ _ hR4
    have HP4 : Hid _ := hpl4
    have HR4 : Hid (VlR w4 0 (k + 1) t [.int .i64 t.kind, .int .i64 t.num, .string t.text, .slice a4 t.list.length ca4, .slice a4' t.names.length ca4']) := VlR.base (Nat.zero_le _) _ _ _ (VlO.read _ _ _ _ _ hR4)
    clear c0 c1 c2 c3 c4 hR4 hb4 hpl4 HO4 HKc HBc
    obtain ⟨W5, hW5⟩ : ∃ W5, W5 = w4.alloc (Obj.cells #[.int .i64 t.kind, .int .i64 t.num, .string t.text, .slice a4 t.list.length ca4, .slice a4' t.names.length ca4'] 30) := ⟨_, rfl⟩
    have hb5 : Below w4.heap.size w4 W5 := by rw [hW5]; exact (Below.refl _ _).alloc (Nat.le_refl _) _
    have hO5 : Owns W5 w4.heap.size #[.int .i64 t.kind, .int .i64 t.num, .string t.text, .slice a4 t.list.length ca4, .slice a4' t.names.length ca4'] 30 := by rw [hW5]; exact Owns.made _ _ _
    have HK5 : Hid (Keeps 0 w2 W5) := keeps_below HK4.out hb5
    have HB5 : Hid (Below w2.heap.size w2 W5) := HB4.out.trans (hb5.mono HB4.out.size)
    have HX5 : Hid (Below w4.heap.size w4 W5) := hb5
    obtain ⟨d0, d1, d2, d3, d4⟩ := five_of (HCB.out w4 HK4.out)
    have hz4 : w.heap.size + 1 < w4.heap.size := cell_lt d0
    have HO5 : Hid (Owns W5 w4.heap.size #[.int .i64 t.kind, .int .i64 t.num, .string t.text, .slice a4 t.list.length ca4, .slice a4' t.names.length ca4'] 30) := hO5
    have HW5 : Hid _ := hW5
    clear hO5 hb5 hW5
    go_wp2_with fail
    rw [← HW5.out]
    clear d0 d1 d2 d3 d4 HW5
    refine ((toO_all (k + 1)).1 u _ _ _ (HU.out _ (HKw.out.trans HK5.out))).mono ?_
    rintro e w6 ⟨vl6, vn6, rfl, hR6, hb6⟩
    obtain ⟨a6, ca6, a6', ca6', hv6⟩ := hR6.cells
    simp only [List.cons.injEq, true_and, and_true] at hv6
    obtain ⟨rfl, rfl⟩ := hv6
    have hpl6 := VlO.pl _ _ _ _ _ _ _ _ _ hR6
    have HR6 : Hid (VlR w6 0 (k + 1) u [.int .i64 u.kind, .int .i64 u.num, .string u.text, .slice a6 u.list.length ca6, .slice a6' u.names.length ca6']) := VlR.base (Nat.zero_le _) _ _ _ (VlO.read _ _ _ _ _ hR6)
    obtain ⟨W7, hW7⟩ : ∃ W7, W7 = w6.alloc (Obj.cells #[.int .i64 u.kind, .int .i64 u.num, .string u.text, .slice a6 u.list.length ca6, .slice a6' u.names.length ca6'] 30) := ⟨_, rfl⟩
    have hb7 : Below w6.heap.size w6 W7 := by rw [hW7]; exact (Below.refl _ _).alloc (Nat.le_refl _) _
    have hb46 : Below w4.heap.size w4 W7 := (HX5.out.trans (hb6.mono HX5.out.size)).trans (hb7.mono (Nat.le_trans HX5.out.size hb6.size))
    have hb57 : Below W5.heap.size W5 W7 := hb6.trans (hb7.mono hb6.size)
    have HK7 : Hid (Keeps 0 w2 W7) := keeps_below (keeps_below HK5.out hb6) hb7
    have HB7 : Hid (Below w2.heap.size w2 W7) := HB5.out.trans (hb57.mono HB5.out.size)
    have hOx : Owns W7 w4.heap.size #[.int .i64 t.kind, .int .i64 t.num, .string t.text, .slice a4 t.list.length ca4, .slice a4' t.names.length ca4'] 30 := HO5.out.below hb57 HO5.out.lt
    have hOy : Owns W7 w6.heap.size #[.int .i64 u.kind, .int .i64 u.num, .string u.text, .slice a6 u.list.length ca6, .slice a6' u.names.length ca6'] 30 := by rw [hW7]; exact Owns.made _ _ _
    have HX : Hid (∀ W, Keeps 0 W7 W → ∀ o, W.cell? ⟨w4.heap.size, o, none⟩ = #[Value.int .i64 t.kind, .int .i64 t.num, .string t.text, .slice a4 t.list.length ca4, .slice a4' t.names.length ca4'][o]?) := fun W h o => by
      rw [World.cell?_of_block (w := W7) (h.block _ (Nat.zero_le _) hOx.lt)]; exact hOx.cell o
    have HY : Hid (∀ W, Keeps 0 W7 W → ∀ o, W.cell? ⟨w6.heap.size, o, none⟩ = #[Value.int .i64 u.kind, .int .i64 u.num, .string u.text, .slice a6 u.list.length ca6, .slice a6' u.names.length ca6'][o]?) := fun W h o => by
      rw [World.cell?_of_block (w := W7) (h.block _ (Nat.zero_le _) hOy.lt)]; exact hOy.cell o
    have HVx : Hid (∀ W, Keeps 0 W7 W → VlR W 0 (k + 1) t [.int .i64 t.kind, .int .i64 t.num, .string t.text, .slice a4 t.list.length ca4, .slice a4' t.names.length ca4']) := fun W h => VlR.keeps ((Keeps.of_below hb46 (Nat.le_refl _) 0).trans h) _ _ _ HR4.out
    have HVy : Hid (∀ W, Keeps 0 W7 W → VlR W 0 (k + 1) u [.int .i64 u.kind, .int .i64 u.num, .string u.text, .slice a6 u.list.length ca6, .slice a6' u.names.length ca6']) := fun W h => VlR.keeps ((Keeps.of_below hb7 (Nat.le_refl _) 0).trans h) _ _ _ HR6.out
    have HPx : Hid (PL W7 (k + 1) t.list (.slice a4 t.list.length ca4) ∧ StrRow W7 0 t.names (.slice a4' t.names.length ca4')) := ⟨PL.keep hb46 _ _ _ (Hid.out HP4).1, (Hid.out HP4).2.keeps (Keeps.of_below hb46 (Nat.le_refl _) 0)⟩
    have HPy : Hid (PL W7 (k + 1) u.list (.slice a6 u.list.length ca6) ∧ StrRow W7 0 u.names (.slice a6' u.names.length ca6')) := ⟨PL.keep hb7 _ _ _ hpl6.1, hpl6.2.keeps (Keeps.of_below hb7 (Nat.le_refl _) 0)⟩
    have hzx : w4.heap.size < w6.heap.size := Nat.lt_of_lt_of_le HO5.out.lt hb6.size
    have hx6 : Owns w6 w4.heap.size #[.int .i64 t.kind, .int .i64 t.num, .string t.text, .slice a4 t.list.length ca4, .slice a4' t.names.length ca4'] 30 := HO5.out.below hb6 HO5.out.lt
    obtain ⟨x0, x1, x2, x3, x4⟩ := five_of hx6.cell
    have HW7 : Hid _ := hW7
    clear hb46 hb57 hb6 hb7 hOx hOy hpl6 HP4 HR4 HR6 HO5 HX5 HK5 HB5 HK4 HB4 hW7 hx6 hz4 hR6
    go_wp2_with fail
    rw [← HW7.out]
    refine (implSame_any sz hsz t u (k + 1) (k + 1) _ _ _ _ W7 HPx.out.1 HPx.out.2 HPy.out.1 HPy.out.2 HZT.out).mono ?_
    rintro e w8 ⟨gb, rfl, hgb, hb8⟩
    obtain rfl : gb = rb := by
      have h1 := HRB.out
      have h2 : gb = true ↔ rb = true := hgb.trans h1.symm
      cases gb <;> cases rb <;> simp_all
    have HK8 : Hid (Keeps 0 W7 w8) := Keeps.of_below hb8 (Nat.le_refl _) 0
    have HB8 : Hid (Below w2.heap.size w2 w8) := HB7.out.trans (hb8.mono HB7.out.size)
    clear hgb hb8 x0 x1 x2 x3 x4 HW7 hzx HPx HPy HRB
    obtain ⟨x0, x1, x2, x3, x4⟩ := five_of (HX.out w8 HK8.out)
    obtain ⟨c0, c1, c2, c3, c4⟩ := five_of (HCA.out w8 (HK7.out.trans HK8.out))
    have HKq : Hid (Keeps 0 w w8.drew) := ((HKw.out.trans HK7.out).trans HK8.out).drew
    have HK8d : Hid (Keeps 0 W7 w8.drew) := HK8.out.drew
    go_upto_region 14 with fail
    go_cut [39] from 10 (fun v wx => v = .bool false ∧ Hid (Below w8.heap.size w8 wx))
    case first =>
      go_region_with (first | (go_at_call 6; refine (toR (k + 1) t _ _ _ (HR.out _ HKq.out)).mono ?_; rintro e wf ⟨vlf, vnf, rfl, hRf, hbf⟩; obtain ⟨y0, y1, y2, y3, y4⟩ := five_of (HX.out wf (keeps_below HK8d.out hbf)); have HKx : Hid (Keeps 0 W7 wf) := keeps_below HK8d.out hbf; have HRf : Hid _ := hRf; have HBf : Hid (Below w8.heap.size w8 wf) := ((Below.refl _ _).drew).trans hbf; clear hRf hbf) | (go_at_call 8; refine ((eqV_all (k + 1)).1 t _ _ _ _ _ (HVx.out _ HKx.out) HRf.out).mono ?_; rintro e wg ⟨rfl, hbg⟩; have HBg : Hid (Below w8.heap.size w8 wg) := HBf.out.trans (hbg.mono HBf.out.size); clear hbg))
      all_goals
        go_wp2_with fail
        go_meet
        case rel => exact ⟨rfl, HBg⟩
    case rest =>
      obtain ⟨rfl, HBc⟩ := hcut
      have HK9 : Hid (Keeps 0 w8 wc) := Keeps.of_below HBc.out (Nat.le_refl _) 0
      clear x0 x1 x2 x3 x4 c0 c1 c2 c3 c4 HKq HK8d
      obtain ⟨x0, x1, x2, x3, x4⟩ := five_of (HY.out wc (HK8.out.trans HK9.out))
      obtain ⟨c0, c1, c2, c3, c4⟩ := five_of (HCB.out wc ((HK7.out.trans HK8.out).trans HK9.out))
      have HKq : Hid (Keeps 0 w wc.drew) := (((HKw.out.trans HK7.out).trans HK8.out).trans HK9.out).drew
      have HK9d : Hid (Keeps 0 W7 wc.drew) := (HK8.out.trans HK9.out).drew
      have HB9 : Hid (Below w.heap.size w wc) := (HB2.out.trans (HB8.out.mono HB2.out.size)).trans (HBc.out.mono (Nat.le_trans HB2.out.size HB8.out.size))
      go_wp2_with fail
      go_region_with (first | (go_at_call 6; refine (toR (k + 1) u _ _ _ (HU.out _ HKq.out)).mono ?_; rintro e wf ⟨vlf, vnf, rfl, hRf, hbf⟩; obtain ⟨y0, y1, y2, y3, y4⟩ := five_of (HY.out wf (keeps_below HK9d.out hbf)); have HKx : Hid (Keeps 0 W7 wf) := keeps_below HK9d.out hbf; have HRf : Hid _ := hRf; have HBf : Hid (Below w.heap.size w wf) := HB9.out.drew.trans (hbf.mono HB9.out.size); clear hRf hbf) | (go_at_call 8; refine ((eqV_all (k + 1)).1 u _ _ _ _ _ (HVy.out _ HKx.out) HRf.out).mono ?_; rintro e wg ⟨rfl, hbg⟩; have HBg : Hid (Below w.heap.size w wg) := HBf.out.trans (hbg.mono HBf.out.size); clear hbg))
      all_goals
        go_wp2_with fail
        go_ret
        exact ⟨rfl, HBg.out⟩

end Go.Proofs.Ytkcdodnkbbeoeaa
