
/-
  DERIVED. laws.FnExactValueSorted: its walk out of the contracts.
-/
import Derived.Test.YtdaohfeajicamaaSoC
import Derived.Test.YtdaohfeajicamaaVlSzC
import Derived.Test.YtdaohfeajicamaaVlToO
import Derived.Test.YtdaohfeajicamaaVlEq
import Derived.Test.YtdaohfeajicamaaVlMarkS
import Derived.Test.YtdaohfeajicamaaVlHeld
namespace Go.Proofs.Ytdaohfeajicamaa
open Go.RowKit
set_option linter.unusedVariables false
set_option linter.unusedSimpArgs false

/-- A box of five cells. -/
theorem Owns.five {w : World} {b : Nat} {x0 x1 x2 x3 x4 : Value} {e : TypeId} (h : Owns w b #[x0, x1, x2, x3, x4] e) :
    w.cell? ⟨b, 0, none⟩ = some x0 ∧ w.cell? ⟨b, 1, none⟩ = some x1 ∧ w.cell? ⟨b, 2, none⟩ = some x2 ∧ w.cell? ⟨b, 3, none⟩ = some x3 ∧ w.cell? ⟨b, 4, none⟩ = some x4 :=
  ⟨by rw [h.cell]; rfl, by rw [h.cell]; rfl, by rw [h.cell]; rfl, by rw [h.cell]; rfl, by rw [h.cell]; rfl⟩

theorem markV_one (f lo hi : Nat) (t : Vl) (x0 x1 x2 vl vn : Value) (w : World) (ht : VlO w (f + 1) lo hi t [x0, x1, x2, vl, vn]) (hh : hi ≤ w.heap.size) (hk : cntS (cntE f) t.list + t.names.length ≤ 3145728) :
    Calls Try.prog 14 #[.agg #[x0, x1, x2, vl, vn], .int .i64 1] w fun e w' => e = .returned (.int .i64 ((1 + cntS (cntE f) t.list + t.names.length : Nat) : Int)) ∧ ∃ l' n', l'.length = t.list.length ∧ n'.length = t.names.length ∧ cntS (cntE f) l' = cntS (cntE f) t.list ∧
      MkL (MkE f) (cntE f) 1 l' ∧ MkN (1 + cntS (cntE f) t.list) n' ∧ VlO w' (f + 1) lo hi ⟨t.kind, t.num, t.text, l', n'⟩ [x0, x1, x2, vl, vn] ∧ TurnsP (FootV lo hi) w w' :=
  markValue_any f lo hi 1 t x0 x1 x2 vl vn w ht hh (Nat.le_refl _) (by omega) (markL_all f)
theorem heldV_one (f r : Nat) (t : Vl) (x0 x1 x2 vl vn : Value) (w : World) (ht : VlR w 0 (f + 1) t [x0, x1, x2, vl, vn]) (hM : MkL (MkE f) (cntE f) 1 t.list) (hN : MkN (1 + cntS (cntE f) t.list) t.names) (hk : cntS (cntE f) t.list + t.names.length ≤ 3145728) (hr : 1 + cntS (cntE f) t.list + t.names.length = r) :
    Calls Try.prog 15 #[.agg #[x0, x1, x2, vl, vn], .int .i64 1] w fun e w' => e = .returned (.int .i64 (r : Int)) ∧ Below w.heap.size w w' := by
  subst hr
  exact heldValue_any f 1 t x0 x1 x2 vl vn w ht hM hN (Nat.le_refl _) (by omega)

set_option maxHeartbeats 4000000 in
theorem law_walk (k : Nat) (hk5 : 5 ≤ k) (t : Vl) (vl vn : Value) (w : World) (ht : VlR w 0 (k + 2) t [.int .i64 t.kind, .int .i64 t.num, .string t.text, vl, vn]) :
    Calls Try.prog 3 #[.agg #[.int .i64 t.kind, .int .i64 t.num, .string t.text, vl, vn]] w fun e w' => e = .returned (.bool true) ∧ Below w.heap.size w w' := by
  obtain ⟨a, cap, a', cap', hv⟩ := ht.cells
  simp only [List.cons.injEq, true_and, and_true] at hv
  obtain ⟨rfl, rfl⟩ := hv
  have HR : Hid (∀ W, Keeps 0 w W → VlR W 0 (k + 2) t [.int .i64 t.kind, .int .i64 t.num, .string t.text, .slice a t.list.length cap, .slice a' t.names.length cap']) := fun W h => VlR.keeps h _ _ _ ht
  clear ht
  go_enter Try.func3, Try.ntmps3
  go_wp2_with fail
  refine ((szC_all (k + 1)).1 t _ _ _ _ (HR.out _ ((Keeps.refl _ _).alloc _)) (by omega) (by omega)).mono ?_
  rintro e wA ⟨r1, rfl, hr1, hr2, hr3, hbA⟩
  have HOA : Hid (Owns wA w.heap.size #[.int .i64 t.kind, .int .i64 t.num, .string t.text, .slice a t.list.length cap, .slice a' t.names.length cap'] 25) := (Owns.made w _ _).below hbA (by simp)
  have HBA : Hid (Below w.heap.size w wA) := ((Below.refl _ _).alloc (Nat.le_refl _) _).trans (hbA.mono (by simp))
  clear hbA
  by_cases hneg : r1 < 0
  · go_wp2_with fail
    go_ret
    exact ⟨rfl, HBA.out⟩
  have HCNT : Hid (cntS (cntE (k + 1)) t.list + t.names.length ≤ 3145728) := by
    have := hr3 (by omega)
    show _ ≤ _
    omega
  clear hr3
  obtain ⟨a0, a1, a2, a3, a4⟩ := HOA.out.five
  go_wp2_with fail
  refine ((toO_all (k + 2)).1 t _ _ _ (HR.out _ (Keeps.of_below HBA.out (Nat.le_refl _) _))).mono ?_
  rintro e wB ⟨vlB, vnB, rfl, hOB, hbB⟩
  have HRB : Hid (VlR wB 0 (k + 2) t [.int .i64 t.kind, .int .i64 t.num, .string t.text, vlB, vnB]) := VlR.base (Nat.zero_le _) _ _ _ (VlO.read _ _ _ _ _ hOB)
  have HOAB : Hid (Owns wB w.heap.size #[.int .i64 t.kind, .int .i64 t.num, .string t.text, .slice a t.list.length cap, .slice a' t.names.length cap'] 25) := HOA.out.below hbB HOA.out.lt
  have HBB : Hid (Below w.heap.size w wB) := HBA.out.trans (hbB.mono HBA.out.size)
  clear hOB hbB HBA HOA a0 a1 a2 a3 a4
  go_wp2_with fail
  refine (specValueSorted_any k hk5 t _ _ _ HRB.out).mono ?_
  rintro e wC ⟨vlC, vnC, rfl, hRC, hbC⟩
  have HCX : Hid (cntS (cntE (k + 1)) (sortG k t).list + (sortG k t).names.length ≤ 3145728) := by have := cnt_sorted (k := k) (t := t) hk5; have := HCNT.out; show _ ≤ _; omega
  have HIMP : Hid (∀ (W : World) (vl vn : Value), VlR W 0 (k + 2) t [.int .i64 t.kind, .int .i64 t.num, .string t.text, vl, vn] → Calls Try.prog 12 #[.agg #[.int .i64 t.kind, .int .i64 t.num, .string t.text, vl, vn]] W (ImplSO k t W)) := fun W vl vn h => implValueSorted_any k hk5 t vl vn W h
  unfold ImplSO at HIMP
  generalize hX : sortG k t = X at *
  obtain ⟨aC, cC, aC', cC', hvC⟩ := hRC.cells
  simp only [List.cons.injEq, true_and, and_true] at hvC
  obtain ⟨rfl, rfl⟩ := hvC
  clear hX
  -- the world behind the first answer's box
  obtain ⟨wC', hwC'⟩ : ∃ W, W = wC.alloc (Obj.cells #[.int .i64 X.kind, .int .i64 X.num, .string X.text, .slice aC X.list.length cC, .slice aC' X.names.length cC'] 29) := ⟨_, rfl⟩
  have hszC : wC'.heap.size = wC.heap.size + 1 := by rw [hwC']; simp
  have HO6 : Hid (Owns wC' wC.heap.size #[.int .i64 X.kind, .int .i64 X.num, .string X.text, .slice aC X.list.length cC, .slice aC' X.names.length cC'] 29) := by rw [hwC']; exact Owns.made _ _ _
  have HBC : Hid (Below w.heap.size w wC') := by
    have h1 : Below w.heap.size w wC := HBB.out.trans (hbC.mono HBB.out.size)
    show Below _ _ _
    rw [hwC']
    exact h1.alloc h1.size _
  have HOAC : Hid (Owns wC' w.heap.size #[.int .i64 t.kind, .int .i64 t.num, .string t.text, .slice a t.list.length cap, .slice a' t.names.length cap'] 25) := by
    have h1 := HOAB.out.below hbC HOAB.out.lt
    show Owns _ _ _ _
    rw [hwC']
    exact h1.same (Below.heap_alloc _ _ _ h1.lt)
  have HRC : Hid (∀ W, Below wC'.heap.size wC' W → VlR W 0 (k + 2) X [.int .i64 X.kind, .int .i64 X.num, .string X.text, .slice aC X.list.length cC, .slice aC' X.names.length cC']) := fun W h => by
    have h1 : VlR wC' 0 (k + 2) X [.int .i64 X.kind, .int .i64 X.num, .string X.text, .slice aC X.list.length cC, .slice aC' X.names.length cC'] := by
      rw [hwC']
      exact VlR.keeps ((Keeps.refl 0 wC).alloc _) _ _ _ (VlR.base (Nat.zero_le _) _ _ _ hRC)
    exact VlR.keeps (Keeps.of_below h (Nat.le_refl _) 0) _ _ _ h1
  clear hRC hbC HBB HOAB HRB
  obtain ⟨a0, a1, a2, a3, a4⟩ := HOAC.out.five
  rw [hwC'] at a0 a1 a2 a3 a4
  go_wp2_with fail
  rw [← hwC']
  clear a0 a1 a2 a3 a4
  have HWC : Hid _ := hwC'
  clear hwC'
  refine ((toO_all (k + 2)).1 t _ _ _ (HR.out _ (Keeps.of_below HBC.out (Nat.le_refl _) _))).mono ?_
  rintro e wD ⟨vlD, vnD, rfl, hOD, hbD⟩
  obtain ⟨aD, cD, aD', cD', hvD⟩ := hOD.cells
  simp only [List.cons.injEq, true_and, and_true] at hvD
  obtain ⟨rfl, rfl⟩ := hvD
  obtain ⟨wD', hwD'⟩ : ∃ W, W = wD.alloc (Obj.cells #[.int .i64 t.kind, .int .i64 t.num, .string t.text, .slice aD t.list.length cD, .slice aD' t.names.length cD'] 29) := ⟨_, rfl⟩
  have hszD : wD'.heap.size = wD.heap.size + 1 := by rw [hwD']; simp
  have hCD : wC'.heap.size ≤ wD.heap.size := hbD.size
  have HO8 : Hid (Owns wD' wD.heap.size #[.int .i64 t.kind, .int .i64 t.num, .string t.text, .slice aD t.list.length cD, .slice aD' t.names.length cD'] 29) := by rw [hwD']; exact Owns.made _ _ _
  have HBD : Hid (Below wC'.heap.size wC' wD') := by
    show Below _ _ _
    rw [hwD']
    exact hbD.alloc hbD.size _
  have HVD : Hid (VlO wD' (k + 2) wC'.heap.size wD.heap.size t [.int .i64 t.kind, .int .i64 t.num, .string t.text, .slice aD t.list.length cD, .slice aD' t.names.length cD']) := by
    show VlO _ _ _ _ _ _
    rw [hwD']
    exact VlO.same _ _ _ _ _ (fun b _ h2 => Below.heap_alloc _ _ _ h2) hOD
  have HRD : Hid (VlR wD' 0 (k + 2) t [.int .i64 t.kind, .int .i64 t.num, .string t.text, .slice aD t.list.length cD, .slice aD' t.names.length cD']) := VlR.base (Nat.zero_le _) _ _ _ (VlO.read _ _ _ _ _ HVD.out)
  clear hOD hbD
  obtain ⟨d0, d1, d2, d3, d4⟩ := HO8.out.five
  rw [hwD'] at d0 d1 d2 d3 d4
  go_wp2_with fail
  rw [← hwD']
  clear d0 d1 d2 d3 d4
  have HWD : Hid _ := hwD'
  clear hwD'
  refine (HIMP.out _ _ _ HRD.out).mono ?_
  rintro e wE ⟨vlE, vnE, rfl, hOE, hbE⟩
  obtain ⟨aE, cE, aE', cE', hvE⟩ := hOE.cells
  simp only [List.cons.injEq, true_and, and_true] at hvE
  obtain ⟨rfl, rfl⟩ := hvE
  obtain ⟨wE', hwE'⟩ : ∃ W, W = wE.alloc (Obj.cells #[.int .i64 X.kind, .int .i64 X.num, .string X.text, .slice aE X.list.length cE, .slice aE' X.names.length cE'] 29) := ⟨_, rfl⟩
  have hszE : wE'.heap.size = wE.heap.size + 1 := by rw [hwE']; simp
  have hDE : wD'.heap.size ≤ wE.heap.size := hbE.size
  have HO9 : Hid (Owns wE' wE.heap.size #[.int .i64 X.kind, .int .i64 X.num, .string X.text, .slice aE X.list.length cE, .slice aE' X.names.length cE'] 29) := by rw [hwE']; exact Owns.made _ _ _
  have HBE : Hid (Below wD'.heap.size wD' wE') := by
    show Below _ _ _
    rw [hwE']
    exact hbE.alloc hbE.size _
  have HVE : Hid (VlO wE' (k + 2) wD'.heap.size wE.heap.size X [.int .i64 X.kind, .int .i64 X.num, .string X.text, .slice aE X.list.length cE, .slice aE' X.names.length cE']) := by
    show VlO _ _ _ _ _ _
    rw [hwE']
    exact VlO.same _ _ _ _ _ (fun b _ h2 => Below.heap_alloc _ _ _ h2) hOE
  have HBCE : Hid (Below wC'.heap.size wC' wE') := HBD.out.trans (HBE.out.mono (by omega))
  have HO8E : Hid (Owns wE' wD.heap.size #[.int .i64 t.kind, .int .i64 t.num, .string t.text, .slice aD t.list.length cD, .slice aD' t.names.length cD'] 29) := HO8.out.below HBE.out (by omega)
  have HVDE : Hid (VlO wE' (k + 2) wC'.heap.size wD.heap.size t [.int .i64 t.kind, .int .i64 t.num, .string t.text, .slice aD t.list.length cD, .slice aD' t.names.length cD']) := VlO.same _ _ _ _ _ (fun b _ h2 => HBE.out.block b (by omega)) HVD.out
  clear hOE hbE HRD HVD HO8 HBD
  obtain ⟨c0, c1, c2, c3, c4⟩ := (HO6.out.below HBCE.out HO6.out.lt).five
  obtain ⟨g0, g1, g2, g3, g4⟩ := HO9.out.five
  rw [hwE'] at c0 c1 c2 c3 c4 g0 g1 g2 g3 g4
  go_wp2_with fail
  rw [← hwE']
  clear c0 c1 c2 c3 c4 g0 g1 g2 g3 g4
  have HWE : Hid _ := hwE'
  clear hwE'
  refine ((eqV_all (k + 2)).1 X _ _ _ _ _ (VlR.base (Nat.zero_le _) _ _ _ (VlO.read _ _ _ _ _ HVE.out)) (HRC.out _ HBCE.out)).mono ?_
  rintro e wF ⟨rfl, hbF⟩
  have hEF : wE'.heap.size ≤ wF.heap.size := hbF.size
  have HBF : Hid (Below wE'.heap.size wE' wF) := hbF
  have HOAF : Hid (Owns wF w.heap.size #[.int .i64 t.kind, .int .i64 t.num, .string t.text, .slice a t.list.length cap, .slice a' t.names.length cap'] 25) := (HOAC.out.below HBCE.out HOAC.out.lt).below hbF (by have := HOAC.out.lt; omega)
  have HO8F : Hid (Owns wF wD.heap.size #[.int .i64 t.kind, .int .i64 t.num, .string t.text, .slice aD t.list.length cD, .slice aD' t.names.length cD'] 29) := HO8E.out.below hbF (by omega)
  clear hbF
  have HCELLS : Hid (∀ W, Below wF.heap.size wF W → W.cell? ⟨w.heap.size, 0, none⟩ = some (.int .i64 t.kind) ∧ W.cell? ⟨w.heap.size, 1, none⟩ = some (.int .i64 t.num) ∧ W.cell? ⟨w.heap.size, 2, none⟩ = some (.string t.text) ∧ W.cell? ⟨w.heap.size, 3, none⟩ = some (.slice a t.list.length cap) ∧ W.cell? ⟨w.heap.size, 4, none⟩ = some (.slice a' t.names.length cap') ∧ W.cell? ⟨wD.heap.size, 0, none⟩ = some (.int .i64 t.kind) ∧ W.cell? ⟨wD.heap.size, 1, none⟩ = some (.int .i64 t.num) ∧ W.cell? ⟨wD.heap.size, 2, none⟩ = some (.string t.text) ∧ W.cell? ⟨wD.heap.size, 3, none⟩ = some (.slice aD t.list.length cD) ∧ W.cell? ⟨wD.heap.size, 4, none⟩ = some (.slice aD' t.names.length cD')) := fun W h => by
    obtain ⟨a0, a1, a2, a3, a4⟩ := (HOAF.out.below h HOAF.out.lt).five
    obtain ⟨d0, d1, d2, d3, d4⟩ := (HO8F.out.below h HO8F.out.lt).five
    exact ⟨a0, a1, a2, a3, a4, d0, d1, d2, d3, d4⟩
  have HT12 : Hid (Calls Try.prog 11 #[.agg #[.int .i64 t.kind, .int .i64 t.num, .string t.text, .slice a t.list.length cap, .slice a' t.names.length cap']] wF.drew (fun e w1 => ∃ p1 n1 p1' n1', e = .returned (.agg #[.int .i64 t.kind, .int .i64 t.num, .string t.text, .slice p1 t.list.length n1, .slice p1' t.names.length n1']) ∧ (w1.cell? ⟨w.heap.size, 0, none⟩ = some (.int .i64 t.kind) ∧ w1.cell? ⟨w.heap.size, 1, none⟩ = some (.int .i64 t.num) ∧ w1.cell? ⟨w.heap.size, 2, none⟩ = some (.string t.text) ∧ w1.cell? ⟨w.heap.size, 3, none⟩ = some (.slice a t.list.length cap) ∧ w1.cell? ⟨w.heap.size, 4, none⟩ = some (.slice a' t.names.length cap') ∧ w1.cell? ⟨wD.heap.size, 0, none⟩ = some (.int .i64 t.kind) ∧ w1.cell? ⟨wD.heap.size, 1, none⟩ = some (.int .i64 t.num) ∧ w1.cell? ⟨wD.heap.size, 2, none⟩ = some (.string t.text) ∧ w1.cell? ⟨wD.heap.size, 3, none⟩ = some (.slice aD t.list.length cD) ∧ w1.cell? ⟨wD.heap.size, 4, none⟩ = some (.slice aD' t.names.length cD')) ∧ Hid (VlR w1 0 (k + 2) t [.int .i64 t.kind, .int .i64 t.num, .string t.text, .slice p1 t.list.length n1, .slice p1' t.names.length n1']) ∧ Hid (Below wF.heap.size wF w1))) := by
    have hbw : Below w.heap.size w wF := (HBC.out.trans (HBCE.out.mono HBC.out.size)).trans (HBF.out.mono (by have := HBC.out.size; have := HBCE.out.size; omega))
    refine ((toO_all (k + 2)).1 t _ _ _ (HR.out _ (Keeps.of_below hbw (Nat.le_refl _) _).drew)).mono ?_
    rintro e w1 ⟨vl1, vn1, rfl, hO1, hb1⟩
    obtain ⟨p1, n1, p1', n1', hv1⟩ := hO1.cells
    simp only [List.cons.injEq, true_and, and_true] at hv1
    obtain ⟨rfl, rfl⟩ := hv1
    have hb1' : Below wF.heap.size wF w1 := ((Below.refl _ wF).drew).trans hb1
    exact ⟨p1, n1, p1', n1', rfl, HCELLS.out _ hb1', VlR.base (Nat.zero_le _) _ _ _ (VlO.read _ _ _ _ _ hO1), hb1'⟩
  have HE12 : Hid (∀ (w1 : World) (p1 : Option Addr) (n1 : Nat) (p1' : Option Addr) (n1' : Nat), Hid (VlR w1 0 (k + 2) t [.int .i64 t.kind, .int .i64 t.num, .string t.text, .slice p1 t.list.length n1, .slice p1' t.names.length n1']) → Hid (Below wF.heap.size wF w1) → Calls Try.prog 13 #[.agg #[.int .i64 t.kind, .int .i64 t.num, .string t.text, .slice aD t.list.length cD, .slice aD' t.names.length cD'], .agg #[.int .i64 t.kind, .int .i64 t.num, .string t.text, .slice p1 t.list.length n1, .slice p1' t.names.length n1']] w1 (fun e w2 => e = .returned (.bool true) ∧ (w2.cell? ⟨w.heap.size, 0, none⟩ = some (.int .i64 t.kind) ∧ w2.cell? ⟨w.heap.size, 1, none⟩ = some (.int .i64 t.num) ∧ w2.cell? ⟨w.heap.size, 2, none⟩ = some (.string t.text) ∧ w2.cell? ⟨w.heap.size, 3, none⟩ = some (.slice a t.list.length cap) ∧ w2.cell? ⟨w.heap.size, 4, none⟩ = some (.slice a' t.names.length cap') ∧ w2.cell? ⟨wD.heap.size, 0, none⟩ = some (.int .i64 t.kind) ∧ w2.cell? ⟨wD.heap.size, 1, none⟩ = some (.int .i64 t.num) ∧ w2.cell? ⟨wD.heap.size, 2, none⟩ = some (.string t.text) ∧ w2.cell? ⟨wD.heap.size, 3, none⟩ = some (.slice aD t.list.length cD) ∧ w2.cell? ⟨wD.heap.size, 4, none⟩ = some (.slice aD' t.names.length cD')) ∧ Hid (Below wF.heap.size wF w2))) := fun w1 p1 n1 p1' n1' hR hB => by
    have hx : VlR w1 0 (k + 2) t [.int .i64 t.kind, .int .i64 t.num, .string t.text, .slice aD t.list.length cD, .slice aD' t.names.length cD'] := VlR.base (Nat.zero_le _) _ _ _ (VlO.read _ _ _ _ _ (VlO.same _ _ _ _ _ (fun b _ h2 => (hB.out.block b (by omega)).trans (HBF.out.block b (by omega))) HVDE.out))
    refine ((eqV_all (k + 2)).1 t _ _ _ _ _ hx hR.out).mono ?_
    rintro e w2 ⟨rfl, hb2⟩
    have hb2' : Below wF.heap.size wF w2 := hB.out.trans (hb2.mono hB.out.size)
    exact ⟨rfl, HCELLS.out _ hb2', hb2'⟩
  obtain ⟨a0, a1, a2, a3, a4⟩ := HOAF.out.five
  obtain ⟨d0, d1, d2, d3, d4⟩ := HO8F.out.five
  go_wp2_with fail
  go_region_held3 (fun w' => w'.cell? ⟨w.heap.size, 0, none⟩ = some (.int .i64 t.kind) ∧ w'.cell? ⟨w.heap.size, 1, none⟩ = some (.int .i64 t.num) ∧ w'.cell? ⟨w.heap.size, 2, none⟩ = some (.string t.text) ∧ w'.cell? ⟨w.heap.size, 3, none⟩ = some (.slice a t.list.length cap) ∧ w'.cell? ⟨w.heap.size, 4, none⟩ = some (.slice a' t.names.length cap') ∧ w'.cell? ⟨wD.heap.size, 0, none⟩ = some (.int .i64 t.kind) ∧ w'.cell? ⟨wD.heap.size, 1, none⟩ = some (.int .i64 t.num) ∧ w'.cell? ⟨wD.heap.size, 2, none⟩ = some (.string t.text) ∧ w'.cell? ⟨wD.heap.size, 3, none⟩ = some (.slice aD t.list.length cD) ∧ w'.cell? ⟨wD.heap.size, 4, none⟩ = some (.slice aD' t.names.length cD')) (go_keep) (first | (go_at_call 11; refine (Hid.out HT12).mono ?_; rintro e w1 ⟨p1, n1, p1', n1', rfl, ⟨i0, i1, i2, i3, i4, j0, j1, j2, j3, j4⟩, HR1, HB1⟩) | (go_at_call 13; refine (Hid.out HE12 _ _ _ _ _ HR1 HB1).mono ?_; rintro e wG ⟨rfl, ⟨k0, k1, k2, k3, k4, l0, l1, l2, l3, l4⟩, HBG⟩))
  clear a0 a1 a2 a3 a4 d0 d1 d2 d3 d4 i0 i1 i2 i3 i4 j0 j1 j2 j3 j4 HR1 HB1 HT12 HE12 HCELLS
  have hFG : wF.heap.size ≤ wG.heap.size := HBG.out.size
  have HBEG : Hid (Below wE'.heap.size wE' wG) := HBF.out.trans (HBG.out.mono HBF.out.size)
  have HBCG : Hid (Below wC'.heap.size wC' wG) := HBCE.out.trans (HBEG.out.mono (by omega))
  have HVDG : Hid (VlO wG (k + 2) wC'.heap.size wD.heap.size t [.int .i64 t.kind, .int .i64 t.num, .string t.text, .slice aD t.list.length cD, .slice aD' t.names.length cD']) := VlO.same _ _ _ _ _ (fun b _ h2 => HBEG.out.block b (by omega)) HVDE.out
  have HVEG : Hid (VlO wG (k + 2) wD'.heap.size wE.heap.size X [.int .i64 X.kind, .int .i64 X.num, .string X.text, .slice aE X.list.length cE, .slice aE' X.names.length cE']) := VlO.same _ _ _ _ _ (fun b _ h2 => HBEG.out.block b (by omega)) HVE.out
  have HO9G : Hid (Owns wG wE.heap.size #[.int .i64 X.kind, .int .i64 X.num, .string X.text, .slice aE X.list.length cE, .slice aE' X.names.length cE'] 29) := HO9.out.below HBEG.out (by omega)
  clear HBG HBF HO8F HOAF HVDE HO8E HVE HO9 HBCE HBE
  go_wp2_with fail
  refine (markV_one (k + 1) wC'.heap.size wD.heap.size t _ _ _ _ _ _ HVDG.out (by omega) HCNT.out).mono ?_
  rintro e wH ⟨rfl, l8, n8, _, _, _, _, _, _, hTH⟩
  have hGH : wG.heap.size ≤ wH.heap.size := hTH.size
  have HBCH : Hid (Below wC'.heap.size wC' wH) := hTH.below HBCG.out (fun b hb => hb.1) (by omega)
  have HVEH : Hid (VlO wH (k + 2) wD'.heap.size wE.heap.size X [.int .i64 X.kind, .int .i64 X.num, .string X.text, .slice aE X.list.length cE, .slice aE' X.names.length cE']) := VlO.same _ _ _ _ _ (fun b h1 h2 => hTH.block b (by omega) (fun hb => by have := hb.2; omega)) HVEG.out
  have HO9H : Hid (Owns wH wE.heap.size #[.int .i64 X.kind, .int .i64 X.num, .string X.text, .slice aE X.list.length cE, .slice aE' X.names.length cE'] 29) := HO9G.out.same (hTH.block _ (by omega) (fun hb => by have := hb.2; omega))
  obtain ⟨rk, hrk⟩ : ∃ rk, 1 + cntS (cntE (k + 1)) t.list + t.names.length = rk := ⟨_, rfl⟩
  rw [hrk]
  have hrkd : decide ((rk : Int) < 0) = false := decide_eq_false (by omega)
  clear hTH hrk HVDG HVEG HO9G HBEG HBCG k0 k1 k2 k3 k4 l0 l1 l2 l3 l4
  obtain ⟨c0, c1, c2, c3, c4⟩ := (HO6.out.below HBCH.out HO6.out.lt).five
  obtain ⟨g0, g1, g2, g3, g4⟩ := HO9H.out.five
  go_wp2_with fail
  refine ((eqV_all (k + 2)).1 X _ _ _ _ _ (VlR.base (Nat.zero_le _) _ _ _ (VlO.read _ _ _ _ _ HVEH.out)) (HRC.out _ HBCH.out)).mono ?_
  rintro e wI ⟨rfl, hbI⟩
  have hHI : wH.heap.size ≤ wI.heap.size := hbI.size
  have HBCI : Hid (Below wC'.heap.size wC' wI) := HBCH.out.trans (hbI.mono (by omega))
  have HVEI : Hid (VlO wI (k + 2) wD'.heap.size wE.heap.size X [.int .i64 X.kind, .int .i64 X.num, .string X.text, .slice aE X.list.length cE, .slice aE' X.names.length cE']) := VlO.same _ _ _ _ _ (fun b _ h2 => hbI.block b (by omega)) HVEH.out
  have HO9I : Hid (Owns wI wE.heap.size #[.int .i64 X.kind, .int .i64 X.num, .string X.text, .slice aE X.list.length cE, .slice aE' X.names.length cE'] 29) := HO9H.out.below hbI (by omega)
  clear hbI HVEH HO9H HBCH c0 c1 c2 c3 c4 g0 g1 g2 g3 g4
  obtain ⟨g0, g1, g2, g3, g4⟩ := HO9I.out.five
  go_wp2_with fail
  refine (markV_one (k + 1) wD'.heap.size wE.heap.size X _ _ _ _ _ _ HVEI.out (by omega) HCX.out).mono ?_
  rintro e wJ ⟨rfl, l9, n9, hl9, hn9, hc9, hM9, hN9, hV9, hTJ⟩
  have hIJ : wI.heap.size ≤ wJ.heap.size := hTJ.size
  have HBCJ : Hid (Below wC'.heap.size wC' wJ) := hTJ.below HBCI.out (fun b hb => by have := hb.1; omega) (by omega)
  have HO9J : Hid (Owns wJ wE.heap.size #[.int .i64 X.kind, .int .i64 X.num, .string X.text, .slice aE X.list.length cE, .slice aE' X.names.length cE'] 29) := HO9I.out.same (hTJ.block _ (by omega) (fun hb => by have := hb.2; omega))
  obtain ⟨rm, hrm⟩ : ∃ rm, 1 + cntS (cntE (k + 1)) X.list + X.names.length = rm := ⟨_, rfl⟩
  rw [hrm]
  have hrmd : decide ((rm : Int) < 0) = false := decide_eq_false (by omega)
  have HHELD : Hid (∀ W, Below wJ.heap.size wJ W → Calls Try.prog 15 #[.agg #[.int .i64 X.kind, .int .i64 X.num, .string X.text, .slice aE X.list.length cE, .slice aE' X.names.length cE'], .int .i64 1] W fun e w' => e = .returned (.int .i64 (rm : Int)) ∧ Below W.heap.size W w') := fun W h => by
    have hcx := HCX.out
    refine heldV_one (k + 1) rm ⟨X.kind, X.num, X.text, l9, n9⟩ _ _ _ _ _ W (VlR.keeps (Keeps.of_below h (Nat.le_refl _) 0) _ _ _ (VlR.base (Nat.zero_le _) _ _ _ (VlO.read _ _ _ _ _ hV9))) hM9 ?_ ?_ ?_
    · show MkN (1 + cntS (cntE (k + 1)) l9) n9
      rw [hc9]; exact hN9
    · show cntS (cntE (k + 1)) l9 + n9.length ≤ _
      rw [hc9, hn9]; exact hcx
    · show 1 + cntS (cntE (k + 1)) l9 + n9.length = rm
      rw [hc9, hn9]; exact hrm
  clear hl9 hn9 hc9 hM9 hN9 hV9 hTJ hrm HVEI HO9I HBCI g0 g1 g2 g3 g4
  obtain ⟨g0, g1, g2, g3, g4⟩ := HO9J.out.five
  go_wp2_with fail
  refine (Hid.out HHELD _ (Below.refl _ _)).mono ?_
  rintro e wK ⟨rfl, hbK⟩
  have hJK : wJ.heap.size ≤ wK.heap.size := hbK.size
  have HBJK : Hid (Below wJ.heap.size wJ wK) := hbK
  have HBCK : Hid (Below wC'.heap.size wC' wK) := HBCJ.out.trans (hbK.mono (by omega))
  clear hbK g0 g1 g2 g3 g4
  obtain ⟨a0, a1, a2, a3, a4⟩ := (HOAC.out.below HBCK.out HOAC.out.lt).five
  go_wp2_with fail
  refine ((toO_all (k + 2)).1 t _ _ _ (HR.out _ (Keeps.of_below (HBC.out.trans (HBCK.out.mono HBC.out.size)) (Nat.le_refl _) _))).mono ?_
  rintro e wL ⟨vlL, vnL, rfl, hOL, hbL⟩
  have HRL : Hid (VlR wL 0 (k + 2) t [.int .i64 t.kind, .int .i64 t.num, .string t.text, vlL, vnL]) := VlR.base (Nat.zero_le _) _ _ _ (VlO.read _ _ _ _ _ hOL)
  have HBKL : Hid (Below wK.heap.size wK wL) := hbL
  clear hOL hbL a0 a1 a2 a3 a4
  go_wp2_with fail
  refine (HIMP.out _ _ _ HRL.out).mono ?_
  rintro e wM ⟨vlM, vnM, rfl, hOM, hbM⟩
  obtain ⟨aM, cM, aM', cM', hvM⟩ := hOM.cells
  simp only [List.cons.injEq, true_and, and_true] at hvM
  obtain ⟨rfl, rfl⟩ := hvM
  have hKL := HBKL.out.size
  have hLM := hbM.size
  obtain ⟨wM', hwM'⟩ : ∃ W, W = wM.alloc (Obj.cells #[.int .i64 X.kind, .int .i64 X.num, .string X.text, .slice aM X.list.length cM, .slice aM' X.names.length cM'] 29) := ⟨_, rfl⟩
  have hszM : wM'.heap.size = wM.heap.size + 1 := by rw [hwM']; simp
  have HBJM : Hid (Below wJ.heap.size wJ wM') := by
    have h1 : Below wJ.heap.size wJ wM := (HBJK.out.trans (HBKL.out.mono (by omega))).trans (hbM.mono (by omega))
    show Below _ _ _
    rw [hwM']
    exact h1.alloc h1.size _
  have HBCM : Hid (Below wC'.heap.size wC' wM') := HBCJ.out.trans (HBJM.out.mono (by omega))
  have HRM : Hid (VlR wM' 0 (k + 2) X [.int .i64 X.kind, .int .i64 X.num, .string X.text, .slice aM X.list.length cM, .slice aM' X.names.length cM']) := by
    show VlR _ _ _ _ _
    rw [hwM']
    exact VlR.keeps ((Keeps.refl 0 wM).alloc _) _ _ _ (VlR.base (Nat.zero_le _) _ _ _ (VlO.read _ _ _ _ _ hOM))
  have HO14 : Hid (Owns wM' wM.heap.size #[.int .i64 X.kind, .int .i64 X.num, .string X.text, .slice aM X.list.length cM, .slice aM' X.names.length cM'] 29) := by rw [hwM']; exact Owns.made _ _ _
  clear hOM hbM HRL HBKL HBJK HBCK
  obtain ⟨c0, c1, c2, c3, c4⟩ := (HO6.out.below HBCM.out HO6.out.lt).five
  obtain ⟨h0, h1, h2, h3, h4⟩ := HO14.out.five
  rw [hwM'] at c0 c1 c2 c3 c4 h0 h1 h2 h3 h4
  go_wp2_with fail
  rw [← hwM']
  clear c0 c1 c2 c3 c4 h0 h1 h2 h3 h4
  have HWM : Hid _ := hwM'
  clear hwM'
  refine ((eqV_all (k + 2)).1 X _ _ _ _ _ HRM.out (HRC.out _ HBCM.out)).mono ?_
  rintro e wN ⟨rfl, hbN⟩
  have hMN := hbN.size
  have HBJN : Hid (Below wJ.heap.size wJ wN) := HBJM.out.trans (hbN.mono (by have := HBJM.out.size; omega))
  have HBCN : Hid (Below wC'.heap.size wC' wN) := HBCJ.out.trans (HBJN.out.mono (by omega))
  have HO9N : Hid (Owns wN wE.heap.size #[.int .i64 X.kind, .int .i64 X.num, .string X.text, .slice aE X.list.length cE, .slice aE' X.names.length cE'] 29) := HO9J.out.below HBJN.out (by omega)
  clear hbN HRM HBJM HO14 HBCM
  obtain ⟨g0, g1, g2, g3, g4⟩ := HO9N.out.five
  go_wp2_with fail
  refine (Hid.out HHELD _ HBJN.out).mono ?_
  rintro e wO ⟨rfl, hbO⟩
  have HBO : Hid (Below w.heap.size w wO) := (HBC.out.trans (HBCN.out.mono HBC.out.size)).trans (hbO.mono (by have := HBC.out.size; have := HBCN.out.size; omega))
  clear hbO g0 g1 g2 g3 g4
  go_wp2_with fail
  go_ret
  exact ⟨rfl, HBO.out⟩

end Go.Proofs.Ytdaohfeajicamaa
