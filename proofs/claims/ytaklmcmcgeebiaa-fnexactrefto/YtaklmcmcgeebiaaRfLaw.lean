
/-
  DERIVED. laws.FnExactRefTo: its walk out of the contracts.
-/
import Derived.Test.YtaklmcmcgeebiaaRfTo
import Derived.Test.YtaklmcmcgeebiaaVlEq
import Derived.Test.YtaklmcmcgeebiaaMkOne
namespace Go.Proofs.Ytaklmcmcgeebiaa
open Go.RowKit
set_option linter.unusedVariables false
set_option linter.unusedSimpArgs false

theorem nothing_valP {w w' : World} (hb : Below w.heap.size w w') : ValP 2 nothingV w (.returned (.agg #[.int .i64 0, .int .i64 0, .string ByteArray.empty, .slice none 0 0, .slice none 0 0])) w' :=
  valP_plain rfl rfl rfl rfl rfl (i64_small (by simp [nothingV])) (i64_small (by simp [nothingV])) (by simp [nothingV]) hb
theorem specRefTo_any (n : Int) (w : World) : Calls Try.prog 4 #[.int .i64 n] w (ValP 2 (refV n) w) := by
  by_cases h : 0 ≤ n ∧ n ≤ 2147483647
  · rw [refV, if_pos h]; exact specRefTo_yes n w h
  · rw [refV, if_neg h]
    refine (specRefTo_no n w h).mono ?_
    rintro e w' ⟨rfl, hb⟩
    exact nothing_valP hb
theorem implRefTo_any (n : Int) (w : World) : Calls Try.prog 5 #[.int .i64 n] w (ValP 2 (refV n) w) := by
  by_cases h : 0 ≤ n ∧ n ≤ 2147483647
  · rw [refV, if_pos h]; exact implRefTo_yes n w h
  · rw [refV, if_neg h]
    refine (implRefTo_no n w h).mono ?_
    rintro e w' ⟨rfl, hb⟩
    exact nothing_valP hb
theorem refV_cnt (n : Int) : cntS (cntE 1) (refV n).list + (refV n).names.length ≤ 3145728 := by
  unfold refV
  split <;> simp [refT, nothingV, numV, cntS, cntE]

set_option maxHeartbeats 4000000 in
theorem law_walk (n : Int) (w : World) :
    Calls Try.prog 3 #[.int .i64 n] w fun e w' => e = .returned (.bool true) ∧ Below w.heap.size w w' := by
  have HS : Hid (∀ W, Calls Try.prog 4 #[.int .i64 n] W (ValP 2 (refV n) W)) := specRefTo_any n
  have HI : Hid (∀ W, Calls Try.prog 5 #[.int .i64 n] W (ValP 2 (refV n) W)) := implRefTo_any n
  have HCX : Hid (cntS (cntE 1) (refV n).list + (refV n).names.length ≤ 3145728) := refV_cnt n
  generalize refV n = X at *
  go_enter Try.func3, Try.ntmps3
  go_wp2_with fail
  refine (HS.out _).mono ?_
  rintro e wC ⟨vlC, vnC, rfl, hOC, hbC⟩
  obtain ⟨aC, cC, aC', cC', hvC⟩ := hOC.cells
  simp only [List.cons.injEq, true_and, and_true] at hvC
  obtain ⟨rfl, rfl⟩ := hvC
  obtain ⟨wC', hwC'⟩ : ∃ W, W = wC.alloc (Obj.cells #[.int .i64 X.kind, .int .i64 X.num, .string X.text, .slice aC X.list.length cC, .slice aC' X.names.length cC'] 25) := ⟨_, rfl⟩
  have hszC : wC'.heap.size = wC.heap.size + 1 := by rw [hwC']; simp
  have HO6 : Hid (Owns wC' wC.heap.size #[.int .i64 X.kind, .int .i64 X.num, .string X.text, .slice aC X.list.length cC, .slice aC' X.names.length cC'] 25) := by rw [hwC']; exact Owns.made _ _ _
  have HBC : Hid (Below w.heap.size w wC') := by
    show Below _ _ _
    rw [hwC']
    exact hbC.alloc hbC.size _
  have HRC : Hid (∀ W, Below wC'.heap.size wC' W → VlR W 0 2 X [.int .i64 X.kind, .int .i64 X.num, .string X.text, .slice aC X.list.length cC, .slice aC' X.names.length cC']) := fun W h => by
    have h1 : VlR wC' 0 2 X [.int .i64 X.kind, .int .i64 X.num, .string X.text, .slice aC X.list.length cC, .slice aC' X.names.length cC'] := by
      rw [hwC']
      exact VlR.keeps ((Keeps.refl 0 wC).alloc _) _ _ _ (VlR.base (Nat.zero_le _) _ _ _ (VlO.read _ _ _ _ _ hOC))
    exact VlR.keeps (Keeps.of_below h (Nat.le_refl _) 0) _ _ _ h1
  clear hOC hbC
  go_wp2_with fail
  rw [← hwC']
  have HWC : Hid _ := hwC'
  clear hwC'
  refine (HI.out _).mono ?_
  rintro e wE ⟨vlE, vnE, rfl, hOE, hbE⟩
  obtain ⟨aE, cE, aE', cE', hvE⟩ := hOE.cells
  simp only [List.cons.injEq, true_and, and_true] at hvE
  obtain ⟨rfl, rfl⟩ := hvE
  obtain ⟨wE', hwE'⟩ : ∃ W, W = wE.alloc (Obj.cells #[.int .i64 X.kind, .int .i64 X.num, .string X.text, .slice aE X.list.length cE, .slice aE' X.names.length cE'] 25) := ⟨_, rfl⟩
  have hszE : wE'.heap.size = wE.heap.size + 1 := by rw [hwE']; simp
  have hDE : wC'.heap.size ≤ wE.heap.size := hbE.size
  have HO9 : Hid (Owns wE' wE.heap.size #[.int .i64 X.kind, .int .i64 X.num, .string X.text, .slice aE X.list.length cE, .slice aE' X.names.length cE'] 25) := by rw [hwE']; exact Owns.made _ _ _
  have HBCE : Hid (Below wC'.heap.size wC' wE') := by
    show Below _ _ _
    rw [hwE']
    exact hbE.alloc hbE.size _
  have HVE : Hid (VlO wE' 2 wC'.heap.size wE.heap.size X [.int .i64 X.kind, .int .i64 X.num, .string X.text, .slice aE X.list.length cE, .slice aE' X.names.length cE']) := by
    show VlO _ _ _ _ _ _
    rw [hwE']
    exact VlO.same _ _ _ _ _ (fun b _ h2 => Below.heap_alloc _ _ _ h2) hOE
  clear hOE hbE
  obtain ⟨c0, c1, c2, c3, c4⟩ := (HO6.out.below HBCE.out HO6.out.lt).five
  obtain ⟨g0, g1, g2, g3, g4⟩ := HO9.out.five
  rw [hwE'] at c0 c1 c2 c3 c4 g0 g1 g2 g3 g4
  go_wp2_with fail
  rw [← hwE']
  clear c0 c1 c2 c3 c4 g0 g1 g2 g3 g4
  have HWE : Hid _ := hwE'
  clear hwE'
  refine ((eqV_all 2).1 X _ _ _ _ _ (VlR.base (Nat.zero_le _) _ _ _ (VlO.read _ _ _ _ _ HVE.out)) (HRC.out _ HBCE.out)).mono ?_
  rintro e wI ⟨rfl, hbI⟩
  have hHI : wE'.heap.size ≤ wI.heap.size := hbI.size
  have HBCI : Hid (Below wC'.heap.size wC' wI) := HBCE.out.trans (hbI.mono (by omega))
  have HVEI : Hid (VlO wI 2 wC'.heap.size wE.heap.size X [.int .i64 X.kind, .int .i64 X.num, .string X.text, .slice aE X.list.length cE, .slice aE' X.names.length cE']) := VlO.same _ _ _ _ _ (fun b _ h2 => hbI.block b (by omega)) HVE.out
  have HO9I : Hid (Owns wI wE.heap.size #[.int .i64 X.kind, .int .i64 X.num, .string X.text, .slice aE X.list.length cE, .slice aE' X.names.length cE'] 25) := HO9.out.below hbI (by omega)
  clear hbI HVE HO9 HBCE
  obtain ⟨g0, g1, g2, g3, g4⟩ := HO9I.out.five
  go_wp2_with fail
  refine (markV_one 1 wC'.heap.size wE.heap.size X _ _ _ _ _ _ HVEI.out (by omega) HCX.out).mono ?_
  rintro e wJ ⟨rfl, l9, n9, hl9, hn9, hc9, hM9, hN9, hV9, hTJ⟩
  have hIJ : wI.heap.size ≤ wJ.heap.size := hTJ.size
  have HBCJ : Hid (Below wC'.heap.size wC' wJ) := hTJ.below HBCI.out (fun b hb => by have := hb.1; omega) (by omega)
  have HO9J : Hid (Owns wJ wE.heap.size #[.int .i64 X.kind, .int .i64 X.num, .string X.text, .slice aE X.list.length cE, .slice aE' X.names.length cE'] 25) := HO9I.out.same (hTJ.block _ (by omega) (fun hb => by have := hb.2; omega))
  obtain ⟨rm, hrm⟩ : ∃ rm, 1 + cntS (cntE 1) X.list + X.names.length = rm := ⟨_, rfl⟩
  rw [hrm]
  have hrmd : decide ((rm : Int) < 0) = false := decide_eq_false (by omega)
  have HHELD : Hid (∀ W, Below wJ.heap.size wJ W → Calls Try.prog 8 #[.agg #[.int .i64 X.kind, .int .i64 X.num, .string X.text, .slice aE X.list.length cE, .slice aE' X.names.length cE'], .int .i64 1] W fun e w' => e = .returned (.int .i64 (rm : Int)) ∧ Below W.heap.size W w') := fun W h => by
    have hcx := HCX.out
    refine heldV_one 1 rm ⟨X.kind, X.num, X.text, l9, n9⟩ _ _ _ _ _ W (VlR.keeps (Keeps.of_below h (Nat.le_refl _) 0) _ _ _ (VlR.base (Nat.zero_le _) _ _ _ (VlO.read _ _ _ _ _ hV9))) hM9 ?_ ?_ ?_
    · show MkN (1 + cntS (cntE 1) l9) n9
      rw [hc9]; exact hN9
    · show cntS (cntE 1) l9 + n9.length ≤ _
      rw [hc9, hn9]; exact hcx
    · show 1 + cntS (cntE 1) l9 + n9.length = rm
      rw [hc9, hn9]; exact hrm
  clear hl9 hn9 hc9 hM9 hN9 hV9 hTJ hrm HVEI HO9I HBCI g0 g1 g2 g3 g4
  obtain ⟨g0, g1, g2, g3, g4⟩ := HO9J.out.five
  go_wp2_with fail
  refine (Hid.out HHELD _ (Below.refl _ _)).mono ?_
  rintro e wK ⟨rfl, hbK⟩
  have hJK : wJ.heap.size ≤ wK.heap.size := hbK.size
  have HBJK : Hid (Below wJ.heap.size wJ wK) := hbK
  clear hbK g0 g1 g2 g3 g4
  go_wp2_with fail
  refine (HI.out _).mono ?_
  rintro e wM ⟨vlM, vnM, rfl, hOM, hbM⟩
  obtain ⟨aM, cM, aM', cM', hvM⟩ := hOM.cells
  simp only [List.cons.injEq, true_and, and_true] at hvM
  obtain ⟨rfl, rfl⟩ := hvM
  have hLM := hbM.size
  obtain ⟨wM', hwM'⟩ : ∃ W, W = wM.alloc (Obj.cells #[.int .i64 X.kind, .int .i64 X.num, .string X.text, .slice aM X.list.length cM, .slice aM' X.names.length cM'] 25) := ⟨_, rfl⟩
  have hszM : wM'.heap.size = wM.heap.size + 1 := by rw [hwM']; simp
  have HBJM : Hid (Below wJ.heap.size wJ wM') := by
    have h1 : Below wJ.heap.size wJ wM := HBJK.out.trans (hbM.mono (by omega))
    show Below _ _ _
    rw [hwM']
    exact h1.alloc h1.size _
  have HBCM : Hid (Below wC'.heap.size wC' wM') := HBCJ.out.trans (HBJM.out.mono (by omega))
  have HRM : Hid (VlR wM' 0 2 X [.int .i64 X.kind, .int .i64 X.num, .string X.text, .slice aM X.list.length cM, .slice aM' X.names.length cM']) := by
    show VlR _ _ _ _ _
    rw [hwM']
    exact VlR.keeps ((Keeps.refl 0 wM).alloc _) _ _ _ (VlR.base (Nat.zero_le _) _ _ _ (VlO.read _ _ _ _ _ hOM))
  have HO14 : Hid (Owns wM' wM.heap.size #[.int .i64 X.kind, .int .i64 X.num, .string X.text, .slice aM X.list.length cM, .slice aM' X.names.length cM'] 25) := by rw [hwM']; exact Owns.made _ _ _
  clear hOM hbM HBJK
  obtain ⟨c0, c1, c2, c3, c4⟩ := (HO6.out.below HBCM.out HO6.out.lt).five
  obtain ⟨h0, h1, h2, h3, h4⟩ := HO14.out.five
  rw [hwM'] at c0 c1 c2 c3 c4 h0 h1 h2 h3 h4
  go_wp2_with fail
  rw [← hwM']
  clear c0 c1 c2 c3 c4 h0 h1 h2 h3 h4
  have HWM : Hid _ := hwM'
  clear hwM'
  refine ((eqV_all 2).1 X _ _ _ _ _ HRM.out (HRC.out _ HBCM.out)).mono ?_
  rintro e wN ⟨rfl, hbN⟩
  have hMN := hbN.size
  have HBJN : Hid (Below wJ.heap.size wJ wN) := HBJM.out.trans (hbN.mono (by have := HBJM.out.size; omega))
  have HBCN : Hid (Below wC'.heap.size wC' wN) := HBCJ.out.trans (HBJN.out.mono (by omega))
  have HO9N : Hid (Owns wN wE.heap.size #[.int .i64 X.kind, .int .i64 X.num, .string X.text, .slice aE X.list.length cE, .slice aE' X.names.length cE'] 25) := HO9J.out.below HBJN.out (by omega)
  clear hbN HRM HBJM HO14 HBCM
  obtain ⟨g0, g1, g2, g3, g4⟩ := HO9N.out.five
  go_wp2_with fail
  refine (Hid.out HHELD _ HBJN.out).mono ?_
  rintro e wO ⟨rfl, hbO⟩
  have HBO : Hid (Below w.heap.size w wO) := (HBC.out.trans (HBCN.out.mono HBC.out.size)).trans (hbO.mono (by have := HBC.out.size; have := HBCN.out.size; omega))
  clear hbO g0 g1 g2 g3 g4
  go_wp2_with fail
  go_ret
  exact ⟨rfl, HBO.out⟩

end Go.Proofs.Ytaklmcmcgeebiaa
