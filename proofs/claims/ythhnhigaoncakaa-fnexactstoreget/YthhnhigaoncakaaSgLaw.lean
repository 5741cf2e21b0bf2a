
/-
  DERIVED. laws.FnExactStoreGet: its walk out of the contracts.
-/
import Derived.Test.YthhnhigaoncakaaSpGe
import Derived.Test.YthhnhigaoncakaaNdMk
import Derived.Test.YthhnhigaoncakaaNdTo
import Derived.Test.YthhnhigaoncakaaNdEq
import Derived.Test.YthhnhigaoncakaaMkOne
namespace Go.Proofs.Ythhnhigaoncakaa
open Go.RowKit
set_option linter.unusedVariables false
set_option linter.unusedSimpArgs false

theorem cntNs_mem (k : Nat) {l : List Nd} {x : Nd} (h : x ∈ l) : cntN k x ≤ cntNs k l := by
  induction l with
  | nil => simp at h
  | cons y r ih =>
    simp only [cntNs]
    rcases List.mem_cons.1 h with rfl | h
    · omega
    · have := ih h; omega
theorem get_cnt {k : Nat} {l : List Nd} {id : Int} {s : ByteArray} : cntS (cntE k) (getV l id s).list + (getV l id s).names.length ≤ cntNs (k + 1) l := by
  unfold getV
  split
  · cases ho : getO l id s with
    | none => simp [vlOf, zeroV, cntS]
    | some x =>
      unfold getO at ho
      cases hf : findN l id with
      | none => rw [hf] at ho; simp at ho
      | some n =>
        rw [hf] at ho
        simp only at ho
        have hm := List.mem_of_find?_eq_some hf
        have h1 := cntNs_mem (k + 1) hm
        unfold treeO at ho
        split at ho
        · have h2 := cntS_mem (cntE (k + 1)) (findL_mem _ _ _ _ ho)
          have h3 : cntE (k + 1) x = 3 + cntS (cntE k) x.list + x.names.length := rfl
          have h4 : cntN (k + 1) n = cntS (cntE (k + 1)) n.cells.list + n.cells.names.length := rfl
          show cntS (cntE k) x.list + x.names.length ≤ _
          omega
        · simp at ho
  · simp [zeroV, cntS]

set_option maxHeartbeats 4000000 in
theorem law_walk (k : Nat) (hk3 : 3 ≤ k) (l : List Nd) (v : Value) (id : Int) (s : ByteArray) (w : World) (hs : s.size ≤ 140737488351232) (hrow : NdRow w 0 (k + 2) l v) :
    Calls Try.prog 3 #[v, .int .i64 id, .string s] w fun e w' => e = .returned (.bool true) ∧ Below w.heap.size w w' := by
  obtain ⟨a, cap, rfl, hw, _⟩ := Row.len hrow
  have HR : Hid (∀ W, Keeps 0 w W → NdRow W 0 (k + 2) l (.slice a l.length cap)) := fun W h => NdRow.keeps h hrow
  clear hrow
  by_cases hbig : 1048576 < s.size
  · have hbi : (1048576 : Int) < (s.size : Int) := by omega
    go_enter Try.func3, Try.ntmps3
    go_wp2_with fail
    go_ret
    exact ⟨rfl, Below.refl _ _⟩
  have hbi : decide ((1048576 : Int) < (s.size : Int)) = false := decide_eq_false (by omega)
  go_enter Try.func3, Try.ntmps3
  go_wp2_with fail
  refine (szNodeS_any (k + 1) l _ _ _ (HR.out _ (Keeps.refl _ _)) (by omega) (by omega)).mono ?_
  rintro e wA ⟨r1, rfl, hr1, hr2, hr3, hbA⟩
  have HBA : Hid (Below w.heap.size w wA) := hbA
  clear hbA
  by_cases hneg : r1 < 0
  · go_wp2_with fail
    go_ret
    exact ⟨rfl, HBA.out⟩
  have HCNT : Hid (cntNs (k + 1) l + 3 * l.length ≤ 3145728) := by
    have := hr3 (by omega)
    show _ ≤ _
    push_cast at this
    omega
  clear hr3
  go_wp2_with fail
  refine (toNodeS_any (k + 2) l _ _ (HR.out _ (Keeps.of_below HBA.out (Nat.le_refl _) _))).mono ?_
  rintro e wB ⟨vB, rfl, hOB, hAB, hbB⟩
  have HRB : Hid (NdRow wB 0 (k + 2) l vB) := NdOwn.read hOB (fun _ _ => Nat.zero_le _) (Nat.zero_le _)
  have HBB : Hid (Below w.heap.size w wB) := HBA.out.trans (hbB.mono HBA.out.size)
  clear hOB hAB hbB
  go_wp2_with fail
  refine (specStoreGet_any k l vB id s wB hs HRB.out).mono ?_
  rintro e wC ⟨vlC, vnC, rfl, hQC, hbC⟩
  have hRC := VlQ.read _ _ _ hQC
  have HCX : Hid (cntS (cntE k) (getV l id s).list + (getV l id s).names.length ≤ 3145728) := by have := get_cnt (k := k) (l := l) (id := id) (s := s); have := HCNT.out; show _ ≤ _; omega
  have HIMP : Hid (∀ (W : World) (v : Value), NdRow W 0 (k + 2) l v → Calls Try.prog 7 #[v, .int .i64 id, .string s] W (ValP (k + 1) (getV l id s) W)) := fun W v h => implStoreGet_any k hk3 l v id s W hs h
  generalize hX : getV l id s = X at *
  obtain ⟨aC, cC, aC', cC', hvC⟩ := hRC.cells
  simp only [List.cons.injEq, true_and, and_true] at hvC
  obtain ⟨rfl, rfl⟩ := hvC
  clear hX hQC
  obtain ⟨wC', hwC'⟩ : ∃ W, W = wC.alloc (Obj.cells #[.int .i64 X.kind, .int .i64 X.num, .string X.text, .slice aC X.list.length cC, .slice aC' X.names.length cC'] 27) := ⟨_, rfl⟩
  have hszC : wC'.heap.size = wC.heap.size + 1 := by rw [hwC']; simp
  have HO6 : Hid (Owns wC' wC.heap.size #[.int .i64 X.kind, .int .i64 X.num, .string X.text, .slice aC X.list.length cC, .slice aC' X.names.length cC'] 27) := by rw [hwC']; exact Owns.made _ _ _
  have HBC : Hid (Below w.heap.size w wC') := by
    have h1 : Below w.heap.size w wC := HBB.out.trans (hbC.mono HBB.out.size)
    show Below _ _ _
    rw [hwC']
    exact h1.alloc h1.size _
  have HRC : Hid (∀ W, Below wC'.heap.size wC' W → VlR W 0 (k + 1) X [.int .i64 X.kind, .int .i64 X.num, .string X.text, .slice aC X.list.length cC, .slice aC' X.names.length cC']) := fun W h => by
    have h1 : VlR wC' 0 (k + 1) X [.int .i64 X.kind, .int .i64 X.num, .string X.text, .slice aC X.list.length cC, .slice aC' X.names.length cC'] := by
      rw [hwC']
      exact VlR.keeps ((Keeps.refl 0 wC).alloc _) _ _ _ (VlR.base (Nat.zero_le _) _ _ _ hRC)
    exact VlR.keeps (Keeps.of_below h (Nat.le_refl _) 0) _ _ _ h1
  clear hRC hbC HBB HRB
  go_wp2_with fail
  rw [← hwC']
  have HWC : Hid _ := hwC'
  clear hwC'
  refine (toNodeS_any (k + 2) l _ _ (HR.out _ (Keeps.of_below HBC.out (Nat.le_refl _) _))).mono ?_
  rintro e wD ⟨vD, rfl, hOD, hAD, hbD⟩
  obtain ⟨aD, hvD, _⟩ := OwnRow.len hOD
  subst hvD
  have HOD : Hid (NdOwn wD (k + 2) (wC'.heap.size + 1) wD.heap.size l (.slice aD l.length l.length)) := hOD
  have HAD : Hid (∀ b, At (.slice aD l.length l.length) b → b = wC'.heap.size ∧ wC'.heap.size < wD.heap.size) := hAD
  have hCD : wC'.heap.size ≤ wD.heap.size := hbD.size
  have HBD : Hid (Below wC'.heap.size wC' wD) := hbD
  have HRD : Hid (NdRow wD 0 (k + 2) l (.slice aD l.length l.length)) := NdOwn.read hOD (fun _ _ => Nat.zero_le _) (Nat.zero_le _)
  clear hOD hAD hbD
  go_wp2_with fail
  refine (HIMP.out _ _ HRD.out).mono ?_
  rintro e wE ⟨vlE, vnE, rfl, hOE, hbE⟩
  obtain ⟨aE, cE, aE', cE', hvE⟩ := hOE.cells
  simp only [List.cons.injEq, true_and, and_true] at hvE
  obtain ⟨rfl, rfl⟩ := hvE
  obtain ⟨wE', hwE'⟩ : ∃ W, W = wE.alloc (Obj.cells #[.int .i64 X.kind, .int .i64 X.num, .string X.text, .slice aE X.list.length cE, .slice aE' X.names.length cE'] 27) := ⟨_, rfl⟩
  have hszE : wE'.heap.size = wE.heap.size + 1 := by rw [hwE']; simp
  have hDE : wD.heap.size ≤ wE.heap.size := hbE.size
  have HO9 : Hid (Owns wE' wE.heap.size #[.int .i64 X.kind, .int .i64 X.num, .string X.text, .slice aE X.list.length cE, .slice aE' X.names.length cE'] 27) := by rw [hwE']; exact Owns.made _ _ _
  have HBE : Hid (Below wD.heap.size wD wE') := by
    show Below _ _ _
    rw [hwE']
    exact hbE.alloc hbE.size _
  have HVE : Hid (VlO wE' (k + 1) wD.heap.size wE.heap.size X [.int .i64 X.kind, .int .i64 X.num, .string X.text, .slice aE X.list.length cE, .slice aE' X.names.length cE']) := by
    show VlO _ _ _ _ _ _
    rw [hwE']
    exact VlO.same _ _ _ _ _ (fun b _ h2 => Below.heap_alloc _ _ _ h2) hOE
  have HBCE : Hid (Below wC'.heap.size wC' wE') := HBD.out.trans (HBE.out.mono (by omega))
  clear hOE hbE HRD
  obtain ⟨c0, c1, c2, c3, c4⟩ := (HO6.out.below HBCE.out HO6.out.lt).five
  obtain ⟨g0, g1, g2, g3, g4⟩ := HO9.out.five
  rw [hwE'] at c0 c1 c2 c3 c4 g0 g1 g2 g3 g4
  go_wp2_with fail
  rw [← hwE']
  clear c0 c1 c2 c3 c4 g0 g1 g2 g3 g4
  have HWE : Hid _ := hwE'
  clear hwE'
  refine ((eqV_all (k + 1)).1 X _ _ _ _ _ (VlR.base (Nat.zero_le _) _ _ _ (VlO.read _ _ _ _ _ HVE.out)) (HRC.out _ HBCE.out)).mono ?_
  rintro e wF ⟨rfl, hbF⟩
  have hEF : wE'.heap.size ≤ wF.heap.size := hbF.size
  have HBEF : Hid (Below wE'.heap.size wE' wF) := hbF
  have HBwF : Hid (Below w.heap.size w wF) := (HBC.out.trans (HBCE.out.mono HBC.out.size)).trans (hbF.mono (by have := HBC.out.size; have := HBCE.out.size; omega))
  clear hbF
  go_wp2_with fail
  refine (toNodeS_any (k + 2) l _ _ (HR.out _ (Keeps.of_below HBwF.out (Nat.le_refl _) _))).mono ?_
  rintro e wF2 ⟨vF, rfl, hOF, _, hbF2⟩
  have HBEF2 : Hid (Below wE'.heap.size wE' wF2) := HBEF.out.trans (hbF2.mono HBEF.out.size)
  have HRF : Hid (NdRow wF2 0 (k + 2) l vF) := NdOwn.read hOF (fun _ _ => Nat.zero_le _) (Nat.zero_le _)
  have HODE : Hid (∀ W, Below wE'.heap.size wE' W → NdOwn W (k + 2) (wC'.heap.size + 1) wD.heap.size l (.slice aD l.length l.length)) := fun W h => by
    have h9 : ∀ y, y < wD.heap.size → W.heap[y]? = wD.heap[y]? := fun y hy => (h.block y (by omega)).trans (HBE.out.block y hy)
    exact OwnRow.same HOD.out (fun y hy => h9 y (by have := HAD.out y hy; omega)) (fun a b x cs ha hb hx => hx.same (fun y y1 y2 => h9 y (by omega)))
  have HRF2 : Hid (NdRow wF2 0 (k + 2) l (.slice aD l.length l.length)) := NdOwn.read (HODE.out _ HBEF2.out) (fun _ _ => Nat.zero_le _) (Nat.zero_le _)
  clear hOF hbF2 HBEF HBwF HOD
  go_wp2_with fail
  refine (eqNodeS_any (k + 2) l _ vF wF2 HRF2.out HRF.out).mono ?_
  rintro e wG ⟨rfl, hbG⟩
  have HBEG : Hid (Below wE'.heap.size wE' wG) := HBEF2.out.trans (hbG.mono HBEF2.out.size)
  have hEG : wE'.heap.size ≤ wG.heap.size := HBEG.out.size
  have HBCG : Hid (Below wC'.heap.size wC' wG) := HBCE.out.trans (HBEG.out.mono (by omega))
  have HODG : Hid (NdOwn wG (k + 2) (wC'.heap.size + 1) wD.heap.size l (.slice aD l.length l.length)) := HODE.out _ HBEG.out
  have HVEG : Hid (VlO wG (k + 1) wD.heap.size wE.heap.size X [.int .i64 X.kind, .int .i64 X.num, .string X.text, .slice aE X.list.length cE, .slice aE' X.names.length cE']) := VlO.same _ _ _ _ _ (fun b _ h2 => HBEG.out.block b (by omega)) HVE.out
  have HO9G : Hid (Owns wG wE.heap.size #[.int .i64 X.kind, .int .i64 X.num, .string X.text, .slice aE X.list.length cE, .slice aE' X.names.length cE'] 27) := HO9.out.below HBEG.out (by omega)
  clear hbG HRF HRF2 HODE HBEF2 HVE HO9 HBE
  go_wp2_with fail
  refine (markNodeS_any (k + 1) l _ (wC'.heap.size + 1) wD.heap.size wC'.heap.size wD.heap.size wG HODG.out (by omega) (by omega) (Nat.le_refl _) (fun b hb => by have := HAD.out b hb; omega) (by have := HCNT.out; omega)).mono ?_
  rintro e wH ⟨⟨rk, rfl, hrk⟩, hTH⟩
  have hGH : wG.heap.size ≤ wH.heap.size := hTH.size
  have HBCH : Hid (Below wC'.heap.size wC' wH) := hTH.below HBCG.out (fun b hb => hb.1) (by omega)
  have HVEH : Hid (VlO wH (k + 1) wD.heap.size wE.heap.size X [.int .i64 X.kind, .int .i64 X.num, .string X.text, .slice aE X.list.length cE, .slice aE' X.names.length cE']) := VlO.same _ _ _ _ _ (fun b h1 h2 => hTH.block b (by omega) (fun hb => by have := hb.2; omega)) HVEG.out
  have HO9H : Hid (Owns wH wE.heap.size #[.int .i64 X.kind, .int .i64 X.num, .string X.text, .slice aE X.list.length cE, .slice aE' X.names.length cE'] 27) := HO9G.out.same (hTH.block _ (by omega) (fun hb => by have := hb.2; omega))
  have hrkd : decide (rk < 0) = false := decide_eq_false (by omega)
  clear hTH HODG HVEG HO9G HBEG HBCG HAD
  obtain ⟨c0, c1, c2, c3, c4⟩ := (HO6.out.below HBCH.out HO6.out.lt).five
  obtain ⟨g0, g1, g2, g3, g4⟩ := HO9H.out.five
  go_wp2_with fail
  refine ((eqV_all (k + 1)).1 X _ _ _ _ _ (VlR.base (Nat.zero_le _) _ _ _ (VlO.read _ _ _ _ _ HVEH.out)) (HRC.out _ HBCH.out)).mono ?_
  rintro e wI ⟨rfl, hbI⟩
  have hHI : wH.heap.size ≤ wI.heap.size := hbI.size
  have HBCI : Hid (Below wC'.heap.size wC' wI) := HBCH.out.trans (hbI.mono (by omega))
  have HVEI : Hid (VlO wI (k + 1) wD.heap.size wE.heap.size X [.int .i64 X.kind, .int .i64 X.num, .string X.text, .slice aE X.list.length cE, .slice aE' X.names.length cE']) := VlO.same _ _ _ _ _ (fun b _ h2 => hbI.block b (by omega)) HVEH.out
  have HO9I : Hid (Owns wI wE.heap.size #[.int .i64 X.kind, .int .i64 X.num, .string X.text, .slice aE X.list.length cE, .slice aE' X.names.length cE'] 27) := HO9H.out.below hbI (by omega)
  clear hbI HVEH HO9H HBCH c0 c1 c2 c3 c4 g0 g1 g2 g3 g4
  obtain ⟨g0, g1, g2, g3, g4⟩ := HO9I.out.five
  go_wp2_with fail
  refine (markV_one k wD.heap.size wE.heap.size X _ _ _ _ _ _ HVEI.out (by omega) HCX.out).mono ?_
  rintro e wJ ⟨rfl, l9, n9, hl9, hn9, hc9, hM9, hN9, hV9, hTJ⟩
  have hIJ : wI.heap.size ≤ wJ.heap.size := hTJ.size
  have HBCJ : Hid (Below wC'.heap.size wC' wJ) := hTJ.below HBCI.out (fun b hb => by have := hb.1; omega) (by omega)
  have HO9J : Hid (Owns wJ wE.heap.size #[.int .i64 X.kind, .int .i64 X.num, .string X.text, .slice aE X.list.length cE, .slice aE' X.names.length cE'] 27) := HO9I.out.same (hTJ.block _ (by omega) (fun hb => by have := hb.2; omega))
  obtain ⟨rm, hrm⟩ : ∃ rm, 1 + cntS (cntE k) X.list + X.names.length = rm := ⟨_, rfl⟩
  rw [hrm]
  have hrmd : decide ((rm : Int) < 0) = false := decide_eq_false (by omega)
  have HHELD : Hid (∀ W, Below wJ.heap.size wJ W → Calls Try.prog 12 #[.agg #[.int .i64 X.kind, .int .i64 X.num, .string X.text, .slice aE X.list.length cE, .slice aE' X.names.length cE'], .int .i64 1] W fun e w' => e = .returned (.int .i64 (rm : Int)) ∧ Below W.heap.size W w') := fun W h => by
    have hcx := HCX.out
    refine heldV_one k rm ⟨X.kind, X.num, X.text, l9, n9⟩ _ _ _ _ _ W (VlR.keeps (Keeps.of_below h (Nat.le_refl _) 0) _ _ _ (VlR.base (Nat.zero_le _) _ _ _ (VlO.read _ _ _ _ _ hV9))) hM9 ?_ ?_ ?_
    · show MkN (1 + cntS (cntE k) l9) n9
      rw [hc9]; exact hN9
    · show cntS (cntE k) l9 + n9.length ≤ _
      rw [hc9, hn9]; exact hcx
    · show 1 + cntS (cntE k) l9 + n9.length = rm
      rw [hc9, hn9]; exact hrm
  clear hl9 hn9 hc9 hM9 hN9 hV9 hTJ hrm HVEI HO9I HBCI g0 g1 g2 g3 g4
  obtain ⟨g0, g1, g2, g3, g4⟩ := HO9J.out.five
  go_wp2_with fail
  refine (Hid.out HHELD _ (Below.refl _ _)).mono ?_
  rintro e wK ⟨rfl, hbK⟩
  have hJK : wJ.heap.size ≤ wK.heap.size := hbK.size
  have HBJK : Hid (Below wJ.heap.size wJ wK) := hbK
  have HBCK : Hid (Below wC'.heap.size wC' wK) := HBCJ.out.trans (hbK.mono (by omega))
  clear hbK g0 g1 g2 g3 g4
  go_wp2_with fail
  refine (toNodeS_any (k + 2) l _ _ (HR.out _ (Keeps.of_below (HBC.out.trans (HBCK.out.mono HBC.out.size)) (Nat.le_refl _) _))).mono ?_
  rintro e wL ⟨vL, rfl, hOL, _, hbL⟩
  have HRL : Hid (NdRow wL 0 (k + 2) l vL) := NdOwn.read hOL (fun _ _ => Nat.zero_le _) (Nat.zero_le _)
  have HBKL : Hid (Below wK.heap.size wK wL) := hbL
  clear hOL hbL
  go_wp2_with fail
  refine (HIMP.out _ _ HRL.out).mono ?_
  rintro e wM ⟨vlM, vnM, rfl, hOM, hbM⟩
  obtain ⟨aM, cM, aM', cM', hvM⟩ := hOM.cells
  simp only [List.cons.injEq, true_and, and_true] at hvM
  obtain ⟨rfl, rfl⟩ := hvM
  have hKL := HBKL.out.size
  have hLM := hbM.size
  obtain ⟨wM', hwM'⟩ : ∃ W, W = wM.alloc (Obj.cells #[.int .i64 X.kind, .int .i64 X.num, .string X.text, .slice aM X.list.length cM, .slice aM' X.names.length cM'] 27) := ⟨_, rfl⟩
  have hszM : wM'.heap.size = wM.heap.size + 1 := by rw [hwM']; simp
  have HBJM : Hid (Below wJ.heap.size wJ wM') := by
    have h1 : Below wJ.heap.size wJ wM := (HBJK.out.trans (HBKL.out.mono (by omega))).trans (hbM.mono (by omega))
    show Below _ _ _
    rw [hwM']
    exact h1.alloc h1.size _
  have HBCM : Hid (Below wC'.heap.size wC' wM') := HBCJ.out.trans (HBJM.out.mono (by omega))
  have HRM : Hid (VlR wM' 0 (k + 1) X [.int .i64 X.kind, .int .i64 X.num, .string X.text, .slice aM X.list.length cM, .slice aM' X.names.length cM']) := by
    show VlR _ _ _ _ _
    rw [hwM']
    exact VlR.keeps ((Keeps.refl 0 wM).alloc _) _ _ _ (VlR.base (Nat.zero_le _) _ _ _ (VlO.read _ _ _ _ _ hOM))
  have HO14 : Hid (Owns wM' wM.heap.size #[.int .i64 X.kind, .int .i64 X.num, .string X.text, .slice aM X.list.length cM, .slice aM' X.names.length cM'] 27) := by rw [hwM']; exact Owns.made _ _ _
  clear hOM hbM HRL HBKL HBJK HBCK
  obtain ⟨c0, c1, c2, c3, c4⟩ := (HO6.out.below HBCM.out HO6.out.lt).five
  obtain ⟨h0, h1, h2, h3, h4⟩ := HO14.out.five
  rw [hwM'] at c0 c1 c2 c3 c4 h0 h1 h2 h3 h4
  go_wp2_with fail
  rw [← hwM']
  clear c0 c1 c2 c3 c4 h0 h1 h2 h3 h4
  have HWM : Hid _ := hwM'
  clear hwM'
  refine ((eqV_all (k + 1)).1 X _ _ _ _ _ HRM.out (HRC.out _ HBCM.out)).mono ?_
  rintro e wN ⟨rfl, hbN⟩
  have hMN := hbN.size
  have HBJN : Hid (Below wJ.heap.size wJ wN) := HBJM.out.trans (hbN.mono (by have := HBJM.out.size; omega))
  have HBCN : Hid (Below wC'.heap.size wC' wN) := HBCJ.out.trans (HBJN.out.mono (by omega))
  have HO9N : Hid (Owns wN wE.heap.size #[.int .i64 X.kind, .int .i64 X.num, .string X.text, .slice aE X.list.length cE, .slice aE' X.names.length cE'] 27) := HO9J.out.below HBJN.out (by omega)
  clear hbN HRM HBJM HO14 HBCM
  obtain ⟨g0, g1, g2, g3, g4⟩ := HO9N.out.five
  go_wp2_with fail
  refine (Hid.out HHELD _ HBJN.out).mono ?_
  rintro e wO ⟨rfl, hbO⟩
  have HBO : Hid (Below w.heap.size w wO) := (HBC.out.trans (HBCN.out.mono HBC.out.size)).trans (hbO.mono (by have := HBC.out.size; have := HBCN.out.size; omega))
  clear hbO g0 g1 g2 g3 g4
  go_wp2_with fail
  go_ret
  exact ⟨rfl, HBO.out⟩

end Go.Proofs.Ythhnhigaoncakaa
