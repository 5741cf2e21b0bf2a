
/-
  DERIVED. laws.FnExactStoreOk: its walk out of the contracts.
-/
import Derived.Test.YtoakanmhalcdeaaStOf
import Derived.Test.YtoakanmhalcdeaaStSp
import Derived.Test.YtoakanmhalcdeaaNdSz
import Derived.Test.YtoakanmhalcdeaaNdTo
import Derived.Test.YtoakanmhalcdeaaNdEq
namespace Go.Proofs.Ytoakanmhalcdeaa
open Go.RowKit
set_option linter.unusedVariables false
set_option linter.unusedSimpArgs false

set_option maxHeartbeats 2000000 in
theorem law_walk (k : Nat) (l : List Nd) (v : Value) (w : World) (hrow : NdRow w 0 (k + 1) l v) :
    Calls Try.prog 3 #[v] w fun e w' => e = .returned (.bool true) ∧ Below w.heap.size w w' := by
  obtain ⟨a, cap, rfl, hw, _⟩ := Row.len hrow
  have HR : Hid (∀ W, Keeps 0 w W → NdRow W 0 (k + 1) l (.slice a l.length cap)) := fun W h => NdRow.keeps h hrow
  clear hrow
  go_enter Try.func3, Try.ntmps3
  go_wp2_with fail
  refine (szNodeS_any k l _ _ _ (HR.out _ (Keeps.refl _ _)) (by omega) (by omega)).mono ?_
  rintro e wA ⟨r1, rfl, hr1, hr2, _, hbA⟩
  have HBA : Hid (Below w.heap.size w wA) := hbA
  clear hbA
  by_cases hneg : r1 < 0
  · go_wp2_with fail
    go_ret
    exact ⟨rfl, HBA.out⟩
  go_wp2_with fail
  refine (toNodeS_any (k + 1) l _ _ (HR.out _ (Keeps.of_below HBA.out (Nat.le_refl _) _))).mono ?_
  rintro e wB ⟨vB, rfl, hOB, hAB, hbB⟩
  have HRB : Hid (NdRow wB 0 (k + 1) l vB) := NdOwn.read hOB (fun _ _ => Nat.zero_le _) (Nat.zero_le _)
  have HBB : Hid (Below w.heap.size w wB) := HBA.out.trans (hbB.mono HBA.out.size)
  clear hOB hAB hbB
  go_wp2_with fail
  refine (specStoreOk_any (k + 1) l vB wB HRB.out).mono ?_
  rintro e wC ⟨rfl, hbC⟩
  have HBC : Hid (Below w.heap.size w wC) := HBB.out.trans (hbC.mono HBB.out.size)
  clear hbC HRB HBB
  go_wp2_with fail
  refine (toNodeS_any (k + 1) l _ _ (HR.out _ (Keeps.of_below HBC.out (Nat.le_refl _) _))).mono ?_
  rintro e wD ⟨vD, rfl, hOD, hAD, hbD⟩
  have HRD : Hid (∀ W, Keeps 0 wD W → NdRow W 0 (k + 1) l vD) := fun W h => NdRow.keeps h (NdOwn.read hOD (fun _ _ => Nat.zero_le _) (Nat.zero_le _))
  have HBD : Hid (Below w.heap.size w wD) := HBC.out.trans (hbD.mono HBC.out.size)
  clear hOD hAD hbD
  go_wp2_with fail
  refine (implStoreOk_any k l vD wD (HRD.out _ (Keeps.refl _ _))).mono ?_
  rintro e wE ⟨rfl, hbE⟩
  have HBE : Hid (Below w.heap.size w wE) := HBD.out.trans (hbE.mono HBD.out.size)
  have HRE : Hid (∀ W, Below wE.heap.size wE W → NdRow W 0 (k + 1) l vD) := fun W h => HRD.out W ((Keeps.of_below hbE (Nat.le_refl _) 0).trans (Keeps.of_below h (Nat.le_refl _) 0))
  obtain ⟨bS, hbS⟩ : ∃ q, storeB l = q := ⟨_, rfl⟩
  rw [hbS]
  clear hbE HRD hbS
  go_wp2_with fail
  refine (toNodeS_any (k + 1) l _ _ (HR.out _ (Keeps.of_below HBE.out (Nat.le_refl _) _))).mono ?_
  rintro e wF ⟨vF, rfl, hOF, hAF, hbF⟩
  have HRF : Hid (NdRow wF 0 (k + 1) l vF) := NdOwn.read hOF (fun _ _ => Nat.zero_le _) (Nat.zero_le _)
  have HRF2 : Hid (NdRow wF 0 (k + 1) l vD) := HRE.out _ hbF
  have HBF : Hid (Below w.heap.size w wF) := HBE.out.trans (hbF.mono HBE.out.size)
  clear hOF hAF hbF
  go_wp2_with fail
  refine (eqNodeS_any (k + 1) l vD vF wF HRF2.out HRF.out).mono ?_
  rintro e wG ⟨rfl, hbG⟩
  have HBG : Hid (Below w.heap.size w wG) := HBF.out.trans (hbG.mono HBF.out.size)
  clear hbG
  go_wp2_with fail
  go_ret
  exact ⟨rfl, HBG.out⟩

end Go.Proofs.Ytoakanmhalcdeaa
