
/-
  DERIVED. A WORD IS TAKEN INTO A SUM: the walk of (*impl.sumState).step.
-/
import Derived.Test.YtkogdlncjciboaaDoorShA
import Derived.Test.YtkogdlncjciboaaDoorTyOwn
import Derived.Deep.QuietTactic
namespace Go.Proofs.YtkogdlncjciboaaDoor
open Go.RowKit
set_option linter.unusedVariables false
set_option linter.unusedSimpArgs false

/-- A word in a cell. -/
def wV (x : W32) : Value := .int .u32 (wI x)
/-- A state's eight cells. -/
def S8.cs (s : S8) : List Value := [.int .u32 (wI s.a), .int .u32 (wI s.b), .int .u32 (wI s.c), .int .u32 (wI s.d), .int .u32 (wI s.e), .int .u32 (wI s.f), .int .u32 (wI s.g), .int .u32 (wI s.h)]

theorem owns8 {w : World} {b : Nat} {e : TypeId} {u0 u1 u2 u3 u4 u5 u6 u7 : Value} (h : Owns w b #[u0, u1, u2, u3, u4, u5, u6, u7] e) (v0 v1 v2 v3 v4 v5 v6 v7 : Value) :
    Owns ((((((((w.setCell ⟨b, 0, none⟩ v0).setCell ⟨b, 1, none⟩ v1).setCell ⟨b, 2, none⟩ v2).setCell ⟨b, 3, none⟩ v3).setCell ⟨b, 4, none⟩ v4).setCell ⟨b, 5, none⟩ v5).setCell ⟨b, 6, none⟩ v6).setCell ⟨b, 7, none⟩ v7) b #[v0, v1, v2, v3, v4, v5, v6, v7] e := by
  have := (((((((h.set 0 v0).set 1 v1).set 2 v2).set 3 v3).set 4 v4).set 5 v5).set 6 v6).set 7 v7
  simpa using this
theorem turns8 {a w : World} {b : Nat} (h : Turns [b] a w) (v0 v1 v2 v3 v4 v5 v6 v7 : Value) :
    Turns [b] a ((((((((w.setCell ⟨b, 0, none⟩ v0).setCell ⟨b, 1, none⟩ v1).setCell ⟨b, 2, none⟩ v2).setCell ⟨b, 3, none⟩ v3).setCell ⟨b, 4, none⟩ v4).setCell ⟨b, 5, none⟩ v5).setCell ⟨b, 6, none⟩ v6).setCell ⟨b, 7, none⟩ v7) :=
  have hb : b ∈ [b] := List.mem_cons_self
  (((((((h.setCell hb v0).setCell hb v1).setCell hb v2).setCell hb v3).setCell hb v4).setCell hb v5).setCell hb v6).setCell hb v7

set_option maxHeartbeats 4000000 in
set_option maxRecDepth 100000 in
theorem step_any (s : S8) (x : W32) (b : Nat) (w : World) (h : Owns w b s.cs.toArray 59) :
    Calls Tryd.prog 50 #[.pointer (some ⟨b, 0, none⟩), .int .u32 (wI x)] w fun e w' => e = .returned (.tuple #[]) ∧ Owns w' b (s.step x).cs.toArray 59 ∧ Turns [b] w w' := by
  obtain ⟨a0, a1, a2, a3, a4, a5, a6, a7⟩ := s
  have HO : Hid (Owns w b (S8.cs ⟨a0, a1, a2, a3, a4, a5, a6, a7⟩).toArray 59) := h
  have c0 : w.cell? ⟨b, 0, none⟩ = some (.int .u32 (wI a0)) := (h.cell 0).trans rfl
  have c1 : w.cell? ⟨b, 1, none⟩ = some (.int .u32 (wI a1)) := (h.cell 1).trans rfl
  have c2 : w.cell? ⟨b, 2, none⟩ = some (.int .u32 (wI a2)) := (h.cell 2).trans rfl
  have c3 : w.cell? ⟨b, 3, none⟩ = some (.int .u32 (wI a3)) := (h.cell 3).trans rfl
  have c4 : w.cell? ⟨b, 4, none⟩ = some (.int .u32 (wI a4)) := (h.cell 4).trans rfl
  have c5 : w.cell? ⟨b, 5, none⟩ = some (.int .u32 (wI a5)) := (h.cell 5).trans rfl
  have c6 : w.cell? ⟨b, 6, none⟩ = some (.int .u32 (wI a6)) := (h.cell 6).trans rfl
  have c7 : w.cell? ⟨b, 7, none⟩ = some (.int .u32 (wI a7)) := (h.cell 7).trans rfl
  clear h
  have hsg : IntKind.u32.signed = false := rfl
  go_enter Tryd.func50, Tryd.ntmps50
  go_wp2_with fail
  go_quiet (fail)
  clear c0 c1 c2 c3 c4 c5 c6 c7
  go_wp2_with fail
  obtain ⟨W1, hW1⟩ : ∃ W, W = (w.drewN nq).alloc (.cells #[.int .i64 6, .int .i64 11, .int .i64 25] 3) := ⟨_, rfl⟩
  have hz1 : w.heap.size < W1.heap.size := by rw [hW1]; simp
  have hT1 : Turns [b] w W1 := by rw [hW1]; exact ⟨rfl, rfl, rfl, by simp, fun k h1 _ => Below.heap_alloc _ _ _ h1⟩
  have hbl : b < w.heap.size := HO.out.lt
  have hO1 : Owns W1 b (S8.cs ⟨a0, a1, a2, a3, a4, a5, a6, a7⟩).toArray 59 := by rw [hW1]; exact (Below.heap_alloc _ _ _ hbl).trans HO.out
  have hB1 : Owns W1 w.heap.size #[.int .i64 6, .int .i64 11, .int .i64 25] 3 := by rw [hW1]; exact Owns.made (w.drewN nq) _ _
  rw [← hW1]
  have HT1 : Hid (Turns [b] w W1) := hT1
  have HO1 : Hid (Owns W1 b (S8.cs ⟨a0, a1, a2, a3, a4, a5, a6, a7⟩).toArray 59) := hO1
  have HW1 : Hid _ := hW1
  clear hW1 hT1 hO1
  refine (turns_any a4 [6, 11, 25] w.heap.size 3 W1 (by simp) (by simp) (fun i hi => by
    simp only [List.length_cons, List.length_nil] at hi
    rw [hB1.cell]
    match i, hi with
    | 0, _ => rfl
    | 1, _ => rfl
    | 2, _ => rfl)).mono ?_
  rintro e w2 ⟨rfl, hb2⟩
  rw [turnsW_three]
  have HT2 : Hid (Turns [b] w w2) := HT1.out.trans (Turns.of_below hb2 (Nat.le_refl _))
  have HO2 : Hid (Owns w2 b (S8.cs ⟨a0, a1, a2, a3, a4, a5, a6, a7⟩).toArray 59) := HO1.out.below hb2 (by omega)
  clear hb2 hB1 HW1 HT1 HO1 hz1
  obtain ⟨t1, ht1⟩ : ∃ t, big1 a4 = t := ⟨_, rfl⟩
  have HT1 : Hid (big1 a4 = t1) := ht1
  change rotR a4 6 ^^^ rotR a4 11 ^^^ rotR a4 25 = t1 at ht1
  rw [ht1]
  clear ht1
  go_wp2_with fail
  simp only [wI_and, wI_not', wI_xor, wI_sum4, wI_sum3, wI_mod]
  obtain ⟨one, hone⟩ : ∃ t, a7 + t1 + (a4 &&& a5 ^^^ ~~~a4 &&& a6) + x = t := ⟨_, rfl⟩
  have HONE : Hid (a7 + t1 + chW a4 a5 a6 + x = one) := hone
  rw [hone]
  clear hone
  obtain ⟨W1, hW1⟩ : ∃ W, W = w2.alloc (.cells #[.int .i64 2, .int .i64 13, .int .i64 22] 3) := ⟨_, rfl⟩
  have hz1 : w2.heap.size < W1.heap.size := by rw [hW1]; simp
  have hbl2 : b < w2.heap.size := HO2.out.lt
  have hT3 : Turns [b] w W1 := by rw [hW1]; exact HT2.out.trans (Turns.of_below ((Below.refl _ _).alloc (Nat.le_refl _) _) (Nat.le_refl _))
  have hO3 : Owns W1 b (S8.cs ⟨a0, a1, a2, a3, a4, a5, a6, a7⟩).toArray 59 := by rw [hW1]; exact (Below.heap_alloc _ _ _ hbl2).trans HO2.out
  have hB1 : Owns W1 w2.heap.size #[.int .i64 2, .int .i64 13, .int .i64 22] 3 := by rw [hW1]; exact Owns.made w2 _ _
  rw [← hW1]
  have HT3 : Hid (Turns [b] w W1) := hT3
  have HO3 : Hid (Owns W1 b (S8.cs ⟨a0, a1, a2, a3, a4, a5, a6, a7⟩).toArray 59) := hO3
  clear hW1 hT3 hO3 HT2 HO2
  refine (turns_any a0 [2, 13, 22] w2.heap.size 3 W1 (by simp) (by simp) (fun i hi => by
    simp only [List.length_cons, List.length_nil] at hi
    rw [hB1.cell]
    match i, hi with
    | 0, _ => rfl
    | 1, _ => rfl
    | 2, _ => rfl)).mono ?_
  rintro e w4 ⟨rfl, hb4⟩
  rw [turnsW_three]
  have HT4 : Hid (Turns [b] w w4) := HT3.out.trans (Turns.of_below hb4 (Nat.le_refl _))
  have HO4 : Hid (Owns w4 b (S8.cs ⟨a0, a1, a2, a3, a4, a5, a6, a7⟩).toArray 59) := HO3.out.below hb4 (by omega)
  clear hb4 hB1 HT3 HO3 hz1
  obtain ⟨t2, ht2⟩ : ∃ t, big0 a0 = t := ⟨_, rfl⟩
  have HT2 : Hid (big0 a0 = t2) := ht2
  change rotR a0 2 ^^^ rotR a0 13 ^^^ rotR a0 22 = t2 at ht2
  rw [ht2]
  clear ht2
  have f0 := HO4.out.frozen 0
  have ff := fun o => HO4.out.frozen o
  have c0 : w4.cell? ⟨b, 0, none⟩ = some (.int .u32 (wI a0)) := (HO4.out.cell 0).trans rfl
  have c1 : w4.cell? ⟨b, 1, none⟩ = some (.int .u32 (wI a1)) := (HO4.out.cell 1).trans rfl
  have c2 : w4.cell? ⟨b, 2, none⟩ = some (.int .u32 (wI a2)) := (HO4.out.cell 2).trans rfl
  have c3 : w4.cell? ⟨b, 3, none⟩ = some (.int .u32 (wI a3)) := (HO4.out.cell 3).trans rfl
  have c4 : w4.cell? ⟨b, 4, none⟩ = some (.int .u32 (wI a4)) := (HO4.out.cell 4).trans rfl
  have c5 : w4.cell? ⟨b, 5, none⟩ = some (.int .u32 (wI a5)) := (HO4.out.cell 5).trans rfl
  have c6 : w4.cell? ⟨b, 6, none⟩ = some (.int .u32 (wI a6)) := (HO4.out.cell 6).trans rfl
  have c7 : w4.cell? ⟨b, 7, none⟩ = some (.int .u32 (wI a7)) := (HO4.out.cell 7).trans rfl
  go_wp2_with fail
  simp only [wI_and, wI_xor, wI_mod, wI_sumr]
  have HST : Hid (S8.step ⟨a0, a1, a2, a3, a4, a5, a6, a7⟩ x = ⟨one + (t2 + majW a0 a1 a2), a0, a1, a2, a3 + one, a4, a5, a6⟩) := by
    show _ = _
    unfold S8.step
    simp only [HT1.out, HT2.out, HONE.out]
  have HE : ∀ v0 v1 v2 v3 v4 v5 v6 v7 : Value, Owns ((((((((w4.setCell ⟨b, 0, none⟩ v0).setCell ⟨b, 1, none⟩ v1).setCell ⟨b, 2, none⟩ v2).setCell ⟨b, 3, none⟩ v3).setCell ⟨b, 4, none⟩ v4).setCell ⟨b, 5, none⟩ v5).setCell ⟨b, 6, none⟩ v6).setCell ⟨b, 7, none⟩ v7) b #[v0, v1, v2, v3, v4, v5, v6, v7] 59 := fun v0 v1 v2 v3 v4 v5 v6 v7 => owns8 HO4.out v0 v1 v2 v3 v4 v5 v6 v7
  have HF : ∀ v0 v1 v2 v3 v4 v5 v6 v7 : Value, Turns [b] w ((((((((w4.setCell ⟨b, 0, none⟩ v0).setCell ⟨b, 1, none⟩ v1).setCell ⟨b, 2, none⟩ v2).setCell ⟨b, 3, none⟩ v3).setCell ⟨b, 4, none⟩ v4).setCell ⟨b, 5, none⟩ v5).setCell ⟨b, 6, none⟩ v6).setCell ⟨b, 7, none⟩ v7) := fun v0 v1 v2 v3 v4 v5 v6 v7 => turns8 HT4.out v0 v1 v2 v3 v4 v5 v6 v7
  clear c0 c1 c2 c3 c4 c5 c6 c7 ff f0
  go_end0
  refine ⟨rfl, ?_, HF _ _ _ _ _ _ _ _⟩
  rw [HST.out]
  exact HE _ _ _ _ _ _ _ _

end Go.Proofs.YtkogdlncjciboaaDoor
