
/-
  DERIVED. THE WALK OF spec.JsonPut.
-/
import Derived.Test.YtegnalfkdponhaaDoorJsB
import Derived.Test.YtegnalfkdponhaaDoorJpF
import Derived.Test.YtegnalfkdponhaaDoorVlOkC
namespace Go.Proofs.YtegnalfkdponhaaDoor
open Go.RowKit
set_option linter.unusedVariables false
set_option linter.unusedSimpArgs false

theorem put_all : ∀ d : Nat, d ≤ 6 → PtC d
  | 0, _ => fun _ _ _ _ _ _ h => by simp [okB] at h
  | d + 1, h => l1Put_step d (by omega) (put_all d (by omega))

set_option maxHeartbeats 1000000 in
theorem specJsonPut_any (k : Nat) (t : Vl) (vl vn : Value) (w : World) (hv : VlR w 0 k t [.int .i64 t.kind, .int .i64 t.num, .string t.text, vl, vn]) :
    Calls Tryd.prog 7 #[.agg #[.int .i64 t.kind, .int .i64 t.num, .string t.text, vl, vn]] w fun e w' => e = .returned (.string ⟨(jsonL t).toArray⟩) ∧ Below w.heap.size w w' := by
  obtain ⟨a, c, a', c', he⟩ := hv.cells
  simp only [List.cons.injEq, true_and, and_true] at he
  obtain ⟨rfl, rfl⟩ := he
  have HR : Hid (∀ W, Keeps 0 w W → VlR W 0 k t [.int .i64 t.kind, .int .i64 t.num, .string t.text, .slice a t.list.length c, .slice a' t.names.length c']) := fun W h => VlR.keeps h _ _ _ hv
  clear hv
  go_enter Tryd.func7, Tryd.ntmps7
  go_wp2_with fail
  obtain ⟨W0, hW0⟩ : ∃ W, W = w.alloc (Obj.cells #[.int .i64 t.kind, .int .i64 t.num, .string t.text, .slice a t.list.length c, .slice a' t.names.length c'] 30) := ⟨_, rfl⟩
  rw [← hW0]
  have HB0 : Hid (Below w.heap.size w W0) := by rw [hW0]; exact (Below.refl _ _).alloc (Nat.le_refl _) _
  have HO : Hid (Owns W0 w.heap.size #[.int .i64 t.kind, .int .i64 t.num, .string t.text, .slice a t.list.length c, .slice a' t.names.length c'] 30) := by rw [hW0]; exact Owns.made _ _ _
  clear hW0
  refine (specValueOk_any k t _ _ W0 (HR.out _ (Keeps.of_below HB0.out (Nat.le_refl _) 0))).mono ?_
  rintro e w1 ⟨rfl, hb1⟩
  have HB1 : Hid (Below w.heap.size w w1) := HB0.out.trans (hb1.mono HB0.out.size)
  have HO1 : Hid (Owns w1 w.heap.size #[.int .i64 t.kind, .int .i64 t.num, .string t.text, .slice a t.list.length c, .slice a' t.names.length c'] 30) := HO.out.below hb1 HO.out.lt
  clear hb1
  cases ho : okB false 6 t
  · have HJ : Hid (jsonL t = []) := by show jsonL t = _; unfold jsonL; rw [ho]; rfl
    clear ho
    go_wp2_with fail
    go_ret
    exact ⟨by rw [HJ.out]; rfl, HB1.out⟩
  · have HJ : Hid (jsonL t = putL 6 t) := by show jsonL t = _; unfold jsonL; rw [ho]; rfl
    have x0 : w1.cell? ⟨w.heap.size, 0, none⟩ = some (.int .i64 t.kind) := by rw [HO1.out.cell]; rfl
    have x1 : w1.cell? ⟨w.heap.size, 1, none⟩ = some (.int .i64 t.num) := by rw [HO1.out.cell]; rfl
    have x2 : w1.cell? ⟨w.heap.size, 2, none⟩ = some (.string t.text) := by rw [HO1.out.cell]; rfl
    have x3 : w1.cell? ⟨w.heap.size, 3, none⟩ = some (.slice a t.list.length c) := by rw [HO1.out.cell]; rfl
    have x4 : w1.cell? ⟨w.heap.size, 4, none⟩ = some (.slice a' t.names.length c') := by rw [HO1.out.cell]; rfl
    have HC : Hid (Calls Tryd.prog 19 #[.agg #[.int .i64 t.kind, .int .i64 t.num, .string t.text, .slice a t.list.length c, .slice a' t.names.length c']] w1 fun e w' => e = .returned (.string (mkB (putL 6 t))) ∧ Below w1.heap.size w1 w') := put_all 6 (Nat.le_refl _) k t _ _ w1 (HR.out _ (Keeps.of_below HB1.out (Nat.le_refl _) 0)) ho
    clear ho
    go_wp2_with fail
    refine (Hid.out HC).mono ?_
    rintro e w2 ⟨rfl, hb2⟩
    have HB2 : Hid (Below w.heap.size w w2) := HB1.out.trans (hb2.mono HB1.out.size)
    clear hb2
    go_wp2_with fail
    go_ret
    exact ⟨by rw [HJ.out]; rfl, HB2.out⟩

end Go.Proofs.YtegnalfkdponhaaDoor
