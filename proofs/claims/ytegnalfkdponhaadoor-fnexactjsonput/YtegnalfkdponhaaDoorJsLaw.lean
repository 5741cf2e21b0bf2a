
/-
  DERIVED. laws.FnExactJsonPut: its walk out of the contracts.
-/
import Derived.Test.YtegnalfkdponhaaDoorVlSz
import Derived.Test.YtegnalfkdponhaaDoorVlTo
import Derived.Test.YtegnalfkdponhaaDoorVlEq
import Derived.Test.YtegnalfkdponhaaDoorJsC
namespace Go.Proofs.YtegnalfkdponhaaDoor
open Go.RowKit
set_option linter.unusedVariables false
set_option linter.unusedSimpArgs false

theorem beq_refl_js (s : ByteArray) : (s.toList == s.toList) = true := by simp

set_option maxHeartbeats 2000000 in
set_option maxRecDepth 100000 in
theorem law_walk (k : Nat) (t : Vl) (vl vn : Value) (w : World) (ht : VlR w 0 k t [.int .i64 t.kind, .int .i64 t.num, .string t.text, vl, vn]) (htab : Tab w) :
    Calls Tryd.prog 3 #[.agg #[.int .i64 t.kind, .int .i64 t.num, .string t.text, vl, vn]] w fun e w' => e = .returned (.bool true) ∧ Below w.heap.size w w' := by
  obtain ⟨a, cap, a', cap', hv⟩ := ht.cells
  simp only [List.cons.injEq, true_and, and_true] at hv
  obtain ⟨rfl, rfl⟩ := hv
  have HR : Hid (∀ W, Keeps 0 w W → VlR W 0 k t [.int .i64 t.kind, .int .i64 t.num, .string t.text, .slice a t.list.length cap, .slice a' t.names.length cap']) := fun W h => VlR.keeps h k _ _ ht
  have HTAB : Hid (Tab w) := htab
  clear ht htab
  go_enter Tryd.func3, Tryd.ntmps3
  go_wp2_with fail
  refine ((szV_all k).1 t _ _ _ _ (HR.out _ ((Keeps.refl _ _).alloc _)) (by omega) (by omega)).mono ?_
  rintro e w1 ⟨r1, rfl, hr1, hr2, hb1⟩
  have HB1 : Hid (Below w.heap.size w w1) := ((Below.refl _ _).alloc (Nat.le_refl _) _).trans (hb1.mono (by simp))
  have hbox1 : ∀ o, w1.cell? ⟨w.heap.size, o, none⟩ = #[Value.int .i64 t.kind, .int .i64 t.num, .string t.text, .slice a t.list.length cap, .slice a' t.names.length cap'][o]? := fun o => by
    rw [hb1.cell (p := ⟨w.heap.size, o, none⟩) (by simp)]; exact (Owns.made w _ _).cell o
  clear hb1
  by_cases hneg : r1 < 0
  · go_wp2_with fail
    go_ret
    exact ⟨rfl, HB1.out⟩
  · have b0 := hbox1 0
    have b1 := hbox1 1
    have b2 := hbox1 2
    have b3 := hbox1 3
    have b4 := hbox1 4
    simp at b0 b1 b2 b3 b4
    go_wp2_with fail
    refine ((toV_all k).1 t _ _ _ (HR.out _ (Keeps.of_below HB1.out (Nat.le_refl _) _))).mono ?_
    rintro e w2 ⟨vl2, vn2, rfl, hR2, hb2⟩
    have HB2 : Hid (Below w.heap.size w w2) := HB1.out.trans (hb2.mono HB1.out.size)
    replace b0 := cell_on hb2 b0
    replace b1 := cell_on hb2 b1
    replace b2 := cell_on hb2 b2
    replace b3 := cell_on hb2 b3
    replace b4 := cell_on hb2 b4
    clear hbox1 HB1 hb2
    have HR2 : Hid (VlR w2 0 k t [.int .i64 t.kind, .int .i64 t.num, .string t.text, vl2, vn2]) := VlR.base (Nat.zero_le _) k _ _ hR2
    clear hR2
    go_wp2_with fail
    refine (specJsonPut_any k t _ _ _ HR2.out).mono ?_
    rintro e w3 ⟨rfl, hb3⟩
    obtain ⟨js, hjs⟩ : ∃ js : ByteArray, (⟨(jsonL t).toArray⟩ : ByteArray) = js := ⟨_, rfl⟩
    rw [hjs]
    have HJS : Hid ((⟨(jsonL t).toArray⟩ : ByteArray) = js) := hjs
    have hjb := beq_refl_js js
    clear hjs
    have HB3 : Hid (Below w.heap.size w w3) := HB2.out.trans (hb3.mono HB2.out.size)
    replace b0 := cell_on hb3 b0
    replace b1 := cell_on hb3 b1
    replace b2 := cell_on hb3 b2
    replace b3 := cell_on hb3 b3
    replace b4 := cell_on hb3 b4
    clear HB2 hb3 HR2
    go_wp2_with fail
    refine ((toV_all k).1 t _ _ _ (HR.out _ (Keeps.of_below HB3.out (Nat.le_refl _) _))).mono ?_
    rintro e w4 ⟨vl4, vn4, rfl, hR4, hb4⟩
    obtain ⟨a4, c4, a4', c4', hv4⟩ := hR4.cells
    simp only [List.cons.injEq, true_and, and_true] at hv4
    obtain ⟨rfl, rfl⟩ := hv4
    have HB4 : Hid (Below w.heap.size w w4) := HB3.out.trans (hb4.mono HB3.out.size)
    replace b0 := cell_on hb4 b0
    replace b1 := cell_on hb4 b1
    replace b2 := cell_on hb4 b2
    replace b3 := cell_on hb4 b3
    replace b4 := cell_on hb4 b4
    have HR4 : Hid (∀ W, Keeps 0 w4 W → VlR W 0 k t [.int .i64 t.kind, .int .i64 t.num, .string t.text, .slice a4 t.list.length c4, .slice a4' t.names.length c4']) := fun W h => VlR.keeps h k _ _ (VlR.base (Nat.zero_le _) k _ _ hR4)
    clear HB3 hb4 hR4
    go_wp2_with fail
    refine (implJsonPut_any k t _ _ _ (HR4.out _ ((Keeps.refl _ _).alloc _)) (HTAB.out.on (HB4.out.alloc HB4.out.size _))).mono ?_
    rintro e w5 ⟨rfl, hb5⟩
    rw [HJS.out]
    have HB5 : Hid (Below w.heap.size w w5) := (HB4.out.alloc HB4.out.size _).trans (hb5.mono (by have := HB4.out.size; simp; omega))
    have HK5 : Hid (Keeps 0 w4 w5) := ((Keeps.refl _ _).alloc _).trans (Keeps.of_below hb5 (Nat.le_refl _) _)
    replace b0 := cell_on hb5 ((World.cell?_alloc_lt _ _ _ (cell_lt b0)).trans b0)
    replace b1 := cell_on hb5 ((World.cell?_alloc_lt _ _ _ (cell_lt b1)).trans b1)
    replace b2 := cell_on hb5 ((World.cell?_alloc_lt _ _ _ (cell_lt b2)).trans b2)
    replace b3 := cell_on hb5 ((World.cell?_alloc_lt _ _ _ (cell_lt b3)).trans b3)
    replace b4 := cell_on hb5 ((World.cell?_alloc_lt _ _ _ (cell_lt b4)).trans b4)
    have x0 := cell_on hb5 (p := ⟨w4.heap.size, 0, none⟩) (by simp; rfl)
    have x1 := cell_on hb5 (p := ⟨w4.heap.size, 1, none⟩) (by simp; rfl)
    have x2 := cell_on hb5 (p := ⟨w4.heap.size, 2, none⟩) (by simp; rfl)
    have x3 := cell_on hb5 (p := ⟨w4.heap.size, 3, none⟩) (by simp; rfl)
    have x4 := cell_on hb5 (p := ⟨w4.heap.size, 4, none⟩) (by simp; rfl)
    clear hb5
    go_wp2_with fail
    go_region_with (first | (go_at_call 8; refine ((toV_all k).1 t _ _ _ (HR.out _ (Keeps.of_below HB5.out (Nat.le_refl _) _).drew)).mono ?_; rintro e w6 ⟨vl6, vn6, rfl, hR6, hb6⟩; have y0 := cell_on (W := w5.drew) hb6 x0; have y1 := cell_on (W := w5.drew) hb6 x1; have y2 := cell_on (W := w5.drew) hb6 x2; have y3 := cell_on (W := w5.drew) hb6 x3; have y4 := cell_on (W := w5.drew) hb6 x4; have HR6 : Hid _ := hR6; have HB6 : Hid _ := hb6; clear hR6 hb6) | (go_at_call 10; refine ((eqV_all k).1 t _ _ _ _ _ (HR4.out _ (HK5.out.drew.trans (Keeps.of_below HB6.out (Nat.le_refl _) _))) (VlR.base (Nat.zero_le _) k _ _ HR6.out)).mono ?_; rintro e w7 ⟨rfl, hb7⟩; have HB7 : Hid _ := hb7; clear hb7))
    all_goals
      go_wp2_with fail
      go_ret
      exact ⟨rfl, (HB5.out.drew.trans (HB6.out.mono HB5.out.size)).trans (HB7.out.mono (Nat.le_trans HB5.out.size HB6.out.size))⟩

end Go.Proofs.YtegnalfkdponhaaDoor
