
/-
  DERIVED. THE OTHER SIDE's SUM: the walk of spec.DocSum.
-/
import Derived.Test.YtkogdlncjciboaaDoorSiF
namespace Go.Proofs.YtkogdlncjciboaaDoor
open Go.RowKit
set_option linter.unusedVariables false
set_option linter.unusedSimpArgs false

theorem hexB_hexU (l : List UInt8) : l.flatMap (fun c => [hexU (c.toNat / 16), hexU (c.toNat % 16)]) = hexB l := by
  induction l with
  | nil => rfl
  | cons c l ih =>
    have h1 := fig_hex (c.toNat / 16) (by have := c.toNat_lt; omega)
    have h2 := fig_hex (c.toNat % 16) (Nat.mod_lt _ (by omega))
    have e : hexB (c :: l) = [figB (c.toNat / 16), figB (c.toNat % 16)] ++ hexB l := rfl
    rw [List.flatMap_cons, ih, e, h1, h2]

set_option maxHeartbeats 1000000 in
theorem specDocSum_any (t : ByteArray) (w : World) (ht : t.size ≤ 67108864) :
    Calls Tryd.prog 7 #[.string t] w fun e w' => e = .returned (.string (docSum t)) ∧ Below w.heap.size w w' := by
  go_enter Tryd.func7, Tryd.ntmps7
  go_wp2_with fail
  refine (l11Sum_any t w ht).mono ?_
  rintro e w1 ⟨rfl, hb1⟩
  have HB1 : Hid (Below w.heap.size w w1) := hb1
  have hz : (txB (sumB t.data.toList)).size ≤ 1000 := by
    show (sumB t.data.toList).toArray.size ≤ 1000
    rw [List.size_toArray, sumB_length]
    omega
  have HF := l11Figures_any (txB (sumB t.data.toList)) w1 hz
  obtain ⟨u0, hu0⟩ : ∃ u0, txB (sumB t.data.toList) = u0 := ⟨_, rfl⟩
  have HU : Hid (u0.data.toList = sumB t.data.toList) := by show _ = _; rw [← hu0]; rfl
  rw [hu0] at HF
  rw [hu0]
  clear hb1 hz hu0
  go_wp2_with fail
  refine HF.mono ?_
  rintro e w2 ⟨u, rfl, hu, hb2⟩
  rw [HU.out, hexB_hexU] at hu
  have HB2 : Hid (Below w.heap.size w w2) := HB1.out.trans (hb2.mono HB1.out.size)
  have hus : u.size = 64 := by
    have h1 : u.data.toList.length = 64 := by rw [hu, hexB_length, sumB_length]
    rw [Array.length_toList] at h1
    exact h1
  have hex : u.extract 0 16 = docSum t := by
    apply txB_of
    rw [Lib.extract_data]
    simp [hu, sumT]
  have hus2 : (16 : Int) ≤ (u.size : Int) := by omega
  have HX : Hid (u.extract 0 16 = docSum t) := hex
  clear hu hb2 HB1 HF HU hex
  go_wp2_with fail
  go_ret
  exact ⟨by first | exact congrArg _ (congrArg _ HX.out) | (rw [HX.out]; rfl), HB2.out⟩

end Go.Proofs.YtkogdlncjciboaaDoor
