
/-
  DERIVED. THE FIGURES OF A BYTE, and the walk of impl.writeFigures.
-/
import Derived.Test.YtkogdlncjciboaaDoorJpA
namespace Go.Proofs.YtkogdlncjciboaaDoor
open Go.RowKit
set_option linter.unusedVariables false
set_option linter.unusedSimpArgs false

/-- The figures of a byte. -/
def figs : ByteArray := ⟨#[48, 49, 50, 51, 52, 53, 54, 55, 56, 57, 97, 98, 99, 100, 101, 102]⟩
def hexU (n : Nat) : UInt8 := figs.data.getD n 0
theorem hex_at (n : Nat) (h : n < figs.size) : ((figs[n]'h).toNat : Int) = ((hexU n).toNat : Int) := by
  have h' : n < figs.data.size := h
  have : figs[n]'h = hexU n := by
    show figs.data[n]'h' = figs.data.getD n 0
    unfold Array.getD
    rw [dif_pos h']
    rfl
  rw [this]

set_option maxHeartbeats 1000000 in
set_option maxRecDepth 100000 in
theorem writeFigures_any (B b : Nat) (l : List UInt8) (c : UInt8) (w : World) (h : Bld B b l w) (hlen : l.length + 2 ≤ 140737488351232) :
    Calls Tryd.prog 42 #[.pointer (some ⟨b, 0, none⟩), .int .u8 c.toNat] w fun e w' => e = .returned (.tuple #[]) ∧ Bld B b (l ++ [hexU (c.toNat / 16), hexU (c.toNat % 16)]) w' ∧ Fra B b w w' := by
  have H : Hid (Bld B b l w) := h
  have hc8 : (c.toNat : Int) < 256 := by have := c.toNat_lt; omega
  have h16 : c.toNat / 16 < 16 := by have := c.toNat_lt; omega
  have h15 : c.toNat % 16 < 16 := Nat.mod_lt _ (by omega)
  clear h
  go_enter Tryd.func42, Tryd.ntmps42
  go_wp2_with fail
  refine (bld_byte B b _ (hexU (c.toNat / 16)) _ (hex_at _ h16) w H.out (by omega)).mono ?_
  rintro e w3 ⟨rfl, h3, hf3⟩
  have HB3 : Hid (Bld B b (l ++ [hexU (c.toNat / 16)]) w3) := h3
  have HF3 : Hid (Fra B b w w3) := hf3
  clear h3 hf3
  go_wp2_with fail
  refine (bld_byte B b _ (hexU (c.toNat % 16)) _ (hex_at _ h15) w3 HB3.out (by simp only [List.length_append, List.length_cons, List.length_nil]; omega)).mono ?_
  rintro e w4 ⟨rfl, h4, hf4⟩
  have HB4 : Hid (Bld B b (l ++ [hexU (c.toNat / 16), hexU (c.toNat % 16)]) w4) := by
    show Bld _ _ _ _
    simpa using h4
  have HF4 : Hid (Fra B b w w4) := HF3.out.trans hf4
  clear h4 hf4
  go_wp2_with fail
  go_end0
  exact ⟨rfl, HB4.out, HF4.out⟩

end Go.Proofs.YtkogdlncjciboaaDoor
