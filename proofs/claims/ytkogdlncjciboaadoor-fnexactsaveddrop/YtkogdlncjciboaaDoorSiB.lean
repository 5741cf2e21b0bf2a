
/-
  DERIVED. THE OTHER SIDE's SUM: the walk of spec.l11Consts; rows of words of one's own.
-/
import Derived.Test.YtkogdlncjciboaaDoorSiA
import Derived.BigRegion
import Derived.Deep.RegionHeld3
import Derived.Test.YtkogdlncjciboaaDoorShC
namespace Go.Proofs.YtkogdlncjciboaaDoor
open Go.RowKit
set_option linter.unusedVariables false
set_option linter.unusedSimpArgs false

/-- The cells of words. -/
def wCells (l : List W32) : List Value := l.map fun x => .int .u32 (wI x)
theorem wCells_length (l : List W32) : (wCells l).length = l.length := by simp [wCells]
theorem wCells_at (l : List W32) (i : Nat) (h : i < l.length) : (wCells l)[i]? = some (.int .u32 (wI (wAt l i))) := by
  simp [wCells, wAt, List.getD_eq_getElem?_getD, h]

set_option maxHeartbeats 2000000 in
set_option maxRecDepth 100000 in
theorem l11Consts_any (w : World) : Calls Tryd.prog 47 #[] w fun e w' => e = .returned (.slice (some ⟨w.heap.size, 0, none⟩) 64 64) ∧ Owns w' w.heap.size (wCells kTab).toArray 53 ∧ Below w.heap.size w w' := by
  go_enter Tryd.func47, Tryd.ntmps47
  go_wp2_with fail
  go_ret
  refine ⟨rfl, ?_, (Below.refl _ _).alloc (Nat.le_refl _) _⟩
  exact Owns.made w _ _

theorem info_u32' : ∃ i, Tryd.prog.info? 53 = some i ∧ i.zero = some (.int .u32 0) ∧ i.size = 1 ∧ i.bytes = 4 := by
  have h : (Tryd.prog.info? 53).map (fun i => (i.zero, i.size, i.bytes)) = some (some (.int .u32 0), 1, 4) := by kernel_rfl
  obtain ⟨i, h1, h2⟩ := Option.map_eq_some_iff.1 h
  simp only [Prod.mk.injEq] at h2
  exact ⟨i, h1, h2.1, h2.2.1, h2.2.2⟩
/-- A row of words of one's own. -/
def RowW (B : Nat) (w : World) (g cap : Nat) (l : List W32) : Prop := w.ownsRow B 53 1 (.slice (some ⟨g, 0, none⟩) l.length cap) l.length (wCells l)
theorem RowW.at {B g cap : Nat} {w : World} {l : List W32} (h : RowW B w g cap l) {i : Nat} (hi : i < l.length) : w.cell? ⟨g, i, none⟩ = some (.int .u32 (wI (wAt l i))) := by
  have := World.ownsRow.cells h rfl i _ (wCells_at l i hi)
  simpa [Addr.add_mid] using this
/-- Bytes in memory. -/
def BytesAt (w : World) (bb off : Nat) (l : List UInt8) : Prop := ∀ (i : Nat), i < l.length → w.cell? ⟨bb, off + i, none⟩ = some (.int .u8 ((bAt l i).toNat : Int))

theorem wrap_byte (c : UInt8) : IntKind.u32.wrap (c.toNat : Int) = wI (bW c) := by
  rw [IntKind.wrap_u32', ← wI_bW]
  have := c.toNat_lt
  omega
theorem w4_raw (a b c d : UInt8) : bits .or .u32 (bits .or .u32 (bits .or .u32 (IntKind.u32.wrap (IntKind.u32.wrap (a.toNat : Int) * 16777216)) (IntKind.u32.wrap (IntKind.u32.wrap (b.toNat : Int) * 65536))) (IntKind.u32.wrap (IntKind.u32.wrap (c.toNat : Int) * 256))) (IntKind.u32.wrap (d.toNat : Int)) = wI (w4 a b c d) := by
  have e : ∀ (x : W32) (k : Nat), IntKind.u32.wrap (wI x * ((2 ^ k : Nat) : Int)) = wI (x <<< k) := fun x k => by rw [IntKind.wrap_u32', wI_shl]
  rw [wrap_byte, wrap_byte, wrap_byte, wrap_byte, show (16777216 : Int) = ((2 ^ 24 : Nat) : Int) by rfl, show (65536 : Int) = ((2 ^ 16 : Nat) : Int) by rfl, show (256 : Int) = ((2 ^ 8 : Nat) : Int) by rfl, e, e, e, wI_or, wI_or, wI_or]
  rfl
theorem RowW.grown {B n g' cap2 : Nat} {w2 : World} {l : List W32} {x : W32} {v : Int} (hl : l.length = n) (hv : v = wI x) (h : w2.ownsRow B 53 1 (.slice (some ⟨g', 0, none⟩) (n + 1) cap2) (n + 1) (wCells l ++ [.int .u32 v])) : RowW B w2 g' cap2 (l ++ [x]) := by
  subst hl
  subst hv
  show World.ownsRow _ _ _ _ _ _ _
  rw [List.length_append, show wCells (l ++ [x]) = wCells l ++ [.int .u32 (wI x)] by simp [wCells]]
  exact h
theorem below_grown {w wr w2 : World} {o : Obj} {B : Nat} {row : Option Nat} (hb : Below B w wr) (hB : B ≤ w.heap.size) (hgrow : (wr.alloc o).grownBy w2 row) (hrow : ∀ k, row = some k → B ≤ k) : Below B w w2 := by
  refine ⟨hgrow.os.trans hb.os, hgrow.tape.trans hb.tape, hgrow.output.trans hb.output, by have := hgrow.size; have := hb.size; simp at *; omega, fun k hk => ?_⟩
  have hs := hb.size
  rw [hgrow.block k (by simp; omega) (fun he => by have := hrow k he.symm; omega)]
  exact (Below.heap_alloc _ _ _ (by omega)).trans (hb.block k hk)

end Go.Proofs.YtkogdlncjciboaaDoor
