
/-
  DERIVED. WORDS OF 32 BITS AS THE MACHINE's NUMBERS: no walk.
-/
import Derived.Test.YtkogdlncjciboaaDoorShP
import Derived.Laws.BitsAllLaws
namespace Go.Proofs.YtkogdlncjciboaaDoor
open Go Go.RowKit
set_option linter.unusedVariables false
set_option linter.unusedSimpArgs false

/-- A word as a number. -/
def wI (x : W32) : Int := (x.toNat : Int)
theorem wI_lo (x : W32) : 0 ≤ wI x := by unfold wI; omega
theorem wI_hi (x : W32) : wI x < 4294967296 := by unfold wI; have := x.isLt; omega
theorem wI_xor (x y : W32) : bits .xor .u32 (wI x) (wI y) = wI (x ^^^ y) := by
  unfold wI
  rw [u32_xor_nat _ _ (by have := x.isLt; omega) (by have := y.isLt; omega), BitVec.toNat_xor]
theorem wI_and (x y : W32) : bits .and .u32 (wI x) (wI y) = wI (x &&& y) := by
  unfold wI
  rw [u32_and_nat _ _ (by have := x.isLt; omega) (by have := y.isLt; omega), BitVec.toNat_and]
theorem wI_or (x y : W32) : bits .or .u32 (wI x) (wI y) = wI (x ||| y) := by
  unfold wI
  rw [u32_or_nat _ _ (by have := x.isLt; omega) (by have := y.isLt; omega), BitVec.toNat_or]
theorem wI_not (x : W32) : bits .xor .u32 4294967295 (wI x) = wI (~~~x) := by
  have h : (4294967295 : Int) = wI (BitVec.allOnes 32) := by decide
  rw [h, wI_xor, BitVec.allOnes_xor]
theorem wI_mod (x y : W32) : (wI x + wI y) % 4294967296 = wI (x + y) := by
  unfold wI
  rw [BitVec.toNat_add]
  omega
theorem wI_add (x y : W32) : IntKind.u32.wrap (wI x + wI y) = wI (x + y) := by rw [IntKind.wrap_u32', wI_mod]
theorem wI_not' (x : W32) : bits .xor .u32 IntKind.u32.max (wI x) = wI (~~~x) := wI_not x
theorem wI_sum3 (x y z : W32) : (wI x + wI y + wI z) % 4294967296 = wI (x + y + z) := by
  unfold wI
  rw [BitVec.toNat_add, BitVec.toNat_add]
  omega
theorem wI_sumr (x y z : W32) : (wI x + (wI y + wI z)) % 4294967296 = wI (x + (y + z)) := by
  unfold wI
  rw [BitVec.toNat_add, BitVec.toNat_add]
  omega
theorem wI_sum4 (x y z u : W32) : (wI x + wI y + wI z + wI u) % 4294967296 = wI (x + y + z + u) := by
  unfold wI
  rw [BitVec.toNat_add, BitVec.toNat_add, BitVec.toNat_add]
  omega
theorem wI_sum5 (x y z u v : W32) : (wI x + wI y + wI z + wI u + wI v) % 4294967296 = wI (x + y + z + u + v) := by
  unfold wI
  rw [BitVec.toNat_add, BitVec.toNat_add, BitVec.toNat_add, BitVec.toNat_add]
  omega
theorem wI_shr (x : W32) (n : Nat) : wI x / ((2 ^ n : Nat) : Int) = wI (x >>> n) := by
  unfold wI
  rw [BitVec.toNat_ushiftRight, Nat.shiftRight_eq_div_pow]
  omega
theorem wI_shl (x : W32) (n : Nat) : (wI x * ((2 ^ n : Nat) : Int)) % 4294967296 = wI (x <<< n) := by
  unfold wI
  rw [BitVec.toNat_shiftLeft, Nat.shiftLeft_eq]
  omega
theorem wI_shr' (x : W32) (n : Nat) : wI x / (2 : Int) ^ n = wI (x >>> n) := by
  rw [← wI_shr, Int.natCast_pow]
  rfl
theorem wI_shl' (x : W32) (n : Nat) : wI x * (2 : Int) ^ n % 4294967296 = wI (x <<< n) := by
  rw [← wI_shl, Int.natCast_pow]
  rfl
theorem wI_bW (b : UInt8) : ((b.toNat : Nat) : Int) = wI (bW b) := by
  unfold wI bW
  rw [BitVec.toNat_setWidth]
  have := b.toNat_lt
  show ((b.toNat : Nat) : Int) = ((b.toNat % 2 ^ 32 : Nat) : Int)
  rw [Nat.mod_eq_of_lt (by omega)]
theorem wI_sh3 (x : W32) : wI x / (8 : Int) = wI (x >>> 3) := wI_shr x 3
theorem wI_sh10 (x : W32) : wI x / (1024 : Int) = wI (x >>> 10) := wI_shr x 10
theorem wI_or8 (x : W32) (c : UInt8) : bits .or .u32 (wI x * 256 % 4294967296) ((c.toNat : Nat) : Int) = wI (x <<< 8 ||| bW c) := by
  rw [wI_bW, show (256 : Int) = ((2 ^ 8 : Nat) : Int) by rfl, wI_shl, wI_or]
/-- A word's last byte. -/
theorem wI_byte (x : W32) : wI x % 256 = (((UInt8.ofBitVec (x.setWidth 8)).toNat : Nat) : Int) := by
  unfold wI
  show _ = ((((x.setWidth 8).toNat : Nat)) : Int)
  rw [BitVec.toNat_setWidth]
  omega

end Go.Proofs.YtkogdlncjciboaaDoor
