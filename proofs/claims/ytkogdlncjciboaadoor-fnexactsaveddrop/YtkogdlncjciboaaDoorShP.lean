
/-
  DERIVED. SUMS OF TEXTS, AS THE STANDARD SAYS, OVER LISTS OF BYTES AND WORDS OF 32 BITS: no walk.
-/
import Derived.Test.YtkogdlncjciboaaDoorPlainA
namespace Go.Proofs.YtkogdlncjciboaaDoor
set_option linter.unusedVariables false
set_option linter.unusedSimpArgs false

/-! ### Words -/
abbrev W32 := BitVec 32
/-- A word turned to the right. -/
def rotR (x : W32) (n : Nat) : W32 := x >>> n ||| x <<< (32 - n)
theorem rotR_comm (x : W32) (n : Nat) : x <<< (32 - n) ||| x >>> n = rotR x n := BitVec.or_comm _ _
def sig0 (x : W32) : W32 := rotR x 7 ^^^ rotR x 18 ^^^ x >>> 3
def sig1 (x : W32) : W32 := rotR x 17 ^^^ rotR x 19 ^^^ x >>> 10
def big0 (x : W32) : W32 := rotR x 2 ^^^ rotR x 13 ^^^ rotR x 22
def big1 (x : W32) : W32 := rotR x 6 ^^^ rotR x 11 ^^^ rotR x 25
def chW (e f g : W32) : W32 := (e &&& f) ^^^ (~~~e &&& g)
def majW (a b c : W32) : W32 := (a &&& b) ^^^ (a &&& c) ^^^ (b &&& c)

/-- A byte as a word. -/
def bW (b : UInt8) : W32 := b.toBitVec.setWidth 32
/-- Four bytes as a word. -/
def w4 (a b c d : UInt8) : W32 := bW a <<< 24 ||| bW b <<< 16 ||| bW c <<< 8 ||| bW d
theorem w4_steps (a b c d : UInt8) : ((((0#32 <<< 8 ||| bW a) <<< 8 ||| bW b) <<< 8 ||| bW c) <<< 8 ||| bW d) = w4 a b c d := by
  simp only [BitVec.shiftLeft_or_distrib, ← BitVec.shiftLeft_add, w4]
  simp [BitVec.or_assoc]

/-- Of a list of words, the nought past its end. -/
def wAt (l : List W32) (i : Nat) : W32 := l.getD i 0#32
def bAt (l : List UInt8) (i : Nat) : UInt8 := l.getD i 0
/-- The first n words of a block. -/
def wordsTo (blk : List UInt8) : Nat → List W32
  | 0 => []
  | n + 1 => wordsTo blk n ++ [if n < 16 then w4 (bAt blk (4 * n)) (bAt blk (4 * n + 1)) (bAt blk (4 * n + 2)) (bAt blk (4 * n + 3))
      else wAt (wordsTo blk n) (n - 16) + sig0 (wAt (wordsTo blk n) (n - 15)) + wAt (wordsTo blk n) (n - 7) + sig1 (wAt (wordsTo blk n) (n - 2))]
theorem wordsTo_length (blk : List UInt8) : ∀ n, (wordsTo blk n).length = n
  | 0 => rfl
  | n + 1 => by simp [wordsTo, wordsTo_length blk n]
theorem wordsTo_at (blk : List UInt8) : ∀ (m n i : Nat), i < n → n ≤ m → wAt (wordsTo blk m) i = wAt (wordsTo blk n) i
  | 0, n, i, h1, h2 => by omega
  | m + 1, n, i, h1, h2 => by
    rcases Nat.lt_or_ge m n with h | h
    · obtain rfl : n = m + 1 := by omega
      rfl
    · rw [← wordsTo_at blk m n i h1 h]
      have := wordsTo_length blk m
      simp only [wordsTo, wAt, List.getD_eq_getElem?_getD]
      rw [List.getElem?_append_left (by omega)]

/-! ### The state -/
structure S8 where
  (a b c d e f g h : W32)
def S8.l (s : S8) : List W32 := [s.a, s.b, s.c, s.d, s.e, s.f, s.g, s.h]
def S8.plus (s t : S8) : S8 := ⟨s.a + t.a, s.b + t.b, s.c + t.c, s.d + t.d, s.e + t.e, s.f + t.f, s.g + t.g, s.h + t.h⟩
/-- A word is taken in: its constant is added already. -/
def S8.step (s : S8) (kw : W32) : S8 :=
  ⟨s.h + big1 s.e + chW s.e s.f s.g + kw + (big0 s.a + majW s.a s.b s.c), s.a, s.b, s.c, s.d + (s.h + big1 s.e + chW s.e s.f s.g + kw), s.e, s.f, s.g⟩
def kTab : List W32 := [
  0x428a2f98#32, 0x71374491#32, 0xb5c0fbcf#32, 0xe9b5dba5#32, 0x3956c25b#32, 0x59f111f1#32, 0x923f82a4#32, 0xab1c5ed5#32,
  0xd807aa98#32, 0x12835b01#32, 0x243185be#32, 0x550c7dc3#32, 0x72be5d74#32, 0x80deb1fe#32, 0x9bdc06a7#32, 0xc19bf174#32,
  0xe49b69c1#32, 0xefbe4786#32, 0x0fc19dc6#32, 0x240ca1cc#32, 0x2de92c6f#32, 0x4a7484aa#32, 0x5cb0a9dc#32, 0x76f988da#32,
  0x983e5152#32, 0xa831c66d#32, 0xb00327c8#32, 0xbf597fc7#32, 0xc6e00bf3#32, 0xd5a79147#32, 0x06ca6351#32, 0x14292967#32,
  0x27b70a85#32, 0x2e1b2138#32, 0x4d2c6dfc#32, 0x53380d13#32, 0x650a7354#32, 0x766a0abb#32, 0x81c2c92e#32, 0x92722c85#32,
  0xa2bfe8a1#32, 0xa81a664b#32, 0xc24b8b70#32, 0xc76c51a3#32, 0xd192e819#32, 0xd6990624#32, 0xf40e3585#32, 0x106aa070#32,
  0x19a4c116#32, 0x1e376c08#32, 0x2748774c#32, 0x34b0bcb5#32, 0x391c0cb3#32, 0x4ed8aa4a#32, 0x5b9cca4f#32, 0x682e6ff3#32,
  0x748f82ee#32, 0x78a5636f#32, 0x84c87814#32, 0x8cc70208#32, 0x90befffa#32, 0xa4506ceb#32, 0xbef9a3f7#32, 0xc67178f2#32]
def s0 : S8 := ⟨0x6a09e667#32, 0xbb67ae85#32, 0x3c6ef372#32, 0xa54ff53a#32, 0x510e527f#32, 0x9b05688c#32, 0x1f83d9ab#32, 0x5be0cd19#32⟩
/-- The first n rounds. -/
def rounds (s : S8) (blk : List UInt8) : Nat → S8
  | 0 => s
  | n + 1 => (rounds s blk n).step (wAt (wordsTo blk 64) n + wAt kTab n)
/-- A whole block is taken in. -/
def S8.mix (s : S8) (blk : List UInt8) : S8 := s.plus (rounds s blk 64)
/-- What the other side adds in another order. -/
theorem step_spec (s : S8) (k w : W32) : s.step (w + k) =
    ⟨s.h + big1 s.e + chW s.e s.f s.g + k + w + big0 s.a + majW s.a s.b s.c, s.a, s.b, s.c, s.d + (s.h + big1 s.e + chW s.e s.f s.g + k + w), s.e, s.f, s.g⟩ := by
  unfold S8.step
  have h : s.h + big1 s.e + chW s.e s.f s.g + (w + k) = s.h + big1 s.e + chW s.e s.f s.g + k + w := by
    rw [BitVec.add_comm w k, ← BitVec.add_assoc]
  rw [h, ← BitVec.add_assoc]

/-! ### Blocks -/
/-- All whole blocks are taken in; and what is left. -/
def runB (s : S8) (l : List UInt8) : S8 × List UInt8 :=
  if h : 64 ≤ l.length then runB (s.mix (l.take 64)) (l.drop 64) else (s, l)
termination_by l.length
decreasing_by simp; omega
theorem runB_whole {s : S8} {l : List UInt8} (h : 64 ≤ l.length) : runB s l = runB (s.mix (l.take 64)) (l.drop 64) := by
  rw [runB, dif_pos h]
theorem runB_rest {s : S8} {l : List UInt8} (h : l.length < 64) : runB s l = (s, l) := by
  rw [runB, dif_neg (by omega)]
theorem runB_length (s : S8) (l : List UInt8) : (runB s l).2.length = l.length % 64 := by
  by_cases h : 64 ≤ l.length
  · rw [runB_whole h, runB_length (s.mix (l.take 64)) (l.drop 64)]
    simp only [List.length_drop]
    omega
  · rw [runB_rest (by omega)]
    show l.length = _
    omega
termination_by l.length
decreasing_by simp; omega
/-- Piece by piece, or at once. -/
theorem runB_append (s : S8) (a b : List UInt8) : runB (runB s a).1 ((runB s a).2 ++ b) = runB s (a ++ b) := by
  by_cases h : 64 ≤ a.length
  · rw [runB_whole h, runB_append (s.mix (a.take 64)) (a.drop 64) b, runB_whole (l := a ++ b) (by simp; omega)]
    rw [List.take_append_of_le_length h, List.drop_append_of_le_length h]
  · rw [runB_rest (l := a) (by omega)]
termination_by a.length
decreasing_by simp; omega

/-- The eight bytes of a number, the greatest first. -/
def be8 (n : Nat) : List UInt8 := [UInt8.ofNat (n / 2 ^ 56), UInt8.ofNat (n / 2 ^ 48), UInt8.ofNat (n / 2 ^ 40), UInt8.ofNat (n / 2 ^ 32), UInt8.ofNat (n / 2 ^ 24), UInt8.ofNat (n / 2 ^ 16), UInt8.ofNat (n / 2 ^ 8), UInt8.ofNat n]
/-- How many noughts stand between. -/
def padN (n : Nat) : Nat := (120 - (n + 1) % 64) % 64
/-- A text with all that the standard puts behind. -/
def padB (l : List UInt8) : List UInt8 := l ++ [128] ++ List.replicate (padN l.length) 0 ++ be8 (l.length * 8)
theorem padB_length (l : List UInt8) : (padB l).length % 64 = 0 := by
  simp only [padB, List.length_append, List.length_cons, List.length_nil, List.length_replicate, be8, padN]
  omega
def sumS (l : List UInt8) : S8 := (runB s0 (padB l)).1
/-- The four bytes of a word. -/
def be4 (x : W32) : List UInt8 := [UInt8.ofBitVec ((x >>> 24).setWidth 8), UInt8.ofBitVec ((x >>> 16).setWidth 8), UInt8.ofBitVec ((x >>> 8).setWidth 8), UInt8.ofBitVec (x.setWidth 8)]
def sumB (l : List UInt8) : List UInt8 := (sumS l).l.flatMap be4
/-- A figure of sixteen. -/
def figB (n : Nat) : UInt8 := if n < 10 then UInt8.ofNat (48 + n) else UInt8.ofNat (87 + n)
def hexB (l : List UInt8) : List UInt8 := l.flatMap fun b => [figB (b.toNat / 16), figB (b.toNat % 16)]
theorem hexB_length (l : List UInt8) : (hexB l).length = 2 * l.length := by
  induction l with
  | nil => rfl
  | cons b l ih => simp only [hexB, List.flatMap_cons, List.length_append, List.length_cons, List.length_nil] at ih ⊢; omega
/-- A sum, as it is told. -/
def sumT (l : List UInt8) : List UInt8 := (hexB (sumB l)).take 16
theorem sumB_length (l : List UInt8) : (sumB l).length = 32 := by simp [sumB, S8.l, be4]
theorem sumT_length (l : List UInt8) : (sumT l).length = 16 := by simp [sumT, hexB_length, sumB_length]

end Go.Proofs.YtkogdlncjciboaaDoor
