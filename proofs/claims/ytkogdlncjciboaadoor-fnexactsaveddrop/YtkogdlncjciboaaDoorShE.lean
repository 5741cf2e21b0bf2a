
/-
  DERIVED. THE BYTES OF A NUMBER: the walk of impl.bytesOf.
-/
import Derived.Test.YtkogdlncjciboaaDoorShD
import Derived.Laws.IdiomStrings
namespace Go.Proofs.YtkogdlncjciboaaDoor
open Go.RowKit
set_option linter.unusedVariables false
set_option linter.unusedSimpArgs false

/-- The last c bytes of a number, the greatest first. -/
def beN (n c : Nat) : List UInt8 := (List.range c).map fun i => UInt8.ofNat (n / 256 ^ (c - 1 - i))
theorem beN_len (n c : Nat) : (beN n c).length = c := by simp [beN]
theorem beN_eight (n : Nat) : beN n 8 = be8 n := by
  show [UInt8.ofNat (n / 2 ^ 56), UInt8.ofNat (n / 2 ^ 48), UInt8.ofNat (n / 2 ^ 40), UInt8.ofNat (n / 2 ^ 32), UInt8.ofNat (n / 2 ^ 24), UInt8.ofNat (n / 2 ^ 16), UInt8.ofNat (n / 2 ^ 8), UInt8.ofNat (n / 2 ^ 0)] = _
  rw [Nat.pow_zero, Nat.div_one]
  rfl
theorem beN_four (x : W32) : beN x.toNat 4 = be4 x := by
  have e : ∀ k, UInt8.ofNat (x.toNat / 2 ^ k) = UInt8.ofBitVec ((x >>> k).setWidth 8) := fun k => by
    apply UInt8.toNat_inj.1
    show (x.toNat / 2 ^ k) % 256 = ((x >>> k).setWidth 8).toNat
    rw [BitVec.toNat_setWidth, BitVec.toNat_ushiftRight, Nat.shiftRight_eq_div_pow]
  have e0 : UInt8.ofNat x.toNat = UInt8.ofBitVec (x.setWidth 8) := by
    have := e 0
    simpa using this
  show [UInt8.ofNat (x.toNat / 2 ^ 24), UInt8.ofNat (x.toNat / 2 ^ 16), UInt8.ofNat (x.toNat / 2 ^ 8), UInt8.ofNat (x.toNat / 2 ^ 0)] = _
  rw [e 24, e 16, e 8, Nat.pow_zero, Nat.div_one, e0]
  rfl
/-- The bytes while they are laid: the last j ones. -/
def beL (n c j : Nat) : List UInt8 := (List.range c).map fun i => if c - 1 - i < j then UInt8.ofNat (n / 256 ^ (c - 1 - i)) else 0
def byteV (b : UInt8) : Value := .int .u8 (b.toNat : Int)
theorem beL_put (n c j : Nat) (h : j < c) : ((beL n c j).map byteV).toArray.setIfInBounds (c - 1 - j) (byteV (UInt8.ofNat (n / 256 ^ j))) = ((beL n c (j + 1)).map byteV).toArray := by
  rw [List.setIfInBounds_toArray]
  congr 1
  apply List.ext_getElem?
  intro i
  rw [List.getElem?_set]
  simp only [beL, List.length_map, List.length_range, List.map_map, List.getElem?_map]
  by_cases hi : i < c
  · rw [List.getElem?_range hi]
    by_cases hji : c - 1 - j = i
    · have e : c - 1 - i = j := by omega
      rw [if_pos hji, if_pos (by omega)]
      simp [e]
    · rw [if_neg hji]
      have hne : c - 1 - i ≠ j := by omega
      simp only [Option.map_some, Function.comp]
      by_cases h2 : c - 1 - i < j
      · rw [if_pos h2, if_pos (by omega)]
      · rw [if_neg h2, if_neg (by omega)]
  · rw [if_neg (by omega), List.getElem?_eq_none (by simp; omega)]
    rfl
theorem beL_end (n c : Nat) : beL n c c = beN n c := by
  unfold beL beN
  apply List.map_congr_left
  intro i hi
  rw [if_pos (by simp at hi; omega)]

set_option maxHeartbeats 2000000 in
theorem bytesOf_any (n c : Nat) (w : World) (hcc : c = 4 ∨ c = 8) (hn : n < 18446744073709551616) :
    Calls Tryd.prog 40 #[.int .u64 (n : Int), .int .i64 (c : Int)] w fun e w' => ∃ s : ByteArray, e = .returned (.string s) ∧ s.data.toList = beN n c ∧ Below w.heap.size w w' := by
  have hc0 : 0 < c := by omega
  have hc : c ≤ 8 := by omega
  have hci : (c : Int) ≤ 8 := by omega
  have HMD : Hid (madeCells #[Value.int .u8 0] c = ((beL n c 0).map byteV).toArray) := by rcases hcc with rfl | rfl <;> (show _ = _; simp [madeCells, beL, byteV, List.range_succ, show Array.range 4 = #[0, 1, 2, 3] by rfl, show Array.range 8 = #[0, 1, 2, 3, 4, 5, 6, 7] by rfl])
  obtain ⟨i, hi, hz, hs, hby⟩ : ∃ i, Tryd.prog.info? 5 = some i ∧ i.zero = some (.int .u8 0) ∧ i.size = 1 ∧ i.bytes = 1 := by
    have h : (Tryd.prog.info? 5).map (fun i => (i.zero, i.size, i.bytes)) = some (some (.int .u8 0), 1, 1) := by kernel_rfl
    obtain ⟨i, h1, h2⟩ := Option.map_eq_some_iff.1 h
    simp only [Prod.mk.injEq] at h2
    exact ⟨i, h1, h2.1, h2.2.1, h2.2.2⟩
  have hmk := run_make (P := Tryd.prog) w 24 5 i _ Tryd.underlying24 hi hz .i64 .i64 (c : Int) (c : Int) (by omega) (by omega) (by rw [hby]; omega) (by omega)
  rw [hs, Int.toNat_natCast] at hmk
  clear hi hz hs hby
  go_enter Tryd.func40, Tryd.ntmps40
  go_wp2_with fail
  clear hmk
  rw [HMD.out]
  go_loopw [0, 11] (fun nv iv wr => ∃ (j m : Nat), j ≤ c ∧ iv = .int .i64 j ∧ nv = .int .u64 m ∧ Hid (m = n / 256 ^ j) ∧ Hid (Owns wr w.heap.size ((beL n c j).map byteV).toArray 5) ∧ Hid (Below w.heap.size w wr)) (fun _ iv _ => c - (intOf iv).toNat)
  case atStart => exact ⟨0, n, Nat.zero_le _, rfl, rfl, (by show n = _; simp), Owns.made w _ _, (Below.refl _ _).alloc (Nat.le_refl _) _⟩
  case round =>
    obtain ⟨j, m, hj, rfl, rfl, HM, HO, HB⟩ := hrel
    by_cases hlt : j < c
    · have hlti : (j : Int) < (c : Int) := by omega
      have hm64 : m < 18446744073709551616 := by rw [HM.out]; exact Nat.lt_of_le_of_lt (Nat.div_le_self _ _) hn
      have hm64i : (m : Int) < 18446744073709551616 := by omega
      obtain ⟨q, hq⟩ : ∃ q, q = c - 1 - j := ⟨_, rfl⟩
      have hqi : (c : Int) - 1 - (j : Int) = (q : Int) := by omega
      have hq8 : (q : Int) < (c : Int) := by omega
      have hqc : ∃ x, wr.cell? ⟨w.heap.size, q, none⟩ = some x := by
        rw [HO.out.cell]
        have hl : q < ((beL n c j).map byteV).toArray.size := by simp [beL]; omega
        exact ⟨_, Array.getElem?_eq_getElem hl⟩
      obtain ⟨x0, c0⟩ := hqc
      have f0 : wr.frozen? ⟨w.heap.size, q, none⟩ = false := HO.out.frozen _
      have HP : Hid (Owns (wr.setCell ⟨w.heap.size, q, none⟩ (.int .u8 ((m : Int) % 256))) w.heap.size ((beL n c (j + 1)).map byteV).toArray 5 ∧ Below w.heap.size w (wr.setCell ⟨w.heap.size, q, none⟩ (.int .u8 ((m : Int) % 256)))) := by
        refine ⟨?_, HB.out.setCell (Nat.le_refl _) _⟩
        have h1 := HO.out.set q (byteV (UInt8.ofNat (n / 256 ^ j)))
        rw [hq, beL_put n c j hlt, ← hq, ← HM.out] at h1
        have e : byteV (UInt8.ofNat m) = .int .u8 ((m : Int) % 256) := by
          unfold byteV
          rw [UInt8.toNat_ofNat']
          congr 1
        rw [e] at h1
        exact h1
      have hmd : (m : Int) / 256 = ((m / 256 : Nat) : Int) := by omega
      have HM2 : Hid (m / 256 = n / 256 ^ (j + 1)) := by show _ = _; rw [HM.out, Nat.div_div_eq_div_mul, ← Nat.pow_succ]
      obtain ⟨m2, hm2⟩ : ∃ m2, m / 256 = m2 := ⟨_, rfl⟩
      rw [hm2] at hmd HM2
      clear HM HO HB hq hm2
      go_wp2_with fail
      exact ⟨⟨j + 1, m2, by omega, by go_num, rfl, HM2, HP.out.1, HP.out.2⟩, by simp [intOf]; omega⟩
    · obtain rfl : j = c := by omega
      have HCV := run_convert_bytes_back (P := Tryd.prog) wr 24 9 5 ⟨w.heap.size, 0, none⟩ j (beN n j) Tryd.underlying24 Tryd.underlying5 Tryd.underlying9 (fun k hk => by
        rw [Addr.add_mid, Nat.zero_add, HO.out.cell, beL_end, List.getElem?_toArray, List.getElem?_map, List.getElem?_eq_getElem hk]; rfl)
      rw [beN_len] at HCV
      clear HO
      go_wp2_with fail
      go_ret
      exact ⟨_, rfl, rfl, HB.out⟩

end Go.Proofs.YtkogdlncjciboaaDoor
