
/-
  DERIVED. THE OTHER SIDE's SUM: the walks of spec.l11Figures, spec.l11Padded.
-/
import Derived.Test.YtkogdlncjciboaaDoorShA
import Derived.Test.YtkogdlncjciboaaDoorJpG
import Derived.Deep.AppendLies
import Derived.Deep.RegionLaw
import Derived.Laws.IdiomStrings
import Derived.Lib.ConvBytes
import Derived.Deep.MidRow
namespace Go.Proofs.YtkogdlncjciboaaDoor
open Go.RowKit
set_option linter.unusedVariables false
set_option linter.unusedSimpArgs false

/-- A row of bytes of one's own. -/
def RowB (B : Nat) (w : World) (v : Value) (l : List UInt8) : Prop := w.ownsRow B 5 1 v l.length (Lib.byteCells l)

theorem fig_lit (n : Nat) (h : n < 16) : (⟨#[48, 49, 50, 51, 52, 53, 54, 55, 56, 57, 97, 98, 99, 100, 101, 102]⟩ : ByteArray)[n]'h = hexU n := by
  apply UInt8.toNat_inj.1
  have := hex_at n h
  exact Int.ofNat.inj this
theorem wrap8 (n : Nat) (h : n < 256) : IntKind.u8.wrap (n : Int) = (n : Int) := by simp [IntKind.wrap, IntKind.bits, IntKind.signed]; omega

set_option maxHeartbeats 2000000 in
theorem l11Figures_any (t : ByteArray) (w : World) (ht : t.size ≤ 1000) :
    Calls Tryd.prog 19 #[.string t] w fun e w' => ∃ u : ByteArray, e = .returned (.string u) ∧ u.data.toList = t.data.toList.flatMap (fun c => [hexU (c.toNat / 16), hexU (c.toNat % 16)]) ∧ Below w.heap.size w w' := by
  have hti : (t.size : Int) ≤ 1000 := by omega
  obtain ⟨i0, hi0, hz0, hz1, hz2⟩ := info_byte
  go_enter Tryd.func19, Tryd.ntmps19
  go_wp2_with fail
  go_loopw [4, 5] (fun sv iv wr => ∃ (j g cap : Nat) (l : List UInt8), j ≤ t.size ∧ iv = .int .i64 j ∧ sv = .slice (some ⟨g, 0, none⟩) l.length cap ∧ Hid (l = (t.data.toList.take j).flatMap (fun c => [hexU (c.toNat / 16), hexU (c.toNat % 16)])) ∧ Hid (l.length = 2 * j) ∧ Hid (RowB w.heap.size wr (.slice (some ⟨g, 0, none⟩) l.length cap) l) ∧ Hid (Below w.heap.size w wr)) (fun _ iv _ => t.size - (intOf iv).toNat)
  case atStart => exact ⟨0, w.heap.size, 0, [], Nat.zero_le _, rfl, rfl, rfl, rfl, World.ownsRow_made w #[] 0 (Nat.le_refl _) (Nat.zero_le _) rfl, (Below.refl _ _).alloc (Nat.le_refl _) _⟩
  case round =>
    obtain ⟨j, g, cap, l, hj, rfl, rfl, HL, HLN, HR, HB⟩ := hrel
    by_cases hlt : j < t.size
    · have hlti : (j : Int) < (t.size : Int) := by omega
      obtain ⟨c, hc⟩ : ∃ c, t[j] = c := ⟨_, rfl⟩
      have hc8 : (c.toNat : Int) < 256 := by have := c.toNat_lt; omega
      have h16 : c.toNat / 16 < 16 := by have := c.toNat_lt; omega
      have h15 : c.toNat % 16 < 16 := Nat.mod_lt _ (by omega)
      have hln : l.length ≤ 2000 := by have := HLN.out; omega
      obtain ⟨q, hq⟩ : ∃ q, c.toNat / 16 = q := ⟨_, rfl⟩
      obtain ⟨p, hp⟩ : ∃ p, c.toNat % 16 = p := ⟨_, rfl⟩
      have HQP : Hid (c.toNat / 16 = q ∧ c.toNat % 16 = p) := ⟨hq, hp⟩
      have hqi : (c.toNat : Int) / 16 = (q : Int) := by omega
      have hpi : (c.toNat : Int) % 16 = (p : Int) := by omega
      have hpt : ((c.toNat : Nat) : Int).tmod 16 = (p : Int) := by rw [Int.tmod_eq_emod_of_nonneg (by omega)]; exact hpi
      have hq16 : q < 16 := by omega
      have hp16 : p < 16 := by omega
      have hq16i : (q : Int) < 16 := by omega
      have hp16i : (p : Int) < 16 := by omega
      have hwq : IntKind.u8.wrap (q : Int) = (q : Int) := wrap8 q (by omega)
      have hwp : IntKind.u8.wrap (p : Int) = (p : Int) := wrap8 p (by omega)
      have hfq := fig_lit q hq16
      have hfp := fig_lit p hp16
      clear hq hp h16 h15
      go_wp2_with fail
      go_region_law (refine step_append_lies _ (by rfl) _ _ _ (by rfl) w.heap.size 5 i0 _ 1 1 Tryd.underlying24 hi0 hz0 hz1 hz2 rfl (by omega) (.slice (some ⟨g, 0, none⟩) l.length cap) l.length (Lib.byteCells l) (by rfl) (World.ownsRow.alloc HR.out _) ⟨wr.heap.size, 0, none⟩ 2 2 [.int .u8 ((hexU q).toNat : Int), .int .u8 ((hexU p).toNat : Int)] (by rfl) (by rfl) (World.news_of_block (cs := #[.int .u8 ((hexU q).toNat : Int), .int .u8 ((hexU p).toNat : Int)]) (t := 5) (fr := (0, 0)) (heap_alloc_new wr _)) (by simp [Value.oneCell']) (by omega) (by unfold maxLen; omega) (by omega) (by have := HB.out.size; simp; omega) (wr.heap.size + 1) (by simp) ?_; intro g' cap' w2 hown2 hgrow hat hlt2)
      all_goals
        have HR2 : Hid (RowB w.heap.size w2 (.slice (some ⟨g', 0, none⟩) (l ++ [hexU q, hexU p]).length cap') (l ++ [hexU q, hexU p])) := by
          have e : Lib.byteCells (l ++ [hexU q, hexU p]) = Lib.byteCells l ++ [.int .u8 ((hexU q).toNat : Int), .int .u8 ((hexU p).toNat : Int)] := by simp [Lib.byteCells]
          show World.ownsRow _ _ _ _ _ _ _
          rw [e, List.length_append]
          exact hown2
        have HL2 : Hid (l ++ [hexU q, hexU p] = (t.data.toList.take (j + 1)).flatMap (fun c => [hexU (c.toNat / 16), hexU (c.toNat % 16)])) := by
          show _ = _
          rw [take_snoc t j hlt, List.flatMap_append, hc, ← HL.out]
          simp [HQP.out.1, HQP.out.2]
        have HN2 : Hid ((l ++ [hexU q, hexU p]).length = 2 * (j + 1)) := by show _ = _; have := HLN.out; simp; omega
        have HB2 : Hid (Below w.heap.size w w2) := by
          have hb := HB.out
          refine ⟨hgrow.os.trans hb.os, hgrow.tape.trans hb.tape, hgrow.output.trans hb.output, by have := hgrow.size; have := hb.size; simp at *; omega, fun k hk => ?_⟩
          rw [hgrow.block k (by have := hb.size; simp; omega) (fun he => by have := (World.ownsRow.lt HR.out k he.symm).1; omega)]
          exact (Below.heap_alloc _ _ _ (by have := hb.size; show k < wr.heap.size; omega)).trans (hb.block k hk)
        have HLL : Hid (l.length + 2 = (l ++ [hexU q, hexU p]).length) := by show _ = _; simp
        clear hown2 hgrow hat HL HLN HR HB HQP hc
        go_wp2_with fail
        exact ⟨⟨j + 1, g', cap', l ++ [hexU q, hexU p], by omega, by go_num, by rw [← HLL.out], HL2, HN2, HR2, HB2⟩, by simp [intOf]; omega⟩
    · obtain rfl : j = t.size := by omega
      have hlf : l = t.data.toList.flatMap (fun c => [hexU (c.toNat / 16), hexU (c.toNat % 16)]) := by
        have := HL.out
        rw [List.take_of_length_le (by rw [Array.length_toList]; exact Nat.le_refl _)] at this
        exact this
      have HLF : Hid (l = t.data.toList.flatMap (fun c => [hexU (c.toNat / 16), hexU (c.toNat % 16)])) := hlf
      have HCV := run_convert_bytes_back (P := Tryd.prog) wr 24 9 5 ⟨g, 0, none⟩ cap l Tryd.underlying24 Tryd.underlying5 Tryd.underlying9 (fun k hk => World.ownsRow.cells HR.out rfl k _ (by simp [Lib.byteCells, hk]))
      clear hlf HL HLN HR
      go_wp2_with fail
      go_ret
      exact ⟨_, rfl, HLF.out, HB.out⟩

end Go.Proofs.YtkogdlncjciboaaDoor
