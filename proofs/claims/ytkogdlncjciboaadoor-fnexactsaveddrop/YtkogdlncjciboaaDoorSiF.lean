
/-
  DERIVED. THE OTHER SIDE's SUM: the walk of spec.l11Sum.
-/
import Derived.Test.YtkogdlncjciboaaDoorSiD
import Derived.Test.YtkogdlncjciboaaDoorSiE
import Derived.Test.YtkogdlncjciboaaDoorShH
namespace Go.Proofs.YtkogdlncjciboaaDoor
open Go.RowKit
set_option linter.unusedVariables false
set_option linter.unusedSimpArgs false

/-- A block of the bytes. -/
theorem blk_at {L : List UInt8} {q : Nat} (h : q + 64 ≤ L.length) {i : Nat} (hi : i < 64) : bAt ((L.drop q).take 64) i = bAt L (q + i) := by
  unfold bAt
  rw [List.getD_eq_getElem?_getD, List.getD_eq_getElem?_getD, List.getElem?_take, if_pos hi, List.getElem?_drop]
theorem blk_len {L : List UInt8} {q : Nat} (h : q + 64 ≤ L.length) : ((L.drop q).take 64).length = 64 := by simp; omega
theorem blk_on {L : List UInt8} {q : Nat} (s : S8) (h : q + 64 ≤ L.length) : runB s (L.drop q) = runB (s.mix ((L.drop q).take 64)) (L.drop (q + 64)) := by
  rw [runB_whole (by simp; omega), List.drop_drop]

theorem wrap_u8 (v : Int) : IntKind.u8.wrap v = v % 256 := by simp [IntKind.wrap, IntKind.bits, IntKind.signed]

set_option maxHeartbeats 4000000 in
set_option maxRecDepth 100000 in
theorem l11Sum_any (t : ByteArray) (w : World) (ht : t.size ≤ 67108864) :
    Calls Tryd.prog 20 #[.string t] w fun e w' => e = .returned (.string (txB (sumB t.data.toList))) ∧ Below w.heap.size w w' := by
  have hti : (t.size : Int) ≤ 67108864 := by omega
  obtain ⟨i0, hi0, hz0, hz1, hz2⟩ := info_byte
  have HS : Hid (WAt (w.alloc (.cells (wCells s0.l).toArray 53)) w.heap.size s0.l) := by
    intro i hi
    have h1 : World.cell? (w.alloc (.cells (wCells s0.l).toArray 53)) ⟨w.heap.size, i, none⟩ = (wCells s0.l).toArray[i]? := World.cell?_alloc_new w _ _ _
    rw [h1, List.getElem?_toArray]
    exact wCells_at _ _ hi
  go_enter Tryd.func20, Tryd.ntmps20
  go_wp2_with fail
  refine (l11Padded_any t _ ht).mono ?_
  rintro e w1 ⟨g, cap, rfl, hr, hb⟩
  have HH1 : Hid (WAt w1 w.heap.size s0.l) := WAt.on HS.out hb
  have HB1 : Hid (Below w.heap.size w w1) := ((Below.refl _ _).alloc (Nat.le_refl _) _).trans (hb.mono (by simp))
  have hLB : (padB t.data.toList).length ≤ 67109000 := by
    have h1 : t.data.toList.length = t.size := Array.length_toList
    have h2 : padN t.data.toList.length < 64 := by unfold padN; omega
    simp only [padB, be8, List.length_append, List.length_cons, List.length_nil, List.length_replicate]
    omega
  have hL64 := padB_length t.data.toList
  obtain ⟨L, hL⟩ : ∃ L, padB t.data.toList = L := ⟨_, rfl⟩
  have HSUM : Hid (sumB t.data.toList = (runB s0 L).1.l.flatMap be4) := by show (sumS t.data.toList).l.flatMap be4 = _; unfold sumS; rw [hL]
  rw [hL] at hr hLB hL64
  rw [hL]
  have hcl := hr.le
  have HBY : Hid (BytesAt w1 g 0 L) := hr.bytes
  obtain ⟨N, hN⟩ : ∃ N, L.length = N := ⟨_, rfl⟩
  rw [hN] at hLB hL64 hcl
  rw [hN]
  have HN : Hid (L.length = N) := hN
  have HC : Hid (N ≤ 67109000 ∧ N % 64 = 0 ∧ N ≤ cap) := ⟨hLB, hL64, hcl⟩
  clear hLB hL64 hL hr hb hN hcl HS
  go_wp2_with fail
  go_loopw [3, 5] (fun hv iv wr => ∃ (q : Nat) (s : S8) (hb hcap : Nat), q ≤ N ∧ q % 64 = 0 ∧ iv = .int .i64 q ∧ hv = .slice (some ⟨hb, 0, none⟩) 8 hcap ∧ Hid (WAt wr hb s.l) ∧ Hid (runB s (L.drop q) = runB s0 L) ∧ Hid (Below w1.heap.size w1 wr)) (fun _ iv _ => N - (intOf iv).toNat)
  case atStart => exact ⟨0, s0, w.heap.size, 8, Nat.zero_le _, rfl, rfl, rfl, HH1, rfl, Below.refl _ _⟩
  case round =>
    clear HH1
    obtain ⟨q, s, hb, hcap, hq, hq64, rfl, rfl, HH, HRUN, HB⟩ := hrel
    have HQ : Hid (q % 64 = 0) := hq64
    obtain ⟨h1, h2, h3⟩ := HC.out
    by_cases hlt : q < N
    · have hle : q + 64 ≤ N := by omega
      have HLE : Hid (q + 64 ≤ L.length) := by show _ ≤ _; rw [HN.out]; exact hle
      have hlti : (q : Int) < (N : Int) := by omega
      obtain ⟨q2, hq2⟩ : ∃ q2, q + 64 = q2 := ⟨_, rfl⟩
      have HQ2 : Hid (q + 64 = q2) := hq2
      have j1 : (q : Int) + 64 = (q2 : Int) := by omega
      have j2 : q ≤ q2 := by omega
      have j3 : q2 ≤ cap := by omega
      have j4 : (q2 : Int) ≤ (cap : Int) := by omega
      have j5 : (q : Int) ≤ (q2 : Int) := by omega
      have j6 : IntKind.i64.wrap (q2 : Int) = (q2 : Int) := wrap64 _ (by omega)
      have j7 : q2 - q = 64 := by omega
      have j8 : (q2 : Int) - (q : Int) = 64 := by omega
      clear hq64 h1 h2 h3 hq2 hle hq
      go_wp2_with fail
      refine (l11Block_any s hb hcap ((L.drop q).take 64) g q _ wr HH.out (blk_len HLE.out) (fun i hi => by
        rw [blk_len HLE.out] at hi
        rw [blk_at HLE.out hi]
        have h1 := HBY.out (q + i) (by have := HLE.out; omega)
        rw [Nat.zero_add] at h1
        exact cell_on HB.out h1)).mono ?_
      rintro e w2 ⟨g2, cap2, rfl, hw2, hb2⟩
      have HH2 : Hid (WAt w2 g2 (s.mix ((L.drop q).take 64)).l) := hw2
      have HR2 : Hid (runB (s.mix ((L.drop q).take 64)) (L.drop q2) = runB s0 L) := by
        show _ = _
        rw [← HRUN.out, ← HQ2.out, blk_on s HLE.out]
      have HB2 : Hid (Below w1.heap.size w1 w2) := HB.out.trans (hb2.mono HB.out.size)
      clear hw2 hb2 HH HRUN HB
      go_wp2_with fail
      exact ⟨⟨q2, _, g2, cap2, by have := HLE.out; have := HN.out; have := HQ2.out; omega, by have := HQ.out; have := HQ2.out; omega, rfl, rfl, HH2, HR2, HB2⟩, by have := HQ2.out; simp [intOf]; omega⟩
    · have hqN : q = N := by omega
      have HSE : Hid (sumB t.data.toList = s.l.flatMap be4) := by
        have h4 := HRUN.out
        rw [hqN, ← HN.out, List.drop_length, runB_rest (by simp)] at h4
        show _ = _
        rw [HSUM.out, ← h4]
      have HBW : Hid (Below w.heap.size w wr) := HB1.out.trans (HB.out.mono HB1.out.size)
      have hnlt : ¬ ((q : Int) < (N : Int)) := by omega
      clear hq64 h1 h2 h3 hqN hq hlt HRUN HB HQ HC HN HBY HSUM HB1
      go_wp2_with fail
      go_loopw [6, 7] (fun sv iv wl => ∃ (j g cap : Nat) (l : List UInt8), j ≤ 8 ∧ iv = .int .i64 j ∧ sv = .slice (some ⟨g, 0, none⟩) l.length cap ∧ Hid (l = (s.l.take j).flatMap be4) ∧ Hid (l.length = 4 * j) ∧ Hid (RowB wr.heap.size wl (.slice (some ⟨g, 0, none⟩) l.length cap) l) ∧ Hid (Below wr.heap.size wr wl)) (fun _ iv _ => 8 - (intOf iv).toNat)
      case atStart => exact ⟨0, wr.heap.size, 0, [], Nat.zero_le _, rfl, rfl, rfl, rfl, World.ownsRow_made wr #[] 0 (Nat.le_refl _) (Nat.zero_le _) rfl, (Below.refl _ _).alloc (Nat.le_refl _) _⟩
      case round =>
        rename World => wl
        obtain ⟨j, g, cap, l, hj, rfl, rfl, HL, HLN, HR, HBL⟩ := hrel
        by_cases hlt : j < 8
        · have hlti : (j : Int) < 8 := by omega
          obtain ⟨x, hx⟩ : ∃ x, wAt s.l j = x := ⟨_, rfl⟩
          have HX : Hid (s.l[j]'hlt = x) := by
            show _ = _
            rw [← hx]
            unfold wAt
            rw [List.getD_eq_getElem?_getD, List.getElem?_eq_getElem hlt]
            rfl
          have cx : wl.cell? ⟨hb, j, none⟩ = some (.int .u32 (wI x)) := by rw [← hx]; exact (WAt.on HH.out HBL.out) j hlt
          have hln : l.length ≤ 32 := by have := HLN.out; omega
          obtain ⟨y0, hy0⟩ : ∃ y, UInt8.ofBitVec ((x >>> 24).setWidth 8) = y := ⟨_, rfl⟩
          obtain ⟨y1, hy1⟩ : ∃ y, UInt8.ofBitVec ((x >>> 16).setWidth 8) = y := ⟨_, rfl⟩
          obtain ⟨y2, hy2⟩ : ∃ y, UInt8.ofBitVec ((x >>> 8).setWidth 8) = y := ⟨_, rfl⟩
          obtain ⟨y3, hy3⟩ : ∃ y, UInt8.ofBitVec (x.setWidth 8) = y := ⟨_, rfl⟩
          have HY : Hid (be4 x = [y0, y1, y2, y3]) := by show _ = _; rw [← hy0, ← hy1, ← hy2, ← hy3]; rfl
          have s24 : wI x / (16777216 : Int) = wI (x >>> 24) := wI_shr x 24
          have s16 : wI x / (65536 : Int) = wI (x >>> 16) := wI_shr x 16
          have s8 : wI x / (256 : Int) = wI (x >>> 8) := wI_shr x 8
          have e0 : IntKind.u8.wrap (wI x / (16777216 : Int)) = ((y0.toNat : Nat) : Int) := by rw [s24, wrap_u8, wI_byte, hy0]
          have e1 : IntKind.u8.wrap (wI x / (65536 : Int)) = ((y1.toNat : Nat) : Int) := by rw [s16, wrap_u8, wI_byte, hy1]
          have e2 : IntKind.u8.wrap (wI x / (256 : Int)) = ((y2.toNat : Nat) : Int) := by rw [s8, wrap_u8, wI_byte, hy2]
          have e3 : IntKind.u8.wrap (wI x) = ((y3.toNat : Nat) : Int) := by rw [wrap_u8, wI_byte, hy3]
          clear s24 s16 s8
          clear hx hy0 hy1 hy2 hy3
          go_wp2_with fail
          go_region_law (refine step_append_lies _ (by rfl) _ _ _ (by rfl) wr.heap.size 5 i0 _ 1 1 Tryd.underlying24 hi0 hz0 hz1 hz2 rfl (by omega) (.slice (some ⟨g, 0, none⟩) l.length cap) l.length (Lib.byteCells l) (by rfl) (World.ownsRow.alloc HR.out _) ⟨wl.heap.size, 0, none⟩ 4 4 [.int .u8 (y0.toNat : Int), .int .u8 (y1.toNat : Int), .int .u8 (y2.toNat : Int), .int .u8 (y3.toNat : Int)] (by rfl) (by rfl) (World.news_of_block (cs := #[.int .u8 (y0.toNat : Int), .int .u8 (y1.toNat : Int), .int .u8 (y2.toNat : Int), .int .u8 (y3.toNat : Int)]) (t := 5) (fr := (0, 0)) (heap_alloc_new wl _)) (by simp [Value.oneCell']) (by omega) (by unfold maxLen; omega) (by omega) (by have := HBL.out.size; simp; omega) (wl.heap.size + 1) (by simp) ?_; intro g' cap' w2 hown2 hgrow hat hlt2)
          all_goals
            have HR2 : Hid (RowB wr.heap.size w2 (.slice (some ⟨g', 0, none⟩) (l ++ [y0, y1, y2, y3]).length cap') (l ++ [y0, y1, y2, y3])) := by
              have e : Lib.byteCells (l ++ [y0, y1, y2, y3]) = Lib.byteCells l ++ [.int .u8 (y0.toNat : Int), .int .u8 (y1.toNat : Int), .int .u8 (y2.toNat : Int), .int .u8 (y3.toNat : Int)] := by simp [Lib.byteCells]
              show World.ownsRow _ _ _ _ _ _ _
              rw [e, List.length_append]
              exact hown2
            have HL2 : Hid (l ++ [y0, y1, y2, y3] = (s.l.take (j + 1)).flatMap be4) := by
              show _ = _
              rw [flat_take s.l j hlt, ← HL.out, HX.out, HY.out]
            have HN2 : Hid ((l ++ [y0, y1, y2, y3]).length = 4 * (j + 1)) := by show _ = _; have := HLN.out; simp; omega
            have HB2 : Hid (Below wr.heap.size wr w2) := below_grown (o := .cells #[.int .u8 (y0.toNat : Int), .int .u8 (y1.toNat : Int), .int .u8 (y2.toNat : Int), .int .u8 (y3.toNat : Int)] 5) HBL.out (Nat.le_refl _) ⟨hgrow.os, hgrow.tape, hgrow.output, hgrow.size, hgrow.block⟩ (fun k hk => (World.ownsRow.lt HR.out k hk).1)
            have HLL : Hid (l.length + 4 = (l ++ [y0, y1, y2, y3]).length) := by show _ = _; simp
            clear hown2 hgrow hat HL HLN HR HBL HX HY cx e0 e1 e2 e3
            go_wp2_with fail
            exact ⟨⟨j + 1, g', cap', l ++ [y0, y1, y2, y3], by omega, by go_num, by rw [← HLL.out], HL2, HN2, HR2, HB2⟩, by simp [intOf]; omega⟩
        · obtain rfl : j = 8 := by omega
          have HLF : Hid (l = sumB t.data.toList) := by
            show _ = _
            rw [HSE.out, HL.out]
            rfl
          have HBE : Hid (Below w.heap.size w wl) := HBW.out.trans (HBL.out.mono HBW.out.size)
          have HCV := run_convert_bytes_back (P := Tryd.prog) wl 24 9 5 ⟨g, 0, none⟩ cap l Tryd.underlying24 Tryd.underlying5 Tryd.underlying9 (fun k hk => World.ownsRow.cells HR.out rfl k _ (by simp [Lib.byteCells, hk]))
          clear HL HLN HR HBL HBW HSE HH hlt
          go_wp2_with fail
          go_ret
          exact ⟨by rw [← HLF.out]; rfl, HBE.out⟩

end Go.Proofs.YtkogdlncjciboaaDoor
